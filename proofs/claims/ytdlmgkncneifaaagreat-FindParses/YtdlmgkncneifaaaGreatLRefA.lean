/- The reference: IsLetter, IsNumeral, IsName, EachLabel, CheckLabels. -/
import Derived.Test.YtdlmgkncneifaaaGreatProg
import Derived.Test.YtdlmgkncneifaaaGreatKit
import Derived.Test.YtdlmgkncneifaaaGreatLSpec
import Derived.Test.YtdlmgkncneifaaaGreatReg
import Derived.Test.YtdlmgkncneifaaaGreatLRow
import Derived.Test.YtdlmgkncneifaaaGreatLChk
import Derived.BigQuiet
set_option linter.unusedVariables false
set_option linter.unusedSimpArgs false
namespace Go.Proofs.YtdlmgkncneifaaaGreat.Lb
open Go.RowKit
attribute [local go_sem] bs_size bs_toList bs_append bs_get bs_extract

set_option maxHeartbeats 400000 in
theorem rIsNumeral_any (c : UInt8) (w : World) : Calls Tryz.prog 64 #[.int .u8 (c.toNat : Int)] w fun e w' => e = .returned (.bool (digB c)) ∧ w' = w := by
  have hc := c.toNat_lt
  by_cases h1 : 48 ≤ (c.toNat : Int)
  all_goals
    go_enter Tryz.func64, Tryz.ntmps64
    go_wp2
    go_ret
    exact ⟨ret_bool (Eq.symm (digB_eq (by simp; omega))), rfl⟩

set_option maxHeartbeats 400000 in
theorem rIsLetter_any (c : UInt8) (w : World) : Calls Tryz.prog 63 #[.int .u8 (c.toNat : Int)] w fun e w' => e = .returned (.bool (letB c)) ∧ w' = w := by
  have hc := c.toNat_lt
  go_enter Tryz.func63, Tryz.ntmps63
  go_wp2
  all_goals
    go_ret
    exact ⟨ret_bool (Eq.symm (letB_eq (by simp; omega))), rfl⟩

set_option maxHeartbeats 1000000 in
theorem rIsName_any (s : List UInt8) (w : World) (hs : s.length ≤ maxLen) : Calls Tryz.prog 51 #[.string (bs s)] w fun e w' => e = .returned (.bool (nameB s)) ∧ w' = w := by
  unfold maxLen at hs
  go_enter Tryz.func51, Tryz.ntmps51
  go_wp2
  go_loop [3] (fun i => ∃ k : Nat, k ≤ s.length ∧ i = .int .i64 k ∧ Hid (∀ j (hj : j < s.length), j < k → letB s[j] = true ∨ (digB s[j] = true ∧ j ≠ 0))) (fun i => s.length - (intOf i).toNat)
  case atStart => exact ⟨0, by omega, rfl, hide (fun j _ h => by omega)⟩
  case round =>
    obtain ⟨k, hk, rfl, H⟩ := hrel
    by_cases hlt : k < s.length
    · cases hl : letB s[k] with
      | true =>
        have HL := hide hl
        clear hl
        go_wp2_with (go_at_call 63; refine (rIsLetter_any _ _).mono ?_; rintro e w' ⟨rfl, rfl⟩; rw [HL.out])
        go_round
        case rel => exact ⟨k + 1, by omega, by go_num, hide (fun j hj h => by
          by_cases e : j = k
          · subst e; exact .inl HL.out
          · exact H.out j hj (by omega))⟩
        case measure => simp [intOf]; omega
      | false =>
        have HL := hide hl
        clear hl
        by_cases h0 : k = 0
        · subst h0
          have HN : Hid (nameB s = false) := nameB_no (fun h => by
            rcases h.2.2.1 0 hlt with h1 | h1
            · rw [HL.out] at h1; cases h1
            · have := h.2.2.2; rw [show s.getD 0 0 = s[0] by simp [List.getD, hlt], h1] at this; cases this)
          go_wp2_with (go_at_call 63; refine (rIsLetter_any _ _).mono ?_; rintro e w' ⟨rfl, rfl⟩; rw [HL.out])
          go_ret
          exact ⟨ret_bool HN.out.symm, rfl⟩
        · have h0' : ((k : Int) == 0) = false := beq_eq_false_iff_ne.2 (by omega)
          cases hg : digB s[k] with
          | true =>
            have HG := hide hg
            clear hg
            go_wp2_with (first | (go_at_call 63; refine (rIsLetter_any _ _).mono ?_; rintro e w' ⟨rfl, rfl⟩; rw [HL.out]) | (go_at_call 64; refine (rIsNumeral_any _ _).mono ?_; rintro e w' ⟨rfl, rfl⟩; rw [HG.out]))
            go_round
            case rel => exact ⟨k + 1, by omega, by go_num, hide (fun j hj h => by
              by_cases e : j = k
              · subst e; exact .inr ⟨HG.out, h0⟩
              · exact H.out j hj (by omega))⟩
            case measure => simp [intOf]; omega
          | false =>
            have HG := hide hg
            clear hg
            have HN : Hid (nameB s = false) := nameB_no (fun h => by have := h.2.2.1 k hlt; rw [HL.out, HG.out] at this; simp at this)
            go_wp2_with (first | (go_at_call 63; refine (rIsLetter_any _ _).mono ?_; rintro e w' ⟨rfl, rfl⟩; rw [HL.out]) | (go_at_call 64; refine (rIsNumeral_any _ _).mono ?_; rintro e w' ⟨rfl, rfl⟩; rw [HG.out]))
            go_ret
            exact ⟨ret_bool HN.out.symm, rfl⟩
    · by_cases h1 : 1 ≤ s.length
      · have h1' : (1 : Int) ≤ s.length := by omega
        by_cases h2 : s.length ≤ 40
        · have h2' : (s.length : Int) ≤ 40 := by omega
          have HN : Hid (nameB s = true) := (nameB_iff s).2 ⟨h1, h2, fun j hj => (H.out j hj (by omega)).imp id (·.1), by
            have h0 : 0 < s.length := h1
            rw [show s.getD 0 0 = s[0] by simp [List.getD, h0]]
            rcases H.out 0 h0 (by omega) with h | ⟨_, h⟩
            · cases e : digB s[0] with
              | false => rfl
              | true => rw [let_dig _ e] at h; cases h
            · exact absurd rfl h⟩
          go_wp2
          go_ret
          exact ⟨ret_bool (by rw [HN.out]), rfl⟩
        · have h2' : ¬ (s.length : Int) ≤ 40 := by omega
          have HN : Hid (nameB s = false) := nameB_no (fun h => h2 h.2.1)
          go_wp2
          go_ret
          exact ⟨ret_bool (by rw [HN.out]), rfl⟩
      · have h1' : ¬ (1 : Int) ≤ s.length := by omega
        have HN : Hid (nameB s = false) := nameB_no (fun h => h1 h.1)
        go_wp2
        go_ret
        exact ⟨ret_bool (by rw [HN.out]), rfl⟩

/-- What EachLabel says: least is 1, or 0 where empty values may be there. -/
def eachTwice (least : Nat) (l : List Lab) : Nat := if eachErr least l = 0 then (if twiceB l = false then 0 else 6) else eachErr least l
theorem eachTwice_err {least : Nat} {l : List Lab} (h : eachErr least l ≠ 0) : eachTwice least l = eachErr least l := by unfold eachTwice; rw [if_neg h]

set_option maxRecDepth 20000 in
set_option maxHeartbeats 4000000 in
theorem rEachLabel_any (w : World) (v : Value) (ls : List Lab) (empty : Bool) (hv : readsLabels w w.heap.size v ls) (hlen : ls.length ≤ 9223372036854775807) (hin : lensOk ls) :
    Calls Tryz.prog 33 #[v, .bool empty] w fun e w' => e = .returned (.int .i64 (eachTwice (if empty = true then 0 else 1) ls)) ∧ ∃ n, w' = w.drewN n := by
  obtain ⟨ao, cp, rfl, hcells⟩ := id hv
  have HI := hide hin
  clear hin hv
  obtain ⟨least, HL0⟩ : ∃ least : Nat, Hid ((if empty = true then 0 else 1) = least) := ⟨_, hide rfl⟩
  rw [HL0.out]
  by_cases h20 : ls.length ≤ 20
  · go_enter Tryz.func33, Tryz.ntmps33
    go_wp2
    go_loop [5] (fun i => ∃ k : Nat, k ≤ ls.length ∧ i = .int .i64 k ∧ Hid (∀ j (h : j < ls.length), j < k → labErr least ls[j] = 0)) (fun i => ls.length - (intOf i).toNat)
    case atStart => exact ⟨0, by omega, rfl, hide (fun j _ h => by omega)⟩
    case round =>
      obtain ⟨k, hk, rfl, HD⟩ := hrel
      by_cases hlt : k < ls.length
      · obtain ⟨lb, lo, rfl, hlB, d0, d1⟩ := hcells k hlt
        clear hcells
        obtain ⟨hl0, hl1⟩ := HI.out _ (List.getElem_mem hlt)
        obtain ⟨x, HX⟩ : ∃ x : Lab, Hid (ls[k] = x) := ⟨_, hide rfl⟩
        rw [HX.out] at d0 d1 hl0 hl1
        cases hn : nameB x.1 with
        | false =>
          have HN := hide hn
          clear hn
          have HE : Hid (eachErr least ls = 1) := eachErr_first h20 hlt HD.out (by rw [HX.out, labErr_name HN.out]) (by omega)
          go_wp2_with (go_at_call 51; refine (rIsName_any _ _ (by unfold maxLen; omega)).mono ?_; rintro e w' ⟨rfl, rfl⟩; rw [HN.out])
          go_ret
          exact ⟨ret_int (by rw [eachTwice_err (by rw [HE.out]; omega), HE.out]; rfl), 0, rfl⟩
        | true =>
          have HN := hide hn
          clear hn
          by_cases hs : x.2.length < least
          · have HE : Hid (eachErr least ls = 1) := eachErr_first h20 hlt HD.out (by rw [HX.out, labErr_short hs]) (by omega)
            obtain ⟨hx0, hx1⟩ : x.2 = [] ∧ empty = false := by
              have := HL0.out
              cases empty with
              | true => simp at this; omega
              | false => simp at this; exact ⟨List.eq_nil_of_length_eq_zero (by omega), rfl⟩
            rw [hx0] at d1
            subst hx1
            go_wp2_with (go_at_call 51; refine (rIsName_any _ _ (by unfold maxLen; omega)).mono ?_; rintro e w' ⟨rfl, rfl⟩; rw [HN.out])
            go_ret
            exact ⟨ret_int (by rw [eachTwice_err (by rw [HE.out]; omega), HE.out]; rfl), 0, rfl⟩
          · have HS := hide hs
            clear hs
            by_cases hg : x.2.length ≤ 100
            · have hg' : ¬ (100 : Int) < x.2.length := by omega
              have HR : Hid (labErr least ls[k] = 0) := by show _ = _; rw [HX.out]; exact labErr_ok HN.out (by have := HS.out; omega) hg
              by_cases hx0 : x.2 = []
              · have hx1 : empty = true := by
                  have := HL0.out
                  have h2 := HS.out
                  rw [hx0] at h2
                  cases empty with
                  | true => rfl
                  | false => simp at this; subst this; simp at h2
                subst hx1
                rw [hx0] at d1
                go_wp2_with (go_at_call 51; refine (rIsName_any _ _ (by unfold maxLen; omega)).mono ?_; rintro e w' ⟨rfl, rfl⟩; rw [HN.out])
                go_round
                case rel => exact ⟨k + 1, by omega, by go_num, hide (fun j hj h => by
                  by_cases e : j = k
                  · subst e; exact HR.out
                  · exact HD.out j hj (by omega))⟩
                case measure => simp [intOf]; omega
              · have hx0' : (x.2 == []) = false := by simpa using hx0
                go_wp2_with (go_at_call 51; refine (rIsName_any _ _ (by unfold maxLen; omega)).mono ?_; rintro e w' ⟨rfl, rfl⟩; rw [HN.out])
                go_round
                case rel => exact ⟨k + 1, by omega, by go_num, hide (fun j hj h => by
                  by_cases e : j = k
                  · subst e; exact HR.out
                  · exact HD.out j hj (by omega))⟩
                case measure => simp [intOf]; omega
            · have hg' : (100 : Int) < x.2.length := by omega
              have hx0' : (x.2 == []) = false := by
                rw [beq_eq_false_iff_ne]; intro h; rw [h] at hg; simp at hg
              have HE : Hid (eachErr least ls = 2) := eachErr_first h20 hlt HD.out (by rw [HX.out, labErr_long HN.out (by have := HS.out; omega) hg]) (by omega)
              go_wp2_with (go_at_call 51; refine (rIsName_any _ _ (by unfold maxLen; omega)).mono ?_; rintro e w' ⟨rfl, rfl⟩; rw [HN.out])
              go_ret
              exact ⟨ret_int (by rw [eachTwice_err (by rw [HE.out]; omega), HE.out]; rfl), 0, rfl⟩
      · have HE : Hid (eachErr least ls = 0) := by show _ = _; rw [eachErr, if_pos h20, eachB_all (fun j hj => HD.out j hj (by omega))]
        go_wp2
        go_loopw [6] (fun i wr => ∃ q n : Nat, q ≤ ls.length ∧ i = .int .i64 q ∧ wr = w.drewN n ∧ Hid (∀ i j (hi : i < ls.length) (hj : j < ls.length), i < j → j < q → ls[i].1 ≠ ls[j].1)) (fun i _ => ls.length - (intOf i).toNat)
        case atStart => exact ⟨0, 0, by omega, rfl, rfl, hide (fun _ j _ _ _ h => by omega)⟩
        case round =>
          obtain ⟨q, n, hq, rfl, hw, HQ⟩ := hrel
          have HW := hide hw
          clear hw
          by_cases hqlt : q < ls.length
          · go_wp2
            go_loopw [7] (fun i wi => ∃ p m : Nat, p ≤ q ∧ i = .int .i64 p ∧ wi = w.drewN m ∧ Hid (∀ i (hi : i < ls.length), i < p → ls[i].1 ≠ ls[q].1)) (fun i _ => q - (intOf i).toNat)
            case atStart => exact ⟨0, n, by omega, rfl, HW.out, hide (fun _ _ h => by omega)⟩
            case round =>
              obtain ⟨p, m, hp, rfl, hwi, HP⟩ := hrel
              have HWI := hide hwi
              clear hwi
              rename World => wi
              by_cases hplt : p < q
              · have hplt' : (p : Int) < q := by omega
                obtain ⟨ab, aof, rfl, haB, a0, _⟩ := hcells q hqlt
                obtain ⟨bb, bof, he, hbB, b0, _⟩ := hcells p (by omega)
                simp at he
                obtain ⟨rfl, rfl⟩ := he
                have hpl : p < ls.length := by omega
                have hpl' : (p : Int) < ls.length := by omega
                have d0 : wi.cell? ⟨ab, aof + q * 2, none⟩ = some (.string (bs ls[q].1)) := by rw [HWI.out]; exact a0
                have d1 : wi.cell? ⟨ab, aof + p * 2, none⟩ = some (.string (bs ls[p].1)) := by rw [HWI.out]; exact b0
                clear a0 b0 hcells
                by_cases he : ls[p].1 = ls[q].1
                · have HT : Hid (twiceB ls = true) := twiceB_true hpl hqlt hplt he
                  have HE2 := hide he
                  rw [he] at d1
                  clear he
                  go_wp2
                  go_quiet (fail)
                  go_wp2
                  go_ret
                  exact ⟨ret_int (by unfold eachTwice; rw [if_pos HE.out, if_neg (by rw [HT.out]; simp)]; rfl), _, by rw [HWI.out, World.drewN_drewN]⟩
                · have HE2 := hide he
                  have he' : (ls[p].1 == ls[q].1) = false := by simpa using he
                  clear he
                  go_wp2
                  go_quiet (fail)
                  go_wp2
                  go_roundw
                  case rel => exact ⟨p + 1, _, by omega, by go_num, by rw [HWI.out, World.drewN_drewN], hide (fun i hi h => by
                    by_cases e : i = p
                    · subst e; exact HE2.out
                    · exact HP.out i hi (by omega))⟩
                  case measure => simp [intOf]; omega
              · go_wp2
                go_roundw
                case rel => exact ⟨q + 1, m, by omega, by go_num, HWI.out, hide (fun i j hi hj hij hjq => by
                  by_cases e : j = q
                  · subst e; exact HP.out i hi (by omega)
                  · exact HQ.out i j hi hj hij (by omega))⟩
                case measure => simp [intOf]; omega
          · have HT : Hid (twiceB ls = false) := twiceB_false.2 fun i j hi hj hij => HQ.out i j hi hj hij (by omega)
            go_wp2
            go_ret
            exact ⟨ret_int (by unfold eachTwice; rw [if_pos HE.out, if_pos HT.out]; rfl), n, HW.out⟩
  · have HE : Hid (eachErr least ls = 2) := by show _ = _; rw [eachErr, if_neg h20]
    go_enter Tryz.func33, Tryz.ntmps33
    go_wp2
    go_ret
    exact ⟨ret_int (by rw [eachTwice_err (by rw [HE.out]; omega), HE.out]; rfl), 0, rfl⟩

set_option maxRecDepth 20000 in
set_option maxHeartbeats 2000000 in
theorem rCheckLabels_any (w : World) (v : Value) (ls : List Lab) (hv : readsLabels w w.heap.size v ls) (hlen : ls.length ≤ 9223372036854775807) (hin : lensOk ls) :
    Calls Tryz.prog 10 #[v] w fun e w' => e = .returned (.int .i64 (checkB ls)) ∧ ∃ n, w' = w.drewN n := by
  obtain ⟨ao, cp, rfl, hcells⟩ := id hv
  have HV := hide hv
  have HI := hide hin
  clear hv hin
  go_enter Tryz.func10, Tryz.ntmps10
  go_wp2_with fail
  refine (rEachLabel_any w _ ls false HV.out hlen HI.out).mono ?_
  rintro e w1 ⟨rfl, n1, hw1⟩
  have HW1 := hide hw1
  clear hw1
  simp only [Bool.false_eq_true, if_false]
  by_cases hz : eachTwice 1 ls = 0
  · have hz1 : eachErr 1 ls = 0 ∧ twiceB ls = false := by
      unfold eachTwice at hz
      by_cases h : eachErr 1 ls = 0
      · rw [if_pos h] at hz
        by_cases h2 : twiceB ls = false
        · exact ⟨h, h2⟩
        · rw [if_neg h2] at hz; cases hz
      · rw [if_neg h] at hz; exact absurd hz h
    have HZ1 := hide hz1
    obtain ⟨hl, _⟩ := eachErr_names hz1.1
    rw [hz]
    clear hz hz1
    go_wp2
    go_loopw [3, 4] (fun e i wr => ∃ k n : Nat, 1 ≤ k ∧ (k ≤ ls.length ∨ k = 1 ∨ e = .int .i64 4) ∧ k ≤ 21 ∧ i = .int .i64 k ∧ wr = w.drewN n ∧ ((e = .int .i64 0 ∧ Hid (∀ i (hi : i + 1 < ls.length), i + 1 < k → Op.bytesLess ls[i].1 ls[i + 1].1 = true)) ∨ (e = .int .i64 4 ∧ Hid (riseB ls = false)))) (fun _ i _ => 30 - (intOf i).toNat)
    case atStart => exact ⟨1, n1, by omega, .inr (.inl rfl), by omega, rfl, HW1.out, .inl ⟨rfl, hide (fun i _ h => by omega)⟩⟩
    case round =>
      obtain ⟨k, n, hk1, hk2, hk21, rfl, hw, (⟨rfl, HD⟩ | ⟨rfl, HR⟩)⟩ := hrel
      · have HW := hide hw
        clear hw
        by_cases hlt : k < ls.length
        · obtain ⟨ab, aof, rfl, haB, a0, _⟩ := hcells k hlt
          obtain ⟨bb, bof, he, hbB, b0, _⟩ := hcells (k - 1) (by omega)
          simp at he
          obtain ⟨rfl, rfl⟩ := he
          have d0 : wr.cell? ⟨ab, aof + k * 2, none⟩ = some (.string (bs ls[k].1)) := by rw [HW.out]; exact a0
          have d1 : wr.cell? ⟨ab, aof + (k - 1) * 2, none⟩ = some (.string (bs ls[k - 1].1)) := by rw [HW.out]; exact b0
          clear a0 b0 hcells
          have hk3 : ((k : Int) - 1) < ls.length := by omega
          have hk4 : (0 : Int) ≤ (k : Int) - 1 := by omega
          have hk5 : ((k : Int) - 1).toNat = k - 1 := by omega
          have hkk : k - 1 + 1 = k := by omega
          have HNE : Hid (ls[k - 1].1 ≠ ls[k].1) := twiceB_false.1 HZ1.out.2 (k - 1) k (by omega) hlt (by omega)
          cases hl : Op.bytesLess ls[k].1 ls[k - 1].1 with
          | false =>
            have HLt : Hid (Op.bytesLess ls[k - 1].1 ls[k].1 = true) := by
              show _ = _
              cases h : Op.bytesLess ls[k - 1].1 ls[k].1 with
              | true => rfl
              | false => exact absurd (bl_tri h hl) HNE.out
            have HL := hide hl
            go_wp2
            go_quiet (fail)
            go_wp2
            go_roundw
            case rel => exact ⟨k + 1, _, by omega, .inl (by omega), by omega, by go_num, by rw [HW.out, World.drewN_drewN], .inl ⟨rfl, hide (fun i hi h => by
              by_cases e : i + 1 = k
              · obtain rfl : i = k - 1 := by omega
                simp only [hkk]
                exact HLt.out
              · exact HD.out i hi (by omega))⟩⟩
            case measure => simp [intOf]; omega
          | true =>
            have HR : Hid (riseB ls = false) := by
              refine riseB_no (i := k - 1) (by omega) ?_
              simp only [hkk]
              exact bl_asymm hl
            have HL := hide hl
            go_wp2
            go_quiet (fail)
            go_wp2
            go_roundw
            case rel => exact ⟨k + 1, _, by omega, .inr (.inr rfl), by omega, by go_num, by rw [HW.out, World.drewN_drewN], .inr ⟨rfl, HR⟩⟩
            case measure => simp [intOf]; omega
        · have HR : Hid (riseB ls = true) := riseB_iff.2 fun i hi => HD.out i hi (by omega)
          go_wp2
          go_ret
          exact ⟨ret_int (by unfold checkB; rw [if_pos HZ1.out.1, if_pos HZ1.out.2, if_pos HR.out]; rfl), n, HW.out⟩
      · have HW := hide hw
        clear hw
        have HC : Hid (checkB ls = 4) := by show _ = _; unfold checkB; rw [if_pos HZ1.out.1, if_pos HZ1.out.2, if_neg (by rw [HR.out]; simp)]
        by_cases hlt : k < ls.length
        all_goals
          go_wp2
          go_ret
          exact ⟨ret_int (by rw [HC.out]; rfl), n, HW.out⟩
  · have HZ : Hid (checkB ls = eachTwice 1 ls) := by
      show _ = _
      unfold checkB eachTwice
      by_cases h : eachErr 1 ls = 0
      · rw [if_pos h, if_pos h]
        by_cases h2 : twiceB ls = false
        · unfold eachTwice at hz; rw [if_pos h, if_pos h2] at hz; exact absurd rfl hz
        · rw [if_neg h2, if_neg h2]
      · rw [if_neg h, if_neg h]
    have hz' : ((eachTwice 1 ls : Int) == 0) = false := by simpa using hz
    have hz2 := HZ.out
    generalize eachTwice 1 ls = e0 at hz hz' hz2 HZ
    clear hz2
    go_wp2
    go_loopw [3, 4] (fun e i wr => e = .int .i64 e0 ∧ i = .int .i64 1 ∧ wr = w1) (fun _ i _ => 0)
    case atStart => exact ⟨rfl, rfl, rfl⟩
    case round =>
      obtain ⟨rfl, rfl, rfl⟩ := hrel
      by_cases hlt : (1 : Int) < ls.length
      all_goals
        go_wp2
        go_ret
        exact ⟨ret_int (by rw [HZ.out]), n1, HW1.out⟩

end Go.Proofs.YtdlmgkncneifaaaGreat.Lb
