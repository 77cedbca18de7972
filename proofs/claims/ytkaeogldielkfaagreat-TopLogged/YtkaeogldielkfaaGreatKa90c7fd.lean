/- 1 texts in one. -/
import Derived.Test.YtkaeogldielkfaaGreatProg
import Derived.Test.YtkaeogldielkfaaGreatK5674b3b
import Derived.Test.YtkaeogldielkfaaGreatK7aebb14
import Derived.Test.YtkaeogldielkfaaGreatKe92268d
import Derived.BigQuiet
set_option linter.unusedVariables false
set_option linter.unusedSimpArgs false
namespace Go.Proofs.YtkaeogldielkfaaGreat.Lb
open Go.RowKit
attribute [local go_sem] bs_size bs_toList bs_append bs_get bs_extract
theorem letB_true {c : UInt8} : letB c = true ↔ ((97 ≤ (c.toNat : Int) ∧ (c.toNat : Int) ≤ 122) ∨ (65 ≤ (c.toNat : Int) ∧ (c.toNat : Int) ≤ 90) ∨ (c.toNat : Int) = 95) := by
  simp only [letB, Bool.or_eq_true, Bool.and_eq_true, decide_eq_true_eq]; omega
theorem digB_true {c : UInt8} : digB c = true ↔ (48 ≤ (c.toNat : Int) ∧ (c.toNat : Int) ≤ 57) := by
  simp only [digB, Bool.and_eq_true, decide_eq_true_eq]; omega
theorem letB_eq {c : UInt8} {b : Bool} (h : b = true ↔ ((97 ≤ (c.toNat : Int) ∧ (c.toNat : Int) ≤ 122) ∨ (65 ≤ (c.toNat : Int) ∧ (c.toNat : Int) ≤ 90) ∨ (c.toNat : Int) = 95)) : letB c = b := Bool.eq_iff_iff.2 (letB_true.trans h.symm)
theorem digB_eq {c : UInt8} {b : Bool} (h : b = true ↔ (48 ≤ (c.toNat : Int) ∧ (c.toNat : Int) ≤ 57)) : digB c = b := Bool.eq_iff_iff.2 (digB_true.trans h.symm)
set_option maxHeartbeats 400000 in
theorem isDigit_any (c : UInt8) (w : World) : Calls Tryz.prog 141 #[.int .u8 (c.toNat : Int)] w fun e w' => e = .returned (.bool (digB c)) ∧ w' = w := by
  have hc := c.toNat_lt
  by_cases h1 : 48 ≤ (c.toNat : Int)
  all_goals
    go_enter Tryz.func141, Tryz.ntmps141
    go_wp2
    go_ret
    exact ⟨ret_bool (Eq.symm (digB_eq (by simp; omega))), rfl⟩
set_option maxHeartbeats 400000 in
theorem isLetter_any (c : UInt8) (w : World) : Calls Tryz.prog 142 #[.int .u8 (c.toNat : Int)] w fun e w' => e = .returned (.bool (letB c)) ∧ w' = w := by
  have hc := c.toNat_lt
  go_enter Tryz.func142, Tryz.ntmps142
  go_wp2
  all_goals
    go_ret
    exact ⟨ret_bool (Eq.symm (letB_eq (by simp; omega))), rfl⟩
set_option maxHeartbeats 1000000 in
theorem isName_any (s : List UInt8) (w : World) (hs : s.length ≤ maxLen) : Calls Tryz.prog 115 #[.string (bs s)] w fun e w' => e = .returned (.bool (nameB s)) ∧ w' = w := by
  unfold maxLen at hs
  by_cases h1 : 1 ≤ s.length
  · have h1' : ¬ (s.length : Int) < 1 := by omega
    by_cases h2 : s.length ≤ 40
    · have h2' : ¬ (40 : Int) < s.length := by omega
      have h0 : 0 < s.length := h1
      have e0 : s.getD 0 0 = s[0] := by simp [List.getD, h0]
      cases hd : digB s[0] with
      | true =>
        have HN : Hid (nameB s = false) := nameB_no (fun h => by have := h.2.2.2; rw [e0, hd] at this; cases this)
        go_enter Tryz.func115, Tryz.ntmps115
        go_wp2_with (go_at_call 141; refine (isDigit_any _ _).mono ?_; rintro e w' ⟨rfl, rfl⟩; rw [hd])
        go_ret
        exact ⟨ret_bool HN.out.symm, rfl⟩
      | false =>
        have HD := hide hd
        go_enter Tryz.func115, Tryz.ntmps115
        go_wp2_with (go_at_call 141; refine (isDigit_any _ _).mono ?_; rintro e w' ⟨rfl, rfl⟩; rw [HD.out])
        clear hd
        go_loop [19] (fun i => ∃ k : Nat, k ≤ s.length ∧ i = .int .i64 k ∧ Hid (∀ j (hj : j < s.length), j < k → letB s[j] = true ∨ digB s[j] = true)) (fun i => s.length - (intOf i).toNat)
        case atStart => exact ⟨0, by omega, rfl, hide (fun j _ h => by omega)⟩
        case round =>
          obtain ⟨k, hk, rfl, H⟩ := hrel
          by_cases hlt : k < s.length
          · cases hl : letB s[k] with
            | true =>
              have HL := hide hl
              clear hl
              go_wp2_with (go_at_call 142; refine (isLetter_any _ _).mono ?_; rintro e w' ⟨rfl, rfl⟩; rw [HL.out])
              go_round
              case rel => exact ⟨k + 1, by omega, by go_num, hide (fun j hj h => by
                by_cases e : j = k
                · subst e; exact .inl HL.out
                · exact H.out j hj (by omega))⟩
              case measure => simp [intOf]; omega
            | false =>
              have HL := hide hl
              clear hl
              cases hg : digB s[k] with
              | true =>
                have HG := hide hg
                clear hg
                go_wp2_with (first | (go_at_call 142; refine (isLetter_any _ _).mono ?_; rintro e w' ⟨rfl, rfl⟩; rw [HL.out]) | (go_at_call 141; refine (isDigit_any _ _).mono ?_; rintro e w' ⟨rfl, rfl⟩; rw [HG.out]))
                go_round
                case rel => exact ⟨k + 1, by omega, by go_num, hide (fun j hj h => by
                  by_cases e : j = k
                  · subst e; exact .inr HG.out
                  · exact H.out j hj (by omega))⟩
                case measure => simp [intOf]; omega
              | false =>
                have HG := hide hg
                clear hg
                have HN : Hid (nameB s = false) := nameB_no (fun h => by have := h.2.2.1 k hlt; rw [HL.out, HG.out] at this; simp at this)
                go_wp2_with (first | (go_at_call 142; refine (isLetter_any _ _).mono ?_; rintro e w' ⟨rfl, rfl⟩; rw [HL.out]) | (go_at_call 141; refine (isDigit_any _ _).mono ?_; rintro e w' ⟨rfl, rfl⟩; rw [HG.out]))
                go_ret
                exact ⟨ret_bool HN.out.symm, rfl⟩
          · have HN : Hid (nameB s = true) := (nameB_iff s).2 ⟨h1, h2, fun j hj => H.out j hj (by omega), by rw [e0]; exact HD.out⟩
            go_wp2
            go_ret
            exact ⟨ret_bool HN.out.symm, rfl⟩
    · have HN : Hid (nameB s = false) := nameB_no (fun h => h2 h.2.1)
      have h2' : (40 : Int) < s.length := by omega
      go_enter Tryz.func115, Tryz.ntmps115
      go_wp2
      go_ret
      exact ⟨ret_bool HN.out.symm, rfl⟩
  · have HN : Hid (nameB s = false) := nameB_no (fun h => h1 h.1)
    have h1' : (s.length : Int) < 1 := by omega
    go_enter Tryz.func115, Tryz.ntmps115
    go_wp2
    go_ret
    exact ⟨ret_bool HN.out.symm, rfl⟩
/-- What is said of an argument's lengths: no string is longer. -/
def lensOk (l : List Lab) : Prop := ∀ x ∈ l, x.1.length ≤ 9223372036854775807 ∧ x.2.length ≤ 9223372036854775807
theorem labErr_name {least : Nat} {x : Lab} (h : nameB x.1 = false) : labErr least x = 1 := by simp [labErr, h]
theorem labErr_short {least : Nat} {x : Lab} (h : x.2.length < least) : labErr least x = 1 := by
  unfold labErr; rw [if_neg (by omega)]
theorem labErr_long {least : Nat} {x : Lab} (h0 : nameB x.1 = true) (h1 : least ≤ x.2.length) (h : ¬ x.2.length ≤ 100) : labErr least x = 2 := by
  unfold labErr; rw [if_pos ⟨h0, h1⟩, if_neg h]
theorem labErr_ok {least : Nat} {x : Lab} (h0 : nameB x.1 = true) (h1 : least ≤ x.2.length) (h : x.2.length ≤ 100) : labErr least x = 0 := labErr_zero.2 ⟨h0, h1, h⟩
theorem eachErr_first {least : Nat} {l : List Lab} {k e : Nat} (h20 : l.length ≤ 20) (hk : k < l.length) (h : ∀ j (hj : j < l.length), j < k → labErr least l[j] = 0) (hf : labErr least l[k] = e) (he : e ≠ 0) : eachErr least l = e := by
  unfold eachErr
  rw [if_pos h20, eachB_at hk h (by rw [hf]; exact he), hf]
set_option maxRecDepth 20000 in
set_option maxHeartbeats 2000000 in
theorem checkEach_any (w : World) (v : Value) (ls : List Lab) (least : Nat) (hv : readsLabels w w.heap.size v ls) (hlen : ls.length ≤ 9223372036854775807) (hin : lensOk ls) (hle : least ≤ 1) :
    Calls Tryz.prog 89 #[v, .int .i64 least] w fun e w' => e = .returned (.int .i64 (eachErr least ls)) ∧ Below w.heap.size w w' := by
  obtain ⟨ao, cp, rfl, hcells⟩ := id hv
  have HI := hide hin
  clear hin hv
  by_cases h20 : ls.length ≤ 20
  · go_enter Tryz.func89, Tryz.ntmps89
    go_wp2
    go_loopw [12] (fun i wr => ∃ k : Nat, k ≤ ls.length ∧ i = .int .i64 k ∧ Below w.heap.size w wr ∧ Hid (∀ j (h : j < ls.length), j < k → labErr least ls[j] = 0)) (fun i _ => ls.length - (intOf i).toNat)
    case atStart => exact ⟨0, by omega, rfl, Below.refl _ _, hide (fun j _ h => by omega)⟩
    case round =>
      obtain ⟨k, hk, rfl, hb, HD⟩ := hrel
      have hbs := hb.size
      by_cases hlt : k < ls.length
      · obtain ⟨lb, lo, rfl, hlB, c0, c1⟩ := hcells k hlt
        have d0 := (hb.cell (p := ⟨lb, lo + k * 2, none⟩) hlB).trans c0
        have d1 := (hb.cell (p := ⟨lb, lo + k * 2 + 1, none⟩) hlB).trans c1
        clear c0 c1 hcells
        obtain ⟨hl0, hl1⟩ := HI.out _ (List.getElem_mem hlt)
        obtain ⟨x, HX⟩ : ∃ x : Lab, Hid (ls[k] = x) := ⟨_, hide rfl⟩
        rw [HX.out] at d0 d1 hl0 hl1
        cases hn : nameB x.1 with
        | false =>
          have HN := hide hn
          clear hn
          go_wp2_with (go_at_call 115; refine (isName_any _ _ (by unfold maxLen; omega)).mono ?_; rintro e w' ⟨rfl, rfl⟩; rw [HN.out])
          go_ret
          exact ⟨ret_int (by rw [eachErr_first h20 hlt HD.out (e := 1) (by rw [HX.out, labErr_name HN.out]) (by omega)]; rfl), hb.alloc hbs _⟩
        | true =>
          have HN := hide hn
          clear hn
          by_cases hs : x.2.length < least
          · have hs' : (x.2.length : Int) < least := by omega
            go_wp2_with (go_at_call 115; refine (isName_any _ _ (by unfold maxLen; omega)).mono ?_; rintro e w' ⟨rfl, rfl⟩; rw [HN.out])
            go_ret
            exact ⟨ret_int (by rw [eachErr_first h20 hlt HD.out (e := 1) (by rw [HX.out, labErr_short hs]) (by omega)]; rfl), hb.alloc hbs _⟩
          · have hs' : ¬ (x.2.length : Int) < least := by omega
            by_cases hg : x.2.length ≤ 100
            · have hg' : ¬ (100 : Int) < x.2.length := by omega
              go_wp2_with (go_at_call 115; refine (isName_any _ _ (by unfold maxLen; omega)).mono ?_; rintro e w' ⟨rfl, rfl⟩; rw [HN.out])
              go_roundw
              case rel => exact ⟨k + 1, by omega, by go_num, hb.alloc hbs _, hide (fun j hj h => by
                by_cases e : j = k
                · subst e; rw [HX.out]; exact labErr_ok HN.out (by omega) hg
                · exact HD.out j hj (by omega))⟩
              case measure => simp [intOf]; omega
            · have hg' : (100 : Int) < x.2.length := by omega
              go_wp2_with (go_at_call 115; refine (isName_any _ _ (by unfold maxLen; omega)).mono ?_; rintro e w' ⟨rfl, rfl⟩; rw [HN.out])
              go_ret
              exact ⟨ret_int (by rw [eachErr_first h20 hlt HD.out (e := 2) (by rw [HX.out, labErr_long HN.out (by omega) hg]) (by omega)]; rfl), hb.alloc hbs _⟩
      · go_wp2
        go_ret
        exact ⟨ret_int (by rw [eachErr, if_pos h20, eachB_all (fun j hj => HD.out j hj (by omega))]; rfl), hb⟩
  · go_enter Tryz.func89, Tryz.ntmps89
    go_wp2
    go_ret
    exact ⟨ret_int (by rw [eachErr, if_neg h20]; rfl), Below.refl _ _⟩
set_option maxRecDepth 20000 in
set_option maxHeartbeats 2000000 in
theorem rise_any (w : World) (v : Value) (ls : List Lab) (hv : readsLabels w w.heap.size v ls) (hlen : ls.length ≤ 20) :
    Calls Tryz.prog 110 #[v] w fun e w' => e = .returned (.bool (riseB ls)) ∧ ∃ n, w' = w.drewN n := by
  obtain ⟨ao, cp, rfl, hcells⟩ := id hv
  clear hv
  go_enter Tryz.func110, Tryz.ntmps110
  go_wp2
  go_loopw [3] (fun i wr => ∃ k n : Nat, 1 ≤ k ∧ (k ≤ ls.length ∨ k = 1) ∧ i = .int .i64 k ∧ wr = w.drewN n ∧ Hid (∀ i (hi : i + 1 < ls.length), i + 1 < k → Op.bytesLess ls[i].1 ls[i + 1].1 = true)) (fun i _ => ls.length - (intOf i).toNat)
  case atStart => exact ⟨1, 0, by omega, .inr rfl, rfl, rfl, hide (fun i _ h => by omega)⟩
  case round =>
    obtain ⟨k, n, hk1, hk2, rfl, hw, HD⟩ := hrel
    have HW := hide hw
    clear hw
    by_cases hlt : k < ls.length
    · obtain ⟨ab, aof, rfl, haB, a0, _⟩ := hcells k hlt
      obtain ⟨bb, bof, he, hbB, b0, _⟩ := hcells (k - 1) (by omega)
      simp at he
      obtain ⟨rfl, rfl⟩ := he
      have d0 : wr.cell? ⟨ab, aof + k * 2, none⟩ = some (.string (bs ls[k].1)) := by rw [HW.out]; exact a0
      have d1 : wr.cell? ⟨ab, aof + (k - 1) * 2, none⟩ = some (.string (bs ls[k - 1].1)) := by rw [HW.out]; exact b0
      clear a0 b0 hcells
      have hk3 : ((k : Int) - 1) < ls.length := by omega
      have hk4 : (0 : Int) ≤ (k : Int) - 1 := by omega
      have hk5 : ((k : Int) - 1).toNat = k - 1 := by omega
      cases hl : Op.bytesLess ls[k - 1].1 ls[k].1 with
      | true =>
        have HL := hide hl
        go_wp2
        go_quiet (fail)
        go_wp2
        go_roundw
        case rel => exact ⟨k + 1, _, by omega, .inl (by omega), by go_num, by rw [HW.out, World.drewN_drewN], hide (fun i hi h => by
          by_cases e : i + 1 = k
          · obtain rfl : i = k - 1 := by omega
            have : k - 1 + 1 = k := by omega
            simp only [this]
            exact HL.out
          · exact HD.out i hi (by omega))⟩
        case measure => simp [intOf]; omega
      | false =>
        have HL := hide hl
        have HR : Hid (riseB ls = false) := by
          refine riseB_no (i := k - 1) (by omega) ?_
          have : k - 1 + 1 = k := by omega
          simp only [this]
          exact HL.out
        go_wp2
        go_quiet (fail)
        go_wp2
        go_ret
        exact ⟨ret_bool HR.out.symm, _, by rw [HW.out, World.drewN_drewN]⟩
    · have HR : Hid (riseB ls = true) := riseB_iff.2 fun i hi => HD.out i hi (by omega)
      go_wp2
      go_ret
      exact ⟨ret_bool HR.out.symm, n, HW.out⟩
end Go.Proofs.YtkaeogldielkfaaGreat.Lb
