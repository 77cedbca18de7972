/- 3 texts in one. -/
import Derived.Test.YtkaeogldielkfaaGreatProg
import Derived.Test.YtkaeogldielkfaaGreatKabe2b5f
import Derived.Test.YtkaeogldielkfaaGreatKa96aaab
import Derived.Test.YtkaeogldielkfaaGreatKa7e3600
import Derived.BigQuiet
set_option linter.unusedVariables false
set_option linter.unusedSimpArgs false
namespace Go.Proofs.YtkaeogldielkfaaGreat.Lb
open Go.RowKit
attribute [local go_sem] bs_size bs_toList bs_append bs_get bs_extract
theorem letB_true {c : UInt8} : letB c = true ↔ ((97 ≤ (c.toNat : Int) ∧ (c.toNat : Int) ≤ 122) ∨ (65 ≤ (c.toNat : Int) ∧ (c.toNat : Int) ≤ 90) ∨ (c.toNat : Int) = 95) := by
  simp only [letB, Bool.or_eq_true, Bool.and_eq_true, decide_eq_true_eq]; omega
theorem digB_true {c : UInt8} : digB c = true ↔ (48 ≤ (c.toNat : Int) ∧ (c.toNat : Int) ≤ 57) := by
  simp only [digB, Bool.and_eq_true, decide_eq_true_eq]; omega
theorem letB_eq {c : UInt8} {b : Bool} (h : b = true ↔ ((97 ≤ (c.toNat : Int) ∧ (c.toNat : Int) ≤ 122) ∨ (65 ≤ (c.toNat : Int) ∧ (c.toNat : Int) ≤ 90) ∨ (c.toNat : Int) = 95)) : letB c = b := Bool.eq_iff_iff.2 (letB_true.trans h.symm)
theorem digB_eq {c : UInt8} {b : Bool} (h : b = true ↔ (48 ≤ (c.toNat : Int) ∧ (c.toNat : Int) ≤ 57)) : digB c = b := Bool.eq_iff_iff.2 (digB_true.trans h.symm)
set_option maxHeartbeats 400000 in
theorem isDigit_any (c : UInt8) (w : World) : Calls Tryz.prog 141 #[.int .u8 (c.toNat : Int)] w fun e w' => e = .returned (.bool (digB c)) ∧ w' = w := by
  have hc := c.toNat_lt
  by_cases h1 : 48 ≤ (c.toNat : Int)
  all_goals
    go_enter Tryz.func141, Tryz.ntmps141
    go_wp2
    go_ret
    exact ⟨ret_bool (Eq.symm (digB_eq (by simp; omega))), rfl⟩
set_option maxHeartbeats 400000 in
theorem isLetter_any (c : UInt8) (w : World) : Calls Tryz.prog 142 #[.int .u8 (c.toNat : Int)] w fun e w' => e = .returned (.bool (letB c)) ∧ w' = w := by
  have hc := c.toNat_lt
  go_enter Tryz.func142, Tryz.ntmps142
  go_wp2
  all_goals
    go_ret
    exact ⟨ret_bool (Eq.symm (letB_eq (by simp; omega))), rfl⟩
set_option maxHeartbeats 1000000 in
theorem isName_any (s : List UInt8) (w : World) (hs : s.length ≤ maxLen) : Calls Tryz.prog 115 #[.string (bs s)] w fun e w' => e = .returned (.bool (nameB s)) ∧ w' = w := by
  unfold maxLen at hs
  by_cases h1 : 1 ≤ s.length
  · have h1' : ¬ (s.length : Int) < 1 := by omega
    by_cases h2 : s.length ≤ 40
    · have h2' : ¬ (40 : Int) < s.length := by omega
      have h0 : 0 < s.length := h1
      have e0 : s.getD 0 0 = s[0] := by simp [List.getD, h0]
      cases hd : digB s[0] with
      | true =>
        have HN : Hid (nameB s = false) := nameB_no (fun h => by have := h.2.2.2; rw [e0, hd] at this; cases this)
        go_enter Tryz.func115, Tryz.ntmps115
        go_wp2_with (go_at_call 141; refine (isDigit_any _ _).mono ?_; rintro e w' ⟨rfl, rfl⟩; rw [hd])
        go_ret
        exact ⟨ret_bool HN.out.symm, rfl⟩
      | false =>
        have HD := hide hd
        go_enter Tryz.func115, Tryz.ntmps115
        go_wp2_with (go_at_call 141; refine (isDigit_any _ _).mono ?_; rintro e w' ⟨rfl, rfl⟩; rw [HD.out])
        clear hd
        go_loop [19] (fun i => ∃ k : Nat, k ≤ s.length ∧ i = .int .i64 k ∧ Hid (∀ j (hj : j < s.length), j < k → letB s[j] = true ∨ digB s[j] = true)) (fun i => s.length - (intOf i).toNat)
        case atStart => exact ⟨0, by omega, rfl, hide (fun j _ h => by omega)⟩
        case round =>
          obtain ⟨k, hk, rfl, H⟩ := hrel
          by_cases hlt : k < s.length
          · cases hl : letB s[k] with
            | true =>
              have HL := hide hl
              clear hl
              go_wp2_with (go_at_call 142; refine (isLetter_any _ _).mono ?_; rintro e w' ⟨rfl, rfl⟩; rw [HL.out])
              go_round
              case rel => exact ⟨k + 1, by omega, by go_num, hide (fun j hj h => by
                by_cases e : j = k
                · subst e; exact .inl HL.out
                · exact H.out j hj (by omega))⟩
              case measure => simp [intOf]; omega
            | false =>
              have HL := hide hl
              clear hl
              cases hg : digB s[k] with
              | true =>
                have HG := hide hg
                clear hg
                go_wp2_with (first | (go_at_call 142; refine (isLetter_any _ _).mono ?_; rintro e w' ⟨rfl, rfl⟩; rw [HL.out]) | (go_at_call 141; refine (isDigit_any _ _).mono ?_; rintro e w' ⟨rfl, rfl⟩; rw [HG.out]))
                go_round
                case rel => exact ⟨k + 1, by omega, by go_num, hide (fun j hj h => by
                  by_cases e : j = k
                  · subst e; exact .inr HG.out
                  · exact H.out j hj (by omega))⟩
                case measure => simp [intOf]; omega
              | false =>
                have HG := hide hg
                clear hg
                have HN : Hid (nameB s = false) := nameB_no (fun h => by have := h.2.2.1 k hlt; rw [HL.out, HG.out] at this; simp at this)
                go_wp2_with (first | (go_at_call 142; refine (isLetter_any _ _).mono ?_; rintro e w' ⟨rfl, rfl⟩; rw [HL.out]) | (go_at_call 141; refine (isDigit_any _ _).mono ?_; rintro e w' ⟨rfl, rfl⟩; rw [HG.out]))
                go_ret
                exact ⟨ret_bool HN.out.symm, rfl⟩
          · have HN : Hid (nameB s = true) := (nameB_iff s).2 ⟨h1, h2, fun j hj => H.out j hj (by omega), by rw [e0]; exact HD.out⟩
            go_wp2
            go_ret
            exact ⟨ret_bool HN.out.symm, rfl⟩
    · have HN : Hid (nameB s = false) := nameB_no (fun h => h2 h.2.1)
      have h2' : (40 : Int) < s.length := by omega
      go_enter Tryz.func115, Tryz.ntmps115
      go_wp2
      go_ret
      exact ⟨ret_bool HN.out.symm, rfl⟩
  · have HN : Hid (nameB s = false) := nameB_no (fun h => h1 h.1)
    have h1' : (s.length : Int) < 1 := by omega
    go_enter Tryz.func115, Tryz.ntmps115
    go_wp2
    go_ret
    exact ⟨ret_bool HN.out.symm, rfl⟩
/-- What is said of an argument's lengths: no string is longer. -/
def lensOk (l : List Lab) : Prop := ∀ x ∈ l, x.1.length ≤ 9223372036854775807 ∧ x.2.length ≤ 9223372036854775807
theorem labErr_name {least : Nat} {x : Lab} (h : nameB x.1 = false) : labErr least x = 1 := by simp [labErr, h]
theorem labErr_short {least : Nat} {x : Lab} (h : x.2.length < least) : labErr least x = 1 := by
  unfold labErr; rw [if_neg (by omega)]
theorem labErr_long {least : Nat} {x : Lab} (h0 : nameB x.1 = true) (h1 : least ≤ x.2.length) (h : ¬ x.2.length ≤ 100) : labErr least x = 2 := by
  unfold labErr; rw [if_pos ⟨h0, h1⟩, if_neg h]
theorem labErr_ok {least : Nat} {x : Lab} (h0 : nameB x.1 = true) (h1 : least ≤ x.2.length) (h : x.2.length ≤ 100) : labErr least x = 0 := labErr_zero.2 ⟨h0, h1, h⟩
theorem eachErr_first {least : Nat} {l : List Lab} {k e : Nat} (h20 : l.length ≤ 20) (hk : k < l.length) (h : ∀ j (hj : j < l.length), j < k → labErr least l[j] = 0) (hf : labErr least l[k] = e) (he : e ≠ 0) : eachErr least l = e := by
  unfold eachErr
  rw [if_pos h20, eachB_at hk h (by rw [hf]; exact he), hf]
set_option maxRecDepth 20000 in
set_option maxHeartbeats 2000000 in
theorem checkEach_any (w : World) (v : Value) (ls : List Lab) (least : Nat) (hv : readsLabels w w.heap.size v ls) (hlen : ls.length ≤ 9223372036854775807) (hin : lensOk ls) (hle : least ≤ 1) :
    Calls Tryz.prog 89 #[v, .int .i64 least] w fun e w' => e = .returned (.int .i64 (eachErr least ls)) ∧ Below w.heap.size w w' := by
  obtain ⟨ao, cp, rfl, hcells⟩ := id hv
  have HI := hide hin
  clear hin hv
  by_cases h20 : ls.length ≤ 20
  · go_enter Tryz.func89, Tryz.ntmps89
    go_wp2
    go_loopw [12] (fun i wr => ∃ k : Nat, k ≤ ls.length ∧ i = .int .i64 k ∧ Below w.heap.size w wr ∧ Hid (∀ j (h : j < ls.length), j < k → labErr least ls[j] = 0)) (fun i _ => ls.length - (intOf i).toNat)
    case atStart => exact ⟨0, by omega, rfl, Below.refl _ _, hide (fun j _ h => by omega)⟩
    case round =>
      obtain ⟨k, hk, rfl, hb, HD⟩ := hrel
      have hbs := hb.size
      by_cases hlt : k < ls.length
      · obtain ⟨lb, lo, rfl, hlB, c0, c1⟩ := hcells k hlt
        have d0 := (hb.cell (p := ⟨lb, lo + k * 2, none⟩) hlB).trans c0
        have d1 := (hb.cell (p := ⟨lb, lo + k * 2 + 1, none⟩) hlB).trans c1
        clear c0 c1 hcells
        obtain ⟨hl0, hl1⟩ := HI.out _ (List.getElem_mem hlt)
        obtain ⟨x, HX⟩ : ∃ x : Lab, Hid (ls[k] = x) := ⟨_, hide rfl⟩
        rw [HX.out] at d0 d1 hl0 hl1
        cases hn : nameB x.1 with
        | false =>
          have HN := hide hn
          clear hn
          go_wp2_with (go_at_call 115; refine (isName_any _ _ (by unfold maxLen; omega)).mono ?_; rintro e w' ⟨rfl, rfl⟩; rw [HN.out])
          go_ret
          exact ⟨ret_int (by rw [eachErr_first h20 hlt HD.out (e := 1) (by rw [HX.out, labErr_name HN.out]) (by omega)]; rfl), hb.alloc hbs _⟩
        | true =>
          have HN := hide hn
          clear hn
          by_cases hs : x.2.length < least
          · have hs' : (x.2.length : Int) < least := by omega
            go_wp2_with (go_at_call 115; refine (isName_any _ _ (by unfold maxLen; omega)).mono ?_; rintro e w' ⟨rfl, rfl⟩; rw [HN.out])
            go_ret
            exact ⟨ret_int (by rw [eachErr_first h20 hlt HD.out (e := 1) (by rw [HX.out, labErr_short hs]) (by omega)]; rfl), hb.alloc hbs _⟩
          · have hs' : ¬ (x.2.length : Int) < least := by omega
            by_cases hg : x.2.length ≤ 100
            · have hg' : ¬ (100 : Int) < x.2.length := by omega
              go_wp2_with (go_at_call 115; refine (isName_any _ _ (by unfold maxLen; omega)).mono ?_; rintro e w' ⟨rfl, rfl⟩; rw [HN.out])
              go_roundw
              case rel => exact ⟨k + 1, by omega, by go_num, hb.alloc hbs _, hide (fun j hj h => by
                by_cases e : j = k
                · subst e; rw [HX.out]; exact labErr_ok HN.out (by omega) hg
                · exact HD.out j hj (by omega))⟩
              case measure => simp [intOf]; omega
            · have hg' : (100 : Int) < x.2.length := by omega
              go_wp2_with (go_at_call 115; refine (isName_any _ _ (by unfold maxLen; omega)).mono ?_; rintro e w' ⟨rfl, rfl⟩; rw [HN.out])
              go_ret
              exact ⟨ret_int (by rw [eachErr_first h20 hlt HD.out (e := 2) (by rw [HX.out, labErr_long HN.out (by omega) hg]) (by omega)]; rfl), hb.alloc hbs _⟩
      · go_wp2
        go_ret
        exact ⟨ret_int (by rw [eachErr, if_pos h20, eachB_all (fun j hj => HD.out j hj (by omega))]; rfl), hb⟩
  · go_enter Tryz.func89, Tryz.ntmps89
    go_wp2
    go_ret
    exact ⟨ret_int (by rw [eachErr, if_neg h20]; rfl), Below.refl _ _⟩
set_option maxRecDepth 20000 in
set_option maxHeartbeats 2000000 in
theorem rise_any (w : World) (v : Value) (ls : List Lab) (hv : readsLabels w w.heap.size v ls) (hlen : ls.length ≤ 20) :
    Calls Tryz.prog 110 #[v] w fun e w' => e = .returned (.bool (riseB ls)) ∧ ∃ n, w' = w.drewN n := by
  obtain ⟨ao, cp, rfl, hcells⟩ := id hv
  clear hv
  go_enter Tryz.func110, Tryz.ntmps110
  go_wp2
  go_loopw [3] (fun i wr => ∃ k n : Nat, 1 ≤ k ∧ (k ≤ ls.length ∨ k = 1) ∧ i = .int .i64 k ∧ wr = w.drewN n ∧ Hid (∀ i (hi : i + 1 < ls.length), i + 1 < k → Op.bytesLess ls[i].1 ls[i + 1].1 = true)) (fun i _ => ls.length - (intOf i).toNat)
  case atStart => exact ⟨1, 0, by omega, .inr rfl, rfl, rfl, hide (fun i _ h => by omega)⟩
  case round =>
    obtain ⟨k, n, hk1, hk2, rfl, hw, HD⟩ := hrel
    have HW := hide hw
    clear hw
    by_cases hlt : k < ls.length
    · obtain ⟨ab, aof, rfl, haB, a0, _⟩ := hcells k hlt
      obtain ⟨bb, bof, he, hbB, b0, _⟩ := hcells (k - 1) (by omega)
      simp at he
      obtain ⟨rfl, rfl⟩ := he
      have d0 : wr.cell? ⟨ab, aof + k * 2, none⟩ = some (.string (bs ls[k].1)) := by rw [HW.out]; exact a0
      have d1 : wr.cell? ⟨ab, aof + (k - 1) * 2, none⟩ = some (.string (bs ls[k - 1].1)) := by rw [HW.out]; exact b0
      clear a0 b0 hcells
      have hk3 : ((k : Int) - 1) < ls.length := by omega
      have hk4 : (0 : Int) ≤ (k : Int) - 1 := by omega
      have hk5 : ((k : Int) - 1).toNat = k - 1 := by omega
      cases hl : Op.bytesLess ls[k - 1].1 ls[k].1 with
      | true =>
        have HL := hide hl
        go_wp2
        go_quiet (fail)
        go_wp2
        go_roundw
        case rel => exact ⟨k + 1, _, by omega, .inl (by omega), by go_num, by rw [HW.out, World.drewN_drewN], hide (fun i hi h => by
          by_cases e : i + 1 = k
          · obtain rfl : i = k - 1 := by omega
            have : k - 1 + 1 = k := by omega
            simp only [this]
            exact HL.out
          · exact HD.out i hi (by omega))⟩
        case measure => simp [intOf]; omega
      | false =>
        have HL := hide hl
        have HR : Hid (riseB ls = false) := by
          refine riseB_no (i := k - 1) (by omega) ?_
          have : k - 1 + 1 = k := by omega
          simp only [this]
          exact HL.out
        go_wp2
        go_quiet (fail)
        go_wp2
        go_ret
        exact ⟨ret_bool HR.out.symm, _, by rw [HW.out, World.drewN_drewN]⟩
    · have HR : Hid (riseB ls = true) := riseB_iff.2 fun i hi => HD.out i hi (by omega)
      go_wp2
      go_ret
      exact ⟨ret_bool HR.out.symm, n, HW.out⟩
theorem lab_ne {x y : Lab} (h : x ≠ y) : (x.1 == y.1) = false ∨ ((x.1 == y.1) = true ∧ (x.2 == y.2) = false) := by
  by_cases h1 : x.1 = y.1
  · refine .inr ⟨by simpa using h1, ?_⟩
    rw [beq_eq_false_iff_ne]
    intro h2
    exact h (Prod.ext h1 h2)
  · exact .inl (by simpa using h1)
set_option maxRecDepth 20000 in
set_option maxHeartbeats 2000000 in
theorem sameLabels_any (w : World) (va vb : Value) (a b : List Lab) (ha : readsLabels w w.heap.size va a) (hb : readsLabels w w.heap.size vb b) (hl : a.length ≤ 1000000) (hl2 : b.length ≤ 9223372036854775807) :
    Calls Tryz.prog 30 #[va, vb] w fun e w' => e = .returned (.bool (decide (a = b))) ∧ ∃ n, w' = w.drewN n := by
  obtain ⟨ao, ac, rfl, acells⟩ := ha
  obtain ⟨bo, bc, rfl, bcells⟩ := hb
  by_cases hlen : a.length = b.length
  · go_enter Tryz.func30, Tryz.ntmps30
    have hlen' : ((a.length : Int) != b.length) = false := by simp; omega
    go_wp2
    go_loopw [5] (fun i wr => ∃ k n : Nat, k ≤ a.length ∧ i = .int .i64 k ∧ wr = w.drewN n ∧ Hid (∀ j (ha : j < a.length) (hb : j < b.length), j < k → a[j] = b[j])) (fun i _ => a.length - (intOf i).toNat)
    case atStart => exact ⟨0, 0, by omega, rfl, rfl, hide (fun j _ _ h => by omega)⟩
    case round =>
      obtain ⟨k, n, hk, rfl, hw, HD⟩ := hrel
      have HW := hide hw
      clear hw
      by_cases hlt : k < a.length
      · have hltb : k < b.length := by omega
        obtain ⟨ab, aof, rfl, haB, a0, a1⟩ := acells k hlt
        obtain ⟨bb, bof, rfl, hbB, b0, b1⟩ := bcells k hltb
        have d0 : wr.cell? ⟨ab, aof + k * 2, none⟩ = some (.string (bs a[k].1)) := by rw [HW.out]; exact a0
        have d1 : wr.cell? ⟨ab, aof + k * 2 + 1, none⟩ = some (.string (bs a[k].2)) := by rw [HW.out]; exact a1
        have e0 : wr.cell? ⟨bb, bof + k * 2, none⟩ = some (.string (bs b[k].1)) := by rw [HW.out]; exact b0
        have e1 : wr.cell? ⟨bb, bof + k * 2 + 1, none⟩ = some (.string (bs b[k].2)) := by rw [HW.out]; exact b1
        clear a0 a1 b0 b1 acells bcells
        by_cases he : a[k] = b[k]
        · have HE := hide he
          rw [← he] at e0 e1
          clear he
          go_wp2
          go_quiet (fail)
          go_wp2
          go_roundw
          case rel => exact ⟨k + 1, _, by omega, by go_num, by rw [HW.out, World.drewN_drewN], hide (fun j ha hb h => by
            by_cases e : j = k
            · subst e; exact HE.out
            · exact HD.out j ha hb (by omega))⟩
          case measure => simp [intOf]; omega
        · have HF : Hid (decide (a = b) = false) := by
            show _ = _
            rw [decide_eq_false_iff_not]
            intro e
            subst e
            exact he rfl
          have hne := lab_ne he
          clear he
          rcases hne with h1 | ⟨h1, h2⟩
          all_goals
            go_wp2
            go_quiet (fail)
            go_wp2
            go_ret
            exact ⟨ret_bool (by rw [HF.out]), _, by rw [HW.out, World.drewN_drewN]⟩
      · have HF : Hid (decide (a = b) = true) := by
          show _ = _
          rw [decide_eq_true_iff]
          exact List.ext_getElem hlen fun j ha hb => HD.out j ha hb (by omega)
        go_wp2
        go_ret
        exact ⟨ret_bool (by rw [HF.out]), n, HW.out⟩
  · have HF : Hid (decide (a = b) = false) := by
      show _ = _
      rw [decide_eq_false_iff_not]
      intro e
      subst e
      exact hlen rfl
    have hlen' : ((a.length : Int) != b.length) = true := by simp; omega
    go_enter Tryz.func30, Tryz.ntmps30
    go_wp2
    go_ret
    exact ⟨ret_bool (by rw [HF.out]), 0, rfl⟩
set_option maxHeartbeats 400000 in
theorem rIsNumeral_any (c : UInt8) (w : World) : Calls Tryz.prog 148 #[.int .u8 (c.toNat : Int)] w fun e w' => e = .returned (.bool (digB c)) ∧ w' = w := by
  have hc := c.toNat_lt
  by_cases h1 : 48 ≤ (c.toNat : Int)
  all_goals
    go_enter Tryz.func148, Tryz.ntmps148
    go_wp2
    go_ret
    exact ⟨ret_bool (Eq.symm (digB_eq (by simp; omega))), rfl⟩
set_option maxHeartbeats 400000 in
theorem rIsLetter_any (c : UInt8) (w : World) : Calls Tryz.prog 147 #[.int .u8 (c.toNat : Int)] w fun e w' => e = .returned (.bool (letB c)) ∧ w' = w := by
  have hc := c.toNat_lt
  go_enter Tryz.func147, Tryz.ntmps147
  go_wp2
  all_goals
    go_ret
    exact ⟨ret_bool (Eq.symm (letB_eq (by simp; omega))), rfl⟩
set_option maxHeartbeats 1000000 in
theorem rIsName_any (s : List UInt8) (w : World) (hs : s.length ≤ maxLen) : Calls Tryz.prog 121 #[.string (bs s)] w fun e w' => e = .returned (.bool (nameB s)) ∧ w' = w := by
  unfold maxLen at hs
  go_enter Tryz.func121, Tryz.ntmps121
  go_wp2
  go_loop [3] (fun i => ∃ k : Nat, k ≤ s.length ∧ i = .int .i64 k ∧ Hid (∀ j (hj : j < s.length), j < k → letB s[j] = true ∨ (digB s[j] = true ∧ j ≠ 0))) (fun i => s.length - (intOf i).toNat)
  case atStart => exact ⟨0, by omega, rfl, hide (fun j _ h => by omega)⟩
  case round =>
    obtain ⟨k, hk, rfl, H⟩ := hrel
    by_cases hlt : k < s.length
    · cases hl : letB s[k] with
      | true =>
        have HL := hide hl
        clear hl
        go_wp2_with (go_at_call 147; refine (rIsLetter_any _ _).mono ?_; rintro e w' ⟨rfl, rfl⟩; rw [HL.out])
        go_round
        case rel => exact ⟨k + 1, by omega, by go_num, hide (fun j hj h => by
          by_cases e : j = k
          · subst e; exact .inl HL.out
          · exact H.out j hj (by omega))⟩
        case measure => simp [intOf]; omega
      | false =>
        have HL := hide hl
        clear hl
        by_cases h0 : k = 0
        · subst h0
          have HN : Hid (nameB s = false) := nameB_no (fun h => by
            rcases h.2.2.1 0 hlt with h1 | h1
            · rw [HL.out] at h1; cases h1
            · have := h.2.2.2; rw [show s.getD 0 0 = s[0] by simp [List.getD, hlt], h1] at this; cases this)
          go_wp2_with (go_at_call 147; refine (rIsLetter_any _ _).mono ?_; rintro e w' ⟨rfl, rfl⟩; rw [HL.out])
          go_ret
          exact ⟨ret_bool HN.out.symm, rfl⟩
        · have h0' : ((k : Int) == 0) = false := beq_eq_false_iff_ne.2 (by omega)
          cases hg : digB s[k] with
          | true =>
            have HG := hide hg
            clear hg
            go_wp2_with (first | (go_at_call 147; refine (rIsLetter_any _ _).mono ?_; rintro e w' ⟨rfl, rfl⟩; rw [HL.out]) | (go_at_call 148; refine (rIsNumeral_any _ _).mono ?_; rintro e w' ⟨rfl, rfl⟩; rw [HG.out]))
            go_round
            case rel => exact ⟨k + 1, by omega, by go_num, hide (fun j hj h => by
              by_cases e : j = k
              · subst e; exact .inr ⟨HG.out, h0⟩
              · exact H.out j hj (by omega))⟩
            case measure => simp [intOf]; omega
          | false =>
            have HG := hide hg
            clear hg
            have HN : Hid (nameB s = false) := nameB_no (fun h => by have := h.2.2.1 k hlt; rw [HL.out, HG.out] at this; simp at this)
            go_wp2_with (first | (go_at_call 147; refine (rIsLetter_any _ _).mono ?_; rintro e w' ⟨rfl, rfl⟩; rw [HL.out]) | (go_at_call 148; refine (rIsNumeral_any _ _).mono ?_; rintro e w' ⟨rfl, rfl⟩; rw [HG.out]))
            go_ret
            exact ⟨ret_bool HN.out.symm, rfl⟩
    · by_cases h1 : 1 ≤ s.length
      · have h1' : (1 : Int) ≤ s.length := by omega
        by_cases h2 : s.length ≤ 40
        · have h2' : (s.length : Int) ≤ 40 := by omega
          have HN : Hid (nameB s = true) := (nameB_iff s).2 ⟨h1, h2, fun j hj => (H.out j hj (by omega)).imp id (·.1), by
            have h0 : 0 < s.length := h1
            rw [show s.getD 0 0 = s[0] by simp [List.getD, h0]]
            rcases H.out 0 h0 (by omega) with h | ⟨_, h⟩
            · cases e : digB s[0] with
              | false => rfl
              | true => rw [let_dig _ e] at h; cases h
            · exact absurd rfl h⟩
          go_wp2
          go_ret
          exact ⟨ret_bool (by rw [HN.out]), rfl⟩
        · have h2' : ¬ (s.length : Int) ≤ 40 := by omega
          have HN : Hid (nameB s = false) := nameB_no (fun h => h2 h.2.1)
          go_wp2
          go_ret
          exact ⟨ret_bool (by rw [HN.out]), rfl⟩
      · have h1' : ¬ (1 : Int) ≤ s.length := by omega
        have HN : Hid (nameB s = false) := nameB_no (fun h => h1 h.1)
        go_wp2
        go_ret
        exact ⟨ret_bool (by rw [HN.out]), rfl⟩
/-- What EachLabel says: least is 1, or 0 where empty values may be there. -/
def eachTwice (least : Nat) (l : List Lab) : Nat := if eachErr least l = 0 then (if twiceB l = false then 0 else 6) else eachErr least l
theorem eachTwice_err {least : Nat} {l : List Lab} (h : eachErr least l ≠ 0) : eachTwice least l = eachErr least l := by unfold eachTwice; rw [if_neg h]
set_option maxRecDepth 20000 in
set_option maxHeartbeats 4000000 in
theorem rEachLabel_any (w : World) (v : Value) (ls : List Lab) (empty : Bool) (hv : readsLabels w w.heap.size v ls) (hlen : ls.length ≤ 9223372036854775807) (hin : lensOk ls) :
    Calls Tryz.prog 92 #[v, .bool empty] w fun e w' => e = .returned (.int .i64 (eachTwice (if empty = true then 0 else 1) ls)) ∧ ∃ n, w' = w.drewN n := by
  obtain ⟨ao, cp, rfl, hcells⟩ := id hv
  have HI := hide hin
  clear hin hv
  obtain ⟨least, HL0⟩ : ∃ least : Nat, Hid ((if empty = true then 0 else 1) = least) := ⟨_, hide rfl⟩
  rw [HL0.out]
  by_cases h20 : ls.length ≤ 20
  · go_enter Tryz.func92, Tryz.ntmps92
    go_wp2
    go_loop [5] (fun i => ∃ k : Nat, k ≤ ls.length ∧ i = .int .i64 k ∧ Hid (∀ j (h : j < ls.length), j < k → labErr least ls[j] = 0)) (fun i => ls.length - (intOf i).toNat)
    case atStart => exact ⟨0, by omega, rfl, hide (fun j _ h => by omega)⟩
    case round =>
      obtain ⟨k, hk, rfl, HD⟩ := hrel
      by_cases hlt : k < ls.length
      · obtain ⟨lb, lo, rfl, hlB, d0, d1⟩ := hcells k hlt
        clear hcells
        obtain ⟨hl0, hl1⟩ := HI.out _ (List.getElem_mem hlt)
        obtain ⟨x, HX⟩ : ∃ x : Lab, Hid (ls[k] = x) := ⟨_, hide rfl⟩
        rw [HX.out] at d0 d1 hl0 hl1
        cases hn : nameB x.1 with
        | false =>
          have HN := hide hn
          clear hn
          have HE : Hid (eachErr least ls = 1) := eachErr_first h20 hlt HD.out (by rw [HX.out, labErr_name HN.out]) (by omega)
          go_wp2_with (go_at_call 121; refine (rIsName_any _ _ (by unfold maxLen; omega)).mono ?_; rintro e w' ⟨rfl, rfl⟩; rw [HN.out])
          go_ret
          exact ⟨ret_int (by rw [eachTwice_err (by rw [HE.out]; omega), HE.out]; rfl), 0, rfl⟩
        | true =>
          have HN := hide hn
          clear hn
          by_cases hs : x.2.length < least
          · have HE : Hid (eachErr least ls = 1) := eachErr_first h20 hlt HD.out (by rw [HX.out, labErr_short hs]) (by omega)
            obtain ⟨hx0, hx1⟩ : x.2 = [] ∧ empty = false := by
              have := HL0.out
              cases empty with
              | true => simp at this; omega
              | false => simp at this; exact ⟨List.eq_nil_of_length_eq_zero (by omega), rfl⟩
            rw [hx0] at d1
            subst hx1
            go_wp2_with (go_at_call 121; refine (rIsName_any _ _ (by unfold maxLen; omega)).mono ?_; rintro e w' ⟨rfl, rfl⟩; rw [HN.out])
            go_ret
            exact ⟨ret_int (by rw [eachTwice_err (by rw [HE.out]; omega), HE.out]; rfl), 0, rfl⟩
          · have HS := hide hs
            clear hs
            by_cases hg : x.2.length ≤ 100
            · have hg' : ¬ (100 : Int) < x.2.length := by omega
              have HR : Hid (labErr least ls[k] = 0) := by show _ = _; rw [HX.out]; exact labErr_ok HN.out (by have := HS.out; omega) hg
              by_cases hx0 : x.2 = []
              · have hx1 : empty = true := by
                  have := HL0.out
                  have h2 := HS.out
                  rw [hx0] at h2
                  cases empty with
                  | true => rfl
                  | false => simp at this; subst this; simp at h2
                subst hx1
                rw [hx0] at d1
                go_wp2_with (go_at_call 121; refine (rIsName_any _ _ (by unfold maxLen; omega)).mono ?_; rintro e w' ⟨rfl, rfl⟩; rw [HN.out])
                go_round
                case rel => exact ⟨k + 1, by omega, by go_num, hide (fun j hj h => by
                  by_cases e : j = k
                  · subst e; exact HR.out
                  · exact HD.out j hj (by omega))⟩
                case measure => simp [intOf]; omega
              · have hx0' : (x.2 == []) = false := by simpa using hx0
                go_wp2_with (go_at_call 121; refine (rIsName_any _ _ (by unfold maxLen; omega)).mono ?_; rintro e w' ⟨rfl, rfl⟩; rw [HN.out])
                go_round
                case rel => exact ⟨k + 1, by omega, by go_num, hide (fun j hj h => by
                  by_cases e : j = k
                  · subst e; exact HR.out
                  · exact HD.out j hj (by omega))⟩
                case measure => simp [intOf]; omega
            · have hg' : (100 : Int) < x.2.length := by omega
              have hx0' : (x.2 == []) = false := by
                rw [beq_eq_false_iff_ne]; intro h; rw [h] at hg; simp at hg
              have HE : Hid (eachErr least ls = 2) := eachErr_first h20 hlt HD.out (by rw [HX.out, labErr_long HN.out (by have := HS.out; omega) hg]) (by omega)
              go_wp2_with (go_at_call 121; refine (rIsName_any _ _ (by unfold maxLen; omega)).mono ?_; rintro e w' ⟨rfl, rfl⟩; rw [HN.out])
              go_ret
              exact ⟨ret_int (by rw [eachTwice_err (by rw [HE.out]; omega), HE.out]; rfl), 0, rfl⟩
      · have HE : Hid (eachErr least ls = 0) := by show _ = _; rw [eachErr, if_pos h20, eachB_all (fun j hj => HD.out j hj (by omega))]
        go_wp2
        go_loopw [6] (fun i wr => ∃ q n : Nat, q ≤ ls.length ∧ i = .int .i64 q ∧ wr = w.drewN n ∧ Hid (∀ i j (hi : i < ls.length) (hj : j < ls.length), i < j → j < q → ls[i].1 ≠ ls[j].1)) (fun i _ => ls.length - (intOf i).toNat)
        case atStart => exact ⟨0, 0, by omega, rfl, rfl, hide (fun _ j _ _ _ h => by omega)⟩
        case round =>
          obtain ⟨q, n, hq, rfl, hw, HQ⟩ := hrel
          have HW := hide hw
          clear hw
          by_cases hqlt : q < ls.length
          · go_wp2
            go_loopw [7] (fun i wi => ∃ p m : Nat, p ≤ q ∧ i = .int .i64 p ∧ wi = w.drewN m ∧ Hid (∀ i (hi : i < ls.length), i < p → ls[i].1 ≠ ls[q].1)) (fun i _ => q - (intOf i).toNat)
            case atStart => exact ⟨0, n, by omega, rfl, HW.out, hide (fun _ _ h => by omega)⟩
            case round =>
              obtain ⟨p, m, hp, rfl, hwi, HP⟩ := hrel
              have HWI := hide hwi
              clear hwi
              rename World => wi
              by_cases hplt : p < q
              · have hplt' : (p : Int) < q := by omega
                obtain ⟨ab, aof, rfl, haB, a0, _⟩ := hcells q hqlt
                obtain ⟨bb, bof, he, hbB, b0, _⟩ := hcells p (by omega)
                simp at he
                obtain ⟨rfl, rfl⟩ := he
                have hpl : p < ls.length := by omega
                have hpl' : (p : Int) < ls.length := by omega
                have d0 : wi.cell? ⟨ab, aof + q * 2, none⟩ = some (.string (bs ls[q].1)) := by rw [HWI.out]; exact a0
                have d1 : wi.cell? ⟨ab, aof + p * 2, none⟩ = some (.string (bs ls[p].1)) := by rw [HWI.out]; exact b0
                clear a0 b0 hcells
                by_cases he : ls[p].1 = ls[q].1
                · have HT : Hid (twiceB ls = true) := twiceB_true hpl hqlt hplt he
                  have HE2 := hide he
                  rw [he] at d1
                  clear he
                  go_wp2
                  go_quiet (fail)
                  go_wp2
                  go_ret
                  exact ⟨ret_int (by unfold eachTwice; rw [if_pos HE.out, if_neg (by rw [HT.out]; simp)]; rfl), _, by rw [HWI.out, World.drewN_drewN]⟩
                · have HE2 := hide he
                  have he' : (ls[p].1 == ls[q].1) = false := by simpa using he
                  clear he
                  go_wp2
                  go_quiet (fail)
                  go_wp2
                  go_roundw
                  case rel => exact ⟨p + 1, _, by omega, by go_num, by rw [HWI.out, World.drewN_drewN], hide (fun i hi h => by
                    by_cases e : i = p
                    · subst e; exact HE2.out
                    · exact HP.out i hi (by omega))⟩
                  case measure => simp [intOf]; omega
              · go_wp2
                go_roundw
                case rel => exact ⟨q + 1, m, by omega, by go_num, HWI.out, hide (fun i j hi hj hij hjq => by
                  by_cases e : j = q
                  · subst e; exact HP.out i hi (by omega)
                  · exact HQ.out i j hi hj hij (by omega))⟩
                case measure => simp [intOf]; omega
          · have HT : Hid (twiceB ls = false) := twiceB_false.2 fun i j hi hj hij => HQ.out i j hi hj hij (by omega)
            go_wp2
            go_ret
            exact ⟨ret_int (by unfold eachTwice; rw [if_pos HE.out, if_pos HT.out]; rfl), n, HW.out⟩
  · have HE : Hid (eachErr least ls = 2) := by show _ = _; rw [eachErr, if_neg h20]
    go_enter Tryz.func92, Tryz.ntmps92
    go_wp2
    go_ret
    exact ⟨ret_int (by rw [eachTwice_err (by rw [HE.out]; omega), HE.out]; rfl), 0, rfl⟩
set_option maxRecDepth 20000 in
set_option maxHeartbeats 2000000 in
theorem rCheckLabels_any (w : World) (v : Value) (ls : List Lab) (hv : readsLabels w w.heap.size v ls) (hlen : ls.length ≤ 9223372036854775807) (hin : lensOk ls) :
    Calls Tryz.prog 61 #[v] w fun e w' => e = .returned (.int .i64 (checkB ls)) ∧ ∃ n, w' = w.drewN n := by
  obtain ⟨ao, cp, rfl, hcells⟩ := id hv
  have HV := hide hv
  have HI := hide hin
  clear hv hin
  go_enter Tryz.func61, Tryz.ntmps61
  go_wp2_with fail
  refine (rEachLabel_any w _ ls false HV.out hlen HI.out).mono ?_
  rintro e w1 ⟨rfl, n1, hw1⟩
  have HW1 := hide hw1
  clear hw1
  simp only [Bool.false_eq_true, if_false]
  by_cases hz : eachTwice 1 ls = 0
  · have hz1 : eachErr 1 ls = 0 ∧ twiceB ls = false := by
      unfold eachTwice at hz
      by_cases h : eachErr 1 ls = 0
      · rw [if_pos h] at hz
        by_cases h2 : twiceB ls = false
        · exact ⟨h, h2⟩
        · rw [if_neg h2] at hz; cases hz
      · rw [if_neg h] at hz; exact absurd hz h
    have HZ1 := hide hz1
    obtain ⟨hl, _⟩ := eachErr_names hz1.1
    rw [hz]
    clear hz hz1
    go_wp2
    go_loopw [3, 4] (fun e i wr => ∃ k n : Nat, 1 ≤ k ∧ (k ≤ ls.length ∨ k = 1 ∨ e = .int .i64 4) ∧ k ≤ 21 ∧ i = .int .i64 k ∧ wr = w.drewN n ∧ ((e = .int .i64 0 ∧ Hid (∀ i (hi : i + 1 < ls.length), i + 1 < k → Op.bytesLess ls[i].1 ls[i + 1].1 = true)) ∨ (e = .int .i64 4 ∧ Hid (riseB ls = false)))) (fun _ i _ => 30 - (intOf i).toNat)
    case atStart => exact ⟨1, n1, by omega, .inr (.inl rfl), by omega, rfl, HW1.out, .inl ⟨rfl, hide (fun i _ h => by omega)⟩⟩
    case round =>
      obtain ⟨k, n, hk1, hk2, hk21, rfl, hw, (⟨rfl, HD⟩ | ⟨rfl, HR⟩)⟩ := hrel
      · have HW := hide hw
        clear hw
        by_cases hlt : k < ls.length
        · obtain ⟨ab, aof, rfl, haB, a0, _⟩ := hcells k hlt
          obtain ⟨bb, bof, he, hbB, b0, _⟩ := hcells (k - 1) (by omega)
          simp at he
          obtain ⟨rfl, rfl⟩ := he
          have d0 : wr.cell? ⟨ab, aof + k * 2, none⟩ = some (.string (bs ls[k].1)) := by rw [HW.out]; exact a0
          have d1 : wr.cell? ⟨ab, aof + (k - 1) * 2, none⟩ = some (.string (bs ls[k - 1].1)) := by rw [HW.out]; exact b0
          clear a0 b0 hcells
          have hk3 : ((k : Int) - 1) < ls.length := by omega
          have hk4 : (0 : Int) ≤ (k : Int) - 1 := by omega
          have hk5 : ((k : Int) - 1).toNat = k - 1 := by omega
          have hkk : k - 1 + 1 = k := by omega
          have HNE : Hid (ls[k - 1].1 ≠ ls[k].1) := twiceB_false.1 HZ1.out.2 (k - 1) k (by omega) hlt (by omega)
          cases hl : Op.bytesLess ls[k].1 ls[k - 1].1 with
          | false =>
            have HLt : Hid (Op.bytesLess ls[k - 1].1 ls[k].1 = true) := by
              show _ = _
              cases h : Op.bytesLess ls[k - 1].1 ls[k].1 with
              | true => rfl
              | false => exact absurd (bl_tri h hl) HNE.out
            have HL := hide hl
            go_wp2
            go_quiet (fail)
            go_wp2
            go_roundw
            case rel => exact ⟨k + 1, _, by omega, .inl (by omega), by omega, by go_num, by rw [HW.out, World.drewN_drewN], .inl ⟨rfl, hide (fun i hi h => by
              by_cases e : i + 1 = k
              · obtain rfl : i = k - 1 := by omega
                simp only [hkk]
                exact HLt.out
              · exact HD.out i hi (by omega))⟩⟩
            case measure => simp [intOf]; omega
          | true =>
            have HR : Hid (riseB ls = false) := by
              refine riseB_no (i := k - 1) (by omega) ?_
              simp only [hkk]
              exact bl_asymm hl
            have HL := hide hl
            go_wp2
            go_quiet (fail)
            go_wp2
            go_roundw
            case rel => exact ⟨k + 1, _, by omega, .inr (.inr rfl), by omega, by go_num, by rw [HW.out, World.drewN_drewN], .inr ⟨rfl, HR⟩⟩
            case measure => simp [intOf]; omega
        · have HR : Hid (riseB ls = true) := riseB_iff.2 fun i hi => HD.out i hi (by omega)
          go_wp2
          go_ret
          exact ⟨ret_int (by unfold checkB; rw [if_pos HZ1.out.1, if_pos HZ1.out.2, if_pos HR.out]; rfl), n, HW.out⟩
      · have HW := hide hw
        clear hw
        have HC : Hid (checkB ls = 4) := by show _ = _; unfold checkB; rw [if_pos HZ1.out.1, if_pos HZ1.out.2, if_neg (by rw [HR.out]; simp)]
        by_cases hlt : k < ls.length
        all_goals
          go_wp2
          go_ret
          exact ⟨ret_int (by rw [HC.out]; rfl), n, HW.out⟩
  · have HZ : Hid (checkB ls = eachTwice 1 ls) := by
      show _ = _
      unfold checkB eachTwice
      by_cases h : eachErr 1 ls = 0
      · rw [if_pos h, if_pos h]
        by_cases h2 : twiceB ls = false
        · unfold eachTwice at hz; rw [if_pos h, if_pos h2] at hz; exact absurd rfl hz
        · rw [if_neg h2, if_neg h2]
      · rw [if_neg h, if_neg h]
    have hz' : ((eachTwice 1 ls : Int) == 0) = false := by simpa using hz
    have hz2 := HZ.out
    generalize eachTwice 1 ls = e0 at hz hz' hz2 HZ
    clear hz2
    go_wp2
    go_loopw [3, 4] (fun e i wr => e = .int .i64 e0 ∧ i = .int .i64 1 ∧ wr = w1) (fun _ i _ => 0)
    case atStart => exact ⟨rfl, rfl, rfl⟩
    case round =>
      obtain ⟨rfl, rfl, rfl⟩ := hrel
      by_cases hlt : (1 : Int) < ls.length
      all_goals
        go_wp2
        go_ret
        exact ⟨ret_int (by rw [HZ.out]), n1, HW1.out⟩
end Go.Proofs.YtkaeogldielkfaaGreat.Lb
