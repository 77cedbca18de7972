/- 1 texts in one. -/
import Derived.Test.YtndpjdmfkhjiiaaGreatDoorProg
import Derived.Test.YtndpjdmfkhjiiaaGreatDoorK97fdc06
import Derived.Test.YtndpjdmfkhjiiaaGreatDoorKbff346a
import Derived.Test.YtndpjdmfkhjiiaaGreatDoorK309f1d1
import Derived.Test.YtndpjdmfkhjiiaaGreatDoorK58b8031
import Derived.Test.YtndpjdmfkhjiiaaGreatDoorK6416f58
import Derived.Test.YtndpjdmfkhjiiaaGreatDoorKd9d6983
set_option linter.unusedVariables false
set_option linter.unusedSimpArgs false
namespace Go.Proofs.YtndpjdmfkhjiiaaGreatDoor.Lb
open Go.RowKit
attribute [local go_sem] bs_size bs_toList bs_append bs_get bs_extract
set_option maxHeartbeats 400000 in
theorem clone_any (s : List UInt8) (w : World) (hs : s.length ≤ 1000) : Calls Tryz.prog 50 #[.string (bs s)] w fun e w' => e = .returned (.string (bs s)) ∧ Below w.heap.size w w' := by
  have hc := Tryz.stringslite_Clone (bs s) w (by rw [bs_size]; omega)
  have HC := hide hc
  clear hc
  go_enter Tryz.func50, Tryz.ntmps50
  go_wp2_with (go_at_call 88; refine HC.out.mono ?_; rintro e w' ⟨rfl, hb⟩)
  go_ret
  exact ⟨rfl, hb⟩
theorem getAns_ok {l : List Lab} {n : List UInt8} (h : getErr l n = 0) : getAns l n = valueB l n := by unfold getAns; rw [if_pos h]
theorem getAns_no {l : List Lab} {n : List UInt8} (h : getErr l n ≠ 0) : getAns l n = [] := by unfold getAns; rw [if_neg h]
set_option maxRecDepth 20000 in
set_option maxHeartbeats 1000000 in
theorem get_any (w : World) (v : Value) (ls : List Lab) (n : List UInt8) (hv : readsLabels w w.heap.size v ls) (hlen : ls.length ≤ 9223372036854775807) (hin : lensOk ls) (hn : n.length ≤ maxLen) :
    Calls Tryz.prog 19 #[v, .string (bs n)] w fun e w' => e = .returned (.tuple #[.string (bs (getAns ls n)), .int .i64 (getErr ls n)]) ∧ Below w.heap.size w w' := by
  obtain ⟨ao, cp, hvv⟩ := readsLabels_len hv
  have HV := hide hv
  have HI := hide hin
  clear hv hin
  subst hvv
  go_enter Tryz.func19, Tryz.ntmps19
  go_wp2_with fail
  refine (check_any w _ ls HV.out hlen HI.out).mono ?_
  rintro e w1 ⟨rfl, hb1⟩
  have hs1 := hb1.size
  by_cases h0 : checkB ls = 0
  · have HL : Hid (ls.length ≤ 20 ∧ ∀ x ∈ ls, x.1.length ≤ 40 ∧ x.2.length ≤ 100) := eachErr_names (checkB_zero.1 h0).1
    have H0 := hide h0
    rw [h0]
    clear h0
    have h20 : ls.length ≤ 20 := HL.out.1
    cases hnm : nameB n with
    | false =>
      have HE : Hid (getErr ls n = 1) := by show _ = _; unfold getErr; rw [if_pos H0.out, if_neg (by rw [hnm]; simp)]
      have HN := hide hnm
      clear hnm
      go_wp2_with (go_at_call 49; refine (isName_any _ _ hn).mono ?_; rintro e w' ⟨rfl, rfl⟩; rw [HN.out])
      go_ret2
      exact ⟨ret2 (vstr (by rw [getAns_no (by rw [HE.out]; omega)])) (vint (by rw [HE.out]; rfl)), hb1⟩
    | true =>
      have HE : Hid (getErr ls n = 0) := by show _ = _; unfold getErr; rw [if_pos H0.out, if_pos hnm]
      have HN := hide hnm
      clear hnm
      go_wp2_with (go_at_call 49; refine (isName_any _ _ hn).mono ?_; rintro e w' ⟨rfl, rfl⟩; rw [HN.out])
      rename World => w1
      go_loopw [19] (fun i wr => ∃ k : Nat, k ≤ ls.length ∧ i = .int .i64 k ∧ Below w.heap.size w wr ∧ Hid (∀ j (hj : j < ls.length), j < k → ls[j].1 ≠ n)) (fun i _ => ls.length - (intOf i).toNat)
      case atStart => exact ⟨0, by omega, rfl, hb1, hide (fun j _ h => by omega)⟩
      case round =>
        obtain ⟨k, hk, rfl, hb, HD⟩ := hrel
        have hbs := hb.size
        by_cases hlt : k < ls.length
        · obtain ⟨_, _, hev, hc0⟩ := id HV.out
          simp at hev
          obtain ⟨rfl, rfl⟩ := hev
          obtain ⟨lb, lo, rfl, hlB, c0, c1⟩ := hc0 k hlt
          have d0 := (hb.cell (p := ⟨lb, lo + k * 2, none⟩) hlB).trans c0
          have d1 := (hb.cell (p := ⟨lb, lo + k * 2 + 1, none⟩) hlB).trans c1
          clear c0 c1 hc0
          obtain ⟨hl0, hl1⟩ := HL.out.2 _ (List.getElem_mem hlt)
          by_cases he : ls[k].1 = n
          · have HVal := hide (valueB_at hlt HD.out he)
            rw [he] at d0
            obtain ⟨x, HX⟩ : ∃ x : Lab, Hid (ls[k] = x) := ⟨_, hide rfl⟩
            rw [HX.out] at d1 hl1 HVal
            clear he hl0
            go_wp2_with (go_at_call 50; refine (clone_any _ _ (by omega)).mono ?_; rintro e w2 ⟨rfl, hb2⟩)
            go_ret2
            exact ⟨ret2 (vstr (by rw [getAns_ok HE.out, HVal.out])) (vint (by rw [HE.out]; rfl)), (hb.alloc hbs _).trans (hb2.mono (by simp; omega))⟩
          · have HNe := hide he
            have he' : (ls[k].1 == n) = false := by simpa using he
            clear he
            go_wp2
            go_roundw
            case rel => exact ⟨k + 1, by omega, by go_num, hb.alloc hbs _, hide (fun j hj h => by
              by_cases e : j = k
              · subst e; exact HNe.out
              · exact HD.out j hj (by omega))⟩
            case measure => simp [intOf]; omega
        · have HVal : Hid (valueB ls n = []) := valueB_none fun j hj => HD.out j hj (by omega)
          go_wp2
          go_ret2
          exact ⟨ret2 (vstr (by rw [getAns_ok HE.out, HVal.out])) (vint (by rw [HE.out]; rfl)), hb⟩
  · have H0 := hide h0
    have hne : ((checkB ls : Int) != 0) = true := by simpa using h0
    have HE : Hid (getErr ls n = checkB ls) := by show _ = _; unfold getErr; rw [if_neg h0]
    clear h0
    go_wp2
    go_ret2
    exact ⟨ret2 (vstr (by rw [getAns_no (by rw [HE.out]; exact H0.out)])) (vint (by rw [HE.out])), hb1⟩
end Go.Proofs.YtndpjdmfkhjiiaaGreatDoor.Lb
