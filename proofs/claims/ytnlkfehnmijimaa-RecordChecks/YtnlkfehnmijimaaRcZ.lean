/- record: the document's own checks of refs and times. -/
import Derived.Laws.OwnMore
import Derived.Test.YtnlkfehnmijimaaProg
import Derived.Test.YtnlkfehnmijimaaKit
import Derived.Test.YtnlkfehnmijimaaSpec
import Derived.Test.YtnlkfehnmijimaaReg
import Derived.Test.YtnlkfehnmijimaaLRow
import Derived.Test.YtnlkfehnmijimaaLRefA
import Derived.Test.YtnlkfehnmijimaaRcA
import Derived.Test.YtnlkfehnmijimaaRcM
import Derived.Test.YtnlkfehnmijimaaRcN
import Derived.BigQuiet
set_option linter.unusedVariables false
set_option linter.unusedSimpArgs false
namespace Go.Proofs.Ytnlkfehnmijimaa.Rc
open Go.RowKit Lb
attribute [local go_sem] bs_size bs_toList bs_append bs_get bs_extract

set_option maxHeartbeats 1000000 in
theorem isRef_any (n : Int) (w : World) : Calls Try.prog 22 #[.int .i64 n] w fun e w' => e = .returned (.bool (decide (numErr n = 0))) ∧ w' = w := by
  unfold numErr
  by_cases h1 : 1 ≤ n
  · by_cases h2 : n ≤ 1000000
    · rw [if_pos ⟨h1, h2⟩, decide_eq_true rfl]
      go_enter Try.func22, Try.ntmps22
      go_wp2
      go_ret
      exact ⟨ret_bool (by simp), rfl⟩
    · rw [if_neg (fun h => h2 h.2), decide_eq_false (by decide)]
      have h3 : ¬ n ≤ 1000000 := h2
      go_enter Try.func22, Try.ntmps22
      go_wp2
      go_ret
      exact ⟨ret_bool (by simp; try omega), rfl⟩
  · rw [if_neg (fun h => h1 h.1), decide_eq_false (by decide)]
    go_enter Try.func22, Try.ntmps22
    go_wp2
    go_ret
    exact ⟨ret_bool (by simp), rfl⟩
set_option maxHeartbeats 1000000 in
theorem isTime_any (n : Int) (w : World) : Calls Try.prog 23 #[.int .i64 n] w fun e w' => e = .returned (.bool (decide (timeErr n = 0))) ∧ w' = w := by
  unfold timeErr
  by_cases h1 : -9007199254740991 ≤ n
  · by_cases h2 : n ≤ 9007199254740991
    · rw [if_pos ⟨h1, h2⟩, decide_eq_true rfl]
      go_enter Try.func23, Try.ntmps23
      go_wp2
      go_ret
      exact ⟨ret_bool (by simp), rfl⟩
    · rw [if_neg (fun h => h2 h.2), decide_eq_false (by decide)]
      go_enter Try.func23, Try.ntmps23
      go_wp2
      go_ret
      exact ⟨ret_bool (by simp; try omega), rfl⟩
  · rw [if_neg (fun h => h1 h.1), decide_eq_false (by decide)]
    go_enter Try.func23, Try.ntmps23
    go_wp2
    go_ret
    exact ⟨ret_bool (by simp), rfl⟩
set_option maxRecDepth 20000 in
set_option maxHeartbeats 2000000 in
theorem rCheckRef_any (w : World) (x : RefL) (vl : Value) (hv : readsLabels w w.heap.size vl x.2) (hx : okRef x) :
    Calls Try.prog 21 #[.agg #[.int .i64 x.1, vl]] w fun e w' => e = .returned (.int .i64 (refErr x)) ∧ Grow w w' := by
  obtain ⟨E, HE⟩ : ∃ E, Hid (refErr x = E) := ⟨_, hide rfl⟩
  have HE1 : Hid ((if numErr x.1 ≠ 0 then numErr x.1 else if x.2.length = 0 then 1 else checkB x.2) = E) := HE
  rw [HE.out]
  clear HE
  obtain ⟨x1, ls⟩ := x
  obtain ⟨h0, h1, hl, hin⟩ := hx
  simp only at HE1 hv h0 h1 hl hin
  obtain ⟨lo, lc, rfl⟩ := readsLabels_len hv
  obtain ⟨W, eW, gW, hW⟩ := laid_at w #[.int .i64 x1, .slice lo ls.length lc] 53
  obtain ⟨c0, c1⟩ := two_of hW
  have HG := hide gW
  have HCK := hide (rCheckLabels_any W (.slice lo ls.length lc) ls (readsLabels_mono (readsLabels_below hv gW) gW.size) hl hin)
  generalize checkB ls = ce at HE1 HCK
  clear gW hW hv hin
  go_enter Try.func21, Try.ntmps21
  go_wp2_with fail
  refine (isRef_any x1 W).mono ?_
  rintro e w1 ⟨rfl, hw1⟩
  subst hw1
  by_cases hn : numErr x1 = 0
  · rw [if_neg (by omega)] at HE1
    rw [decide_eq_true hn]
    clear hn
    by_cases hz : ls.length = 0
    · rw [if_pos hz] at HE1
      have hzi : ((ls.length : Int) == 0) = true := by simp [hz]
      have hE : Hid (1 = E) := HE1
      clear hz
      go_wp2
      go_ret
      exact ⟨ret_int (by rw [← hE.out]; rfl), HG.out⟩
    · rw [if_neg hz] at HE1
      have hzi : ((ls.length : Int) == 0) = false := by rw [beq_eq_false_iff_ne]; omega
      clear hz
      go_wp2_with fail
      refine HCK.out.mono ?_
      rintro e w3 ⟨rfl, n3, hw3⟩
      have HG3 : Hid (Grow w w3) := hide (HG.out.trans (by rw [hw3]; exact ⟨rfl, rfl, rfl, Nat.le_refl _, fun _ _ => rfl⟩))
      clear hw3
      go_wp2
      go_ret
      exact ⟨ret_int (by rw [HE1.out]), HG3.out⟩
  · rw [if_pos hn] at HE1
    have hn3 : numErr x1 = 3 := by
      unfold numErr at hn ⊢
      by_cases h : 1 ≤ x1 ∧ x1 ≤ 1000000
      · rw [if_pos h] at hn; exact absurd rfl hn
      · exact if_neg h
    have hE : Hid (3 = E) := hide (by rw [← HE1.out, hn3])
    rw [decide_eq_false hn]
    clear hn hn3
    go_wp2
    go_ret
    exact ⟨ret_int (by rw [← hE.out]; rfl), HG.out⟩
end Go.Proofs.Ytnlkfehnmijimaa.Rc
