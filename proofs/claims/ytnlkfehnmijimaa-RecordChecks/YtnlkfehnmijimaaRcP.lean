/- record: the checks of a ref, of a record. -/
import Derived.Laws.OwnMore
import Derived.Test.YtnlkfehnmijimaaProg
import Derived.Test.YtnlkfehnmijimaaKit
import Derived.Test.YtnlkfehnmijimaaSpec
import Derived.Test.YtnlkfehnmijimaaReg
import Derived.Test.YtnlkfehnmijimaaLRow
import Derived.Test.YtnlkfehnmijimaaLTwi
import Derived.Test.YtnlkfehnmijimaaRcA
import Derived.Test.YtnlkfehnmijimaaRcM
import Derived.Test.YtnlkfehnmijimaaRcN
import Derived.BigQuiet
set_option linter.unusedVariables false
set_option linter.unusedSimpArgs false
namespace Go.Proofs.Ytnlkfehnmijimaa.Rc
open Go.RowKit Lb
attribute [local go_sem] bs_size bs_toList bs_append bs_get bs_extract

set_option maxRecDepth 20000 in
set_option maxHeartbeats 4000000 in
theorem checkRef_any (w : World) (x : RefL) (vl : Value) (hv : readsLabels w w.heap.size vl x.2) (hx : okRef x) :
    Calls Try.prog 36 #[.agg #[.int .i64 x.1, vl]] w fun e w' => e = outc (refErr x) ∧ Grow w w' := by
  obtain ⟨E, HE⟩ : ∃ E, Hid (refErr x = E) := ⟨_, hide rfl⟩
  have HE1 : Hid ((if numErr x.1 ≠ 0 then numErr x.1 else if x.2.length = 0 then 1 else checkB x.2) = E) := HE
  rw [HE.out]
  clear HE
  obtain ⟨x1, ls⟩ := x
  obtain ⟨h0, h1, hl, hin⟩ := hx
  simp only at HE1 hv h0 h1 hl hin
  obtain ⟨lo, lc, rfl⟩ := readsLabels_len hv
  obtain ⟨W, eW, gW, hW⟩ := laid_at w #[.int .i64 x1, .slice lo ls.length lc] 53
  obtain ⟨c0, c1⟩ := two_of hW
  have HG := hide gW
  have HCK := hide (check_any W (.slice lo ls.length lc) ls (readsLabels_mono (readsLabels_below hv gW) gW.size) hl hin)
  generalize checkB ls = ce at HE1 HCK
  clear gW hW hv hin
  go_enter Try.func36, Try.ntmps36
  go_wp2_with fail
  refine (checkNumber_any x1 W).mono ?_
  rintro e w1 ⟨rfl, hw1⟩
  subst hw1
  by_cases hn : numErr x1 = 0
  · rw [if_neg (by omega)] at HE1
    rw [hn, outc_ok]
    clear hn
    by_cases hz : ls.length = 0
    · rw [if_pos hz] at HE1
      have hzi : ((ls.length : Int) == 0) = true := by simp [hz]
      have hE : Hid (1 = E) := HE1
      clear hz
      go_wp2_with fail
      refine (refuse_any true 1 w1 (by decide)).mono ?_
      rintro e w2 ⟨rfl, hw2⟩
      subst hw2
      rw [if_pos rfl, outc_no (by decide)]
      exact ⟨rfl, by rw [← hE.out, outc_no (by decide)], HG.out⟩
    · rw [if_neg hz] at HE1
      have hzi : ((ls.length : Int) == 0) = false := by rw [beq_eq_false_iff_ne]; omega
      clear hz
      go_wp2_with fail
      refine (refuse_any false 1 w1 (by decide)).mono ?_
      rintro e w2 ⟨rfl, hw2⟩
      subst hw2
      rw [if_neg (by simp), outc_ok]
      go_wp2_with fail
      refine HCK.out.mono ?_
      rintro e w3 ⟨rfl, hg3⟩
      have HG3 : Hid (Grow w w3) := hide (HG.out.trans hg3)
      clear hg3 eW c0 c1
      by_cases hc : ce = 0
      · have hci : ((ce : Int) != 0) = false := by simp [hc]
        have hE : Hid (0 = E) := hide (by rw [← HE1.out, hc])
        have hcz : (ce : Int) = ((ce : Nat) : Int) := rfl
        clear hc
        go_wp2_with fail
        refine (refuse_any false ce w3 (by intro h; cases h)).mono ?_
        rintro e w4 ⟨rfl, hw4⟩
        subst hw4
        rw [if_neg (by simp), outc_ok]
        go_wp2
        go_end0
        exact ⟨by rw [← hE.out]; rfl, HG3.out⟩
      · have hci : ((ce : Int) != 0) = true := by simp; exact hc
        have HC0 := hide hc
        clear hc
        go_wp2_with fail
        refine (refuse_any true ce w3 (fun _ => HC0.out)).mono ?_
        rintro e w4 ⟨rfl, hw4⟩
        subst hw4
        rw [if_pos rfl, outc_no HC0.out]
        exact ⟨rfl, by rw [← HE1.out, outc_no HC0.out], HG3.out⟩
  · rw [if_pos hn] at HE1
    rw [outc_no hn]
    exact ⟨rfl, by rw [← HE1.out, outc_no hn], HG.out⟩
theorem refsErr_at {l : List RefL} {k : Nat} (hk : k < l.length) (h : ∀ j (hj : j < l.length), j < k → refErr l[j] = 0) (hf : refErr l[k] ≠ 0) : refsErr l = refErr l[k] := by
  induction l generalizing k with
  | nil => simp at hk
  | cons x l ih =>
    cases k with
    | zero => show (if refErr x ≠ 0 then refErr x else refsErr l) = _; exact if_pos hf
    | succ k =>
      have h0 : refErr x = 0 := h 0 (by simp) (by omega)
      show (if refErr x ≠ 0 then refErr x else refsErr l) = _
      rw [if_neg (by omega)]
      exact ih (by simpa using hk) (fun j hj hjk => h (j + 1) (by simpa using hj) (by omega)) hf
theorem refsErr_all {l : List RefL} (h : ∀ j (hj : j < l.length), refErr l[j] = 0) : refsErr l = 0 := by
  induction l with
  | nil => rfl
  | cons x l ih =>
    have h0 : refErr x = 0 := h 0 (by simp)
    show (if refErr x ≠ 0 then refErr x else refsErr l) = _
    rw [if_neg (by omega)]
    exact ih fun j hj => h (j + 1) (by simpa using hj)
theorem pointsErr_at {l : List Pnt} {k : Nat} (hk : k < l.length) (h : ∀ j (hj : j < l.length), j < k → pointErr l[j] = 0) (hf : pointErr l[k] ≠ 0) : pointsErr l = pointErr l[k] := by
  induction l generalizing k with
  | nil => simp at hk
  | cons x l ih =>
    cases k with
    | zero => show (if pointErr x ≠ 0 then pointErr x else pointsErr l) = _; exact if_pos hf
    | succ k =>
      have h0 : pointErr x = 0 := h 0 (by simp) (by omega)
      show (if pointErr x ≠ 0 then pointErr x else pointsErr l) = _
      rw [if_neg (by omega)]
      exact ih (by simpa using hk) (fun j hj hjk => h (j + 1) (by simpa using hj) (by omega)) hf
theorem pointsErr_all {l : List Pnt} (h : ∀ j (hj : j < l.length), pointErr l[j] = 0) : pointsErr l = 0 := by
  induction l with
  | nil => rfl
  | cons x l ih =>
    have h0 : pointErr x = 0 := h 0 (by simp)
    show (if pointErr x ≠ 0 then pointErr x else pointsErr l) = _
    rw [if_neg (by omega)]
    exact ih fun j hj => h (j + 1) (by simpa using hj)
end Go.Proofs.Ytnlkfehnmijimaa.Rc
