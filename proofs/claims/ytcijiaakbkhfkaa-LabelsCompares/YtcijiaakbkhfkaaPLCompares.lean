/- LabelsCompares, for every two lists of labels: Compare answers just what the document says, errors too. No condition. -/
import Derived.Test.YtcijiaakbkhfkaaRows
import Derived.Test.YtcijiaakbkhfkaaKit
import Derived.Test.YtcijiaakbkhfkaaLTwi
import Derived.Test.YtcijiaakbkhfkaaLRefA
import Derived.Test.YtcijiaakbkhfkaaLRefB
import Derived.Test.YtcijiaakbkhfkaaLCmp
import Derived.Test.YtcijiaakbkhfkaaLBeg
import Derived.ProofKit
import Derived.BigQuiet
import Derived.BigFrame
set_option linter.unusedVariables false
set_option linter.unusedSimpArgs false
namespace Go.Proofs.Ytcijiaakbkhfkaa
open Go.ChangeShapes Go.WideShapes Go.ChangeAt Go.RowKit
open Go.ChangeMaps (open_string shut_string)
attribute [local go_sem] bs_size bs_toList bs_append bs_get bs_extract

set_option maxRecDepth 20000 in
set_option maxHeartbeats 1000000 in
theorem labelsCompares_any (w : World) (va : Value) (a : List Lab) (ha : readsLabels w w.heap.size va a) (hal : a.length ≤ 9223372036854775807) (hai : lensOk a) (vb : Value) (b : List Lab) (hb : readsLabels w w.heap.size vb b) (hbl : b.length ≤ 9223372036854775807) (hbi : lensOk b) :
    Calls Try.prog 9 #[va, vb] w fun e w' => e = .returned (.bool true) ∧ Below w.heap.size w w' := by
  have HA := hide ha
  have HB := hide hb
  have HAI := hide hai
  have HBI := hide hbi
  clear ha hb hai hbi
  go_enter Try.func9, Try.ntmps9
  go_wp2_with fail
  refine (compare_any w va vb a b HA.out hal HAI.out HB.out hbl HBI.out).mono ?_
  rintro e w1 ⟨rfl, hb1⟩
  go_wp2_with fail
  refine (rCheckLabels_any w1 va a (readsLabels_mono (readsLabels_below HA.out hb1) hb1.size) hal HAI.out).mono ?_
  rintro e w2 ⟨rfl, n2, hw2⟩
  have hb2 : Below w.heap.size w w2 := by rw [hw2]; exact hb1.trans ⟨rfl, rfl, rfl, Nat.le_refl _, fun _ _ => rfl⟩
  clear hw2
  by_cases h0 : checkB a = 0
  · have H0 := hide h0
    have HE := hide (cmpErr_b (b := b) h0)
    rw [h0, HE.out]
    clear h0
    go_wp2_with fail
    refine (rCheckLabels_any w2 vb b (readsLabels_mono (readsLabels_below HB.out hb2) hb2.size) hbl HBI.out).mono ?_
    rintro e w3 ⟨rfl, n3, hw3⟩
    have hb3 : Below w.heap.size w w3 := by rw [hw3]; exact hb2.trans ⟨rfl, rfl, rfl, Nat.le_refl _, fun _ _ => rfl⟩
    clear hw3
    by_cases h1 : checkB b = 0
    · have h20a := (eachErr_names (checkB_zero.1 H0.out).1).1
      have h20b := (eachErr_names (checkB_zero.1 h1).1).1
      have HC := hide (cmpAns_ok (cmpErr_zero.2 ⟨H0.out, h1⟩))
      rw [h1, HC.out]
      clear h1
      go_wp2_with fail
      refine (rOrder_any w3 va vb a b (readsLabels_mono (readsLabels_below HA.out hb3) hb3.size) (readsLabels_mono (readsLabels_below HB.out hb3) hb3.size) h20a h20b).mono ?_
      rintro e w4 ⟨rfl, n4, hw4⟩
      have hb4 : Below w.heap.size w w4 := by rw [hw4]; exact hb3.trans ⟨rfl, rfl, rfl, Nat.le_refl _, fun _ _ => rfl⟩
      clear hw4
      go_wp2_with fail
      refine (labelsBegun_any w4).mono ?_
      rintro e w5 ⟨rfl, hb5⟩
      go_wp2
      go_ret
      exact ⟨ret_bool (by simp), hb4.trans (hb5.mono hb4.size)⟩
    · have HC := hide (cmpAns_no (a := a) (b := b) (fun e => h1 (cmpErr_zero.1 e).2))
      have hne : ((checkB b : Int) == 0) = false := by simpa using h1
      rw [HC.out]
      generalize checkB b = e1 at hne ⊢
      clear h1
      go_wp2_with fail
      refine (labelsBegun_any w3).mono ?_
      rintro e w5 ⟨rfl, hb5⟩
      go_wp2
      go_ret
      exact ⟨ret_bool (by simp), hb3.trans (hb5.mono hb3.size)⟩
  · have HE := hide (cmpErr_a (b := b) h0)
    have HC := hide (cmpAns_no (a := a) (b := b) (fun e => h0 (cmpErr_zero.1 e).1))
    have hne : ((checkB a : Int) == 0) = false := by simpa using h0
    rw [HE.out, HC.out]
    generalize checkB a = e1 at hne ⊢
    clear h0
    go_wp2_with fail
    refine (labelsBegun_any w2).mono ?_
    rintro e w5 ⟨rfl, hb5⟩
    go_wp2
    go_ret
    exact ⟨ret_bool (by simp), hb2.trans (hb5.mono hb2.size)⟩

theorem Try.own : ownKnob Try.prog.godebug = none := by kernel_rfl
theorem Try.laidOut : laidOutB Try.prog = true := by kernel_rfl

set_option maxRecDepth 100000 in
theorem labelsCompares_lifted (os : Os) (started : os.Started) (H : Type) (enc : TypeId × Value → H) :
    ReturnsInHanded {} Try.checked os 9 .any (Rows.labelsComparesSpec.pre6 enc Try.prog Try.f9 Rows.labelsComparesRow.domain false) (Rows.labelsComparesSpec.post enc Try.prog Try.f9 false true false false) := by
  refine returnsInHanded_of_change (C := Try.checked) Try.own started (by kernel_rfl) Try.func9
    (ChangeSpec.witness6 (enc := enc) (C := Try.checked) false ⟨#[], #[.slice none 0 0, .slice none 0 0], []⟩ 8 (by kernel_rfl) (by kernel_rfl) (by kernel_rfl) (by kernel_rfl)) ?_
  intro W base args ds gs before hval0 hW hcnd _
  have hval : ∀ (j : Nat) t v, Try.f9.params[j]? = some t → args[j]? = some v → Value.okWide Try.prog W .any base t v := hval0
  have hW' := hW
  obtain ⟨p, q, hA0, hV, rfl, hfz, hnd⟩ := hW
  have hA : DataW.TrodAll enc Try.prog W 0 (fun _ => true) true Try.f9.params.toList args.toList ds p := hA0
  rw [Try.params9] at hA hval
  obtain ⟨v0, v1, d0, d1, p0, p1, rfl, rfl, rfl, h0, h1⟩ := trodAll_two hA
  obtain ⟨rfl, rfl⟩ := trodVars_none hV
  have hk0 := h0
  obtain ⟨a0, len0, cap0, rfl⟩ := okWide_slice Try.underlying24 (hval 0 24 v0 rfl rfl)
  obtain ⟨fuel0, hf0⟩ := h0
  obtain ⟨ls0, hr0, hl0, hi0⟩ := open_labels hf0
  have hk1 := h1
  obtain ⟨a1, len1, cap1, rfl⟩ := okWide_slice Try.underlying24 (hval 1 24 v1 rfl rfl)
  obtain ⟨fuel1, hf1⟩ := h1
  obtain ⟨ls1, hr1, hl1, hi1⟩ := open_labels hf1
  clear hA0 hval0
  simp only [List.append_nil, List.nil_append] at hW'
  have hlt := fun x hx => hW'.lt x hx
  have hc := labelsCompares_any W _ ls0 hr0 hl0 hi0 _ ls1 hr1 hl1 hi1
  refine hc.mono fun e W' ⟨he, hnx⟩ => ?_
  subst he
  refine ⟨_, rfl, _, _, _, [], (p0 ++ (p1)), [], hW', ?_, ?_, rfl, hnx.frame _, fun h => by cases h⟩
  · exact trodAll_mk1 (shut_bool Try.underlying4 _)
  · exact trodAll_eq (trodAll_mk2 (Below.trod Try.laidOut (by kernel_rfl) (of_decide_eq_true (by kernel_rfl)) hk0 hnx (fun x hx => hlt x (by simp [hx]))) (Below.trod Try.laidOut (by kernel_rfl) (of_decide_eq_true (by kernel_rfl)) hk1 hnx (fun x hx => hlt x (by simp [hx])))) (by simp)

theorem labelsCompares_holds : Rows.LabelsComparesSaid :=
  OpenClaim.holds_of_wide 9 Try.f9 rfl rfl rfl rfl rfl rfl rfl ⟨rfl, rfl, rfl, rfl, rfl⟩ rfl rfl rfl rfl rfl (by kernel_rfl) Try.func9 (by kernel_rfl)
    (of_decide_eq_true (by kernel_rfl)) (by unfold Func.isWrapper; first | (rw [if_pos (by decide +kernel)]; kernel_rfl) | (rw [if_neg (by decide +kernel)]; exact ⟨rfl, rfl⟩))
    (fun os started H enc _ => labelsCompares_lifted os started H enc)

end Go.Proofs.Ytcijiaakbkhfkaa
