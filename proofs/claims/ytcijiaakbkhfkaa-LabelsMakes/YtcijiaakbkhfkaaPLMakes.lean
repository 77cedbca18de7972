/- LabelsMakes, for all labels: Make answers just what the document says, errors too. No condition. -/
import Derived.Test.YtcijiaakbkhfkaaRows
import Derived.Test.YtcijiaakbkhfkaaKit
import Derived.Test.YtcijiaakbkhfkaaLTwi
import Derived.Test.YtcijiaakbkhfkaaLRefA
import Derived.Test.YtcijiaakbkhfkaaLRefC
import Derived.Test.YtcijiaakbkhfkaaLMak
import Derived.Test.YtcijiaakbkhfkaaLBeg
import Derived.ProofKit
import Derived.BigQuiet
import Derived.BigFrame
set_option linter.unusedVariables false
set_option linter.unusedSimpArgs false
namespace Go.Proofs.Ytcijiaakbkhfkaa
open Go.ChangeShapes Go.WideShapes Go.ChangeAt Go.RowKit
open Go.ChangeMaps (open_string shut_string)
attribute [local go_sem] bs_size bs_toList bs_append bs_get bs_extract

set_option maxRecDepth 20000 in
set_option maxHeartbeats 1000000 in
theorem labelsMakes_any (w : World) (v : Value) (ls : List Lab) (hv : readsLabels w w.heap.size v ls) (hl : ls.length ≤ 9223372036854775807) (hi : lensOk ls) :
    Calls Try.prog 5 #[v] w fun e w' => e = .returned (.bool true) ∧ Below w.heap.size w w' := by
  have HV := hide hv
  have HI := hide hi
  clear hv hi
  have HEq : Hid (eachTwice 0 ls = makeErr ls) := rfl
  go_enter Try.func5, Try.ntmps5
  go_wp2_with fail
  refine (make_any w v ls HV.out hl HI.out).mono ?_
  rintro e w1 ⟨v1, rfl, hown1, hb1⟩
  have HO := hide hown1
  clear hown1
  go_wp2_with fail
  refine (rEachLabel_any w1 v ls true (readsLabels_mono (readsLabels_below HV.out hb1) hb1.size) hl HI.out).mono ?_
  rintro e w2 ⟨rfl, k2, hw2⟩
  have hg12 : Grow w1 w2 := by rw [hw2]; exact ⟨rfl, rfl, rfl, Nat.le_refl _, fun _ _ => rfl⟩
  have hb2 : Below w.heap.size w w2 := hb1.trans (hg12.mono hb1.size)
  clear hw2
  simp only [if_true]
  rw [HEq.out]
  by_cases h0 : makeErr ls = 0
  · have hl20 : ls.length ≤ 20 := by
      have : eachErr 0 ls = 0 := by
        by_cases h : eachErr 0 ls = 0
        · exact h
        · rw [makeErr_each h] at h0; exact absurd h0 h
      exact (eachErr_names this).1
    have HA := hide (makeAns_ok h0)
    have hml := makeL_len ls
    rw [HA.out] at HO
    rw [h0]
    clear h0
    go_wp2_with fail
    refine (rMakeLabels_any w2 v ls (readsLabels_mono (readsLabels_below HV.out hb2) hb2.size) (by omega)).mono ?_
    rintro e w3 ⟨v3, rfl, hown3, hb3'⟩
    have hb3 : Below w.heap.size w w3 := hb2.trans (hb3'.mono hb2.size)
    have hg13 : Grow w1 w3 := Grow.trans hg12 hb3'
    have HO3 := hide hown3
    clear hown3 hb3'
    go_wp2_with fail
    refine (labelsBegun_any w3).mono ?_
    rintro e w4 ⟨rfl, hb4⟩
    have hg14 : Grow w1 w4 := Grow.trans hg13 hb4
    have r1 := reads_ownLabels (own_grow HO.out hg14)
    have r3 := reads_ownLabels (own_grow HO3.out hb4)
    go_wp2_with fail
    refine (labelsAre_any w4 v1 v3 _ _ 0 r1 r3 (by omega) (by omega) (.inr ⟨rfl, rfl⟩)).mono ?_
    rintro e w5 ⟨rfl, hb5⟩
    go_wp2
    go_ret
    exact ⟨rfl, (hb3.trans (hb4.mono hb3.size)).trans (hb5.mono (Nat.le_trans hb3.size hb4.size))⟩
  · have HA := hide (makeAns_no h0)
    have hne : ((makeErr ls : Int) == 0) = false := by simpa using h0
    have HNE : Hid ((makeErr ls : Int) ≠ 0) := by show _ ≠ _; omega
    rw [HA.out] at HO
    generalize makeErr ls = e1 at hne HNE ⊢
    clear h0
    go_wp2_with fail
    refine (labelsBegun_any w2).mono ?_
    rintro e w4 ⟨rfl, hb4⟩
    have hg14 : Grow w1 w4 := Grow.trans hg12 hb4
    have r1 := reads_ownLabels (own_grow HO.out hg14)
    have r3 : readsLabels w4 w4.heap.size (.slice none 0 0) [] := ⟨none, 0, rfl, fun i hi => by simp at hi⟩
    go_wp2_with fail
    refine (labelsAre_any w4 v1 _ _ _ e1 r1 r3 (by simp) (by simp) (.inl ⟨HNE.out, rfl⟩)).mono ?_
    rintro e w5 ⟨rfl, hb5⟩
    go_wp2
    go_ret
    exact ⟨rfl, (hb2.trans (hb4.mono hb2.size)).trans (hb5.mono (Nat.le_trans hb2.size hb4.size))⟩

theorem Try.own : ownKnob Try.prog.godebug = none := by kernel_rfl
theorem Try.laidOut : laidOutB Try.prog = true := by kernel_rfl

set_option maxRecDepth 100000 in
theorem labelsMakes_lifted (os : Os) (started : os.Started) (H : Type) (enc : TypeId × Value → H) :
    ReturnsInHanded {} Try.checked os 5 .any (Rows.labelsMakesSpec.pre6 enc Try.prog Try.f5 Rows.labelsMakesRow.domain false) (Rows.labelsMakesSpec.post enc Try.prog Try.f5 false true false false) := by
  refine returnsInHanded_of_change (C := Try.checked) Try.own started (by kernel_rfl) Try.func5
    (ChangeSpec.witness6 (enc := enc) (C := Try.checked) false ⟨#[], #[.slice none 0 0], []⟩ 8 (by kernel_rfl) (by kernel_rfl) (by kernel_rfl) (by kernel_rfl)) ?_
  intro W base args ds gs before hval0 hW hcnd _
  have hval : ∀ (j : Nat) t v, Try.f5.params[j]? = some t → args[j]? = some v → Value.okWide Try.prog W .any base t v := hval0
  have hW' := hW
  obtain ⟨p, q, hA0, hV, rfl, hfz, hnd⟩ := hW
  have hA : DataW.TrodAll enc Try.prog W 0 (fun _ => true) true Try.f5.params.toList args.toList ds p := hA0
  rw [Try.params5] at hA hval
  obtain ⟨v0, d0, rfl, rfl, h0⟩ := trodAll_one hA
  obtain ⟨rfl, rfl⟩ := trodVars_none hV
  have hk0 := h0
  obtain ⟨a0, len0, cap0, rfl⟩ := okWide_slice Try.underlying24 (hval 0 24 v0 rfl rfl)
  obtain ⟨fuel0, hf0⟩ := h0
  obtain ⟨ls0, hr0, hl0, hi0⟩ := open_labels hf0
  clear hA0 hval0
  simp only [List.append_nil, List.nil_append] at hW'
  have hlt := fun x hx => hW'.lt x hx
  have hc := labelsMakes_any W _ ls0 hr0 hl0 hi0
  refine hc.mono fun e W' ⟨he, hnx⟩ => ?_
  subst he
  refine ⟨_, rfl, _, _, _, [], (p), [], hW', ?_, ?_, rfl, hnx.frame _, fun h => by cases h⟩
  · exact trodAll_mk1 (shut_bool Try.underlying4 _)
  · exact trodAll_eq (trodAll_mk1 (Below.trod Try.laidOut (by kernel_rfl) (of_decide_eq_true (by kernel_rfl)) hk0 hnx (fun x hx => hlt x (by simp [hx])))) (by simp)

theorem labelsMakes_holds : Rows.LabelsMakesSaid :=
  OpenClaim.holds_of_wide 5 Try.f5 rfl rfl rfl rfl rfl rfl rfl ⟨rfl, rfl, rfl, rfl, rfl⟩ rfl rfl rfl rfl rfl (by kernel_rfl) Try.func5 (by kernel_rfl)
    (of_decide_eq_true (by kernel_rfl)) (by unfold Func.isWrapper; first | (rw [if_pos (by decide +kernel)]; kernel_rfl) | (rw [if_neg (by decide +kernel)]; exact ⟨rfl, rfl⟩))
    (fun os started H enc _ => labelsMakes_lifted os started H enc)

end Go.Proofs.Ytcijiaakbkhfkaa
