/- LabelsGets, for all labels and every name: Get answers just what the document says, errors too. No condition. -/
import Derived.Test.YtcijiaakbkhfkaaRows
import Derived.Test.YtcijiaakbkhfkaaKit
import Derived.Test.YtcijiaakbkhfkaaLChk
import Derived.Test.YtcijiaakbkhfkaaLTwi
import Derived.Test.YtcijiaakbkhfkaaLRefA
import Derived.Test.YtcijiaakbkhfkaaLRefB
import Derived.Test.YtcijiaakbkhfkaaLGet
import Derived.Test.YtcijiaakbkhfkaaLBeg
import Derived.ProofKit
import Derived.BigQuiet
import Derived.BigFrame
set_option linter.unusedVariables false
set_option linter.unusedSimpArgs false
namespace Go.Proofs.Ytcijiaakbkhfkaa
open Go.ChangeShapes Go.WideShapes Go.ChangeAt Go.RowKit
open Go.ChangeMaps (open_string shut_string)
attribute [local go_sem] bs_size bs_toList bs_append bs_get bs_extract

set_option maxRecDepth 20000 in
set_option maxHeartbeats 1000000 in
theorem labelsGets_any (w : World) (v : Value) (ls : List Lab) (hv : readsLabels w w.heap.size v ls) (hl : ls.length ≤ 9223372036854775807) (hi : lensOk ls) (n : List UInt8) (hn : n.length ≤ maxLen) :
    Calls Try.prog 6 #[v, .string (bs n)] w fun e w' => e = .returned (.bool true) ∧ Below w.heap.size w w' := by
  have HV := hide hv
  have HI := hide hi
  clear hv hi
  go_enter Try.func6, Try.ntmps6
  go_wp2_with fail
  refine (get_any w v ls n HV.out hl HI.out hn).mono ?_
  rintro e w1 ⟨rfl, hb1⟩
  go_wp2_with fail
  refine (rCheckLabels_any w1 v ls (readsLabels_mono (readsLabels_below HV.out hb1) hb1.size) hl HI.out).mono ?_
  rintro e w2 ⟨rfl, k2, hw2⟩
  have hb2 : Below w.heap.size w w2 := by rw [hw2]; exact hb1.trans ⟨rfl, rfl, rfl, Nat.le_refl _, fun _ _ => rfl⟩
  clear hw2
  by_cases h0 : checkB ls = 0
  · have H0 := hide h0
    cases hnm : nameB n with
    | true =>
      have HE : Hid (getErr ls n = 0) := by show _ = _; unfold getErr; rw [if_pos H0.out, if_pos hnm]
      have HA := hide (getAns_ok HE.out)
      have HN := hide hnm
      rw [h0, HE.out]
      clear h0 hnm
      go_wp2_with (go_at_call 15; refine (rIsName_any _ _ hn).mono ?_; rintro e w' ⟨rfl, rfl⟩; rw [HN.out])
      rename World => w2
      go_wp2_with fail
      refine (labelsBegun_any w2).mono ?_
      rintro e w3 ⟨rfl, hb3'⟩
      have hb3 : Below w.heap.size w w3 := hb2.trans (hb3'.mono hb2.size)
      clear hb3'
      go_wp2_with fail
      refine (rValueOf_any w3 v ls n (readsLabels_mono (readsLabels_below HV.out hb3) hb3.size) hl).mono ?_
      rintro e w4 ⟨rfl, k4, hw4⟩
      have hb4 : Below w.heap.size w w4 := by rw [hw4]; exact hb3.trans ⟨rfl, rfl, rfl, Nat.le_refl _, fun _ _ => rfl⟩
      clear hw4
      go_wp2_with fail
      refine (textIs_any w4 _ _ 0 (.inr ⟨rfl, HA.out⟩)).mono ?_
      rintro e w5 ⟨rfl, rfl⟩
      go_wp2
      go_ret
      exact ⟨rfl, hb4⟩
    | false =>
      have HE : Hid (getErr ls n = 1) := by show _ = _; unfold getErr; rw [if_pos H0.out, if_neg (by rw [hnm]; simp)]
      have HA := hide (getAns_no (l := ls) (n := n) (by rw [HE.out]; omega))
      have HN := hide hnm
      rw [h0, HE.out, HA.out]
      clear h0 hnm
      go_wp2_with (go_at_call 15; refine (rIsName_any _ _ hn).mono ?_; rintro e w' ⟨rfl, rfl⟩; rw [HN.out])
      rename World => w2
      go_wp2_with fail
      refine (labelsBegun_any w2).mono ?_
      rintro e w3 ⟨rfl, hb3'⟩
      have hb3 : Below w.heap.size w w3 := hb2.trans (hb3'.mono hb2.size)
      clear hb3'
      go_wp2_with fail
      refine (rValueOf_any w3 v ls n (readsLabels_mono (readsLabels_below HV.out hb3) hb3.size) hl).mono ?_
      rintro e w4 ⟨rfl, k4, hw4⟩
      have hb4 : Below w.heap.size w w4 := by rw [hw4]; exact hb3.trans ⟨rfl, rfl, rfl, Nat.le_refl _, fun _ _ => rfl⟩
      clear hw4
      go_wp2_with fail
      refine (textIs_any w4 [] _ 1 (.inl ⟨by omega, rfl⟩)).mono ?_
      rintro e w5 ⟨rfl, rfl⟩
      go_wp2
      go_ret
      exact ⟨rfl, hb4⟩
  · have HE : Hid (getErr ls n = checkB ls) := by show _ = _; unfold getErr; rw [if_neg h0]
    have HA := hide (getAns_no (l := ls) (n := n) (by rw [HE.out]; exact h0))
    have hne : ((checkB ls : Int) == 0) = false := by simpa using h0
    have hne2 : (checkB ls : Int) ≠ 0 := by omega
    have HNE := hide hne2
    rw [HE.out, HA.out]
    generalize checkB ls = e1 at hne HNE ⊢
    clear h0 hne2
    go_wp2_with fail
    refine (labelsBegun_any w2).mono ?_
    rintro e w3 ⟨rfl, hb3'⟩
    have hb3 : Below w.heap.size w w3 := hb2.trans (hb3'.mono hb2.size)
    clear hb3'
    go_wp2_with fail
    refine (rValueOf_any w3 v ls n (readsLabels_mono (readsLabels_below HV.out hb3) hb3.size) hl).mono ?_
    rintro e w4 ⟨rfl, k4, hw4⟩
    have hb4 : Below w.heap.size w w4 := by rw [hw4]; exact hb3.trans ⟨rfl, rfl, rfl, Nat.le_refl _, fun _ _ => rfl⟩
    clear hw4
    go_wp2_with fail
    refine (textIs_any w4 [] _ e1 (.inl ⟨HNE.out, rfl⟩)).mono ?_
    rintro e w5 ⟨rfl, rfl⟩
    go_wp2
    go_ret
    exact ⟨rfl, hb4⟩

theorem Try.own : ownKnob Try.prog.godebug = none := by kernel_rfl
theorem Try.laidOut : laidOutB Try.prog = true := by kernel_rfl

set_option maxRecDepth 100000 in
theorem labelsGets_lifted (os : Os) (started : os.Started) (H : Type) (enc : TypeId × Value → H) :
    ReturnsInHanded {} Try.checked os 6 .any (Rows.labelsGetsSpec.pre6 enc Try.prog Try.f6 Rows.labelsGetsRow.domain false) (Rows.labelsGetsSpec.post enc Try.prog Try.f6 false true false false) := by
  refine returnsInHanded_of_change (C := Try.checked) Try.own started (by kernel_rfl) Try.func6
    (ChangeSpec.witness6 (enc := enc) (C := Try.checked) false ⟨#[], #[.slice none 0 0, .string ByteArray.empty], []⟩ 8 (by kernel_rfl) (by kernel_rfl) (by kernel_rfl) (by kernel_rfl)) ?_
  intro W base args ds gs before hval0 hW hcnd _
  have hval : ∀ (j : Nat) t v, Try.f6.params[j]? = some t → args[j]? = some v → Value.okWide Try.prog W .any base t v := hval0
  have hW' := hW
  obtain ⟨p, q, hA0, hV, rfl, hfz, hnd⟩ := hW
  have hA : DataW.TrodAll enc Try.prog W 0 (fun _ => true) true Try.f6.params.toList args.toList ds p := hA0
  rw [Try.params6] at hA hval
  obtain ⟨v0, v1, d0, d1, p0, p1, rfl, rfl, rfl, h0, h1⟩ := trodAll_two hA
  obtain ⟨rfl, rfl⟩ := trodVars_none hV
  have hk0 := h0
  obtain ⟨a0, len0, cap0, rfl⟩ := okWide_slice Try.underlying24 (hval 0 24 v0 rfl rfl)
  obtain ⟨fuel0, hf0⟩ := h0
  obtain ⟨ls0, hr0, hl0, hi0⟩ := open_labels hf0
  obtain ⟨s1, rfl, rfl, rfl, hs1⟩ := open_string Try.underlying9 (hval 1 9 v1 rfl rfl) h1
  clear hA0 hval0
  simp only [List.append_nil, List.nil_append] at hW'
  have hlt := fun x hx => hW'.lt x hx
  have hc := labelsGets_any W _ ls0 hr0 hl0 hi0 s1.data.toList (by rw [Array.length_toList]; exact hs1)
  rw [← bs_surj] at hc
  refine hc.mono fun e W' ⟨he, hnx⟩ => ?_
  subst he
  refine ⟨_, rfl, _, _, _, [], (p0), [], hW', ?_, ?_, rfl, hnx.frame _, fun h => by cases h⟩
  · exact trodAll_mk1 (shut_bool Try.underlying4 _)
  · exact trodAll_eq (trodAll_mk2 (Below.trod Try.laidOut (by kernel_rfl) (of_decide_eq_true (by kernel_rfl)) hk0 hnx (fun x hx => hlt x (by simp [hx]))) (shut_string Try.underlying9 hs1)) (by simp)

theorem labelsGets_holds : Rows.LabelsGetsSaid :=
  OpenClaim.holds_of_wide 6 Try.f6 rfl rfl rfl rfl rfl rfl rfl ⟨rfl, rfl, rfl, rfl, rfl⟩ rfl rfl rfl rfl rfl (by kernel_rfl) Try.func6 (by kernel_rfl)
    (of_decide_eq_true (by kernel_rfl)) (by unfold Func.isWrapper; first | (rw [if_pos (by decide +kernel)]; kernel_rfl) | (rw [if_neg (by decide +kernel)]; exact ⟨rfl, rfl⟩))
    (fun os started H enc _ => labelsGets_lifted os started H enc)

end Go.Proofs.Ytcijiaakbkhfkaa
