/- LabelsWith, for all labels, names and values: With answers just what the document says, errors too. No condition. -/
import Derived.Test.YtcijiaakbkhfkaaRows
import Derived.Test.YtcijiaakbkhfkaaKit
import Derived.Test.YtcijiaakbkhfkaaLChk
import Derived.Test.YtcijiaakbkhfkaaLTwi
import Derived.Test.YtcijiaakbkhfkaaLRefA
import Derived.Test.YtcijiaakbkhfkaaLRefC
import Derived.Test.YtcijiaakbkhfkaaLMak
import Derived.Test.YtcijiaakbkhfkaaLBeg
import Derived.ProofKit
import Derived.BigQuiet
import Derived.BigFrame
set_option linter.unusedVariables false
set_option linter.unusedSimpArgs false
namespace Go.Proofs.Ytcijiaakbkhfkaa
open Go.ChangeShapes Go.WideShapes Go.ChangeAt Go.RowKit
open Go.ChangeMaps (open_string shut_string)
attribute [local go_sem] bs_size bs_toList bs_append bs_get bs_extract

set_option maxRecDepth 20000 in
set_option maxHeartbeats 1000000 in
theorem labelsWith_any (w : World) (va : Value) (ls : List Lab) (hv : readsLabels w w.heap.size va ls) (hl : ls.length ≤ 9223372036854775807) (hi : lensOk ls) (n : List UInt8) (hnl : n.length ≤ maxLen) (v : List UInt8) (hvl : v.length ≤ maxLen) :
    Calls Try.prog 7 #[va, .string (bs n), .string (bs v)] w fun e w' => e = .returned (.bool true) ∧ Below w.heap.size w w' := by
  have HV := hide hv
  have HI := hide hi
  clear hv hi
  have hvl' : v.length ≤ 9223372036854775807 := by unfold maxLen at hvl; omega
  go_enter Try.func7, Try.ntmps7
  go_wp2_with fail
  refine (with_any w va ls n v HV.out hl HI.out hnl hvl).mono ?_
  rintro e w1 ⟨v1, rfl, hown1, hb1⟩
  have HO := hide hown1
  clear hown1
  go_wp2_with fail
  refine (rCheckLabels_any w1 va ls (readsLabels_mono (readsLabels_below HV.out hb1) hb1.size) hl HI.out).mono ?_
  rintro e w2 ⟨rfl, k2, hw2⟩
  have hg12 : Grow w1 w2 := by rw [hw2]; exact ⟨rfl, rfl, rfl, Nat.le_refl _, fun _ _ => rfl⟩
  have hb2 : Below w.heap.size w w2 := hb1.trans (hg12.mono hb1.size)
  clear hw2
  have tail : ∀ (e1 : Int) (w3 : World) (v3 : Value) (L : List Lab), Grow w1 w3 → Below w.heap.size w w3 → (∀ w4, Grow w3 w4 → readsLabels w4 w4.heap.size v3 L) → L.length ≤ 1000 → (withAns ls n v).length ≤ 1000 → ((e1 ≠ 0 ∧ withAns ls n v = []) ∨ (e1 = 0 ∧ withAns ls n v = L)) → (∀ w4, Grow w3 w4 → Calls Try.prog 21 #[v1, .int .i64 e1, .int .i64 e1, v3] w4 fun e w' => e = .returned (.bool true) ∧ Below w4.heap.size w4 w') := by
    intro e1 w3 v3 L hg hb hr hL hA h w4 hg4
    exact labelsAre_any w4 v1 v3 _ L e1 (reads_ownLabels (own_grow HO.out (Grow.trans hg hg4))) (hr w4 hg4) hA hL h
  have HT := hide tail
  clear tail
  have nilR : ∀ w4 : World, readsLabels w4 w4.heap.size (.slice none 0 0) [] := fun w4 => ⟨none, 0, rfl, fun i hi => by simp at hi⟩
  have HNil := hide nilR
  clear nilR
  by_cases h0 : checkB ls = 0
  · have HL : Hid (ls.length ≤ 20 ∧ ∀ x ∈ ls, x.1.length ≤ 40 ∧ x.2.length ≤ 100) := eachErr_names (checkB_zero.1 h0).1
    have H0 := hide h0
    rw [h0]
    clear h0
    cases hnm : nameB n with
    | false =>
      have HE : Hid (getErr ls n = 1) := by show _ = _; unfold getErr; rw [if_pos H0.out, if_neg (by rw [hnm]; simp)]
      have HW := hide (withErr_get (l := ls) (n := n) (v := v) (by rw [HE.out]; omega))
      have HAn := hide (withAns_no (l := ls) (n := n) (v := v) (by rw [HW.out, HE.out]; omega))
      have HN := hide hnm
      clear hnm
      rw [HW.out, HE.out]
      go_wp2_with (go_at_call 15; refine (rIsName_any _ _ hnl).mono ?_; rintro e w' ⟨rfl, rfl⟩; rw [HN.out])
      rename World => w2
      go_wp2_with fail
      refine (labelsBegun_any w2).mono ?_
      rintro e w4 ⟨rfl, hb4⟩
      go_wp2_with fail
      refine (HT.out 1 w2 (.slice none 0 0) [] hg12 hb2 (fun w4 _ => HNil.out w4) (by simp) (by rw [HAn.out]; simp) (.inl ⟨by omega, HAn.out⟩) w4 hb4).mono ?_
      rintro e w5 ⟨rfl, hb5⟩
      go_wp2
      go_ret
      exact ⟨rfl, (hb2.trans (hb4.mono hb2.size)).trans (hb5.mono (Nat.le_trans hb2.size hb4.size))⟩
    | true =>
      have HE : Hid (getErr ls n = 0) := by show _ = _; unfold getErr; rw [if_pos H0.out, if_pos hnm]
      have HN := hide hnm
      clear hnm
      by_cases h100 : v.length ≤ 100
      · have h100' : ¬ (100 : Int) < v.length := by omega
        have HPl := hide (putB_len ls n v)
        go_wp2_with (go_at_call 15; refine (rIsName_any _ _ hnl).mono ?_; rintro e w' ⟨rfl, rfl⟩; rw [HN.out])
        rename World => w2
        go_wp2_with fail
        refine (rPut_any w2 va ls n v (readsLabels_mono (readsLabels_below HV.out hb2) hb2.size) (by have := HL.out.1; omega)).mono ?_
        rintro e w3 ⟨v3, rfl, hown3, hb3⟩
        have hb03 : Below w.heap.size w w3 := hb2.trans (hb3.mono hb2.size)
        have hg13 : Grow w1 w3 := Grow.trans hg12 hb3
        have HO3 := hide hown3
        obtain ⟨vo, vc, rfl⟩ := own_shape hown3
        clear hown3
        have h21 : (putB ls n v).length ≤ 21 := by have := HPl.out; have := HL.out.1; omega
        by_cases hm : (putB ls n v).length ≤ 20
        · have hm' : ¬ (20 : Int) < (putB ls n v).length := by omega
          have HW := hide (withErr_ok HE.out h100 hm)
          have HAn := hide (withAns_ok HW.out)
          rw [HW.out]
          go_wp2_with fail
          refine (labelsBegun_any w3).mono ?_
          rintro e w4 ⟨rfl, hb4⟩
          go_wp2_with fail
          refine (HT.out 0 w3 _ (putB ls n v) hg13 hb03 (fun w4 hg => reads_ownLabels (own_grow HO3.out hg)) (by omega) (by rw [HAn.out]; omega) (.inr ⟨rfl, HAn.out⟩) w4 hb4).mono ?_
          rintro e w5 ⟨rfl, hb5⟩
          go_wp2
          go_ret
          exact ⟨rfl, (hb03.trans (hb4.mono hb03.size)).trans (hb5.mono (Nat.le_trans hb03.size hb4.size))⟩
        · have hm' : (20 : Int) < (putB ls n v).length := by omega
          have HW := hide (withErr_many HE.out h100 hm)
          have HAn := hide (withAns_no (l := ls) (n := n) (v := v) (by rw [HW.out]; omega))
          rw [HW.out]
          go_wp2_with fail
          refine (labelsBegun_any w3).mono ?_
          rintro e w4 ⟨rfl, hb4⟩
          go_wp2_with fail
          refine (HT.out 2 w3 _ (putB ls n v) hg13 hb03 (fun w4 hg => reads_ownLabels (own_grow HO3.out hg)) (by omega) (by rw [HAn.out]; simp) (.inl ⟨by omega, HAn.out⟩) w4 hb4).mono ?_
          rintro e w5 ⟨rfl, hb5⟩
          go_wp2
          go_ret
          exact ⟨rfl, (hb03.trans (hb4.mono hb03.size)).trans (hb5.mono (Nat.le_trans hb03.size hb4.size))⟩
      · have h100' : (100 : Int) < v.length := by omega
        have HW := hide (withErr_long (l := ls) (n := n) (v := v) HE.out h100)
        have HAn := hide (withAns_no (l := ls) (n := n) (v := v) (by rw [HW.out]; omega))
        rw [HW.out]
        go_wp2_with (go_at_call 15; refine (rIsName_any _ _ hnl).mono ?_; rintro e w' ⟨rfl, rfl⟩; rw [HN.out])
        rename World => w2
        go_wp2_with fail
        refine (labelsBegun_any w2).mono ?_
        rintro e w4 ⟨rfl, hb4⟩
        go_wp2_with fail
        refine (HT.out 2 w2 (.slice none 0 0) [] hg12 hb2 (fun w4 _ => HNil.out w4) (by simp) (by rw [HAn.out]; simp) (.inl ⟨by omega, HAn.out⟩) w4 hb4).mono ?_
        rintro e w5 ⟨rfl, hb5⟩
        go_wp2
        go_ret
        exact ⟨rfl, (hb2.trans (hb4.mono hb2.size)).trans (hb5.mono (Nat.le_trans hb2.size hb4.size))⟩
  · have HE : Hid (getErr ls n = checkB ls) := by show _ = _; unfold getErr; rw [if_neg h0]
    have HW := hide (withErr_get (l := ls) (n := n) (v := v) (by rw [HE.out]; exact h0))
    have HAn := hide (withAns_no (l := ls) (n := n) (v := v) (by rw [HW.out, HE.out]; exact h0))
    have hne : ((checkB ls : Int) == 0) = false := by simpa using h0
    have HNE : Hid ((checkB ls : Int) ≠ 0) := by show _ ≠ _; omega
    rw [HW.out, HE.out]
    generalize checkB ls = e1 at hne HNE ⊢
    clear h0
    go_wp2_with fail
    refine (labelsBegun_any w2).mono ?_
    rintro e w4 ⟨rfl, hb4⟩
    go_wp2_with fail
    refine (HT.out e1 w2 (.slice none 0 0) [] hg12 hb2 (fun w4 _ => HNil.out w4) (by simp) (by rw [HAn.out]; simp) (.inl ⟨HNE.out, HAn.out⟩) w4 hb4).mono ?_
    rintro e w5 ⟨rfl, hb5⟩
    go_wp2
    go_ret
    exact ⟨rfl, (hb2.trans (hb4.mono hb2.size)).trans (hb5.mono (Nat.le_trans hb2.size hb4.size))⟩

theorem Try.own : ownKnob Try.prog.godebug = none := by kernel_rfl
theorem Try.laidOut : laidOutB Try.prog = true := by kernel_rfl

set_option maxRecDepth 100000 in
theorem labelsWith_lifted (os : Os) (started : os.Started) (H : Type) (enc : TypeId × Value → H) :
    ReturnsInHanded {} Try.checked os 7 .any (Rows.labelsWithSpec.pre6 enc Try.prog Try.f7 Rows.labelsWithRow.domain false) (Rows.labelsWithSpec.post enc Try.prog Try.f7 false true false false) := by
  refine returnsInHanded_of_change (C := Try.checked) Try.own started (by kernel_rfl) Try.func7
    (ChangeSpec.witness6 (enc := enc) (C := Try.checked) false ⟨#[], #[.slice none 0 0, .string ByteArray.empty, .string ByteArray.empty], []⟩ 8 (by kernel_rfl) (by kernel_rfl) (by kernel_rfl) (by kernel_rfl)) ?_
  intro W base args ds gs before hval0 hW hcnd _
  have hval : ∀ (j : Nat) t v, Try.f7.params[j]? = some t → args[j]? = some v → Value.okWide Try.prog W .any base t v := hval0
  have hW' := hW
  obtain ⟨p, q, hA0, hV, rfl, hfz, hnd⟩ := hW
  have hA : DataW.TrodAll enc Try.prog W 0 (fun _ => true) true Try.f7.params.toList args.toList ds p := hA0
  rw [Try.params7] at hA hval
  obtain ⟨v0, v1, v2, d0, d1, d2, p0, p1, p2, rfl, rfl, rfl, h0, h1, h2⟩ := trodAll_three hA
  obtain ⟨rfl, rfl⟩ := trodVars_none hV
  have hk0 := h0
  obtain ⟨a0, len0, cap0, rfl⟩ := okWide_slice Try.underlying24 (hval 0 24 v0 rfl rfl)
  obtain ⟨fuel0, hf0⟩ := h0
  obtain ⟨ls0, hr0, hl0, hi0⟩ := open_labels hf0
  obtain ⟨s1, rfl, rfl, rfl, hs1⟩ := open_string Try.underlying9 (hval 1 9 v1 rfl rfl) h1
  obtain ⟨s2, rfl, rfl, rfl, hs2⟩ := open_string Try.underlying9 (hval 2 9 v2 rfl rfl) h2
  clear hA0 hval0
  simp only [List.append_nil, List.nil_append] at hW'
  have hlt := fun x hx => hW'.lt x hx
  have hc := labelsWith_any W _ ls0 hr0 hl0 hi0 s1.data.toList (by rw [Array.length_toList]; exact hs1) s2.data.toList (by rw [Array.length_toList]; exact hs2)
  rw [← bs_surj, ← bs_surj] at hc
  refine hc.mono fun e W' ⟨he, hnx⟩ => ?_
  subst he
  refine ⟨_, rfl, _, _, _, [], (p0), [], hW', ?_, ?_, rfl, hnx.frame _, fun h => by cases h⟩
  · exact trodAll_mk1 (shut_bool Try.underlying4 _)
  · exact trodAll_eq (trodAll_mk3 (Below.trod Try.laidOut (by kernel_rfl) (of_decide_eq_true (by kernel_rfl)) hk0 hnx (fun x hx => hlt x (by simp [hx]))) (shut_string Try.underlying9 hs1) (shut_string Try.underlying9 hs2)) (by simp)

theorem labelsWith_holds : Rows.LabelsWithSaid :=
  OpenClaim.holds_of_wide 7 Try.f7 rfl rfl rfl rfl rfl rfl rfl ⟨rfl, rfl, rfl, rfl, rfl⟩ rfl rfl rfl rfl rfl (by kernel_rfl) Try.func7 (by kernel_rfl)
    (of_decide_eq_true (by kernel_rfl)) (by unfold Func.isWrapper; first | (rw [if_pos (by decide +kernel)]; kernel_rfl) | (rw [if_neg (by decide +kernel)]; exact ⟨rfl, rfl⟩))
    (fun os started H enc _ => labelsWith_lifted os started H enc)

end Go.Proofs.Ytcijiaakbkhfkaa
