/- LabelsSums, for all labels: Sum answers just what the document says, errors too. No condition. -/
import Derived.Test.YtcijiaakbkhfkaaRows
import Derived.Test.YtcijiaakbkhfkaaKit
import Derived.Test.YtcijiaakbkhfkaaLTwi
import Derived.Test.YtcijiaakbkhfkaaLRefA
import Derived.Test.YtcijiaakbkhfkaaLSum
import Derived.Test.YtcijiaakbkhfkaaLSumR
import Derived.Test.YtcijiaakbkhfkaaLBeg
import Derived.ProofKit
import Derived.BigQuiet
import Derived.BigFrame
set_option linter.unusedVariables false
set_option linter.unusedSimpArgs false
namespace Go.Proofs.Ytcijiaakbkhfkaa
open Go.ChangeShapes Go.WideShapes Go.ChangeAt Go.RowKit
open Go.ChangeMaps (open_string shut_string)
attribute [local go_sem] bs_size bs_toList bs_append bs_get bs_extract

set_option maxRecDepth 20000 in
set_option maxHeartbeats 1000000 in
theorem labelsSums_any (w : World) (v : Value) (ls : List Lab) (hv : readsLabels w w.heap.size v ls) (hl : ls.length ≤ 9223372036854775807) (hi : lensOk ls) :
    Calls Try.prog 8 #[v] w fun e w' => e = .returned (.bool true) ∧ Below w.heap.size w w' := by
  have HV := hide hv
  have HI := hide hi
  clear hv hi
  go_enter Try.func8, Try.ntmps8
  go_wp2_with fail
  refine (sum_any w v ls HV.out hl HI.out).mono ?_
  rintro e w1 ⟨rfl, hb1⟩
  go_wp2_with fail
  refine (rCheckLabels_any w1 v ls (readsLabels_mono (readsLabels_below HV.out hb1) hb1.size) hl HI.out).mono ?_
  rintro e w2 ⟨rfl, k2, hw2⟩
  have hb2 : Below w.heap.size w w2 := by rw [hw2]; exact hb1.trans ⟨rfl, rfl, rfl, Nat.le_refl _, fun _ _ => rfl⟩
  clear hw2
  by_cases h0 : checkB ls = 0
  · have HL := eachErr_names (checkB_zero.1 h0).1
    have HS := hide (sumAns_ok h0)
    have HLL := hide HL
    clear HL
    rw [h0, HS.out]
    clear h0 HS
    go_wp2_with fail
    refine (rSumOf_any w2 v ls (readsLabels_mono (readsLabels_below HV.out hb2) hb2.size) HLL.out.1 HLL.out.2).mono ?_
    rintro e w3 ⟨rfl, hb3'⟩
    have hb3 : Below w.heap.size w w3 := hb2.trans (hb3'.mono hb2.size)
    clear hb3'
    generalize sumB ls = g
    go_wp2_with fail
    refine (labelsBegun_any w3).mono ?_
    rintro e w4 ⟨rfl, hb4⟩
    go_wp2
    go_ret
    exact ⟨ret_bool (by simp), hb3.trans (hb4.mono hb3.size)⟩
  · have HS := hide (sumAns_no h0)
    have hne : ((checkB ls : Int) == 0) = false := by simpa using h0
    rw [HS.out]
    generalize checkB ls = e1 at hne ⊢
    clear h0 HS
    go_wp2_with fail
    refine (labelsBegun_any w2).mono ?_
    rintro e w4 ⟨rfl, hb4⟩
    go_wp2
    go_ret
    exact ⟨ret_bool (by simp), hb2.trans (hb4.mono hb2.size)⟩

theorem Try.own : ownKnob Try.prog.godebug = none := by kernel_rfl
theorem Try.laidOut : laidOutB Try.prog = true := by kernel_rfl

set_option maxRecDepth 100000 in
theorem labelsSums_lifted (os : Os) (started : os.Started) (H : Type) (enc : TypeId × Value → H) :
    ReturnsInHanded {} Try.checked os 8 .any (Rows.labelsSumsSpec.pre6 enc Try.prog Try.f8 Rows.labelsSumsRow.domain false) (Rows.labelsSumsSpec.post enc Try.prog Try.f8 false true false false) := by
  refine returnsInHanded_of_change (C := Try.checked) Try.own started (by kernel_rfl) Try.func8
    (ChangeSpec.witness6 (enc := enc) (C := Try.checked) false ⟨#[], #[.slice none 0 0], []⟩ 8 (by kernel_rfl) (by kernel_rfl) (by kernel_rfl) (by kernel_rfl)) ?_
  intro W base args ds gs before hval0 hW hcnd _
  have hval : ∀ (j : Nat) t v, Try.f8.params[j]? = some t → args[j]? = some v → Value.okWide Try.prog W .any base t v := hval0
  have hW' := hW
  obtain ⟨p, q, hA0, hV, rfl, hfz, hnd⟩ := hW
  have hA : DataW.TrodAll enc Try.prog W 0 (fun _ => true) true Try.f8.params.toList args.toList ds p := hA0
  rw [Try.params8] at hA hval
  obtain ⟨v0, d0, rfl, rfl, h0⟩ := trodAll_one hA
  obtain ⟨rfl, rfl⟩ := trodVars_none hV
  have hk0 := h0
  obtain ⟨a0, len0, cap0, rfl⟩ := okWide_slice Try.underlying24 (hval 0 24 v0 rfl rfl)
  obtain ⟨fuel0, hf0⟩ := h0
  obtain ⟨ls0, hr0, hl0, hi0⟩ := open_labels hf0
  clear hA0 hval0
  simp only [List.append_nil, List.nil_append] at hW'
  have hlt := fun x hx => hW'.lt x hx
  have hc := labelsSums_any W _ ls0 hr0 hl0 hi0
  refine hc.mono fun e W' ⟨he, hnx⟩ => ?_
  subst he
  refine ⟨_, rfl, _, _, _, [], (p), [], hW', ?_, ?_, rfl, hnx.frame _, fun h => by cases h⟩
  · exact trodAll_mk1 (shut_bool Try.underlying4 _)
  · exact trodAll_eq (trodAll_mk1 (Below.trod Try.laidOut (by kernel_rfl) (of_decide_eq_true (by kernel_rfl)) hk0 hnx (fun x hx => hlt x (by simp [hx])))) (by simp)

theorem labelsSums_holds : Rows.LabelsSumsSaid :=
  OpenClaim.holds_of_wide 8 Try.f8 rfl rfl rfl rfl rfl rfl rfl ⟨rfl, rfl, rfl, rfl, rfl⟩ rfl rfl rfl rfl rfl (by kernel_rfl) Try.func8 (by kernel_rfl)
    (of_decide_eq_true (by kernel_rfl)) (by unfold Func.isWrapper; first | (rw [if_pos (by decide +kernel)]; kernel_rfl) | (rw [if_neg (by decide +kernel)]; exact ⟨rfl, rfl⟩))
    (fun os started H enc _ => labelsSums_lifted os started H enc)

end Go.Proofs.Ytcijiaakbkhfkaa
