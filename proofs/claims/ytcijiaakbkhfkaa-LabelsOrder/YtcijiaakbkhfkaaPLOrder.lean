/- LabelsOrder, for every three lists of labels: what is less than what is less is less. No condition. -/
import Derived.Test.YtcijiaakbkhfkaaRows
import Derived.Test.YtcijiaakbkhfkaaKit
import Derived.Test.YtcijiaakbkhfkaaLTwi
import Derived.Test.YtcijiaakbkhfkaaLCmp
import Derived.Test.YtcijiaakbkhfkaaLBeg
import Derived.ProofKit
import Derived.BigQuiet
import Derived.BigFrame
set_option linter.unusedVariables false
set_option linter.unusedSimpArgs false
namespace Go.Proofs.Ytcijiaakbkhfkaa
open Go.ChangeShapes Go.WideShapes Go.ChangeAt Go.RowKit
open Go.ChangeMaps (open_string shut_string)
attribute [local go_sem] bs_size bs_toList bs_append bs_get bs_extract

theorem order_math {a b c : List Lab} (h1 : cmpErr a b = 0) (h2 : cmpErr b c = 0) (h3 : cmpErr a c = 0) : cmpAns a b > 0 ∨ cmpAns b c > 0 ∨ (cmpAns a c ≤ 0 ∧ (cmpAns a c < 0 ∨ (cmpAns a b = 0 ∧ cmpAns b c = 0))) := by
  rw [cmpAns_ok h1, cmpAns_ok h2, cmpAns_ok h3]
  by_cases k1 : ordB a b > 0
  · exact .inl k1
  · by_cases k2 : ordB b c > 0
    · exact .inr (.inl k2)
    · exact .inr (.inr (ordB_order (by omega) (by omega)))

set_option maxRecDepth 20000 in
set_option maxHeartbeats 2000000 in
theorem labelsOrder_any (w : World) (va : Value) (a : List Lab) (ha : readsLabels w w.heap.size va a) (hal : a.length ≤ 9223372036854775807) (hai : lensOk a) (vb : Value) (b : List Lab) (hb : readsLabels w w.heap.size vb b) (hbl : b.length ≤ 9223372036854775807) (hbi : lensOk b) (vc : Value) (c : List Lab) (hc : readsLabels w w.heap.size vc c) (hcl : c.length ≤ 9223372036854775807) (hci : lensOk c) :
    Calls Try.prog 12 #[va, vb, vc] w fun e w' => e = .returned (.bool true) ∧ Below w.heap.size w w' := by
  have HA := hide ha
  have HB := hide hb
  have HC := hide hc
  have HAI := hide hai
  have HBI := hide hbi
  have HCI := hide hci
  have HM := hide (@order_math a b c)
  clear ha hb hc hai hbi hci
  go_enter Try.func12, Try.ntmps12
  go_wp2_with fail
  refine (labelsBegun_any w).mono ?_
  rintro e w1 ⟨rfl, hb1⟩
  go_wp2_with fail
  refine (compare_any w1 va vb a b (readsLabels_mono (readsLabels_below HA.out hb1) hb1.size) hal HAI.out (readsLabels_mono (readsLabels_below HB.out hb1) hb1.size) hbl HBI.out).mono ?_
  rintro e w2 ⟨rfl, hb2'⟩
  have hb2 : Below w.heap.size w w2 := hb1.trans (hb2'.mono hb1.size)
  clear hb2'
  go_wp2_with fail
  refine (compare_any w2 vb vc b c (readsLabels_mono (readsLabels_below HB.out hb2) hb2.size) hbl HBI.out (readsLabels_mono (readsLabels_below HC.out hb2) hb2.size) hcl HCI.out).mono ?_
  rintro e w3 ⟨rfl, hb3'⟩
  have hb3 : Below w.heap.size w w3 := hb2.trans (hb3'.mono hb2.size)
  clear hb3'
  go_wp2_with fail
  refine (compare_any w3 va vc a c (readsLabels_mono (readsLabels_below HA.out hb3) hb3.size) hal HAI.out (readsLabels_mono (readsLabels_below HC.out hb3) hb3.size) hcl HCI.out).mono ?_
  rintro e w4 ⟨rfl, hb4'⟩
  have hb4 : Below w.heap.size w w4 := hb3.trans (hb4'.mono hb3.size)
  clear hb4'
  generalize cmpAns a b = x at HM ⊢
  generalize cmpAns b c = y at HM ⊢
  generalize cmpAns a c = z at HM ⊢
  generalize cmpErr a b = e1 at HM ⊢
  generalize cmpErr b c = e2 at HM ⊢
  generalize cmpErr a c = e3 at HM ⊢
  by_cases h1 : e1 = 0
  · by_cases h2 : e2 = 0
    · by_cases h3 : e3 = 0
      · have hm := HM.out h1 h2 h3
        subst h1 h2 h3
        by_cases k1 : 0 < x
        · go_wp2
          go_ret
          exact ⟨rfl, hb4⟩
        · by_cases k2 : 0 < y
          · go_wp2
            go_ret
            exact ⟨rfl, hb4⟩
          · obtain ⟨k3, k4⟩ : z ≤ 0 ∧ (z < 0 ∨ (x = 0 ∧ y = 0)) := by omega
            clear hm
            by_cases k5 : z < 0
            · go_wp2
              go_ret
              exact ⟨rfl, hb4⟩
            · obtain ⟨rfl, rfl⟩ : x = 0 ∧ y = 0 := by omega
              clear k4
              go_wp2
              go_ret
              exact ⟨rfl, hb4⟩
      · have h3' : ((e3 : Int) != 0) = true := by simpa using h3
        subst h1 h2
        go_wp2
        go_ret
        exact ⟨rfl, hb4⟩
    · have h2' : ((e2 : Int) != 0) = true := by simpa using h2
      subst h1
      go_wp2
      go_ret
      exact ⟨rfl, hb4⟩
  · have h1' : ((e1 : Int) != 0) = true := by simpa using h1
    go_wp2
    go_ret
    exact ⟨rfl, hb4⟩

theorem Try.own : ownKnob Try.prog.godebug = none := by kernel_rfl
theorem Try.laidOut : laidOutB Try.prog = true := by kernel_rfl

set_option maxRecDepth 100000 in
theorem labelsOrder_lifted (os : Os) (started : os.Started) (H : Type) (enc : TypeId × Value → H) :
    ReturnsInHanded {} Try.checked os 12 .any (Rows.labelsOrderSpec.pre6 enc Try.prog Try.f12 Rows.labelsOrderRow.domain false) (Rows.labelsOrderSpec.post enc Try.prog Try.f12 false true false false) := by
  refine returnsInHanded_of_change (C := Try.checked) Try.own started (by kernel_rfl) Try.func12
    (ChangeSpec.witness6 (enc := enc) (C := Try.checked) false ⟨#[], #[.slice none 0 0, .slice none 0 0, .slice none 0 0], []⟩ 8 (by kernel_rfl) (by kernel_rfl) (by kernel_rfl) (by kernel_rfl)) ?_
  intro W base args ds gs before hval0 hW hcnd _
  have hval : ∀ (j : Nat) t v, Try.f12.params[j]? = some t → args[j]? = some v → Value.okWide Try.prog W .any base t v := hval0
  have hW' := hW
  obtain ⟨p, q, hA0, hV, rfl, hfz, hnd⟩ := hW
  have hA : DataW.TrodAll enc Try.prog W 0 (fun _ => true) true Try.f12.params.toList args.toList ds p := hA0
  rw [Try.params12] at hA hval
  obtain ⟨v0, v1, v2, d0, d1, d2, p0, p1, p2, rfl, rfl, rfl, h0, h1, h2⟩ := trodAll_three hA
  obtain ⟨rfl, rfl⟩ := trodVars_none hV
  have hk0 := h0
  obtain ⟨a0, len0, cap0, rfl⟩ := okWide_slice Try.underlying24 (hval 0 24 v0 rfl rfl)
  obtain ⟨fuel0, hf0⟩ := h0
  obtain ⟨ls0, hr0, hl0, hi0⟩ := open_labels hf0
  have hk1 := h1
  obtain ⟨a1, len1, cap1, rfl⟩ := okWide_slice Try.underlying24 (hval 1 24 v1 rfl rfl)
  obtain ⟨fuel1, hf1⟩ := h1
  obtain ⟨ls1, hr1, hl1, hi1⟩ := open_labels hf1
  have hk2 := h2
  obtain ⟨a2, len2, cap2, rfl⟩ := okWide_slice Try.underlying24 (hval 2 24 v2 rfl rfl)
  obtain ⟨fuel2, hf2⟩ := h2
  obtain ⟨ls2, hr2, hl2, hi2⟩ := open_labels hf2
  clear hA0 hval0
  simp only [List.append_nil, List.nil_append] at hW'
  have hlt := fun x hx => hW'.lt x hx
  have hc := labelsOrder_any W _ ls0 hr0 hl0 hi0 _ ls1 hr1 hl1 hi1 _ ls2 hr2 hl2 hi2
  refine hc.mono fun e W' ⟨he, hnx⟩ => ?_
  subst he
  refine ⟨_, rfl, _, _, _, [], (p0 ++ (p1 ++ (p2))), [], hW', ?_, ?_, rfl, hnx.frame _, fun h => by cases h⟩
  · exact trodAll_mk1 (shut_bool Try.underlying4 _)
  · exact trodAll_eq (trodAll_mk3 (Below.trod Try.laidOut (by kernel_rfl) (of_decide_eq_true (by kernel_rfl)) hk0 hnx (fun x hx => hlt x (by simp [hx]))) (Below.trod Try.laidOut (by kernel_rfl) (of_decide_eq_true (by kernel_rfl)) hk1 hnx (fun x hx => hlt x (by simp [hx]))) (Below.trod Try.laidOut (by kernel_rfl) (of_decide_eq_true (by kernel_rfl)) hk2 hnx (fun x hx => hlt x (by simp [hx])))) (by simp)

theorem labelsOrder_holds : Rows.LabelsOrderSaid :=
  OpenClaim.holds_of_wide 12 Try.f12 rfl rfl rfl rfl rfl rfl rfl ⟨rfl, rfl, rfl, rfl, rfl⟩ rfl rfl rfl rfl rfl (by kernel_rfl) Try.func12 (by kernel_rfl)
    (of_decide_eq_true (by kernel_rfl)) (by unfold Func.isWrapper; first | (rw [if_pos (by decide +kernel)]; kernel_rfl) | (rw [if_neg (by decide +kernel)]; exact ⟨rfl, rfl⟩))
    (fun os started H enc _ => labelsOrder_lifted os started H enc)

end Go.Proofs.Ytcijiaakbkhfkaa
