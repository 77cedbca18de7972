/- MaskChecks, for every text: Check answers as many groups as the document's own reader counts, or the same fault at the same byte. No condition. -/
import Derived.Test.YtaijakomgkageaaRows
import Derived.Test.YtaijakomgkageaaKit
import Derived.Test.YtaijakomgkageaaTrod
import Derived.Test.YtaijakomgkageaaMWlk
import Derived.Test.YtaijakomgkageaaMFrom
import Derived.Test.YtaijakomgkageaaMMat
import Derived.Test.YtaijakomgkageaaMExq
import Derived.Test.YtaijakomgkageaaMRdL
import Derived.Test.YtaijakomgkageaaMBeg
import Derived.ProofKit
import Derived.BigQuiet
import Derived.BigFrame
set_option linter.unusedVariables false
set_option linter.unusedSimpArgs false
namespace Go.Proofs.Ytaijakomgkageaa
open Go.ChangeShapes Go.WideShapes Go.ChangeAt Go.RowKit
open Go.ChangeMaps (open_string shut_string)
attribute [local go_sem] bs_size bs_toList bs_append bs_get bs_extract

theorem laid_fault (w : World) (x y : Value) (t : TypeId) : ∃ W : World, w.alloc (.cells #[x, y] t) = W ∧ Grow w W ∧ W.heap[w.heap.size]? = some (.cells #[x, y] t (0, 0)) := ⟨_, rfl, (Grow.refl _).alloc _, heap_alloc_new _ _⟩

set_option maxRecDepth 20000 in
set_option maxHeartbeats 4000000 in
theorem maskChecks_any (w : World) (m : List UInt8) (hml : m.length ≤ 9223372036854775807) :
    Calls Try.prog 3 #[.string (bs m)] w fun e w' => e = .returned (.bool true) ∧ Below w.heap.size w w' := by
  have HC := hide fun W => check_mask W m hml
  have HM : Hid (∀ W, Calls Try.prog 10 #[.string (bs m)] W fun e w' => Grow W w' ∧ ∃ ao k cp, e = .returned (.tuple #[.slice ao k cp, .int .i64 (groupsOf m), .agg #[.int .i64 (faultOf m).1, .int .i64 (faultOf m).2]])) := hide fun W => (maskOf_any W m hml).mono fun e w' ⟨hg, h⟩ => by
    refine ⟨hg, ?_⟩
    unfold groupsOf faultOf
    cases hx : maskIs m with
    | error x => rw [hx] at h; exact ⟨none, 0, 0, h⟩
    | ok x =>
      rw [hx] at h
      obtain ⟨v, k, ys, h1, h2, _⟩ := h
      obtain ⟨ao, cp, rfl⟩ := own_shape h2
      exact ⟨ao, k, cp, h1⟩
  generalize groupsOf m = G at HC HM
  generalize (faultOf m).1 = F1 at HC HM
  generalize (faultOf m).2 = F2 at HC HM
  go_enter Try.func3, Try.ntmps3
  go_wp2_with fail
  refine (HC.out w).mono ?_
  rintro e w1 ⟨hg1, rfl⟩
  obtain ⟨W1, eW1, gW1, hW1⟩ := laid_fault w1 (.int .i64 (F1 : Int)) (.int .i64 (F2 : Int)) 24
  have HG1 : Hid (Grow w W1) := hide (hg1.trans gW1)
  have HW1 := hide hW1
  clear hg1 gW1 hW1
  go_wp2_with fail
  refine (HM.out W1).mono ?_
  rintro e w2 ⟨hg2, ao, k, cp, rfl⟩
  obtain ⟨W2, eW2, gW2, hW2⟩ := laid_fault w2 (.int .i64 (F1 : Int)) (.int .i64 (F2 : Int)) 24
  have HG2 : Hid (Grow w W2) := hide (HG1.out.trans (hg2.trans gW2))
  have HW12 := hide ((hg2.trans gW2).get HW1.out)
  have HW2 := hide hW2
  clear hg2 gW2 hW2 eW1
  go_wp2_with fail
  refine (maskBegun_any W2).mono ?_
  rintro e w3 ⟨rfl, hg3⟩
  have HG3 : Hid (Grow w w3) := hide (HG2.out.trans hg3)
  obtain ⟨a0, a1⟩ := cells_two (hg3.get HW12.out)
  obtain ⟨b0, b1⟩ := cells_two (hg3.get HW2.out)
  clear hg3 eW2
  go_wp2
  go_ret
  exact ⟨ret_bool (by simp), HG3.out⟩


theorem Try.own : ownKnob Try.prog.godebug = none := by kernel_rfl
theorem Try.laidOut : laidOutB Try.prog = true := by kernel_rfl

set_option maxRecDepth 100000 in
theorem maskChecks_lifted (os : Os) (started : os.Started) (H : Type) (enc : TypeId × Value → H) :
    ReturnsInHanded {} Try.checked os 3 .any (Rows.maskChecksSpec.pre6 enc Try.prog Try.f3 Rows.maskChecksRow.domain false) (Rows.maskChecksSpec.post enc Try.prog Try.f3 false true false false) := by
  refine returnsInHanded_of_change (C := Try.checked) Try.own started (by kernel_rfl) Try.func3
    (ChangeSpec.witness6 (enc := enc) (C := Try.checked) false ⟨#[], #[.string ByteArray.empty], []⟩ 8 (by kernel_rfl) (by kernel_rfl) (by kernel_rfl) (by kernel_rfl)) ?_
  intro W base args ds gs before hval0 hW hcnd _
  have hval : ∀ (j : Nat) t v, Try.f3.params[j]? = some t → args[j]? = some v → Value.okWide Try.prog W .any base t v := hval0
  have hW' := hW
  obtain ⟨p, q, hA0, hV, rfl, hfz, hnd⟩ := hW
  have hA : DataW.TrodAll enc Try.prog W 0 (fun _ => true) true Try.f3.params.toList args.toList ds p := hA0
  rw [Try.params3] at hA hval
  obtain ⟨v0, d0, rfl, rfl, h0⟩ := trodAll_one hA
  obtain ⟨rfl, rfl⟩ := trodVars_none hV
  obtain ⟨s0, rfl, rfl, rfl, hs0⟩ := open_string Try.underlying9 (hval 0 9 v0 rfl rfl) h0
  clear hA0 hval0
  simp only [List.append_nil, List.nil_append] at hW'
  have hlt := fun x hx => hW'.lt x hx
  have hc := maskChecks_any W s0.data.toList (by rw [Array.length_toList]; exact hs0)
  rw [← bs_surj] at hc
  refine hc.mono fun e W' ⟨he, hnx⟩ => ?_
  subst he
  refine ⟨_, rfl, _, _, _, [], ([]), [], hW', ?_, ?_, rfl, hnx.frame _, fun h => by cases h⟩
  · exact trodAll_mk1 (shut_bool Try.underlying4 _)
  · exact trodAll_eq (trodAll_mk1 (shut_string Try.underlying9 hs0)) (by simp)

theorem maskChecks_holds : Rows.MaskChecksSaid :=
  OpenClaim.holds_of_wide 3 Try.f3 rfl rfl rfl rfl rfl rfl rfl ⟨rfl, rfl, rfl, rfl, rfl⟩ rfl rfl rfl rfl rfl (by kernel_rfl) Try.func3 (by kernel_rfl)
    (of_decide_eq_true (by kernel_rfl)) (by unfold Func.isWrapper; first | (rw [if_pos (by decide +kernel)]; kernel_rfl) | (rw [if_neg (by decide +kernel)]; exact ⟨rfl, rfl⟩))
    (fun os started H enc _ => maskChecks_lifted os started H enc)

end Go.Proofs.Ytaijakomgkageaa
