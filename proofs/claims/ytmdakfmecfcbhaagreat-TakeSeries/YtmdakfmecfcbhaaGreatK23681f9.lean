/- TakeSeries, for every store and all series: what is written and packed is taken as the document says. No condition. -/
import Derived.Test.YtmdakfmecfcbhaaGreatRows
import Derived.Test.YtmdakfmecfcbhaaGreatK7e06493
import Derived.Test.YtmdakfmecfcbhaaGreatK9faadf2
import Derived.Test.YtmdakfmecfcbhaaGreatK5273681
import Derived.Test.YtmdakfmecfcbhaaGreatKa708f3e
import Derived.Test.YtmdakfmecfcbhaaGreatK5e097d6
import Derived.ProofKit
import Derived.BigQuiet
import Derived.BigFrame
import Derived.Test.YtmdakfmecfcbhaaGreatK9c77d72
set_option linter.unusedVariables false
set_option linter.unusedSimpArgs false
namespace Go.Proofs.YtmdakfmecfcbhaaGreat
open Go.ChangeShapes Go.WideShapes Go.ChangeAt Go.RowKit
open Go.ChangeMaps (open_string shut_string)
attribute [local go_sem] bs_size bs_toList bs_append bs_get bs_extract
open Lb
theorem takeSeries_any (w : World) (v : Value) (l : List Tk.Ser) (hv : Tk.readsSer w w.heap.size v l) (hok : Tk.okStore l) (hf : Tk.rowForm v l.length) (vi : Value) (ls : List Tk.Ser) (hvi : Tk.readsSer w w.heap.size vi ls) (hoki : Tk.okStore ls) :
    Calls Tryz.prog 5 #[v, vi] w fun e w' => e = .returned (.bool true) ∧ Below w.heap.size w w' := Tk.takeSeries_any w v l hv hok hf vi ls hvi hoki
set_option maxRecDepth 100000 in
theorem takeSeries_lifted (os : Os) (started : os.Started) (H : Type) (enc : TypeId × Value → H) :
    ReturnsInHanded {} Tryz.checked os 5 .any (Rows.takeSeriesSpec.pre6 enc Tryz.prog Tryz.f5 Rows.takeSeriesRow.domain false) (Rows.takeSeriesSpec.post enc Tryz.prog Tryz.f5 false true false false) := by
  refine returnsInHanded_of_change (C := Tryz.checked) Tryz.own started (by kernel_rfl) Tryz.func5
    (ChangeSpec.witness6 (enc := enc) (C := Tryz.checked) false ⟨#[], #[.slice none 0 0, .slice none 0 0], []⟩ 8 (by kernel_rfl) (by kernel_rfl) (by kernel_rfl) (by kernel_rfl)) ?_
  intro W base args ds gs before hval0 hW hcnd _
  have hval : ∀ (j : Nat) t v, Tryz.f5.params[j]? = some t → args[j]? = some v → Value.okWide Tryz.prog W .any base t v := hval0
  have hW' := hW
  obtain ⟨p, q, hA0, hV, rfl, hfz, hnd⟩ := hW
  have hA : DataW.TrodAll enc Tryz.prog W 0 (fun _ => true) true Tryz.f5.params.toList args.toList ds p := hA0
  rw [Tryz.params5] at hA hval
  obtain ⟨v0, v1, d0, d1, p0, p1, rfl, rfl, rfl, h0, h1⟩ := trodAll_two hA
  obtain ⟨rfl, rfl⟩ := trodVars_none hV
  have hk0 := h0
  obtain ⟨a0, len0, cap0, rfl⟩ := okWide_slice Tryz.underlying22 (hval 0 22 v0 rfl rfl)
  obtain ⟨fuel0, hf0⟩ := h0
  obtain ⟨ls0, hr0, ho0, hsh0⟩ := Tk.open_store2 hf0
  have hk1 := h1
  obtain ⟨a1, len1, cap1, rfl⟩ := okWide_slice Tryz.underlying22 (hval 1 22 v1 rfl rfl)
  obtain ⟨fuel1, hf1⟩ := h1
  obtain ⟨ls1, hr1, ho1⟩ := Tk.open_store hf1
  clear hA0 hval0
  simp only [List.append_nil, List.nil_append] at hW'
  have hlt := fun x hx => hW'.lt x hx
  have hc := takeSeries_any W _ ls0 hr0 ho0 hsh0 _ ls1 hr1 ho1
  refine hc.mono fun e W' ⟨he, hnx⟩ => ?_
  subst he
  refine ⟨_, rfl, _, _, _, [], (p0 ++ (p1)), [], hW', ?_, ?_, rfl, hnx.frame _, fun h => by cases h⟩
  · exact trodAll_mk1 (shut_bool Tryz.underlying4 _)
  · exact trodAll_eq (trodAll_mk2 (Below.trod Tryz.laidOut (by kernel_rfl) (of_decide_eq_true (by kernel_rfl)) hk0 hnx (fun x hx => hlt x (by simp [hx]))) (Below.trod Tryz.laidOut (by kernel_rfl) (of_decide_eq_true (by kernel_rfl)) hk1 hnx (fun x hx => hlt x (by simp [hx])))) (by simp)
theorem takeSeries_holds : Rows.TakeSeriesSaid :=
  OpenClaim.holds_of_wide 5 Tryz.f5 rfl rfl rfl rfl rfl rfl rfl ⟨rfl, rfl, rfl, rfl, rfl⟩ rfl rfl rfl rfl rfl (by kernel_rfl) Tryz.func5 (by kernel_rfl)
    (of_decide_eq_true (by kernel_rfl)) (by unfold Func.isWrapper; first | (rw [if_pos (by decide +kernel)]; kernel_rfl) | (rw [if_neg (by decide +kernel)]; exact ⟨rfl, rfl⟩))
    (fun os started H enc _ => takeSeries_lifted os started H enc)
end Go.Proofs.YtmdakfmecfcbhaaGreat
