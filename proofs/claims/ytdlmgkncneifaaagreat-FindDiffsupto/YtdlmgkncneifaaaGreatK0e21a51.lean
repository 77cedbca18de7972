/- FindDiffs, for any two lists of targets of bounded bulk: what Diff says is what the document says. -/
import Derived.Test.YtdlmgkncneifaaaGreatRows
import Derived.Test.YtdlmgkncneifaaaGreatK77c7527
import Derived.Test.YtdlmgkncneifaaaGreatKca6d611
import Derived.Test.YtdlmgkncneifaaaGreatKd3c90be
import Derived.Test.YtdlmgkncneifaaaGreatK0e8bca1
import Derived.ProofKit
import Derived.OpenShut
import Derived.JoinedCond
import Derived.BigQuiet
import Derived.BigFrame
set_option linter.unusedVariables false
set_option linter.unusedSimpArgs false
namespace Go.Proofs.YtdlmgkncneifaaaGreat
open Go.ChangeShapes Go.WideShapes Go.ChangeAt Go.RowKit
open Go.ChangeMaps (open_string shut_string)
attribute [local go_sem] bs_size bs_toList bs_append bs_get bs_extract
open Lb Go.Proofs.YtdlmgkncneifaaaGreat.Fd
theorem findDiffs_any (w : World) (va : Value) (a : List Fd.Tgt) (ha : Fd.readsTgts w w.heap.size va a) (la : a.length ≤ 1048576) (oa : Fd.okTgts a) (sa : va = .slice none 0 0 ∨ ∃ ad cp, va = .slice (some ad) a.length cp) (vb : Value) (b : List Fd.Tgt) (hb : Fd.readsTgts w w.heap.size vb b) (lb : b.length ≤ 1048576) (ob : Fd.okTgts b) (sb : vb = .slice none 0 0 ∨ ∃ ad cp, vb = .slice (some ad) b.length cp) :
    Calls Tryz.prog 4 #[va, vb] w fun e w' => e = .returned (.bool true) ∧ Below w.heap.size w w' := Fd.findDiffs_any w va a ha la oa sa vb b hb lb ob sb
theorem Tryz.own : ownKnob Tryz.prog.godebug = none := by kernel_rfl
theorem Tryz.laidOut : laidOutB Tryz.prog = true := by kernel_rfl
set_option maxRecDepth 100000 in
theorem findDiffs_lifted (os : Os) (started : os.Started) (H : Type) (enc : TypeId × Value → H) (F : Stop.Interp) :
    ReturnsInHanded {} Tryz.checked os 4 .any ((Rows.OpenSpec.upto Rows.findDiffsSpec).pre6 enc Tryz.prog Tryz.f4 Rows.findDiffsUptoRow.domain false) (((Rows.OpenSpec.upto Rows.findDiffsSpec).at F).post enc Tryz.prog Tryz.f4 false true false false) := by
  refine returnsInHanded_of_cond (C := Tryz.checked) (s := Rows.OpenSpec.upto Rows.findDiffsSpec) (k := Rows.uptoSmall) rfl Tryz.own started (by kernel_rfl) Tryz.func4
    (OpenSpec.witness (enc := enc) (C := Tryz.checked) (s := Rows.OpenSpec.upto Rows.findDiffsSpec) (k := Rows.uptoSmall) rfl false ⟨#[], #[.slice none 0 0, .slice none 0 0], []⟩ 8 (by kernel_rfl) (by kernel_rfl) (by kernel_rfl)
      (x := ([.nil, .nil], [], [])) (by kernel_rfl) rfl (by kernel_rfl)) ?_
  intro W base args ds gs before hval0 hW hcnd hbk0 _
  have hval : ∀ (j : Nat) t v, Tryz.f4.params[j]? = some t → args[j]? = some v → Value.okWide Tryz.prog W .any base t v := hval0
  have hW' := hW
  obtain ⟨p, q, hA0, hV, rfl, hfz, hnd⟩ := hW
  have hA : DataW.TrodAll enc Tryz.prog W 0 (fun _ => true) true Tryz.f4.params.toList args.toList ds p := hA0
  rw [Tryz.params4] at hA hval
  obtain ⟨v0, v1, d0, d1, p0, p1, rfl, rfl, rfl, h0, h1⟩ := trodAll_two hA
  obtain ⟨rfl, rfl⟩ := trodVars_none hV
  have hk0 := h0
  obtain ⟨a0, len0, cap0, rfl⟩ := okWide_slice Tryz.underlying22 (hval 0 22 v0 rfl rfl)
  obtain ⟨fuel0, hf0⟩ := h0
  obtain ⟨ls0, hr0, hl0, ho0, hsh0⟩ := open_tgtsU hf0
  have hk1 := h1
  obtain ⟨a1, len1, cap1, rfl⟩ := okWide_slice Tryz.underlying22 (hval 1 22 v1 rfl rfl)
  obtain ⟨fuel1, hf1⟩ := h1
  obtain ⟨ls1, hr1, hl1, ho1, hsh1⟩ := open_tgtsU hf1
  clear hA0 hval0
  simp only [List.append_nil, List.nil_append] at hW'
  have hlt := fun x hx => hW'.lt x hx
  have hbk1 := bulk_bound hbk0
  have hbk : ∀ n, n ≤ Rows.uptoBulkAll _ → n ≤ 1048576 := fun n hn => Nat.le_trans hn hbk1
  have hc := findDiffs_any W _ ls0 hr0 (Nat.le_trans hl0 (hbk _ ((bulk_all _).2 _ (by simp)))) ho0 hsh0 _ ls1 hr1 (Nat.le_trans hl1 (hbk _ ((bulk_all _).2 _ (by simp)))) ho1 hsh1
  refine hc.mono fun e W' ⟨he, hnx⟩ => ?_
  subst he
  refine ⟨_, rfl, ?_⟩
  show Rows.findDiffsSpec.post enc Tryz.prog Tryz.f4 false true false false W _ _ W'
  refine ⟨_, _, _, [], (p0 ++ (p1)), [], hW', ?_, ?_, rfl, hnx.frame _, fun h => by cases h⟩
  · exact trodAll_mk1 (shut_bool Tryz.underlying4 _)
  · exact trodAll_eq (trodAll_mk2 (Below.trod Tryz.laidOut (by kernel_rfl) (of_decide_eq_true (by kernel_rfl)) hk0 hnx (fun x hx => hlt x (by simp [hx]))) (Below.trod Tryz.laidOut (by kernel_rfl) (of_decide_eq_true (by kernel_rfl)) hk1 hnx (fun x hx => hlt x (by simp [hx])))) (by simp)
theorem findDiffs_holds : Rows.FindDiffsUptoSaid :=
  OpenClaim.holds_of_cond 4 Tryz.f4 rfl rfl rfl rfl rfl rfl rfl ⟨rfl, rfl, rfl, rfl, rfl⟩ rfl rfl rfl rfl rfl (by kernel_rfl) Tryz.func4 (by kernel_rfl)
    (of_decide_eq_true (by kernel_rfl)) (by unfold Func.isWrapper; first | (rw [if_pos (by decide +kernel)]; kernel_rfl) | (rw [if_neg (by decide +kernel)]; exact ⟨rfl, rfl⟩))
    (fun os started H enc _ F => findDiffs_lifted os started H enc F)
end Go.Proofs.YtdlmgkncneifaaaGreat
