/- RestLabels, for all labels, names, values, rules, masks and texts up to the bound: what came once, and was changed, comes again; what was handed in is as it was. The library's tables of numbers are as their text lays them. -/
import Derived.Test.YtndpjdmfkhjiiaaGreatDoorCards
import Derived.Test.YtndpjdmfkhjiiaaGreatDoorTie
import Derived.Test.YtndpjdmfkhjiiaaGreatDoorK97fdc06
import Derived.Test.YtndpjdmfkhjiiaaGreatDoorK3fb6336
import Derived.Test.YtndpjdmfkhjiiaaGreatDoorK7e18a54
import Derived.Test.YtndpjdmfkhjiiaaGreatDoorK2dc024b
import Derived.Test.YtndpjdmfkhjiiaaGreatDoorK1b5ee3b
import Derived.ProofKit
import Derived.OpenShut
import Derived.Deep.DeepHandedRow
import Derived.Lib.LaidTab
import Derived.BigQuiet
import Derived.BigFrame
set_option linter.unusedVariables false
set_option linter.unusedSimpArgs false
namespace Go.Proofs.YtndpjdmfkhjiiaaGreatDoor
open Go.ChangeShapes Go.WideShapes Go.ChangeAt Go.RowKit
open Go.ChangeMaps (open_string shut_string)
attribute [local go_sem] bs_size bs_toList bs_append bs_get bs_extract
open Rl Lb in
theorem restLabels_any (w : World) (htab : tabOk w) (va : Value) (ls : List Lab) (ha : readsLabels w w.heap.size va ls) (hlen : ls.length ≤ 1048576) (hin : ∀ y ∈ ls, y.1.length ≤ 9223372036854775807 ∧ y.2.length ≤ 9223372036854775807)
    (nm : List UInt8) (hnm : nm.length ≤ 1048576) (vl : List UInt8) (hvl : vl.length ≤ 1048576)
    (vr : Value) (rs : List Rul) (hr : readsRules w w.heap.size vr rs) (hrl : rs.length ≤ 1048576) (hok : okRs rs) (m : List UInt8) (hml : m.length ≤ 1048576) (t : List UInt8) (htl : t.length ≤ 1048576) :
    Calls Tryz.prog 9 #[va, .string (bs nm), .string (bs vl), vr, .string (bs m), .string (bs t)] w fun e w' => e = .returned (.bool true) ∧ Below w.heap.size w w' := Rl.restLabels_any w htab va ls ha hlen hin nm vl hnm hvl vr rs hr hrl hok m t hml htl
theorem Tryz.own : ownKnob Tryz.prog.godebug = none := by kernel_rfl
theorem Tryz.laidOut : laidOutB Tryz.prog = true := by kernel_rfl
set_option maxRecDepth 100000 in
theorem restLabels_contract (H : Type) (enc : TypeId × Value → H) (W : World) (base : Nat) (args : Array Value) (ds gs : List (DataW H)) (before : List MemPlace)
    (hval0 : ∀ (j : Nat) t v, Tryz.f9.params[j]? = some t → args[j]? = some v → Value.okWide Tryz.prog W .any base t v)
    (hW : DataW.Whole enc Tryz.prog Tryz.f9.params.toList Rows.restLabelsSpec.vars false W args.toList ds gs before) (hL : laidMetH Tryz.prog Rows.restLabelsRow.laid W) (hbk0 : Rows.uptoSmall H (ds ++ gs) = true) :
    Calls Tryz.prog 9 args W fun e W' => ∃ v, e = .returned v ∧ Rows.restLabelsSpec.post enc Tryz.prog Tryz.f9 false true false false W args v W' := by
  have hval := hval0
  have hW' := hW
  obtain ⟨p, q, hA0, hV, rfl, hfz, hnd⟩ := hW
  have hA : DataW.TrodAll enc Tryz.prog W 0 (fun _ => true) true Tryz.f9.params.toList args.toList ds p := hA0
  rw [Tryz.params9] at hA hval
  obtain ⟨v0, v1, v2, v3, v4, v5, d0, d1, d2, d3, d4, d5, p0, p1, p2, p3, p4, p5, hargs, rfl, rfl, h0, h1, h2, h3, h4, h5⟩ := trodAll_six hA
  obtain rfl : args = #[v0, v1, v2, v3, v4, v5] := by cases args; simp_all
  obtain ⟨rfl, rfl⟩ := trodVars_none hV
  have hk0 := h0
  obtain ⟨a0, len0, cap0, rfl⟩ := okWide_slice Tryz.underlying29 (hval 0 29 v0 rfl rfl)
  obtain ⟨fuel0, hf0⟩ := h0
  obtain ⟨ls0, hr0, hl0, hi0⟩ := Rl.open_labelsU hf0
  obtain ⟨s1, rfl, rfl, rfl, hs1⟩ := open_string Tryz.underlying9 (hval 1 9 v1 rfl rfl) h1
  obtain ⟨s2, rfl, rfl, rfl, hs2⟩ := open_string Tryz.underlying9 (hval 2 9 v2 rfl rfl) h2
  have hk3 := h3
  obtain ⟨a3, len3, cap3, rfl⟩ := okWide_slice Tryz.underlying30 (hval 3 30 v3 rfl rfl)
  obtain ⟨fuel3, hf3⟩ := h3
  obtain ⟨ls3, hr3, hl3, hi3⟩ := Rl.open_rulesU hf3
  obtain ⟨s4, rfl, rfl, rfl, hs4⟩ := open_string Tryz.underlying9 (hval 4 9 v4 rfl rfl) h4
  obtain ⟨s5, rfl, rfl, rfl, hs5⟩ := open_string Tryz.underlying9 (hval 5 9 v5 rfl rfl) h5
  clear hA0 hval0
  simp only [List.append_nil, List.nil_append] at hW'
  have hlt := fun x hx => hW'.lt x hx
  have hbk1 := bulk_bound hbk0
  have hbk : ∀ n, n ≤ Rows.uptoBulkAll _ → n ≤ 1048576 := fun n hn => Nat.le_trans hn hbk1
  have hLM : laidMet Tryz.prog Rows.restLabelsRow.laid W := hL
  have hc := restLabels_any W (Rl.tab_of hLM) _ ls0 hr0 (Nat.le_trans hl0 (hbk _ ((bulk_all _).2 _ (by simp)))) hi0 s1.data.toList (by have := hbk s1.data.toList.length (by simp [Rows.uptoBulkAll, bulk_text] <;> omega); omega) s2.data.toList (by have := hbk s2.data.toList.length (by simp [Rows.uptoBulkAll, bulk_text] <;> omega); omega) _ ls3 hr3 (Nat.le_trans hl3 (hbk _ ((bulk_all _).2 _ (by simp)))) hi3 s4.data.toList (by have := hbk s4.data.toList.length (by simp [Rows.uptoBulkAll, bulk_text] <;> omega); omega) s5.data.toList (by have := hbk s5.data.toList.length (by simp [Rows.uptoBulkAll, bulk_text] <;> omega); omega)
  rw [← bs_surj, ← bs_surj, ← bs_surj, ← bs_surj] at hc
  refine hc.mono fun e W' ⟨he, hnx⟩ => ?_
  subst he
  refine ⟨_, rfl, _, _, _, [], (p0 ++ (p3)), [], hW', ?_, ?_, rfl, hnx.frame _, fun h => by cases h⟩
  · exact trodAll_mk1 (shut_bool Tryz.underlying4 _)
  · exact trodAll_eq (trodAll_mk6 (Below.trod Tryz.laidOut (by kernel_rfl) (of_decide_eq_true (by kernel_rfl)) hk0 hnx (fun x hx => hlt x (by simp [hx]))) (shut_string Tryz.underlying9 hs1) (shut_string Tryz.underlying9 hs2) (Below.trod Tryz.laidOut (by kernel_rfl) (of_decide_eq_true (by kernel_rfl)) hk3 hnx (fun x hx => hlt x (by simp [hx]))) (shut_string Tryz.underlying9 hs4) (shut_string Tryz.underlying9 hs5)) (by simp)
/-- A world for the witness: the settled one, the tables holding what their initialisers lay. -/
noncomputable def restLabels_laidWorld (os : Os) : World :=
  { World.holding Tryz.prog os ⟨#[], #[], []⟩ with heap := ((((World.holding Tryz.prog os ⟨#[], #[], []⟩).heap.modify 2 fun | .cells _ t frozen => .cells #[.int .u8 0, .int .u8 1, .int .u8 28, .int .u8 2, .int .u8 29, .int .u8 14, .int .u8 24, .int .u8 3, .int .u8 30, .int .u8 22, .int .u8 20, .int .u8 15, .int .u8 25, .int .u8 17, .int .u8 4, .int .u8 8, .int .u8 31, .int .u8 27, .int .u8 13, .int .u8 23, .int .u8 21, .int .u8 19, .int .u8 16, .int .u8 7, .int .u8 26, .int .u8 12, .int .u8 18, .int .u8 6, .int .u8 11, .int .u8 5, .int .u8 10, .int .u8 9] t frozen | o => o).modify 3 fun | .cells _ t frozen => .cells #[.int .u8 0, .int .u8 1, .int .u8 56, .int .u8 2, .int .u8 57, .int .u8 49, .int .u8 28, .int .u8 3, .int .u8 61, .int .u8 58, .int .u8 42, .int .u8 50, .int .u8 38, .int .u8 29, .int .u8 17, .int .u8 4, .int .u8 62, .int .u8 47, .int .u8 59, .int .u8 36, .int .u8 45, .int .u8 43, .int .u8 51, .int .u8 22, .int .u8 53, .int .u8 39, .int .u8 33, .int .u8 30, .int .u8 24, .int .u8 18, .int .u8 12, .int .u8 5, .int .u8 63, .int .u8 55, .int .u8 48, .int .u8 27, .int .u8 60, .int .u8 41, .int .u8 37, .int .u8 16, .int .u8 46, .int .u8 35, .int .u8 44, .int .u8 21, .int .u8 52, .int .u8 32, .int .u8 23, .int .u8 11, .int .u8 54, .int .u8 26, .int .u8 40, .int .u8 15, .int .u8 34, .int .u8 20, .int .u8 31, .int .u8 10, .int .u8 25, .int .u8 14, .int .u8 19, .int .u8 9, .int .u8 13, .int .u8 8, .int .u8 7, .int .u8 6] t frozen | o => o).modify 0 fun | .cells _ t frozen => .cells #[.int .u64 1, .int .u64 10, .int .u64 100, .int .u64 1000, .int .u64 10000, .int .u64 100000, .int .u64 1000000, .int .u64 10000000, .int .u64 100000000, .int .u64 1000000000, .int .u64 10000000000, .int .u64 100000000000, .int .u64 1000000000000, .int .u64 10000000000000, .int .u64 100000000000000, .int .u64 1000000000000000, .int .u64 10000000000000000, .int .u64 100000000000000000, .int .u64 1000000000000000000, .int .u64 10000000000000000000] t frozen | o => o) }
theorem restLabels_met (os : Os) : laidMet Tryz.prog Rows.restLabelsRow.laid ((restLabels_laidWorld os).forCall (fun _ _ => 0) ⟨#[], #[.slice none 0 0, .string ByteArray.empty, .string ByteArray.empty, .slice none 0 0, .string ByteArray.empty, .string ByteArray.empty], []⟩).memory :=
  laidMet_of_run' 8 (by kernel_rfl) (by kernel_rfl)
theorem restLabels_reads (os : Os) {H : Type} (enc : TypeId × Value → H) : ∃ places, DataW.whole enc Tryz.prog ((restLabels_laidWorld os).forCall (fun _ _ => 0) ⟨#[], #[.slice none 0 0, .string ByteArray.empty, .string ByteArray.empty, .slice none 0 0, .string ByteArray.empty, .string ByteArray.empty], []⟩).memory Tryz.f9.params.toList Rows.restLabelsSpec.vars false #[.slice none 0 0, .string ByteArray.empty, .string ByteArray.empty, .slice none 0 0, .string ByteArray.empty, .string ByteArray.empty].toList 8 = some ([.nil, .lit (.string []), .lit (.string []), .nil, .lit (.string []), .lit (.string [])], [], places) :=
  ⟨[], by kernel_rfl⟩
set_option maxRecDepth 100000 in
theorem restLabels_lifted (os : Os) (started : os.Started) (H : Type) (enc : TypeId × Value → H) (F : Stop.Interp) :
    ReturnsInHanded {} Tryz.checked os 9 .any ((Rows.OpenSpec.upto Rows.restLabelsSpec).preRow enc Tryz.prog Tryz.f9 Rows.restLabelsUptoRow.domain false Rows.restLabelsUptoRow.laid) (((Rows.OpenSpec.upto Rows.restLabelsSpec).at F).post enc Tryz.prog Tryz.f9 false true false false) := by
  obtain ⟨places, hx⟩ := restLabels_reads os enc
  refine returnsInHanded_of_row (C := Tryz.checked) (s := Rows.OpenSpec.upto Rows.restLabelsSpec) Tryz.own started (by kernel_rfl) Tryz.func9
    (witness_row_at (enc := enc) (C := Tryz.checked) false (restLabels_laidWorld os) #[.slice none 0 0, .string ByteArray.empty, .string ByteArray.empty, .slice none 0 0, .string ByteArray.empty, .string ByteArray.empty] rfl (by kernel_rfl) (by kernel_rfl) (by kernel_rfl)
      (OpenSpec.preRow_of_cond 8 hx (by kernel_rfl) (fun k hk => by cases hk; kernel_rfl) (by kernel_rfl) (restLabels_met os))) ?_
  intro W base args ds gs before hval hW hcnd hcond h3 hL h4 h5
  exact restLabels_contract H enc W base args ds gs before hval hW hL (hcond _ rfl)
theorem restLabels_said : Rows.RestLabelsUptoSaid :=
  OpenClaim.holds_of_cond 9 Tryz.f9 rfl rfl rfl rfl rfl rfl rfl ⟨rfl, rfl, rfl, rfl, rfl⟩ rfl rfl rfl rfl rfl (by kernel_rfl) Tryz.func9 (by kernel_rfl)
    (of_decide_eq_true (by kernel_rfl)) (by unfold Func.isWrapper; first | (rw [if_pos (by decide +kernel)]; kernel_rfl) | (rw [if_neg (by decide +kernel)]; exact ⟨rfl, rfl⟩))
    (fun os started H enc _ F => by rw [OpenClaim.pre_eq_preRow]; exact restLabels_lifted os started H enc F)
/-- No parameter wants a stand-in; the program's own looks are what the card says. -/
theorem restLabels_plain (f : FuncId) (fn : Func) (hf : Tryz.pinned.checked.prog.funcNamed "gleaner/gleanerlaw.RestLabels" = some f) (hfn : Tryz.pinned.checked.prog.funcs[f]? = some fn) :
    true = Tryz.pinned.checked.prog.looks [] ∧ ∀ (j : Nat) t, fn.params[j]? = some t → Tryz.pinned.checked.prog.wantsStandIn t = false := by
  obtain rfl : f = 9 := Option.some.inj ((show Tryz.prog.funcNamed "gleaner/gleanerlaw.RestLabels" = some 9 by kernel_rfl).symm.trans hf) |>.symm
  obtain rfl : fn = Tryz.f9 := (Option.some.inj (Tryz.func9.symm.trans hfn)).symm
  refine ⟨by kernel_rfl, fun j t ht => ?_⟩
  rw [Tryz.params9] at ht
  have hm := Array.mem_of_getElem? ht
  simp at hm
  rcases hm with rfl | rfl | rfl | rfl
  · exact (show Tryz.prog.wantsStandIn 29 = false by kernel_rfl)
  · exact (show Tryz.prog.wantsStandIn 9 = false by kernel_rfl)
  · exact (show Tryz.prog.wantsStandIn 30 = false by kernel_rfl)
  · exact (show Tryz.prog.wantsStandIn 9 = false by kernel_rfl)
theorem restLabels_card : Rows.RestLabelsUptoCardSaid :=
  Claim7.holds_tied_plain_at .later [] _ _ _ _ restLabels_said (fun _ h => by cases h) (by kernel_rfl) (fun _ h => by cases h) restLabelsUpto_row_tie rfl ⟨rfl, rfl⟩ (by kernel_rfl) rfl restLabels_plain (by kernel_rfl)
end Go.Proofs.YtndpjdmfkhjiiaaGreatDoor
