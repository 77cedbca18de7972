/- 1 texts in one. -/
import Derived.Test.YtndpjdmfkhjiiaaGreatDoorProg
import Derived.Test.YtndpjdmfkhjiiaaGreatDoorK97fdc06
import Derived.Test.YtndpjdmfkhjiiaaGreatDoorK3fb6336
import Derived.Test.YtndpjdmfkhjiiaaGreatDoorK36433a5
import Derived.Test.YtndpjdmfkhjiiaaGreatDoorKa9444aa
import Derived.Test.YtndpjdmfkhjiiaaGreatDoorK2069ade
import Derived.Test.YtndpjdmfkhjiiaaGreatDoorK13c6859
import Derived.ProofKit
import Derived.Deep.Slices
import Derived.Deep.Fields
import Derived.Lib.SmallJoins
set_option linter.unusedVariables false
set_option linter.unusedSimpArgs false
namespace Go.Proofs.YtndpjdmfkhjiiaaGreatDoor.Rl
open Go.RowKit Go.ChangeShapes Go.WideShapes Go.Deep Go.Joins
theorem Tryz.cellsRule : Tryz.prog.cellsOf 24 = 7 := by kernel_rfl
theorem seven_of {α : Type} {l : List α} (h : l.length = 7) : ∃ a b c d e f g, l = [a, b, c, d, e, f, g] := by
  match l, h with
  | [a, b, c, d, e, f, g], _ => exact ⟨a, b, c, d, e, f, g, rfl⟩
section
variable {H : Type} {enc : TypeId × Value → H} {P : Program} {w : World} {base : Nat} {spare : Nat → Bool} {held : Bool}
theorem trod_struct7 {t : TypeId} {f0 f1 f2 f3 f4 f5 f6 : Field} {fuel : Nat} {cs : List Value} {x : DataW H × List MemPlace} (ht : P.underlying t = some (.struct #[f0, f1, f2, f3, f4, f5, f6])) (h : DataW.trod enc P w base spare held fuel t cs = some x) :
    ∃ y0 y1 y2 y3 y4 y5 y6 n, cs.length = P.cellsOf t ∧ DataW.trod enc P w base spare held n f0.type ((cs.drop f0.offset).take (P.cellsOf f0.type)) = some y0 ∧
      DataW.trod enc P w base spare held n f1.type ((cs.drop f1.offset).take (P.cellsOf f1.type)) = some y1 ∧ DataW.trod enc P w base spare held n f2.type ((cs.drop f2.offset).take (P.cellsOf f2.type)) = some y2 ∧
      DataW.trod enc P w base spare held n f3.type ((cs.drop f3.offset).take (P.cellsOf f3.type)) = some y3 ∧ DataW.trod enc P w base spare held n f4.type ((cs.drop f4.offset).take (P.cellsOf f4.type)) = some y4 ∧
      DataW.trod enc P w base spare held n f5.type ((cs.drop f5.offset).take (P.cellsOf f5.type)) = some y5 ∧ DataW.trod enc P w base spare held n f6.type ((cs.drop f6.offset).take (P.cellsOf f6.type)) = some y6 := by
  obtain ⟨xs, n, _, rfl, hl, hlen, hf⟩ := DataW.trod_struct ht h
  obtain ⟨y0, y1, y2, y3, y4, y5, y6, rfl⟩ := seven_of hlen
  exact ⟨y0, y1, y2, y3, y4, y5, y6, n, hl, by simpa using hf 0 f0 rfl, by simpa using hf 1 f1 rfl, by simpa using hf 2 f2 rfl, by simpa using hf 3 f3 rfl, by simpa using hf 4 f4 rfl, by simpa using hf 5 f5 rfl, by simpa using hf 6 f6 rfl⟩
end
section
variable {H : Type} {enc : TypeId × Value → H} {w : World} {spare : Nat → Bool} {held : Bool}
set_option maxRecDepth 20000 in
theorem open_ruleC {fuel : Nat} {cs : List Value} {x : DataW H × List MemPlace} (h : DataW.trod enc Tryz.prog w 0 spare held fuel 24 cs = some x) :
    ∃ r v, cs = ruleC r v ∧ readsStrs w w.heap.size v r.sources ∧ okR r ∧ (Lit.int .i64 r.kind).wf = true := by
  obtain ⟨y0, y1, y2, y3, y4, y5, y6, n, hl, h0, h1, h2, h3, h4, h5, h6⟩ := trod_struct7 Tryz.underlying24 h
  obtain ⟨c0, c1, c2, c3, c4, c5, c6, rfl⟩ := seven_of (hl.trans Tryz.cellsRule)
  have e3 : Tryz.prog.cellsOf 3 = 1 := by kernel_rfl
  have e9 : Tryz.prog.cellsOf 9 = 1 := by kernel_rfl
  have es : Tryz.prog.cellsOf 22 = 1 := by kernel_rfl
  simp only [e3, e9, es, List.drop_zero, List.drop_succ_cons, List.take_succ_cons, List.take_zero] at h0 h1 h2 h3 h4 h5 h6
  obtain ⟨k, ek, _, wk⟩ := DataW.trod_int Tryz.underlying3 h0
  obtain ⟨m, em, _, wm⟩ := DataW.trod_int Tryz.underlying3 h4
  obtain ⟨s2, e2, _, l2⟩ := DataW.trod_string Tryz.underlying9 h2
  obtain ⟨s3, e3, _, l3⟩ := DataW.trod_string Tryz.underlying9 h3
  obtain ⟨s5, e5, _, l5⟩ := DataW.trod_string Tryz.underlying9 h5
  obtain ⟨s6, e6, _, l6⟩ := DataW.trod_string Tryz.underlying9 h6
  obtain ⟨ls, hr, hn, hi⟩ := open_texts h1
  simp at ek em e2 e3 e5 e6
  subst ek em e2 e3 e5 e6
  unfold maxLen at l2 l3 l5 l6
  refine ⟨⟨k, ls, s2.data.toList, s3.data.toList, m, s5.data.toList, s6.data.toList⟩, c1, by unfold ruleC; rw [← bs_surj, ← bs_surj, ← bs_surj, ← bs_surj], hr, ?_, wk⟩
  exact ⟨hn, hi, by rw [Array.length_toList]; exact l2, by rw [Array.length_toList]; exact l3, by rw [Array.length_toList]; exact l5, by rw [Array.length_toList]; exact l6⟩
set_option maxRecDepth 20000 in
theorem open_rules {fuel : Nat} {v : Value} {x : DataW H × List MemPlace} (h : DataW.trod enc Tryz.prog w 0 spare held fuel 30 [v] = some x) :
    ∃ rs, readsRules w w.heap.size v rs ∧ rs.length ≤ 9223372036854775807 ∧ okRs rs := by
  rcases Go.Deep.open_slice Tryz.underlying30 h with ⟨h1, _⟩ | ⟨a, len, cap, m, n, D, Pl, h1, _, hl, hm, hmm, _, hx⟩
  · simp at h1
    subst h1
    exact ⟨[], ⟨none, 0, rfl, fun i hi => by simp at hi⟩, by simp, fun r hr => by simp at hr⟩
  · simp at h1
    subst h1
    have hle : len ≤ m := by rw [hmm]; split <;> omega
    obtain ⟨rs, hlen, hp⟩ := olist_of (n := len) (p := fun i (r : Rul) => okR r ∧ (Lit.int .i64 r.kind).wf = true ∧ ∃ vs, readsStrs w w.heap.size vs r.sources ∧
        w.cell? ⟨a.block, a.off + i * 7, none⟩ = some (.int .i64 r.kind) ∧ w.cell? ⟨a.block, a.off + i * 7 + 1, none⟩ = some vs ∧ w.cell? ⟨a.block, a.off + i * 7 + 2, none⟩ = some (.string (bs r.between)) ∧ w.cell? ⟨a.block, a.off + i * 7 + 3, none⟩ = some (.string (bs r.mask)) ∧
        w.cell? ⟨a.block, a.off + i * 7 + 4, none⟩ = some (.int .i64 r.modulus) ∧ w.cell? ⟨a.block, a.off + i * 7 + 5, none⟩ = some (.string (bs r.target)) ∧ w.cell? ⟨a.block, a.off + i * 7 + 6, none⟩ = some (.string (bs r.repl))) (fun i hi => by
      obtain ⟨cs', c1, c2⟩ := hx i (by omega)
      rw [Tryz.cellsRule] at c1
      obtain ⟨r, u, rfl, hr, ho, hw⟩ := open_ruleC c2
      obtain ⟨_, hl7, hc⟩ := World.cells?_some c1
      obtain ⟨ab, ao, asp⟩ := a
      exact ⟨r, ho, hw, u, hr, Lb.add_at (s := 0) (j := 0) (hc 0 (by decide)), Lb.add_at (s := 0) (j := 1) (hc 1 (by decide)), Lb.add_at (s := 0) (j := 2) (hc 2 (by decide)), Lb.add_at (s := 0) (j := 3) (hc 3 (by decide)), Lb.add_at (s := 0) (j := 4) (hc 4 (by decide)), Lb.add_at (s := 0) (j := 5) (hc 5 (by decide)), Lb.add_at (s := 0) (j := 6) (hc 6 (by decide))⟩)
    refine ⟨rs, ⟨some a, cap, by rw [hlen], fun i hi => ?_⟩, by unfold maxLen at hm; omega, fun r hr => ?_⟩
    · obtain ⟨_, _, vs, hr, c0, c1, c2, c3, c4, c5, c6⟩ := hp i hi
      obtain ⟨ab, ao, asp⟩ := a
      have hsp : asp = none := by
        obtain ⟨cs', d1, d2⟩ := hx 0 (by omega)
        rw [Tryz.cellsRule] at d1
        obtain ⟨r, u, rfl, _, _, _⟩ := open_ruleC d2
        obtain ⟨_, _, hc⟩ := World.cells?_some d1
        obtain ⟨_, e2⟩ := oadd_at (hc 0 (by decide))
        exact e2 (Nat.zero_mul _)
      subst hsp
      exact ⟨ab, ao, vs, rfl, World.block_lt_of_cell? _ _ c0, hr, c0, c1, c2, c3, c4, c5, c6⟩
    · obtain ⟨i, hi, rfl⟩ := List.getElem_of_mem hr
      exact ⟨(hp i hi).1, (hp i hi).2.1⟩
end
end Go.Proofs.YtndpjdmfkhjiiaaGreatDoor.Rl
