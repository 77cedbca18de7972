/- 1 texts in one. -/
import Derived.Test.YtkaeogldielkfaaGreatProg
import Derived.Test.YtkaeogldielkfaaGreatK0755ea5
import Derived.Test.YtkaeogldielkfaaGreatK28aec46
import Derived.Test.YtkaeogldielkfaaGreatK27654cb
import Derived.Test.YtkaeogldielkfaaGreatK5804e26
import Derived.Test.YtkaeogldielkfaaGreatKfd23cdb
import Derived.Test.YtkaeogldielkfaaGreatK7cb525c
import Derived.Test.YtkaeogldielkfaaGreatK3b2be08
import Derived.ProofKit
import Derived.Deep.Slices
import Derived.Deep.Fields
import Derived.Lib.SmallJoins
set_option linter.unusedVariables false
set_option linter.unusedSimpArgs false
namespace Go.Proofs.YtkaeogldielkfaaGreat.Rc
open Go.RowKit Go.ChangeShapes Go.WideShapes Go.Deep Go.Joins Lb
theorem Tryz.cellsBool : Tryz.prog.cellsOf 4 = 1 := by kernel_rfl
theorem Tryz.cellsInts : Tryz.prog.cellsOf 23 = 1 := by kernel_rfl
theorem Tryz.cellsBools : Tryz.prog.cellsOf 24 = 1 := by kernel_rfl
theorem Tryz.cellsKnw : Tryz.prog.cellsOf 26 = 3 := by kernel_rfl
section
variable {H : Type} {enc : TypeId × Value → H} {w : World} {spare : Nat → Bool} {held : Bool}
set_option maxRecDepth 20000 in
theorem open_ints {fuel : Nat} {v : Value} {x : DataW H × List MemPlace} (h : DataW.trod enc Tryz.prog w 0 spare held fuel 23 [v] = some x) :
    ∃ ls, readsInt w w.heap.size v ls ∧ ls.length ≤ 9223372036854775807 ∧ ∀ y ∈ ls, -9223372036854775808 ≤ y ∧ y ≤ 9223372036854775807 := by
  rcases Go.Deep.open_slice Tryz.underlying23 h with ⟨h1, _⟩ | ⟨a, len, cap, m, n, D, Pl, h1, _, hl, hm, hmm, _, hx⟩
  · simp at h1
    subst h1
    exact ⟨[], ⟨none, 0, rfl, fun i hi => by simp at hi⟩, by simp, fun r hr => by simp at hr⟩
  · simp at h1
    subst h1
    have hle : len ≤ m := by rw [hmm]; split <;> omega
    obtain ⟨ab, ao, asp⟩ := a
    obtain ⟨ls, hlen, hp⟩ := list_of (n := len) (p := fun i (y : Int) => (-9223372036854775808 ≤ y ∧ y ≤ 9223372036854775807) ∧ w.cell? ⟨ab, ao + i, none⟩ = some (.int .i64 y) ∧ (i = 0 → asp = none)) (fun i hi => by
      obtain ⟨cs', c1, c2⟩ := hx i (by omega)
      rw [Tryz.cellsInt, Nat.mul_one] at c1
      obtain ⟨s0, rfl, _, l0⟩ := DataW.trod_int Tryz.underlying3 c2
      obtain ⟨_, hl3, hc⟩ := World.cells?_some c1
      obtain ⟨e1, e2⟩ := roadd_at (hc 0 (by decide))
      exact ⟨s0, wf_i64 l0, e1, e2⟩)
    refine ⟨ls, ⟨some ⟨ab, ao, asp⟩, cap, by rw [hlen], fun i hi => ?_⟩, by unfold maxLen at hm; omega, fun y hy => ?_⟩
    · obtain ⟨_, c0, _⟩ := hp i hi
      obtain rfl := (hp 0 (by omega)).2.2 rfl
      exact ⟨ab, ao, rfl, World.block_lt_of_cell? _ _ c0, c0⟩
    · obtain ⟨i, hi, rfl⟩ := List.getElem_of_mem hy
      exact (hp i hi).1
set_option maxRecDepth 20000 in
theorem open_bools {fuel : Nat} {v : Value} {x : DataW H × List MemPlace} (h : DataW.trod enc Tryz.prog w 0 spare held fuel 24 [v] = some x) :
    ∃ ls, readsBool w w.heap.size v ls ∧ ls.length ≤ 9223372036854775807 := by
  rcases Go.Deep.open_slice Tryz.underlying24 h with ⟨h1, _⟩ | ⟨a, len, cap, m, n, D, Pl, h1, _, hl, hm, hmm, _, hx⟩
  · simp at h1
    subst h1
    exact ⟨[], ⟨none, 0, rfl, fun i hi => by simp at hi⟩, by simp⟩
  · simp at h1
    subst h1
    have hle : len ≤ m := by rw [hmm]; split <;> omega
    obtain ⟨ab, ao, asp⟩ := a
    obtain ⟨ls, hlen, hp⟩ := list_of (n := len) (p := fun i (y : Bool) => w.cell? ⟨ab, ao + i, none⟩ = some (.bool y) ∧ (i = 0 → asp = none)) (fun i hi => by
      obtain ⟨cs', c1, c2⟩ := hx i (by omega)
      rw [Tryz.cellsBool, Nat.mul_one] at c1
      obtain ⟨s0, rfl, _⟩ := DataW.trod_bool Tryz.underlying4 c2
      obtain ⟨_, hl3, hc⟩ := World.cells?_some c1
      obtain ⟨e1, e2⟩ := roadd_at (hc 0 (by decide))
      exact ⟨s0, e1, e2⟩)
    refine ⟨ls, ⟨some ⟨ab, ao, asp⟩, cap, by rw [hlen], fun i hi => ?_⟩, by unfold maxLen at hm; omega⟩
    obtain ⟨c0, _⟩ := hp i hi
    obtain rfl := (hp 0 (by omega)).2 rfl
    exact ⟨ab, ao, rfl, World.block_lt_of_cell? _ _ c0, c0⟩
set_option maxRecDepth 20000 in
theorem open_knwC {fuel : Nat} {cs : List Value} {x : DataW H × List MemPlace} (h : DataW.trod enc Tryz.prog w 0 spare held fuel 26 cs = some x) :
    ∃ (k : Knw) (vr vl vh : Value), cs = [vr, vl, vh] ∧ readsKnw w w.heap.size vr vl vh k ∧ okKnw k := by
  obtain ⟨y0, y1, y2, n, hl, h0, h1, h2⟩ := rtrod_struct3 Tryz.underlying26 h
  obtain ⟨c0, c1, c2, rfl⟩ := three_list (hl.trans Tryz.cellsKnw)
  simp only [Tryz.cellsRefs, Tryz.cellsInts, Tryz.cellsBools, List.drop_zero, List.drop_succ_cons, List.take_succ_cons, List.take_zero] at h0 h1 h2
  obtain ⟨rs, hr, hn, hi⟩ := open_refs h0
  obtain ⟨ls, hl1, hl2, hl3⟩ := open_ints h1
  obtain ⟨bs, hb1, hb2⟩ := open_bools h2
  exact ⟨⟨rs, ls, bs⟩, c0, c1, c2, rfl, ⟨hr, hl1, hb1⟩, hn, hl2, hb2, hi, hl3⟩
set_option maxRecDepth 100000 in
/-- What is known, by value. -/
theorem open_known {r : Reach} {b0 : Nat} {v : Value} {d : DataW H} {p : List MemPlace} (hv : Value.okWide Tryz.prog w r b0 26 v) (h : DataW.Trod enc Tryz.prog w 0 spare held 26 v d p) :
    ∃ (k : Knw) (vr vl vh : Value), v = .agg #[vr, vl, vh] ∧ readsKnw w w.heap.size vr vl vh k ∧ okKnw k := by
  obtain ⟨cs, rfl, hsz⟩ := okWide_struct Tryz.underlying26 hv
  obtain ⟨fuel, hf⟩ := h
  have e : (Value.agg cs).cells.toList = cs.toList := by simp [Value.cells]
  rw [e] at hf
  obtain ⟨k, vr, vl, vh, hc, hr, ho⟩ := open_knwC hf
  refine ⟨k, vr, vl, vh, ?_, hr, ho⟩
  have : cs = (#[vr, vl, vh] : Array Value) := by
    apply Array.toList_inj.1
    rw [hc]
  rw [this]
end
end Go.Proofs.YtkaeogldielkfaaGreat.Rc
