/- 1 texts in one. -/
import Derived.Test.YtmdakfmecfcbhaaGreatProg
import Derived.Test.YtmdakfmecfcbhaaGreatK7e06493
import Derived.Test.YtmdakfmecfcbhaaGreatK9faadf2
import Derived.Test.YtmdakfmecfcbhaaGreatK6ada7ca
import Derived.Test.YtmdakfmecfcbhaaGreatK14d8a0b
import Derived.ProofKit
import Derived.Deep.Slices
import Derived.Deep.Fields
import Derived.Lib.SmallJoins
set_option linter.unusedVariables false
set_option linter.unusedSimpArgs false
namespace Go.Proofs.YtmdakfmecfcbhaaGreat.Tk
open Go.RowKit Go.ChangeShapes Go.WideShapes Go.Deep Go.Joins
theorem Tryz.cellsSam : Tryz.prog.cellsOf 48 = 2 := by kernel_rfl
theorem Tryz.cellsSer : Tryz.prog.cellsOf 41 = 2 := by kernel_rfl
theorem Tryz.cellsInt : Tryz.prog.cellsOf 3 = 1 := by kernel_rfl
theorem Tryz.cellsU64 : Tryz.prog.cellsOf 46 = 1 := by kernel_rfl
theorem Tryz.cellsLabs : Tryz.prog.cellsOf 34 = 1 := by kernel_rfl
theorem Tryz.cellsSams : Tryz.prog.cellsOf 35 = 1 := by kernel_rfl
theorem roadt_at {b o : Nat} {sp : Option Nat} {w : World} {i : Nat} {v : Value} (h : w.cell? ((Addr.add ⟨b, o, sp⟩ i).add 0) = some v) : w.cell? ⟨b, o + i, none⟩ = some v ∧ (i = 0 → sp = none) := by
  unfold Addr.add at h
  by_cases hi : i = 0
  · subst hi
    cases sp with
    | none => simpa using h
    | some k => exfalso; simp [World.cell?] at h; split at h <;> simp at h
  · simp [hi] at h
    exact ⟨by simpa using h, fun e => absurd e hi⟩
theorem two_list {α : Type} {l : List α} (h : l.length = 2) : ∃ a b, l = [a, b] := by
  match l, h with
  | [a, b], _ => exact ⟨a, b, rfl⟩
theorem wfi {n : Int} (h : (Lit.int .i64 n).wf = true) : -9223372036854775808 ≤ n ∧ n ≤ 9223372036854775807 := by simpa [Lit.wf, IntKind.min, IntKind.max, IntKind.signed, IntKind.bits] using h
theorem wfu {n : Int} (h : (Lit.int .u64 n).wf = true) : 0 ≤ n ∧ n ≤ 18446744073709551615 := by simpa [Lit.wf, IntKind.min, IntKind.max, IntKind.signed, IntKind.bits] using h
section
variable {H : Type} {enc : TypeId × Value → H} {P : Program} {w : World} {base : Nat} {spare : Nat → Bool} {held : Bool}
theorem ttrod {t : TypeId} {fs : Array Field} {fuel : Nat} {cs : List Value} {x : DataW H × List MemPlace} (ht : P.underlying t = some (.struct fs)) (h : DataW.trod enc P w base spare held fuel t cs = some x) :
    cs.length = P.cellsOf t ∧ ∃ n, ∀ (i : Nat) (f : Field), fs[i]? = some f → ∃ y, DataW.trod enc P w base spare held n f.type ((cs.drop f.offset).take (P.cellsOf f.type)) = some y := by
  obtain ⟨xs, n, _, rfl, hl, hlen, hf⟩ := DataW.trod_struct ht h
  refine ⟨hl, n, fun i f hi => ?_⟩
  rw [hf i f hi]
  have : i < fs.size := by
    rcases Nat.lt_or_ge i fs.size with h | h
    · exact h
    · rw [Array.getElem?_eq_none h] at hi; cases hi
  exact ⟨xs[i]'(by omega), List.getElem?_eq_getElem (by omega)⟩
end
section
variable {H : Type} {enc : TypeId × Value → H} {w : World} {spare : Nat → Bool} {held : Bool}
set_option maxRecDepth 20000 in
theorem open_samC {fuel : Nat} {cs : List Value} {x : DataW H × List MemPlace} (h : DataW.trod enc Tryz.prog w 0 spare held fuel 48 cs = some x) :
    ∃ r : Sam, cs = [.int .i64 r.1, .int .u64 (r.2 : Nat)] ∧ okSam r := by
  obtain ⟨hl, n, hf⟩ := ttrod Tryz.underlying48 h
  rw [Tryz.cellsSam] at hl
  obtain ⟨a, b, rfl⟩ := two_list hl
  obtain ⟨y0, h0⟩ : ∃ y, DataW.trod enc Tryz.prog w 0 spare held n 3 (([a, b].drop 0).take (Tryz.prog.cellsOf 3)) = some y := hf 0 _ rfl
  obtain ⟨y1, h1⟩ : ∃ y, DataW.trod enc Tryz.prog w 0 spare held n 46 (([a, b].drop 1).take (Tryz.prog.cellsOf 46)) = some y := hf 1 _ rfl
  simp only [Tryz.cellsInt, Tryz.cellsU64, List.drop_zero, List.drop_succ_cons, List.take_succ_cons, List.take_zero] at h0 h1
  obtain ⟨t, et, _, wt⟩ := DataW.trod_int Tryz.underlying3 h0
  obtain ⟨u, eu, _, wu⟩ := DataW.trod_int Tryz.underlying46 h1
  simp at et eu
  subst et eu
  obtain ⟨m, rfl⟩ := Int.eq_ofNat_of_zero_le (wfu wu).1
  exact ⟨(t, m), rfl, wfi wt, by have := (wfu wu).2; show m < _; omega⟩
set_option maxRecDepth 20000 in
theorem open_sams {fuel : Nat} {v : Value} {x : DataW H × List MemPlace} (h : DataW.trod enc Tryz.prog w 0 spare held fuel 35 [v] = some x) :
    ∃ is, readsSam w w.heap.size v is ∧ is.length ≤ 9223372036854775807 ∧ ∀ r ∈ is, okSam r := by
  rcases Go.Deep.open_slice Tryz.underlying35 h with ⟨h1, _⟩ | ⟨a, len, cap, m, n, D, Pl, h1, _, hl, hm, hmm, _, hx⟩
  · simp at h1
    subst h1
    exact ⟨[], ⟨none, 0, rfl, Nat.le_refl _, fun i hi => by simp at hi⟩, by simp, fun r hr => by simp at hr⟩
  · simp at h1
    subst h1
    have hle : len ≤ m := by rw [hmm]; split <;> omega
    obtain ⟨ab, ao, asp⟩ := a
    obtain ⟨is, hlen, hp⟩ := Lb.list_of (n := len) (p := fun i (r : Sam) => okSam r ∧ (i = 0 → asp = none) ∧ w.cell? ⟨ab, ao + i * 2, none⟩ = some (.int .i64 r.1) ∧ w.cell? ⟨ab, ao + i * 2 + 1, none⟩ = some (.int .u64 (r.2 : Nat))) (fun i hi => by
      obtain ⟨cs', c1, c2⟩ := hx i (by omega)
      rw [Tryz.cellsSam] at c1
      obtain ⟨r, rfl, ho⟩ := open_samC c2
      obtain ⟨_, hl3, hc⟩ := World.cells?_some c1
      obtain ⟨e1, e2⟩ := roadt_at (hc 0 (by decide))
      exact ⟨r, ho, fun h => e2 (by omega), e1, Lb.add_at (s := 0) (j := 1) (hc 1 (by decide))⟩)
    refine ⟨is, ⟨some ⟨ab, ao, asp⟩, cap, by rw [hlen], by rw [hlen]; exact hl, fun i hi => ?_⟩, by unfold maxLen at hm; omega, fun r hr => ?_⟩
    · obtain ⟨_, _, c0, c1⟩ := hp i hi
      obtain rfl := (hp 0 (by omega)).2.1 rfl
      exact ⟨ab, ao, rfl, World.block_lt_of_cell? _ _ c0, c0, c1⟩
    · obtain ⟨i, hi, rfl⟩ := List.getElem_of_mem hr
      exact (hp i hi).1
set_option maxRecDepth 20000 in
theorem open_serC {fuel : Nat} {cs : List Value} {x : DataW H × List MemPlace} (h : DataW.trod enc Tryz.prog w 0 spare held fuel 41 cs = some x) :
    ∃ (r : Ser) (p q : Value), cs = [p, q] ∧ Lb.readsLabels w w.heap.size p r.1 ∧ readsSam w w.heap.size q r.2 ∧ okSer r := by
  obtain ⟨hl, n, hf⟩ := ttrod Tryz.underlying41 h
  rw [Tryz.cellsSer] at hl
  obtain ⟨a, b, rfl⟩ := two_list hl
  obtain ⟨y0, h0⟩ : ∃ y, DataW.trod enc Tryz.prog w 0 spare held n 34 (([a, b].drop 0).take (Tryz.prog.cellsOf 34)) = some y := hf 0 _ rfl
  obtain ⟨y1, h1⟩ : ∃ y, DataW.trod enc Tryz.prog w 0 spare held n 35 (([a, b].drop 1).take (Tryz.prog.cellsOf 35)) = some y := hf 1 _ rfl
  simp only [Tryz.cellsLabs, Tryz.cellsSams, List.drop_zero, List.drop_succ_cons, List.take_succ_cons, List.take_zero] at h0 h1
  obtain ⟨ls, hr, hn, hi⟩ := Lb.open_labels h0
  obtain ⟨ss, hs, hm, hj⟩ := open_sams h1
  exact ⟨(ls, ss), a, b, rfl, hr, hs, ⟨hn, hi⟩, hm, hj⟩
set_option maxRecDepth 20000 in
theorem open_store {fuel : Nat} {v : Value} {x : DataW H × List MemPlace} (h : DataW.trod enc Tryz.prog w 0 spare held fuel 22 [v] = some x) :
    ∃ is, readsSer w w.heap.size v is ∧ okStore is := by
  rcases Go.Deep.open_slice Tryz.underlying22 h with ⟨h1, _⟩ | ⟨a, len, cap, m, n, D, Pl, h1, _, hl, hm, hmm, _, hx⟩
  · simp at h1
    subst h1
    exact ⟨[], ⟨none, 0, rfl, Nat.le_refl _, fun i hi => by simp at hi⟩, by simp, fun r hr => by simp at hr⟩
  · simp at h1
    subst h1
    have hle : len ≤ m := by rw [hmm]; split <;> omega
    obtain ⟨ab, ao, asp⟩ := a
    obtain ⟨is, hlen, hp⟩ := Lb.list_of (n := len) (p := fun i (r : Ser) => okSer r ∧ (i = 0 → asp = none) ∧ ∃ p q, Lb.readsLabels w w.heap.size p r.1 ∧ readsSam w w.heap.size q r.2 ∧ w.cell? ⟨ab, ao + i * 2, none⟩ = some p ∧ w.cell? ⟨ab, ao + i * 2 + 1, none⟩ = some q) (fun i hi => by
      obtain ⟨cs', c1, c2⟩ := hx i (by omega)
      rw [Tryz.cellsSer] at c1
      obtain ⟨r, p, q, rfl, hr, hs, ho⟩ := open_serC c2
      obtain ⟨_, hl3, hc⟩ := World.cells?_some c1
      obtain ⟨e1, e2⟩ := roadt_at (hc 0 (by decide))
      exact ⟨r, ho, fun h => e2 (by omega), p, q, hr, hs, e1, Lb.add_at (s := 0) (j := 1) (hc 1 (by decide))⟩)
    refine ⟨is, ⟨some ⟨ab, ao, asp⟩, cap, by rw [hlen], by rw [hlen]; exact hl, fun i hi => ?_⟩, by unfold maxLen at hm; omega, fun r hr => ?_⟩
    · obtain ⟨_, _, p, q, hr, hs, c0, c1⟩ := hp i hi
      obtain rfl := (hp 0 (by omega)).2.1 rfl
      exact ⟨ab, ao, p, q, rfl, World.block_lt_of_cell? _ _ c0, hr, hs, c0, c1⟩
    · obtain ⟨i, hi, rfl⟩ := List.getElem_of_mem hr
      exact (hp i hi).1
end
end Go.Proofs.YtmdakfmecfcbhaaGreat.Tk
