/- Items, a shard, handed over by value: what their cells hold. -/
import Derived.Test.YtfdogelkgogcbaaProg
import Derived.Test.YtfdogelkgogcbaaKit
import Derived.Test.YtfdogelkgogcbaaTrod
import Derived.Test.YtfdogelkgogcbaaLRow
import Derived.Test.YtfdogelkgogcbaaShA
import Derived.Test.YtfdogelkgogcbaaShG
import Derived.ProofKit
import Derived.Deep.Slices
import Derived.Deep.Fields
import Derived.Lib.SmallJoins
set_option linter.unusedVariables false
set_option linter.unusedSimpArgs false
namespace Go.Proofs.Ytfdogelkgogcbaa.Sh
open Go.RowKit Go.ChangeShapes Go.WideShapes Go.Deep Go.Joins

theorem Try.cellsItm : Try.prog.cellsOf 39 = 4 := by kernel_rfl
theorem Try.cellsSam : Try.prog.cellsOf 37 = 2 := by kernel_rfl
theorem Try.cellsShd : Try.prog.cellsOf 24 = 7 := by kernel_rfl
theorem Try.cellsInt : Try.prog.cellsOf 3 = 1 := by kernel_rfl
theorem Try.cellsU64 : Try.prog.cellsOf 33 = 1 := by kernel_rfl
theorem Try.cellsLabs : Try.prog.cellsOf 29 = 1 := by kernel_rfl
theorem Try.cellsItms : Try.prog.cellsOf 22 = 1 := by kernel_rfl
theorem roadd_at {b o : Nat} {sp : Option Nat} {w : World} {i : Nat} {v : Value} (h : w.cell? ((Addr.add ⟨b, o, sp⟩ i).add 0) = some v) : w.cell? ⟨b, o + i, none⟩ = some v ∧ (i = 0 → sp = none) := by
  unfold Addr.add at h
  by_cases hi : i = 0
  · subst hi
    cases sp with
    | none => simpa using h
    | some k => exfalso; simp [World.cell?] at h; split at h <;> simp at h
  · simp [hi] at h
    exact ⟨by simpa using h, fun e => absurd e hi⟩
theorem four_list {α : Type} {l : List α} (h : l.length = 4) : ∃ a b c d, l = [a, b, c, d] := by
  match l, h with
  | [a, b, c, d], _ => exact ⟨a, b, c, d, rfl⟩
theorem seven_list {α : Type} {l : List α} (h : l.length = 7) : ∃ a b c d e f g, l = [a, b, c, d, e, f, g] := by
  match l, h with
  | [a, b, c, d, e, f, g], _ => exact ⟨a, b, c, d, e, f, g, rfl⟩
theorem wf_i64 {n : Int} (h : (Lit.int .i64 n).wf = true) : -9223372036854775808 ≤ n ∧ n ≤ 9223372036854775807 := by simpa [Lit.wf, IntKind.min, IntKind.max, IntKind.signed, IntKind.bits] using h
theorem wf_u64 {n : Int} (h : (Lit.int .u64 n).wf = true) : 0 ≤ n ∧ n ≤ 18446744073709551615 := by simpa [Lit.wf, IntKind.min, IntKind.max, IntKind.signed, IntKind.bits] using h
section
variable {H : Type} {enc : TypeId × Value → H} {P : Program} {w : World} {base : Nat} {spare : Nat → Bool} {held : Bool}
theorem strod {t : TypeId} {fs : Array Field} {fuel : Nat} {cs : List Value} {x : DataW H × List MemPlace} (ht : P.underlying t = some (.struct fs)) (h : DataW.trod enc P w base spare held fuel t cs = some x) :
    cs.length = P.cellsOf t ∧ ∃ n, ∀ (i : Nat) (f : Field), fs[i]? = some f → ∃ y, DataW.trod enc P w base spare held n f.type ((cs.drop f.offset).take (P.cellsOf f.type)) = some y := by
  obtain ⟨xs, n, _, rfl, hl, hlen, hf⟩ := DataW.trod_struct ht h
  refine ⟨hl, n, fun i f hi => ?_⟩
  rw [hf i f hi]
  have : i < fs.size := by
    rcases Nat.lt_or_ge i fs.size with h | h
    · exact h
    · rw [Array.getElem?_eq_none h] at hi; cases hi
  exact ⟨xs[i]'(by omega), List.getElem?_eq_getElem (by omega)⟩
end
section
variable {H : Type} {enc : TypeId × Value → H} {w : World} {spare : Nat → Bool} {held : Bool}
set_option maxRecDepth 20000 in
theorem open_itmC {fuel : Nat} {cs : List Value} {x : DataW H × List MemPlace} (h : DataW.trod enc Try.prog w 0 spare held fuel 39 cs = some x) :
    ∃ (r : Itm) (v : Value), cs = [.int .i64 r.1, v, .int .i64 r.2.2.1, .int .u64 (r.2.2.2 : Nat)] ∧ Lb.readsLabels w w.heap.size v r.2.1 ∧ okItm r := by
  obtain ⟨hl, n, hf⟩ := strod Try.underlying39 h
  rw [Try.cellsItm] at hl
  obtain ⟨a, b, c, d, rfl⟩ := four_list hl
  obtain ⟨y0, h0⟩ : ∃ y, DataW.trod enc Try.prog w 0 spare held n 3 (([a, b, c, d].drop 0).take (Try.prog.cellsOf 3)) = some y := hf 0 _ rfl
  obtain ⟨y1, h1⟩ : ∃ y, DataW.trod enc Try.prog w 0 spare held n 29 (([a, b, c, d].drop 1).take (Try.prog.cellsOf 29)) = some y := hf 1 _ rfl
  obtain ⟨y2, h2⟩ : ∃ y, DataW.trod enc Try.prog w 0 spare held n 37 (([a, b, c, d].drop 2).take (Try.prog.cellsOf 37)) = some y := hf 2 _ rfl
  simp only [Try.cellsInt, Try.cellsLabs, Try.cellsSam, List.drop_zero, List.drop_succ_cons, List.take_succ_cons, List.take_zero] at h0 h1 h2
  obtain ⟨k, ek, _, wk⟩ := DataW.trod_int Try.underlying3 h0
  obtain ⟨ls, hr, hn, hi⟩ := Lb.open_labels h1
  obtain ⟨_, m, hg⟩ := strod Try.underlying37 h2
  obtain ⟨z0, g0⟩ : ∃ y, DataW.trod enc Try.prog w 0 spare held m 3 (([c, d].drop 0).take (Try.prog.cellsOf 3)) = some y := hg 0 _ rfl
  obtain ⟨z1, g1⟩ : ∃ y, DataW.trod enc Try.prog w 0 spare held m 33 (([c, d].drop 1).take (Try.prog.cellsOf 33)) = some y := hg 1 _ rfl
  simp only [Try.cellsInt, Try.cellsU64, List.drop_zero, List.drop_succ_cons, List.take_succ_cons, List.take_zero] at g0 g1
  obtain ⟨t, et, _, wt⟩ := DataW.trod_int Try.underlying3 g0
  obtain ⟨u, eu, _, wu⟩ := DataW.trod_int Try.underlying33 g1
  simp at ek et eu
  subst ek et eu
  have hb := wf_u64 wu
  obtain ⟨bn, rfl⟩ : ∃ bn : Nat, u = (bn : Int) := ⟨u.toNat, by omega⟩
  exact ⟨(k, ls, t, bn), b, rfl, hr, wf_i64 wk, wf_i64 wt, by show bn < _; omega, hn, hi⟩
set_option maxRecDepth 20000 in
theorem open_items {fuel : Nat} {v : Value} {x : DataW H × List MemPlace} (h : DataW.trod enc Try.prog w 0 spare held fuel 22 [v] = some x) :
    ∃ is, readsItems w w.heap.size v is ∧ is.length ≤ 9223372036854775807 ∧ ∀ r ∈ is, okItm r := by
  rcases Go.Deep.open_slice Try.underlying22 h with ⟨h1, _⟩ | ⟨a, len, cap, m, n, D, Pl, h1, _, hl, hm, hmm, _, hx⟩
  · simp at h1
    subst h1
    exact ⟨[], ⟨none, 0, rfl, Nat.le_refl _, fun i hi => by simp at hi⟩, by simp, fun r hr => by simp at hr⟩
  · simp at h1
    subst h1
    have hle : len ≤ m := by rw [hmm]; split <;> omega
    obtain ⟨ab, ao, asp⟩ := a
    obtain ⟨is, hlen, hp⟩ := Lb.list_of (n := len) (p := fun i (r : Itm) => okItm r ∧ (i = 0 → asp = none) ∧ ∃ vs, Lb.readsLabels w w.heap.size vs r.2.1 ∧ w.cell? ⟨ab, ao + i * 4, none⟩ = some (.int .i64 r.1) ∧ w.cell? ⟨ab, ao + i * 4 + 1, none⟩ = some vs ∧ w.cell? ⟨ab, ao + i * 4 + 2, none⟩ = some (.int .i64 r.2.2.1) ∧ w.cell? ⟨ab, ao + i * 4 + 3, none⟩ = some (.int .u64 (r.2.2.2 : Nat))) (fun i hi => by
      obtain ⟨cs', c1, c2⟩ := hx i (by omega)
      rw [Try.cellsItm] at c1
      obtain ⟨r, u, rfl, hr, ho⟩ := open_itmC c2
      obtain ⟨_, hl3, hc⟩ := World.cells?_some c1
      obtain ⟨e1, e2⟩ := roadd_at (hc 0 (by decide))
      exact ⟨r, ho, fun h => e2 (by omega), u, hr, e1, Lb.add_at (s := 0) (j := 1) (hc 1 (by decide)), Lb.add_at (s := 0) (j := 2) (hc 2 (by decide)), Lb.add_at (s := 0) (j := 3) (hc 3 (by decide))⟩)
    refine ⟨is, ⟨some ⟨ab, ao, asp⟩, cap, by rw [hlen], by rw [hlen]; exact hl, fun i hi => ?_⟩, by unfold maxLen at hm; omega, fun r hr => ?_⟩
    · obtain ⟨_, _, vs, hr, c0, c1, c2, c3⟩ := hp i hi
      obtain rfl := (hp 0 (by omega)).2.1 rfl
      exact ⟨ab, ao, vs, rfl, World.block_lt_of_cell? _ _ c0, hr, c0, c1, c2, c3⟩
    · obtain ⟨i, hi, rfl⟩ := List.getElem_of_mem hr
      exact (hp i hi).1
set_option maxRecDepth 100000 in
/-- A shard by value. -/
theorem open_shard {r : Reach} {b0 : Nat} {v : Value} {d : DataW H} {p : List MemPlace} (hv : Value.okWide Try.prog w r b0 24 v) (h : DataW.Trod enc Try.prog w 0 spare held 24 v d p) :
    ∃ (s : Shd) (vi : Value), v = shdV vi s ∧ readsItems w w.heap.size vi s.items ∧ okShd s := by
  obtain ⟨cs, rfl, hsz⟩ := okWide_struct Try.underlying24 hv
  obtain ⟨fuel, hfl⟩ := h
  have e : (Value.agg cs).cells.toList = cs.toList := by simp [Value.cells]
  rw [e] at hfl
  obtain ⟨hl, n, hf⟩ := strod Try.underlying24 hfl
  rw [Try.cellsShd] at hl
  obtain ⟨a0, a1, a2, a3, a4, a5, a6, hcs⟩ := seven_list hl
  rw [hcs] at hf
  obtain ⟨y0, h0⟩ : ∃ y, DataW.trod enc Try.prog w 0 spare held n 22 (([a0, a1, a2, a3, a4, a5, a6].drop 0).take (Try.prog.cellsOf 22)) = some y := hf 0 _ rfl
  obtain ⟨y1, h1⟩ : ∃ y, DataW.trod enc Try.prog w 0 spare held n 3 (([a0, a1, a2, a3, a4, a5, a6].drop 1).take (Try.prog.cellsOf 3)) = some y := hf 1 _ rfl
  obtain ⟨y2, h2⟩ : ∃ y, DataW.trod enc Try.prog w 0 spare held n 3 (([a0, a1, a2, a3, a4, a5, a6].drop 2).take (Try.prog.cellsOf 3)) = some y := hf 2 _ rfl
  obtain ⟨y3, h3⟩ : ∃ y, DataW.trod enc Try.prog w 0 spare held n 3 (([a0, a1, a2, a3, a4, a5, a6].drop 3).take (Try.prog.cellsOf 3)) = some y := hf 3 _ rfl
  obtain ⟨y4, h4⟩ : ∃ y, DataW.trod enc Try.prog w 0 spare held n 3 (([a0, a1, a2, a3, a4, a5, a6].drop 4).take (Try.prog.cellsOf 3)) = some y := hf 4 _ rfl
  obtain ⟨y5, h5⟩ : ∃ y, DataW.trod enc Try.prog w 0 spare held n 3 (([a0, a1, a2, a3, a4, a5, a6].drop 5).take (Try.prog.cellsOf 3)) = some y := hf 5 _ rfl
  obtain ⟨y6, h6⟩ : ∃ y, DataW.trod enc Try.prog w 0 spare held n 3 (([a0, a1, a2, a3, a4, a5, a6].drop 6).take (Try.prog.cellsOf 3)) = some y := hf 6 _ rfl
  simp only [Try.cellsInt, Try.cellsItms, List.drop_zero, List.drop_succ_cons, List.take_succ_cons, List.take_zero] at h0 h1 h2 h3 h4 h5 h6
  obtain ⟨is, hr, hn, hi⟩ := open_items h0
  obtain ⟨k1, e1, _, w1⟩ := DataW.trod_int Try.underlying3 h1
  obtain ⟨k2, e2, _, w2⟩ := DataW.trod_int Try.underlying3 h2
  obtain ⟨k3, e3, _, w3⟩ := DataW.trod_int Try.underlying3 h3
  obtain ⟨k4, e4, _, w4⟩ := DataW.trod_int Try.underlying3 h4
  obtain ⟨k5, e5, _, w5⟩ := DataW.trod_int Try.underlying3 h5
  obtain ⟨k6, e6, _, w6⟩ := DataW.trod_int Try.underlying3 h6
  simp at e1 e2 e3 e4 e5 e6
  subst e1 e2 e3 e4 e5 e6
  refine ⟨⟨is, k1, k2, k3, k4, k5, k6⟩, a0, ?_, hr, hn, hi, wf_i64 w1, wf_i64 w2, wf_i64 w3, wf_i64 w4, wf_i64 w5, wf_i64 w6⟩
  have : cs = (#[a0, .int .i64 k1, .int .i64 k2, .int .i64 k3, .int .i64 k4, .int .i64 k5, .int .i64 k6] : Array Value) := by
    apply Array.toList_inj.1
    rw [hcs]
  rw [this]
  rfl
end
end Go.Proofs.Ytfdogelkgogcbaa.Sh
