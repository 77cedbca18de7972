/- 1 texts in one. -/
import Derived.Test.YtkaeogldielkfaaGreatProg
import Derived.Test.YtkaeogldielkfaaGreatK5674b3b
import Derived.Test.YtkaeogldielkfaaGreatK1cf7faf
import Derived.Test.YtkaeogldielkfaaGreatKe92268d
import Derived.Test.YtkaeogldielkfaaGreatK9055bc8
import Derived.Test.YtkaeogldielkfaaGreatK6cc5fd4
import Derived.ProofKit
import Derived.Deep.Slices
import Derived.Deep.Fields
import Derived.Lib.SmallJoins
set_option linter.unusedVariables false
set_option linter.unusedSimpArgs false
namespace Go.Proofs.YtkaeogldielkfaaGreat.Rc
open Go.RowKit Go.ChangeShapes Go.WideShapes Go.Deep Go.Joins Lb
theorem Tryz.cellsRef : Tryz.prog.cellsOf 59 = 2 := by kernel_rfl
theorem Tryz.cellsPnt : Tryz.prog.cellsOf 64 = 3 := by kernel_rfl
theorem Tryz.cellsRec : Tryz.prog.cellsOf 29 = 3 := by kernel_rfl
theorem Tryz.cellsInt : Tryz.prog.cellsOf 3 = 1 := by kernel_rfl
theorem Tryz.cellsU64 : Tryz.prog.cellsOf 62 = 1 := by kernel_rfl
theorem Tryz.cellsLabs : Tryz.prog.cellsOf 57 = 1 := by kernel_rfl
theorem Tryz.cellsRefs : Tryz.prog.cellsOf 22 = 1 := by kernel_rfl
theorem Tryz.cellsPnts : Tryz.prog.cellsOf 27 = 1 := by kernel_rfl
theorem roadd_at {b o : Nat} {sp : Option Nat} {w : World} {i : Nat} {v : Value} (h : w.cell? ((Addr.add ⟨b, o, sp⟩ i).add 0) = some v) : w.cell? ⟨b, o + i, none⟩ = some v ∧ (i = 0 → sp = none) := by
  unfold Addr.add at h
  by_cases hi : i = 0
  · subst hi
    cases sp with
    | none => simpa using h
    | some k => exfalso; simp [World.cell?] at h; split at h <;> simp at h
  · simp [hi] at h
    exact ⟨by simpa using h, fun e => absurd e hi⟩
theorem three_list {α : Type} {l : List α} (h : l.length = 3) : ∃ a b c, l = [a, b, c] := by
  match l, h with
  | [a, b, c], _ => exact ⟨a, b, c, rfl⟩
section
variable {H : Type} {enc : TypeId × Value → H} {P : Program} {w : World} {base : Nat} {spare : Nat → Bool} {held : Bool}
theorem rtrod_struct3 {t : TypeId} {f0 f1 f2 : Field} {fuel : Nat} {cs : List Value} {x : DataW H × List MemPlace} (ht : P.underlying t = some (.struct #[f0, f1, f2])) (h : DataW.trod enc P w base spare held fuel t cs = some x) :
    ∃ y0 y1 y2 n, cs.length = P.cellsOf t ∧ DataW.trod enc P w base spare held n f0.type ((cs.drop f0.offset).take (P.cellsOf f0.type)) = some y0 ∧
      DataW.trod enc P w base spare held n f1.type ((cs.drop f1.offset).take (P.cellsOf f1.type)) = some y1 ∧ DataW.trod enc P w base spare held n f2.type ((cs.drop f2.offset).take (P.cellsOf f2.type)) = some y2 := by
  obtain ⟨xs, n, _, rfl, hl, hlen, hf⟩ := DataW.trod_struct ht h
  obtain ⟨y0, y1, y2, rfl⟩ := three_list hlen
  exact ⟨y0, y1, y2, n, hl, by simpa using hf 0 f0 rfl, by simpa using hf 1 f1 rfl, by simpa using hf 2 f2 rfl⟩
end
section
variable {H : Type} {enc : TypeId × Value → H} {w : World} {spare : Nat → Bool} {held : Bool}
theorem wf_i64 {n : Int} (h : (Lit.int .i64 n).wf = true) : -9223372036854775808 ≤ n ∧ n ≤ 9223372036854775807 := by simpa [Lit.wf, IntKind.min, IntKind.max, IntKind.signed, IntKind.bits] using h
theorem wf_u64 {n : Int} (h : (Lit.int .u64 n).wf = true) : 0 ≤ n ∧ n ≤ 18446744073709551615 := by simpa [Lit.wf, IntKind.min, IntKind.max, IntKind.signed, IntKind.bits] using h
set_option maxRecDepth 20000 in
theorem open_refC {fuel : Nat} {cs : List Value} {x : DataW H × List MemPlace} (h : DataW.trod enc Tryz.prog w 0 spare held fuel 59 cs = some x) :
    ∃ (r : RefL) (v : Value), cs = [.int .i64 r.1, v] ∧ readsLabels w w.heap.size v r.2 ∧ okRef r := by
  obtain ⟨y0, y1, n, _, hl, h0, h1⟩ := trod_struct2 Tryz.underlying59 h
  rw [Tryz.cellsRef] at hl
  match cs, hl with
  | [a, b], _ =>
    simp only [Tryz.cellsInt, Tryz.cellsLabs, List.drop_zero, List.drop_succ_cons, List.take_succ_cons, List.take_zero] at h0 h1
    obtain ⟨k, ek, _, wk⟩ := DataW.trod_int Tryz.underlying3 h0
    obtain ⟨ls, hr, hn, hi⟩ := open_labels h1
    simp at ek
    subst ek
    exact ⟨(k, ls), b, rfl, hr, (wf_i64 wk).1, (wf_i64 wk).2, hn, hi⟩
set_option maxRecDepth 20000 in
theorem open_pntC {fuel : Nat} {cs : List Value} {x : DataW H × List MemPlace} (h : DataW.trod enc Tryz.prog w 0 spare held fuel 64 cs = some x) :
    ∃ p : Pnt, cs = [.int .i64 p.1, .int .i64 p.2.1, .int .u64 (p.2.2 : Nat)] ∧ okPnt p := by
  obtain ⟨y0, y1, y2, n, hl, h0, h1, h2⟩ := rtrod_struct3 Tryz.underlying64 h
  obtain ⟨c0, c1, c2, rfl⟩ := three_list (hl.trans Tryz.cellsPnt)
  simp only [Tryz.cellsInt, Tryz.cellsU64, List.drop_zero, List.drop_succ_cons, List.take_succ_cons, List.take_zero] at h0 h1 h2
  obtain ⟨k, ek, _, wk⟩ := DataW.trod_int Tryz.underlying3 h0
  obtain ⟨t, et, _, wt⟩ := DataW.trod_int Tryz.underlying3 h1
  obtain ⟨b, eb, _, wb⟩ := DataW.trod_int Tryz.underlying62 h2
  simp at ek et eb
  subst ek et eb
  have hb := wf_u64 wb
  obtain ⟨bn, rfl⟩ : ∃ bn : Nat, b = (bn : Int) := ⟨b.toNat, by omega⟩
  exact ⟨(k, t, bn), rfl, (wf_i64 wk).1, (wf_i64 wk).2, (wf_i64 wt).1, (wf_i64 wt).2, by show bn < _; omega⟩
set_option maxRecDepth 20000 in
theorem open_refs {fuel : Nat} {v : Value} {x : DataW H × List MemPlace} (h : DataW.trod enc Tryz.prog w 0 spare held fuel 22 [v] = some x) :
    ∃ rs, readsRefs w w.heap.size v rs ∧ rs.length ≤ 9223372036854775807 ∧ ∀ r ∈ rs, okRef r := by
  rcases Go.Deep.open_slice Tryz.underlying22 h with ⟨h1, _⟩ | ⟨a, len, cap, m, n, D, Pl, h1, _, hl, hm, hmm, _, hx⟩
  · simp at h1
    subst h1
    exact ⟨[], ⟨none, 0, rfl, fun i hi => by simp at hi⟩, by simp, fun r hr => by simp at hr⟩
  · simp at h1
    subst h1
    have hle : len ≤ m := by rw [hmm]; split <;> omega
    obtain ⟨rs, hlen, hp⟩ := list_of (n := len) (p := fun i (r : RefL) => okRef r ∧ ∃ vs, readsLabels w w.heap.size vs r.2 ∧ w.cell? ⟨a.block, a.off + i * 2, none⟩ = some (.int .i64 r.1) ∧ w.cell? ⟨a.block, a.off + i * 2 + 1, none⟩ = some vs) (fun i hi => by
      obtain ⟨cs', c1, c2⟩ := hx i (by omega)
      rw [Tryz.cellsRef] at c1
      obtain ⟨r, u, rfl, hr, ho⟩ := open_refC c2
      obtain ⟨p, q, e, e0, e1⟩ := cells2 c1
      simp at e
      obtain ⟨rfl, rfl⟩ := e
      obtain ⟨ab, ao, asp⟩ := a
      exact ⟨r, ho, _, hr, add_at (s := 0) e0, add_at (s := 0) e1⟩)
    refine ⟨rs, ⟨some a, cap, by rw [hlen], fun i hi => ?_⟩, by unfold maxLen at hm; omega, fun r hr => ?_⟩
    · obtain ⟨_, vs, hr, c0, c1⟩ := hp i hi
      obtain ⟨ab, ao, asp⟩ := a
      have hsp : asp = none := by
        obtain ⟨cs', d1, d2⟩ := hx 0 (by omega)
        rw [Tryz.cellsRef] at d1
        obtain ⟨p, q, rfl, e0, e1⟩ := cells2 d1
        cases asp with
        | none => rfl
        | some k => simp [Addr.add, World.cell?] at e0; split at e0 <;> simp at e0
      subst hsp
      exact ⟨ab, ao, vs, rfl, World.block_lt_of_cell? _ _ c0, hr, c0, c1⟩
    · obtain ⟨i, hi, rfl⟩ := List.getElem_of_mem hr
      exact (hp i hi).1
set_option maxRecDepth 20000 in
theorem open_points {fuel : Nat} {v : Value} {x : DataW H × List MemPlace} (h : DataW.trod enc Tryz.prog w 0 spare held fuel 27 [v] = some x) :
    ∃ ps, readsPoints w w.heap.size v ps ∧ ps.length ≤ 9223372036854775807 ∧ ∀ p ∈ ps, okPnt p := by
  rcases Go.Deep.open_slice Tryz.underlying27 h with ⟨h1, _⟩ | ⟨a, len, cap, m, n, D, Pl, h1, _, hl, hm, hmm, _, hx⟩
  · simp at h1
    subst h1
    exact ⟨[], ⟨none, 0, rfl, fun i hi => by simp at hi⟩, by simp, fun r hr => by simp at hr⟩
  · simp at h1
    subst h1
    have hle : len ≤ m := by rw [hmm]; split <;> omega
    obtain ⟨ps, hlen, hp⟩ := list_of (n := len) (p := fun i (p : Pnt) => okPnt p ∧ w.cell? ⟨a.block, a.off + i * 3, none⟩ = some (.int .i64 p.1) ∧ w.cell? ⟨a.block, a.off + i * 3 + 1, none⟩ = some (.int .i64 p.2.1) ∧ w.cell? ⟨a.block, a.off + i * 3 + 2, none⟩ = some (.int .u64 (p.2.2 : Nat))) (fun i hi => by
      obtain ⟨cs', c1, c2⟩ := hx i (by omega)
      rw [Tryz.cellsPnt] at c1
      obtain ⟨r, rfl, ho⟩ := open_pntC c2
      obtain ⟨_, hl3, hc⟩ := World.cells?_some c1
      obtain ⟨ab, ao, asp⟩ := a
      exact ⟨r, ho, add_at (s := 0) (j := 0) (hc 0 (by decide)), add_at (s := 0) (j := 1) (hc 1 (by decide)), add_at (s := 0) (j := 2) (hc 2 (by decide))⟩)
    refine ⟨ps, ⟨some a, cap, by rw [hlen], fun i hi => ?_⟩, by unfold maxLen at hm; omega, fun r hr => ?_⟩
    · obtain ⟨_, c0, c1, c2⟩ := hp i hi
      obtain ⟨ab, ao, asp⟩ := a
      have hsp : asp = none := by
        obtain ⟨cs', d1, d2⟩ := hx 0 (by omega)
        rw [Tryz.cellsPnt] at d1
        obtain ⟨_, hl3, hc⟩ := World.cells?_some d1
        have e0 := hc 0 (by decide)
        have e1 := e0
        match cs', hl3 with
        | [a0, a1, a2], _ =>
          obtain ⟨_, e2⟩ := roadd_at (i := 0 * Tryz.prog.cellsOf 64) e0
          exact e2 (Nat.zero_mul _)
      subst hsp
      exact ⟨ab, ao, rfl, World.block_lt_of_cell? _ _ c0, c0, c1, c2⟩
    · obtain ⟨i, hi, rfl⟩ := List.getElem_of_mem hr
      exact (hp i hi).1
set_option maxRecDepth 20000 in
theorem open_recC {fuel : Nat} {cs : List Value} {x : DataW H × List MemPlace} (h : DataW.trod enc Tryz.prog w 0 spare held fuel 29 cs = some x) :
    ∃ (r : Rcd) (vr vp : Value), cs = [.int .i64 r.kind, vr, vp] ∧ readsRefs w w.heap.size vr r.refs ∧ readsPoints w w.heap.size vp r.points ∧ okRec r := by
  obtain ⟨y0, y1, y2, n, hl, h0, h1, h2⟩ := rtrod_struct3 Tryz.underlying29 h
  obtain ⟨c0, c1, c2, rfl⟩ := three_list (hl.trans Tryz.cellsRec)
  simp only [Tryz.cellsInt, Tryz.cellsRefs, Tryz.cellsPnts, List.drop_zero, List.drop_succ_cons, List.take_succ_cons, List.take_zero] at h0 h1 h2
  obtain ⟨k, ek, _, wk⟩ := DataW.trod_int Tryz.underlying3 h0
  obtain ⟨rs, hr, hn, hi⟩ := open_refs h1
  obtain ⟨ps, hp, hm, hj⟩ := open_points h2
  simp at ek
  subst ek
  exact ⟨⟨k, rs, ps⟩, c1, c2, rfl, hr, hp, wf_i64 wk, hn, hm, hi, hj⟩
end
end Go.Proofs.YtkaeogldielkfaaGreat.Rc
