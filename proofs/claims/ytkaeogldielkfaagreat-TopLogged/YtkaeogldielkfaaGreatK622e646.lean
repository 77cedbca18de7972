/- 1 texts in one. -/
import Derived.Laws.OwnMore
import Derived.Test.YtkaeogldielkfaaGreatProg
import Derived.Test.YtkaeogldielkfaaGreatK5674b3b
import Derived.Test.YtkaeogldielkfaaGreatK1cf7faf
import Derived.Test.YtkaeogldielkfaaGreatK7aebb14
import Derived.Test.YtkaeogldielkfaaGreatKe92268d
import Derived.Test.YtkaeogldielkfaaGreatKb13b050
import Derived.Test.YtkaeogldielkfaaGreatK9055bc8
import Derived.Test.YtkaeogldielkfaaGreatK6cc5fd4
import Derived.Test.YtkaeogldielkfaaGreatKaaaa94b
import Derived.Test.YtkaeogldielkfaaGreatK713fc1b
import Derived.Test.YtkaeogldielkfaaGreatK493c4c1
import Derived.Test.YtkaeogldielkfaaGreatK8f38214
set_option linter.unusedVariables false
set_option linter.unusedSimpArgs false
namespace Go.Proofs.YtkaeogldielkfaaGreat.Rc
open Go.ChangeShapes Go.RowKit Go.Deep Lb
def readsRecs (w : World) (B : Nat) (v : Value) (l : List Rcd) : Prop :=
  ∃ ao cp, v = .slice ao l.length cp ∧ ∀ i (h : i < l.length), ∃ b o vr vp, ao = some ⟨b, o, none⟩ ∧ b < B ∧ readsRefs w B vr l[i].refs ∧ readsPoints w B vp l[i].points ∧ w.cell? ⟨b, o + i * 3, none⟩ = some (.int .i64 l[i].kind) ∧ w.cell? ⟨b, o + i * 3 + 1, none⟩ = some vr ∧ w.cell? ⟨b, o + i * 3 + 2, none⟩ = some vp
theorem readsRecs.keep {w w' : World} {B : Nat} {v : Value} {l : List Rcd} (h : readsRecs w B v l) (g : Below B w w') : readsRecs w' B v l := by
  obtain ⟨ao, cp, hv, h⟩ := h
  refine ⟨ao, cp, hv, fun i hi => ?_⟩
  obtain ⟨b, o, vr, vp, e, hb, h1, h2, c0, c1, c2⟩ := h i hi
  exact ⟨b, o, vr, vp, e, hb, h1.keep g, h2.keep g, (g.cell (p := ⟨b, _, none⟩) hb).trans c0, (g.cell (p := ⟨b, _, none⟩) hb).trans c1, (g.cell (p := ⟨b, _, none⟩) hb).trans c2⟩
theorem Tryz.cellsRecR : Tryz.prog.cellsOf 29 = 3 := by kernel_rfl
section
variable {H : Type} {enc : TypeId × Value → H} {w : World} {spare : Nat → Bool} {held : Bool}
set_option maxRecDepth 20000 in
theorem open_records {fuel : Nat} {v : Value} {x : DataW H × List MemPlace} (h : DataW.trod enc Tryz.prog w 0 spare held fuel 40 [v] = some x) :
    ∃ rs, readsRecs w w.heap.size v rs ∧ rs.length ≤ 9223372036854775807 ∧ ∀ r ∈ rs, okRec r := by
  rcases Go.Deep.open_slice Tryz.underlying40 h with ⟨h1, _⟩ | ⟨a, len, cap, m, n, D, Pl, h1, _, hl, hm, hmm, _, hx⟩
  · simp at h1
    subst h1
    exact ⟨[], ⟨none, 0, rfl, fun i hi => by simp at hi⟩, by simp, fun r hr => by simp at hr⟩
  · simp at h1
    subst h1
    have hle : len ≤ m := by rw [hmm]; split <;> omega
    obtain ⟨rs, hlen, hp⟩ := list_of (n := len) (p := fun i (r : Rcd) => okRec r ∧ ∃ vr vp, readsRefs w w.heap.size vr r.refs ∧ readsPoints w w.heap.size vp r.points ∧ w.cell? ⟨a.block, a.off + i * 3, none⟩ = some (.int .i64 r.kind) ∧ w.cell? ⟨a.block, a.off + i * 3 + 1, none⟩ = some vr ∧ w.cell? ⟨a.block, a.off + i * 3 + 2, none⟩ = some vp) (fun i hi => by
      obtain ⟨cs', c1, c2⟩ := hx i (by omega)
      rw [Tryz.cellsRecR] at c1
      obtain ⟨r, vr, vp, rfl, h1, h2, ho⟩ := open_recC c2
      obtain ⟨_, hl3, hc⟩ := World.cells?_some c1
      obtain ⟨ab, ao, asp⟩ := a
      exact ⟨r, ho, vr, vp, h1, h2, add_at (s := 0) (j := 0) (hc 0 (by decide)), add_at (s := 0) (j := 1) (hc 1 (by decide)), add_at (s := 0) (j := 2) (hc 2 (by decide))⟩)
    refine ⟨rs, ⟨some a, cap, by rw [hlen], fun i hi => ?_⟩, by unfold maxLen at hm; omega, fun r hr => ?_⟩
    · obtain ⟨_, vr, vp, h1, h2, c0, c1, c2⟩ := hp i hi
      obtain ⟨ab, ao, asp⟩ := a
      have hsp : asp = none := by
        obtain ⟨cs', d1, d2⟩ := hx 0 (by omega)
        rw [Tryz.cellsRecR] at d1
        obtain ⟨_, hl3, hc⟩ := World.cells?_some d1
        have e0 := hc 0 (by decide)
        match cs', hl3 with
        | [a0, a1, a2], _ =>
          obtain ⟨_, e2⟩ := roadd_at (i := 0 * Tryz.prog.cellsOf 29) e0
          exact e2 (Nat.zero_mul _)
      subst hsp
      exact ⟨ab, ao, vr, vp, rfl, World.block_lt_of_cell? _ _ c0, h1, h2, c0, c1, c2⟩
    · obtain ⟨i, hi, rfl⟩ := List.getElem_of_mem hr
      exact (hp i hi).1
end
/-- What is known, in rows between two blocks; it stays while those rows do. -/
def SKw (lo hi : Nat) (w : World) (xr xl xh : Value) (k : Knw) : Prop :=
  ownKnw w lo xr xl xh k ∧ ∀ w' : World, (∀ (q : Nat) (c : Array Value) (t : TypeId) (fr : Nat × Nat), lo ≤ q → q < hi → w.heap[q]? = some (.cells c t fr) → t ≠ 26 → w'.heap[q]? = some (.cells c t fr)) → ownKnw w' lo xr xl xh k
theorem SKw.of_own {lo : Nat} {w : World} {xr xl xh : Value} {k : Knw} (h : ownKnw w lo xr xl xh k) : SKw lo w.heap.size w xr xl xh k := by
  refine ⟨h, fun w' hs => ?_⟩
  have key : ∀ {f size n : Nat} {v : Value} {xs : List Value}, f ≠ 26 → w.ownsRow lo f size v n xs → w'.ownsRow lo f size v n xs := fun hf ho => by
    refine own_keep ho fun g hg => ?_
    rcases id ho.2 with ⟨hv, _⟩ | ⟨g', cap, cur, r1, r2, r3, _⟩
    · rw [hv] at hg; cases hg
    · rw [r1] at hg
      cases hg
      rw [r3]
      exact hs _ _ _ _ r2 (lt_of_block r3) r3 hf
  obtain ⟨⟨ps, p1, p2, p3⟩, hl, hh⟩ := h
  exact ⟨⟨ps, p1, key (by decide) p2, fun j p x hp hx => ⟨(p3 j p x hp hx).1, key (by decide) (p3 j p x hp hx).2⟩⟩, key (by decide) hl, key (by decide) hh⟩
theorem SKw.keep {lo hi : Nat} {w w1 : World} {xr xl xh : Value} {k : Knw} (h : SKw lo hi w xr xl xh k) (hs : ∀ (q : Nat) (c : Array Value) (t : TypeId) (fr : Nat × Nat), lo ≤ q → q < hi → w.heap[q]? = some (.cells c t fr) → t ≠ 26 → w1.heap[q]? = some (.cells c t fr)) : SKw lo hi w1 xr xl xh k :=
  ⟨h.2 w1 hs, fun w' h' => h.2 w' fun q c t fr h1 h2 h3 h4 => h' q c t fr h1 h2 (hs q c t fr h1 h2 h3 h4) h4⟩
theorem SKw.grow {lo hi : Nat} {w w1 : World} {xr xl xh : Value} {k : Knw} (h : SKw lo hi w xr xl xh k) (g : Grow w w1) : SKw lo hi w1 xr xl xh k := h.keep fun q c t fr _ _ h3 _ => g.get h3
theorem SKw.nil (lo hi : Nat) (w : World) : SKw lo hi w (.slice none 0 0) (.slice none 0 0) (.slice none 0 0) noKnw := ⟨⟨ownRefs_nil _ _, World.ownsRow_nil _ _ _ _, World.ownsRow_nil _ _ _ _⟩, fun _ _ => ⟨ownRefs_nil _ _, World.ownsRow_nil _ _ _ _, World.ownsRow_nil _ _ _ _⟩⟩
/-- A store into a cell of a value that is known leaves what is known. -/
theorem SKw.set {lo hi : Nat} {w : World} {xr xl xh : Value} {k : Knw} {b i : Nat} {c : Array Value} (h : SKw lo hi w xr xl xh k) (hb : w.heap[b]? = some (.cells c 26 (0, 0))) (u : Value) : SKw lo hi (w.setCell ⟨b, i, none⟩ u) xr xl xh k :=
  h.keep fun q c' t fr _ _ h3 h4 => (Below.heap_setCell _ _ _ _ (fun e : q = b => by subst e; rw [hb] at h3; simp at h3; exact h4 h3.2.1.symm)).trans h3
theorem SKw.shape {lo hi : Nat} {w : World} {xr xl xh : Value} {k : Knw} (h : SKw lo hi w xr xl xh k) : (∃ ao cp, xr = .slice ao k.refs.length cp) ∧ (∃ ao cp, xl = .slice ao k.lasts.length cp) ∧ ∃ ao cp, xh = .slice ao k.has.length cp := ⟨ownRefs_shape h.1.r, own_shape h.1.l, own_shape h.1.h⟩
/-- 'x, e := Learn(..)' with x in a box of its own, in whatever order. -/
def learnJ (w0 : World) (E : Nat) (kn : Knw) (l5 : Bool) (v5 : Value) (l6 : Bool) (v6 : Value) (l7 : Bool) (v7 : Value) (l9 : Bool) (v9 : Value) (l10 : Bool) (w' : World) : Prop :=
  Grow w0 w' ∧
  (l5 = true → ∃ xr xl xh, v5 = .tuple #[.agg #[xr, xl, xh], .int .i64 E] ∧ (l6 = true → v6 = v5) ∧ (l7 = true → v7 = .agg #[xr, xl, xh]) ∧ (∃ lo hi, w0.heap.size ≤ lo ∧ hi ≤ w'.heap.size ∧ SKw lo hi w' xr xl xh kn) ∧
    (l10 = true → ∃ p, v9 = .pointer (some ⟨p, 0, none⟩) ∧ w0.heap.size ≤ p ∧ w'.heap[p]? = some (.cells #[xr, xl, xh] 26 (0, 0)))) ∧
  (l9 = true → l10 = false → ∃ p, v9 = .pointer (some ⟨p, 0, none⟩) ∧ w0.heap.size ≤ p ∧ w'.heap[p]? = some (.cells #[.slice none 0 0, .slice none 0 0, .slice none 0 0] 26 (0, 0)))
end Go.Proofs.YtkaeogldielkfaaGreat.Rc
