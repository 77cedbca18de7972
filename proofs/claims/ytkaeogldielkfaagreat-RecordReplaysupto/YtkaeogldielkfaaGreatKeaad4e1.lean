/- 1 texts in one. -/
import Derived.Laws.OwnMore
import Derived.Test.YtkaeogldielkfaaGreatProg
import Derived.Test.YtkaeogldielkfaaGreatKabe2b5f
import Derived.Test.YtkaeogldielkfaaGreatK68db273
import Derived.Test.YtkaeogldielkfaaGreatKa96aaab
import Derived.Test.YtkaeogldielkfaaGreatKa7e3600
import Derived.Test.YtkaeogldielkfaaGreatK7731767
import Derived.Test.YtkaeogldielkfaaGreatKd1f2bd3
import Derived.Test.YtkaeogldielkfaaGreatK2180bdf
import Derived.Test.YtkaeogldielkfaaGreatK6683a6f
import Derived.ProofKit
import Derived.Deep.Slices
import Derived.Deep.Fields
import Derived.Lib.SmallJoins
import Derived.Test.YtkaeogldielkfaaGreatK6ad0561
set_option linter.unusedVariables false
set_option linter.unusedSimpArgs false
namespace Go.Proofs.YtkaeogldielkfaaGreat.Rc
open Go.ChangeShapes Go.RowKit Go.Deep Lb
def readsRecs (w : World) (B : Nat) (v : Value) (l : List Rcd) : Prop :=
  ∃ ao cp, v = .slice ao l.length cp ∧ ∀ i (h : i < l.length), ∃ b o vr vp, ao = some ⟨b, o, none⟩ ∧ b < B ∧ readsRefs w B vr l[i].refs ∧ readsPoints w B vp l[i].points ∧ w.cell? ⟨b, o + i * 3, none⟩ = some (.int .i64 l[i].kind) ∧ w.cell? ⟨b, o + i * 3 + 1, none⟩ = some vr ∧ w.cell? ⟨b, o + i * 3 + 2, none⟩ = some vp
theorem readsRecs.keep {w w' : World} {B : Nat} {v : Value} {l : List Rcd} (h : readsRecs w B v l) (g : Below B w w') : readsRecs w' B v l := by
  obtain ⟨ao, cp, hv, h⟩ := h
  refine ⟨ao, cp, hv, fun i hi => ?_⟩
  obtain ⟨b, o, vr, vp, e, hb, h1, h2, c0, c1, c2⟩ := h i hi
  exact ⟨b, o, vr, vp, e, hb, h1.keep g, h2.keep g, (g.cell (p := ⟨b, _, none⟩) hb).trans c0, (g.cell (p := ⟨b, _, none⟩) hb).trans c1, (g.cell (p := ⟨b, _, none⟩) hb).trans c2⟩
section
variable {H : Type} {enc : TypeId × Value → H} {w : World} {spare : Nat → Bool} {held : Bool}
end
/-- What is known, in rows between two blocks; it stays while those rows do. -/
def SKw (lo hi : Nat) (w : World) (xr xl xh : Value) (k : Knw) : Prop :=
  ownKnw w lo xr xl xh k ∧ ∀ w' : World, (∀ (q : Nat) (c : Array Value) (t : TypeId) (fr : Nat × Nat), lo ≤ q → q < hi → w.heap[q]? = some (.cells c t fr) → t ≠ 26 → w'.heap[q]? = some (.cells c t fr)) → ownKnw w' lo xr xl xh k
theorem SKw.of_own {lo : Nat} {w : World} {xr xl xh : Value} {k : Knw} (h : ownKnw w lo xr xl xh k) : SKw lo w.heap.size w xr xl xh k := by
  refine ⟨h, fun w' hs => ?_⟩
  have key : ∀ {f size n : Nat} {v : Value} {xs : List Value}, f ≠ 26 → w.ownsRow lo f size v n xs → w'.ownsRow lo f size v n xs := fun hf ho => by
    refine own_keep ho fun g hg => ?_
    rcases id ho.2 with ⟨hv, _⟩ | ⟨g', cap, cur, r1, r2, r3, _⟩
    · rw [hv] at hg; cases hg
    · rw [r1] at hg
      cases hg
      rw [r3]
      exact hs _ _ _ _ r2 (lt_of_block r3) r3 hf
  obtain ⟨⟨ps, p1, p2, p3⟩, hl, hh⟩ := h
  exact ⟨⟨ps, p1, key (by decide) p2, fun j p x hp hx => ⟨(p3 j p x hp hx).1, key (by decide) (p3 j p x hp hx).2⟩⟩, key (by decide) hl, key (by decide) hh⟩
theorem SKw.keep {lo hi : Nat} {w w1 : World} {xr xl xh : Value} {k : Knw} (h : SKw lo hi w xr xl xh k) (hs : ∀ (q : Nat) (c : Array Value) (t : TypeId) (fr : Nat × Nat), lo ≤ q → q < hi → w.heap[q]? = some (.cells c t fr) → t ≠ 26 → w1.heap[q]? = some (.cells c t fr)) : SKw lo hi w1 xr xl xh k :=
  ⟨h.2 w1 hs, fun w' h' => h.2 w' fun q c t fr h1 h2 h3 h4 => h' q c t fr h1 h2 (hs q c t fr h1 h2 h3 h4) h4⟩
theorem SKw.grow {lo hi : Nat} {w w1 : World} {xr xl xh : Value} {k : Knw} (h : SKw lo hi w xr xl xh k) (g : Grow w w1) : SKw lo hi w1 xr xl xh k := h.keep fun q c t fr _ _ h3 _ => g.get h3
theorem SKw.nil (lo hi : Nat) (w : World) : SKw lo hi w (.slice none 0 0) (.slice none 0 0) (.slice none 0 0) noKnw := ⟨⟨ownRefs_nil _ _, World.ownsRow_nil _ _ _ _, World.ownsRow_nil _ _ _ _⟩, fun _ _ => ⟨ownRefs_nil _ _, World.ownsRow_nil _ _ _ _, World.ownsRow_nil _ _ _ _⟩⟩
/-- A store into a cell of a value that is known leaves what is known. -/
theorem SKw.set {lo hi : Nat} {w : World} {xr xl xh : Value} {k : Knw} {b i : Nat} {c : Array Value} (h : SKw lo hi w xr xl xh k) (hb : w.heap[b]? = some (.cells c 26 (0, 0))) (u : Value) : SKw lo hi (w.setCell ⟨b, i, none⟩ u) xr xl xh k :=
  h.keep fun q c' t fr _ _ h3 h4 => (Below.heap_setCell _ _ _ _ (fun e : q = b => by subst e; rw [hb] at h3; simp at h3; exact h4 h3.2.1.symm)).trans h3
end Go.Proofs.YtkaeogldielkfaaGreat.Rc
