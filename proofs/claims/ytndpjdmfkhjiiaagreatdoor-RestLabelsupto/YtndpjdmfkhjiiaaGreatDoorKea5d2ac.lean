/- 2 texts in one. -/
import Derived.Laws.OwnMore
import Derived.Test.YtndpjdmfkhjiiaaGreatDoorProg
import Derived.Test.YtndpjdmfkhjiiaaGreatDoorK97fdc06
import Derived.Test.YtndpjdmfkhjiiaaGreatDoorKbff346a
import Derived.Test.YtndpjdmfkhjiiaaGreatDoorK395e834
import Derived.Test.YtndpjdmfkhjiiaaGreatDoorK1f74ead
import Derived.Test.YtndpjdmfkhjiiaaGreatDoorKac5e9b6
import Derived.Test.YtndpjdmfkhjiiaaGreatDoorKbd7ef7d
import Derived.Test.YtndpjdmfkhjiiaaGreatDoorK2a70092
import Derived.Test.YtndpjdmfkhjiiaaGreatDoorKb1eef0b
import Derived.Test.YtndpjdmfkhjiiaaGreatDoorKdd2361c
import Derived.BigQuiet
set_option linter.unusedVariables false
set_option linter.unusedSimpArgs false
namespace Go.Proofs.YtndpjdmfkhjiiaaGreatDoor
open Go.RowKit
attribute [local go_sem] bs_size bs_toList bs_append bs_get bs_extract
/-- A spot's cells. -/
def spotC (k a b n : Int) (sv : Value) : List Value := [.int .i64 k, .int .i64 a, .int .i64 b, .int .i64 n, sv]
def spotAt (w : World) : Kind → List Value → Prop
  | .fin, xs => xs = spotC 0 0 0 0 (.slice none 0 0)
  | .take s nx, xs => ∃ b, xs = spotC 1 nx 0 0 (.slice (some ⟨b, 0, none⟩) 256 256) ∧ boolsAt w b (boolRow s)
  | .fork [x, y], xs => xs = spotC 2 x y 0 (.slice none 0 0)
  | .fork _, xs => False
  | .mark sl nx, xs => xs = spotC (if sl % 2 = 0 then 3 else 4) nx 0 (sl / 2 + 1 : Nat) (.slice none 0 0)
def spotsAt (w : World) : List Kind → List Value → Prop
  | [], xs => xs = []
  | k :: L, xs => ∃ ys l, xs = ys ++ l ∧ spotAt w k ys ∧ spotsAt w L l
/-- What stays while spots are laid: all below a block, and all but spots and layouts. -/
structure LFrame (B : Nat) (w w' : World) : Prop where
  os : w'.os = w.os
  tape : w'.tape = w.tape
  output : w'.output = w.output
  size : w.heap.size ≤ w'.heap.size
  low : ∀ k, k < B → k < w.heap.size → w'.heap[k]? = w.heap[k]?
  kind : ∀ (k : Nat) (c : Array Value) (t : TypeId) (fr : Nat × Nat), w.heap[k]? = some (.cells c t fr) → t ≠ 117 → t ≠ 122 → w'.heap[k]? = some (.cells c t fr)
theorem LFrame.refl (B : Nat) (w : World) : LFrame B w w := ⟨rfl, rfl, rfl, Nat.le_refl _, fun _ _ _ => rfl, fun _ _ _ _ h _ _ => h⟩
theorem LFrame.trans {B : Nat} {a b c : World} (h : LFrame B a b) (k : LFrame B b c) : LFrame B a c :=
  ⟨k.os.trans h.os, k.tape.trans h.tape, k.output.trans h.output, Nat.le_trans h.size k.size, fun i h1 h2 => (k.low i h1 (Nat.lt_of_lt_of_le h2 h.size)).trans (h.low i h1 h2), fun i c t fr h1 h2 h3 => k.kind i c t fr (h.kind i c t fr h1 h2 h3) h2 h3⟩
theorem LFrame.grow {B : Nat} {a b : World} (h : Grow a b) : LFrame B a b := ⟨h.os, h.tape, h.output, h.size, fun k _ h2 => h.block k h2, fun k c t fr h1 _ _ => h.get h1⟩
theorem boolsAt.frame {B : Nat} {w w' : World} {b : Nat} {l : List Bool} (h : boolsAt w b l) (k : LFrame B w w') : boolsAt w' b l := k.kind _ _ _ _ h (by decide) (by decide)
theorem own_frame {B C e size n : Nat} {w w' : World} {v : Value} {xs : List Value} (h : w.ownsRow C e size v n xs) (k : LFrame B w w') (h1 : e ≠ 117) (h2 : e ≠ 122) : w'.ownsRow C e size v n xs := by
  refine own_keep h fun g hg => ?_
  rcases h.2 with ⟨rfl, _⟩ | ⟨b, cap, cur, rfl, _, hb, _⟩
  · cases hg
  · simp [Value.ownBlock] at hg
    subst hg
    rw [hb]
    exact k.kind _ _ _ _ hb h1 h2
theorem cellsAt.frame {B : Nat} {w w' : World} (k : LFrame B w w') : ∀ {T : Tr} {xs : List Value}, cellsAt w (fun _ => True) T xs → cellsAt w' (fun _ => True) T xs
  | .nil, xs, h => h
  | .set s sg rest, xs, h => by
    obtain ⟨b, l, h1, h2, h3, h4⟩ := h
    exact ⟨b, l, h1, h2, h3.frame k, h4.frame k⟩
  | .grp n rows sg rest, xs, h => by
    obtain ⟨rv, kk, ys, l, h1, h2, h3, h4, h5⟩ := h
    exact ⟨rv, kk, ys, l, h1, own_frame h2 k (by decide) (by decide), h3, h4.frame k, h5.frame k⟩
  | .row r rest, xs, h => by
    obtain ⟨v, kk, ys, l, h1, h2, h3, h4, h5⟩ := h
    exact ⟨v, kk, ys, l, h1, own_frame h2 k (by decide) (by decide), h3, h4.frame k, h5.frame k⟩
theorem cellsAt.any {w : World} {A : Nat → Prop} {T : Tr} {xs : List Value} (h : cellsAt w A T xs) : cellsAt w (fun _ => True) T xs := h.keep fun _ _ _ => ⟨trivial, rfl⟩
theorem spotAt.frame {B : Nat} {w w' : World} (k : LFrame B w w') : ∀ {kd : Kind} {xs : List Value}, spotAt w kd xs → spotAt w' kd xs
  | .fin, xs, h => h
  | .take s nx, xs, ⟨b, h1, h2⟩ => ⟨b, h1, h2.frame k⟩
  | .fork [], xs, h => h
  | .fork [x], xs, h => h
  | .fork [x, y], xs, h => h
  | .fork (x :: y :: z :: l), xs, h => h
  | .mark sl nx, xs, h => h
theorem spotsAt.frame {B : Nat} {w w' : World} (k : LFrame B w w') : ∀ {L : List Kind} {xs : List Value}, spotsAt w L xs → spotsAt w' L xs
  | [], xs, h => h
  | kd :: L, xs, h => by
    obtain ⟨ys, l, h1, h2, h3⟩ := h
    exact ⟨ys, l, h1, h2.frame k, h3.frame k⟩
theorem spotAt.length {w : World} : ∀ {kd : Kind} {xs : List Value}, spotAt w kd xs → xs.length = 5
  | .fin, xs, h => by rw [h]; rfl
  | .take s nx, xs, ⟨b, h, _⟩ => by rw [h]; rfl
  | .fork [], xs, h => h.elim
  | .fork [x], xs, h => h.elim
  | .fork [x, y], xs, h => by rw [h]; rfl
  | .fork (x :: y :: z :: l), xs, h => h.elim
  | .mark sl nx, xs, h => by rw [h]; rfl
/-- A layout in its block. -/
def layAt (w : World) (B lb : Nat) (L : List Kind) : Prop :=
  ∃ sv xs, w.heap[lb]? = some (.cells #[sv] 117 (0, 0)) ∧ B ≤ lb ∧ w.ownsRow B 122 5 sv L.length xs ∧ spotsAt w L xs
theorem layAt.grow {w w' : World} {B lb : Nat} {L : List Kind} (h : layAt w B lb L) (g : Grow w w') : layAt w' B lb L := by
  obtain ⟨sv, xs, h1, h2, h3, h4⟩ := h
  exact ⟨sv, xs, g.get h1, h2, own_grow h3 g, h4.frame (.grow (B := 0) g)⟩
end Go.Proofs.YtndpjdmfkhjiiaaGreatDoor
namespace Go.Proofs.YtndpjdmfkhjiiaaGreatDoor
open Go.RowKit
/-! ### what was tried -/
def spentG (K : Nat → Kind) (t : List UInt8) (tr : List Bool) (f : Nat) : Prop :=
  ∀ n p, p ≤ t.length → tr[n * (t.length + 1) + p]? = some true → den K t f n p = none ∨ ∃ f', den K t f' n p = some none
def vainG (K : Nat → Kind) (t : List UInt8) (tr tr' : List Bool) : Prop :=
  ∀ n p, p ≤ t.length → tr'[n * (t.length + 1) + p]? = some true → tr[n * (t.length + 1) + p]? = some true ∨ ∃ f', den K t f' n p = some none
theorem spentG.down {K : Nat → Kind} {t : List UInt8} {tr : List Bool} {f : Nat} (h : spentG K t tr (f + 1)) : spentG K t tr f := by
  intro n p hp hk
  rcases h n p hp hk with h | h
  · left
    cases hc : den K t f n p with
    | none => rfl
    | some z => rw [den_succ _ _ _ _ _ _ hc] at h; cases h
  · exact .inr h
theorem spentG.put {K : Nat → Kind} {t : List UInt8} {tr : List Bool} {f n p : Nat} (h : spentG K t tr (f + 1)) (hp : p ≤ t.length) (hd : den K t f n p = none) : spentG K t (tr.set (n * (t.length + 1) + p) true) f := by
  intro n' p' hp' hk
  by_cases e : n * (t.length + 1) + p = n' * (t.length + 1) + p'
  · obtain ⟨rfl, rfl⟩ := idx_inj e hp hp'
    exact .inl hd
  · rw [List.getElem?_set_ne e] at hk
    exact h.down n' p' hp' hk
theorem vainG.refl (K : Nat → Kind) (t : List UInt8) (tr : List Bool) : vainG K t tr tr := fun n p _ h => .inl h
theorem vainG.trans {K : Nat → Kind} {t : List UInt8} {a b c : List Bool} (h : vainG K t a b) (k : vainG K t b c) : vainG K t a c := by
  intro n p hp hc
  rcases k n p hp hc with k | k
  · exact h n p hp k
  · exact .inr k
theorem spentG.vain {K : Nat → Kind} {t : List UInt8} {tr tr' : List Bool} {f : Nat} (h : spentG K t tr f) (k : vainG K t tr tr') : spentG K t tr' f := by
  intro n p hp hc
  rcases k n p hp hc with k | k
  · exact h n p hp k
  · exact .inr k
/-! ### what is marked: the last place of each group's begin (0), or end (1) -/
/-! ### memory -/
structure KB (X : Nat → Prop) (w w' : World) : Prop where
  os : w'.os = w.os
  tape : w'.tape = w.tape
  output : w'.output = w.output
  size : w.heap.size ≤ w'.heap.size
  block : ∀ k, k < w.heap.size → ¬ X k → w'.heap[k]? = w.heap[k]?
theorem KB.refl (X : Nat → Prop) (w : World) : KB X w w := ⟨rfl, rfl, rfl, Nat.le_refl _, fun _ _ _ => rfl⟩
theorem KB.trans {X : Nat → Prop} {a b c : World} (h : KB X a b) (k : KB X b c) : KB X a c :=
  ⟨k.os.trans h.os, k.tape.trans h.tape, k.output.trans h.output, Nat.le_trans h.size k.size, fun i h1 h2 => (k.block i (Nat.lt_of_lt_of_le h1 h.size) h2).trans (h.block i h1 h2)⟩
theorem KB.grow {X : Nat → Prop} {a b : World} (h : Grow a b) : KB X a b := ⟨h.os, h.tape, h.output, h.size, fun k h1 _ => h.block k h1⟩
theorem KB.set {X : Nat → Prop} {w : World} {b o : Nat} (h : X b) (v : Value) : KB X w (w.setCell ⟨b, o, none⟩ v) :=
  ⟨rfl, rfl, rfl, by simp [World.setCell], fun k _ hk => set_apart _ (fun e => hk (e ▸ h))⟩
theorem KB.get {X : Nat → Prop} {w w' : World} (h : KB X w w') {b : Nat} {o : Obj} (hb : w.heap[b]? = some o) (hx : ¬ X b) : w'.heap[b]? = some o := (h.block b (lt_of_block hb) hx).trans hb
theorem KB.cell {X : Nat → Prop} {w w' : World} (h : KB X w w') {b o : Nat} {v : Value} (hc : w.cell? ⟨b, o, none⟩ = some v) (hx : ¬ X b) : w'.cell? ⟨b, o, none⟩ = some v := (cell_keep (h.block b (cell_has hc) hx)).trans hc
/-- The rows that a walk writes: what was tried, where groups begin, where they end. -/
def own3 (bb fb tb : Nat) : Nat → Prop := fun k => k = bb ∨ k = fb ∨ k = tb
/-- A spot that a walk reads. -/
def spotOf (w : World) (X : Nat → Prop) : Kind → List Value → Prop
  | .take s nx, xs => ∃ b, xs = spotC 1 nx 0 0 (.slice (some ⟨b, 0, none⟩) 256 256) ∧ ¬ X b ∧ boolsAt w b (boolRow s)
  | .fin, xs => xs = spotC 0 0 0 0 (.slice none 0 0)
  | .fork [x, y], xs => xs = spotC 2 x y 0 (.slice none 0 0)
  | .fork _, xs => False
  | .mark sl nx, xs => xs = spotC (if sl % 2 = 0 then 3 else 4) nx 0 (sl / 2 + 1 : Nat) (.slice none 0 0)
theorem spotOf.keep {w w' : World} {X : Nat → Prop} (k : KB X w w') : ∀ {kd : Kind} {xs : List Value}, spotOf w X kd xs → spotOf w' X kd xs
  | .take s nx, xs, ⟨b, h1, h2, h3⟩ => ⟨b, h1, h2, k.get h3 h2⟩
  | .fin, xs, h => h
  | .fork [], xs, h => h
  | .fork [x], xs, h => h
  | .fork [x, y], xs, h => h
  | .fork (x :: y :: z :: l), xs, h => h
  | .mark sl nx, xs, h => h
/-- What stays while a walk goes on. -/
def wkAt (w : World) (wb lb sb bb fb tb : Nat) (K : List Kind) (t : List UInt8) (bn gn : Nat) : Prop :=
  ∃ scp bcp fcp tcp, w.heap[wb]? = some (.cells #[.pointer (some ⟨lb, 0, none⟩), .string (bs t), .slice (some ⟨bb, 0, none⟩) bn bcp, .slice (some ⟨fb, 0, none⟩) gn fcp, .slice (some ⟨tb, 0, none⟩) gn tcp] 125 (0, 0)) ∧
    w.heap[lb]? = some (.cells #[.slice (some ⟨sb, 0, none⟩) K.length scp] 117 (0, 0)) ∧
    (∀ i k, K[i]? = some k → ∃ ys, spotOf w (own3 bb fb tb) k ys ∧ ∀ j u, j < 5 → ys[j]? = some u → w.cell? ⟨sb, i * 5 + j, none⟩ = some u) ∧
    ¬ own3 bb fb tb wb ∧ ¬ own3 bb fb tb lb ∧ ¬ own3 bb fb tb sb ∧ bb ≠ fb ∧ bb ≠ tb ∧ fb ≠ tb
theorem wkAt.keep {w w' : World} {wb lb sb bb fb tb : Nat} {K : List Kind} {t : List UInt8} {bn gn : Nat} (h : wkAt w wb lb sb bb fb tb K t bn gn) (k : KB (own3 bb fb tb) w w') : wkAt w' wb lb sb bb fb tb K t bn gn := by
  obtain ⟨scp, bcp, fcp, tcp, h1, h2, h3, h4, h5, h6, h7⟩ := h
  refine ⟨scp, bcp, fcp, tcp, k.get h1 h4, k.get h2 h5, fun i kd hi => ?_, h4, h5, h6, h7⟩
  obtain ⟨ys, a, b⟩ := h3 i kd hi
  exact ⟨ys, a.keep k, fun j u hj hu => k.cell (b j u hj hu) h6⟩
end Go.Proofs.YtndpjdmfkhjiiaaGreatDoor
