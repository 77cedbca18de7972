/- Masks as the document's own reader hands them back: rows of pieces in slices; MayNothing. -/
import Derived.Laws.OwnMore
import Derived.Test.YtndpjdmfkhjiiaaGreatDoorProg
import Derived.Test.YtndpjdmfkhjiiaaGreatDoorKit
import Derived.Test.YtndpjdmfkhjiiaaGreatDoorMPar
import Derived.Test.YtndpjdmfkhjiiaaGreatDoorMLay
import Derived.Test.YtndpjdmfkhjiiaaGreatDoorMWlk
import Derived.Test.YtndpjdmfkhjiiaaGreatDoorMPrA
import Derived.Test.YtndpjdmfkhjiiaaGreatDoorMPrK
import Derived.Test.YtndpjdmfkhjiiaaGreatDoorMRdB
import Derived.Test.YtndpjdmfkhjiiaaGreatDoorMRdC
import Derived.BigQuiet
set_option linter.unusedVariables false
set_option linter.unusedSimpArgs false
namespace Go.Proofs.YtndpjdmfkhjiiaaGreatDoor
open Go.RowKit
attribute [local go_sem] bs_size bs_toList bs_append bs_get bs_extract

/-- A piece's cells. -/
def pieceC5 (gr : Bool) (sv : Value) (n : Int) (rv : Value) (sg : Int) : List Value := [.bool gr, sv, .int .i64 n, rv, .int .u8 sg]
/-- What cells of rows, or of a row, hold, in blocks of which something is known. -/
def cellsAt (w : World) (A : Nat → Prop) : Tr → List Value → Prop
  | .nil, xs => xs = []
  | .set s sg rest, xs => ∃ b l, xs = pieceC5 false (.slice (some ⟨b, 0, none⟩) 256 256) 0 (.slice none 0 0) sg ++ l ∧ A b ∧ boolsAt w b (boolRow s) ∧ cellsAt w A rest l
  | .grp n rows sg rest, xs => ∃ rv k ys l, xs = pieceC5 true (.slice none 0 0) (n + 1 : Nat) rv sg ++ l ∧ w.ownsRow 0 153 1 rv k ys ∧ (∀ b, rv.ownBlock = some b → A b) ∧ cellsAt w A rows ys ∧ cellsAt w A rest l
  | .row r rest, xs => ∃ v k ys l, xs = v :: l ∧ w.ownsRow 0 155 5 v k ys ∧ (∀ b, v.ownBlock = some b → A b) ∧ cellsAt w A r ys ∧ cellsAt w A rest l

theorem cellsAt.keep {w w' : World} {A A' : Nat → Prop} (hk : ∀ k, k < w.heap.size → A k → A' k ∧ w'.heap[k]? = w.heap[k]?) : ∀ {T : Tr} {xs : List Value}, cellsAt w A T xs → cellsAt w' A' T xs
  | .nil, xs, h => h
  | .set s sg rest, xs, h => by
    obtain ⟨b, l, h1, h2, h3, h4⟩ := h
    obtain ⟨k1, k2⟩ := hk b (lt_of_block h3) h2
    exact ⟨b, l, h1, k1, k2.trans h3, cellsAt.keep hk h4⟩
  | .grp n rows sg rest, xs, h => by
    obtain ⟨rv, k, ys, l, h1, h2, h3, h4, h5⟩ := h
    exact ⟨rv, k, ys, l, h1, own_keep h2 fun b hb => (hk b (h2.lt b hb).2 (h3 b hb)).2, fun b hb => (hk b (h2.lt b hb).2 (h3 b hb)).1, cellsAt.keep hk h4, cellsAt.keep hk h5⟩
  | .row r rest, xs, h => by
    obtain ⟨v, k, ys, l, h1, h2, h3, h4, h5⟩ := h
    exact ⟨v, k, ys, l, h1, own_keep h2 fun b hb => (hk b (h2.lt b hb).2 (h3 b hb)).2, fun b hb => (hk b (h2.lt b hb).2 (h3 b hb)).1, cellsAt.keep hk h4, cellsAt.keep hk h5⟩
theorem cellsAt.grow {w w' : World} {A : Nat → Prop} {T : Tr} {xs : List Value} (h : cellsAt w A T xs) (g : Grow w w') : cellsAt w' A T xs := h.keep fun k hk ha => ⟨ha, g.block k hk⟩

/-- Pieces, one by one. -/
inductive Item where
  | set (s : UInt8 → Bool) (sg : Nat)
  | grp (n : Nat) (rows : Tr) (sg : Nat)
def Item.on : Item → Tr → Tr
  | .set s sg, T => .set s sg T
  | .grp n rows sg, T => .grp n rows sg T
def rowT (l : List Item) (T : Tr) : Tr := l.foldr Item.on T
def itemAt (w : World) (A : Nat → Prop) : Item → List Value → Prop
  | .set s sg, xs => ∃ b, xs = pieceC5 false (.slice (some ⟨b, 0, none⟩) 256 256) 0 (.slice none 0 0) sg ∧ A b ∧ boolsAt w b (boolRow s)
  | .grp n rows sg, xs => ∃ rv k ys, xs = pieceC5 true (.slice none 0 0) (n + 1 : Nat) rv sg ∧ w.ownsRow 0 153 1 rv k ys ∧ (∀ b, rv.ownBlock = some b → A b) ∧ cellsAt w A rows ys
theorem itemAt.length {w : World} {A : Nat → Prop} : ∀ {it : Item} {xs : List Value}, itemAt w A it xs → xs.length = 5
  | .set s sg, xs, ⟨b, h, _⟩ => by rw [h]; rfl
  | .grp n rows sg, xs, ⟨rv, k, ys, h, _⟩ => by rw [h]; rfl
theorem itemAt.keep {w w' : World} {A A' : Nat → Prop} (hk : ∀ k, k < w.heap.size → A k → A' k ∧ w'.heap[k]? = w.heap[k]?) : ∀ {it : Item} {xs : List Value}, itemAt w A it xs → itemAt w' A' it xs
  | .set s sg, xs, ⟨b, h1, h2, h3⟩ => by
    obtain ⟨k1, k2⟩ := hk b (lt_of_block h3) h2
    exact ⟨b, h1, k1, k2.trans h3⟩
  | .grp n rows sg, xs, ⟨rv, k, ys, h1, h2, h3, h4⟩ => ⟨rv, k, ys, h1, own_keep h2 fun b hb => (hk b (h2.lt b hb).2 (h3 b hb)).2, fun b hb => (hk b (h2.lt b hb).2 (h3 b hb)).1, cellsAt.keep hk h4⟩
theorem cellsAt_on {w : World} {A : Nat → Prop} {it : Item} {T : Tr} {xs : List Value} : cellsAt w A (it.on T) xs ↔ ∃ ys l, xs = ys ++ l ∧ itemAt w A it ys ∧ cellsAt w A T l := by
  cases it with
  | set s sg =>
    constructor
    · rintro ⟨b, l, h1, h2, h3, h4⟩; exact ⟨_, l, h1, ⟨b, rfl, h2, h3⟩, h4⟩
    · rintro ⟨ys, l, rfl, ⟨b, rfl, h2, h3⟩, h4⟩; exact ⟨b, l, rfl, h2, h3, h4⟩
  | grp n rows sg =>
    constructor
    · rintro ⟨rv, k, ys, l, h1, h2, h3, h4, h5⟩; exact ⟨_, l, h1, ⟨rv, k, ys, rfl, h2, h3, h4⟩, h5⟩
    · rintro ⟨ys, l, rfl, ⟨rv, k, zs, rfl, h2, h3, h4⟩, h5⟩; exact ⟨rv, k, zs, l, rfl, h2, h3, h4, h5⟩
theorem cellsAt_snoc {w : World} {A : Nat → Prop} {it : Item} {ys : List Value} (hi : itemAt w A it ys) : ∀ {l : List Item} {xs : List Value}, cellsAt w A (rowT l .nil) xs → cellsAt w A (rowT (l ++ [it]) .nil) (xs ++ ys)
  | [], xs, h => by
    obtain rfl : xs = [] := h
    exact cellsAt_on.2 ⟨ys, [], by simp, hi, rfl⟩
  | x :: l, xs, h => by
    obtain ⟨zs, r, rfl, h1, h2⟩ := cellsAt_on.1 h
    exact cellsAt_on.2 ⟨zs, r ++ ys, by simp, h1, cellsAt_snoc hi h2⟩
theorem cellsAt_item {w : World} {A : Nat → Prop} : ∀ {l : List Item} {xs : List Value}, cellsAt w A (rowT l .nil) xs → xs.length = l.length * 5 ∧ ∀ (k : Nat) (it : Item), l[k]? = some it → ∃ ys, itemAt w A it ys ∧ ∀ j, j < 5 → xs[k * 5 + j]? = ys[j]?
  | [], xs, h => by
    obtain rfl : xs = [] := h
    exact ⟨rfl, fun k it hk => by simp at hk⟩
  | x :: l, xs, h => by
    obtain ⟨zs, r, rfl, h1, h2⟩ := cellsAt_on.1 h
    obtain ⟨h3, h4⟩ := cellsAt_item h2
    have hz := h1.length
    refine ⟨by simp [hz, h3]; omega, fun k it hk => ?_⟩
    cases k with
    | zero =>
      simp at hk
      subst hk
      exact ⟨zs, h1, fun j hj => by rw [List.getElem?_append_left (by omega)]; simp⟩
    | succ k =>
      obtain ⟨ys, h5, h6⟩ := h4 k it (by simpa using hk)
      refine ⟨ys, h5, fun j hj => ?_⟩
      rw [List.getElem?_append_right (by omega), ← h6 j hj, show (k + 1) * 5 + j - zs.length = k * 5 + j by omega]

/-- A row in a slice. -/
def rowAt (w : World) (A : Nat → Prop) (r : Tr) (v : Value) : Prop := ∃ k ys, w.ownsRow 0 155 5 v k ys ∧ (∀ b, v.ownBlock = some b → A b) ∧ cellsAt w A r ys
theorem rowAt.keep {w w' : World} {A A' : Nat → Prop} {r : Tr} {v : Value} (hk : ∀ k, k < w.heap.size → A k → A' k ∧ w'.heap[k]? = w.heap[k]?) (h : rowAt w A r v) : rowAt w' A' r v := by
  obtain ⟨k, ys, h2, h3, h4⟩ := h
  exact ⟨k, ys, own_keep h2 fun b hb => (hk b (h2.lt b hb).2 (h3 b hb)).2, fun b hb => (hk b (h2.lt b hb).2 (h3 b hb)).1, h4.keep hk⟩
theorem cellsAt_row {w : World} {A : Nat → Prop} {r rest : Tr} {xs : List Value} : cellsAt w A (.row r rest) xs ↔ ∃ v l, xs = v :: l ∧ rowAt w A r v ∧ cellsAt w A rest l :=
  ⟨fun ⟨v, k, ys, l, h1, h2, h3, h4, h5⟩ => ⟨v, l, h1, ⟨k, ys, h2, h3, h4⟩, h5⟩, fun ⟨v, l, h1, ⟨k, ys, h2, h3, h4⟩, h5⟩ => ⟨v, k, ys, l, h1, h2, h3, h4, h5⟩⟩
theorem cellsAt_rows_snoc {w : World} {A : Nat → Prop} {r : Tr} {v : Value} (hr : rowAt w A r v) : ∀ {rs : List Tr} {xs : List Value}, cellsAt w A (rowsOf rs .nil) xs → cellsAt w A (rowsOf (rs ++ [r]) .nil) (xs ++ [v])
  | [], xs, h => by
    obtain rfl : xs = [] := h
    exact cellsAt_row.2 ⟨v, [], rfl, hr, rfl⟩
  | x :: rs, xs, h => by
    obtain ⟨u, l, rfl, h1, h2⟩ := cellsAt_row.1 h
    exact cellsAt_row.2 ⟨u, l ++ [v], rfl, h1, cellsAt_rows_snoc hr h2⟩
theorem cellsAt_rows {w : World} {A : Nat → Prop} : ∀ {rs : List Tr} {xs : List Value}, cellsAt w A (rowsOf rs .nil) xs → xs.length = rs.length ∧ ∀ (k : Nat) (r : Tr), rs[k]? = some r → ∃ v, xs[k]? = some v ∧ rowAt w A r v
  | [], xs, h => by
    obtain rfl : xs = [] := h
    exact ⟨rfl, fun k it hk => by simp at hk⟩
  | x :: rs, xs, h => by
    obtain ⟨u, l, rfl, h1, h2⟩ := cellsAt_row.1 h
    obtain ⟨h3, h4⟩ := cellsAt_rows h2
    refine ⟨by simp [h3], fun k r hk => ?_⟩
    cases k with
    | zero => simp at hk; subst hk; exact ⟨u, rfl, h1⟩
    | succ k =>
      obtain ⟨v, h5, h6⟩ := h4 k r (by simpa using hk)
      exact ⟨v, by simpa using h5, h6⟩

/-- Rows are rows of pieces. -/
theorem wf_parts : ∀ T : Tr, (wf false T → ∃ l, T = rowT l .nil ∧ ∀ n rows sg, Item.grp n rows sg ∈ l → wf true rows ∧ sz rows < sz T) ∧ (wf true T → ∃ rs, rs ≠ [] ∧ T = rowsOf rs .nil ∧ ∀ r ∈ rs, wf false r ∧ sz r < sz T)
  | .nil => ⟨fun _ => ⟨[], rfl, fun n rows sg h => by simp at h⟩, fun h => h.elim⟩
  | .set s sg rest => ⟨fun h => by
      obtain ⟨l, h1, h2⟩ := (wf_parts rest).1 h
      refine ⟨.set s sg :: l, by rw [h1]; rfl, fun n rows sg' hm => ?_⟩
      rcases List.mem_cons.1 hm with hm | hm
      · cases hm
      · obtain ⟨h3, h4⟩ := h2 n rows sg' hm
        exact ⟨h3, by simp only [sz] at *; omega⟩, fun h => by cases h⟩
  | .grp n rows sg rest => ⟨fun h => by
      obtain ⟨l, h1, h2⟩ := (wf_parts rest).1 h.2
      refine ⟨.grp n rows sg :: l, by rw [h1]; rfl, fun n' rows' sg' hm => ?_⟩
      rcases List.mem_cons.1 hm with hm | hm
      · cases hm
        exact ⟨h.1, by simp only [sz] at *; omega⟩
      · obtain ⟨h3, h4⟩ := h2 n' rows' sg' hm
        exact ⟨h3, by simp only [sz] at *; omega⟩, fun h => by cases h⟩
  | .row r rest => ⟨fun h => h.elim, fun h => by
      have hr : wf false r := by
        cases rest with
        | nil => exact h
        | set s sg rest => exact h.1
        | grp n rows sg rest => exact h.1
        | row a b => exact h.1
      by_cases hn : rest = .nil
      · subst hn
        exact ⟨[r], by simp, rfl, fun x hx => by simp at hx; subst hx; exact ⟨hr, by simp [sz]⟩⟩
      · have hw : wf true rest := by
          cases rest with
          | nil => exact absurd rfl hn
          | set s sg rest => exact h.2
          | grp n rows sg rest => exact h.2
          | row a b => exact h.2
        obtain ⟨rs, h1, h2, h3⟩ := (wf_parts rest).2 hw
        refine ⟨r :: rs, by simp, by rw [h2]; rfl, fun x hx => ?_⟩
        rcases List.mem_cons.1 hx with rfl | hx
        · exact ⟨hr, by simp only [sz] at *; omega⟩
        · obtain ⟨h4, h5⟩ := h3 x hx
          exact ⟨h4, by simp only [sz] at *; omega⟩⟩

def Item.nothing : Item → Bool
  | .set _ sg => sg = 42 || sg = 63
  | .grp _ rows sg => sg = 42 || sg = 63 || Go.Proofs.YtndpjdmfkhjiiaaGreatDoor.nothing rows
theorem nothing_rowT : ∀ l : List Item, nothing (rowT l .nil) = l.all Item.nothing
  | [] => rfl
  | .set s sg :: l => by show ((_ || _) && nothing (rowT l .nil)) = _; rw [nothing_rowT l]; rfl
  | .grp n rows sg :: l => by show ((_ || _ || _) && nothing (rowT l .nil)) = _; rw [nothing_rowT l]; rfl

end Go.Proofs.YtndpjdmfkhjiiaaGreatDoor
