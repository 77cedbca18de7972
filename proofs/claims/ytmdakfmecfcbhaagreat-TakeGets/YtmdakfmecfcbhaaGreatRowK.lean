/- Rows of labels, samples, series that a call owns. -/
import Derived.Test.YtmdakfmecfcbhaaGreatProg
import Derived.Test.YtmdakfmecfcbhaaGreatKit
import Derived.Test.YtmdakfmecfcbhaaGreatSpec
import Derived.Test.YtmdakfmecfcbhaaGreatSpec2
import Derived.Test.YtmdakfmecfcbhaaGreatReg
import Derived.Test.YtmdakfmecfcbhaaGreatWSer
import Derived.Test.YtmdakfmecfcbhaaGreatRdC
import Derived.Test.YtmdakfmecfcbhaaGreatRdD
set_option linter.unusedVariables false
set_option linter.unusedSimpArgs false
namespace Go.Proofs.YtmdakfmecfcbhaaGreat
open Go.RowKit

def labCells : List Lab → List Value
  | [] => []
  | x :: l => .string (bs x.1) :: .string (bs x.2) :: labCells l
def samCells : List Sam → List Value
  | [] => []
  | x :: l => .int .i64 x.1 :: .int .u64 x.2 :: samCells l
def pairCells : List (Value × Value) → List Value
  | [] => []
  | x :: l => x.1 :: x.2 :: pairCells l

theorem labCells_snoc (l : List Lab) (x : Lab) : labCells (l ++ [x]) = labCells l ++ [.string (bs x.1), .string (bs x.2)] := by
  induction l with
  | nil => rfl
  | cons y l ih => simp [labCells, ih]
theorem samCells_snoc (l : List Sam) (x : Sam) : samCells (l ++ [x]) = samCells l ++ [.int .i64 x.1, .int .u64 x.2] := by
  induction l with
  | nil => rfl
  | cons y l ih => simp [samCells, ih]
theorem pairCells_snoc (l : List (Value × Value)) (x : Value × Value) : pairCells (l ++ [x]) = pairCells l ++ [x.1, x.2] := by
  induction l with
  | nil => rfl
  | cons y l ih => simp [pairCells, ih]
theorem labCells_at : ∀ (l : List Lab) (i : Nat) (h : i < l.length), (labCells l)[i * 2]? = some (.string (bs l[i].1)) ∧ (labCells l)[i * 2 + 1]? = some (.string (bs l[i].2))
  | [], i, h => by simp at h
  | x :: l, 0, h => ⟨rfl, rfl⟩
  | x :: l, i + 1, h => by
    have e : (i + 1) * 2 = i * 2 + 1 + 1 := by omega
    have := labCells_at l i (by simpa using h)
    rw [e]
    simpa [labCells] using this
theorem samCells_at : ∀ (l : List Sam) (i : Nat) (h : i < l.length), (samCells l)[i * 2]? = some (.int .i64 l[i].1) ∧ (samCells l)[i * 2 + 1]? = some (.int .u64 l[i].2)
  | [], i, h => by simp at h
  | x :: l, 0, h => ⟨rfl, rfl⟩
  | x :: l, i + 1, h => by
    have e : (i + 1) * 2 = i * 2 + 1 + 1 := by omega
    have := samCells_at l i (by simpa using h)
    rw [e]
    simpa [samCells] using this
theorem pairCells_at : ∀ (l : List (Value × Value)) (i : Nat) (h : i < l.length), (pairCells l)[i * 2]? = some l[i].1 ∧ (pairCells l)[i * 2 + 1]? = some l[i].2
  | [], i, h => by simp at h
  | x :: l, 0, h => ⟨rfl, rfl⟩
  | x :: l, i + 1, h => by
    have e : (i + 1) * 2 = i * 2 + 1 + 1 := by omega
    have := pairCells_at l i (by simpa using h)
    rw [e]
    simpa [pairCells] using this

def ownLabels (w : World) (B : Nat) (v : Value) (ls : List Lab) : Prop := w.ownsRow B 62 2 v ls.length (labCells ls)
def ownSamples (w : World) (B : Nat) (v : Value) (ls : List Sam) : Prop := w.ownsRow B 48 2 v ls.length (samCells ls)

/-- Rows stay where blocks of their own do. -/
theorem own_keep {w w' : World} {base e size n : Nat} {v : Value} {xs : List Value} (h : w.ownsRow base e size v n xs) (hb : ∀ g, v.ownBlock = some g → w'.heap[g]? = w.heap[g]?) : w'.ownsRow base e size v n xs := by
  refine ⟨h.1, ?_⟩
  rcases h.2 with ⟨h1, h2⟩ | ⟨g, cap, cur, rfl, h1, h2, h3⟩
  · exact .inl ⟨h1, h2⟩
  · exact .inr ⟨g, cap, cur, rfl, h1, (hb g rfl).trans h2, h3⟩
theorem own_grow {w w' : World} {base e size n : Nat} {v : Value} {xs : List Value} (h : w.ownsRow base e size v n xs) (hg : Grow w w') : w'.ownsRow base e size v n xs :=
  own_keep h fun g hgb => hg.block g (h.lt g hgb).2
theorem own_le {w : World} {B B' e size n : Nat} {v : Value} {xs : List Value} (h : w.ownsRow B e size v n xs) (hb : B' ≤ B) : w.ownsRow B' e size v n xs := by
  refine ⟨h.1, ?_⟩
  rcases h.2 with h1 | ⟨g, cap, cur, h0, h1, h2⟩
  · exact .inl h1
  · exact .inr ⟨g, cap, cur, h0, by omega, h2⟩

/-- Rows of different kinds lie apart. -/
theorem own_two {w : World} {B1 B2 e1 e2 s1 s2 n1 n2 : Nat} {v1 v2 : Value} {x1 x2 : List Value} (h1 : w.ownsRow B1 e1 s1 v1 n1 x1) (h2 : w.ownsRow B2 e2 s2 v2 n2 x2) (he : e1 ≠ e2) : v1.ownBlock = none ∨ v1.ownBlock ≠ v2.ownBlock := by
  rcases h2.2 with ⟨rfl, _⟩ | ⟨g, cap, cur, rfl, _, hg, _⟩
  · cases hv : v1.ownBlock with
    | none => exact .inl rfl
    | some k => exact .inr (by simp [Value.ownBlock])
  · exact .inr (own_apart h1 hg he)

theorem reads_ownLabels {w : World} {B : Nat} {v : Value} {ls : List Lab} (h : ownLabels w B v ls) : readsLabels w w.heap.size v ls := by
  obtain ⟨ao, cp, e⟩ := own_shape h
  refine ⟨ao, cp, e, fun i hi => ?_⟩
  rcases h.2 with ⟨rfl, h0⟩ | ⟨g, cap, cur, rfl, h1, h2, h3⟩
  · omega
  · simp at e
    have hc := World.ownsRow.cells h (g := g) rfl
    have ha := labCells_at ls i hi
    refine ⟨g, 0, e.1.symm, lt_of_block h2, ?_, ?_⟩
    · have := hc _ _ ha.1
      rw [Addr.add_lit] at this
      simpa using this
    · have := hc _ _ ha.2
      rw [Addr.add_lit] at this
      simpa using this
theorem reads_ownSamples {w : World} {B : Nat} {v : Value} {ls : List Sam} (h : ownSamples w B v ls) : readsSamples w w.heap.size v ls := by
  obtain ⟨ao, cp, e⟩ := own_shape h
  refine ⟨ao, cp, e, fun i hi => ?_⟩
  rcases h.2 with ⟨rfl, h0⟩ | ⟨g, cap, cur, rfl, h1, h2, h3⟩
  · omega
  · simp at e
    have hc := World.ownsRow.cells h (g := g) rfl
    have ha := samCells_at ls i hi
    refine ⟨g, 0, e.1.symm, lt_of_block h2, ?_, ?_⟩
    · have := hc _ _ ha.1
      rw [Addr.add_lit] at this
      simpa using this
    · have := hc _ _ ha.2
      rw [Addr.add_lit] at this
      simpa using this

/-- A row of series that a call owns, with the rows of each. -/
def ownSeries (w : World) (B : Nat) (v : Value) (ls : List Ser) : Prop :=
  ∃ vs : List (Value × Value), vs.length = ls.length ∧ w.ownsRow B 41 2 v ls.length (pairCells vs) ∧ ∀ (i : Nat) (x : Value × Value) (s : Ser), vs[i]? = some x → ls[i]? = some s → ownLabels w B x.1 s.1 ∧ ownSamples w B x.2 s.2

theorem reads_ownSeries {w : World} {B : Nat} {v : Value} {ls : List Ser} (h : ownSeries w B v ls) : readsSeries w w.heap.size v ls := by
  obtain ⟨vs, hl, h, hall⟩ := h
  obtain ⟨ao, cp, e⟩ := own_shape h
  refine ⟨ao, cp, e, fun i hi => ?_⟩
  rcases h.2 with ⟨rfl, h0⟩ | ⟨g, cap, cur, rfl, h1, h2, h3⟩
  · omega
  · simp at e
    have hc := World.ownsRow.cells h (g := g) rfl
    have ha := pairCells_at vs i (by omega)
    obtain ⟨k1, k2⟩ := hall i vs[i] ls[i] (List.getElem?_eq_getElem (by omega)) (List.getElem?_eq_getElem hi)
    refine ⟨g, 0, vs[i].1, vs[i].2, e.1.symm, lt_of_block h2, ?_, ?_, reads_ownLabels k1, reads_ownSamples k2⟩
    · have := hc _ _ ha.1
      rw [Addr.add_lit] at this
      simpa using this
    · have := hc _ _ ha.2
      rw [Addr.add_lit] at this
      simpa using this

theorem ownSeries_grow {w w' : World} {B : Nat} {v : Value} {ls : List Ser} (h : ownSeries w B v ls) (hg : Grow w w') : ownSeries w' B v ls := by
  obtain ⟨vs, hl, h, hall⟩ := h
  exact ⟨vs, hl, own_grow h hg, fun i x s h1 h2 => ⟨own_grow (hall i x s h1 h2).1 hg, own_grow (hall i x s h1 h2).2 hg⟩⟩
theorem ownSeries_nil (w : World) (B : Nat) : ownSeries w B (.slice none 0 0) [] := ⟨[], rfl, World.ownsRow_nil _ _ _ _, fun i x s h => by simp at h⟩

end Go.Proofs.YtmdakfmecfcbhaaGreat
