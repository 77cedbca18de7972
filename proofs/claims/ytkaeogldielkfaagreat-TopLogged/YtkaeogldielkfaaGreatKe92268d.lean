/- 1 texts in one. -/
import Derived.Test.YtkaeogldielkfaaGreatProg
import Derived.Test.YtkaeogldielkfaaGreatK1cf7faf
import Derived.Test.YtkaeogldielkfaaGreatK5674b3b
import Derived.Test.YtkaeogldielkfaaGreatK7aebb14
import Derived.ProofKit
import Derived.Deep.Slices
set_option linter.unusedVariables false
set_option linter.unusedSimpArgs false
namespace Go.Proofs.YtkaeogldielkfaaGreat.Lb
open Go.RowKit Go.ChangeShapes Go.WideShapes
theorem two_cells {w : World} {b : Nat} {x y : Value} {t : TypeId} (h : w.heap[b]? = some (.cells #[x, y] t (0, 0))) : w.cell? ⟨b, 0, none⟩ = some x ∧ w.cell? ⟨b, 1, none⟩ = some y := by simp [World.cell?, h]
theorem vint {k : IntKind} {a b : Int} (h : a = b) : Value.int k a = .int k b := by rw [h]
theorem vstr {a b : List UInt8} (h : a = b) : Value.string (bs a) = .string (bs b) := by rw [h]
theorem ret2 {a b c d : Value} (h : a = c) (k : b = d) : Ending.returned (.tuple #[a, b]) = .returned (.tuple #[c, d]) := by rw [h, k]
/-- A slice of labels below block B. -/
def readsLabels (w : World) (B : Nat) (v : Value) (ls : List Lab) : Prop :=
  ∃ ao cp, v = .slice ao ls.length cp ∧ ∀ i (h : i < ls.length), ∃ b o, ao = some ⟨b, o, none⟩ ∧ b < B ∧ w.cell? ⟨b, o + i * 2, none⟩ = some (.string (bs ls[i].1)) ∧ w.cell? ⟨b, o + i * 2 + 1, none⟩ = some (.string (bs ls[i].2))
theorem readsLabels_mono {w : World} {B B' : Nat} {v : Value} {ls : List Lab} (h : readsLabels w B v ls) (hB : B ≤ B') : readsLabels w B' v ls := by
  obtain ⟨ao, cp, hv, h⟩ := h
  refine ⟨ao, cp, hv, fun i hi => ?_⟩
  obtain ⟨b, o, h1, h2, h3, h4⟩ := h i hi
  exact ⟨b, o, h1, by omega, h3, h4⟩
theorem readsLabels_below {w w' : World} {B : Nat} {v : Value} {ls : List Lab} (h : readsLabels w B v ls) (hb : Below B w w') : readsLabels w' B v ls := by
  obtain ⟨ao, cp, hv, h⟩ := h
  refine ⟨ao, cp, hv, fun i hi => ?_⟩
  obtain ⟨b, o, h1, h2, h3, h4⟩ := h i hi
  exact ⟨b, o, h1, h2, (hb.cell h2).trans h3, (hb.cell h2).trans h4⟩
theorem readsLabels_len {w : World} {B : Nat} {v : Value} {ls : List Lab} (h : readsLabels w B v ls) : ∃ ao cp, v = .slice ao ls.length cp := by
  obtain ⟨ao, cp, hv, _⟩ := h; exact ⟨ao, cp, hv⟩
def labCells : List Lab → List Value
  | [] => []
  | x :: l => .string (bs x.1) :: .string (bs x.2) :: labCells l
theorem labCells_snoc (l : List Lab) (x : Lab) : labCells (l ++ [x]) = labCells l ++ [.string (bs x.1), .string (bs x.2)] := by
  induction l with
  | nil => rfl
  | cons y l ih => simp [labCells, ih]
theorem labCells_at : ∀ (l : List Lab) (i : Nat) (h : i < l.length), (labCells l)[i * 2]? = some (.string (bs l[i].1)) ∧ (labCells l)[i * 2 + 1]? = some (.string (bs l[i].2))
  | [], i, h => by simp at h
  | x :: l, 0, h => ⟨rfl, rfl⟩
  | x :: l, i + 1, h => by
    have e : (i + 1) * 2 = i * 2 + 1 + 1 := by omega
    have := labCells_at l i (by simpa using h)
    rw [e]
    simpa [labCells] using this
theorem labCells_length (l : List Lab) : (labCells l).length = l.length * 2 := by
  induction l with
  | nil => rfl
  | cons x l ih => simp [labCells, ih]; omega
theorem labCells_append (a b : List Lab) : labCells (a ++ b) = labCells a ++ labCells b := by
  induction a with
  | nil => rfl
  | cons x a ih => simp [labCells, ih]
theorem labCells_one (l : List Lab) : ∀ u ∈ labCells l, u.oneCell' = true := by
  induction l with
  | nil => simp [labCells]
  | cons x l ih =>
    intro u hu
    simp only [labCells, List.mem_cons] at hu
    rcases hu with rfl | rfl | hu
    · rfl
    · rfl
    · exact ih u hu
def ownLabels (w : World) (B : Nat) (v : Value) (ls : List Lab) : Prop := w.ownsRow B 107 2 v ls.length (labCells ls)
/-- Rows stay where blocks of their own do. -/
theorem own_keep {w w' : World} {base e size n : Nat} {v : Value} {xs : List Value} (h : w.ownsRow base e size v n xs) (hb : ∀ g, v.ownBlock = some g → w'.heap[g]? = w.heap[g]?) : w'.ownsRow base e size v n xs := by
  refine ⟨h.1, ?_⟩
  rcases h.2 with ⟨h1, h2⟩ | ⟨g, cap, cur, rfl, h1, h2, h3⟩
  · exact .inl ⟨h1, h2⟩
  · exact .inr ⟨g, cap, cur, rfl, h1, (hb g rfl).trans h2, h3⟩
theorem own_grow {w w' : World} {base e size n : Nat} {v : Value} {xs : List Value} (h : w.ownsRow base e size v n xs) (hg : Grow w w') : w'.ownsRow base e size v n xs :=
  own_keep h fun g hgb => hg.block g (h.lt g hgb).2
theorem own_le {w : World} {B B' e size n : Nat} {v : Value} {xs : List Value} (h : w.ownsRow B e size v n xs) (hb : B' ≤ B) : w.ownsRow B' e size v n xs := by
  refine ⟨h.1, ?_⟩
  rcases h.2 with h1 | ⟨g, cap, cur, h0, h1, h2⟩
  · exact .inl h1
  · exact .inr ⟨g, cap, cur, h0, by omega, h2⟩
theorem reads_ownLabels {w : World} {B : Nat} {v : Value} {ls : List Lab} (h : ownLabels w B v ls) : readsLabels w w.heap.size v ls := by
  obtain ⟨ao, cp, e⟩ := own_shape h
  refine ⟨ao, cp, e, fun i hi => ?_⟩
  rcases h.2 with ⟨rfl, h0⟩ | ⟨g, cap, cur, rfl, h1, h2, h3⟩
  · omega
  · simp at e
    have hc := World.ownsRow.cells h (g := g) rfl
    have ha := labCells_at ls i hi
    refine ⟨g, 0, e.1.symm, lt_of_block h2, ?_, ?_⟩
    · have := hc _ _ ha.1
      rw [Addr.add_lit] at this
      simpa using this
    · have := hc _ _ ha.2
      rw [Addr.add_lit] at this
      simpa using this
theorem Tryz.cells43 : Tryz.prog.cellsOf 107 = 2 := by kernel_rfl
theorem Tryz.cells9 : Tryz.prog.cellsOf 9 = 1 := by kernel_rfl
theorem Tryz.infoL : (Tryz.prog.info? 107).map (fun i => (i.zero, i.size, i.bytes)) = some (some (.agg #[.string ByteArray.empty, .string ByteArray.empty]), 2, 32) := by kernel_rfl
section
variable {H : Type} {enc : TypeId × Value → H} {w : World} {spare : Nat → Bool} {held : Bool}
theorem cells2 {base : Nat} {a : Addr} {cs : List Value} (h : w.cells? base a 2 = some cs) : ∃ x y, cs = [x, y] ∧ w.cell? (a.add 0) = some x ∧ w.cell? (a.add 1) = some y := by
  obtain ⟨_, hl, hc⟩ := World.cells?_some h
  match cs, hl with
  | [x, y], _ => exact ⟨x, y, rfl, hc 0 (by omega), hc 1 (by omega)⟩
set_option maxRecDepth 20000 in
theorem open_label {fuel : Nat} {cs : List Value} {x : DataW H × List MemPlace} (h : DataW.trod enc Tryz.prog w 0 spare held fuel 107 cs = some x) :
    ∃ y : Lab, cs = [.string (bs y.1), .string (bs y.2)] ∧ y.1.length ≤ maxLen ∧ y.2.length ≤ maxLen := by
  obtain ⟨y0, y1, n, _, hl, h0, h1⟩ := trod_struct2 Tryz.underlying107 h
  rw [Tryz.cells43] at hl
  match cs, hl with
  | [a, b], _ =>
    obtain ⟨s0, e0, _, l0⟩ := DataW.trod_string Tryz.underlying9 h0
    obtain ⟨s1, e1, _, l1⟩ := DataW.trod_string Tryz.underlying9 h1
    simp [Tryz.cells9] at e0 e1
    subst e0 e1
    exact ⟨(s0.data.toList, s1.data.toList), by rw [← bs_surj, ← bs_surj], by rw [Array.length_toList]; exact l0, by rw [Array.length_toList]; exact l1⟩
/-- From an element for each index to a list of them. -/
theorem list_of {α : Type} {n : Nat} {p : Nat → α → Prop} (h : ∀ i, i < n → ∃ x, p i x) : ∃ l : List α, l.length = n ∧ ∀ i (hi : i < l.length), p i l[i] := by
  induction n with
  | zero => exact ⟨[], rfl, fun i hi => by simp at hi⟩
  | succ n ih =>
    obtain ⟨l, hl, hp⟩ := ih fun i hi => h i (by omega)
    obtain ⟨x, hx⟩ := h n (by omega)
    refine ⟨l ++ [x], by simp [hl], fun i hi => ?_⟩
    by_cases e : i < l.length
    · rw [List.getElem_append_left e]; exact hp i e
    · have : i = n := by simp at hi; omega
      subst this
      rw [List.getElem_append_right (by omega)]
      simpa using hx
theorem add_at {b o s : Nat} {sp : Option Nat} {i j : Nat} {v : Value} (h : w.cell? ((Addr.add ⟨b, o, sp⟩ i).add j) = some v) : w.cell? ⟨b, o + i + j, none⟩ = some v := by
  have e : ((Addr.add ⟨b, o, sp⟩ i).add j) = ⟨b, o + i + j, none⟩ ∨ w.cell? ((Addr.add ⟨b, o, sp⟩ i).add j) = none := by
    unfold Addr.add
    by_cases hi : i = 0 <;> by_cases hj : j = 0
    · subst hi hj
      cases sp with
      | none => exact .inl rfl
      | some k => exact .inr (by simp [World.cell?]; split <;> rfl)
    · subst hi; exact .inl (by simp [hj])
    · subst hj; exact .inl (by simp [hi])
    · exact .inl (by simp [hi, hj])
  rcases e with e | e
  · rw [e] at h; exact h
  · rw [e] at h; cases h
set_option maxRecDepth 20000 in
theorem open_labels {fuel : Nat} {v : Value} {x : DataW H × List MemPlace} (h : DataW.trod enc Tryz.prog w 0 spare held fuel 57 [v] = some x) :
    ∃ ls, readsLabels w w.heap.size v ls ∧ ls.length ≤ 9223372036854775807 ∧ ∀ y ∈ ls, y.1.length ≤ 9223372036854775807 ∧ y.2.length ≤ 9223372036854775807 := by
  rcases Go.Deep.open_slice Tryz.underlying57 h with ⟨h1, _⟩ | ⟨a, len, cap, m, n, D, Pl, h1, _, hl, hm, hmm, _, hx⟩
  · simp at h1
    subst h1
    exact ⟨[], ⟨none, 0, rfl, fun i hi => by simp at hi⟩, by simp, by simp⟩
  · simp at h1
    subst h1
    have hle : len ≤ m := by rw [hmm]; split <;> omega
    obtain ⟨ls, hlen, hp⟩ := list_of (n := len) (p := fun i (y : Lab) => y.1.length ≤ maxLen ∧ y.2.length ≤ maxLen ∧ w.cell? ⟨a.block, a.off + i * 2, none⟩ = some (.string (bs y.1)) ∧ w.cell? ⟨a.block, a.off + i * 2 + 1, none⟩ = some (.string (bs y.2))) (fun i hi => by
      obtain ⟨cs', c1, c2⟩ := hx i (by omega)
      rw [Tryz.cells43] at c1
      obtain ⟨p, q, rfl, e0, e1⟩ := cells2 c1
      obtain ⟨y, hy, l0, l1⟩ := open_label c2
      simp at hy
      obtain ⟨rfl, rfl⟩ := hy
      obtain ⟨ab, ao, asp⟩ := a
      exact ⟨y, l0, l1, add_at (s := 0) e0, add_at (s := 0) e1⟩)
    refine ⟨ls, ⟨some a, cap, by rw [hlen], fun i hi => ?_⟩, by unfold maxLen at hm; omega, fun y hy => ?_⟩
    · have hpi := hp i hi
      obtain ⟨ab, ao, asp⟩ := a
      have hsp : asp = none := by
        obtain ⟨cs', c1, c2⟩ := hx 0 (by omega)
        rw [Tryz.cells43] at c1
        obtain ⟨p, q, rfl, e0, e1⟩ := cells2 c1
        cases asp with
        | none => rfl
        | some k => simp [Addr.add, World.cell?] at e0; split at e0 <;> simp at e0
      subst hsp
      exact ⟨ab, ao, rfl, World.block_lt_of_cell? _ _ hpi.2.2.1, hpi.2.2.1, hpi.2.2.2⟩
    · obtain ⟨i, hi, rfl⟩ := List.getElem_of_mem hy
      have hpi := hp i hi
      unfold maxLen at hpi
      exact ⟨by omega, by omega⟩
end
end Go.Proofs.YtkaeogldielkfaaGreat.Lb
