/- A slice of series among the arguments: what its cells hold. -/
import Derived.Test.YtojljbgopknbcabProg
import Derived.Test.YtojljbgopknbcabKit
import Derived.Test.YtojljbgopknbcabWSer
import Derived.Test.YtojljbgopknbcabWTop
import Derived.ProofKit
import Derived.Deep.Slices
set_option linter.unusedVariables false
set_option linter.unusedSimpArgs false
namespace Go.Proofs.Ytojljbgopknbcab
open Go.RowKit Go.ChangeShapes Go.WideShapes

theorem Try.cells43 : Try.prog.cellsOf 45 = 2 := by kernel_rfl
theorem Try.cells55 : Try.prog.cellsOf 74 = 2 := by kernel_rfl
theorem Try.cells47 : Try.prog.cellsOf 49 = 2 := by kernel_rfl

theorem Try.cells9 : Try.prog.cellsOf 9 = 1 := by kernel_rfl
theorem Try.cells3 : Try.prog.cellsOf 3 = 1 := by kernel_rfl
theorem Try.cells22 : Try.prog.cellsOf 24 = 1 := by kernel_rfl
theorem Try.cells44 : Try.prog.cellsOf 46 = 1 := by kernel_rfl
theorem Try.cells45 : Try.prog.cellsOf 47 = 1 := by kernel_rfl

section
variable {H : Type} {enc : TypeId × Value → H} {w : World} {spare : Nat → Bool} {held : Bool}

theorem cells2 {base : Nat} {a : Addr} {cs : List Value} (h : w.cells? base a 2 = some cs) : ∃ x y, cs = [x, y] ∧ w.cell? (a.add 0) = some x ∧ w.cell? (a.add 1) = some y := by
  obtain ⟨_, hl, hc⟩ := World.cells?_some h
  match cs, hl with
  | [x, y], _ => exact ⟨x, y, rfl, hc 0 (by omega), hc 1 (by omega)⟩

theorem open_label {fuel : Nat} {cs : List Value} {x : DataW H × List MemPlace} (h : DataW.trod enc Try.prog w 0 spare held fuel 45 cs = some x) :
    ∃ y : Lab, cs = [.string (bs y.1), .string (bs y.2)] ∧ y.1.length ≤ maxLen ∧ y.2.length ≤ maxLen := by
  obtain ⟨y0, y1, n, _, hl, h0, h1⟩ := trod_struct2 Try.underlying45 h
  rw [Try.cells43] at hl
  match cs, hl with
  | [a, b], _ =>
    obtain ⟨s0, e0, _, l0⟩ := DataW.trod_string Try.underlying9 h0
    obtain ⟨s1, e1, _, l1⟩ := DataW.trod_string Try.underlying9 h1
    simp [Try.cells9] at e0 e1
    subst e0 e1
    exact ⟨(s0.data.toList, s1.data.toList), by rw [← bs_surj, ← bs_surj], by rw [Array.length_toList]; exact l0, by rw [Array.length_toList]; exact l1⟩

theorem open_sample {fuel : Nat} {cs : List Value} {x : DataW H × List MemPlace} (h : DataW.trod enc Try.prog w 0 spare held fuel 74 cs = some x) :
    ∃ y : Sam, cs = [.int .i64 y.1, .int .u64 y.2] ∧ y.2 < 18446744073709551616 := by
  obtain ⟨y0, y1, n, _, hl, h0, h1⟩ := trod_struct2 Try.underlying74 h
  rw [Try.cells55] at hl
  match cs, hl with
  | [a, b], _ =>
    obtain ⟨t, e0, _, _⟩ := DataW.trod_int Try.underlying3 h0
    obtain ⟨k, e1, _, wk⟩ := DataW.trod_int Try.underlying24 h1
    simp [Try.cells3, Try.cells22] at e0 e1
    subst e0 e1
    have hbd : 0 ≤ k ∧ k ≤ 18446744073709551615 := by simpa [Lit.wf, IntKind.min, IntKind.max, IntKind.signed, IntKind.bits] using wk
    obtain ⟨m, rfl⟩ := Int.eq_ofNat_of_zero_le hbd.1
    exact ⟨(t, m), rfl, by show m < _; omega⟩

/-- From an element for each index to a list of them. -/
theorem list_of {α : Type} {n : Nat} {p : Nat → α → Prop} (h : ∀ i, i < n → ∃ x, p i x) : ∃ l : List α, l.length = n ∧ ∀ i (hi : i < l.length), p i l[i] := by
  induction n with
  | zero => exact ⟨[], rfl, fun i hi => by simp at hi⟩
  | succ n ih =>
    obtain ⟨l, hl, hp⟩ := ih fun i hi => h i (by omega)
    obtain ⟨x, hx⟩ := h n (by omega)
    refine ⟨l ++ [x], by simp [hl], fun i hi => ?_⟩
    by_cases e : i < l.length
    · rw [List.getElem_append_left e]; exact hp i e
    · have : i = n := by simp at hi; omega
      subst this
      rw [List.getElem_append_right (by omega)]
      simpa using hx

theorem add_at {b o s : Nat} {sp : Option Nat} {i j : Nat} {v : Value} (h : w.cell? ((Addr.add ⟨b, o, sp⟩ i).add j) = some v) : w.cell? ⟨b, o + i + j, none⟩ = some v := by
  have e : ((Addr.add ⟨b, o, sp⟩ i).add j) = ⟨b, o + i + j, none⟩ ∨ w.cell? ((Addr.add ⟨b, o, sp⟩ i).add j) = none := by
    unfold Addr.add
    by_cases hi : i = 0 <;> by_cases hj : j = 0
    · subst hi hj
      cases sp with
      | none => exact .inl rfl
      | some k => exact .inr (by simp [World.cell?]; split <;> rfl)
    · subst hi; exact .inl (by simp [hj])
    · subst hj; exact .inl (by simp [hi])
    · exact .inl (by simp [hi, hj])
  rcases e with e | e
  · rw [e] at h; exact h
  · rw [e] at h; cases h

set_option maxRecDepth 20000 in
theorem open_labels {fuel : Nat} {v : Value} {x : DataW H × List MemPlace} (h : DataW.trod enc Try.prog w 0 spare held fuel 46 [v] = some x) :
    ∃ ls, readsLabels w w.heap.size v ls ∧ ls.length ≤ 9223372036854775807 ∧ ∀ y ∈ ls, y.1.length ≤ 9223372036854775807 ∧ y.2.length ≤ 9223372036854775807 := by
  rcases Go.Deep.open_slice Try.underlying46 h with ⟨h1, _⟩ | ⟨a, len, cap, m, n, D, Pl, h1, _, hl, hm, hmm, _, hx⟩
  · simp at h1
    subst h1
    exact ⟨[], ⟨none, 0, rfl, fun i hi => by simp at hi⟩, by simp, by simp⟩
  · simp at h1
    subst h1
    have hle : len ≤ m := by rw [hmm]; split <;> omega
    obtain ⟨ls, hlen, hp⟩ := list_of (n := len) (p := fun i (y : Lab) => y.1.length ≤ maxLen ∧ y.2.length ≤ maxLen ∧ w.cell? ⟨a.block, a.off + i * 2, none⟩ = some (.string (bs y.1)) ∧ w.cell? ⟨a.block, a.off + i * 2 + 1, none⟩ = some (.string (bs y.2))) (fun i hi => by
      obtain ⟨cs', c1, c2⟩ := hx i (by omega)
      rw [Try.cells43] at c1
      obtain ⟨p, q, rfl, e0, e1⟩ := cells2 c1
      obtain ⟨y, hy, l0, l1⟩ := open_label c2
      simp at hy
      obtain ⟨rfl, rfl⟩ := hy
      obtain ⟨ab, ao, asp⟩ := a
      exact ⟨y, l0, l1, add_at (s := 0) e0, add_at (s := 0) e1⟩)
    refine ⟨ls, ⟨some a, cap, by rw [hlen], fun i hi => ?_⟩, by unfold maxLen at hm; omega, fun y hy => ?_⟩
    · have hpi := hp i hi
      obtain ⟨ab, ao, asp⟩ := a
      have hsp : asp = none := by
        obtain ⟨cs', c1, c2⟩ := hx 0 (by omega)
        rw [Try.cells43] at c1
        obtain ⟨p, q, rfl, e0, e1⟩ := cells2 c1
        cases asp with
        | none => rfl
        | some k => simp [Addr.add, World.cell?] at e0; split at e0 <;> simp at e0
      subst hsp
      exact ⟨ab, ao, rfl, World.block_lt_of_cell? _ _ hpi.2.2.1, hpi.2.2.1, hpi.2.2.2⟩
    · obtain ⟨i, hi, rfl⟩ := List.getElem_of_mem hy
      have hpi := hp i hi
      unfold maxLen at hpi
      exact ⟨by omega, by omega⟩

set_option maxRecDepth 20000 in
theorem open_samples {fuel : Nat} {v : Value} {x : DataW H × List MemPlace} (h : DataW.trod enc Try.prog w 0 spare held fuel 47 [v] = some x) :
    ∃ ls, readsSamples w w.heap.size v ls ∧ ls.length ≤ 9223372036854775807 ∧ ∀ y ∈ ls, y.2 < 18446744073709551616 := by
  rcases Go.Deep.open_slice Try.underlying47 h with ⟨h1, _⟩ | ⟨a, len, cap, m, n, D, Pl, h1, _, hl, hm, hmm, _, hx⟩
  · simp at h1
    subst h1
    exact ⟨[], ⟨none, 0, rfl, fun i hi => by simp at hi⟩, by simp, by simp⟩
  · simp at h1
    subst h1
    have hle : len ≤ m := by rw [hmm]; split <;> omega
    obtain ⟨ls, hlen, hp⟩ := list_of (n := len) (p := fun i (y : Sam) => y.2 < 18446744073709551616 ∧ w.cell? ⟨a.block, a.off + i * 2, none⟩ = some (.int .i64 y.1) ∧ w.cell? ⟨a.block, a.off + i * 2 + 1, none⟩ = some (.int .u64 y.2)) (fun i hi => by
      obtain ⟨cs', c1, c2⟩ := hx i (by omega)
      rw [Try.cells55] at c1
      obtain ⟨p, q, rfl, e0, e1⟩ := cells2 c1
      obtain ⟨y, hy, l0⟩ := open_sample c2
      simp at hy
      obtain ⟨rfl, rfl⟩ := hy
      obtain ⟨ab, ao, asp⟩ := a
      exact ⟨y, l0, add_at (s := 0) e0, add_at (s := 0) e1⟩)
    refine ⟨ls, ⟨some a, cap, by rw [hlen], fun i hi => ?_⟩, by unfold maxLen at hm; omega, fun y hy => ?_⟩
    · have hpi := hp i hi
      obtain ⟨ab, ao, asp⟩ := a
      have hsp : asp = none := by
        obtain ⟨cs', c1, c2⟩ := hx 0 (by omega)
        rw [Try.cells55] at c1
        obtain ⟨p, q, rfl, e0, e1⟩ := cells2 c1
        cases asp with
        | none => rfl
        | some k => simp [Addr.add, World.cell?] at e0; split at e0 <;> simp at e0
      subst hsp
      exact ⟨ab, ao, rfl, World.block_lt_of_cell? _ _ hpi.2.1, hpi.2.1, hpi.2.2⟩
    · obtain ⟨i, hi, rfl⟩ := List.getElem_of_mem hy
      exact (hp i hi).1

set_option maxRecDepth 20000 in
theorem open_series {fuel : Nat} {v : Value} {x : DataW H × List MemPlace} (h : DataW.trod enc Try.prog w 0 spare held fuel 26 [v] = some x) :
    ∃ ls, readsSeries w w.heap.size v ls ∧ lensFit ls ∧ ∀ y ∈ ls, bitsFit y := by
  rcases Go.Deep.open_slice Try.underlying26 h with ⟨h1, _⟩ | ⟨a, len, cap, m, n, D, Pl, h1, _, hl, hm, hmm, _, hx⟩
  · simp at h1
    subst h1
    exact ⟨[], ⟨none, 0, rfl, fun i hi => by simp at hi⟩, ⟨by simp, by simp⟩, by simp⟩
  · simp at h1
    subst h1
    have hle : len ≤ m := by rw [hmm]; split <;> omega
    obtain ⟨ls, hlen, hp⟩ := list_of (n := len) (p := fun i (y : Ser) => (∃ p q, w.cell? ⟨a.block, a.off + i * 2, none⟩ = some p ∧ w.cell? ⟨a.block, a.off + i * 2 + 1, none⟩ = some q ∧ readsLabels w w.heap.size p y.1 ∧ readsSamples w w.heap.size q y.2) ∧
        (y.1.length ≤ 9223372036854775807 ∧ y.2.length ≤ 9223372036854775807 ∧ ∀ z ∈ y.1, z.1.length ≤ 9223372036854775807 ∧ z.2.length ≤ 9223372036854775807) ∧ bitsFit y) (fun i hi => by
      obtain ⟨cs', c1, c2⟩ := hx i (by omega)
      rw [Try.cells47] at c1
      obtain ⟨p, q, rfl, e0, e1⟩ := cells2 c1
      obtain ⟨y0, y1, n, _, hl, h0, h1⟩ := trod_struct2 Try.underlying49 c2
      simp [Try.cells44, Try.cells45] at h0 h1
      obtain ⟨la, ra, la1, la2⟩ := open_labels h0
      obtain ⟨sa, rs, sa1, sa2⟩ := open_samples h1
      obtain ⟨ab, ao, asp⟩ := a
      exact ⟨(la, sa), ⟨p, q, add_at (s := 0) e0, add_at (s := 0) e1, ra, rs⟩, ⟨la1, sa1, la2⟩, sa2⟩)
    refine ⟨ls, ⟨some a, cap, by rw [hlen], fun i hi => ?_⟩, ⟨by unfold maxLen at hm; omega, fun y hy => ?_⟩, fun y hy => ?_⟩
    · obtain ⟨⟨p, q, r1, r2, r3, r4⟩, _⟩ := hp i hi
      obtain ⟨ab, ao, asp⟩ := a
      have hsp : asp = none := by
        obtain ⟨cs', c1, c2⟩ := hx 0 (by omega)
        rw [Try.cells47] at c1
        obtain ⟨p, q, rfl, e0, e1⟩ := cells2 c1
        cases asp with
        | none => rfl
        | some k => simp [Addr.add, World.cell?] at e0; split at e0 <;> simp at e0
      subst hsp
      exact ⟨ab, ao, p, q, rfl, World.block_lt_of_cell? _ _ r1, r1, r2, r3, r4⟩
    · obtain ⟨i, hi, rfl⟩ := List.getElem_of_mem hy
      exact (hp i hi).2.1
    · obtain ⟨i, hi, rfl⟩ := List.getElem_of_mem hy
      exact (hp i hi).2.2

end
end Go.Proofs.Ytojljbgopknbcab
