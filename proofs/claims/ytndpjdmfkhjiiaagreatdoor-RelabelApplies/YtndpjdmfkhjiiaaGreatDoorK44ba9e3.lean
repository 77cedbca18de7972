/- 1 texts in one. -/
import Derived.Test.YtndpjdmfkhjiiaaGreatDoorProg
import Derived.Test.YtndpjdmfkhjiiaaGreatDoorK06d19db
import Derived.Test.YtndpjdmfkhjiiaaGreatDoorK8c12182
import Derived.Test.YtndpjdmfkhjiiaaGreatDoorKd196569
import Derived.Test.YtndpjdmfkhjiiaaGreatDoorK17be7e8
import Derived.ProofKit
import Derived.Deep.Slices
set_option linter.unusedVariables false
set_option linter.unusedSimpArgs false
namespace Go.Proofs.YtndpjdmfkhjiiaaGreatDoor
open Go.RowKit Go.ChangeShapes Go.WideShapes
theorem Tryz.ocells9 : Tryz.prog.cellsOf 9 = 1 := by kernel_rfl
/-- Numbers that can be read. -/
def readsInts (w : World) (B : Nat) (v : Value) (ns : List Int) : Prop :=
 ∃ ao cp, v = .slice ao ns.length cp ∧ ∀ i (h : i < ns.length), ∃ b o, ao = some ⟨b, o, none⟩ ∧ b < B ∧ w.cell? ⟨b, o + i, none⟩ = some (.int .i64 ns[i])
theorem readsInts.keep {w w' : World} {B : Nat} {v : Value} {ns : List Int} (h : readsInts w B v ns) (g : Below B w w') : readsInts w' B v ns := by
 obtain ⟨ao, cp, hv, h⟩ := h
 refine ⟨ao, cp, hv, fun i hi => ?_⟩
 obtain ⟨b, o, h1, h2, h3⟩ := h i hi
 exact ⟨b, o, h1, h2, (cell_keep (g.block b h2)).trans h3⟩
theorem readsInts.more {w : World} {B B' : Nat} {v : Value} {ns : List Int} (h : readsInts w B v ns) (hB : B ≤ B') : readsInts w B' v ns := by
 obtain ⟨ao, cp, hv, h⟩ := h
 refine ⟨ao, cp, hv, fun i hi => ?_⟩
 obtain ⟨b, o, h1, h2, h3⟩ := h i hi
 exact ⟨b, o, h1, by omega, h3⟩
/-- From an element for each index to a list of them. -/
theorem olist_of {α : Type} {n : Nat} {p : Nat → α → Prop} (h : ∀ i, i < n → ∃ x, p i x) : ∃ l : List α, l.length = n ∧ ∀ i (hi : i < l.length), p i l[i] := by
 induction n with
 | zero => exact ⟨[], rfl, fun i hi => by simp at hi⟩
 | succ n ih =>
  obtain ⟨l, hl, hp⟩ := ih fun i hi => h i (by omega)
  obtain ⟨x, hx⟩ := h n (by omega)
  refine ⟨l ++ [x], by simp [hl], fun i hi => ?_⟩
  by_cases e : i < l.length
  ·
   rw [List.getElem_append_left e]; exact hp i e
  ·
   have : i = n := by simp at hi; omega
   subst this
   rw [List.getElem_append_right (by omega)]
   simpa using hx
theorem oadd_at {b o : Nat} {sp : Option Nat} {w : World} {i : Nat} {v : Value} (h : w.cell? ((Addr.add ⟨b, o, sp⟩ i).add 0) = some v) : w.cell? ⟨b, o + i, none⟩ = some v ∧ (i = 0 → sp = none) := by
 unfold Addr.add at h
 by_cases hi : i = 0
 ·
  subst hi
  cases sp with
  | none => simpa using h
  | some k => exfalso; simp [World.cell?] at h; split at h <;> simp at h
 ·
  simp [hi] at h
  exact ⟨by simpa using h, fun e => absurd e hi⟩
section
variable {H : Type} {enc : TypeId × Value → H} {w : World} {spare : Nat → Bool} {held : Bool}
theorem ocells1 {base : Nat} {a : Addr} {cs : List Value} (h : w.cells? base a 1 = some cs) : ∃ x, cs = [x] ∧ w.cell? (a.add 0) = some x := by
 obtain ⟨_, hl, hc⟩ := World.cells?_some h
 match cs, hl with
 | [x], _ => exact ⟨x, rfl, hc 0 (by omega)⟩
set_option maxRecDepth 20000 in
theorem open_texts {fuel : Nat} {v : Value} {x : DataW H × List MemPlace} (h : DataW.trod enc Tryz.prog w 0 spare held fuel 22 [v] = some x) :
  ∃ ls, readsStrs w w.heap.size v ls ∧ ls.length ≤ 9223372036854775807 ∧ ∀ y ∈ ls, y.length ≤ 9223372036854775807 := by
 rcases Go.Deep.open_slice Tryz.underlying22 h with ⟨h1, _⟩ | ⟨a, len, cap, m, n, D, Pl, h1, _, hl, hm, hmm, _, hx⟩
 ·
  simp at h1
  subst h1
  exact ⟨[], ⟨none, 0, rfl, fun i hi => by simp at hi⟩, by simp, by simp⟩
 ·
  simp at h1
  subst h1
  have hle : len ≤ m := by rw [hmm]; split <;> omega
  obtain ⟨ls, hlen, hp⟩ := olist_of (n := len) (p := fun i (y : List UInt8) => y.length ≤ maxLen ∧ w.cell? ⟨a.block, a.off + i, none⟩ = some (.string (bs y)) ∧ (i = 0 → a = ⟨a.block, a.off, none⟩)) (fun i hi => by
   obtain ⟨cs', c1, c2⟩ := hx i (by omega)
   rw [Tryz.ocells9] at c1
   obtain ⟨p, rfl, e0⟩ := ocells1 c1
   obtain ⟨s0, h0, _, l0⟩ := DataW.trod_string Tryz.underlying9 c2
   simp at h0
   subst h0
   obtain ⟨ab, ao, asp⟩ := a
   rw [Nat.mul_one] at e0
   obtain ⟨e1, e2⟩ := oadd_at e0
   exact ⟨s0.data.toList, by rw [Array.length_toList]; exact l0, by rw [← bs_surj]; exact e1, fun h => by rw [e2 h]⟩)
  refine ⟨ls, ⟨some a, cap, by rw [hlen], fun i hi => ?_⟩, by unfold maxLen at hm; omega, fun y hy => ?_⟩
  ·
   obtain ⟨_, h1, _⟩ := hp i hi
   obtain ⟨_, _, h2⟩ := hp 0 (by omega)
   obtain ⟨ab, ao, asp⟩ := a
   have h3 := h2 rfl
   simp at h3
   subst h3
   exact ⟨ab, ao, rfl, World.block_lt_of_cell? _ _ h1, h1⟩
  ·
   obtain ⟨i, hi, rfl⟩ := List.getElem_of_mem hy
   have := (hp i hi).1
   unfold maxLen at this
   omega
end
end Go.Proofs.YtndpjdmfkhjiiaaGreatDoor
