/- Lists of texts among the arguments: what their cells hold; what is bounded in all. -/
import Derived.Test.YtjjjncainakbiaaRows
import Derived.Test.YtjjjncainakbiaaProg
import Derived.Test.YtjjjncainakbiaaKit
import Derived.Test.YtjjjncainakbiaaTrod
import Derived.Test.YtjjjncainakbiaaLgO
import Derived.ProofKit
import Derived.Deep.Slices
set_option linter.unusedVariables false
set_option linter.unusedSimpArgs false
namespace Go.Proofs.Ytjjjncainakbiaa.Lg
open Go.RowKit Go.ChangeShapes Go.WideShapes

/-- Texts that can be read, in a row that has room for them. -/
def readsC (w : World) (B : Nat) (v : Value) (ls : List (List UInt8)) : Prop := readsStrs w B v ls ∧ ∃ ao cp, v = .slice ao ls.length cp ∧ ls.length ≤ cp
theorem reads_take {w : World} {B n cp : Nat} {ao : Option Addr} {L : List (List UInt8)} (h : readsStrs w B (.slice ao n cp) L) (k : Nat) (hk : k ≤ L.length) : readsStrs w B (.slice ao k cp) (L.take k) := by
  obtain ⟨ao', cp', hv, hc⟩ := h
  simp at hv
  obtain ⟨rfl, rfl, rfl⟩ := hv
  refine ⟨ao, cp, by rw [List.length_take, Nat.min_eq_left hk], fun i hi => ?_⟩
  rw [List.length_take] at hi
  obtain ⟨b, o, h1, h2, h3⟩ := hc i (by omega)
  exact ⟨b, o, h1, h2, by rw [h3, List.getElem_take]⟩
theorem Try.ocells9 : Try.prog.cellsOf 9 = 1 := by kernel_rfl
theorem bulk_text {H : Type} (l : List UInt8) : Rows.uptoBulk (DataW.lit (H := H) (.string l)) = l.length + 1 := by unfold Rows.uptoBulk; rfl
theorem bulk_pos {H : Type} : ∀ d : DataW H, 0 < Rows.uptoBulk d
  | .lit l => by cases l <;> simp [Rows.uptoBulk]
  | .nil => by simp [Rows.uptoBulk]
  | .ptr d => by simp [Rows.uptoBulk]
  | .slice e s => by simp [Rows.uptoBulk]
  | .agg p => by simp [Rows.uptoBulk]
  | .iface t d => by simp [Rows.uptoBulk]
  | .map e => by simp [Rows.uptoBulk]
  | .held h => by simp [Rows.uptoBulk]
theorem bulk_all {H : Type} : ∀ l : List (DataW H), l.length ≤ Rows.uptoBulkAll l ∧ ∀ d ∈ l, Rows.uptoBulk d ≤ Rows.uptoBulkAll l
  | [] => ⟨Nat.zero_le _, fun d h => by simp at h⟩
  | x :: r => by
    obtain ⟨h1, h2⟩ := bulk_all r
    have hx := bulk_pos x
    have e : Rows.uptoBulkAll (x :: r) = Rows.uptoBulk x + Rows.uptoBulkAll r := by rw [Rows.uptoBulkAll]
    refine ⟨by rw [e, List.length_cons]; omega, fun d hd => ?_⟩
    rcases List.mem_cons.1 hd with rfl | hd
    · omega
    · have := h2 d hd; omega
theorem bulk_slice {H : Type} (e s : List (DataW H)) : Rows.uptoBulk (.slice e s) = Rows.uptoBulkAll e + Rows.uptoBulkAll s + 1 := by rw [Rows.uptoBulk]
/-- The bound, as it is handed over. -/
theorem bulk_bound {H : Type} {l : List (DataW H)} (h : Rows.uptoSmall H l = true) : Rows.uptoBulkAll l ≤ 1048576 := of_decide_eq_true h

/-- From an element for each index to a list of them. -/
theorem olist_of {α : Type} {n : Nat} {p : Nat → α → Prop} (h : ∀ i, i < n → ∃ x, p i x) : ∃ l : List α, l.length = n ∧ ∀ i (hi : i < l.length), p i l[i] := by
  induction n with
  | zero => exact ⟨[], rfl, fun i hi => by simp at hi⟩
  | succ n ih =>
    obtain ⟨l, hl, hp⟩ := ih fun i hi => h i (by omega)
    obtain ⟨x, hx⟩ := h n (by omega)
    refine ⟨l ++ [x], by simp [hl], fun i hi => ?_⟩
    by_cases e : i < l.length
    · rw [List.getElem_append_left e]; exact hp i e
    · have : i = n := by simp at hi; omega
      subst this
      rw [List.getElem_append_right (by omega)]
      simpa using hx
theorem oadd_at {b o : Nat} {sp : Option Nat} {w : World} {i : Nat} {v : Value} (h : w.cell? ((Addr.add ⟨b, o, sp⟩ i).add 0) = some v) : w.cell? ⟨b, o + i, none⟩ = some v ∧ (i = 0 → sp = none) := by
  unfold Addr.add at h
  by_cases hi : i = 0
  · subst hi
    cases sp with
    | none => simpa using h
    | some k => exfalso; simp [World.cell?] at h; split at h <;> simp at h
  · simp [hi] at h
    exact ⟨by simpa using h, fun e => absurd e hi⟩

section
variable {H : Type} {enc : TypeId × Value → H} {w : World} {spare : Nat → Bool} {held : Bool}
theorem ocells1 {base : Nat} {a : Addr} {cs : List Value} (h : w.cells? base a 1 = some cs) : ∃ x, cs = [x] ∧ w.cell? (a.add 0) = some x := by
  obtain ⟨_, hl, hc⟩ := World.cells?_some h
  match cs, hl with
  | [x], _ => exact ⟨x, rfl, hc 0 (by omega)⟩

set_option maxRecDepth 20000 in
theorem open_texts {fuel : Nat} {v : Value} {x : DataW H × List MemPlace} (h : DataW.trod enc Try.prog w 0 spare held fuel 32 [v] = some x) :
    ∃ ls, readsC w w.heap.size v ls ∧ ls.length ≤ 9223372036854775807 ∧ ∀ y ∈ ls, y.length ≤ 9223372036854775807 := by
  rcases Go.Deep.open_slice Try.underlying32 h with ⟨h1, _⟩ | ⟨a, len, cap, m, n, D, Pl, h1, _, hl, hm, hmm, _, hx⟩
  · simp at h1
    subst h1
    exact ⟨[], ⟨⟨none, 0, rfl, fun i hi => by simp at hi⟩, none, 0, rfl, by simp⟩, by simp, by simp⟩
  · simp at h1
    subst h1
    have hle : len ≤ m := by rw [hmm]; split <;> omega
    obtain ⟨ls, hlen, hp⟩ := olist_of (n := len) (p := fun i (y : List UInt8) => y.length ≤ maxLen ∧ w.cell? ⟨a.block, a.off + i, none⟩ = some (.string (bs y)) ∧ (i = 0 → a = ⟨a.block, a.off, none⟩)) (fun i hi => by
      obtain ⟨cs', c1, c2⟩ := hx i (by omega)
      rw [Try.ocells9] at c1
      obtain ⟨p, rfl, e0⟩ := ocells1 c1
      obtain ⟨s0, h0, _, l0⟩ := DataW.trod_string Try.underlying9 c2
      simp at h0
      subst h0
      obtain ⟨ab, ao, asp⟩ := a
      rw [Nat.mul_one] at e0
      obtain ⟨e1, e2⟩ := oadd_at e0
      exact ⟨s0.data.toList, by rw [Array.length_toList]; exact l0, by rw [← bs_surj]; exact e1, fun h => by rw [e2 h]⟩)
    refine ⟨ls, ⟨⟨some a, cap, by rw [hlen], fun i hi => ?_⟩, some a, cap, by rw [hlen], by rw [hlen]; exact hl⟩, by unfold maxLen at hm; omega, fun y hy => ?_⟩
    · obtain ⟨_, h1, _⟩ := hp i hi
      obtain ⟨_, _, h2⟩ := hp 0 (by omega)
      obtain ⟨ab, ao, asp⟩ := a
      have h3 := h2 rfl
      simp at h3
      subst h3
      exact ⟨ab, ao, rfl, World.block_lt_of_cell? _ _ h1, h1⟩
    · obtain ⟨i, hi, rfl⟩ := List.getElem_of_mem hy
      have := (hp i hi).1
      unfold maxLen at this
      omega
end
end Go.Proofs.Ytjjjncainakbiaa.Lg
