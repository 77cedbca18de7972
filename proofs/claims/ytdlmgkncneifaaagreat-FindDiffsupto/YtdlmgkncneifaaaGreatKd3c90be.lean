/- 1 texts in one. -/
import Derived.Test.YtdlmgkncneifaaaGreatRows
import Derived.Test.YtdlmgkncneifaaaGreatProg
import Derived.Test.YtdlmgkncneifaaaGreatK77c7527
import Derived.Test.YtdlmgkncneifaaaGreatKca6d611
import Derived.Test.YtdlmgkncneifaaaGreatK371e7a9
import Derived.ProofKit
import Derived.Deep.Slices
set_option linter.unusedVariables false
set_option linter.unusedSimpArgs false
namespace Go.Proofs.YtdlmgkncneifaaaGreat.Fd
open Go.RowKit Go.ChangeShapes Go.WideShapes
theorem bulk_pos {H : Type} : ∀ d : DataW H, 0 < Rows.uptoBulk d
  | .lit l => by cases l <;> simp [Rows.uptoBulk]
  | .nil => by simp [Rows.uptoBulk]
  | .ptr d => by simp [Rows.uptoBulk]
  | .slice e s => by simp [Rows.uptoBulk]
  | .agg p => by simp [Rows.uptoBulk]
  | .iface t d => by simp [Rows.uptoBulk]
  | .map e => by simp [Rows.uptoBulk]
  | .held h => by simp [Rows.uptoBulk]
theorem bulk_all {H : Type} : ∀ l : List (DataW H), l.length ≤ Rows.uptoBulkAll l ∧ ∀ d ∈ l, Rows.uptoBulk d ≤ Rows.uptoBulkAll l
  | [] => ⟨Nat.zero_le _, fun d h => by simp at h⟩
  | x :: r => by
    obtain ⟨h1, h2⟩ := bulk_all r
    have hx := bulk_pos x
    have e : Rows.uptoBulkAll (x :: r) = Rows.uptoBulk x + Rows.uptoBulkAll r := by rw [Rows.uptoBulkAll]
    refine ⟨by rw [e, List.length_cons]; omega, fun d hd => ?_⟩
    rcases List.mem_cons.1 hd with rfl | hd
    · omega
    · have := h2 d hd; omega
theorem bulk_slice {H : Type} (e s : List (DataW H)) : Rows.uptoBulk (.slice e s) = Rows.uptoBulkAll e + Rows.uptoBulkAll s + 1 := by rw [Rows.uptoBulk]
/-- The bound, as it is handed over. -/
theorem bulk_bound {H : Type} {l : List (DataW H)} (h : Rows.uptoSmall H l = true) : Rows.uptoBulkAll l ≤ 1048576 := of_decide_eq_true h
section
variable {H : Type} {enc : TypeId × Value → H} {w : World} {spare : Nat → Bool} {held : Bool}
set_option maxRecDepth 20000 in
theorem open_tgtsU {fuel : Nat} {v : Value} {x : DataW H × List MemPlace} (h : DataW.trod enc Tryz.prog w 0 spare held fuel 22 [v] = some x) :
    ∃ is : List Tgt, readsTgts w w.heap.size v is ∧ is.length ≤ Rows.uptoBulk x.1 ∧ okTgts is ∧ (v = .slice none 0 0 ∨ ∃ ad cp, v = .slice (some ad) is.length cp) := by
  obtain ⟨is, h1, h3⟩ := open_tgts h
  have h0 := h1
  obtain ⟨ao, cp, e, _⟩ := h1
  rcases Go.Deep.open_slice Tryz.underlying22 h with ⟨h4, _⟩ | ⟨a, len, cap, m, n, D, Pl, h4, _, hl, hm, hmm, rfl, hx⟩
  · simp at h4
    rw [h4] at e
    simp only [Value.slice.injEq] at e
    exact ⟨is, h0, by omega, h3, .inl h4⟩
  · simp at h4
    rw [h4] at e
    simp only [Value.slice.injEq] at e
    obtain ⟨-, e2, -⟩ := e
    have hb := bulk_slice ((List.range len).map D) ((List.range (m - len)).map fun j => D (len + j))
    obtain ⟨hb1, _⟩ := bulk_all ((List.range len).map D)
    rw [List.length_map, List.length_range] at hb1
    refine ⟨is, h0, ?_, h3, .inr ⟨a, cap, ?_⟩⟩
    · show _ ≤ Rows.uptoBulk (DataW.slice _ _)
      omega
    · rw [h4, e2]
end
end Go.Proofs.YtdlmgkncneifaaaGreat.Fd
