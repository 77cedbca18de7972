/- What is bounded in all: texts and lists among it. textIs. -/
import Derived.Test.YtndpjdmfkhjiiaaGreatDoorRows
import Derived.Test.YtndpjdmfkhjiiaaGreatDoorProg
import Derived.Test.YtndpjdmfkhjiiaaGreatDoorQ74d152
import Derived.Test.YtndpjdmfkhjiiaaGreatDoorTrod
import Derived.Test.YtndpjdmfkhjiiaaGreatDoorQ898ed8
import Derived.Test.YtndpjdmfkhjiiaaGreatDoorOpnV
import Derived.ProofKit
import Derived.Deep.Slices
set_option linter.unusedVariables false
set_option linter.unusedSimpArgs false
namespace Go.Proofs.YtndpjdmfkhjiiaaGreatDoor
open Go.RowKit Go.ChangeShapes Go.WideShapes
attribute [local go_sem] bs_size bs_toList bs_append bs_get bs_extract

theorem bulk_text {H : Type} (l : List UInt8) : Rows.uptoBulk (DataW.lit (H := H) (.string l)) = l.length + 1 := by unfold Rows.uptoBulk; rfl
theorem bulk_pos {H : Type} : ∀ d : DataW H, 0 < Rows.uptoBulk d
  | .lit l => by cases l <;> simp [Rows.uptoBulk]
  | .nil => by simp [Rows.uptoBulk]
  | .ptr d => by simp [Rows.uptoBulk]
  | .slice e s => by simp [Rows.uptoBulk]
  | .agg p => by simp [Rows.uptoBulk]
  | .iface t d => by simp [Rows.uptoBulk]
  | .map e => by simp [Rows.uptoBulk]
  | .held h => by simp [Rows.uptoBulk]
theorem bulk_all {H : Type} : ∀ l : List (DataW H), l.length ≤ Rows.uptoBulkAll l ∧ ∀ d ∈ l, Rows.uptoBulk d ≤ Rows.uptoBulkAll l
  | [] => ⟨Nat.zero_le _, fun d h => by simp at h⟩
  | x :: r => by
    obtain ⟨h1, h2⟩ := bulk_all r
    have hx := bulk_pos x
    have e : Rows.uptoBulkAll (x :: r) = Rows.uptoBulk x + Rows.uptoBulkAll r := by rw [Rows.uptoBulkAll]
    refine ⟨by rw [e, List.length_cons]; omega, fun d hd => ?_⟩
    rcases List.mem_cons.1 hd with rfl | hd
    · omega
    · have := h2 d hd; omega
theorem bulk_slice {H : Type} (e s : List (DataW H)) : Rows.uptoBulk (.slice e s) = Rows.uptoBulkAll e + Rows.uptoBulkAll s + 1 := by rw [Rows.uptoBulk]
/-- The bound, as it is handed over. -/
theorem bulk_bound {H : Type} {l : List (DataW H)} (h : Rows.uptoSmall H l = true) : Rows.uptoBulkAll l ≤ 1048576 := of_decide_eq_true h

section
variable {H : Type} {enc : TypeId × Value → H} {w : World} {spare : Nat → Bool} {held : Bool}
set_option maxRecDepth 20000 in
theorem open_textsU {fuel : Nat} {v : Value} {x : DataW H × List MemPlace} (h : DataW.trod enc Tryz.prog w 0 spare held fuel 22 [v] = some x) :
    ∃ ls, readsStrs w w.heap.size v ls ∧ ls.length ≤ Rows.uptoBulk x.1 ∧ ∀ y ∈ ls, y.length ≤ Rows.uptoBulk x.1 := by
  rcases Go.Deep.open_slice Tryz.underlying22 h with ⟨h1, _⟩ | ⟨a, len, cap, m, n, D, Pl, h1, _, hl, hm, hmm, rfl, hx⟩
  · simp at h1
    subst h1
    exact ⟨[], ⟨none, 0, rfl, fun i hi => by simp at hi⟩, by simp, by simp⟩
  · simp at h1
    subst h1
    have hle : len ≤ m := by rw [hmm]; split <;> omega
    obtain ⟨ls, hlen, hp⟩ := olist_of (n := len) (p := fun i (y : List UInt8) => D i = .lit (.string y) ∧ w.cell? ⟨a.block, a.off + i, none⟩ = some (.string (bs y)) ∧ (i = 0 → a = ⟨a.block, a.off, none⟩)) (fun i hi => by
      obtain ⟨cs', c1, c2⟩ := hx i (by omega)
      rw [Tryz.ocells9] at c1
      obtain ⟨p, rfl, e0⟩ := ocells1 c1
      obtain ⟨s0, h0, hd, l0⟩ := DataW.trod_string Tryz.underlying9 c2
      simp at h0
      subst h0
      obtain ⟨ab, ao, asp⟩ := a
      rw [Nat.mul_one] at e0
      obtain ⟨e1, e2⟩ := oadd_at e0
      exact ⟨s0.data.toList, congrArg Prod.fst hd, by rw [← bs_surj]; exact e1, fun h => by rw [e2 h]⟩)
    have hb := bulk_slice ((List.range len).map D) ((List.range (m - len)).map fun j => D (len + j))
    obtain ⟨hb1, hb2⟩ := bulk_all ((List.range len).map D)
    rw [List.length_map, List.length_range] at hb1
    refine ⟨ls, ⟨some a, cap, by rw [hlen], fun i hi => ?_⟩, ?_, fun y hy => ?_⟩
    · obtain ⟨_, h1, _⟩ := hp i hi
      obtain ⟨_, _, h2⟩ := hp 0 (by omega)
      obtain ⟨ab, ao, asp⟩ := a
      have h3 := h2 rfl
      simp at h3
      subst h3
      exact ⟨ab, ao, rfl, World.block_lt_of_cell? _ _ h1, h1⟩
    · rw [hlen]
      show _ ≤ Rows.uptoBulk (DataW.slice _ _)
      omega
    · obtain ⟨i, hi, rfl⟩ := List.getElem_of_mem hy
      have h1 := (hp i hi).1
      have h2 := hb2 (D i) (List.mem_map.2 ⟨i, by simp; omega, rfl⟩)
      rw [h1, bulk_text] at h2
      show _ ≤ Rows.uptoBulk (DataW.slice _ _)
      omega
end

end Go.Proofs.YtndpjdmfkhjiiaaGreatDoor
