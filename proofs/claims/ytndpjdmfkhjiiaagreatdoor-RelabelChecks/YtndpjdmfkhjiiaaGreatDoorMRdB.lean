/- The document's own reader of masks: sets of bytes as rows of 256; pieces that are handed back. -/
import Derived.Laws.OwnMore
import Derived.Test.YtndpjdmfkhjiiaaGreatDoorProg
import Derived.Test.YtndpjdmfkhjiiaaGreatDoorKit
import Derived.Test.YtndpjdmfkhjiiaaGreatDoorMPar
import Derived.Test.YtndpjdmfkhjiiaaGreatDoorMLay
import Derived.Test.YtndpjdmfkhjiiaaGreatDoorMWlk
import Derived.Test.YtndpjdmfkhjiiaaGreatDoorMFrom
import Derived.Test.YtndpjdmfkhjiiaaGreatDoorMPrA
import Derived.Test.YtndpjdmfkhjiiaaGreatDoorMPrB
import Derived.Test.YtndpjdmfkhjiiaaGreatDoorMNew
import Derived.Test.YtndpjdmfkhjiiaaGreatDoorMRdA
import Derived.BigQuiet
set_option linter.unusedVariables false
set_option linter.unusedSimpArgs false
namespace Go.Proofs.YtndpjdmfkhjiiaaGreatDoor
open Go.RowKit
attribute [local go_sem] bs_size bs_toList bs_append bs_get bs_extract

/-- A set as a row of 256. -/
def boolRow (s : UInt8 → Bool) : List Bool := (List.range 256).map fun k => s (UInt8.ofNat k)
theorem boolRow_length (s) : (boolRow s).length = 256 := by simp [boolRow]
theorem boolRow_get (s : UInt8 → Bool) {k : Nat} (h : k < 256) : (boolRow s)[k]? = some (s (UInt8.ofNat k)) := by simp [boolRow, h]
theorem boolRow_at (s : UInt8 → Bool) (c : UInt8) : (boolRow s)[c.toNat]? = some (s c) := by rw [boolRow_get s c.toNat_lt, UInt8.ofNat_toNat]
theorem boolRow_none : List.replicate 256 false = boolRow (fun _ => false) := by
  show _ = (List.range 256).map (Function.const _ false)
  rw [List.map_const, List.length_range]
theorem boolRow_set (s : UInt8 → Bool) (k : Nat) (h : k < 256) (b : Bool) : (boolRow s).set k b = boolRow (fun c => if c.toNat = k then b else s c) := by
  apply List.ext_getElem?
  intro j
  by_cases hj : j < 256
  · rw [boolRow_get _ hj]
    by_cases e : j = k
    · subst e
      rw [List.getElem?_set_self (by rw [boolRow_length]; exact hj)]
      simp [Nat.mod_eq_of_lt hj]
    · rw [List.getElem?_set_ne (fun h => e h.symm), boolRow_get _ hj]
      simp [Nat.mod_eq_of_lt hj, e]
  · rw [List.getElem?_eq_none_iff.2 (by rw [List.length_set, boolRow_length]; omega), List.getElem?_eq_none_iff.2 (by rw [boolRow_length]; omega)]
def boolsAt (w : World) (b : Nat) (l : List Bool) : Prop := w.heap[b]? = some (.cells (l.map Value.bool).toArray 4 (0, 0))
theorem boolsAt.cell {w : World} {b k : Nat} {l : List Bool} (h : boolsAt w b l) {x} (hk : l[k]? = some x) : w.cell? ⟨b, k, none⟩ = some (.bool x) := cell_in h (by simp [hk])
theorem boolsAt.set {w : World} {b : Nat} {l : List Bool} (h : boolsAt w b l) (k : Nat) (x : Bool) : boolsAt (w.setCell ⟨b, k, none⟩ (.bool x)) b (l.set k x) := by
  have := set_blk h (i := k) (.bool x)
  unfold boolsAt
  rw [this]
  congr 1
  simp [List.map_set]
theorem boolsAt.keep {w w' : World} {b : Nat} {l : List Bool} (h : boolsAt w b l) (k : w'.heap[b]? = w.heap[b]?) : boolsAt w' b l := k.trans h
/-- A set that stays. -/
def setAt (w : World) (v : Value) (s : UInt8 → Bool) : Prop := ∃ b, v = .slice (some ⟨b, 0, none⟩) 256 256 ∧ boolsAt w b (boolRow s)
theorem setAt.grow {w w' : World} {v : Value} {s : UInt8 → Bool} (h : setAt w v s) (g : Grow w w') : setAt w' v s := by
  obtain ⟨b, h1, h2⟩ := h
  exact ⟨b, h1, g.get h2⟩

theorem only_one (c : UInt8) : (fun x : UInt8 => if x.toNat = c.toNat then true else false) = between c c := by
  funext x
  unfold between
  by_cases h : x.toNat = c.toNat
  · simp [h]
  · rw [if_neg h]
    have : ¬ (c.toNat ≤ x.toNat ∧ x.toNat ≤ c.toNat) := by omega
    by_cases h1 : c.toNat ≤ x.toNat
    · have h2 : ¬ x.toNat ≤ c.toNat := by omega
      simp [h1, h2]
    · simp [h1]

set_option maxRecDepth 20000 in
theorem alone_any (c : UInt8) (w : World) : Calls Tryz.prog 124 #[.int .u8 (c.toNat : Int)] w fun e w' => e = .returned (.slice (some ⟨w.heap.size, 0, none⟩) 256 256) ∧ Grow w w' ∧ boolsAt w' w.heap.size (boolRow (between c c)) := by
  have hmk0 := make_bools 256 (by decide) w
  have hc := c.toNat_lt
  obtain ⟨A, HA⟩ : ∃ A, Hid (A = w.alloc (.cells (Array.replicate 256 (Value.bool false)) 4)) := ⟨_, hide rfl⟩
  have hA : boolsAt A w.heap.size (boolRow (fun _ => false)) := by
    rw [HA.out, ← boolRow_none]
    unfold boolsAt
    rw [heap_alloc_new, List.map_replicate, List.toArray_replicate]
  have gA : Grow w A := by rw [HA.out]; exact (Grow.refl _).alloc _
  have hcell := hA.cell (boolRow_at _ c)
  have fz := not_frozen (k := c.toNat) hA
  rw [← HA.out] at hmk0
  have hmk : (Instr.makeSlice 120 (.int .i64 256) (.int .i64 256)).run Tryz.prog w = .ok (.slice (some ⟨w.heap.size, 0, none⟩) 256 256) A := hmk0
  have HA1 := hide hA
  have GA := hide gA
  clear hA gA HA hmk0
  go_enter Tryz.func124, Tryz.ntmps124
  go_wp2
  go_ret
  refine ⟨rfl, GA.out.setCell (Nat.le_refl _) _, ?_⟩
  have := HA1.out.set c.toNat true
  rw [boolRow_set _ _ hc, only_one] at this
  exact this

/-- A piece in a block, and what it is when it is handed back. -/
theorem Tryz.infoPiece : (Tryz.prog.info? 155).map (·.size) = some 5 := by kernel_rfl
theorem set_five {w : World} {b : Nat} {y0 y1 y2 y3 y4 : Value} {t : TypeId} (h : w.heap[b]? = some (.cells #[y0, y1, y2, y3, y4] t (0, 0))) (x0 x1 x2 x3 x4 : Value) :
    (((((w.setCell ⟨b, 0, none⟩ x0).setCell ⟨b, 1, none⟩ x1).setCell ⟨b, 2, none⟩ x2).setCell ⟨b, 3, none⟩ x3).setCell ⟨b, 4, none⟩ x4).heap[b]? = some (.cells #[x0, x1, x2, x3, x4] t (0, 0)) := by
  rw [set_blk (set_blk (set_blk (set_blk (set_blk h _) _) _) _)]
  simp
theorem grow_five {w v : World} {b : Nat} (g : Below w.heap.size w v) (hb : w.heap.size ≤ b) (x0 x1 x2 x3 x4 : Value) :
    Below w.heap.size w (((((v.setCell ⟨b, 0, none⟩ x0).setCell ⟨b, 1, none⟩ x1).setCell ⟨b, 2, none⟩ x2).setCell ⟨b, 3, none⟩ x3).setCell ⟨b, 4, none⟩ x4) :=
  ((((g.setCell hb _).setCell hb _).setCell hb _).setCell hb _).setCell hb _

end Go.Proofs.YtndpjdmfkhjiiaaGreatDoor
