/- 2 texts in one. -/
import Derived.Laws.OwnMore
import Derived.Test.YtndpjdmfkhjiiaaGreatDoorProg
import Derived.Test.YtndpjdmfkhjiiaaGreatDoorK97fdc06
import Derived.Test.YtndpjdmfkhjiiaaGreatDoorKbff346a
import Derived.Test.YtndpjdmfkhjiiaaGreatDoorK395e834
import Derived.Test.YtndpjdmfkhjiiaaGreatDoorKac5e9b6
import Derived.Test.YtndpjdmfkhjiiaaGreatDoorKbd7ef7d
import Derived.Test.YtndpjdmfkhjiiaaGreatDoorKbc2f978
import Derived.Test.YtndpjdmfkhjiiaaGreatDoorK6994baa
import Derived.Test.YtndpjdmfkhjiiaaGreatDoorKb1eef0b
import Derived.Test.YtndpjdmfkhjiiaaGreatDoorKdd2361c
import Derived.Test.YtndpjdmfkhjiiaaGreatDoorK1f74ead
import Derived.BigQuiet
import Derived.Lib.AppendZeros
set_option linter.unusedVariables false
set_option linter.unusedSimpArgs false
namespace Go.Proofs.YtndpjdmfkhjiiaaGreatDoor
open Go.RowKit
theorem Tryz.infoPc : (Tryz.prog.info? 155).any (fun i => i.size == 5 && i.bytes == 72 && (match i.zero with | some z => z.cells.size == 5 | none => false)) = true := by kernel_rfl
/-- While rows are read: a row, and the rows ahead of it. -/
structure RowSt (w : World) (rb : Nat) (outv : Value) (k : Nat) (oys : List Value) (rv : Value) (n : Nat) (xs : List Value) (W : World) : Prop where
  kept : Kept2 rb rb w W
  row : W.ownsRow w.heap.size 155 5 rv n xs
  out : W.ownsRow w.heap.size 153 1 outv k oys
def rowA (w : World) (outv rv : Value) : Nat → Prop := fun b => w.heap.size ≤ b ∧ outv.ownBlock ≠ some b ∧ rv.ownBlock ≠ some b
theorem own_ge {w : World} {B e size n : Nat} {v : Value} {xs : List Value} (h : w.ownsRow B e size v n xs) {b : Nat} (hb : v.ownBlock = some b) : B ≤ b ∧ b < w.heap.size := h.lt b hb
section
variable {w : World} {rb : Nat} {outv : Value} {k : Nat} {oys : List Value} {rv : Value} {n : Nat} {xs : List Value} {W : World}
theorem kept2_grown {w W W2 : World} {rb : Nat} {row : Option Nat} (hk : Kept2 rb rb w W) (hg : W.grownBy W2 row) (hr : ∀ b, row = some b → w.heap.size ≤ b) : Kept2 rb rb w W2 :=
  ⟨hg.os.trans hk.os, hg.tape.trans hk.tape, hg.output.trans hk.output, Nat.le_trans hk.size hg.size, fun b h1 h2 h3 => (hg.block b (Nat.lt_of_lt_of_le h1 hk.size) (fun e => by have := hr b e.symm; omega)).trans (hk.block b h1 h2 h3)⟩
theorem RowSt.push (h : RowSt w rb outv k oys rv n xs W) (hrb : rb < w.heap.size) (hn : n ≤ 100000) (cs : List Value) (hcs : cs.length = 5) (h1 : ∀ u ∈ cs, u.oneCell' = true) (t : TypeId) :
    ∃ ro rc W2, (Builtin.append_ #[153, 153] t #[rv, .slice (some ⟨W.heap.size, 0, none⟩) 1 1]).run Tryz.prog (W.alloc (.cells cs.toArray 155)) = .ok (.slice ro (n + 1) rc) W2 ∧
      RowSt w rb outv k oys (.slice ro (n + 1) rc) (n + 1) (xs ++ cs) W2 ∧
      (∀ T ys, cellsAt W (rowA w outv rv) T ys → cellsAt W2 (rowA w outv (.slice ro (n + 1) rc)) T ys) ∧
      (∀ it ys, itemAt W (rowA w outv rv) it ys → itemAt W2 (rowA w outv (.slice ro (n + 1) rc)) it ys) ∧
      (∀ m i g e a, readerAt W rb m i g e a → readerAt W2 rb m i g e a) := by
  obtain ⟨i0, z0, hinf, hz0, hz1, hz2, hz3⟩ := info_some Tryz.infoPc
  have g : Grow W (W.alloc (.cells cs.toArray 155)) := (Grow.refl _).alloc _
  have hsz : (W.alloc (.cells cs.toArray 155)).heap.size = W.heap.size + 1 := by simp
  have hnb : (W.alloc (.cells cs.toArray 155)).heap[W.heap.size]? = some (.cells cs.toArray 155 (0, 0)) := heap_alloc_new _ _
  have hW := h.kept.size
  have hrow := own_grow h.row g
  have hout := own_grow h.out g
  obtain ⟨v', w3, hrun, hown3, hgrow, hnew⟩ := run_append_new (P := Tryz.prog) _ w.heap.size 153 t 155 i0 z0 5 72 Tryz.underlying153 hinf hz0 hz1 hz2 hz3 (by omega) rv n xs hrow ⟨W.heap.size, 0, none⟩ 1 1 cs (by omega) (fun q u hu => by
    rw [Addr.add_lit]
    exact cell_in hnb (by simpa using hu)) h1 (by unfold maxLen; omega) (by omega) (by omega)
  obtain ⟨ro, rc, rfl⟩ := own_shape hown3
  have hkb : ∀ b, b < W.heap.size → rv.ownBlock ≠ some b → w3.heap[b]? = W.heap[b]? := fun b h1 h2 => (hgrow.block b (by omega) (fun e => h2 e.symm)).trans (g.block b h1)
  have hA : ∀ b, b < W.heap.size → rowA w outv rv b → rowA w outv (.slice ro (n + 1) rc) b ∧ w3.heap[b]? = W.heap[b]? := fun b h1 ⟨h2, h3, h4⟩ => by
    refine ⟨⟨h2, h3, ?_⟩, hkb b h1 h4⟩
    rcases hnew with e | ⟨q, e, hq⟩
    · rw [e]; exact h4
    · rw [e]
      intro e2
      cases e2
      omega
  refine ⟨ro, rc, w3, hrun, ⟨kept2_grown (h.kept.trans (.grow g)) hgrow fun b e => (own_ge h.row e).1, hown3, own_kept_apart hout hrow (by decide) hgrow⟩, fun T ys hc => hc.keep hA, fun it ys hc => hc.keep hA, fun m i g' e a hr => ?_⟩
  have h2 : rv.ownBlock ≠ some rb := fun e => by have := (own_ge h.row e).1; omega
  exact (hkb rb (by omega) h2).trans hr
end
/-! ### a piece in its block -/
/-- Behind a piece that was read: what has stayed. -/
structure Mid (w : World) (rb : Nat) (W1 Q : World) : Prop where
  kept : Kept2 rb rb w Q
  same : ∀ b, w.heap.size ≤ b → b < W1.heap.size → Q.heap[b]? = W1.heap[b]?
  size : W1.heap.size < Q.heap.size
section
variable {w : World} {rb : Nat} {W1 Q Q' : World}
theorem Mid.first (hk : Kept2 rb rb w W1) (g : Grow W1 Q) (hs : W1.heap.size < Q.heap.size) : Mid w rb W1 Q := ⟨hk.trans (.grow g), fun b _ h => g.block b h, hs⟩
theorem Mid.on (h : Mid w rb W1 Q) (hrb : rb < w.heap.size) (k : Kept2 rb rb Q Q') : Mid w rb W1 Q' :=
  ⟨h.kept.trans k, fun b h1 h2 => (k.block b (Nat.lt_trans h2 h.size) (by omega) (by omega)).trans (h.same b h1 h2), Nat.lt_of_lt_of_le h.size k.size⟩
end
end Go.Proofs.YtndpjdmfkhjiiaaGreatDoor
namespace Go.Proofs.YtndpjdmfkhjiiaaGreatDoor
open Go.RowKit
attribute [local go_sem] bs_size bs_toList bs_append bs_get bs_extract
def errR (w : World) (rb : Nat) : Nat := match w.heap[rb]? with | some (.cells c _ _) => (intOf (c.getD 3 undef)).toNat | _ => 0
theorem readerAt.err {w : World} {rb : Nat} {m : List UInt8} {i g e a : Nat} (h : readerAt w rb m i g e a) : errR w rb = e := by
  unfold readerAt at h
  simp [errR, h, intOf]
end Go.Proofs.YtndpjdmfkhjiiaaGreatDoor
