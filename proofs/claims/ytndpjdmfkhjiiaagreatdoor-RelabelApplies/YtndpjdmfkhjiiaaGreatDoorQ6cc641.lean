/- 4 texts in one. -/
import Derived.Laws.OwnMore
import Derived.Test.YtndpjdmfkhjiiaaGreatDoorProg
import Derived.Test.YtndpjdmfkhjiiaaGreatDoorQ74d152
import Derived.Test.YtndpjdmfkhjiiaaGreatDoorQ3d7cfc
import Derived.Test.YtndpjdmfkhjiiaaGreatDoorQ082284
import Derived.Test.YtndpjdmfkhjiiaaGreatDoorMFromV
import Derived.Test.YtndpjdmfkhjiiaaGreatDoorQfa040f
import Derived.Test.YtndpjdmfkhjiiaaGreatDoorMNewV
import Derived.Test.YtndpjdmfkhjiiaaGreatDoorMRdAV
import Derived.BigQuiet
import Derived.Test.YtndpjdmfkhjiiaaGreatDoorMExpV
import Derived.Test.YtndpjdmfkhjiiaaGreatDoorQ0e584d
/- The document's own reader of masks: sets of bytes as rows of 256; pieces that are handed back. -/
set_option linter.unusedVariables false
set_option linter.unusedSimpArgs false
namespace Go.Proofs.YtndpjdmfkhjiiaaGreatDoor
open Go.RowKit
attribute [local go_sem] bs_size bs_toList bs_append bs_get bs_extract

/-- A set as a row of 256. -/
def boolRow (s : UInt8 → Bool) : List Bool := (List.range 256).map fun k => s (UInt8.ofNat k)
theorem boolRow_length (s) : (boolRow s).length = 256 := by simp [boolRow]
theorem boolRow_get (s : UInt8 → Bool) {k : Nat} (h : k < 256) : (boolRow s)[k]? = some (s (UInt8.ofNat k)) := by simp [boolRow, h]
theorem boolRow_at (s : UInt8 → Bool) (c : UInt8) : (boolRow s)[c.toNat]? = some (s c) := by rw [boolRow_get s c.toNat_lt, UInt8.ofNat_toNat]
theorem boolRow_none : List.replicate 256 false = boolRow (fun _ => false) := by
  show _ = (List.range 256).map (Function.const _ false)
  rw [List.map_const, List.length_range]
theorem boolRow_set (s : UInt8 → Bool) (k : Nat) (h : k < 256) (b : Bool) : (boolRow s).set k b = boolRow (fun c => if c.toNat = k then b else s c) := by
  apply List.ext_getElem?
  intro j
  by_cases hj : j < 256
  · rw [boolRow_get _ hj]
    by_cases e : j = k
    · subst e
      rw [List.getElem?_set_self (by rw [boolRow_length]; exact hj)]
      simp [Nat.mod_eq_of_lt hj]
    · rw [List.getElem?_set_ne (fun h => e h.symm), boolRow_get _ hj]
      simp [Nat.mod_eq_of_lt hj, e]
  · rw [List.getElem?_eq_none_iff.2 (by rw [List.length_set, boolRow_length]; omega), List.getElem?_eq_none_iff.2 (by rw [boolRow_length]; omega)]
def boolsAt (w : World) (b : Nat) (l : List Bool) : Prop := w.heap[b]? = some (.cells (l.map Value.bool).toArray 4 (0, 0))
theorem boolsAt.cell {w : World} {b k : Nat} {l : List Bool} (h : boolsAt w b l) {x} (hk : l[k]? = some x) : w.cell? ⟨b, k, none⟩ = some (.bool x) := cell_in h (by simp [hk])
theorem boolsAt.set {w : World} {b : Nat} {l : List Bool} (h : boolsAt w b l) (k : Nat) (x : Bool) : boolsAt (w.setCell ⟨b, k, none⟩ (.bool x)) b (l.set k x) := by
  have := set_blk h (i := k) (.bool x)
  unfold boolsAt
  rw [this]
  congr 1
  simp [List.map_set]
theorem boolsAt.keep {w w' : World} {b : Nat} {l : List Bool} (h : boolsAt w b l) (k : w'.heap[b]? = w.heap[b]?) : boolsAt w' b l := k.trans h
/-- A set that stays. -/
def setAt (w : World) (v : Value) (s : UInt8 → Bool) : Prop := ∃ b, v = .slice (some ⟨b, 0, none⟩) 256 256 ∧ boolsAt w b (boolRow s)
theorem setAt.grow {w w' : World} {v : Value} {s : UInt8 → Bool} (h : setAt w v s) (g : Grow w w') : setAt w' v s := by
  obtain ⟨b, h1, h2⟩ := h
  exact ⟨b, h1, g.get h2⟩

theorem only_one (c : UInt8) : (fun x : UInt8 => if x.toNat = c.toNat then true else false) = between c c := by
  funext x
  unfold between
  by_cases h : x.toNat = c.toNat
  · simp [h]
  · rw [if_neg h]
    have : ¬ (c.toNat ≤ x.toNat ∧ x.toNat ≤ c.toNat) := by omega
    by_cases h1 : c.toNat ≤ x.toNat
    · have h2 : ¬ x.toNat ≤ c.toNat := by omega
      simp [h1, h2]
    · simp [h1]

set_option maxRecDepth 20000 in
theorem alone_any (c : UInt8) (w : World) : Calls Tryz.prog 124 #[.int .u8 (c.toNat : Int)] w fun e w' => e = .returned (.slice (some ⟨w.heap.size, 0, none⟩) 256 256) ∧ Grow w w' ∧ boolsAt w' w.heap.size (boolRow (between c c)) := by
  have hmk0 := make_bools 256 (by decide) w
  have hc := c.toNat_lt
  obtain ⟨A, HA⟩ : ∃ A, Hid (A = w.alloc (.cells (Array.replicate 256 (Value.bool false)) 4)) := ⟨_, hide rfl⟩
  have hA : boolsAt A w.heap.size (boolRow (fun _ => false)) := by
    rw [HA.out, ← boolRow_none]
    unfold boolsAt
    rw [heap_alloc_new, List.map_replicate, List.toArray_replicate]
  have gA : Grow w A := by rw [HA.out]; exact (Grow.refl _).alloc _
  have hcell := hA.cell (boolRow_at _ c)
  have fz := not_frozen (k := c.toNat) hA
  rw [← HA.out] at hmk0
  have hmk : (Instr.makeSlice 120 (.int .i64 256) (.int .i64 256)).run Tryz.prog w = .ok (.slice (some ⟨w.heap.size, 0, none⟩) 256 256) A := hmk0
  have HA1 := hide hA
  have GA := hide gA
  clear hA gA HA hmk0
  go_enter Tryz.func124, Tryz.ntmps124
  go_wp2
  go_ret
  refine ⟨rfl, GA.out.setCell (Nat.le_refl _) _, ?_⟩
  have := HA1.out.set c.toNat true
  rw [boolRow_set _ _ hc, only_one] at this
  exact this

/-- A piece in a block, and what it is when it is handed back. -/
theorem Tryz.infoPiece : (Tryz.prog.info? 155).map (·.size) = some 5 := by kernel_rfl
theorem set_five {w : World} {b : Nat} {y0 y1 y2 y3 y4 : Value} {t : TypeId} (h : w.heap[b]? = some (.cells #[y0, y1, y2, y3, y4] t (0, 0))) (x0 x1 x2 x3 x4 : Value) :
    (((((w.setCell ⟨b, 0, none⟩ x0).setCell ⟨b, 1, none⟩ x1).setCell ⟨b, 2, none⟩ x2).setCell ⟨b, 3, none⟩ x3).setCell ⟨b, 4, none⟩ x4).heap[b]? = some (.cells #[x0, x1, x2, x3, x4] t (0, 0)) := by
  rw [set_blk (set_blk (set_blk (set_blk (set_blk h _) _) _) _)]
  simp
theorem grow_five {w v : World} {b : Nat} (g : Below w.heap.size w v) (hb : w.heap.size ≤ b) (x0 x1 x2 x3 x4 : Value) :
    Below w.heap.size w (((((v.setCell ⟨b, 0, none⟩ x0).setCell ⟨b, 1, none⟩ x1).setCell ⟨b, 2, none⟩ x2).setCell ⟨b, 3, none⟩ x3).setCell ⟨b, 4, none⟩ x4) :=
  ((((g.setCell hb _).setCell hb _).setCell hb _).setCell hb _).setCell hb _

end Go.Proofs.YtndpjdmfkhjiiaaGreatDoor

/- The document's own reader of masks: pieces that are no groups, but for brackets. -/
set_option linter.unusedVariables false
set_option linter.unusedSimpArgs false
namespace Go.Proofs.YtndpjdmfkhjiiaaGreatDoor
open Go.RowKit
attribute [local go_sem] bs_size bs_toList bs_append bs_get bs_extract

/-- A piece's value. -/
def pieceV (gr : Bool) (sv : Value) (n : Int) (rv : Value) (sg : Int) : Value := .agg #[.bool gr, sv, .int .i64 n, rv, .int .u8 sg]
abbrev pieceZ : Array Value := #[.bool false, .slice none 0 0, .int .i64 0, .slice none 0 0, .int .u8 0]

/-- While a piece is read: what has stayed, the block that is handed back, and the reader. -/
structure AtS (w : World) (rb : Nat) (m : List UInt8) (i g e a : Nat) (W : World) : Prop where
  kept : Kept2 rb rb w W
  size : w.heap.size < W.heap.size
  out : W.heap[w.heap.size]? = some (.cells pieceZ 155 (0, 0))
  rd : readerAt W rb m i g e a
theorem AtS.first {w A : World} {rb : Nat} {m : List UInt8} {i g e a : Nat} (h : readerAt w rb m i g e a) (hA : A = w.alloc (.cells pieceZ 155)) : AtS w rb m i g e a A := by
  subst hA
  have g : Grow w (w.alloc (.cells pieceZ 155)) := (Grow.refl _).alloc _
  exact ⟨.grow g, by simp, heap_alloc_new _ _, h.grow g⟩
theorem AtS.on {w W W' : World} {rb : Nat} {m : List UInt8} {i g e a i' g' e' a' : Nat} (h : AtS w rb m i g e a W) (hrb : rb < w.heap.size) (k : Kept2 rb rb W W') (hr : readerAt W' rb m i' g' e' a') : AtS w rb m i' g' e' a' W' :=
  ⟨h.kept.trans k, Nat.lt_of_lt_of_le h.size k.size, (k.block _ h.size (by omega) (by omega)).trans h.out, hr⟩
theorem AtS.grow {w W W' : World} {rb : Nat} {m : List UInt8} {i g e a : Nat} (h : AtS w rb m i g e a W) (hrb : rb < w.heap.size) (k : Grow W W') : AtS w rb m i g e a W' := h.on hrb (.grow k) (h.rd.grow k)
theorem AtS.cells {w W : World} {rb : Nat} {m : List UInt8} {i g e a : Nat} (h : AtS w rb m i g e a W) :
    (W.cell? ⟨w.heap.size, 0, none⟩ = some (.bool false) ∧ W.cell? ⟨w.heap.size, 1, none⟩ = some (.slice none 0 0) ∧ W.cell? ⟨w.heap.size, 2, none⟩ = some (.int .i64 0) ∧ W.cell? ⟨w.heap.size, 3, none⟩ = some (.slice none 0 0) ∧ W.cell? ⟨w.heap.size, 4, none⟩ = some (.int .u8 0)) ∧
    (∀ k, W.frozen? ⟨w.heap.size, k, none⟩ = false) := by
  have ho := h.out
  unfold pieceZ at ho
  exact ⟨five_cells ho, fun k => not_frozen (k := k) ho⟩
/-- A row of the call's own is written. -/
theorem AtS.setB {w W : World} {rb : Nat} {m : List UInt8} {i g e a b o : Nat} (h : AtS w rb m i g e a W) (hrb : rb < w.heap.size) (hb : w.heap.size < b) (u : Value) : AtS w rb m i g e a (W.setCell ⟨b, o, none⟩ u) := by
  refine ⟨⟨h.kept.os, h.kept.tape, h.kept.output, by simpa [World.setCell] using h.kept.size, fun k h1 h2 h3 => (set_apart _ (by omega)).trans (h.kept.block k h1 h2 h3)⟩, by simpa [World.setCell] using h.size, (set_apart _ (by omega)).trans h.out, (set_apart _ (by omega)).trans h.rd⟩
/-- The piece is handed back. -/
theorem AtS.store {w W : World} {rb : Nat} {m : List UInt8} {i g e a : Nat} (h : AtS w rb m i g e a W) (hrb : rb < w.heap.size) (x0 x1 x2 x3 x4 : Value) :
    ∃ Z, (((((W.setCell ⟨w.heap.size, 0, none⟩ x0).setCell ⟨w.heap.size, 1, none⟩ x1).setCell ⟨w.heap.size, 2, none⟩ x2).setCell ⟨w.heap.size, 3, none⟩ x3).setCell ⟨w.heap.size, 4, none⟩ x4) = Z ∧
      Kept2 rb rb w Z ∧ Z.heap[w.heap.size]? = some (.cells #[x0, x1, x2, x3, x4] 155 (0, 0)) ∧ readerAt Z rb m i g e a ∧ (∀ k, k ≠ w.heap.size → Z.heap[k]? = W.heap[k]?) := by
  have ho := h.out
  unfold pieceZ at ho
  have hf := set_five ho x0 x1 x2 x3 x4
  have hk5 : Kept2 w.heap.size w.heap.size W (((((W.setCell ⟨w.heap.size, 0, none⟩ x0).setCell ⟨w.heap.size, 1, none⟩ x1).setCell ⟨w.heap.size, 2, none⟩ x2).setCell ⟨w.heap.size, 3, none⟩ x3).setCell ⟨w.heap.size, 4, none⟩ x4) :=
    ((((Kept2.setT _ _).trans (Kept2.setT _ _)).trans (Kept2.setT _ _)).trans (Kept2.setT _ _)).trans (Kept2.setT _ _)
  have hk : ∀ k, k ≠ w.heap.size → (((((W.setCell ⟨w.heap.size, 0, none⟩ x0).setCell ⟨w.heap.size, 1, none⟩ x1).setCell ⟨w.heap.size, 2, none⟩ x2).setCell ⟨w.heap.size, 3, none⟩ x3).setCell ⟨w.heap.size, 4, none⟩ x4).heap[k]? = W.heap[k]? := fun k hk =>
    (set_apart _ hk).trans ((set_apart _ hk).trans ((set_apart _ hk).trans ((set_apart _ hk).trans (set_apart _ hk))))
  generalize (((((W.setCell ⟨w.heap.size, 0, none⟩ x0).setCell ⟨w.heap.size, 1, none⟩ x1).setCell ⟨w.heap.size, 2, none⟩ x2).setCell ⟨w.heap.size, 3, none⟩ x3).setCell ⟨w.heap.size, 4, none⟩ x4) = Z at hf hk hk5 ⊢
  have hs := h.size
  have hs5 := hk5.size
  exact ⟨Z, rfl, ⟨hk5.os.trans h.kept.os, hk5.tape.trans h.kept.tape, hk5.output.trans h.kept.output, by omega, fun k h1 h2 h3 => (hk k (by omega)).trans (h.kept.block k h1 h2 h3)⟩, hf, (hk rb (by omega)).trans h.rd, hk⟩

/-- A row of 256 that is made. -/
theorem made_row (W : World) : ∃ W1, (Instr.makeSlice 120 (.int .i64 256) (.int .i64 256)).run Tryz.prog W = .ok (.slice (some ⟨W.heap.size, 0, none⟩) 256 256) W1 ∧ Grow W W1 ∧ W1.heap.size = W.heap.size + 1 ∧ boolsAt W1 W.heap.size (boolRow (fun _ => false)) := by
  refine ⟨W.alloc (.cells (Array.replicate 256 (Value.bool false)) 4), make_bools 256 (by decide) W, (Grow.refl _).alloc _, by simp, ?_⟩
  rw [← boolRow_none]
  unfold boolsAt
  rw [heap_alloc_new, List.map_replicate, List.toArray_replicate]

theorem below_row {k : Nat} (h : k < 256) : (boolRow fun c => decide (c.toNat < k)).set k true = boolRow fun c => decide (c.toNat < k + 1) := by
  rw [boolRow_set _ _ h]
  congr 1
  funext c
  by_cases e : c.toNat = k
  · simp [e]
  · have : c.toNat < k ↔ c.toNat < k + 1 := by omega
    simp [e, this]
theorem below_all : (boolRow fun c => decide (c.toNat < 256)) = boolRow fun _ => true := by
  congr 1
  funext c
  have := c.toNat_lt
  simp
  omega
theorem below_none : (boolRow fun c => decide (c.toNat < 0)) = boolRow fun _ => false := by
  congr 1

/-- A set that was laid from a block on. -/
def setFrom (B : Nat) (w : World) (v : Value) (s : UInt8 → Bool) : Prop := ∃ b, v = .slice (some ⟨b, 0, none⟩) 256 256 ∧ B ≤ b ∧ boolsAt w b (boolRow s)
/-- What is read of a piece that is no group. -/
def ratomPost (rb : Nat) (m : List UInt8) (g : Nat) (y : Except (Nat × Nat) ((UInt8 → Bool) × Nat)) (w : World) (e : Ending) (w' : World) : Prop :=
  Kept2 rb rb w w' ∧ ∃ v, e = .returned v ∧ match y with
    | .error x => v = pieceV false (.slice none 0 0) 0 (.slice none 0 0) 0 ∧ ∃ j, readerAt w' rb m j g x.1 x.2
    | .ok x => ∃ sv, v = pieceV false sv 0 (.slice none 0 0) 0 ∧ setFrom w.heap.size w' sv x.1 ∧ readerAt w' rb m x.2 g 0 0

set_option maxRecDepth 20000 in
set_option maxHeartbeats 4000000 in
theorem ratom_dot (w : World) (rb : Nat) (m : List UInt8) (i g : Nat) (c : UInt8) (hr : readerAt w rb m i g 0 0) (hc : m[i]? = some c) (hm : m.length ≤ 1000) (hq : c.toNat = 46) :
    Calls Tryz.prog 106 #[.pointer (some ⟨rb, 0, none⟩)] w (ratomPost rb m g (.ok (fun _ => true, i + 1)) w) := by
  have hrb := lt_of_block hr
  have hi := get_lt hc
  have hget : m[i] = c := by rw [List.getElem?_eq_getElem hi] at hc; exact Option.some.inj hc
  have HI46 : Hid (isAt m i 46 = true) := by show _ = _; simp [isAt, hc, hq]
  obtain ⟨A, HA⟩ : ∃ A, Hid (A = w.alloc (.cells pieceZ 155)) := ⟨_, hide rfl⟩
  have hA := AtS.first hr HA.out
  obtain ⟨c0, c1, c2, c3, c4⟩ := five_cells hA.rd
  have HAS : Hid (∀ n, AtS w rb m i g 0 0 (A.drewN n)) := hide fun n => ⟨hA.kept.drewN, hA.size, hA.out, hA.rd⟩
  have eA := HA.out.symm
  skip
  clear hr hc HA hA c2 c3 c4 hq
  go_enter Tryz.func106, Tryz.ntmps106
  go_wp2
  go_quiet (fail)
  have H0 := hide (HAS.out nq)
  clear eA HAS c0 c1
  go_wp2_with fail
  refine (rmay_any _ rb m i g 0 0 46 46 rfl (by decide) (by omega) H0.out.rd).mono ?_
  rintro en w1 ⟨rfl, hk, hr1⟩
  have h1 := H0.out.on hrb hk hr1
  rw [HI46.out] at h1 ⊢
  simp only [onIf] at h1
  have H1 := hide h1
  clear hk hr1 h1 H0
  obtain ⟨W1, hmk, hg1, hs1, hb1⟩ := made_row w1
  have h2 := H1.out.grow hrb hg1
  have hlw := H1.out.size
  have H2 := hide h2
  have HB1 : Hid (boolsAt W1 w1.heap.size (boolRow fun c => decide (c.toNat < 0))) := hide (by rw [below_none]; exact hb1)
  clear hg1 hb1 h2
  go_wp2
  go_loopw [5] (fun v wr => ∃ k : Nat, k ≤ 256 ∧ v = .int .i64 k ∧ Hid (AtS w rb m (i + 1) g 0 0 wr) ∧ Hid (boolsAt wr w1.heap.size (boolRow fun c => decide (c.toNat < k)))) (fun v _ => 256 - (intOf v).toNat)
  case atStart => exact ⟨0, by omega, rfl, H2, HB1⟩
  case round =>
    obtain ⟨k, hk, rfl, HA, HB⟩ := hrel
    by_cases hlt : k < 256
    · have hlt2 : (k : Int) < 256 := by omega
      have hcell := HB.out.cell (k := k) (boolRow_get _ hlt)
      have hfz := not_frozen (k := k) HB.out
      go_wp2
      refine ⟨⟨k + 1, by omega, by go_num, hide (HA.out.setB hrb hlw _), hide ?_⟩, ?_⟩
      · have := HB.out.set k true
        rw [below_row hlt] at this
        exact this
      · simp [intOf]; omega
    · obtain rfl : k = 256 := by omega
      have hB := HB.out
      rw [below_all] at hB
      obtain ⟨⟨r0, r1, r2, r3, r4⟩, rf⟩ := HA.out.cells
      have z0 := rf 0
      have z1 := rf 1
      have z2 := rf 2
      have z3 := rf 3
      have z4 := rf 4
      obtain ⟨Z, eZ, hk, ho, hrd, hkb⟩ := HA.out.store hrb (.bool false) (.slice (some ⟨w1.heap.size, 0, none⟩) 256 256) (.int .i64 0) (.slice none 0 0) (.int .u8 0)
      have HO := hide ho
      have HK := hide hk
      have HRD := hide hrd
      have HKB := hide hkb
      clear rf hk ho hrd hkb
      have HB2 : Hid (boolsAt Z w1.heap.size (boolRow fun _ => true)) := hide (hB.keep (HKB.out _ (by omega)))
      clear hB HA HB
      go_wp2
      refine bodyPost_ret (v := pieceV false (.slice (some ⟨w1.heap.size, 0, none⟩) 256 256) 0 (.slice none 0 0) 0) (results_cell_row (p := 2) (ty := 155) rfl _ _ w.heap.size _ _ _ _ rfl HO.out Tryz.underlying155 rfl Tryz.infoPiece) rfl ⟨HK.out, _, rfl, _, rfl, ⟨_, rfl, by omega, HB2.out⟩, HRD.out⟩

set_option maxRecDepth 20000 in
set_option maxHeartbeats 4000000 in
theorem ratom_esc (w : World) (rb : Nat) (m : List UInt8) (i g : Nat) (c : UInt8) (hr : readerAt w rb m i g 0 0) (hc : m[i]? = some c) (hm : m.length ≤ 1000) (hq : c.toNat = 92) (y : Except (Nat × Nat) ((UInt8 → Bool) × Nat)) (hy : pSet m i c = some y) :
    Calls Tryz.prog 106 #[.pointer (some ⟨rb, 0, none⟩)] w (ratomPost rb m g y w) := by
  have hrb := lt_of_block hr
  have hi := get_lt hc
  have hget : m[i] = c := by rw [List.getElem?_eq_getElem hi] at hc; exact Option.some.inj hc
  have HI92 : Hid (isAt m i 92 = true) := by show _ = _; simp [isAt, hc, hq]
  have HI46 : Hid (isAt m i 46 = false) := by show _ = _; simp [isAt, hc]; omega
  obtain ⟨A, HA⟩ : ∃ A, Hid (A = w.alloc (.cells pieceZ 155)) := ⟨_, hide rfl⟩
  have hA := AtS.first hr HA.out
  obtain ⟨c0, c1, c2, c3, c4⟩ := five_cells hA.rd
  have HAS : Hid (∀ n, AtS w rb m i g 0 0 (A.drewN n)) := hide fun n => ⟨hA.kept.drewN, hA.size, hA.out, hA.rd⟩
  have eA := HA.out.symm
  obtain ⟨j, hj⟩ : ∃ j, i + 1 = j := ⟨_, rfl⟩
  have HY : Hid (some y = match m[j]? with | none => some (.error (1, j)) | some d => if isAl d || isNu d then some (.error (1, j)) else some (.ok (between d d, j + 1))) := by
    show _ = _
    rw [← hy, ← hj]
    simp [pSet, hq]
    rfl
  clear hr hc HA hA c2 c3 c4 hq hy
  go_enter Tryz.func106, Tryz.ntmps106
  go_wp2
  go_quiet (fail)
  have H0 := hide (HAS.out nq)
  clear eA HAS c0 c1
  go_wp2_with fail
  refine (rmay_any _ rb m i g 0 0 46 46 rfl (by decide) (by omega) H0.out.rd).mono ?_
  rintro en w1 ⟨rfl, hk, hr1⟩
  have h1 := H0.out.on hrb hk hr1
  rw [HI46.out] at h1 ⊢
  simp only [onIf] at h1
  have H1 := hide h1
  clear hk hr1 h1 H0
  go_wp2_with fail
  refine (rmay_any _ rb m i g 0 0 92 92 rfl (by decide) (by omega) H1.out.rd).mono ?_
  rintro en w2 ⟨rfl, hk, hr1⟩
  have h1 := H1.out.on hrb hk hr1
  rw [HI92.out] at h1 ⊢
  simp only [onIf] at h1
  have H2 := hide h1
  clear hk hr1 h1 H1
  rw [hj] at H2
  obtain ⟨c0, c1, _, _, _⟩ := five_cells H2.out.rd
  have HR2 : Hid (∀ n, AtS w rb m j g 0 0 (w2.drewN n)) := hide fun n => ⟨H2.out.kept.drewN, H2.out.size, H2.out.out, H2.out.rd⟩
  by_cases hlt : j < m.length
  · obtain ⟨d, hd⟩ : ∃ d, m[j] = d := ⟨_, rfl⟩
    have hgt : m[j]? = some d := by rw [List.getElem?_eq_getElem hlt, hd]
    have hne : ((j : Int) == m.length) = false := by rw [beq_eq_false_iff_ne]; omega
    have hlt2 : (j : Int) < m.length := by omega
    have hdl := d.toNat_lt
    have HY2 : Hid (some y = if isAl d || isNu d then some (.error (1, j)) else some (.ok (between d d, j + 1))) := by
      show _ = _
      rw [HY.out, hgt]
    have HL : Hid (∀ w, Calls Tryz.prog 73 #[.int .u8 (d.toNat : Int)] w fun e w' => e = .returned (.bool (isAlU d)) ∧ w' = w) := hide fun w => rIsLetter_any d w
    have HN : Hid (∀ w, Calls Tryz.prog 20 #[.int .u8 (d.toNat : Int)] w fun e w' => e = .returned (.bool (isNu d)) ∧ w' = w) := hide fun w => rIsNumeral_any d w
    have HAU : Hid (isAl d = (isAlU d && !decide (d.toNat = 95))) := by
      show _ = _
      unfold isAlU
      by_cases h95 : d.toNat = 95
      · simp [isAl, h95]
      · simp [h95]
    clear hgt HY
    cases hL : isAlU d with
    | true =>
      rw [hL] at HL HAU
      by_cases h95 : d.toNat = 95
      · have HN0 : isNu d = false := by simp [isNu, h95]
        have HE : Hid (y = .ok (between d d, j + 1)) := by
          show _ = _
          have h := HY2.out
          rw [HAU.out, HN0] at h
          simp [h95] at h
          exact h
        have h95' : ((d.toNat : Int) != 95) = false := by simp [h95]
        rw [HN0] at HN
        clear h95 HN0 hL HY2 HAU
        go_wp2_with fail
        go_quiet (first | (go_at_call 73; exact Calls.quiet_of_same (HL.out _)) | (go_at_call 20; exact Calls.quiet_of_same (HN.out _)))
        obtain ⟨W3, HW3⟩ : ∃ W3, Hid (W3 = w2.drewN nq) := ⟨_, hide rfl⟩
        rw [← HW3.out]
        have h3 : AtS w rb m j g 0 0 W3 := by rw [HW3.out]; exact HR2.out nq
        obtain ⟨k0, k1, _, _, _⟩ := five_cells h3.rd
        have kf := not_frozen (k := 1) h3.rd
        obtain ⟨W4, HW4⟩ : ∃ W4, Hid (W4 = W3.setCell ⟨rb, 1, none⟩ (.int .i64 ((j : Int) + 1))) := ⟨_, hide rfl⟩
        have h4 : AtS w rb m (j + 1) g 0 0 W4 := by rw [HW4.out]; exact h3.on hrb (.setT _ _) (h3.rd.on _ (by go_num))
        have H4 := hide h4
        have hwr : IntKind.i64.wrap ((j : Int) + 1) = (j : Int) + 1 := wrap_i64_small _ (by omega) (by omega)
        have eW4 := HW4.out.symm
        clear h3 HW3 HW4 h4 c0 c1
        go_wp2
        clear eW4 k0 k1 kf
        obtain ⟨d0, d1, _, _, _⟩ := five_cells H4.out.rd
        refine wp_region_free 11 312 Tryz.mixed2 rfl (by decide +kernel) Grow (fun _ _ _ => Grow.trans) (Grow.refl _)
          (fun i v w' => match i with
            | 0 => v = .pointer (some ⟨rb, 0, none⟩)
            | 1 => v = .pointer (some ⟨rb, 0, none⟩)
            | 2 => v = .pointer (some ⟨rb, 0, none⟩)
            | 3 => v = .string (bs m)
            | 4 => v = .pointer (some ⟨rb, 0, none⟩)
            | 5 => v = .pointer (some ⟨rb, 0, none⟩)
            | 6 => v = .pointer (some ⟨rb, 1, none⟩)
            | 7 => v = .int .i64 ((j + 1 : Nat) : Int)
            | 8 => v = .int .i64 (j : Int)
            | 9 => v = .int .u8 (d.toNat : Int)
            | _ => ∃ b, W4.heap.size ≤ b ∧ v = .slice (some ⟨b, 0, none⟩) 256 256 ∧ boolsAt w' b (boolRow (between d d)))
          (fun i v w1 w2 h hg => ?_) (fun _ _ => False) (fun _ _ _ _ h => h.elim) (fun i hi o ho a2 w5 hG hoff hdep => ?_) (fun vals w5 hG hvals => ?_)
        · match i, h with
          | 0, h => exact h
          | 1, h => exact h
          | 2, h => exact h
          | 3, h => exact h
          | 4, h => exact h
          | 5, h => exact h
          | 6, h => exact h
          | 7, h => exact h
          | 8, h => exact h
          | 9, h => exact h
          | k + 10, h =>
            obtain ⟨b, h1, h2, h3⟩ := h
            exact ⟨b, h1, h2, hg.get h3⟩
        · have hg5 : Grow W4 w5 := hG.undrew
          obtain ⟨d0, d1, _, _, _⟩ := five_cells (H4.out.rd.grow hg5)
          match i, hi with
          | 0, _ =>
            obtain rfl := Option.some.inj ho
            have o0 := hoff 0 (by decide +kernel)
            simp at o0
            simp [opYields, go_sem, o0]
            exact Grow.refl _
          | 1, _ =>
            obtain rfl := Option.some.inj ho
            have d0 := hdep 0 (by decide +kernel)
            simp [slotOf, dstOf] at d0
            simp [opYields, go_sem, d0]
            exact Grow.refl _
          | 2, _ =>
            obtain rfl := Option.some.inj ho
            have d1 := hdep 1 (by decide +kernel)
            simp [slotOf, dstOf] at d1
            simp [opYields, go_sem, d1]
            exact Grow.refl _
          | 3, _ =>
            obtain rfl := Option.some.inj ho
            have d2 := hdep 2 (by decide +kernel)
            simp [slotOf, dstOf] at d2
            simp [opYields, go_sem, d2, d0]
            exact Grow.refl _
          | 4, _ =>
            obtain rfl := Option.some.inj ho
            have o0 := hoff 0 (by decide +kernel)
            simp at o0
            simp [opYields, go_sem, o0]
            exact Grow.refl _
          | 5, _ =>
            obtain rfl := Option.some.inj ho
            have d4 := hdep 4 (by decide +kernel)
            simp [slotOf, dstOf] at d4
            simp [opYields, go_sem, d4]
            exact Grow.refl _
          | 6, _ =>
            obtain rfl := Option.some.inj ho
            have d5 := hdep 5 (by decide +kernel)
            simp [slotOf, dstOf] at d5
            simp [opYields, go_sem, d5]
            exact Grow.refl _
          | 7, _ =>
            obtain rfl := Option.some.inj ho
            have d6 := hdep 6 (by decide +kernel)
            simp [slotOf, dstOf] at d6
            simp [opYields, go_sem, d6, d1]
            exact Grow.refl _
          | 8, _ =>
            obtain rfl := Option.some.inj ho
            have d7 := hdep 7 (by decide +kernel)
            simp [slotOf, dstOf] at d7
            simp [opYields, go_sem, d7]
            exact ⟨Grow.refl _, wrap_i64_small _ (by omega) (by omega)⟩
          | 9, _ =>
            obtain rfl := Option.some.inj ho
            have d3 := hdep 3 (by decide +kernel)
            simp [slotOf, dstOf] at d3
            have d8 := hdep 8 (by decide +kernel)
            simp [slotOf, dstOf] at d8
            simp [opYields, go_sem, d3, d8]
            simp [hlt, hd]
            exact Grow.refl _
          | 10, _ =>
            obtain rfl := Option.some.inj ho
            have d9 := hdep 9 (by decide +kernel)
            simp [slotOf, dstOf] at d9
            simp [opYields, go_sem, d9]
            refine (alone_any d w5).mono ?_
            rintro e w6 ⟨rfl, hg6, hb6⟩
            exact ⟨hg6, _, hG.undrew.size, rfl, hb6⟩
          | k + 11, h => exact absurd h (by omega)
        · obtain ⟨b, hb, v10, hbb⟩ := hvals 10 (by omega)
          clear hvals
          have hg5 : Grow W4 w5 := hG.undrew
          have H5 := hide (H4.out.grow hrb hg5)
          have hs4 := H4.out.size
          have HBB := hide hbb
          clear hG hg5 hbb d0 d1
          obtain ⟨⟨r0, r1, r2, r3, r4⟩, rf⟩ := H5.out.cells
          have z0 := rf 0
          have z1 := rf 1
          have z2 := rf 2
          have z3 := rf 3
          have z4 := rf 4
          obtain ⟨Z, eZ, hk, ho, hrd, hkb⟩ := H5.out.store hrb (.bool false) (.slice (some ⟨b, 0, none⟩) 256 256) (.int .i64 0) (.slice none 0 0) (.int .u8 0)
          have HO := hide ho
          have HK := hide hk
          have HRD := hide hrd
          have HKB := hide hkb
          clear rf hk ho hrd hkb
          have HB2 : Hid (boolsAt Z b (boolRow (between d d))) := hide (HBB.out.keep (HKB.out _ (by omega)))
          simp [over, dstOf, Act.put, v10]
          go_wp2
          refine bodyPost_ret (v := pieceV false (.slice (some ⟨b, 0, none⟩) 256 256) 0 (.slice none 0 0) 0) (results_cell_row (p := 2) (ty := 155) rfl _ _ w.heap.size _ _ _ _ rfl HO.out Tryz.underlying155 rfl Tryz.infoPiece) rfl ⟨HK.out, _, rfl, by rw [HE.out]; exact ⟨_, rfl, ⟨_, rfl, by omega, HB2.out⟩, HRD.out⟩⟩
      · have HE : Hid (y = .error (1, j)) := by
          show _ = _
          have h := HY2.out
          rw [HAU.out] at h
          simp [h95] at h
          exact h
        have h95' : ((d.toNat : Int) != 95) = true := by simp; omega
        clear h95 hL HY2 HAU
        go_wp2_with fail
        go_quiet (first | (go_at_call 73; exact Calls.quiet_of_same (HL.out _)) | (go_at_call 20; exact Calls.quiet_of_same (HN.out _)))
        go_wp2_with fail
        refine (wrong_any _ rb m j g 1 (j : Int) 1 j rfl rfl (HR2.out nq).rd).mono ?_
        rintro en w3 ⟨rfl, hk3, hr3⟩
        have H3 := hide ((HR2.out nq).on hrb hk3 hr3)
        clear hk3 hr3
        obtain ⟨⟨r0, r1, r2, r3, r4⟩, rf⟩ := H3.out.cells
        have z0 := rf 0
        have z1 := rf 1
        have z2 := rf 2
        have z3 := rf 3
        have z4 := rf 4
        obtain ⟨Z, eZ, hk, ho, hrd, hkb⟩ := H3.out.store hrb (.bool false) (.slice none 0 0) (.int .i64 0) (.slice none 0 0) (.int .u8 0)
        have HO := hide ho
        have HK := hide hk
        have HRD := hide hrd
        have HKB := hide hkb
        clear rf hk ho hrd hkb
        go_wp2
        refine bodyPost_ret (v := pieceV false (.slice none 0 0) 0 (.slice none 0 0) 0) (results_cell_row (p := 2) (ty := 155) rfl _ _ w.heap.size _ _ _ _ rfl HO.out Tryz.underlying155 rfl Tryz.infoPiece) rfl ⟨HK.out, _, rfl, by rw [HE.out]; exact ⟨rfl, j, HRD.out⟩⟩
    | false =>
      rw [hL] at HL HAU
      cases hN : isNu d with
      | true =>
        have HE : Hid (y = .error (1, j)) := by
          show _ = _
          have h := HY2.out
          rw [hN] at h
          simp at h
          exact h
        rw [hN] at HN
        clear hN hL HY2 HAU
        go_wp2_with fail
        go_quiet (first | (go_at_call 73; exact Calls.quiet_of_same (HL.out _)) | (go_at_call 20; exact Calls.quiet_of_same (HN.out _)))
        go_wp2_with fail
        refine (wrong_any _ rb m j g 1 (j : Int) 1 j rfl rfl (HR2.out nq).rd).mono ?_
        rintro en w3 ⟨rfl, hk3, hr3⟩
        have H3 := hide ((HR2.out nq).on hrb hk3 hr3)
        clear hk3 hr3
        obtain ⟨⟨r0, r1, r2, r3, r4⟩, rf⟩ := H3.out.cells
        have z0 := rf 0
        have z1 := rf 1
        have z2 := rf 2
        have z3 := rf 3
        have z4 := rf 4
        obtain ⟨Z, eZ, hk, ho, hrd, hkb⟩ := H3.out.store hrb (.bool false) (.slice none 0 0) (.int .i64 0) (.slice none 0 0) (.int .u8 0)
        have HO := hide ho
        have HK := hide hk
        have HRD := hide hrd
        have HKB := hide hkb
        clear rf hk ho hrd hkb
        go_wp2
        refine bodyPost_ret (v := pieceV false (.slice none 0 0) 0 (.slice none 0 0) 0) (results_cell_row (p := 2) (ty := 155) rfl _ _ w.heap.size _ _ _ _ rfl HO.out Tryz.underlying155 rfl Tryz.infoPiece) rfl ⟨HK.out, _, rfl, by rw [HE.out]; exact ⟨rfl, j, HRD.out⟩⟩
      | false =>
        have HE : Hid (y = .ok (between d d, j + 1)) := by
          show _ = _
          have h := HY2.out
          rw [HAU.out, hN] at h
          simp at h
          exact h
        rw [hN] at HN
        clear hN hL HY2 HAU
        go_wp2_with fail
        go_quiet (first | (go_at_call 73; exact Calls.quiet_of_same (HL.out _)) | (go_at_call 20; exact Calls.quiet_of_same (HN.out _)))
        obtain ⟨W3, HW3⟩ : ∃ W3, Hid (W3 = w2.drewN nq) := ⟨_, hide rfl⟩
        rw [← HW3.out]
        have h3 : AtS w rb m j g 0 0 W3 := by rw [HW3.out]; exact HR2.out nq
        obtain ⟨k0, k1, _, _, _⟩ := five_cells h3.rd
        have kf := not_frozen (k := 1) h3.rd
        obtain ⟨W4, HW4⟩ : ∃ W4, Hid (W4 = W3.setCell ⟨rb, 1, none⟩ (.int .i64 ((j : Int) + 1))) := ⟨_, hide rfl⟩
        have h4 : AtS w rb m (j + 1) g 0 0 W4 := by rw [HW4.out]; exact h3.on hrb (.setT _ _) (h3.rd.on _ (by go_num))
        have H4 := hide h4
        have hwr : IntKind.i64.wrap ((j : Int) + 1) = (j : Int) + 1 := wrap_i64_small _ (by omega) (by omega)
        have eW4 := HW4.out.symm
        clear h3 HW3 HW4 h4 c0 c1
        go_wp2
        clear eW4 k0 k1 kf
        obtain ⟨d0, d1, _, _, _⟩ := five_cells H4.out.rd
        refine wp_region_free 11 312 Tryz.mixed2 rfl (by decide +kernel) Grow (fun _ _ _ => Grow.trans) (Grow.refl _)
          (fun i v w' => match i with
            | 0 => v = .pointer (some ⟨rb, 0, none⟩)
            | 1 => v = .pointer (some ⟨rb, 0, none⟩)
            | 2 => v = .pointer (some ⟨rb, 0, none⟩)
            | 3 => v = .string (bs m)
            | 4 => v = .pointer (some ⟨rb, 0, none⟩)
            | 5 => v = .pointer (some ⟨rb, 0, none⟩)
            | 6 => v = .pointer (some ⟨rb, 1, none⟩)
            | 7 => v = .int .i64 ((j + 1 : Nat) : Int)
            | 8 => v = .int .i64 (j : Int)
            | 9 => v = .int .u8 (d.toNat : Int)
            | _ => ∃ b, W4.heap.size ≤ b ∧ v = .slice (some ⟨b, 0, none⟩) 256 256 ∧ boolsAt w' b (boolRow (between d d)))
          (fun i v w1 w2 h hg => ?_) (fun _ _ => False) (fun _ _ _ _ h => h.elim) (fun i hi o ho a2 w5 hG hoff hdep => ?_) (fun vals w5 hG hvals => ?_)
        · match i, h with
          | 0, h => exact h
          | 1, h => exact h
          | 2, h => exact h
          | 3, h => exact h
          | 4, h => exact h
          | 5, h => exact h
          | 6, h => exact h
          | 7, h => exact h
          | 8, h => exact h
          | 9, h => exact h
          | k + 10, h =>
            obtain ⟨b, h1, h2, h3⟩ := h
            exact ⟨b, h1, h2, hg.get h3⟩
        · have hg5 : Grow W4 w5 := hG.undrew
          obtain ⟨d0, d1, _, _, _⟩ := five_cells (H4.out.rd.grow hg5)
          match i, hi with
          | 0, _ =>
            obtain rfl := Option.some.inj ho
            have o0 := hoff 0 (by decide +kernel)
            simp at o0
            simp [opYields, go_sem, o0]
            exact Grow.refl _
          | 1, _ =>
            obtain rfl := Option.some.inj ho
            have d0 := hdep 0 (by decide +kernel)
            simp [slotOf, dstOf] at d0
            simp [opYields, go_sem, d0]
            exact Grow.refl _
          | 2, _ =>
            obtain rfl := Option.some.inj ho
            have d1 := hdep 1 (by decide +kernel)
            simp [slotOf, dstOf] at d1
            simp [opYields, go_sem, d1]
            exact Grow.refl _
          | 3, _ =>
            obtain rfl := Option.some.inj ho
            have d2 := hdep 2 (by decide +kernel)
            simp [slotOf, dstOf] at d2
            simp [opYields, go_sem, d2, d0]
            exact Grow.refl _
          | 4, _ =>
            obtain rfl := Option.some.inj ho
            have o0 := hoff 0 (by decide +kernel)
            simp at o0
            simp [opYields, go_sem, o0]
            exact Grow.refl _
          | 5, _ =>
            obtain rfl := Option.some.inj ho
            have d4 := hdep 4 (by decide +kernel)
            simp [slotOf, dstOf] at d4
            simp [opYields, go_sem, d4]
            exact Grow.refl _
          | 6, _ =>
            obtain rfl := Option.some.inj ho
            have d5 := hdep 5 (by decide +kernel)
            simp [slotOf, dstOf] at d5
            simp [opYields, go_sem, d5]
            exact Grow.refl _
          | 7, _ =>
            obtain rfl := Option.some.inj ho
            have d6 := hdep 6 (by decide +kernel)
            simp [slotOf, dstOf] at d6
            simp [opYields, go_sem, d6, d1]
            exact Grow.refl _
          | 8, _ =>
            obtain rfl := Option.some.inj ho
            have d7 := hdep 7 (by decide +kernel)
            simp [slotOf, dstOf] at d7
            simp [opYields, go_sem, d7]
            exact ⟨Grow.refl _, wrap_i64_small _ (by omega) (by omega)⟩
          | 9, _ =>
            obtain rfl := Option.some.inj ho
            have d3 := hdep 3 (by decide +kernel)
            simp [slotOf, dstOf] at d3
            have d8 := hdep 8 (by decide +kernel)
            simp [slotOf, dstOf] at d8
            simp [opYields, go_sem, d3, d8]
            simp [hlt, hd]
            exact Grow.refl _
          | 10, _ =>
            obtain rfl := Option.some.inj ho
            have d9 := hdep 9 (by decide +kernel)
            simp [slotOf, dstOf] at d9
            simp [opYields, go_sem, d9]
            refine (alone_any d w5).mono ?_
            rintro e w6 ⟨rfl, hg6, hb6⟩
            exact ⟨hg6, _, hG.undrew.size, rfl, hb6⟩
          | k + 11, h => exact absurd h (by omega)
        · obtain ⟨b, hb, v10, hbb⟩ := hvals 10 (by omega)
          clear hvals
          have hg5 : Grow W4 w5 := hG.undrew
          have H5 := hide (H4.out.grow hrb hg5)
          have hs4 := H4.out.size
          have HBB := hide hbb
          clear hG hg5 hbb d0 d1
          obtain ⟨⟨r0, r1, r2, r3, r4⟩, rf⟩ := H5.out.cells
          have z0 := rf 0
          have z1 := rf 1
          have z2 := rf 2
          have z3 := rf 3
          have z4 := rf 4
          obtain ⟨Z, eZ, hk, ho, hrd, hkb⟩ := H5.out.store hrb (.bool false) (.slice (some ⟨b, 0, none⟩) 256 256) (.int .i64 0) (.slice none 0 0) (.int .u8 0)
          have HO := hide ho
          have HK := hide hk
          have HRD := hide hrd
          have HKB := hide hkb
          clear rf hk ho hrd hkb
          have HB2 : Hid (boolsAt Z b (boolRow (between d d))) := hide (HBB.out.keep (HKB.out _ (by omega)))
          simp [over, dstOf, Act.put, v10]
          go_wp2
          refine bodyPost_ret (v := pieceV false (.slice (some ⟨b, 0, none⟩) 256 256) 0 (.slice none 0 0) 0) (results_cell_row (p := 2) (ty := 155) rfl _ _ w.heap.size _ _ _ _ rfl HO.out Tryz.underlying155 rfl Tryz.infoPiece) rfl ⟨HK.out, _, rfl, by rw [HE.out]; exact ⟨_, rfl, ⟨_, rfl, by omega, HB2.out⟩, HRD.out⟩⟩
  · have hne : ((j : Int) == m.length) = true := by rw [beq_iff_eq]; omega
    have HE : Hid (y = .error (1, j)) := by
      show _ = _
      have h := HY.out
      rw [List.getElem?_eq_none_iff.2 (by omega)] at h
      exact Option.some.inj h
    clear HY
    go_wp2_with fail
    go_quiet (fail)
    go_wp2_with fail
    refine (wrong_any _ rb m j g 1 (j : Int) 1 j rfl rfl (HR2.out nq).rd).mono ?_
    rintro en w3 ⟨rfl, hk3, hr3⟩
    have H3 := hide ((HR2.out nq).on hrb hk3 hr3)
    clear hk3 hr3
    obtain ⟨⟨r0, r1, r2, r3, r4⟩, rf⟩ := H3.out.cells
    have z0 := rf 0
    have z1 := rf 1
    have z2 := rf 2
    have z3 := rf 3
    have z4 := rf 4
    obtain ⟨Z, eZ, hk, ho, hrd, hkb⟩ := H3.out.store hrb (.bool false) (.slice none 0 0) (.int .i64 0) (.slice none 0 0) (.int .u8 0)
    have HO := hide ho
    have HK := hide hk
    have HRD := hide hrd
    have HKB := hide hkb
    clear rf hk ho hrd hkb
    go_wp2
    refine bodyPost_ret (v := pieceV false (.slice none 0 0) 0 (.slice none 0 0) 0) (results_cell_row (p := 2) (ty := 155) rfl _ _ w.heap.size _ _ _ _ rfl HO.out Tryz.underlying155 rfl Tryz.infoPiece) rfl ⟨HK.out, _, rfl, by rw [HE.out]; exact ⟨rfl, j, HRD.out⟩⟩

end Go.Proofs.YtndpjdmfkhjiiaaGreatDoor

/- Masks as the document's own reader hands them back: rows of pieces in slices; MayNothing. -/
set_option linter.unusedVariables false
set_option linter.unusedSimpArgs false
namespace Go.Proofs.YtndpjdmfkhjiiaaGreatDoor
open Go.RowKit
attribute [local go_sem] bs_size bs_toList bs_append bs_get bs_extract

/-- A piece's cells. -/
def pieceC5 (gr : Bool) (sv : Value) (n : Int) (rv : Value) (sg : Int) : List Value := [.bool gr, sv, .int .i64 n, rv, .int .u8 sg]
/-- What cells of rows, or of a row, hold, in blocks of which something is known. -/
def cellsAt (w : World) (A : Nat → Prop) : Tr → List Value → Prop
  | .nil, xs => xs = []
  | .set s sg rest, xs => ∃ b l, xs = pieceC5 false (.slice (some ⟨b, 0, none⟩) 256 256) 0 (.slice none 0 0) sg ++ l ∧ A b ∧ boolsAt w b (boolRow s) ∧ cellsAt w A rest l
  | .grp n rows sg rest, xs => ∃ rv k ys l, xs = pieceC5 true (.slice none 0 0) (n + 1 : Nat) rv sg ++ l ∧ w.ownsRow 0 153 1 rv k ys ∧ (∀ b, rv.ownBlock = some b → A b) ∧ cellsAt w A rows ys ∧ cellsAt w A rest l
  | .row r rest, xs => ∃ v k ys l, xs = v :: l ∧ w.ownsRow 0 155 5 v k ys ∧ (∀ b, v.ownBlock = some b → A b) ∧ cellsAt w A r ys ∧ cellsAt w A rest l

theorem cellsAt.keep {w w' : World} {A A' : Nat → Prop} (hk : ∀ k, k < w.heap.size → A k → A' k ∧ w'.heap[k]? = w.heap[k]?) : ∀ {T : Tr} {xs : List Value}, cellsAt w A T xs → cellsAt w' A' T xs
  | .nil, xs, h => h
  | .set s sg rest, xs, h => by
    obtain ⟨b, l, h1, h2, h3, h4⟩ := h
    obtain ⟨k1, k2⟩ := hk b (lt_of_block h3) h2
    exact ⟨b, l, h1, k1, k2.trans h3, cellsAt.keep hk h4⟩
  | .grp n rows sg rest, xs, h => by
    obtain ⟨rv, k, ys, l, h1, h2, h3, h4, h5⟩ := h
    exact ⟨rv, k, ys, l, h1, own_keep h2 fun b hb => (hk b (h2.lt b hb).2 (h3 b hb)).2, fun b hb => (hk b (h2.lt b hb).2 (h3 b hb)).1, cellsAt.keep hk h4, cellsAt.keep hk h5⟩
  | .row r rest, xs, h => by
    obtain ⟨v, k, ys, l, h1, h2, h3, h4, h5⟩ := h
    exact ⟨v, k, ys, l, h1, own_keep h2 fun b hb => (hk b (h2.lt b hb).2 (h3 b hb)).2, fun b hb => (hk b (h2.lt b hb).2 (h3 b hb)).1, cellsAt.keep hk h4, cellsAt.keep hk h5⟩
theorem cellsAt.grow {w w' : World} {A : Nat → Prop} {T : Tr} {xs : List Value} (h : cellsAt w A T xs) (g : Grow w w') : cellsAt w' A T xs := h.keep fun k hk ha => ⟨ha, g.block k hk⟩

/-- Pieces, one by one. -/
inductive Item where
  | set (s : UInt8 → Bool) (sg : Nat)
  | grp (n : Nat) (rows : Tr) (sg : Nat)
def Item.on : Item → Tr → Tr
  | .set s sg, T => .set s sg T
  | .grp n rows sg, T => .grp n rows sg T
def rowT (l : List Item) (T : Tr) : Tr := l.foldr Item.on T
def itemAt (w : World) (A : Nat → Prop) : Item → List Value → Prop
  | .set s sg, xs => ∃ b, xs = pieceC5 false (.slice (some ⟨b, 0, none⟩) 256 256) 0 (.slice none 0 0) sg ∧ A b ∧ boolsAt w b (boolRow s)
  | .grp n rows sg, xs => ∃ rv k ys, xs = pieceC5 true (.slice none 0 0) (n + 1 : Nat) rv sg ∧ w.ownsRow 0 153 1 rv k ys ∧ (∀ b, rv.ownBlock = some b → A b) ∧ cellsAt w A rows ys
theorem itemAt.length {w : World} {A : Nat → Prop} : ∀ {it : Item} {xs : List Value}, itemAt w A it xs → xs.length = 5
  | .set s sg, xs, ⟨b, h, _⟩ => by rw [h]; rfl
  | .grp n rows sg, xs, ⟨rv, k, ys, h, _⟩ => by rw [h]; rfl
theorem itemAt.keep {w w' : World} {A A' : Nat → Prop} (hk : ∀ k, k < w.heap.size → A k → A' k ∧ w'.heap[k]? = w.heap[k]?) : ∀ {it : Item} {xs : List Value}, itemAt w A it xs → itemAt w' A' it xs
  | .set s sg, xs, ⟨b, h1, h2, h3⟩ => by
    obtain ⟨k1, k2⟩ := hk b (lt_of_block h3) h2
    exact ⟨b, h1, k1, k2.trans h3⟩
  | .grp n rows sg, xs, ⟨rv, k, ys, h1, h2, h3, h4⟩ => ⟨rv, k, ys, h1, own_keep h2 fun b hb => (hk b (h2.lt b hb).2 (h3 b hb)).2, fun b hb => (hk b (h2.lt b hb).2 (h3 b hb)).1, cellsAt.keep hk h4⟩
theorem cellsAt_on {w : World} {A : Nat → Prop} {it : Item} {T : Tr} {xs : List Value} : cellsAt w A (it.on T) xs ↔ ∃ ys l, xs = ys ++ l ∧ itemAt w A it ys ∧ cellsAt w A T l := by
  cases it with
  | set s sg =>
    constructor
    · rintro ⟨b, l, h1, h2, h3, h4⟩; exact ⟨_, l, h1, ⟨b, rfl, h2, h3⟩, h4⟩
    · rintro ⟨ys, l, rfl, ⟨b, rfl, h2, h3⟩, h4⟩; exact ⟨b, l, rfl, h2, h3, h4⟩
  | grp n rows sg =>
    constructor
    · rintro ⟨rv, k, ys, l, h1, h2, h3, h4, h5⟩; exact ⟨_, l, h1, ⟨rv, k, ys, rfl, h2, h3, h4⟩, h5⟩
    · rintro ⟨ys, l, rfl, ⟨rv, k, zs, rfl, h2, h3, h4⟩, h5⟩; exact ⟨rv, k, zs, l, rfl, h2, h3, h4, h5⟩
theorem cellsAt_snoc {w : World} {A : Nat → Prop} {it : Item} {ys : List Value} (hi : itemAt w A it ys) : ∀ {l : List Item} {xs : List Value}, cellsAt w A (rowT l .nil) xs → cellsAt w A (rowT (l ++ [it]) .nil) (xs ++ ys)
  | [], xs, h => by
    obtain rfl : xs = [] := h
    exact cellsAt_on.2 ⟨ys, [], by simp, hi, rfl⟩
  | x :: l, xs, h => by
    obtain ⟨zs, r, rfl, h1, h2⟩ := cellsAt_on.1 h
    exact cellsAt_on.2 ⟨zs, r ++ ys, by simp, h1, cellsAt_snoc hi h2⟩
theorem cellsAt_item {w : World} {A : Nat → Prop} : ∀ {l : List Item} {xs : List Value}, cellsAt w A (rowT l .nil) xs → xs.length = l.length * 5 ∧ ∀ (k : Nat) (it : Item), l[k]? = some it → ∃ ys, itemAt w A it ys ∧ ∀ j, j < 5 → xs[k * 5 + j]? = ys[j]?
  | [], xs, h => by
    obtain rfl : xs = [] := h
    exact ⟨rfl, fun k it hk => by simp at hk⟩
  | x :: l, xs, h => by
    obtain ⟨zs, r, rfl, h1, h2⟩ := cellsAt_on.1 h
    obtain ⟨h3, h4⟩ := cellsAt_item h2
    have hz := h1.length
    refine ⟨by simp [hz, h3]; omega, fun k it hk => ?_⟩
    cases k with
    | zero =>
      simp at hk
      subst hk
      exact ⟨zs, h1, fun j hj => by rw [List.getElem?_append_left (by omega)]; simp⟩
    | succ k =>
      obtain ⟨ys, h5, h6⟩ := h4 k it (by simpa using hk)
      refine ⟨ys, h5, fun j hj => ?_⟩
      rw [List.getElem?_append_right (by omega), ← h6 j hj, show (k + 1) * 5 + j - zs.length = k * 5 + j by omega]

/-- A row in a slice. -/
def rowAt (w : World) (A : Nat → Prop) (r : Tr) (v : Value) : Prop := ∃ k ys, w.ownsRow 0 155 5 v k ys ∧ (∀ b, v.ownBlock = some b → A b) ∧ cellsAt w A r ys
theorem rowAt.keep {w w' : World} {A A' : Nat → Prop} {r : Tr} {v : Value} (hk : ∀ k, k < w.heap.size → A k → A' k ∧ w'.heap[k]? = w.heap[k]?) (h : rowAt w A r v) : rowAt w' A' r v := by
  obtain ⟨k, ys, h2, h3, h4⟩ := h
  exact ⟨k, ys, own_keep h2 fun b hb => (hk b (h2.lt b hb).2 (h3 b hb)).2, fun b hb => (hk b (h2.lt b hb).2 (h3 b hb)).1, h4.keep hk⟩
theorem cellsAt_row {w : World} {A : Nat → Prop} {r rest : Tr} {xs : List Value} : cellsAt w A (.row r rest) xs ↔ ∃ v l, xs = v :: l ∧ rowAt w A r v ∧ cellsAt w A rest l :=
  ⟨fun ⟨v, k, ys, l, h1, h2, h3, h4, h5⟩ => ⟨v, l, h1, ⟨k, ys, h2, h3, h4⟩, h5⟩, fun ⟨v, l, h1, ⟨k, ys, h2, h3, h4⟩, h5⟩ => ⟨v, k, ys, l, h1, h2, h3, h4, h5⟩⟩
theorem cellsAt_rows_snoc {w : World} {A : Nat → Prop} {r : Tr} {v : Value} (hr : rowAt w A r v) : ∀ {rs : List Tr} {xs : List Value}, cellsAt w A (rowsOf rs .nil) xs → cellsAt w A (rowsOf (rs ++ [r]) .nil) (xs ++ [v])
  | [], xs, h => by
    obtain rfl : xs = [] := h
    exact cellsAt_row.2 ⟨v, [], rfl, hr, rfl⟩
  | x :: rs, xs, h => by
    obtain ⟨u, l, rfl, h1, h2⟩ := cellsAt_row.1 h
    exact cellsAt_row.2 ⟨u, l ++ [v], rfl, h1, cellsAt_rows_snoc hr h2⟩
theorem cellsAt_rows {w : World} {A : Nat → Prop} : ∀ {rs : List Tr} {xs : List Value}, cellsAt w A (rowsOf rs .nil) xs → xs.length = rs.length ∧ ∀ (k : Nat) (r : Tr), rs[k]? = some r → ∃ v, xs[k]? = some v ∧ rowAt w A r v
  | [], xs, h => by
    obtain rfl : xs = [] := h
    exact ⟨rfl, fun k it hk => by simp at hk⟩
  | x :: rs, xs, h => by
    obtain ⟨u, l, rfl, h1, h2⟩ := cellsAt_row.1 h
    obtain ⟨h3, h4⟩ := cellsAt_rows h2
    refine ⟨by simp [h3], fun k r hk => ?_⟩
    cases k with
    | zero => simp at hk; subst hk; exact ⟨u, rfl, h1⟩
    | succ k =>
      obtain ⟨v, h5, h6⟩ := h4 k r (by simpa using hk)
      exact ⟨v, by simpa using h5, h6⟩

/-- Rows are rows of pieces. -/
theorem wf_parts : ∀ T : Tr, (wf false T → ∃ l, T = rowT l .nil ∧ ∀ n rows sg, Item.grp n rows sg ∈ l → wf true rows ∧ sz rows < sz T) ∧ (wf true T → ∃ rs, rs ≠ [] ∧ T = rowsOf rs .nil ∧ ∀ r ∈ rs, wf false r ∧ sz r < sz T)
  | .nil => ⟨fun _ => ⟨[], rfl, fun n rows sg h => by simp at h⟩, fun h => h.elim⟩
  | .set s sg rest => ⟨fun h => by
      obtain ⟨l, h1, h2⟩ := (wf_parts rest).1 h
      refine ⟨.set s sg :: l, by rw [h1]; rfl, fun n rows sg' hm => ?_⟩
      rcases List.mem_cons.1 hm with hm | hm
      · cases hm
      · obtain ⟨h3, h4⟩ := h2 n rows sg' hm
        exact ⟨h3, by simp only [sz] at *; omega⟩, fun h => by cases h⟩
  | .grp n rows sg rest => ⟨fun h => by
      obtain ⟨l, h1, h2⟩ := (wf_parts rest).1 h.2
      refine ⟨.grp n rows sg :: l, by rw [h1]; rfl, fun n' rows' sg' hm => ?_⟩
      rcases List.mem_cons.1 hm with hm | hm
      · cases hm
        exact ⟨h.1, by simp only [sz] at *; omega⟩
      · obtain ⟨h3, h4⟩ := h2 n' rows' sg' hm
        exact ⟨h3, by simp only [sz] at *; omega⟩, fun h => by cases h⟩
  | .row r rest => ⟨fun h => h.elim, fun h => by
      have hr : wf false r := by
        cases rest with
        | nil => exact h
        | set s sg rest => exact h.1
        | grp n rows sg rest => exact h.1
        | row a b => exact h.1
      by_cases hn : rest = .nil
      · subst hn
        exact ⟨[r], by simp, rfl, fun x hx => by simp at hx; subst hx; exact ⟨hr, by simp [sz]⟩⟩
      · have hw : wf true rest := by
          cases rest with
          | nil => exact absurd rfl hn
          | set s sg rest => exact h.2
          | grp n rows sg rest => exact h.2
          | row a b => exact h.2
        obtain ⟨rs, h1, h2, h3⟩ := (wf_parts rest).2 hw
        refine ⟨r :: rs, by simp, by rw [h2]; rfl, fun x hx => ?_⟩
        rcases List.mem_cons.1 hx with rfl | hx
        · exact ⟨hr, by simp only [sz] at *; omega⟩
        · obtain ⟨h4, h5⟩ := h3 x hx
          exact ⟨h4, by simp only [sz] at *; omega⟩⟩

def Item.nothing : Item → Bool
  | .set _ sg => sg = 42 || sg = 63
  | .grp _ rows sg => sg = 42 || sg = 63 || Go.Proofs.YtndpjdmfkhjiiaaGreatDoor.nothing rows
theorem nothing_rowT : ∀ l : List Item, nothing (rowT l .nil) = l.all Item.nothing
  | [] => rfl
  | .set s sg :: l => by show ((_ || _) && nothing (rowT l .nil)) = _; rw [nothing_rowT l]; rfl
  | .grp n rows sg :: l => by show ((_ || _ || _) && nothing (rowT l .nil)) = _; rw [nothing_rowT l]; rfl

end Go.Proofs.YtndpjdmfkhjiiaaGreatDoor

/- The document's own MayNothing: may rows take nothing? -/
set_option linter.unusedVariables false
set_option linter.unusedSimpArgs false
namespace Go.Proofs.YtndpjdmfkhjiiaaGreatDoor
open Go.RowKit
attribute [local go_sem] bs_size bs_toList bs_append bs_get bs_extract

theorem own_len {w : World} {B e size n : Nat} {v : Value} {xs : List Value} (h : w.ownsRow B e size v n xs) : xs.length = n * size := by simpa using h.1
/-- A row that has something lies in a block. -/
theorem own_block {w : World} {B e size n : Nat} {v : Value} {xs : List Value} (h : w.ownsRow B e size v n xs) (hn : 0 < n) : ∃ b cp, v = .slice (some ⟨b, 0, none⟩) n cp ∧ b < w.heap.size ∧ ∀ i u, xs[i]? = some u → w.cell? ⟨b, i, none⟩ = some u := by
  rcases h.2 with ⟨_, h0⟩ | ⟨g, cap, cur, rfl, _, h2, _⟩
  · omega
  · exact ⟨g, cap, rfl, lt_of_block h2, fun i u hu => own_cell h hu⟩
theorem rowT_len : ∀ l : List Item, l.length ≤ sz (rowT l .nil)
  | [] => Nat.le_refl _
  | .set s sg :: l => by
    have := rowT_len l
    show l.length + 1 ≤ 2 + again sg + sz (rowT l .nil)
    omega
  | .grp n rows sg :: l => by
    have := rowT_len l
    show l.length + 1 ≤ 4 + again sg + sz rows + sz (rowT l .nil)
    omega
theorem rowsOf_len : ∀ rs : List Tr, rs.length ≤ sz (rowsOf rs .nil)
  | [] => Nat.le_refl _
  | r :: rs => by
    have := rowsOf_len rs
    show rs.length + 1 ≤ sz r + 1 + sz (rowsOf rs .nil)
    omega
theorem laid_five (w : World) (x0 x1 x2 x3 x4 : Value) (t : TypeId) : ∃ W : World, w.alloc (.cells #[x0, x1, x2, x3, x4] t) = W ∧ Grow w W ∧ W.heap[w.heap.size]? = some (.cells #[x0, x1, x2, x3, x4] t (0, 0)) := ⟨_, rfl, (Grow.refl _).alloc _, heap_alloc_new _ _⟩

set_option maxRecDepth 20000 in
set_option maxHeartbeats 4000000 in
theorem mayNothing_any : ∀ (n : Nat) (T : Tr), sz T ≤ n → wf true T → ∀ (w : World) (A : Nat → Prop) (v : Value) (k : Nat) (ys : List Value), w.ownsRow 0 153 1 v k ys → cellsAt w A T ys → k ≤ 1000000 →
    (∀ r ∈ [T], sz r ≤ 1000000) →
    Calls Tryz.prog 108 #[v] w fun e w' => e = .returned (.bool (nothing T)) ∧ Grow w w' := by
  intro n
  induction n using Nat.strongRecOn with
  | _ n ih =>
    intro T hn hwf w A v k ys hv hc hk hsz
    obtain ⟨rs, hrs, rfl, hparts⟩ := (wf_parts T).2 hwf
    obtain ⟨hlen, hrows⟩ := cellsAt_rows hc
    have hyk := own_len hv
    have hrk : rs.length = k := by omega
    have hszT : sz (rowsOf rs .nil) ≤ 1000000 := hsz _ (by simp)
    have HP := hide hparts
    have HR := hide hrows
    have HT := hide (nothing_rows rs hrs)
    have hk0 : 0 < k := by
      rw [← hrk]
      exact List.length_pos_iff.2 hrs
    obtain ⟨vb, vc, rfl, hvb, hvcell⟩ := own_block hv hk0
    have HVC := hide hvcell
    have HIH : Hid (∀ m T', m < n → sz T' ≤ m → wf true T' → ∀ (w : World) (A : Nat → Prop) (v : Value) (k : Nat) (ys : List Value), w.ownsRow 0 153 1 v k ys → cellsAt w A T' ys → k ≤ 1000000 → sz T' ≤ 1000000 →
        Calls Tryz.prog 108 #[v] w fun e w' => e = .returned (.bool (nothing T')) ∧ Grow w w') := hide fun m T' hm h1 h2 w A v k ys h3 h4 h5 h6 => ih m hm T' h1 h2 w A v k ys h3 h4 h5 (by simpa using h6)
    clear ih hc hv hparts hrows hvcell hrs hsz
    go_enter Tryz.func108, Tryz.ntmps108
    go_wp2
    go_loopw [3] (fun iv wr => ∃ i : Nat, i ≤ k ∧ iv = .int .i64 i ∧ Hid (Grow w wr) ∧ Hid (∀ j r, j < i → rs[j]? = some r → nothing r = false)) (fun iv _ => k - (intOf iv).toNat)
    case atStart => exact ⟨0, by omega, rfl, hide (Grow.refl _), hide fun j r hj => by omega⟩
    case round =>
      obtain ⟨i, hi, rfl, HG, HN⟩ := hrel
      by_cases hlt : i < k
      · have hlt2 : (i : Int) < (k : Int) := by omega
        obtain ⟨r, hr⟩ : ∃ r, rs[i]? = some r := ⟨_, List.getElem?_eq_getElem (by omega)⟩
        obtain ⟨rv, hyi, kr, zs, hrow, _, hcr⟩ := HR.out i r hr
        obtain ⟨hwr, hsr⟩ := HP.out r (List.mem_of_getElem? hr)
        obtain ⟨l, rfl, hits⟩ := (wf_parts r).1 hwr
        obtain ⟨hzl, hitem⟩ := cellsAt_item hcr
        have hzk := own_len hrow
        have hkl : kr = l.length := by omega
        subst hkl
        obtain ⟨ro, rc, rfl⟩ := own_shape hrow
        have HI := hide hitem
        have HITS := hide hits
        have HROW := hide hrow
        have hrc := HVC.out i _ hyi
        have hrcr := (cell_keep (sp := none) (o := i) (HG.out.block vb hvb)).trans hrc
        have HRC := hide hrc
        have HIR := hide hr
        have hll : l.length ≤ 1000000 := by
          have h1 := rowT_len l
          omega
        clear hits hitem hrow hcr hrc hr hyi hzl hzk hwr
        go_wp2
        go_loopw [4, 5] (fun av kv wr2 => ∃ q : Nat, q ≤ l.length ∧ kv = .int .i64 q ∧ av = .bool ((l.take q).all Item.nothing) ∧ Hid (Grow w wr2)) (fun _ kv _ => l.length - (intOf kv).toNat)
        case atStart => exact ⟨0, by omega, rfl, rfl, HG⟩
        case round =>
          obtain ⟨q, hq, rfl, rfl, HG2⟩ := hrel
          rename World => wr2
          have hrc2 := (cell_keep (sp := none) (o := i) (HG2.out.block vb hvb)).trans HRC.out
          by_cases hql : q < l.length
          · have hql2 : (q : Int) < (l.length : Int) := by omega
            obtain ⟨it, hit⟩ : ∃ it, l[q]? = some it := ⟨_, List.getElem?_eq_getElem hql⟩
            have HTK : Hid ((l.take (q + 1)).all Item.nothing = ((l.take q).all Item.nothing && it.nothing)) := by
              show _ = _
              rw [List.take_add_one, hit]
              simp
            obtain ⟨xs, hia, hcells⟩ := HI.out q it hit
            obtain ⟨rb, rc', hre, hrb, hrcell⟩ := own_block HROW.out (by omega)
            simp at hre
            obtain ⟨rfl, rfl⟩ := hre
            have hpc : ∀ j, j < 5 → ∀ u, xs[j]? = some u → wr2.cell? ⟨rb, q * 5 + j, none⟩ = some u := fun j hj u hu =>
              (cell_keep (sp := none) (o := q * 5 + j) (HG2.out.block rb hrb)).trans (hrcell _ _ ((hcells j hj).trans hu))
            generalize (l.take q).all Item.nothing = av at HTK ⊢
            cases it with
            | set s sg =>
              obtain ⟨b, hxs, _, _⟩ := hia
              have p0 := hpc 0 (by omega) _ (by rw [hxs]; rfl)
              rw [Nat.add_zero] at p0
              have p1 := hpc 1 (by omega) _ (by rw [hxs]; rfl)
              have p2 := hpc 2 (by omega) _ (by rw [hxs]; rfl)
              have p3 := hpc 3 (by omega) _ (by rw [hxs]; rfl)
              have p4 := hpc 4 (by omega) _ (by rw [hxs]; rfl)
              obtain ⟨W, eW, gW, hW⟩ := laid_five wr2 (.bool false) (.slice (some ⟨b, 0, none⟩) 256 256) (.int .i64 0) (.slice none 0 0) (.int .u8 (sg : Int)) 155
              obtain ⟨q0, q1, q2, q3, q4⟩ := five_cells hW
              have HGW : Hid (Grow w W) := hide (HG2.out.trans gW)
              clear hW gW
              cases av with
              | false =>
                clear hpc HI HITS
                go_wp2
                refine ⟨⟨q + 1, by omega, by go_num, by rw [HTK.out]; rfl, HGW⟩, ?_⟩
                simp [intOf]; omega
              | true =>
                by_cases h42 : sg = 42
                · have e42 : ((sg : Int) == 42) = true := by simp [h42]
                  have H42 := hide h42
                  clear h42
                  clear hpc HI HITS
                  go_wp2
                  refine ⟨⟨q + 1, by omega, by go_num, by rw [HTK.out]; simp [Item.nothing, H42.out], HGW⟩, ?_⟩
                  simp [intOf]; omega
                · have e42 : ((sg : Int) == 42) = false := by simp; omega
                  have H42 := hide h42
                  clear h42
                  by_cases h63 : sg = 63
                  · have e63 : ((sg : Int) == 63) = true := by simp [h63]
                    have H63 := hide h63
                    clear h63
                    clear hpc HI HITS
                    go_wp2
                    refine ⟨⟨q + 1, by omega, by go_num, by rw [HTK.out]; simp [Item.nothing, H63.out], HGW⟩, ?_⟩
                    simp [intOf]; omega
                  · have e63 : ((sg : Int) == 63) = false := by simp; omega
                    have H63 := hide h63
                    clear h63
                    clear hpc HI HITS
                    go_wp2
                    refine ⟨⟨q + 1, by omega, by go_num, by rw [HTK.out]; simp [Item.nothing, H42.out, H63.out], HGW⟩, ?_⟩
                    simp [intOf]; omega
            | grp n' rows sg =>
              obtain ⟨rv, kq, yq, hxs, hown, _, hcq⟩ := hia
              obtain ⟨rvo, rvc, rfl⟩ := own_shape hown
              obtain ⟨nn, hnn⟩ : ∃ nn : Nat, n' + 1 = nn := ⟨_, rfl⟩
              rw [hnn] at hxs
              have p0 := hpc 0 (by omega) _ (by rw [hxs]; rfl)
              rw [Nat.add_zero] at p0
              have p1 := hpc 1 (by omega) _ (by rw [hxs]; rfl)
              have p2 := hpc 2 (by omega) _ (by rw [hxs]; rfl)
              have p3 := hpc 3 (by omega) _ (by rw [hxs]; rfl)
              have p4 := hpc 4 (by omega) _ (by rw [hxs]; rfl)
              obtain ⟨W, eW, gW, hW⟩ := laid_five wr2 (.bool true) (.slice none 0 0) (.int .i64 (nn : Int)) (.slice rvo kq rvc) (.int .u8 (sg : Int)) 155
              obtain ⟨q0, q1, q2, q3, q4⟩ := five_cells hW
              have HGW : Hid (Grow w W) := hide (HG2.out.trans gW)
              clear hW gW
              cases av with
              | false =>
                clear hpc HI HITS
                go_wp2
                refine ⟨⟨q + 1, by omega, by go_num, by rw [HTK.out]; rfl, HGW⟩, ?_⟩
                simp [intOf]; omega
              | true =>
                by_cases h42 : sg = 42
                · have e42 : ((sg : Int) == 42) = true := by simp [h42]
                  have H42 := hide h42
                  clear h42
                  clear hpc HI HITS
                  go_wp2
                  refine ⟨⟨q + 1, by omega, by go_num, by rw [HTK.out]; simp [Item.nothing, H42.out], HGW⟩, ?_⟩
                  simp [intOf]; omega
                · have e42 : ((sg : Int) == 42) = false := by simp; omega
                  have H42 := hide h42
                  clear h42
                  by_cases h63 : sg = 63
                  · have e63 : ((sg : Int) == 63) = true := by simp [h63]
                    have H63 := hide h63
                    clear h63
                    clear hpc HI HITS
                    go_wp2
                    refine ⟨⟨q + 1, by omega, by go_num, by rw [HTK.out]; simp [Item.nothing, H63.out], HGW⟩, ?_⟩
                    simp [intOf]; omega
                  · have e63 : ((sg : Int) == 63) = false := by simp; omega
                    have H63 := hide h63
                    clear h63
                    have hmem : Item.grp n' rows sg ∈ l := List.mem_of_getElem? hit
                    obtain ⟨hwr2, hsz2⟩ := HITS.out n' rows sg hmem
                    have hkq : kq ≤ 1000000 := by
                      obtain ⟨rs2, _, rfl, _⟩ := (wf_parts rows).2 hwr2
                      have h1 := (cellsAt_rows hcq).1
                      have h2 := own_len hown
                      have h3 := rowsOf_len rs2
                      omega
                    have HREC : Hid (∀ _ : World, Calls Tryz.prog 108 #[.slice rvo kq rvc] W fun e w' => e = .returned (.bool (nothing rows)) ∧ Grow W w') := hide fun _ =>
                      HIH.out (sz rows) rows (by omega) (Nat.le_refl _) hwr2 W A _ kq yq (own_grow hown (HGW.out)) (hcq.grow HGW.out) hkq (by omega)
                    clear hpc HI HITS
                    go_wp2_with fail
                    refine (HREC.out W).mono ?_
                    rintro e W2 ⟨rfl, hg5⟩
                    have HGV : Hid (Grow w W2) := hide (HGW.out.trans hg5)
                    clear hg5
                    obtain ⟨nb, HNB⟩ : ∃ nb, Hid (nothing rows = nb) := ⟨_, hide rfl⟩
                    rw [HNB.out]
                    go_wp2
                    refine ⟨⟨q + 1, by omega, by go_num, by rw [HTK.out]; simp [Item.nothing, H42.out, H63.out, HNB.out], HGV⟩, ?_⟩
                    simp [intOf]; omega
          · obtain rfl : q = l.length := by omega
            have hql2 : ¬ (l.length : Int) < (l.length : Int) := by omega
            have hall := nothing_rowT l
            rw [List.take_length]
            cases hb : nothing (rowT l .nil) with
            | true =>
              rw [hb] at hall
              rw [← hall]
              have HTT : Hid (nothing (rowsOf rs .nil) = true) := by
                show _ = _
                rw [HT.out, List.any_eq_true]
                exact ⟨_, List.mem_of_getElem? HIR.out, hb⟩
              clear hb hall
              go_wp2
              go_ret
              exact ⟨ret_bool HTT.out.symm, HG2.out⟩
            | false =>
              rw [hb] at hall
              rw [← hall]
              have HN2 : Hid (∀ j r, j < i + 1 → rs[j]? = some r → nothing r = false) := hide fun j r hj hr => by
                by_cases e : j = i
                · subst e
                  rw [HIR.out] at hr
                  cases hr
                  exact hb
                · exact HN.out j r (by omega) hr
              clear hb hall
              go_wp2
              refine ⟨⟨i + 1, by omega, by go_num, HG2, HN2⟩, ?_⟩
              simp [intOf]; omega
      · obtain rfl : i = k := by omega
        have hlt2 : ¬ (i : Int) < (i : Int) := by omega
        have HTT : Hid (nothing (rowsOf rs .nil) = false) := by
          show _ = _
          rw [HT.out, List.any_eq_false]
          intro r hr
          obtain ⟨j, hj, rfl⟩ := List.getElem_of_mem hr
          rw [HN.out j _ (by omega) (List.getElem?_eq_getElem hj)]
          simp
        go_wp2
        go_ret
        exact ⟨ret_bool HTT.out.symm, HG.out⟩

end Go.Proofs.YtndpjdmfkhjiiaaGreatDoor
