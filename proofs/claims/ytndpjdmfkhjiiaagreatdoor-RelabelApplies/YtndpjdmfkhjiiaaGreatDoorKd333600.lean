/- 7 texts in one. -/
import Derived.Laws.OwnMore
import Derived.Test.YtndpjdmfkhjiiaaGreatDoorProg
import Derived.Test.YtndpjdmfkhjiiaaGreatDoorK06d19db
import Derived.Test.YtndpjdmfkhjiiaaGreatDoorKf4a3d8c
import Derived.Test.YtndpjdmfkhjiiaaGreatDoorKd196569
import Derived.Test.YtndpjdmfkhjiiaaGreatDoorK93a5441
import Derived.Test.YtndpjdmfkhjiiaaGreatDoorKab9fbe2
import Derived.Test.YtndpjdmfkhjiiaaGreatDoorKf9caae4
import Derived.Test.YtndpjdmfkhjiiaaGreatDoorK0a1b4ba
import Derived.Test.YtndpjdmfkhjiiaaGreatDoorK34ee0da
import Derived.BigQuiet
import Derived.Test.YtndpjdmfkhjiiaaGreatDoorKd9a114a
import Derived.Test.YtndpjdmfkhjiiaaGreatDoorK98fb42d
set_option linter.unusedVariables false
set_option linter.unusedSimpArgs false
namespace Go.Proofs.YtndpjdmfkhjiiaaGreatDoor
open Go.RowKit
attribute [local go_sem] bs_size bs_toList bs_append bs_get bs_extract
/-- A set as a row of 256. -/
def boolRow (s : UInt8 → Bool) : List Bool := (List.range 256).map fun k => s (UInt8.ofNat k)
theorem boolRow_length (s) : (boolRow s).length = 256 := by simp [boolRow]
theorem boolRow_get (s : UInt8 → Bool) {k : Nat} (h : k < 256) : (boolRow s)[k]? = some (s (UInt8.ofNat k)) := by simp [boolRow, h]
theorem boolRow_at (s : UInt8 → Bool) (c : UInt8) : (boolRow s)[c.toNat]? = some (s c) := by rw [boolRow_get s c.toNat_lt, UInt8.ofNat_toNat]
theorem boolRow_none : List.replicate 256 false = boolRow (fun _ => false) := by
 show _ = (List.range 256).map (Function.const _ false)
 rw [List.map_const, List.length_range]
theorem boolRow_set (s : UInt8 → Bool) (k : Nat) (h : k < 256) (b : Bool) : (boolRow s).set k b = boolRow (fun c => if c.toNat = k then b else s c) := by
 apply List.ext_getElem?
 intro j
 by_cases hj : j < 256
 ·
  rw [boolRow_get _ hj]
  by_cases e : j = k
  ·
   subst e
   rw [List.getElem?_set_self (by rw [boolRow_length]; exact hj)]
   simp [Nat.mod_eq_of_lt hj]
  ·
   rw [List.getElem?_set_ne (fun h => e h.symm), boolRow_get _ hj]
   simp [Nat.mod_eq_of_lt hj, e]
 ·
  rw [List.getElem?_eq_none_iff.2 (by rw [List.length_set, boolRow_length]; omega), List.getElem?_eq_none_iff.2 (by rw [boolRow_length]; omega)]
def boolsAt (w : World) (b : Nat) (l : List Bool) : Prop := w.heap[b]? = some (.cells (l.map Value.bool).toArray 4 (0, 0))
theorem boolsAt.cell {w : World} {b k : Nat} {l : List Bool} (h : boolsAt w b l) {x} (hk : l[k]? = some x) : w.cell? ⟨b, k, none⟩ = some (.bool x) := cell_in h (by simp [hk])
theorem boolsAt.set {w : World} {b : Nat} {l : List Bool} (h : boolsAt w b l) (k : Nat) (x : Bool) : boolsAt (w.setCell ⟨b, k, none⟩ (.bool x)) b (l.set k x) := by
 have := set_blk h (i := k) (.bool x)
 unfold boolsAt
 rw [this]
 congr 1
 simp [List.map_set]
theorem boolsAt.keep {w w' : World} {b : Nat} {l : List Bool} (h : boolsAt w b l) (k : w'.heap[b]? = w.heap[b]?) : boolsAt w' b l := k.trans h
/-- A set that stays. -/
def setAt (w : World) (v : Value) (s : UInt8 → Bool) : Prop := ∃ b, v = .slice (some ⟨b, 0, none⟩) 256 256 ∧ boolsAt w b (boolRow s)
theorem setAt.grow {w w' : World} {v : Value} {s : UInt8 → Bool} (h : setAt w v s) (g : Grow w w') : setAt w' v s := by
 obtain ⟨b, h1, h2⟩ := h
 exact ⟨b, h1, g.get h2⟩
theorem only_one (c : UInt8) : (fun x : UInt8 => if x.toNat = c.toNat then true else false) = between c c := by
 funext x
 unfold between
 by_cases h : x.toNat = c.toNat
 ·
  simp [h]
 ·
  rw [if_neg h]
  have : ¬ (c.toNat ≤ x.toNat ∧ x.toNat ≤ c.toNat) := by omega
  by_cases h1 : c.toNat ≤ x.toNat
  ·
   have h2 : ¬ x.toNat ≤ c.toNat := by omega
   simp [h1, h2]
  ·
   simp [h1]
set_option maxRecDepth 20000 in
theorem alone_any (c : UInt8) (w : World) : Calls Tryz.prog 124 #[.int .u8 (c.toNat : Int)] w fun e w' => e = .returned (.slice (some ⟨w.heap.size, 0, none⟩) 256 256) ∧ Grow w w' ∧ boolsAt w' w.heap.size (boolRow (between c c)) := by
 have hmk0 := make_bools 256 (by decide) w
 have hc := c.toNat_lt
 obtain ⟨A, HA⟩ : ∃ A, Hid (A = w.alloc (.cells (Array.replicate 256 (Value.bool false)) 4)) := ⟨_, hide rfl⟩
 have hA : boolsAt A w.heap.size (boolRow (fun _ => false)) := by
  rw [HA.out, ← boolRow_none]
  unfold boolsAt
  rw [heap_alloc_new, List.map_replicate, List.toArray_replicate]
 have gA : Grow w A := by rw [HA.out]; exact (Grow.refl _).alloc _
 have hcell := hA.cell (boolRow_at _ c)
 have fz := not_frozen (k := c.toNat) hA
 rw [← HA.out] at hmk0
 have hmk : (Instr.makeSlice 120 (.int .i64 256) (.int .i64 256)).run Tryz.prog w = .ok (.slice (some ⟨w.heap.size, 0, none⟩) 256 256) A := hmk0
 have HA1 := hide hA
 have GA := hide gA
 clear hA gA HA hmk0
 go_enter Tryz.func124, Tryz.ntmps124
 go_wp2
 go_ret
 refine ⟨rfl, GA.out.setCell (Nat.le_refl _) _, ?_⟩
 have := HA1.out.set c.toNat true
 rw [boolRow_set _ _ hc, only_one] at this
 exact this
/-- A piece in a block, and what it is when it is handed back. -/
theorem Tryz.infoPiece : (Tryz.prog.info? 155).map (·.size) = some 5 := by kernel_rfl
theorem set_five {w : World} {b : Nat} {y0 y1 y2 y3 y4 : Value} {t : TypeId} (h : w.heap[b]? = some (.cells #[y0, y1, y2, y3, y4] t (0, 0))) (x0 x1 x2 x3 x4 : Value) :
  (((((w.setCell ⟨b, 0, none⟩ x0).setCell ⟨b, 1, none⟩ x1).setCell ⟨b, 2, none⟩ x2).setCell ⟨b, 3, none⟩ x3).setCell ⟨b, 4, none⟩ x4).heap[b]? = some (.cells #[x0, x1, x2, x3, x4] t (0, 0)) := by
 rw [set_blk (set_blk (set_blk (set_blk (set_blk h _) _) _) _)]
 simp
theorem grow_five {w v : World} {b : Nat} (g : Below w.heap.size w v) (hb : w.heap.size ≤ b) (x0 x1 x2 x3 x4 : Value) :
  Below w.heap.size w (((((v.setCell ⟨b, 0, none⟩ x0).setCell ⟨b, 1, none⟩ x1).setCell ⟨b, 2, none⟩ x2).setCell ⟨b, 3, none⟩ x3).setCell ⟨b, 4, none⟩ x4) :=
 ((((g.setCell hb _).setCell hb _).setCell hb _).setCell hb _).setCell hb _
/-- A piece's value. -/
def pieceV (gr : Bool) (sv : Value) (n : Int) (rv : Value) (sg : Int) : Value := .agg #[.bool gr, sv, .int .i64 n, rv, .int .u8 sg]
abbrev pieceZ : Array Value := #[.bool false, .slice none 0 0, .int .i64 0, .slice none 0 0, .int .u8 0]
/-- While a piece is read: what has stayed, the block that is handed back, and the reader. -/
structure AtS (w : World) (rb : Nat) (m : List UInt8) (i g e a : Nat) (W : World) : Prop where
 kept : Kept2 rb rb w W
 size : w.heap.size < W.heap.size
 out : W.heap[w.heap.size]? = some (.cells pieceZ 155 (0, 0))
 rd : readerAt W rb m i g e a
theorem AtS.first {w A : World} {rb : Nat} {m : List UInt8} {i g e a : Nat} (h : readerAt w rb m i g e a) (hA : A = w.alloc (.cells pieceZ 155)) : AtS w rb m i g e a A := by
 subst hA
 have g : Grow w (w.alloc (.cells pieceZ 155)) := (Grow.refl _).alloc _
 exact ⟨.grow g, by simp, heap_alloc_new _ _, h.grow g⟩
theorem AtS.on {w W W' : World} {rb : Nat} {m : List UInt8} {i g e a i' g' e' a' : Nat} (h : AtS w rb m i g e a W) (hrb : rb < w.heap.size) (k : Kept2 rb rb W W') (hr : readerAt W' rb m i' g' e' a') : AtS w rb m i' g' e' a' W' :=
 ⟨h.kept.trans k, Nat.lt_of_lt_of_le h.size k.size, (k.block _ h.size (by omega) (by omega)).trans h.out, hr⟩
theorem AtS.grow {w W W' : World} {rb : Nat} {m : List UInt8} {i g e a : Nat} (h : AtS w rb m i g e a W) (hrb : rb < w.heap.size) (k : Grow W W') : AtS w rb m i g e a W' := h.on hrb (.grow k) (h.rd.grow k)
theorem AtS.cells {w W : World} {rb : Nat} {m : List UInt8} {i g e a : Nat} (h : AtS w rb m i g e a W) :
  (W.cell? ⟨w.heap.size, 0, none⟩ = some (.bool false) ∧ W.cell? ⟨w.heap.size, 1, none⟩ = some (.slice none 0 0) ∧ W.cell? ⟨w.heap.size, 2, none⟩ = some (.int .i64 0) ∧ W.cell? ⟨w.heap.size, 3, none⟩ = some (.slice none 0 0) ∧ W.cell? ⟨w.heap.size, 4, none⟩ = some (.int .u8 0)) ∧
  (∀ k, W.frozen? ⟨w.heap.size, k, none⟩ = false) := by
 have ho := h.out
 unfold pieceZ at ho
 exact ⟨five_cells ho, fun k => not_frozen (k := k) ho⟩
/-- A row of the call's own is written. -/
theorem AtS.setB {w W : World} {rb : Nat} {m : List UInt8} {i g e a b o : Nat} (h : AtS w rb m i g e a W) (hrb : rb < w.heap.size) (hb : w.heap.size < b) (u : Value) : AtS w rb m i g e a (W.setCell ⟨b, o, none⟩ u) := by
 refine ⟨⟨h.kept.os, h.kept.tape, h.kept.output, by simpa [World.setCell] using h.kept.size, fun k h1 h2 h3 => (set_apart _ (by omega)).trans (h.kept.block k h1 h2 h3)⟩, by simpa [World.setCell] using h.size, (set_apart _ (by omega)).trans h.out, (set_apart _ (by omega)).trans h.rd⟩
/-- The piece is handed back. -/
theorem AtS.store {w W : World} {rb : Nat} {m : List UInt8} {i g e a : Nat} (h : AtS w rb m i g e a W) (hrb : rb < w.heap.size) (x0 x1 x2 x3 x4 : Value) :
  ∃ Z, (((((W.setCell ⟨w.heap.size, 0, none⟩ x0).setCell ⟨w.heap.size, 1, none⟩ x1).setCell ⟨w.heap.size, 2, none⟩ x2).setCell ⟨w.heap.size, 3, none⟩ x3).setCell ⟨w.heap.size, 4, none⟩ x4) = Z ∧
   Kept2 rb rb w Z ∧ Z.heap[w.heap.size]? = some (.cells #[x0, x1, x2, x3, x4] 155 (0, 0)) ∧ readerAt Z rb m i g e a ∧ (∀ k, k ≠ w.heap.size → Z.heap[k]? = W.heap[k]?) := by
 have ho := h.out
 unfold pieceZ at ho
 have hf := set_five ho x0 x1 x2 x3 x4
 have hk5 : Kept2 w.heap.size w.heap.size W (((((W.setCell ⟨w.heap.size, 0, none⟩ x0).setCell ⟨w.heap.size, 1, none⟩ x1).setCell ⟨w.heap.size, 2, none⟩ x2).setCell ⟨w.heap.size, 3, none⟩ x3).setCell ⟨w.heap.size, 4, none⟩ x4) :=
  ((((Kept2.setT _ _).trans (Kept2.setT _ _)).trans (Kept2.setT _ _)).trans (Kept2.setT _ _)).trans (Kept2.setT _ _)
 have hk : ∀ k, k ≠ w.heap.size → (((((W.setCell ⟨w.heap.size, 0, none⟩ x0).setCell ⟨w.heap.size, 1, none⟩ x1).setCell ⟨w.heap.size, 2, none⟩ x2).setCell ⟨w.heap.size, 3, none⟩ x3).setCell ⟨w.heap.size, 4, none⟩ x4).heap[k]? = W.heap[k]? := fun k hk =>
  (set_apart _ hk).trans ((set_apart _ hk).trans ((set_apart _ hk).trans ((set_apart _ hk).trans (set_apart _ hk))))
 generalize (((((W.setCell ⟨w.heap.size, 0, none⟩ x0).setCell ⟨w.heap.size, 1, none⟩ x1).setCell ⟨w.heap.size, 2, none⟩ x2).setCell ⟨w.heap.size, 3, none⟩ x3).setCell ⟨w.heap.size, 4, none⟩ x4) = Z at hf hk hk5 ⊢
 have hs := h.size
 have hs5 := hk5.size
 exact ⟨Z, rfl, ⟨hk5.os.trans h.kept.os, hk5.tape.trans h.kept.tape, hk5.output.trans h.kept.output, by omega, fun k h1 h2 h3 => (hk k (by omega)).trans (h.kept.block k h1 h2 h3)⟩, hf, (hk rb (by omega)).trans h.rd, hk⟩
/-- A row of 256 that is made. -/
theorem made_row (W : World) : ∃ W1, (Instr.makeSlice 120 (.int .i64 256) (.int .i64 256)).run Tryz.prog W = .ok (.slice (some ⟨W.heap.size, 0, none⟩) 256 256) W1 ∧ Grow W W1 ∧ W1.heap.size = W.heap.size + 1 ∧ boolsAt W1 W.heap.size (boolRow (fun _ => false)) := by
 refine ⟨W.alloc (.cells (Array.replicate 256 (Value.bool false)) 4), make_bools 256 (by decide) W, (Grow.refl _).alloc _, by simp, ?_⟩
 rw [← boolRow_none]
 unfold boolsAt
 rw [heap_alloc_new, List.map_replicate, List.toArray_replicate]
theorem below_row {k : Nat} (h : k < 256) : (boolRow fun c => decide (c.toNat < k)).set k true = boolRow fun c => decide (c.toNat < k + 1) := by
 rw [boolRow_set _ _ h]
 congr 1
 funext c
 by_cases e : c.toNat = k
 ·
  simp [e]
 ·
  have : c.toNat < k ↔ c.toNat < k + 1 := by omega
  simp [e, this]
theorem below_all : (boolRow fun c => decide (c.toNat < 256)) = boolRow fun _ => true := by
 congr 1
 funext c
 have := c.toNat_lt
 simp
 omega
theorem below_none : (boolRow fun c => decide (c.toNat < 0)) = boolRow fun _ => false := by
 congr 1
/-- A set that was laid from a block on. -/
def setFrom (B : Nat) (w : World) (v : Value) (s : UInt8 → Bool) : Prop := ∃ b, v = .slice (some ⟨b, 0, none⟩) 256 256 ∧ B ≤ b ∧ boolsAt w b (boolRow s)
/-- What is read of a piece that is no group. -/
def ratomPost (rb : Nat) (m : List UInt8) (g : Nat) (y : Except (Nat × Nat) ((UInt8 → Bool) × Nat)) (w : World) (e : Ending) (w' : World) : Prop :=
 Kept2 rb rb w w' ∧ ∃ v, e = .returned v ∧ match y with
  | .error x => v = pieceV false (.slice none 0 0) 0 (.slice none 0 0) 0 ∧ ∃ j, readerAt w' rb m j g x.1 x.2
  | .ok x => ∃ sv, v = pieceV false sv 0 (.slice none 0 0) 0 ∧ setFrom w.heap.size w' sv x.1 ∧ readerAt w' rb m x.2 g 0 0
set_option maxRecDepth 20000 in
set_option maxHeartbeats 4000000 in
theorem ratom_dot (w : World) (rb : Nat) (m : List UInt8) (i g : Nat) (c : UInt8) (hr : readerAt w rb m i g 0 0) (hc : m[i]? = some c) (hm : m.length ≤ 1000) (hq : c.toNat = 46) :
  Calls Tryz.prog 106 #[.pointer (some ⟨rb, 0, none⟩)] w (ratomPost rb m g (.ok (fun _ => true, i + 1)) w) := by
 have hrb := lt_of_block hr
 have hi := get_lt hc
 have hget : m[i] = c := by rw [List.getElem?_eq_getElem hi] at hc; exact Option.some.inj hc
 have HI46 : Hid (isAt m i 46 = true) := by show _ = _; simp [isAt, hc, hq]
 obtain ⟨A, HA⟩ : ∃ A, Hid (A = w.alloc (.cells pieceZ 155)) := ⟨_, hide rfl⟩
 have hA := AtS.first hr HA.out
 obtain ⟨c0, c1, c2, c3, c4⟩ := five_cells hA.rd
 have HAS : Hid (∀ n, AtS w rb m i g 0 0 (A.drewN n)) := hide fun n => ⟨hA.kept.drewN, hA.size, hA.out, hA.rd⟩
 have eA := HA.out.symm
 skip
 clear hr hc HA hA c2 c3 c4 hq
 go_enter Tryz.func106, Tryz.ntmps106
 go_wp2
 go_quiet (fail)
 have H0 := hide (HAS.out nq)
 clear eA HAS c0 c1
 go_wp2_with fail
 refine (rmay_any _ rb m i g 0 0 46 46 rfl (by decide) (by omega) H0.out.rd).mono ?_
 rintro en w1 ⟨rfl, hk, hr1⟩
 have h1 := H0.out.on hrb hk hr1
 rw [HI46.out] at h1 ⊢
 simp only [onIf] at h1
 have H1 := hide h1
 clear hk hr1 h1 H0
 obtain ⟨W1, hmk, hg1, hs1, hb1⟩ := made_row w1
 have h2 := H1.out.grow hrb hg1
 have hlw := H1.out.size
 have H2 := hide h2
 have HB1 : Hid (boolsAt W1 w1.heap.size (boolRow fun c => decide (c.toNat < 0))) := hide (by rw [below_none]; exact hb1)
 clear hg1 hb1 h2
 go_wp2
 go_loopw [5] (fun v wr => ∃ k : Nat, k ≤ 256 ∧ v = .int .i64 k ∧ Hid (AtS w rb m (i + 1) g 0 0 wr) ∧ Hid (boolsAt wr w1.heap.size (boolRow fun c => decide (c.toNat < k)))) (fun v _ => 256 - (intOf v).toNat)
 case atStart => exact ⟨0, by omega, rfl, H2, HB1⟩
 case round =>
  obtain ⟨k, hk, rfl, HA, HB⟩ := hrel
  by_cases hlt : k < 256
  ·
   have hlt2 : (k : Int) < 256 := by omega
   have hcell := HB.out.cell (k := k) (boolRow_get _ hlt)
   have hfz := not_frozen (k := k) HB.out
   go_wp2
   refine ⟨⟨k + 1, by omega, by go_num, hide (HA.out.setB hrb hlw _), hide ?_⟩, ?_⟩
   ·
    have := HB.out.set k true
    rw [below_row hlt] at this
    exact this
   ·
    simp [intOf]; omega
  ·
   obtain rfl : k = 256 := by omega
   have hB := HB.out
   rw [below_all] at hB
   obtain ⟨⟨r0, r1, r2, r3, r4⟩, rf⟩ := HA.out.cells
   have z0 := rf 0
   have z1 := rf 1
   have z2 := rf 2
   have z3 := rf 3
   have z4 := rf 4
   obtain ⟨Z, eZ, hk, ho, hrd, hkb⟩ := HA.out.store hrb (.bool false) (.slice (some ⟨w1.heap.size, 0, none⟩) 256 256) (.int .i64 0) (.slice none 0 0) (.int .u8 0)
   have HO := hide ho
   have HK := hide hk
   have HRD := hide hrd
   have HKB := hide hkb
   clear rf hk ho hrd hkb
   have HB2 : Hid (boolsAt Z w1.heap.size (boolRow fun _ => true)) := hide (hB.keep (HKB.out _ (by omega)))
   clear hB HA HB
   go_wp2
   refine bodyPost_ret (v := pieceV false (.slice (some ⟨w1.heap.size, 0, none⟩) 256 256) 0 (.slice none 0 0) 0) (results_cell_row (p := 2) (ty := 155) rfl _ _ w.heap.size _ _ _ _ rfl HO.out Tryz.underlying155 rfl Tryz.infoPiece) rfl ⟨HK.out, _, rfl, _, rfl, ⟨_, rfl, by omega, HB2.out⟩, HRD.out⟩
set_option maxRecDepth 20000 in
set_option maxHeartbeats 4000000 in
theorem ratom_esc (w : World) (rb : Nat) (m : List UInt8) (i g : Nat) (c : UInt8) (hr : readerAt w rb m i g 0 0) (hc : m[i]? = some c) (hm : m.length ≤ 1000) (hq : c.toNat = 92) (y : Except (Nat × Nat) ((UInt8 → Bool) × Nat)) (hy : pSet m i c = some y) :
  Calls Tryz.prog 106 #[.pointer (some ⟨rb, 0, none⟩)] w (ratomPost rb m g y w) := by
 have hrb := lt_of_block hr
 have hi := get_lt hc
 have hget : m[i] = c := by rw [List.getElem?_eq_getElem hi] at hc; exact Option.some.inj hc
 have HI92 : Hid (isAt m i 92 = true) := by show _ = _; simp [isAt, hc, hq]
 have HI46 : Hid (isAt m i 46 = false) := by show _ = _; simp [isAt, hc]; omega
 obtain ⟨A, HA⟩ : ∃ A, Hid (A = w.alloc (.cells pieceZ 155)) := ⟨_, hide rfl⟩
 have hA := AtS.first hr HA.out
 obtain ⟨c0, c1, c2, c3, c4⟩ := five_cells hA.rd
 have HAS : Hid (∀ n, AtS w rb m i g 0 0 (A.drewN n)) := hide fun n => ⟨hA.kept.drewN, hA.size, hA.out, hA.rd⟩
 have eA := HA.out.symm
 obtain ⟨j, hj⟩ : ∃ j, i + 1 = j := ⟨_, rfl⟩
 have HY : Hid (some y = match m[j]? with | none => some (.error (1, j)) | some d => if isAl d || isNu d then some (.error (1, j)) else some (.ok (between d d, j + 1))) := by
  show _ = _
  rw [← hy, ← hj]
  simp [pSet, hq]
  rfl
 clear hr hc HA hA c2 c3 c4 hq hy
 go_enter Tryz.func106, Tryz.ntmps106
 go_wp2
 go_quiet (fail)
 have H0 := hide (HAS.out nq)
 clear eA HAS c0 c1
 go_wp2_with fail
 refine (rmay_any _ rb m i g 0 0 46 46 rfl (by decide) (by omega) H0.out.rd).mono ?_
 rintro en w1 ⟨rfl, hk, hr1⟩
 have h1 := H0.out.on hrb hk hr1
 rw [HI46.out] at h1 ⊢
 simp only [onIf] at h1
 have H1 := hide h1
 clear hk hr1 h1 H0
 go_wp2_with fail
 refine (rmay_any _ rb m i g 0 0 92 92 rfl (by decide) (by omega) H1.out.rd).mono ?_
 rintro en w2 ⟨rfl, hk, hr1⟩
 have h1 := H1.out.on hrb hk hr1
 rw [HI92.out] at h1 ⊢
 simp only [onIf] at h1
 have H2 := hide h1
 clear hk hr1 h1 H1
 rw [hj] at H2
 obtain ⟨c0, c1, _, _, _⟩ := five_cells H2.out.rd
 have HR2 : Hid (∀ n, AtS w rb m j g 0 0 (w2.drewN n)) := hide fun n => ⟨H2.out.kept.drewN, H2.out.size, H2.out.out, H2.out.rd⟩
 by_cases hlt : j < m.length
 ·
  obtain ⟨d, hd⟩ : ∃ d, m[j] = d := ⟨_, rfl⟩
  have hgt : m[j]? = some d := by rw [List.getElem?_eq_getElem hlt, hd]
  have hne : ((j : Int) == m.length) = false := by rw [beq_eq_false_iff_ne]; omega
  have hlt2 : (j : Int) < m.length := by omega
  have hdl := d.toNat_lt
  have HY2 : Hid (some y = if isAl d || isNu d then some (.error (1, j)) else some (.ok (between d d, j + 1))) := by
   show _ = _
   rw [HY.out, hgt]
  have HL : Hid (∀ w, Calls Tryz.prog 73 #[.int .u8 (d.toNat : Int)] w fun e w' => e = .returned (.bool (isAlU d)) ∧ w' = w) := hide fun w => rIsLetter_any d w
  have HN : Hid (∀ w, Calls Tryz.prog 20 #[.int .u8 (d.toNat : Int)] w fun e w' => e = .returned (.bool (isNu d)) ∧ w' = w) := hide fun w => rIsNumeral_any d w
  have HAU : Hid (isAl d = (isAlU d && !decide (d.toNat = 95))) := by
   show _ = _
   unfold isAlU
   by_cases h95 : d.toNat = 95
   ·
    simp [isAl, h95]
   ·
    simp [h95]
  clear hgt HY
  cases hL : isAlU d with
  | true =>
   rw [hL] at HL HAU
   by_cases h95 : d.toNat = 95
   ·
    have HN0 : isNu d = false := by simp [isNu, h95]
    have HE : Hid (y = .ok (between d d, j + 1)) := by
     show _ = _
     have h := HY2.out
     rw [HAU.out, HN0] at h
     simp [h95] at h
     exact h
    have h95' : ((d.toNat : Int) != 95) = false := by simp [h95]
    rw [HN0] at HN
    clear h95 HN0 hL HY2 HAU
    go_wp2_with fail
    go_quiet (first | (go_at_call 73; exact Calls.quiet_of_same (HL.out _)) | (go_at_call 20; exact Calls.quiet_of_same (HN.out _)))
    obtain ⟨W3, HW3⟩ : ∃ W3, Hid (W3 = w2.drewN nq) := ⟨_, hide rfl⟩
    rw [← HW3.out]
    have h3 : AtS w rb m j g 0 0 W3 := by rw [HW3.out]; exact HR2.out nq
    obtain ⟨k0, k1, _, _, _⟩ := five_cells h3.rd
    have kf := not_frozen (k := 1) h3.rd
    obtain ⟨W4, HW4⟩ : ∃ W4, Hid (W4 = W3.setCell ⟨rb, 1, none⟩ (.int .i64 ((j : Int) + 1))) := ⟨_, hide rfl⟩
    have h4 : AtS w rb m (j + 1) g 0 0 W4 := by rw [HW4.out]; exact h3.on hrb (.setT _ _) (h3.rd.on _ (by go_num))
    have H4 := hide h4
    have hwr : IntKind.i64.wrap ((j : Int) + 1) = (j : Int) + 1 := wrap_i64_small _ (by omega) (by omega)
    have eW4 := HW4.out.symm
    clear h3 HW3 HW4 h4 c0 c1
    go_wp2
    clear eW4 k0 k1 kf
    obtain ⟨d0, d1, _, _, _⟩ := five_cells H4.out.rd
    refine wp_region_free 11 312 Tryz.mixed2 rfl (by decide +kernel) Grow (fun _ _ _ => Grow.trans) (Grow.refl _)
     (fun i v w' => match i with
      | 0 => v = .pointer (some ⟨rb, 0, none⟩)
      | 1 => v = .pointer (some ⟨rb, 0, none⟩)
      | 2 => v = .pointer (some ⟨rb, 0, none⟩)
      | 3 => v = .string (bs m)
      | 4 => v = .pointer (some ⟨rb, 0, none⟩)
      | 5 => v = .pointer (some ⟨rb, 0, none⟩)
      | 6 => v = .pointer (some ⟨rb, 1, none⟩)
      | 7 => v = .int .i64 ((j + 1 : Nat) : Int)
      | 8 => v = .int .i64 (j : Int)
      | 9 => v = .int .u8 (d.toNat : Int)
      | _ => ∃ b, W4.heap.size ≤ b ∧ v = .slice (some ⟨b, 0, none⟩) 256 256 ∧ boolsAt w' b (boolRow (between d d)))
     (fun i v w1 w2 h hg => ?_) (fun _ _ => False) (fun _ _ _ _ h => h.elim) (fun i hi o ho a2 w5 hG hoff hdep => ?_) (fun vals w5 hG hvals => ?_)
    ·
     match i, h with
     | 0, h => exact h
     | 1, h => exact h
     | 2, h => exact h
     | 3, h => exact h
     | 4, h => exact h
     | 5, h => exact h
     | 6, h => exact h
     | 7, h => exact h
     | 8, h => exact h
     | 9, h => exact h
     | k + 10, h =>
      obtain ⟨b, h1, h2, h3⟩ := h
      exact ⟨b, h1, h2, hg.get h3⟩
    ·
     have hg5 : Grow W4 w5 := hG.undrew
     obtain ⟨d0, d1, _, _, _⟩ := five_cells (H4.out.rd.grow hg5)
     match i, hi with
     | 0, _ =>
      obtain rfl := Option.some.inj ho
      have o0 := hoff 0 (by decide +kernel)
      simp at o0
      simp [opYields, go_sem, o0]
      exact Grow.refl _
     | 1, _ =>
      obtain rfl := Option.some.inj ho
      have d0 := hdep 0 (by decide +kernel)
      simp [slotOf, dstOf] at d0
      simp [opYields, go_sem, d0]
      exact Grow.refl _
     | 2, _ =>
      obtain rfl := Option.some.inj ho
      have d1 := hdep 1 (by decide +kernel)
      simp [slotOf, dstOf] at d1
      simp [opYields, go_sem, d1]
      exact Grow.refl _
     | 3, _ =>
      obtain rfl := Option.some.inj ho
      have d2 := hdep 2 (by decide +kernel)
      simp [slotOf, dstOf] at d2
      simp [opYields, go_sem, d2, d0]
      exact Grow.refl _
     | 4, _ =>
      obtain rfl := Option.some.inj ho
      have o0 := hoff 0 (by decide +kernel)
      simp at o0
      simp [opYields, go_sem, o0]
      exact Grow.refl _
     | 5, _ =>
      obtain rfl := Option.some.inj ho
      have d4 := hdep 4 (by decide +kernel)
      simp [slotOf, dstOf] at d4
      simp [opYields, go_sem, d4]
      exact Grow.refl _
     | 6, _ =>
      obtain rfl := Option.some.inj ho
      have d5 := hdep 5 (by decide +kernel)
      simp [slotOf, dstOf] at d5
      simp [opYields, go_sem, d5]
      exact Grow.refl _
     | 7, _ =>
      obtain rfl := Option.some.inj ho
      have d6 := hdep 6 (by decide +kernel)
      simp [slotOf, dstOf] at d6
      simp [opYields, go_sem, d6, d1]
      exact Grow.refl _
     | 8, _ =>
      obtain rfl := Option.some.inj ho
      have d7 := hdep 7 (by decide +kernel)
      simp [slotOf, dstOf] at d7
      simp [opYields, go_sem, d7]
      exact ⟨Grow.refl _, wrap_i64_small _ (by omega) (by omega)⟩
     | 9, _ =>
      obtain rfl := Option.some.inj ho
      have d3 := hdep 3 (by decide +kernel)
      simp [slotOf, dstOf] at d3
      have d8 := hdep 8 (by decide +kernel)
      simp [slotOf, dstOf] at d8
      simp [opYields, go_sem, d3, d8]
      simp [hlt, hd]
      exact Grow.refl _
     | 10, _ =>
      obtain rfl := Option.some.inj ho
      have d9 := hdep 9 (by decide +kernel)
      simp [slotOf, dstOf] at d9
      simp [opYields, go_sem, d9]
      refine (alone_any d w5).mono ?_
      rintro e w6 ⟨rfl, hg6, hb6⟩
      exact ⟨hg6, _, hG.undrew.size, rfl, hb6⟩
     | k + 11, h => exact absurd h (by omega)
    ·
     obtain ⟨b, hb, v10, hbb⟩ := hvals 10 (by omega)
     clear hvals
     have hg5 : Grow W4 w5 := hG.undrew
     have H5 := hide (H4.out.grow hrb hg5)
     have hs4 := H4.out.size
     have HBB := hide hbb
     clear hG hg5 hbb d0 d1
     obtain ⟨⟨r0, r1, r2, r3, r4⟩, rf⟩ := H5.out.cells
     have z0 := rf 0
     have z1 := rf 1
     have z2 := rf 2
     have z3 := rf 3
     have z4 := rf 4
     obtain ⟨Z, eZ, hk, ho, hrd, hkb⟩ := H5.out.store hrb (.bool false) (.slice (some ⟨b, 0, none⟩) 256 256) (.int .i64 0) (.slice none 0 0) (.int .u8 0)
     have HO := hide ho
     have HK := hide hk
     have HRD := hide hrd
     have HKB := hide hkb
     clear rf hk ho hrd hkb
     have HB2 : Hid (boolsAt Z b (boolRow (between d d))) := hide (HBB.out.keep (HKB.out _ (by omega)))
     simp [over, dstOf, Act.put, v10]
     go_wp2
     refine bodyPost_ret (v := pieceV false (.slice (some ⟨b, 0, none⟩) 256 256) 0 (.slice none 0 0) 0) (results_cell_row (p := 2) (ty := 155) rfl _ _ w.heap.size _ _ _ _ rfl HO.out Tryz.underlying155 rfl Tryz.infoPiece) rfl ⟨HK.out, _, rfl, by rw [HE.out]; exact ⟨_, rfl, ⟨_, rfl, by omega, HB2.out⟩, HRD.out⟩⟩
   ·
    have HE : Hid (y = .error (1, j)) := by
     show _ = _
     have h := HY2.out
     rw [HAU.out] at h
     simp [h95] at h
     exact h
    have h95' : ((d.toNat : Int) != 95) = true := by simp; omega
    clear h95 hL HY2 HAU
    go_wp2_with fail
    go_quiet (first | (go_at_call 73; exact Calls.quiet_of_same (HL.out _)) | (go_at_call 20; exact Calls.quiet_of_same (HN.out _)))
    go_wp2_with fail
    refine (wrong_any _ rb m j g 1 (j : Int) 1 j rfl rfl (HR2.out nq).rd).mono ?_
    rintro en w3 ⟨rfl, hk3, hr3⟩
    have H3 := hide ((HR2.out nq).on hrb hk3 hr3)
    clear hk3 hr3
    obtain ⟨⟨r0, r1, r2, r3, r4⟩, rf⟩ := H3.out.cells
    have z0 := rf 0
    have z1 := rf 1
    have z2 := rf 2
    have z3 := rf 3
    have z4 := rf 4
    obtain ⟨Z, eZ, hk, ho, hrd, hkb⟩ := H3.out.store hrb (.bool false) (.slice none 0 0) (.int .i64 0) (.slice none 0 0) (.int .u8 0)
    have HO := hide ho
    have HK := hide hk
    have HRD := hide hrd
    have HKB := hide hkb
    clear rf hk ho hrd hkb
    go_wp2
    refine bodyPost_ret (v := pieceV false (.slice none 0 0) 0 (.slice none 0 0) 0) (results_cell_row (p := 2) (ty := 155) rfl _ _ w.heap.size _ _ _ _ rfl HO.out Tryz.underlying155 rfl Tryz.infoPiece) rfl ⟨HK.out, _, rfl, by rw [HE.out]; exact ⟨rfl, j, HRD.out⟩⟩
  | false =>
   rw [hL] at HL HAU
   cases hN : isNu d with
   | true =>
    have HE : Hid (y = .error (1, j)) := by
     show _ = _
     have h := HY2.out
     rw [hN] at h
     simp at h
     exact h
    rw [hN] at HN
    clear hN hL HY2 HAU
    go_wp2_with fail
    go_quiet (first | (go_at_call 73; exact Calls.quiet_of_same (HL.out _)) | (go_at_call 20; exact Calls.quiet_of_same (HN.out _)))
    go_wp2_with fail
    refine (wrong_any _ rb m j g 1 (j : Int) 1 j rfl rfl (HR2.out nq).rd).mono ?_
    rintro en w3 ⟨rfl, hk3, hr3⟩
    have H3 := hide ((HR2.out nq).on hrb hk3 hr3)
    clear hk3 hr3
    obtain ⟨⟨r0, r1, r2, r3, r4⟩, rf⟩ := H3.out.cells
    have z0 := rf 0
    have z1 := rf 1
    have z2 := rf 2
    have z3 := rf 3
    have z4 := rf 4
    obtain ⟨Z, eZ, hk, ho, hrd, hkb⟩ := H3.out.store hrb (.bool false) (.slice none 0 0) (.int .i64 0) (.slice none 0 0) (.int .u8 0)
    have HO := hide ho
    have HK := hide hk
    have HRD := hide hrd
    have HKB := hide hkb
    clear rf hk ho hrd hkb
    go_wp2
    refine bodyPost_ret (v := pieceV false (.slice none 0 0) 0 (.slice none 0 0) 0) (results_cell_row (p := 2) (ty := 155) rfl _ _ w.heap.size _ _ _ _ rfl HO.out Tryz.underlying155 rfl Tryz.infoPiece) rfl ⟨HK.out, _, rfl, by rw [HE.out]; exact ⟨rfl, j, HRD.out⟩⟩
   | false =>
    have HE : Hid (y = .ok (between d d, j + 1)) := by
     show _ = _
     have h := HY2.out
     rw [HAU.out, hN] at h
     simp at h
     exact h
    rw [hN] at HN
    clear hN hL HY2 HAU
    go_wp2_with fail
    go_quiet (first | (go_at_call 73; exact Calls.quiet_of_same (HL.out _)) | (go_at_call 20; exact Calls.quiet_of_same (HN.out _)))
    obtain ⟨W3, HW3⟩ : ∃ W3, Hid (W3 = w2.drewN nq) := ⟨_, hide rfl⟩
    rw [← HW3.out]
    have h3 : AtS w rb m j g 0 0 W3 := by rw [HW3.out]; exact HR2.out nq
    obtain ⟨k0, k1, _, _, _⟩ := five_cells h3.rd
    have kf := not_frozen (k := 1) h3.rd
    obtain ⟨W4, HW4⟩ : ∃ W4, Hid (W4 = W3.setCell ⟨rb, 1, none⟩ (.int .i64 ((j : Int) + 1))) := ⟨_, hide rfl⟩
    have h4 : AtS w rb m (j + 1) g 0 0 W4 := by rw [HW4.out]; exact h3.on hrb (.setT _ _) (h3.rd.on _ (by go_num))
    have H4 := hide h4
    have hwr : IntKind.i64.wrap ((j : Int) + 1) = (j : Int) + 1 := wrap_i64_small _ (by omega) (by omega)
    have eW4 := HW4.out.symm
    clear h3 HW3 HW4 h4 c0 c1
    go_wp2
    clear eW4 k0 k1 kf
    obtain ⟨d0, d1, _, _, _⟩ := five_cells H4.out.rd
    refine wp_region_free 11 312 Tryz.mixed2 rfl (by decide +kernel) Grow (fun _ _ _ => Grow.trans) (Grow.refl _)
     (fun i v w' => match i with
      | 0 => v = .pointer (some ⟨rb, 0, none⟩)
      | 1 => v = .pointer (some ⟨rb, 0, none⟩)
      | 2 => v = .pointer (some ⟨rb, 0, none⟩)
      | 3 => v = .string (bs m)
      | 4 => v = .pointer (some ⟨rb, 0, none⟩)
      | 5 => v = .pointer (some ⟨rb, 0, none⟩)
      | 6 => v = .pointer (some ⟨rb, 1, none⟩)
      | 7 => v = .int .i64 ((j + 1 : Nat) : Int)
      | 8 => v = .int .i64 (j : Int)
      | 9 => v = .int .u8 (d.toNat : Int)
      | _ => ∃ b, W4.heap.size ≤ b ∧ v = .slice (some ⟨b, 0, none⟩) 256 256 ∧ boolsAt w' b (boolRow (between d d)))
     (fun i v w1 w2 h hg => ?_) (fun _ _ => False) (fun _ _ _ _ h => h.elim) (fun i hi o ho a2 w5 hG hoff hdep => ?_) (fun vals w5 hG hvals => ?_)
    ·
     match i, h with
     | 0, h => exact h
     | 1, h => exact h
     | 2, h => exact h
     | 3, h => exact h
     | 4, h => exact h
     | 5, h => exact h
     | 6, h => exact h
     | 7, h => exact h
     | 8, h => exact h
     | 9, h => exact h
     | k + 10, h =>
      obtain ⟨b, h1, h2, h3⟩ := h
      exact ⟨b, h1, h2, hg.get h3⟩
    ·
     have hg5 : Grow W4 w5 := hG.undrew
     obtain ⟨d0, d1, _, _, _⟩ := five_cells (H4.out.rd.grow hg5)
     match i, hi with
     | 0, _ =>
      obtain rfl := Option.some.inj ho
      have o0 := hoff 0 (by decide +kernel)
      simp at o0
      simp [opYields, go_sem, o0]
      exact Grow.refl _
     | 1, _ =>
      obtain rfl := Option.some.inj ho
      have d0 := hdep 0 (by decide +kernel)
      simp [slotOf, dstOf] at d0
      simp [opYields, go_sem, d0]
      exact Grow.refl _
     | 2, _ =>
      obtain rfl := Option.some.inj ho
      have d1 := hdep 1 (by decide +kernel)
      simp [slotOf, dstOf] at d1
      simp [opYields, go_sem, d1]
      exact Grow.refl _
     | 3, _ =>
      obtain rfl := Option.some.inj ho
      have d2 := hdep 2 (by decide +kernel)
      simp [slotOf, dstOf] at d2
      simp [opYields, go_sem, d2, d0]
      exact Grow.refl _
     | 4, _ =>
      obtain rfl := Option.some.inj ho
      have o0 := hoff 0 (by decide +kernel)
      simp at o0
      simp [opYields, go_sem, o0]
      exact Grow.refl _
     | 5, _ =>
      obtain rfl := Option.some.inj ho
      have d4 := hdep 4 (by decide +kernel)
      simp [slotOf, dstOf] at d4
      simp [opYields, go_sem, d4]
      exact Grow.refl _
     | 6, _ =>
      obtain rfl := Option.some.inj ho
      have d5 := hdep 5 (by decide +kernel)
      simp [slotOf, dstOf] at d5
      simp [opYields, go_sem, d5]
      exact Grow.refl _
     | 7, _ =>
      obtain rfl := Option.some.inj ho
      have d6 := hdep 6 (by decide +kernel)
      simp [slotOf, dstOf] at d6
      simp [opYields, go_sem, d6, d1]
      exact Grow.refl _
     | 8, _ =>
      obtain rfl := Option.some.inj ho
      have d7 := hdep 7 (by decide +kernel)
      simp [slotOf, dstOf] at d7
      simp [opYields, go_sem, d7]
      exact ⟨Grow.refl _, wrap_i64_small _ (by omega) (by omega)⟩
     | 9, _ =>
      obtain rfl := Option.some.inj ho
      have d3 := hdep 3 (by decide +kernel)
      simp [slotOf, dstOf] at d3
      have d8 := hdep 8 (by decide +kernel)
      simp [slotOf, dstOf] at d8
      simp [opYields, go_sem, d3, d8]
      simp [hlt, hd]
      exact Grow.refl _
     | 10, _ =>
      obtain rfl := Option.some.inj ho
      have d9 := hdep 9 (by decide +kernel)
      simp [slotOf, dstOf] at d9
      simp [opYields, go_sem, d9]
      refine (alone_any d w5).mono ?_
      rintro e w6 ⟨rfl, hg6, hb6⟩
      exact ⟨hg6, _, hG.undrew.size, rfl, hb6⟩
     | k + 11, h => exact absurd h (by omega)
    ·
     obtain ⟨b, hb, v10, hbb⟩ := hvals 10 (by omega)
     clear hvals
     have hg5 : Grow W4 w5 := hG.undrew
     have H5 := hide (H4.out.grow hrb hg5)
     have hs4 := H4.out.size
     have HBB := hide hbb
     clear hG hg5 hbb d0 d1
     obtain ⟨⟨r0, r1, r2, r3, r4⟩, rf⟩ := H5.out.cells
     have z0 := rf 0
     have z1 := rf 1
     have z2 := rf 2
     have z3 := rf 3
     have z4 := rf 4
     obtain ⟨Z, eZ, hk, ho, hrd, hkb⟩ := H5.out.store hrb (.bool false) (.slice (some ⟨b, 0, none⟩) 256 256) (.int .i64 0) (.slice none 0 0) (.int .u8 0)
     have HO := hide ho
     have HK := hide hk
     have HRD := hide hrd
     have HKB := hide hkb
     clear rf hk ho hrd hkb
     have HB2 : Hid (boolsAt Z b (boolRow (between d d))) := hide (HBB.out.keep (HKB.out _ (by omega)))
     simp [over, dstOf, Act.put, v10]
     go_wp2
     refine bodyPost_ret (v := pieceV false (.slice (some ⟨b, 0, none⟩) 256 256) 0 (.slice none 0 0) 0) (results_cell_row (p := 2) (ty := 155) rfl _ _ w.heap.size _ _ _ _ rfl HO.out Tryz.underlying155 rfl Tryz.infoPiece) rfl ⟨HK.out, _, rfl, by rw [HE.out]; exact ⟨_, rfl, ⟨_, rfl, by omega, HB2.out⟩, HRD.out⟩⟩
 ·
  have hne : ((j : Int) == m.length) = true := by rw [beq_iff_eq]; omega
  have HE : Hid (y = .error (1, j)) := by
   show _ = _
   have h := HY.out
   rw [List.getElem?_eq_none_iff.2 (by omega)] at h
   exact Option.some.inj h
  clear HY
  go_wp2_with fail
  go_quiet (fail)
  go_wp2_with fail
  refine (wrong_any _ rb m j g 1 (j : Int) 1 j rfl rfl (HR2.out nq).rd).mono ?_
  rintro en w3 ⟨rfl, hk3, hr3⟩
  have H3 := hide ((HR2.out nq).on hrb hk3 hr3)
  clear hk3 hr3
  obtain ⟨⟨r0, r1, r2, r3, r4⟩, rf⟩ := H3.out.cells
  have z0 := rf 0
  have z1 := rf 1
  have z2 := rf 2
  have z3 := rf 3
  have z4 := rf 4
  obtain ⟨Z, eZ, hk, ho, hrd, hkb⟩ := H3.out.store hrb (.bool false) (.slice none 0 0) (.int .i64 0) (.slice none 0 0) (.int .u8 0)
  have HO := hide ho
  have HK := hide hk
  have HRD := hide hrd
  have HKB := hide hkb
  clear rf hk ho hrd hkb
  go_wp2
  refine bodyPost_ret (v := pieceV false (.slice none 0 0) 0 (.slice none 0 0) 0) (results_cell_row (p := 2) (ty := 155) rfl _ _ w.heap.size _ _ _ _ rfl HO.out Tryz.underlying155 rfl Tryz.infoPiece) rfl ⟨HK.out, _, rfl, by rw [HE.out]; exact ⟨rfl, j, HRD.out⟩⟩
/-- A piece's cells. -/
def pieceC5 (gr : Bool) (sv : Value) (n : Int) (rv : Value) (sg : Int) : List Value := [.bool gr, sv, .int .i64 n, rv, .int .u8 sg]
/-- What cells of rows, or of a row, hold, in blocks of which something is known. -/
def cellsAt (w : World) (A : Nat → Prop) : Tr → List Value → Prop
 | .nil, xs => xs = []
 | .set s sg rest, xs => ∃ b l, xs = pieceC5 false (.slice (some ⟨b, 0, none⟩) 256 256) 0 (.slice none 0 0) sg ++ l ∧ A b ∧ boolsAt w b (boolRow s) ∧ cellsAt w A rest l
 | .grp n rows sg rest, xs => ∃ rv k ys l, xs = pieceC5 true (.slice none 0 0) (n + 1 : Nat) rv sg ++ l ∧ w.ownsRow 0 153 1 rv k ys ∧ (∀ b, rv.ownBlock = some b → A b) ∧ cellsAt w A rows ys ∧ cellsAt w A rest l
 | .row r rest, xs => ∃ v k ys l, xs = v :: l ∧ w.ownsRow 0 155 5 v k ys ∧ (∀ b, v.ownBlock = some b → A b) ∧ cellsAt w A r ys ∧ cellsAt w A rest l
theorem cellsAt.keep {w w' : World} {A A' : Nat → Prop} (hk : ∀ k, k < w.heap.size → A k → A' k ∧ w'.heap[k]? = w.heap[k]?) : ∀ {T : Tr} {xs : List Value}, cellsAt w A T xs → cellsAt w' A' T xs
 | .nil, xs, h => h
 | .set s sg rest, xs, h => by
  obtain ⟨b, l, h1, h2, h3, h4⟩ := h
  obtain ⟨k1, k2⟩ := hk b (lt_of_block h3) h2
  exact ⟨b, l, h1, k1, k2.trans h3, cellsAt.keep hk h4⟩
 | .grp n rows sg rest, xs, h => by
  obtain ⟨rv, k, ys, l, h1, h2, h3, h4, h5⟩ := h
  exact ⟨rv, k, ys, l, h1, own_keep h2 fun b hb => (hk b (h2.lt b hb).2 (h3 b hb)).2, fun b hb => (hk b (h2.lt b hb).2 (h3 b hb)).1, cellsAt.keep hk h4, cellsAt.keep hk h5⟩
 | .row r rest, xs, h => by
  obtain ⟨v, k, ys, l, h1, h2, h3, h4, h5⟩ := h
  exact ⟨v, k, ys, l, h1, own_keep h2 fun b hb => (hk b (h2.lt b hb).2 (h3 b hb)).2, fun b hb => (hk b (h2.lt b hb).2 (h3 b hb)).1, cellsAt.keep hk h4, cellsAt.keep hk h5⟩
theorem cellsAt.grow {w w' : World} {A : Nat → Prop} {T : Tr} {xs : List Value} (h : cellsAt w A T xs) (g : Grow w w') : cellsAt w' A T xs := h.keep fun k hk ha => ⟨ha, g.block k hk⟩
/-- Pieces, one by one. -/
inductive Item where
 | set (s : UInt8 → Bool) (sg : Nat)
 | grp (n : Nat) (rows : Tr) (sg : Nat)
def Item.on : Item → Tr → Tr
 | .set s sg, T => .set s sg T
 | .grp n rows sg, T => .grp n rows sg T
def rowT (l : List Item) (T : Tr) : Tr := l.foldr Item.on T
def itemAt (w : World) (A : Nat → Prop) : Item → List Value → Prop
 | .set s sg, xs => ∃ b, xs = pieceC5 false (.slice (some ⟨b, 0, none⟩) 256 256) 0 (.slice none 0 0) sg ∧ A b ∧ boolsAt w b (boolRow s)
 | .grp n rows sg, xs => ∃ rv k ys, xs = pieceC5 true (.slice none 0 0) (n + 1 : Nat) rv sg ∧ w.ownsRow 0 153 1 rv k ys ∧ (∀ b, rv.ownBlock = some b → A b) ∧ cellsAt w A rows ys
theorem itemAt.length {w : World} {A : Nat → Prop} : ∀ {it : Item} {xs : List Value}, itemAt w A it xs → xs.length = 5
 | .set s sg, xs, ⟨b, h, _⟩ => by rw [h]; rfl
 | .grp n rows sg, xs, ⟨rv, k, ys, h, _⟩ => by rw [h]; rfl
theorem itemAt.keep {w w' : World} {A A' : Nat → Prop} (hk : ∀ k, k < w.heap.size → A k → A' k ∧ w'.heap[k]? = w.heap[k]?) : ∀ {it : Item} {xs : List Value}, itemAt w A it xs → itemAt w' A' it xs
 | .set s sg, xs, ⟨b, h1, h2, h3⟩ => by
  obtain ⟨k1, k2⟩ := hk b (lt_of_block h3) h2
  exact ⟨b, h1, k1, k2.trans h3⟩
 | .grp n rows sg, xs, ⟨rv, k, ys, h1, h2, h3, h4⟩ => ⟨rv, k, ys, h1, own_keep h2 fun b hb => (hk b (h2.lt b hb).2 (h3 b hb)).2, fun b hb => (hk b (h2.lt b hb).2 (h3 b hb)).1, cellsAt.keep hk h4⟩
theorem cellsAt_on {w : World} {A : Nat → Prop} {it : Item} {T : Tr} {xs : List Value} : cellsAt w A (it.on T) xs ↔ ∃ ys l, xs = ys ++ l ∧ itemAt w A it ys ∧ cellsAt w A T l := by
 cases it with
 | set s sg =>
  constructor
  ·
   rintro ⟨b, l, h1, h2, h3, h4⟩; exact ⟨_, l, h1, ⟨b, rfl, h2, h3⟩, h4⟩
  ·
   rintro ⟨ys, l, rfl, ⟨b, rfl, h2, h3⟩, h4⟩; exact ⟨b, l, rfl, h2, h3, h4⟩
 | grp n rows sg =>
  constructor
  ·
   rintro ⟨rv, k, ys, l, h1, h2, h3, h4, h5⟩; exact ⟨_, l, h1, ⟨rv, k, ys, rfl, h2, h3, h4⟩, h5⟩
  ·
   rintro ⟨ys, l, rfl, ⟨rv, k, zs, rfl, h2, h3, h4⟩, h5⟩; exact ⟨rv, k, zs, l, rfl, h2, h3, h4, h5⟩
theorem cellsAt_snoc {w : World} {A : Nat → Prop} {it : Item} {ys : List Value} (hi : itemAt w A it ys) : ∀ {l : List Item} {xs : List Value}, cellsAt w A (rowT l .nil) xs → cellsAt w A (rowT (l ++ [it]) .nil) (xs ++ ys)
 | [], xs, h => by
  obtain rfl : xs = [] := h
  exact cellsAt_on.2 ⟨ys, [], by simp, hi, rfl⟩
 | x :: l, xs, h => by
  obtain ⟨zs, r, rfl, h1, h2⟩ := cellsAt_on.1 h
  exact cellsAt_on.2 ⟨zs, r ++ ys, by simp, h1, cellsAt_snoc hi h2⟩
theorem cellsAt_item {w : World} {A : Nat → Prop} : ∀ {l : List Item} {xs : List Value}, cellsAt w A (rowT l .nil) xs → xs.length = l.length * 5 ∧ ∀ (k : Nat) (it : Item), l[k]? = some it → ∃ ys, itemAt w A it ys ∧ ∀ j, j < 5 → xs[k * 5 + j]? = ys[j]?
 | [], xs, h => by
  obtain rfl : xs = [] := h
  exact ⟨rfl, fun k it hk => by simp at hk⟩
 | x :: l, xs, h => by
  obtain ⟨zs, r, rfl, h1, h2⟩ := cellsAt_on.1 h
  obtain ⟨h3, h4⟩ := cellsAt_item h2
  have hz := h1.length
  refine ⟨by simp [hz, h3]; omega, fun k it hk => ?_⟩
  cases k with
  | zero =>
   simp at hk
   subst hk
   exact ⟨zs, h1, fun j hj => by rw [List.getElem?_append_left (by omega)]; simp⟩
  | succ k =>
   obtain ⟨ys, h5, h6⟩ := h4 k it (by simpa using hk)
   refine ⟨ys, h5, fun j hj => ?_⟩
   rw [List.getElem?_append_right (by omega), ← h6 j hj, show (k + 1) * 5 + j - zs.length = k * 5 + j by omega]
/-- A row in a slice. -/
def rowAt (w : World) (A : Nat → Prop) (r : Tr) (v : Value) : Prop := ∃ k ys, w.ownsRow 0 155 5 v k ys ∧ (∀ b, v.ownBlock = some b → A b) ∧ cellsAt w A r ys
theorem rowAt.keep {w w' : World} {A A' : Nat → Prop} {r : Tr} {v : Value} (hk : ∀ k, k < w.heap.size → A k → A' k ∧ w'.heap[k]? = w.heap[k]?) (h : rowAt w A r v) : rowAt w' A' r v := by
 obtain ⟨k, ys, h2, h3, h4⟩ := h
 exact ⟨k, ys, own_keep h2 fun b hb => (hk b (h2.lt b hb).2 (h3 b hb)).2, fun b hb => (hk b (h2.lt b hb).2 (h3 b hb)).1, h4.keep hk⟩
theorem cellsAt_row {w : World} {A : Nat → Prop} {r rest : Tr} {xs : List Value} : cellsAt w A (.row r rest) xs ↔ ∃ v l, xs = v :: l ∧ rowAt w A r v ∧ cellsAt w A rest l :=
 ⟨fun ⟨v, k, ys, l, h1, h2, h3, h4, h5⟩ => ⟨v, l, h1, ⟨k, ys, h2, h3, h4⟩, h5⟩, fun ⟨v, l, h1, ⟨k, ys, h2, h3, h4⟩, h5⟩ => ⟨v, k, ys, l, h1, h2, h3, h4, h5⟩⟩
theorem cellsAt_rows_snoc {w : World} {A : Nat → Prop} {r : Tr} {v : Value} (hr : rowAt w A r v) : ∀ {rs : List Tr} {xs : List Value}, cellsAt w A (rowsOf rs .nil) xs → cellsAt w A (rowsOf (rs ++ [r]) .nil) (xs ++ [v])
 | [], xs, h => by
  obtain rfl : xs = [] := h
  exact cellsAt_row.2 ⟨v, [], rfl, hr, rfl⟩
 | x :: rs, xs, h => by
  obtain ⟨u, l, rfl, h1, h2⟩ := cellsAt_row.1 h
  exact cellsAt_row.2 ⟨u, l ++ [v], rfl, h1, cellsAt_rows_snoc hr h2⟩
theorem cellsAt_rows {w : World} {A : Nat → Prop} : ∀ {rs : List Tr} {xs : List Value}, cellsAt w A (rowsOf rs .nil) xs → xs.length = rs.length ∧ ∀ (k : Nat) (r : Tr), rs[k]? = some r → ∃ v, xs[k]? = some v ∧ rowAt w A r v
 | [], xs, h => by
  obtain rfl : xs = [] := h
  exact ⟨rfl, fun k it hk => by simp at hk⟩
 | x :: rs, xs, h => by
  obtain ⟨u, l, rfl, h1, h2⟩ := cellsAt_row.1 h
  obtain ⟨h3, h4⟩ := cellsAt_rows h2
  refine ⟨by simp [h3], fun k r hk => ?_⟩
  cases k with
  | zero => simp at hk; subst hk; exact ⟨u, rfl, h1⟩
  | succ k =>
   obtain ⟨v, h5, h6⟩ := h4 k r (by simpa using hk)
   exact ⟨v, by simpa using h5, h6⟩
/-- Rows are rows of pieces. -/
theorem wf_parts : ∀ T : Tr, (wf false T → ∃ l, T = rowT l .nil ∧ ∀ n rows sg, Item.grp n rows sg ∈ l → wf true rows ∧ sz rows < sz T) ∧ (wf true T → ∃ rs, rs ≠ [] ∧ T = rowsOf rs .nil ∧ ∀ r ∈ rs, wf false r ∧ sz r < sz T)
 | .nil => ⟨fun _ => ⟨[], rfl, fun n rows sg h => by simp at h⟩, fun h => h.elim⟩
 | .set s sg rest => ⟨fun h => by
   obtain ⟨l, h1, h2⟩ := (wf_parts rest).1 h
   refine ⟨.set s sg :: l, by rw [h1]; rfl, fun n rows sg' hm => ?_⟩
   rcases List.mem_cons.1 hm with hm | hm
   ·
    cases hm
   ·
    obtain ⟨h3, h4⟩ := h2 n rows sg' hm
    exact ⟨h3, by simp only [sz] at *; omega⟩, fun h => by cases h⟩
 | .grp n rows sg rest => ⟨fun h => by
   obtain ⟨l, h1, h2⟩ := (wf_parts rest).1 h.2
   refine ⟨.grp n rows sg :: l, by rw [h1]; rfl, fun n' rows' sg' hm => ?_⟩
   rcases List.mem_cons.1 hm with hm | hm
   ·
    cases hm
    exact ⟨h.1, by simp only [sz] at *; omega⟩
   ·
    obtain ⟨h3, h4⟩ := h2 n' rows' sg' hm
    exact ⟨h3, by simp only [sz] at *; omega⟩, fun h => by cases h⟩
 | .row r rest => ⟨fun h => h.elim, fun h => by
   have hr : wf false r := by
    cases rest with
    | nil => exact h
    | set s sg rest => exact h.1
    | grp n rows sg rest => exact h.1
    | row a b => exact h.1
   by_cases hn : rest = .nil
   ·
    subst hn
    exact ⟨[r], by simp, rfl, fun x hx => by simp at hx; subst hx; exact ⟨hr, by simp [sz]⟩⟩
   ·
    have hw : wf true rest := by
     cases rest with
     | nil => exact absurd rfl hn
     | set s sg rest => exact h.2
     | grp n rows sg rest => exact h.2
     | row a b => exact h.2
    obtain ⟨rs, h1, h2, h3⟩ := (wf_parts rest).2 hw
    refine ⟨r :: rs, by simp, by rw [h2]; rfl, fun x hx => ?_⟩
    rcases List.mem_cons.1 hx with rfl | hx
    ·
     exact ⟨hr, by simp only [sz] at *; omega⟩
    ·
     obtain ⟨h4, h5⟩ := h3 x hx
     exact ⟨h4, by simp only [sz] at *; omega⟩⟩
def Item.nothing : Item → Bool
 | .set _ sg => sg = 42 || sg = 63
 | .grp _ rows sg => sg = 42 || sg = 63 || Go.Proofs.YtndpjdmfkhjiiaaGreatDoor.nothing rows
theorem nothing_rowT : ∀ l : List Item, nothing (rowT l .nil) = l.all Item.nothing
 | [] => rfl
 | .set s sg :: l => by show ((_ || _) && nothing (rowT l .nil)) = _; rw [nothing_rowT l]; rfl
 | .grp n rows sg :: l => by show ((_ || _ || _) && nothing (rowT l .nil)) = _; rw [nothing_rowT l]; rfl
theorem own_len {w : World} {B e size n : Nat} {v : Value} {xs : List Value} (h : w.ownsRow B e size v n xs) : xs.length = n * size := by simpa using h.1
/-- A row that has something lies in a block. -/
theorem own_block {w : World} {B e size n : Nat} {v : Value} {xs : List Value} (h : w.ownsRow B e size v n xs) (hn : 0 < n) : ∃ b cp, v = .slice (some ⟨b, 0, none⟩) n cp ∧ b < w.heap.size ∧ ∀ i u, xs[i]? = some u → w.cell? ⟨b, i, none⟩ = some u := by
 rcases h.2 with ⟨_, h0⟩ | ⟨g, cap, cur, rfl, _, h2, _⟩
 ·
  omega
 ·
  exact ⟨g, cap, rfl, lt_of_block h2, fun i u hu => own_cell h hu⟩
theorem rowT_len : ∀ l : List Item, l.length ≤ sz (rowT l .nil)
 | [] => Nat.le_refl _
 | .set s sg :: l => by
  have := rowT_len l
  show l.length + 1 ≤ 2 + again sg + sz (rowT l .nil)
  omega
 | .grp n rows sg :: l => by
  have := rowT_len l
  show l.length + 1 ≤ 4 + again sg + sz rows + sz (rowT l .nil)
  omega
theorem rowsOf_len : ∀ rs : List Tr, rs.length ≤ sz (rowsOf rs .nil)
 | [] => Nat.le_refl _
 | r :: rs => by
  have := rowsOf_len rs
  show rs.length + 1 ≤ sz r + 1 + sz (rowsOf rs .nil)
  omega
theorem laid_five (w : World) (x0 x1 x2 x3 x4 : Value) (t : TypeId) : ∃ W : World, w.alloc (.cells #[x0, x1, x2, x3, x4] t) = W ∧ Grow w W ∧ W.heap[w.heap.size]? = some (.cells #[x0, x1, x2, x3, x4] t (0, 0)) := ⟨_, rfl, (Grow.refl _).alloc _, heap_alloc_new _ _⟩
set_option maxRecDepth 20000 in
set_option maxHeartbeats 4000000 in
theorem mayNothing_any : ∀ (n : Nat) (T : Tr), sz T ≤ n → wf true T → ∀ (w : World) (A : Nat → Prop) (v : Value) (k : Nat) (ys : List Value), w.ownsRow 0 153 1 v k ys → cellsAt w A T ys → k ≤ 1000000 →
  (∀ r ∈ [T], sz r ≤ 1000000) →
  Calls Tryz.prog 108 #[v] w fun e w' => e = .returned (.bool (nothing T)) ∧ Grow w w' := by
 intro n
 induction n using Nat.strongRecOn with
 | _ n ih =>
  intro T hn hwf w A v k ys hv hc hk hsz
  obtain ⟨rs, hrs, rfl, hparts⟩ := (wf_parts T).2 hwf
  obtain ⟨hlen, hrows⟩ := cellsAt_rows hc
  have hyk := own_len hv
  have hrk : rs.length = k := by omega
  have hszT : sz (rowsOf rs .nil) ≤ 1000000 := hsz _ (by simp)
  have HP := hide hparts
  have HR := hide hrows
  have HT := hide (nothing_rows rs hrs)
  have hk0 : 0 < k := by
   rw [← hrk]
   exact List.length_pos_iff.2 hrs
  obtain ⟨vb, vc, rfl, hvb, hvcell⟩ := own_block hv hk0
  have HVC := hide hvcell
  have HIH : Hid (∀ m T', m < n → sz T' ≤ m → wf true T' → ∀ (w : World) (A : Nat → Prop) (v : Value) (k : Nat) (ys : List Value), w.ownsRow 0 153 1 v k ys → cellsAt w A T' ys → k ≤ 1000000 → sz T' ≤ 1000000 →
    Calls Tryz.prog 108 #[v] w fun e w' => e = .returned (.bool (nothing T')) ∧ Grow w w') := hide fun m T' hm h1 h2 w A v k ys h3 h4 h5 h6 => ih m hm T' h1 h2 w A v k ys h3 h4 h5 (by simpa using h6)
  clear ih hc hv hparts hrows hvcell hrs hsz
  go_enter Tryz.func108, Tryz.ntmps108
  go_wp2
  go_loopw [3] (fun iv wr => ∃ i : Nat, i ≤ k ∧ iv = .int .i64 i ∧ Hid (Grow w wr) ∧ Hid (∀ j r, j < i → rs[j]? = some r → nothing r = false)) (fun iv _ => k - (intOf iv).toNat)
  case atStart => exact ⟨0, by omega, rfl, hide (Grow.refl _), hide fun j r hj => by omega⟩
  case round =>
   obtain ⟨i, hi, rfl, HG, HN⟩ := hrel
   by_cases hlt : i < k
   ·
    have hlt2 : (i : Int) < (k : Int) := by omega
    obtain ⟨r, hr⟩ : ∃ r, rs[i]? = some r := ⟨_, List.getElem?_eq_getElem (by omega)⟩
    obtain ⟨rv, hyi, kr, zs, hrow, _, hcr⟩ := HR.out i r hr
    obtain ⟨hwr, hsr⟩ := HP.out r (List.mem_of_getElem? hr)
    obtain ⟨l, rfl, hits⟩ := (wf_parts r).1 hwr
    obtain ⟨hzl, hitem⟩ := cellsAt_item hcr
    have hzk := own_len hrow
    have hkl : kr = l.length := by omega
    subst hkl
    obtain ⟨ro, rc, rfl⟩ := own_shape hrow
    have HI := hide hitem
    have HITS := hide hits
    have HROW := hide hrow
    have hrc := HVC.out i _ hyi
    have hrcr := (cell_keep (sp := none) (o := i) (HG.out.block vb hvb)).trans hrc
    have HRC := hide hrc
    have HIR := hide hr
    have hll : l.length ≤ 1000000 := by
     have h1 := rowT_len l
     omega
    clear hits hitem hrow hcr hrc hr hyi hzl hzk hwr
    go_wp2
    go_loopw [4, 5] (fun av kv wr2 => ∃ q : Nat, q ≤ l.length ∧ kv = .int .i64 q ∧ av = .bool ((l.take q).all Item.nothing) ∧ Hid (Grow w wr2)) (fun _ kv _ => l.length - (intOf kv).toNat)
    case atStart => exact ⟨0, by omega, rfl, rfl, HG⟩
    case round =>
     obtain ⟨q, hq, rfl, rfl, HG2⟩ := hrel
     rename World => wr2
     have hrc2 := (cell_keep (sp := none) (o := i) (HG2.out.block vb hvb)).trans HRC.out
     by_cases hql : q < l.length
     ·
      have hql2 : (q : Int) < (l.length : Int) := by omega
      obtain ⟨it, hit⟩ : ∃ it, l[q]? = some it := ⟨_, List.getElem?_eq_getElem hql⟩
      have HTK : Hid ((l.take (q + 1)).all Item.nothing = ((l.take q).all Item.nothing && it.nothing)) := by
       show _ = _
       rw [List.take_add_one, hit]
       simp
      obtain ⟨xs, hia, hcells⟩ := HI.out q it hit
      obtain ⟨rb, rc', hre, hrb, hrcell⟩ := own_block HROW.out (by omega)
      simp at hre
      obtain ⟨rfl, rfl⟩ := hre
      have hpc : ∀ j, j < 5 → ∀ u, xs[j]? = some u → wr2.cell? ⟨rb, q * 5 + j, none⟩ = some u := fun j hj u hu =>
       (cell_keep (sp := none) (o := q * 5 + j) (HG2.out.block rb hrb)).trans (hrcell _ _ ((hcells j hj).trans hu))
      generalize (l.take q).all Item.nothing = av at HTK ⊢
      cases it with
      | set s sg =>
       obtain ⟨b, hxs, _, _⟩ := hia
       have p0 := hpc 0 (by omega) _ (by rw [hxs]; rfl)
       rw [Nat.add_zero] at p0
       have p1 := hpc 1 (by omega) _ (by rw [hxs]; rfl)
       have p2 := hpc 2 (by omega) _ (by rw [hxs]; rfl)
       have p3 := hpc 3 (by omega) _ (by rw [hxs]; rfl)
       have p4 := hpc 4 (by omega) _ (by rw [hxs]; rfl)
       obtain ⟨W, eW, gW, hW⟩ := laid_five wr2 (.bool false) (.slice (some ⟨b, 0, none⟩) 256 256) (.int .i64 0) (.slice none 0 0) (.int .u8 (sg : Int)) 155
       obtain ⟨q0, q1, q2, q3, q4⟩ := five_cells hW
       have HGW : Hid (Grow w W) := hide (HG2.out.trans gW)
       clear hW gW
       cases av with
       | false =>
        clear hpc HI HITS
        go_wp2
        refine ⟨⟨q + 1, by omega, by go_num, by rw [HTK.out]; rfl, HGW⟩, ?_⟩
        simp [intOf]; omega
       | true =>
        by_cases h42 : sg = 42
        ·
         have e42 : ((sg : Int) == 42) = true := by simp [h42]
         have H42 := hide h42
         clear h42
         clear hpc HI HITS
         go_wp2
         refine ⟨⟨q + 1, by omega, by go_num, by rw [HTK.out]; simp [Item.nothing, H42.out], HGW⟩, ?_⟩
         simp [intOf]; omega
        ·
         have e42 : ((sg : Int) == 42) = false := by simp; omega
         have H42 := hide h42
         clear h42
         by_cases h63 : sg = 63
         ·
          have e63 : ((sg : Int) == 63) = true := by simp [h63]
          have H63 := hide h63
          clear h63
          clear hpc HI HITS
          go_wp2
          refine ⟨⟨q + 1, by omega, by go_num, by rw [HTK.out]; simp [Item.nothing, H63.out], HGW⟩, ?_⟩
          simp [intOf]; omega
         ·
          have e63 : ((sg : Int) == 63) = false := by simp; omega
          have H63 := hide h63
          clear h63
          clear hpc HI HITS
          go_wp2
          refine ⟨⟨q + 1, by omega, by go_num, by rw [HTK.out]; simp [Item.nothing, H42.out, H63.out], HGW⟩, ?_⟩
          simp [intOf]; omega
      | grp n' rows sg =>
       obtain ⟨rv, kq, yq, hxs, hown, _, hcq⟩ := hia
       obtain ⟨rvo, rvc, rfl⟩ := own_shape hown
       obtain ⟨nn, hnn⟩ : ∃ nn : Nat, n' + 1 = nn := ⟨_, rfl⟩
       rw [hnn] at hxs
       have p0 := hpc 0 (by omega) _ (by rw [hxs]; rfl)
       rw [Nat.add_zero] at p0
       have p1 := hpc 1 (by omega) _ (by rw [hxs]; rfl)
       have p2 := hpc 2 (by omega) _ (by rw [hxs]; rfl)
       have p3 := hpc 3 (by omega) _ (by rw [hxs]; rfl)
       have p4 := hpc 4 (by omega) _ (by rw [hxs]; rfl)
       obtain ⟨W, eW, gW, hW⟩ := laid_five wr2 (.bool true) (.slice none 0 0) (.int .i64 (nn : Int)) (.slice rvo kq rvc) (.int .u8 (sg : Int)) 155
       obtain ⟨q0, q1, q2, q3, q4⟩ := five_cells hW
       have HGW : Hid (Grow w W) := hide (HG2.out.trans gW)
       clear hW gW
       cases av with
       | false =>
        clear hpc HI HITS
        go_wp2
        refine ⟨⟨q + 1, by omega, by go_num, by rw [HTK.out]; rfl, HGW⟩, ?_⟩
        simp [intOf]; omega
       | true =>
        by_cases h42 : sg = 42
        ·
         have e42 : ((sg : Int) == 42) = true := by simp [h42]
         have H42 := hide h42
         clear h42
         clear hpc HI HITS
         go_wp2
         refine ⟨⟨q + 1, by omega, by go_num, by rw [HTK.out]; simp [Item.nothing, H42.out], HGW⟩, ?_⟩
         simp [intOf]; omega
        ·
         have e42 : ((sg : Int) == 42) = false := by simp; omega
         have H42 := hide h42
         clear h42
         by_cases h63 : sg = 63
         ·
          have e63 : ((sg : Int) == 63) = true := by simp [h63]
          have H63 := hide h63
          clear h63
          clear hpc HI HITS
          go_wp2
          refine ⟨⟨q + 1, by omega, by go_num, by rw [HTK.out]; simp [Item.nothing, H63.out], HGW⟩, ?_⟩
          simp [intOf]; omega
         ·
          have e63 : ((sg : Int) == 63) = false := by simp; omega
          have H63 := hide h63
          clear h63
          have hmem : Item.grp n' rows sg ∈ l := List.mem_of_getElem? hit
          obtain ⟨hwr2, hsz2⟩ := HITS.out n' rows sg hmem
          have hkq : kq ≤ 1000000 := by
           obtain ⟨rs2, _, rfl, _⟩ := (wf_parts rows).2 hwr2
           have h1 := (cellsAt_rows hcq).1
           have h2 := own_len hown
           have h3 := rowsOf_len rs2
           omega
          have HREC : Hid (∀ _ : World, Calls Tryz.prog 108 #[.slice rvo kq rvc] W fun e w' => e = .returned (.bool (nothing rows)) ∧ Grow W w') := hide fun _ =>
           HIH.out (sz rows) rows (by omega) (Nat.le_refl _) hwr2 W A _ kq yq (own_grow hown (HGW.out)) (hcq.grow HGW.out) hkq (by omega)
          clear hpc HI HITS
          go_wp2_with fail
          refine (HREC.out W).mono ?_
          rintro e W2 ⟨rfl, hg5⟩
          have HGV : Hid (Grow w W2) := hide (HGW.out.trans hg5)
          clear hg5
          obtain ⟨nb, HNB⟩ : ∃ nb, Hid (nothing rows = nb) := ⟨_, hide rfl⟩
          rw [HNB.out]
          go_wp2
          refine ⟨⟨q + 1, by omega, by go_num, by rw [HTK.out]; simp [Item.nothing, H42.out, H63.out, HNB.out], HGV⟩, ?_⟩
          simp [intOf]; omega
     ·
      obtain rfl : q = l.length := by omega
      have hql2 : ¬ (l.length : Int) < (l.length : Int) := by omega
      have hall := nothing_rowT l
      rw [List.take_length]
      cases hb : nothing (rowT l .nil) with
      | true =>
       rw [hb] at hall
       rw [← hall]
       have HTT : Hid (nothing (rowsOf rs .nil) = true) := by
        show _ = _
        rw [HT.out, List.any_eq_true]
        exact ⟨_, List.mem_of_getElem? HIR.out, hb⟩
       clear hb hall
       go_wp2
       go_ret
       exact ⟨ret_bool HTT.out.symm, HG2.out⟩
      | false =>
       rw [hb] at hall
       rw [← hall]
       have HN2 : Hid (∀ j r, j < i + 1 → rs[j]? = some r → nothing r = false) := hide fun j r hj hr => by
        by_cases e : j = i
        ·
         subst e
         rw [HIR.out] at hr
         cases hr
         exact hb
        ·
         exact HN.out j r (by omega) hr
       clear hb hall
       go_wp2
       refine ⟨⟨i + 1, by omega, by go_num, HG2, HN2⟩, ?_⟩
       simp [intOf]; omega
   ·
    obtain rfl : i = k := by omega
    have hlt2 : ¬ (i : Int) < (i : Int) := by omega
    have HTT : Hid (nothing (rowsOf rs .nil) = false) := by
     show _ = _
     rw [HT.out, List.any_eq_false]
     intro r hr
     obtain ⟨j, hj, rfl⟩ := List.getElem_of_mem hr
     rw [HN.out j _ (by omega) (List.getElem?_eq_getElem hj)]
     simp
    go_wp2
    go_ret
    exact ⟨ret_bool HTT.out.symm, HG.out⟩
set_option maxRecDepth 20000 in
set_option maxHeartbeats 4000000 in
theorem ratom_wrong (w : World) (rb : Nat) (m : List UInt8) (i g : Nat) (c : UInt8) (hr : readerAt w rb m i g 0 0) (hc : m[i]? = some c) (hm : m.length ≤ 1000) (hq : c.toNat = 42 ∨ c.toNat = 43 ∨ c.toNat = 63 ∨ c.toNat = 93) :
  Calls Tryz.prog 106 #[.pointer (some ⟨rb, 0, none⟩)] w (ratomPost rb m g (.error (1, i)) w) := by
 have hrb := lt_of_block hr
 have hi := get_lt hc
 have hget : m[i] = c := by rw [List.getElem?_eq_getElem hi] at hc; exact Option.some.inj hc
 have HI46 : Hid (isAt m i 46 = false) := by show _ = _; simp [isAt, hc]; omega
 have HI92 : Hid (isAt m i 92 = false) := by show _ = _; simp [isAt, hc]; omega
 have HI91 : Hid (isAt m i 91 = false) := by show _ = _; simp [isAt, hc]; omega
 have HI40 : Hid (isAt m i 40 = false) := by show _ = _; simp [isAt, hc]; omega
 obtain ⟨A, HA⟩ : ∃ A, Hid (A = w.alloc (.cells pieceZ 155)) := ⟨_, hide rfl⟩
 have hA := AtS.first hr HA.out
 obtain ⟨c0, c1, c2, c3, c4⟩ := five_cells hA.rd
 have HAS : Hid (∀ n, AtS w rb m i g 0 0 (A.drewN n)) := hide fun n => ⟨hA.kept.drewN, hA.size, hA.out, hA.rd⟩
 have eA := HA.out.symm
 have HAM : Hid (comesB [42, 43, 63, 41, 124, 93] m i = true) := by
  show _ = _
  unfold comesB
  rw [hc]
  simp only [contains_nat, List.any_cons, List.any_nil]
  simp
  omega
 clear hr hc HA hA c2 c3 c4 hq
 go_enter Tryz.func106, Tryz.ntmps106
 go_wp2
 go_quiet (fail)
 have H0 := hide (HAS.out nq)
 clear eA HAS c0 c1
 go_wp2_with fail
 refine (rmay_any _ rb m i g 0 0 46 46 rfl (by decide) (by omega) H0.out.rd).mono ?_
 rintro en w1 ⟨rfl, hk, hr1⟩
 have h1 := H0.out.on hrb hk hr1
 rw [HI46.out] at h1 ⊢
 simp only [onIf] at h1
 have H1 := hide h1
 clear hk hr1 h1 H0
 go_wp2_with fail
 refine (rmay_any _ rb m i g 0 0 92 92 rfl (by decide) (by omega) H1.out.rd).mono ?_
 rintro en w2 ⟨rfl, hk, hr1⟩
 have h1 := H1.out.on hrb hk hr1
 rw [HI92.out] at h1 ⊢
 simp only [onIf] at h1
 have H2 := hide h1
 clear hk hr1 h1 H1
 go_wp2_with fail
 refine (rmay_any _ rb m i g 0 0 91 91 rfl (by decide) (by omega) H2.out.rd).mono ?_
 rintro en w3 ⟨rfl, hk, hr1⟩
 have h1 := H2.out.on hrb hk hr1
 rw [HI91.out] at h1 ⊢
 simp only [onIf] at h1
 have H3 := hide h1
 clear hk hr1 h1 H2
 go_wp2_with fail
 refine (ris_any _ rb m i g 0 0 40 40 rfl (by decide) H3.out.rd).mono ?_
 rintro en w4 ⟨rfl, nd, rfl⟩
 have h1 := H3.out.on hrb (Kept2.drewN (n := nd) (.refl _ _ _)) H3.out.rd.draw
 rw [HI40.out]
 have H4 := hide h1
 clear h1 H3
 go_wp2_with fail
 refine (ramong_any _ rb m [42, 43, 63, 41, 124, 93] i g 0 0 (by decide) H4.out.rd).mono ?_
 rintro en w5 ⟨rfl, ne, rfl⟩
 have h1 := H4.out.on hrb (Kept2.drewN (n := ne) (.refl _ _ _)) H4.out.rd.draw
 rw [HAM.out]
 have H5 := hide h1
 clear h1 H4
 obtain ⟨W3, HW3⟩ : ∃ W3, Hid (W3 = World.drewN (World.drewN w3 nd) ne) := ⟨_, hide rfl⟩
 rw [← HW3.out]
 have h3 : AtS w rb m i g 0 0 W3 := by rw [HW3.out]; exact H5.out
 obtain ⟨c0, c1, _, _, _⟩ := five_cells h3.rd
 have H7 := hide h3
 clear h3 HW3 H5
 go_wp2_with fail
 refine (wrong_any _ rb m i g 1 (i : Int) 1 i rfl rfl H7.out.rd).mono ?_
 rintro en w6 ⟨rfl, hk3, hr3⟩
 have H6 := hide (H7.out.on hrb hk3 hr3)
 clear hk3 hr3
 obtain ⟨⟨r0, r1, r2, r3, r4⟩, rf⟩ := H6.out.cells
 have z0 := rf 0
 have z1 := rf 1
 have z2 := rf 2
 have z3 := rf 3
 have z4 := rf 4
 obtain ⟨Z, eZ, hk, ho, hrd, hkb⟩ := H6.out.store hrb (.bool false) (.slice none 0 0) (.int .i64 0) (.slice none 0 0) (.int .u8 0)
 have HO := hide ho
 have HK := hide hk
 have HRD := hide hrd
 have HKB := hide hkb
 clear rf hk ho hrd hkb
 go_wp2
 refine bodyPost_ret (v := pieceV false (.slice none 0 0) 0 (.slice none 0 0) 0) (results_cell_row (p := 2) (ty := 155) rfl _ _ w.heap.size _ _ _ _ rfl HO.out Tryz.underlying155 rfl Tryz.infoPiece) rfl ⟨HK.out, _, rfl, ⟨rfl, i, HRD.out⟩⟩
set_option maxRecDepth 20000 in
set_option maxHeartbeats 4000000 in
theorem ratom_plain (w : World) (rb : Nat) (m : List UInt8) (i g : Nat) (c : UInt8) (hr : readerAt w rb m i g 0 0) (hc : m[i]? = some c) (hm : m.length ≤ 1000) (hq : c.toNat ≠ 42 ∧ c.toNat ≠ 43 ∧ c.toNat ≠ 63 ∧ c.toNat ≠ 93 ∧ c.toNat ≠ 46 ∧ c.toNat ≠ 92 ∧ c.toNat ≠ 91 ∧ c.toNat ≠ 40 ∧ c.toNat ≠ 41 ∧ c.toNat ≠ 124) :
  Calls Tryz.prog 106 #[.pointer (some ⟨rb, 0, none⟩)] w (ratomPost rb m g (.ok (between c c, i + 1)) w) := by
 have hrb := lt_of_block hr
 have hi := get_lt hc
 have hget : m[i] = c := by rw [List.getElem?_eq_getElem hi] at hc; exact Option.some.inj hc
 have HI46 : Hid (isAt m i 46 = false) := by show _ = _; simp [isAt, hc]; omega
 have HI92 : Hid (isAt m i 92 = false) := by show _ = _; simp [isAt, hc]; omega
 have HI91 : Hid (isAt m i 91 = false) := by show _ = _; simp [isAt, hc]; omega
 have HI40 : Hid (isAt m i 40 = false) := by show _ = _; simp [isAt, hc]; omega
 obtain ⟨A, HA⟩ : ∃ A, Hid (A = w.alloc (.cells pieceZ 155)) := ⟨_, hide rfl⟩
 have hA := AtS.first hr HA.out
 obtain ⟨c0, c1, c2, c3, c4⟩ := five_cells hA.rd
 have HAS : Hid (∀ n, AtS w rb m i g 0 0 (A.drewN n)) := hide fun n => ⟨hA.kept.drewN, hA.size, hA.out, hA.rd⟩
 have eA := HA.out.symm
 have HAM : Hid (comesB [42, 43, 63, 41, 124, 93] m i = false) := by
  show _ = _
  unfold comesB
  rw [hc]
  simp only [contains_nat, List.any_cons, List.any_nil]
  simp
  omega
 clear hr hc HA hA c2 c3 c4 hq
 go_enter Tryz.func106, Tryz.ntmps106
 go_wp2
 go_quiet (fail)
 have H0 := hide (HAS.out nq)
 clear eA HAS c0 c1
 go_wp2_with fail
 refine (rmay_any _ rb m i g 0 0 46 46 rfl (by decide) (by omega) H0.out.rd).mono ?_
 rintro en w1 ⟨rfl, hk, hr1⟩
 have h1 := H0.out.on hrb hk hr1
 rw [HI46.out] at h1 ⊢
 simp only [onIf] at h1
 have H1 := hide h1
 clear hk hr1 h1 H0
 go_wp2_with fail
 refine (rmay_any _ rb m i g 0 0 92 92 rfl (by decide) (by omega) H1.out.rd).mono ?_
 rintro en w2 ⟨rfl, hk, hr1⟩
 have h1 := H1.out.on hrb hk hr1
 rw [HI92.out] at h1 ⊢
 simp only [onIf] at h1
 have H2 := hide h1
 clear hk hr1 h1 H1
 go_wp2_with fail
 refine (rmay_any _ rb m i g 0 0 91 91 rfl (by decide) (by omega) H2.out.rd).mono ?_
 rintro en w3 ⟨rfl, hk, hr1⟩
 have h1 := H2.out.on hrb hk hr1
 rw [HI91.out] at h1 ⊢
 simp only [onIf] at h1
 have H3 := hide h1
 clear hk hr1 h1 H2
 go_wp2_with fail
 refine (ris_any _ rb m i g 0 0 40 40 rfl (by decide) H3.out.rd).mono ?_
 rintro en w4 ⟨rfl, nd, rfl⟩
 have h1 := H3.out.on hrb (Kept2.drewN (n := nd) (.refl _ _ _)) H3.out.rd.draw
 rw [HI40.out]
 have H4 := hide h1
 clear h1 H3
 go_wp2_with fail
 refine (ramong_any _ rb m [42, 43, 63, 41, 124, 93] i g 0 0 (by decide) H4.out.rd).mono ?_
 rintro en w5 ⟨rfl, ne, rfl⟩
 have h1 := H4.out.on hrb (Kept2.drewN (n := ne) (.refl _ _ _)) H4.out.rd.draw
 rw [HAM.out]
 have H5 := hide h1
 clear h1 H4
 obtain ⟨W3, HW3⟩ : ∃ W3, Hid (W3 = World.drewN (World.drewN w3 nd) ne) := ⟨_, hide rfl⟩
 rw [← HW3.out]
 have h3 : AtS w rb m i g 0 0 W3 := by rw [HW3.out]; exact H5.out
 obtain ⟨k0, k1, _, _, _⟩ := five_cells h3.rd
 have kf := not_frozen (k := 1) h3.rd
 obtain ⟨W4, HW4⟩ : ∃ W4, Hid (W4 = W3.setCell ⟨rb, 1, none⟩ (.int .i64 ((i : Int) + 1))) := ⟨_, hide rfl⟩
 have h4 : AtS w rb m (i + 1) g 0 0 W4 := by rw [HW4.out]; exact h3.on hrb (.setT _ _) (h3.rd.on _ (by go_num))
 have H4 := hide h4
 have hwr : IntKind.i64.wrap ((i : Int) + 1) = (i : Int) + 1 := wrap_i64_small _ (by omega) (by omega)
 have eW4 := HW4.out.symm
 clear h3 HW3 HW4 h4 H5
 go_wp2_with fail
 clear eW4 k0 k1 kf
 refine (alone_any c W4).mono ?_
 rintro en w5 ⟨rfl, hg5, hb5⟩
 have hs4 := H4.out.size
 have H5 := hide (H4.out.grow hrb hg5)
 have HBB := hide hb5
 clear hg5 hb5 H4
 obtain ⟨⟨r0, r1, r2, r3, r4⟩, rf⟩ := H5.out.cells
 have z0 := rf 0
 have z1 := rf 1
 have z2 := rf 2
 have z3 := rf 3
 have z4 := rf 4
 obtain ⟨Z, eZ, hk, ho, hrd, hkb⟩ := H5.out.store hrb (.bool false) (.slice (some ⟨W4.heap.size, 0, none⟩) 256 256) (.int .i64 0) (.slice none 0 0) (.int .u8 0)
 have HO := hide ho
 have HK := hide hk
 have HRD := hide hrd
 have HKB := hide hkb
 clear rf hk ho hrd hkb
 have HB2 : Hid (boolsAt Z W4.heap.size (boolRow (between c c))) := hide (HBB.out.keep (HKB.out _ (by omega)))
 go_wp2
 refine bodyPost_ret (v := pieceV false (.slice (some ⟨W4.heap.size, 0, none⟩) 256 256) 0 (.slice none 0 0) 0) (results_cell_row (p := 2) (ty := 155) rfl _ _ w.heap.size _ _ _ _ rfl HO.out Tryz.underlying155 rfl Tryz.infoPiece) rfl ⟨HK.out, _, rfl, ⟨_, rfl, ⟨_, rfl, by omega, HB2.out⟩, HRD.out⟩⟩
theorem wrap64_byte (c : UInt8) : wrap64 (c.toNat : Int) = (c.toNat : Int) := by
 have := c.toNat_lt
 unfold wrap64
 omega
/-- Where a reader is. -/
def placeR (w : World) (rb : Nat) : Nat := match w.heap[rb]? with | some (.cells c _ _) => (intOf (c.getD 1 undef)).toNat | _ => 0
theorem readerAt.place {w : World} {rb : Nat} {m : List UInt8} {i g e a : Nat} (h : readerAt w rb m i g e a) : placeR w rb = i := by
 unfold readerAt at h
 simp [placeR, h, intOf]
/-- Brackets, if they are turned round. -/
def outOf (neg : Bool) : Except (Nat × Nat) ((UInt8 → Bool) × Nat) → Except (Nat × Nat) ((UInt8 → Bool) × Nat)
 | .error e => .error e
 | .ok x => .ok (if neg then butAll x.1 else x.1, x.2)
theorem brackets_out {m : List UInt8} {i : Nat} {y} (h : pBrackets m i = some y) : ∃ z, bindO (pSpan m (onIf (isAt m i 94) i)) (fun x => pSpans m (m.length + 1) (union (fun _ => false) x.1) x.2) = some z ∧ y = outOf (isAt m i 94) z := by
 have hj : (if isAt m i 94 = true then i + 1 else i) = onIf (isAt m i 94) i := by cases isAt m i 94 <;> rfl
 have hu : ∀ s : UInt8 → Bool, union (fun _ => false) s = s := fun s => by funext x; simp [union]
 unfold pBrackets at h
 simp only [hj] at h
 simp only [hu]
 rw [← bindO_assoc] at h
 rcases bindO_eq h with ⟨e, he, rfl⟩ | ⟨x, hx, h⟩
 ·
  exact ⟨_, he, rfl⟩
 ·
  cases h
  exact ⟨_, hx, rfl⟩
/-- What is left between brackets: at the first span, or behind one. -/
def Rem (m : List UInt8) (z : Except (Nat × Nat) ((UInt8 → Bool) × Nat)) (first : Bool) (p : Nat) (s : UInt8 → Bool) (f : Nat) : Prop :=
 match first with
 | true => bindO (pSpan m p) (fun x => pSpans m f (union s x.1) x.2) = some z
 | false => pSpans m f s p = some z
theorem upto_row {s : UInt8 → Bool} {a k : Nat} (h : k < 256) (ha : a ≤ k) : (boolRow fun x => s x || (decide (a ≤ x.toNat) && decide (x.toNat < k))).set k true = boolRow fun x => s x || (decide (a ≤ x.toNat) && decide (x.toNat < k + 1)) := by
 rw [boolRow_set _ _ h]
 congr 1
 funext x
 by_cases e : x.toNat = k
 ·
  simp [e, ha]
 ·
  have : x.toNat < k ↔ x.toNat < k + 1 := by omega
  simp [e, this]
theorem upto_zero (s : UInt8 → Bool) (a : UInt8) : (fun x : UInt8 => s x || (decide (a.toNat ≤ x.toNat) && decide (x.toNat < a.toNat))) = s := by
 funext x
 by_cases h : a.toNat ≤ x.toNat
 ·
  have : ¬ x.toNat < a.toNat := by omega
  simp [this]
 ·
  simp [h]
theorem upto_full (s : UInt8 → Bool) (a b : UInt8) : (fun x : UInt8 => s x || (decide (a.toNat ≤ x.toNat) && decide (x.toNat < b.toNat + 1))) = union s (between a b) := by
 funext x
 have : x.toNat < b.toNat + 1 ↔ x.toNat ≤ b.toNat := by omega
 simp [union, between, this]
/-- Turned round as far as so many. -/
def turned (s : UInt8 → Bool) (neg : Bool) (k : Nat) : UInt8 → Bool := fun x => if x.toNat < k then (s x != neg) else s x
theorem turned_row {s : UInt8 → Bool} {neg : Bool} {k : Nat} (h : k < 256) : (boolRow (turned s neg k)).set k (s (UInt8.ofNat k) != neg) = boolRow (turned s neg (k + 1)) := by
 rw [boolRow_set _ _ h]
 congr 1
 funext x
 unfold turned
 by_cases e : x.toNat = k
 ·
  have hx : x = UInt8.ofNat k := by rw [← e, UInt8.ofNat_toNat]
  simp [e, ← hx]
 ·
  have : x.toNat < k ↔ x.toNat < k + 1 := by omega
  simp [e, this]
theorem turned_get {s : UInt8 → Bool} {neg : Bool} {k : Nat} (h : k < 256) : (boolRow (turned s neg k))[k]? = some (s (UInt8.ofNat k)) := by
 rw [boolRow_get _ h]
 simp [turned, Nat.mod_eq_of_lt h]
theorem turned_zero (s : UInt8 → Bool) (neg : Bool) : turned s neg 0 = s := by funext x; simp [turned]
theorem turned_all (s : UInt8 → Bool) (neg : Bool) : turned s neg 256 = if neg = true then butAll s else s := by
 funext x
 have := x.toNat_lt
 unfold turned
 rw [if_pos this]
 cases neg <;> simp [butAll]
theorem span_at {m : List UInt8} {p : Nat} {c : UInt8} (h : m[p]? = some c) (hb : badIn c = false) : pSpan m p = if isAt m (p + 1) 45 then bindO (pBr m (p + 2)) fun b => if b.toNat < c.toNat then some (.error (3, p + 2)) else some (.ok (between c b, p + 3)) else some (.ok (between c c, p + 1)) := by
 unfold pSpan
 have : pBr m p = some (.ok c) := by unfold pBr; rw [h]; simp [hb]
 rw [this]
 rfl
theorem span_bad {m : List UInt8} {p : Nat} (h : ∀ c, m[p]? = some c → badIn c = true) : pSpan m p = some (.error (1, p)) := by
 unfold pSpan
 have : pBr m p = some (.error (1, p)) := by
  unfold pBr
  cases hc : m[p]? with
  | none => rfl
  | some c => simp [h c hc]
 rw [this]
 rfl
theorem br_bad {m : List UInt8} {p : Nat} (h : ∀ c, m[p]? = some c → badIn c = true) : pBr m p = some (.error (1, p)) := by
 unfold pBr
 cases hc : m[p]? with
 | none => rfl
 | some c => simp [h c hc]
set_option maxRecDepth 20000 in
set_option maxHeartbeats 4000000 in
theorem ratom_brackets (w : World) (rb : Nat) (m : List UInt8) (i g : Nat) (c : UInt8) (hr : readerAt w rb m i g 0 0) (hc : m[i]? = some c) (hm : m.length ≤ 1000) (hq : c.toNat = 91) (y : Except (Nat × Nat) ((UInt8 → Bool) × Nat)) (hy : pSet m i c = some y) :
  Calls Tryz.prog 106 #[.pointer (some ⟨rb, 0, none⟩)] w (ratomPost rb m g y w) := by
 have hrb := lt_of_block hr
 have hi := get_lt hc
 have hget : m[i] = c := by rw [List.getElem?_eq_getElem hi] at hc; exact Option.some.inj hc
 have HI91 : Hid (isAt m i 91 = true) := by show _ = _; simp [isAt, hc, hq]
 have HI46 : Hid (isAt m i 46 = false) := by show _ = _; simp [isAt, hc]; omega
 have HI92 : Hid (isAt m i 92 = false) := by show _ = _; simp [isAt, hc]; omega
 obtain ⟨A, HA⟩ : ∃ A, Hid (A = w.alloc (.cells pieceZ 155)) := ⟨_, hide rfl⟩
 have hA := AtS.first hr HA.out
 obtain ⟨c0, c1, c2, c3, c4⟩ := five_cells hA.rd
 have HAS : Hid (∀ n, AtS w rb m i g 0 0 (A.drewN n)) := hide fun n => ⟨hA.kept.drewN, hA.size, hA.out, hA.rd⟩
 have eA := HA.out.symm
 obtain ⟨j, hj⟩ : ∃ j, i + 1 = j := ⟨_, rfl⟩
 have hy2 : pBrackets m j = some y := by
  rw [← hy, ← hj]
  simp [pSet, hq]
 obtain ⟨z, hz, hyz⟩ := brackets_out hy2
 have HZ := hide hz
 have HY := hide hyz
 clear hr hc HA hA c2 c3 c4 hq hy hy2 hz hyz
 go_enter Tryz.func106, Tryz.ntmps106
 go_wp2
 go_quiet (fail)
 have H0 := hide (HAS.out nq)
 clear eA HAS c0 c1
 go_wp2_with fail
 refine (rmay_any _ rb m i g 0 0 46 46 rfl (by decide) (by omega) H0.out.rd).mono ?_
 rintro en w1 ⟨rfl, hk, hr1⟩
 have h1 := H0.out.on hrb hk hr1
 rw [HI46.out] at h1 ⊢
 simp only [onIf] at h1
 have H1 := hide h1
 clear hk hr1 h1 H0
 go_wp2_with fail
 refine (rmay_any _ rb m i g 0 0 92 92 rfl (by decide) (by omega) H1.out.rd).mono ?_
 rintro en w2 ⟨rfl, hk, hr1⟩
 have h1 := H1.out.on hrb hk hr1
 rw [HI92.out] at h1 ⊢
 simp only [onIf] at h1
 have H2 := hide h1
 clear hk hr1 h1 H1
 go_wp2_with fail
 refine (rmay_any _ rb m i g 0 0 91 91 rfl (by decide) (by omega) H2.out.rd).mono ?_
 rintro en w3 ⟨rfl, hk, hr1⟩
 have h1 := H2.out.on hrb hk hr1
 rw [HI91.out] at h1 ⊢
 simp only [onIf] at h1
 have H3 := hide h1
 clear hk hr1 h1 H2
 rw [hj] at H3
 go_wp2_with fail
 refine (rmay_any _ rb m j g 0 0 94 94 rfl (by decide) (by omega) H3.out.rd).mono ?_
 rintro en w4 ⟨rfl, hk, hr1⟩
 have h4 := H3.out.on hrb hk hr1
 have HJ : Hid (onIf (isAt m j 94) j ≤ m.length) := by
  show _ ≤ _
  cases hb : isAt m j 94 with
  | true => have := isAt_lt hb; simp only [onIf]; omega
  | false => simp only [onIf]; omega
 obtain ⟨neg, HNG⟩ : ∃ neg, Hid (isAt m j 94 = neg) := ⟨_, hide rfl⟩
 rw [HNG.out] at HY HZ HJ h4 ⊢
 generalize onIf neg j = j0 at HZ HJ h4
 obtain ⟨W1, hmk, hg1, hs1, hb1⟩ := made_row w4
 have h5 := h4.grow hrb hg1
 have hLw := h4.size
 obtain ⟨L, hL⟩ : ∃ L, w4.heap.size = L := ⟨_, rfl⟩
 rw [hL] at hmk hb1 hLw
 have H5 := hide h5
 have HB5 := hide hb1
 clear hk hr1 h4 hg1 hb1 h5 H3
 go_wp2
 go_loopw [8] (fun fv wr => ∃ (first : Bool) (p : Nat) (s : UInt8 → Bool) (f : Nat), fv = .bool first ∧ Hid (AtS w rb m p g 0 0 wr) ∧ Hid (boolsAt wr L (boolRow s)) ∧ Hid (Rem m z first p s f) ∧ p ≤ m.length) (fun _ wr => m.length - placeR wr rb)
 case atStart => exact ⟨true, j0, fun _ => false, m.length + 1, rfl, H5, HB5, HZ, HJ.out⟩
 case round =>
  obtain ⟨first, p, s, f, rfl, HX, HBX, HR, hple⟩ := hrel
  rename World => X
  have HPL : Hid (placeR X rb = p) := HX.out.rd.place
  cases first with
  | true =>
   have HS : Hid (bindO (pSpan m p) (fun x => pSpans m f (union s x.1) x.2) = some z) := HR
   clear HR
   by_cases hclt : p < m.length
   ·
    obtain ⟨c, hc⟩ : ∃ c, m[p] = c := ⟨_, rfl⟩
    have hclt2 : (p : Int) < m.length := by omega
    have hcne : ((p : Int) == m.length) = false := by rw [beq_eq_false_iff_ne]; omega
    have hwc : wrap64 (c.toNat : Int) = (c.toNat : Int) := wrap64_byte c
    have hgc : m[p]? = some c := by rw [List.getElem?_eq_getElem hclt, hc]
    have HAMc : Hid (∀ n, Calls Tryz.prog 107 #[.pointer (some ⟨rb, 0, none⟩), .string { data := #[91, 93, 92, 94, 45] }] (X.drewN n) fun e w' => e = .returned (.bool (badIn c)) ∧ ∃ k, w' = (X.drewN n).drewN k) := by
     refine hide fun n => ?_
     have h := ramong_any (X.drewN n) rb m [91, 93, 92, 94, 45] p g 0 0 (by decide) HX.out.rd.draw
     rw [comesB_bad hgc] at h
     exact h
    obtain ⟨c0, c1, _, _, _⟩ := five_cells HX.out.rd
    cases hb : badIn c with
    | true =>
     have HE : Hid (y = .error (1, p)) := by
      show _ = _
      have h := HS.out
      rw [span_bad (fun d hd => by rw [hgc] at hd; cases hd; exact hb)] at h
      rw [HY.out, ← Option.some.inj h]
      rfl
     rw [hb] at HAMc
     clear hb hgc
     go_wp2
     go_quiet ((go_at_call 107; exact Calls.quiet_of (HAMc.out _)))
     obtain ⟨X1, HW2⟩ : ∃ W2, Hid (W2 = World.drewN X nq) := ⟨_, hide rfl⟩
     rw [← HW2.out]
     have HX1 : Hid (AtS w rb m p g 0 0 X1) := by rw [HW2.out]; exact hide (HX.out.on hrb (Kept2.drewN (.refl _ _ _)) HX.out.rd.draw)
     have HBX1 : Hid (boolsAt X1 L (boolRow s)) := by rw [HW2.out]; exact HBX
     clear HW2
     obtain ⟨c0, c1, _, _, _⟩ := five_cells HX1.out.rd
     go_wp2_with fail
     refine (wrong_any _ rb m p g 1 (p : Int) 1 p rfl rfl HX1.out.rd).mono ?_
     rintro en wx ⟨rfl, hk3, hr3⟩
     have HX3 := hide (HX1.out.on hrb hk3 hr3)
     clear hk3 hr3
     obtain ⟨⟨r0, r1, r2, r3, r4⟩, rf⟩ := HX3.out.cells
     have z0 := rf 0
     have z1 := rf 1
     have z2 := rf 2
     have z3 := rf 3
     have z4 := rf 4
     obtain ⟨Z, eZ, hk, ho, hrd, hkb⟩ := HX3.out.store hrb (.bool false) (.slice none 0 0) (.int .i64 0) (.slice none 0 0) (.int .u8 0)
     have HO := hide ho
     have HK := hide hk
     have HRD := hide hrd
     have HKB := hide hkb
     clear rf hk ho hrd hkb
     go_wp2
     refine bodyPost_ret (v := pieceV false (.slice none 0 0) 0 (.slice none 0 0) 0) (results_cell_row (p := 2) (ty := 155) rfl _ _ w.heap.size _ _ _ _ rfl HO.out Tryz.underlying155 rfl Tryz.infoPiece) rfl ⟨HK.out, _, rfl, by rw [HE.out]; exact ⟨rfl, _, HRD.out⟩⟩
    | false =>
     have HSP : Hid (bindO (if isAt m (p + 1) 45 then bindO (pBr m (p + 2)) fun b => if b.toNat < c.toNat then some (.error (3, p + 2)) else some (.ok (between c b, p + 3)) else some (.ok (between c c, p + 1))) (fun x => pSpans m f (union s x.1) x.2) = some z) := by
      show _ = _
      have h := HS.out
      rw [span_at hgc hb] at h
      exact h
     rw [hb] at HAMc
     clear hb hgc HS
     go_wp2
     go_quiet ((go_at_call 107; exact Calls.quiet_of (HAMc.out _)))
     obtain ⟨X1, HW2⟩ : ∃ W2, Hid (W2 = World.drewN X nq) := ⟨_, hide rfl⟩
     rw [← HW2.out]
     have HX1 : Hid (AtS w rb m p g 0 0 X1) := by rw [HW2.out]; exact hide (HX.out.on hrb (Kept2.drewN (.refl _ _ _)) HX.out.rd.draw)
     have HBX1 : Hid (boolsAt X1 L (boolRow s)) := by rw [HW2.out]; exact HBX
     clear HW2
     clear c0 c1
     obtain ⟨c0, c1, _, _, _⟩ := five_cells HX1.out.rd
     go_wp2
     go_quiet (fail)
     obtain ⟨X2, HW2⟩ : ∃ W2, Hid (W2 = World.drewN X1 nq) := ⟨_, hide rfl⟩
     rw [← HW2.out]
     have HX2 : Hid (AtS w rb m p g 0 0 X2) := by rw [HW2.out]; exact hide (HX1.out.on hrb (Kept2.drewN (.refl _ _ _)) HX1.out.rd.draw)
     have HBX2 : Hid (boolsAt X2 L (boolRow s)) := by rw [HW2.out]; exact HBX1
     clear HW2
     obtain ⟨k0, k1, _, _, _⟩ := five_cells HX2.out.rd
     have kf := not_frozen (k := 1) HX2.out.rd
     obtain ⟨X3, HW2⟩ : ∃ W2, Hid (W2 = World.setCell X2 ⟨rb, 1, none⟩ (.int .i64 ((p : Int) + 1))) := ⟨_, hide rfl⟩
     have HX3 : Hid (AtS w rb m (p + 1) g 0 0 X3) := by rw [HW2.out]; exact hide (HX2.out.on hrb (.setT _ _) (HX2.out.rd.on _ (by go_num)))
     have HBX3 : Hid (boolsAt X3 L (boolRow s)) := by rw [HW2.out]; exact hide (HBX2.out.keep (set_apart _ (by omega)))
     have hwr : IntKind.i64.wrap ((p : Int) + 1) = (p : Int) + 1 := wrap_i64_small _ (by omega) (by omega)
     have eW2 := HW2.out.symm
     clear HW2
     clear c0 c1
     go_wp2_with fail
     clear eW2 k0 k1 kf
     obtain ⟨q, hq⟩ : ∃ q, p + 1 = q := ⟨_, rfl⟩
     rw [hq] at HX3
     rw [show p + 2 = q + 1 by omega, show p + 3 = q + 2 by omega, hq] at HSP
     refine (rmay_any _ rb m q g 0 0 45 45 rfl (by decide) (by omega) HX3.out.rd).mono ?_
     rintro en X4 ⟨rfl, hk4, hr4⟩
     have h4 := HX3.out.on hrb hk4 hr4
     have HBX4 : Hid (boolsAt X4 L (boolRow s)) := hide (HBX3.out.keep (hk4.block L (by have := HX3.out.size; have := lt_of_block HBX3.out; omega) (by omega) (by omega)))
     clear hk4 hr4
     obtain ⟨bo, HBO⟩ : ∃ bo, Hid (isAt m q 45 = bo) := ⟨_, hide rfl⟩
     rw [HBO.out] at h4 HSP ⊢
     cases bo with
     | false =>
      simp only [onIf] at h4
      have HX4 := hide h4
      have HNX : Hid (Rem m z false q (union s (between c c)) f) := by
       have h := HSP.out
       simp only [Bool.false_eq_true, if_false, bindO] at h
       exact hide h
      have hccle : c.toNat ≤ c.toNat + 1 := by omega
      clear h4 HSP
      go_wp2
      go_loopw [11] (fun v wr => ∃ k : Nat, c.toNat ≤ k ∧ k ≤ c.toNat + 1 ∧ v = .int .i64 k ∧ Hid (AtS w rb m q g 0 0 wr) ∧ Hid (boolsAt wr L (boolRow fun x => s x || (decide (c.toNat ≤ x.toNat) && decide (x.toNat < k))))) (fun v _ => c.toNat + 1 - (intOf v).toNat)
      case atStart => exact ⟨c.toNat, by omega, by omega, rfl, HX4, by rw [upto_zero]; exact HBX4⟩
      case round =>
       obtain ⟨k, hk1, hk2, rfl, HA2, HB2⟩ := hrel
       by_cases hkd : k ≤ c.toNat
       ·
        have hkd2 : (k : Int) ≤ (c.toNat : Int) := by omega
        have h256 : k < 256 := by have := c.toNat_lt; omega
        have hcell := HB2.out.cell (k := k) (boolRow_get _ h256)
        have hfz := not_frozen (k := k) HB2.out
        go_wp2
        refine ⟨⟨k + 1, by omega, by omega, by go_num, hide (HA2.out.setB hrb hLw _), hide ?_⟩, ?_⟩
        ·
         have := HB2.out.set k true
         rw [upto_row h256 hk1] at this
         exact this
        ·
         simp [intOf]; omega
       ·
        obtain rfl : k = c.toNat + 1 := by omega
        have hkd2 : ¬ ((c.toNat : Int) + 1 ≤ (c.toNat : Int)) := by omega
        have hB := HB2.out
        rw [upto_full] at hB
        have HB3 := hide hB
        clear hB HB2
        go_wp2
        refine ⟨⟨false, q, union s (between c c), f, rfl, HA2, HB3, HNX, by omega⟩, ?_⟩
        rw [HA2.out.rd.place, HPL.out]
        omega
     | true =>
      simp only [onIf] at h4
      have hqlt := isAt_lt HBO.out
      obtain ⟨q2, hq2⟩ : ∃ q2, q + 1 = q2 := ⟨_, rfl⟩
      rw [hq2] at h4 HSP
      rw [show q + 2 = q2 + 1 by omega] at HSP
      have HX4 := hide h4
      clear h4
      have hsp : bindO (bindO (pBr m q2) fun b => if b.toNat < c.toNat then some (.error (3, q2)) else some (.ok (between c b, q2 + 1))) (fun x => pSpans m f (union s x.1) x.2) = some z := by
       have h := HSP.out
       simp only [if_true] at h
       exact h
      have HSP2 := hide hsp
      clear hsp HSP
      by_cases hdlt : q2 < m.length
      ·
       obtain ⟨d, hd⟩ : ∃ d, m[q2] = d := ⟨_, rfl⟩
       have hdlt2 : (q2 : Int) < m.length := by omega
       have hdne : ((q2 : Int) == m.length) = false := by rw [beq_eq_false_iff_ne]; omega
       have hwd : wrap64 (d.toNat : Int) = (d.toNat : Int) := wrap64_byte d
       have hgd : m[q2]? = some d := by rw [List.getElem?_eq_getElem hdlt, hd]
       have HAMd : Hid (∀ n, Calls Tryz.prog 107 #[.pointer (some ⟨rb, 0, none⟩), .string { data := #[91, 93, 92, 94, 45] }] (X4.drewN n) fun e w' => e = .returned (.bool (badIn d)) ∧ ∃ k, w' = (X4.drewN n).drewN k) := by
        refine hide fun n => ?_
        have h := ramong_any (X4.drewN n) rb m [91, 93, 92, 94, 45] q2 g 0 0 (by decide) HX4.out.rd.draw
        rw [comesB_bad hgd] at h
        exact h
       obtain ⟨c0, c1, _, _, _⟩ := five_cells HX4.out.rd
       cases hb : badIn d with
       | true =>
        have HE : Hid (y = .error (1, q2)) := by
         show _ = _
         have h := HSP2.out
         rw [br_bad (fun e he => by rw [hgd] at he; cases he; exact hb)] at h
         rw [HY.out, ← Option.some.inj h]
         rfl
        rw [hb] at HAMd
        clear hb hgd
        go_wp2
        go_quiet ((go_at_call 107; exact Calls.quiet_of (HAMd.out _)))
        obtain ⟨X5, HW2⟩ : ∃ W2, Hid (W2 = World.drewN X4 nq) := ⟨_, hide rfl⟩
        rw [← HW2.out]
        have HX5 : Hid (AtS w rb m q2 g 0 0 X5) := by rw [HW2.out]; exact hide (HX4.out.on hrb (Kept2.drewN (.refl _ _ _)) HX4.out.rd.draw)
        have HBX5 : Hid (boolsAt X5 L (boolRow s)) := by rw [HW2.out]; exact HBX4
        clear HW2
        obtain ⟨c0, c1, _, _, _⟩ := five_cells HX5.out.rd
        go_wp2_with fail
        refine (wrong_any _ rb m q2 g 1 (q2 : Int) 1 q2 rfl rfl HX5.out.rd).mono ?_
        rintro en wx ⟨rfl, hk3, hr3⟩
        have HX3 := hide (HX5.out.on hrb hk3 hr3)
        clear hk3 hr3
        obtain ⟨⟨r0, r1, r2, r3, r4⟩, rf⟩ := HX3.out.cells
        have z0 := rf 0
        have z1 := rf 1
        have z2 := rf 2
        have z3 := rf 3
        have z4 := rf 4
        obtain ⟨Z, eZ, hk, ho, hrd, hkb⟩ := HX3.out.store hrb (.bool false) (.slice none 0 0) (.int .i64 0) (.slice none 0 0) (.int .u8 0)
        have HO := hide ho
        have HK := hide hk
        have HRD := hide hrd
        have HKB := hide hkb
        clear rf hk ho hrd hkb
        go_wp2
        refine bodyPost_ret (v := pieceV false (.slice none 0 0) 0 (.slice none 0 0) 0) (results_cell_row (p := 2) (ty := 155) rfl _ _ w.heap.size _ _ _ _ rfl HO.out Tryz.underlying155 rfl Tryz.infoPiece) rfl ⟨HK.out, _, rfl, by rw [HE.out]; exact ⟨rfl, _, HRD.out⟩⟩
       | false =>
        have HSP3 : Hid (bindO (if d.toNat < c.toNat then some (.error (3, q2)) else some (.ok (between c d, q2 + 1))) (fun x => pSpans m f (union s x.1) x.2) = some z) := by
         show _ = _
         have h := HSP2.out
         rw [show pBr m q2 = some (.ok d) by unfold pBr; rw [hgd]; simp [hb]] at h
         exact h
        rw [hb] at HAMd
        clear hb hgd HSP2
        go_wp2
        go_quiet ((go_at_call 107; exact Calls.quiet_of (HAMd.out _)))
        obtain ⟨X5, HW2⟩ : ∃ W2, Hid (W2 = World.drewN X4 nq) := ⟨_, hide rfl⟩
        rw [← HW2.out]
        have HX5 : Hid (AtS w rb m q2 g 0 0 X5) := by rw [HW2.out]; exact hide (HX4.out.on hrb (Kept2.drewN (.refl _ _ _)) HX4.out.rd.draw)
        have HBX5 : Hid (boolsAt X5 L (boolRow s)) := by rw [HW2.out]; exact HBX4
        clear HW2
        clear c0 c1
        obtain ⟨c0, c1, _, _, _⟩ := five_cells HX5.out.rd
        by_cases hlo : d.toNat < c.toNat
        ·
         have HE : Hid (y = .error (3, q2)) := by
          show _ = _
          have h := HSP3.out
          rw [if_pos hlo] at h
          rw [HY.out, ← Option.some.inj h]
          rfl
         have hlo2 : (d.toNat : Int) < (c.toNat : Int) := by omega
         have hlo3 : decide ((d.toNat : Int) < (c.toNat : Int)) = true := by simpa using hlo2
         go_wp2
         go_quiet (fail)
         obtain ⟨X6, HW2⟩ : ∃ W2, Hid (W2 = World.drewN X5 nq) := ⟨_, hide rfl⟩
         rw [← HW2.out]
         have HX6 : Hid (AtS w rb m q2 g 0 0 X6) := by rw [HW2.out]; exact hide (HX5.out.on hrb (Kept2.drewN (.refl _ _ _)) HX5.out.rd.draw)
         have HBX6 : Hid (boolsAt X6 L (boolRow s)) := by rw [HW2.out]; exact HBX5
         clear HW2
         clear c0 c1
         obtain ⟨c0, c1, _, _, _⟩ := five_cells HX6.out.rd
         obtain ⟨c0, c1, _, _, _⟩ := five_cells HX6.out.rd
         go_wp2_with fail
         refine (wrong_any _ rb m q2 g 3 (q2 : Int) 3 q2 rfl rfl HX6.out.rd).mono ?_
         rintro en wx ⟨rfl, hk3, hr3⟩
         have HX3 := hide (HX6.out.on hrb hk3 hr3)
         clear hk3 hr3
         obtain ⟨⟨r0, r1, r2, r3, r4⟩, rf⟩ := HX3.out.cells
         have z0 := rf 0
         have z1 := rf 1
         have z2 := rf 2
         have z3 := rf 3
         have z4 := rf 4
         obtain ⟨Z, eZ, hk, ho, hrd, hkb⟩ := HX3.out.store hrb (.bool false) (.slice none 0 0) (.int .i64 0) (.slice none 0 0) (.int .u8 0)
         have HO := hide ho
         have HK := hide hk
         have HRD := hide hrd
         have HKB := hide hkb
         clear rf hk ho hrd hkb
         go_wp2
         refine bodyPost_ret (v := pieceV false (.slice none 0 0) 0 (.slice none 0 0) 0) (results_cell_row (p := 2) (ty := 155) rfl _ _ w.heap.size _ _ _ _ rfl HO.out Tryz.underlying155 rfl Tryz.infoPiece) rfl ⟨HK.out, _, rfl, by rw [HE.out]; exact ⟨rfl, _, HRD.out⟩⟩
        ·
         have HNX : Hid (Rem m z false (q2 + 1) (union s (between c d)) f) := by
          have h := HSP3.out
          rw [if_neg hlo] at h
          exact hide h
         have hlo2 : ¬ (d.toNat : Int) < (c.toNat : Int) := by omega
         have hlo3 : decide ((d.toNat : Int) < (c.toNat : Int)) = false := by simpa using hlo2
         have hccle : c.toNat ≤ d.toNat + 1 := by omega
         clear HSP3
         go_wp2
         go_quiet (fail)
         obtain ⟨X6, HW2⟩ : ∃ W2, Hid (W2 = World.drewN X5 nq) := ⟨_, hide rfl⟩
         rw [← HW2.out]
         have HX6 : Hid (AtS w rb m q2 g 0 0 X6) := by rw [HW2.out]; exact hide (HX5.out.on hrb (Kept2.drewN (.refl _ _ _)) HX5.out.rd.draw)
         have HBX6 : Hid (boolsAt X6 L (boolRow s)) := by rw [HW2.out]; exact HBX5
         clear HW2
         obtain ⟨k0, k1, _, _, _⟩ := five_cells HX6.out.rd
         have kf := not_frozen (k := 1) HX6.out.rd
         obtain ⟨X7, HW2⟩ : ∃ W2, Hid (W2 = World.setCell X6 ⟨rb, 1, none⟩ (.int .i64 ((q2 : Int) + 1))) := ⟨_, hide rfl⟩
         have HX7 : Hid (AtS w rb m (q2 + 1) g 0 0 X7) := by rw [HW2.out]; exact hide (HX6.out.on hrb (.setT _ _) (HX6.out.rd.on _ (by go_num)))
         have HBX7 : Hid (boolsAt X7 L (boolRow s)) := by rw [HW2.out]; exact hide (HBX6.out.keep (set_apart _ (by omega)))
         have hwr : IntKind.i64.wrap ((q2 : Int) + 1) = (q2 : Int) + 1 := wrap_i64_small _ (by omega) (by omega)
         have eW2 := HW2.out.symm
         clear HW2
         clear c0 c1
         go_wp2
         go_loopw [11] (fun v wr => ∃ k : Nat, c.toNat ≤ k ∧ k ≤ d.toNat + 1 ∧ v = .int .i64 k ∧ Hid (AtS w rb m (q2 + 1) g 0 0 wr) ∧ Hid (boolsAt wr L (boolRow fun x => s x || (decide (c.toNat ≤ x.toNat) && decide (x.toNat < k))))) (fun v _ => d.toNat + 1 - (intOf v).toNat)
         case atStart => exact ⟨c.toNat, by omega, by omega, rfl, HX7, by rw [upto_zero]; exact HBX7⟩
         case round =>
          obtain ⟨k, hk1, hk2, rfl, HA2, HB2⟩ := hrel
          by_cases hkd : k ≤ d.toNat
          ·
           have hkd2 : (k : Int) ≤ (d.toNat : Int) := by omega
           have h256 : k < 256 := by have := d.toNat_lt; omega
           have hcell := HB2.out.cell (k := k) (boolRow_get _ h256)
           have hfz := not_frozen (k := k) HB2.out
           go_wp2
           refine ⟨⟨k + 1, by omega, by omega, by go_num, hide (HA2.out.setB hrb hLw _), hide ?_⟩, ?_⟩
           ·
            have := HB2.out.set k true
            rw [upto_row h256 hk1] at this
            exact this
           ·
            simp [intOf]; omega
          ·
           obtain rfl : k = d.toNat + 1 := by omega
           have hkd2 : ¬ ((d.toNat : Int) + 1 ≤ (d.toNat : Int)) := by omega
           have hB := HB2.out
           rw [upto_full] at hB
           have HB3 := hide hB
           clear hB HB2
           go_wp2
           refine ⟨⟨false, (q2 + 1), union s (between c d), f, rfl, HA2, HB3, HNX, by omega⟩, ?_⟩
           rw [HA2.out.rd.place, HPL.out]
           omega
      ·
       have HE : Hid (y = .error (1, q2)) := by
        show _ = _
        have h := HSP2.out
        rw [br_bad (fun e he => by rw [List.getElem?_eq_none_iff.2 (by omega)] at he; cases he)] at h
        rw [HY.out, ← Option.some.inj h]
        rfl
       have hne : ((q2 : Int) == m.length) = true := by rw [beq_iff_eq]; omega
       obtain ⟨c0, c1, _, _, _⟩ := five_cells HX4.out.rd
       go_wp2
       go_quiet (fail)
       obtain ⟨X5, HW2⟩ : ∃ W2, Hid (W2 = World.drewN X4 nq) := ⟨_, hide rfl⟩
       rw [← HW2.out]
       have HX5 : Hid (AtS w rb m q2 g 0 0 X5) := by rw [HW2.out]; exact hide (HX4.out.on hrb (Kept2.drewN (.refl _ _ _)) HX4.out.rd.draw)
       have HBX5 : Hid (boolsAt X5 L (boolRow s)) := by rw [HW2.out]; exact HBX4
       clear HW2
       obtain ⟨c0, c1, _, _, _⟩ := five_cells HX5.out.rd
       go_wp2_with fail
       refine (wrong_any _ rb m q2 g 1 (q2 : Int) 1 q2 rfl rfl HX5.out.rd).mono ?_
       rintro en wx ⟨rfl, hk3, hr3⟩
       have HX3 := hide (HX5.out.on hrb hk3 hr3)
       clear hk3 hr3
       obtain ⟨⟨r0, r1, r2, r3, r4⟩, rf⟩ := HX3.out.cells
       have z0 := rf 0
       have z1 := rf 1
       have z2 := rf 2
       have z3 := rf 3
       have z4 := rf 4
       obtain ⟨Z, eZ, hk, ho, hrd, hkb⟩ := HX3.out.store hrb (.bool false) (.slice none 0 0) (.int .i64 0) (.slice none 0 0) (.int .u8 0)
       have HO := hide ho
       have HK := hide hk
       have HRD := hide hrd
       have HKB := hide hkb
       clear rf hk ho hrd hkb
       go_wp2
       refine bodyPost_ret (v := pieceV false (.slice none 0 0) 0 (.slice none 0 0) 0) (results_cell_row (p := 2) (ty := 155) rfl _ _ w.heap.size _ _ _ _ rfl HO.out Tryz.underlying155 rfl Tryz.infoPiece) rfl ⟨HK.out, _, rfl, by rw [HE.out]; exact ⟨rfl, _, HRD.out⟩⟩
   ·
    have HE : Hid (y = .error (1, p)) := by
     show _ = _
     have h := HS.out
     rw [span_bad (fun d hd => by rw [List.getElem?_eq_none_iff.2 (by omega)] at hd; cases hd)] at h
     rw [HY.out, ← Option.some.inj h]
     rfl
    have hne : ((p : Int) == m.length) = true := by rw [beq_iff_eq]; omega
    obtain ⟨c0, c1, _, _, _⟩ := five_cells HX.out.rd
    go_wp2
    go_quiet (fail)
    obtain ⟨X1, HW2⟩ : ∃ W2, Hid (W2 = World.drewN X nq) := ⟨_, hide rfl⟩
    rw [← HW2.out]
    have HX1 : Hid (AtS w rb m p g 0 0 X1) := by rw [HW2.out]; exact hide (HX.out.on hrb (Kept2.drewN (.refl _ _ _)) HX.out.rd.draw)
    have HBX1 : Hid (boolsAt X1 L (boolRow s)) := by rw [HW2.out]; exact HBX
    clear HW2
    obtain ⟨c0, c1, _, _, _⟩ := five_cells HX1.out.rd
    go_wp2_with fail
    refine (wrong_any _ rb m p g 1 (p : Int) 1 p rfl rfl HX1.out.rd).mono ?_
    rintro en wx ⟨rfl, hk3, hr3⟩
    have HX3 := hide (HX1.out.on hrb hk3 hr3)
    clear hk3 hr3
    obtain ⟨⟨r0, r1, r2, r3, r4⟩, rf⟩ := HX3.out.cells
    have z0 := rf 0
    have z1 := rf 1
    have z2 := rf 2
    have z3 := rf 3
    have z4 := rf 4
    obtain ⟨Z, eZ, hk, ho, hrd, hkb⟩ := HX3.out.store hrb (.bool false) (.slice none 0 0) (.int .i64 0) (.slice none 0 0) (.int .u8 0)
    have HO := hide ho
    have HK := hide hk
    have HRD := hide hrd
    have HKB := hide hkb
    clear rf hk ho hrd hkb
    go_wp2
    refine bodyPost_ret (v := pieceV false (.slice none 0 0) 0 (.slice none 0 0) 0) (results_cell_row (p := 2) (ty := 155) rfl _ _ w.heap.size _ _ _ _ rfl HO.out Tryz.underlying155 rfl Tryz.infoPiece) rfl ⟨HK.out, _, rfl, by rw [HE.out]; exact ⟨rfl, _, HRD.out⟩⟩
  | false =>
   cases f with
   | zero => exact absurd HR.out (by simp [Rem, pSpans])
   | succ f =>
    have HR2 : Hid ((if isAt m p 93 then some (.ok (s, p + 1)) else bindO (pSpan m p) fun x => pSpans m f (union s x.1) x.2) = some z) := HR
    clear HR
    go_wp2_with fail
    refine (rmay_any _ rb m p g 0 0 93 93 rfl (by decide) (by omega) HX.out.rd).mono ?_
    rintro en Y ⟨rfl, hk6, hr6⟩
    have h6 := HX.out.on hrb hk6 hr6
    have HBY : Hid (boolsAt Y L (boolRow s)) := hide (HBX.out.keep (hk6.block L (by have := lt_of_block HBX.out; omega) (by omega) (by omega)))
    clear hk6 hr6
    obtain ⟨bc, HBC⟩ : ∃ bc, Hid (isAt m p 93 = bc) := ⟨_, hide rfl⟩
    rw [HBC.out] at h6 HR2 ⊢
    clear HX HBX
    cases bc with
    | true =>
     simp only [onIf] at h6
     have HE : Hid (y = .ok (if neg = true then butAll s else s, p + 1)) := by
      show _ = _
      have h := HR2.out
      simp only [if_true] at h
      rw [HY.out, ← Option.some.inj h]
      rfl
     have H6 := hide h6
     have HB6 : Hid (boolsAt Y L (boolRow (turned s neg 0))) := by rw [turned_zero]; exact HBY
     clear h6 HR2 HBY
     go_wp2
     go_loopw [12] (fun v wr => ∃ k : Nat, k ≤ 256 ∧ v = .int .i64 k ∧ Hid (AtS w rb m (p + 1) g 0 0 wr) ∧ Hid (boolsAt wr L (boolRow (turned s neg k)))) (fun v _ => 256 - (intOf v).toNat)
     case atStart => exact ⟨0, by omega, rfl, H6, HB6⟩
     case round =>
      obtain ⟨k, hk, rfl, HA, HB⟩ := hrel
      by_cases hlt : k < 256
      ·
       have hlt2 : (k : Int) < 256 := by omega
       have hcell := HB.out.cell (k := k) (turned_get hlt)
       have hfz := not_frozen (k := k) HB.out
       go_wp2
       refine ⟨⟨k + 1, by omega, by go_num, hide (HA.out.setB hrb hLw _), hide ?_⟩, ?_⟩
       ·
        have := HB.out.set k (s (UInt8.ofNat k) != neg)
        rw [turned_row hlt] at this
        exact this
       ·
        simp [intOf]; omega
      ·
       obtain rfl : k = 256 := by omega
       have hB := HB.out
       rw [turned_all] at hB
       obtain ⟨⟨r0, r1, r2, r3, r4⟩, rf⟩ := HA.out.cells
       have z0 := rf 0
       have z1 := rf 1
       have z2 := rf 2
       have z3 := rf 3
       have z4 := rf 4
       obtain ⟨Z, eZ, hk, ho, hrd, hkb⟩ := HA.out.store hrb (.bool false) (.slice (some ⟨L, 0, none⟩) 256 256) (.int .i64 0) (.slice none 0 0) (.int .u8 0)
       have HO := hide ho
       have HK := hide hk
       have HRD := hide hrd
       have HKB := hide hkb
       clear rf hk ho hrd hkb
       have HB7 := hide (hB.keep (HKB.out L (by omega)))
       clear hB HA HB
       go_wp2
       refine bodyPost_ret (v := pieceV false (.slice (some ⟨L, 0, none⟩) 256 256) 0 (.slice none 0 0) 0) (results_cell_row (p := 2) (ty := 155) rfl _ _ w.heap.size _ _ _ _ rfl HO.out Tryz.underlying155 rfl Tryz.infoPiece) rfl ⟨HK.out, _, rfl, by rw [HE.out]; exact ⟨_, rfl, ⟨_, rfl, by omega, HB7.out⟩, HRD.out⟩⟩
    | false =>
     simp only [onIf] at h6
     have HS : Hid (bindO (pSpan m p) (fun x => pSpans m f (union s x.1) x.2) = some z) := by
      have h := HR2.out
      simp only [Bool.false_eq_true, if_false] at h
      exact hide h
     have HY1 := hide h6
     have HBY1 := HBY
     obtain ⟨Y1, HYY⟩ : ∃ Y1, Hid (Y1 = Y) := ⟨_, hide rfl⟩
     rw [← HYY.out] at HY1 HBY1 ⊢
     clear h6 HR2 HBY HYY
     by_cases hclt : p < m.length
     ·
      obtain ⟨c, hc⟩ : ∃ c, m[p] = c := ⟨_, rfl⟩
      have hclt2 : (p : Int) < m.length := by omega
      have hcne : ((p : Int) == m.length) = false := by rw [beq_eq_false_iff_ne]; omega
      have hwc : wrap64 (c.toNat : Int) = (c.toNat : Int) := wrap64_byte c
      have hgc : m[p]? = some c := by rw [List.getElem?_eq_getElem hclt, hc]
      have HAMc : Hid (∀ n, Calls Tryz.prog 107 #[.pointer (some ⟨rb, 0, none⟩), .string { data := #[91, 93, 92, 94, 45] }] (Y1.drewN n) fun e w' => e = .returned (.bool (badIn c)) ∧ ∃ k, w' = (Y1.drewN n).drewN k) := by
       refine hide fun n => ?_
       have h := ramong_any (Y1.drewN n) rb m [91, 93, 92, 94, 45] p g 0 0 (by decide) HY1.out.rd.draw
       rw [comesB_bad hgc] at h
       exact h
      obtain ⟨c0, c1, _, _, _⟩ := five_cells HY1.out.rd
      cases hb : badIn c with
      | true =>
       have HE : Hid (y = .error (1, p)) := by
        show _ = _
        have h := HS.out
        rw [span_bad (fun d hd => by rw [hgc] at hd; cases hd; exact hb)] at h
        rw [HY.out, ← Option.some.inj h]
        rfl
       rw [hb] at HAMc
       clear hb hgc
       go_wp2
       go_quiet ((go_at_call 107; exact Calls.quiet_of (HAMc.out _)))
       obtain ⟨X1, HW2⟩ : ∃ W2, Hid (W2 = World.drewN Y1 nq) := ⟨_, hide rfl⟩
       rw [← HW2.out]
       have HX1 : Hid (AtS w rb m p g 0 0 X1) := by rw [HW2.out]; exact hide (HY1.out.on hrb (Kept2.drewN (.refl _ _ _)) HY1.out.rd.draw)
       have HBX1 : Hid (boolsAt X1 L (boolRow s)) := by rw [HW2.out]; exact HBY1
       clear HW2
       obtain ⟨c0, c1, _, _, _⟩ := five_cells HX1.out.rd
       go_wp2_with fail
       refine (wrong_any _ rb m p g 1 (p : Int) 1 p rfl rfl HX1.out.rd).mono ?_
       rintro en wx ⟨rfl, hk3, hr3⟩
       have HX3 := hide (HX1.out.on hrb hk3 hr3)
       clear hk3 hr3
       obtain ⟨⟨r0, r1, r2, r3, r4⟩, rf⟩ := HX3.out.cells
       have z0 := rf 0
       have z1 := rf 1
       have z2 := rf 2
       have z3 := rf 3
       have z4 := rf 4
       obtain ⟨Z, eZ, hk, ho, hrd, hkb⟩ := HX3.out.store hrb (.bool false) (.slice none 0 0) (.int .i64 0) (.slice none 0 0) (.int .u8 0)
       have HO := hide ho
       have HK := hide hk
       have HRD := hide hrd
       have HKB := hide hkb
       clear rf hk ho hrd hkb
       go_wp2
       refine bodyPost_ret (v := pieceV false (.slice none 0 0) 0 (.slice none 0 0) 0) (results_cell_row (p := 2) (ty := 155) rfl _ _ w.heap.size _ _ _ _ rfl HO.out Tryz.underlying155 rfl Tryz.infoPiece) rfl ⟨HK.out, _, rfl, by rw [HE.out]; exact ⟨rfl, _, HRD.out⟩⟩
      | false =>
       have HSP : Hid (bindO (if isAt m (p + 1) 45 then bindO (pBr m (p + 2)) fun b => if b.toNat < c.toNat then some (.error (3, p + 2)) else some (.ok (between c b, p + 3)) else some (.ok (between c c, p + 1))) (fun x => pSpans m f (union s x.1) x.2) = some z) := by
        show _ = _
        have h := HS.out
        rw [span_at hgc hb] at h
        exact h
       rw [hb] at HAMc
       clear hb hgc HS
       go_wp2
       go_quiet ((go_at_call 107; exact Calls.quiet_of (HAMc.out _)))
       obtain ⟨X1, HW2⟩ : ∃ W2, Hid (W2 = World.drewN Y1 nq) := ⟨_, hide rfl⟩
       rw [← HW2.out]
       have HX1 : Hid (AtS w rb m p g 0 0 X1) := by rw [HW2.out]; exact hide (HY1.out.on hrb (Kept2.drewN (.refl _ _ _)) HY1.out.rd.draw)
       have HBX1 : Hid (boolsAt X1 L (boolRow s)) := by rw [HW2.out]; exact HBY1
       clear HW2
       clear c0 c1
       obtain ⟨c0, c1, _, _, _⟩ := five_cells HX1.out.rd
       go_wp2
       go_quiet (fail)
       obtain ⟨X2, HW2⟩ : ∃ W2, Hid (W2 = World.drewN X1 nq) := ⟨_, hide rfl⟩
       rw [← HW2.out]
       have HX2 : Hid (AtS w rb m p g 0 0 X2) := by rw [HW2.out]; exact hide (HX1.out.on hrb (Kept2.drewN (.refl _ _ _)) HX1.out.rd.draw)
       have HBX2 : Hid (boolsAt X2 L (boolRow s)) := by rw [HW2.out]; exact HBX1
       clear HW2
       obtain ⟨k0, k1, _, _, _⟩ := five_cells HX2.out.rd
       have kf := not_frozen (k := 1) HX2.out.rd
       obtain ⟨X3, HW2⟩ : ∃ W2, Hid (W2 = World.setCell X2 ⟨rb, 1, none⟩ (.int .i64 ((p : Int) + 1))) := ⟨_, hide rfl⟩
       have HX3 : Hid (AtS w rb m (p + 1) g 0 0 X3) := by rw [HW2.out]; exact hide (HX2.out.on hrb (.setT _ _) (HX2.out.rd.on _ (by go_num)))
       have HBX3 : Hid (boolsAt X3 L (boolRow s)) := by rw [HW2.out]; exact hide (HBX2.out.keep (set_apart _ (by omega)))
       have hwr : IntKind.i64.wrap ((p : Int) + 1) = (p : Int) + 1 := wrap_i64_small _ (by omega) (by omega)
       have eW2 := HW2.out.symm
       clear HW2
       clear c0 c1
       go_wp2_with fail
       clear eW2 k0 k1 kf
       obtain ⟨q, hq⟩ : ∃ q, p + 1 = q := ⟨_, rfl⟩
       rw [hq] at HX3
       rw [show p + 2 = q + 1 by omega, show p + 3 = q + 2 by omega, hq] at HSP
       refine (rmay_any _ rb m q g 0 0 45 45 rfl (by decide) (by omega) HX3.out.rd).mono ?_
       rintro en X4 ⟨rfl, hk4, hr4⟩
       have h4 := HX3.out.on hrb hk4 hr4
       have HBX4 : Hid (boolsAt X4 L (boolRow s)) := hide (HBX3.out.keep (hk4.block L (by have := HX3.out.size; have := lt_of_block HBX3.out; omega) (by omega) (by omega)))
       clear hk4 hr4
       obtain ⟨bo, HBO⟩ : ∃ bo, Hid (isAt m q 45 = bo) := ⟨_, hide rfl⟩
       rw [HBO.out] at h4 HSP ⊢
       cases bo with
       | false =>
        simp only [onIf] at h4
        have HX4 := hide h4
        have HNX : Hid (Rem m z false q (union s (between c c)) f) := by
         have h := HSP.out
         simp only [Bool.false_eq_true, if_false, bindO] at h
         exact hide h
        have hccle : c.toNat ≤ c.toNat + 1 := by omega
        clear h4 HSP
        go_wp2
        go_loopw [11] (fun v wr => ∃ k : Nat, c.toNat ≤ k ∧ k ≤ c.toNat + 1 ∧ v = .int .i64 k ∧ Hid (AtS w rb m q g 0 0 wr) ∧ Hid (boolsAt wr L (boolRow fun x => s x || (decide (c.toNat ≤ x.toNat) && decide (x.toNat < k))))) (fun v _ => c.toNat + 1 - (intOf v).toNat)
        case atStart => exact ⟨c.toNat, by omega, by omega, rfl, HX4, by rw [upto_zero]; exact HBX4⟩
        case round =>
         obtain ⟨k, hk1, hk2, rfl, HA2, HB2⟩ := hrel
         by_cases hkd : k ≤ c.toNat
         ·
          have hkd2 : (k : Int) ≤ (c.toNat : Int) := by omega
          have h256 : k < 256 := by have := c.toNat_lt; omega
          have hcell := HB2.out.cell (k := k) (boolRow_get _ h256)
          have hfz := not_frozen (k := k) HB2.out
          go_wp2
          refine ⟨⟨k + 1, by omega, by omega, by go_num, hide (HA2.out.setB hrb hLw _), hide ?_⟩, ?_⟩
          ·
           have := HB2.out.set k true
           rw [upto_row h256 hk1] at this
           exact this
          ·
           simp [intOf]; omega
         ·
          obtain rfl : k = c.toNat + 1 := by omega
          have hkd2 : ¬ ((c.toNat : Int) + 1 ≤ (c.toNat : Int)) := by omega
          have hB := HB2.out
          rw [upto_full] at hB
          have HB3 := hide hB
          clear hB HB2
          go_wp2
          refine ⟨⟨false, q, union s (between c c), f, rfl, HA2, HB3, HNX, by omega⟩, ?_⟩
          rw [HA2.out.rd.place, HPL.out]
          omega
       | true =>
        simp only [onIf] at h4
        have hqlt := isAt_lt HBO.out
        obtain ⟨q2, hq2⟩ : ∃ q2, q + 1 = q2 := ⟨_, rfl⟩
        rw [hq2] at h4 HSP
        rw [show q + 2 = q2 + 1 by omega] at HSP
        have HX4 := hide h4
        clear h4
        have hsp : bindO (bindO (pBr m q2) fun b => if b.toNat < c.toNat then some (.error (3, q2)) else some (.ok (between c b, q2 + 1))) (fun x => pSpans m f (union s x.1) x.2) = some z := by
         have h := HSP.out
         simp only [if_true] at h
         exact h
        have HSP2 := hide hsp
        clear hsp HSP
        by_cases hdlt : q2 < m.length
        ·
         obtain ⟨d, hd⟩ : ∃ d, m[q2] = d := ⟨_, rfl⟩
         have hdlt2 : (q2 : Int) < m.length := by omega
         have hdne : ((q2 : Int) == m.length) = false := by rw [beq_eq_false_iff_ne]; omega
         have hwd : wrap64 (d.toNat : Int) = (d.toNat : Int) := wrap64_byte d
         have hgd : m[q2]? = some d := by rw [List.getElem?_eq_getElem hdlt, hd]
         have HAMd : Hid (∀ n, Calls Tryz.prog 107 #[.pointer (some ⟨rb, 0, none⟩), .string { data := #[91, 93, 92, 94, 45] }] (X4.drewN n) fun e w' => e = .returned (.bool (badIn d)) ∧ ∃ k, w' = (X4.drewN n).drewN k) := by
          refine hide fun n => ?_
          have h := ramong_any (X4.drewN n) rb m [91, 93, 92, 94, 45] q2 g 0 0 (by decide) HX4.out.rd.draw
          rw [comesB_bad hgd] at h
          exact h
         obtain ⟨c0, c1, _, _, _⟩ := five_cells HX4.out.rd
         cases hb : badIn d with
         | true =>
          have HE : Hid (y = .error (1, q2)) := by
           show _ = _
           have h := HSP2.out
           rw [br_bad (fun e he => by rw [hgd] at he; cases he; exact hb)] at h
           rw [HY.out, ← Option.some.inj h]
           rfl
          rw [hb] at HAMd
          clear hb hgd
          go_wp2
          go_quiet ((go_at_call 107; exact Calls.quiet_of (HAMd.out _)))
          obtain ⟨X5, HW2⟩ : ∃ W2, Hid (W2 = World.drewN X4 nq) := ⟨_, hide rfl⟩
          rw [← HW2.out]
          have HX5 : Hid (AtS w rb m q2 g 0 0 X5) := by rw [HW2.out]; exact hide (HX4.out.on hrb (Kept2.drewN (.refl _ _ _)) HX4.out.rd.draw)
          have HBX5 : Hid (boolsAt X5 L (boolRow s)) := by rw [HW2.out]; exact HBX4
          clear HW2
          obtain ⟨c0, c1, _, _, _⟩ := five_cells HX5.out.rd
          go_wp2_with fail
          refine (wrong_any _ rb m q2 g 1 (q2 : Int) 1 q2 rfl rfl HX5.out.rd).mono ?_
          rintro en wx ⟨rfl, hk3, hr3⟩
          have HX3 := hide (HX5.out.on hrb hk3 hr3)
          clear hk3 hr3
          obtain ⟨⟨r0, r1, r2, r3, r4⟩, rf⟩ := HX3.out.cells
          have z0 := rf 0
          have z1 := rf 1
          have z2 := rf 2
          have z3 := rf 3
          have z4 := rf 4
          obtain ⟨Z, eZ, hk, ho, hrd, hkb⟩ := HX3.out.store hrb (.bool false) (.slice none 0 0) (.int .i64 0) (.slice none 0 0) (.int .u8 0)
          have HO := hide ho
          have HK := hide hk
          have HRD := hide hrd
          have HKB := hide hkb
          clear rf hk ho hrd hkb
          go_wp2
          refine bodyPost_ret (v := pieceV false (.slice none 0 0) 0 (.slice none 0 0) 0) (results_cell_row (p := 2) (ty := 155) rfl _ _ w.heap.size _ _ _ _ rfl HO.out Tryz.underlying155 rfl Tryz.infoPiece) rfl ⟨HK.out, _, rfl, by rw [HE.out]; exact ⟨rfl, _, HRD.out⟩⟩
         | false =>
          have HSP3 : Hid (bindO (if d.toNat < c.toNat then some (.error (3, q2)) else some (.ok (between c d, q2 + 1))) (fun x => pSpans m f (union s x.1) x.2) = some z) := by
           show _ = _
           have h := HSP2.out
           rw [show pBr m q2 = some (.ok d) by unfold pBr; rw [hgd]; simp [hb]] at h
           exact h
          rw [hb] at HAMd
          clear hb hgd HSP2
          go_wp2
          go_quiet ((go_at_call 107; exact Calls.quiet_of (HAMd.out _)))
          obtain ⟨X5, HW2⟩ : ∃ W2, Hid (W2 = World.drewN X4 nq) := ⟨_, hide rfl⟩
          rw [← HW2.out]
          have HX5 : Hid (AtS w rb m q2 g 0 0 X5) := by rw [HW2.out]; exact hide (HX4.out.on hrb (Kept2.drewN (.refl _ _ _)) HX4.out.rd.draw)
          have HBX5 : Hid (boolsAt X5 L (boolRow s)) := by rw [HW2.out]; exact HBX4
          clear HW2
          clear c0 c1
          obtain ⟨c0, c1, _, _, _⟩ := five_cells HX5.out.rd
          by_cases hlo : d.toNat < c.toNat
          ·
           have HE : Hid (y = .error (3, q2)) := by
            show _ = _
            have h := HSP3.out
            rw [if_pos hlo] at h
            rw [HY.out, ← Option.some.inj h]
            rfl
           have hlo2 : (d.toNat : Int) < (c.toNat : Int) := by omega
           have hlo3 : decide ((d.toNat : Int) < (c.toNat : Int)) = true := by simpa using hlo2
           go_wp2
           go_quiet (fail)
           obtain ⟨X6, HW2⟩ : ∃ W2, Hid (W2 = World.drewN X5 nq) := ⟨_, hide rfl⟩
           rw [← HW2.out]
           have HX6 : Hid (AtS w rb m q2 g 0 0 X6) := by rw [HW2.out]; exact hide (HX5.out.on hrb (Kept2.drewN (.refl _ _ _)) HX5.out.rd.draw)
           have HBX6 : Hid (boolsAt X6 L (boolRow s)) := by rw [HW2.out]; exact HBX5
           clear HW2
           clear c0 c1
           obtain ⟨c0, c1, _, _, _⟩ := five_cells HX6.out.rd
           obtain ⟨c0, c1, _, _, _⟩ := five_cells HX6.out.rd
           go_wp2_with fail
           refine (wrong_any _ rb m q2 g 3 (q2 : Int) 3 q2 rfl rfl HX6.out.rd).mono ?_
           rintro en wx ⟨rfl, hk3, hr3⟩
           have HX3 := hide (HX6.out.on hrb hk3 hr3)
           clear hk3 hr3
           obtain ⟨⟨r0, r1, r2, r3, r4⟩, rf⟩ := HX3.out.cells
           have z0 := rf 0
           have z1 := rf 1
           have z2 := rf 2
           have z3 := rf 3
           have z4 := rf 4
           obtain ⟨Z, eZ, hk, ho, hrd, hkb⟩ := HX3.out.store hrb (.bool false) (.slice none 0 0) (.int .i64 0) (.slice none 0 0) (.int .u8 0)
           have HO := hide ho
           have HK := hide hk
           have HRD := hide hrd
           have HKB := hide hkb
           clear rf hk ho hrd hkb
           go_wp2
           refine bodyPost_ret (v := pieceV false (.slice none 0 0) 0 (.slice none 0 0) 0) (results_cell_row (p := 2) (ty := 155) rfl _ _ w.heap.size _ _ _ _ rfl HO.out Tryz.underlying155 rfl Tryz.infoPiece) rfl ⟨HK.out, _, rfl, by rw [HE.out]; exact ⟨rfl, _, HRD.out⟩⟩
          ·
           have HNX : Hid (Rem m z false (q2 + 1) (union s (between c d)) f) := by
            have h := HSP3.out
            rw [if_neg hlo] at h
            exact hide h
           have hlo2 : ¬ (d.toNat : Int) < (c.toNat : Int) := by omega
           have hlo3 : decide ((d.toNat : Int) < (c.toNat : Int)) = false := by simpa using hlo2
           have hccle : c.toNat ≤ d.toNat + 1 := by omega
           clear HSP3
           go_wp2
           go_quiet (fail)
           obtain ⟨X6, HW2⟩ : ∃ W2, Hid (W2 = World.drewN X5 nq) := ⟨_, hide rfl⟩
           rw [← HW2.out]
           have HX6 : Hid (AtS w rb m q2 g 0 0 X6) := by rw [HW2.out]; exact hide (HX5.out.on hrb (Kept2.drewN (.refl _ _ _)) HX5.out.rd.draw)
           have HBX6 : Hid (boolsAt X6 L (boolRow s)) := by rw [HW2.out]; exact HBX5
           clear HW2
           obtain ⟨k0, k1, _, _, _⟩ := five_cells HX6.out.rd
           have kf := not_frozen (k := 1) HX6.out.rd
           obtain ⟨X7, HW2⟩ : ∃ W2, Hid (W2 = World.setCell X6 ⟨rb, 1, none⟩ (.int .i64 ((q2 : Int) + 1))) := ⟨_, hide rfl⟩
           have HX7 : Hid (AtS w rb m (q2 + 1) g 0 0 X7) := by rw [HW2.out]; exact hide (HX6.out.on hrb (.setT _ _) (HX6.out.rd.on _ (by go_num)))
           have HBX7 : Hid (boolsAt X7 L (boolRow s)) := by rw [HW2.out]; exact hide (HBX6.out.keep (set_apart _ (by omega)))
           have hwr : IntKind.i64.wrap ((q2 : Int) + 1) = (q2 : Int) + 1 := wrap_i64_small _ (by omega) (by omega)
           have eW2 := HW2.out.symm
           clear HW2
           clear c0 c1
           go_wp2
           go_loopw [11] (fun v wr => ∃ k : Nat, c.toNat ≤ k ∧ k ≤ d.toNat + 1 ∧ v = .int .i64 k ∧ Hid (AtS w rb m (q2 + 1) g 0 0 wr) ∧ Hid (boolsAt wr L (boolRow fun x => s x || (decide (c.toNat ≤ x.toNat) && decide (x.toNat < k))))) (fun v _ => d.toNat + 1 - (intOf v).toNat)
           case atStart => exact ⟨c.toNat, by omega, by omega, rfl, HX7, by rw [upto_zero]; exact HBX7⟩
           case round =>
            obtain ⟨k, hk1, hk2, rfl, HA2, HB2⟩ := hrel
            by_cases hkd : k ≤ d.toNat
            ·
             have hkd2 : (k : Int) ≤ (d.toNat : Int) := by omega
             have h256 : k < 256 := by have := d.toNat_lt; omega
             have hcell := HB2.out.cell (k := k) (boolRow_get _ h256)
             have hfz := not_frozen (k := k) HB2.out
             go_wp2
             refine ⟨⟨k + 1, by omega, by omega, by go_num, hide (HA2.out.setB hrb hLw _), hide ?_⟩, ?_⟩
             ·
              have := HB2.out.set k true
              rw [upto_row h256 hk1] at this
              exact this
             ·
              simp [intOf]; omega
            ·
             obtain rfl : k = d.toNat + 1 := by omega
             have hkd2 : ¬ ((d.toNat : Int) + 1 ≤ (d.toNat : Int)) := by omega
             have hB := HB2.out
             rw [upto_full] at hB
             have HB3 := hide hB
             clear hB HB2
             go_wp2
             refine ⟨⟨false, (q2 + 1), union s (between c d), f, rfl, HA2, HB3, HNX, by omega⟩, ?_⟩
             rw [HA2.out.rd.place, HPL.out]
             omega
        ·
         have HE : Hid (y = .error (1, q2)) := by
          show _ = _
          have h := HSP2.out
          rw [br_bad (fun e he => by rw [List.getElem?_eq_none_iff.2 (by omega)] at he; cases he)] at h
          rw [HY.out, ← Option.some.inj h]
          rfl
         have hne : ((q2 : Int) == m.length) = true := by rw [beq_iff_eq]; omega
         obtain ⟨c0, c1, _, _, _⟩ := five_cells HX4.out.rd
         go_wp2
         go_quiet (fail)
         obtain ⟨X5, HW2⟩ : ∃ W2, Hid (W2 = World.drewN X4 nq) := ⟨_, hide rfl⟩
         rw [← HW2.out]
         have HX5 : Hid (AtS w rb m q2 g 0 0 X5) := by rw [HW2.out]; exact hide (HX4.out.on hrb (Kept2.drewN (.refl _ _ _)) HX4.out.rd.draw)
         have HBX5 : Hid (boolsAt X5 L (boolRow s)) := by rw [HW2.out]; exact HBX4
         clear HW2
         obtain ⟨c0, c1, _, _, _⟩ := five_cells HX5.out.rd
         go_wp2_with fail
         refine (wrong_any _ rb m q2 g 1 (q2 : Int) 1 q2 rfl rfl HX5.out.rd).mono ?_
         rintro en wx ⟨rfl, hk3, hr3⟩
         have HX3 := hide (HX5.out.on hrb hk3 hr3)
         clear hk3 hr3
         obtain ⟨⟨r0, r1, r2, r3, r4⟩, rf⟩ := HX3.out.cells
         have z0 := rf 0
         have z1 := rf 1
         have z2 := rf 2
         have z3 := rf 3
         have z4 := rf 4
         obtain ⟨Z, eZ, hk, ho, hrd, hkb⟩ := HX3.out.store hrb (.bool false) (.slice none 0 0) (.int .i64 0) (.slice none 0 0) (.int .u8 0)
         have HO := hide ho
         have HK := hide hk
         have HRD := hide hrd
         have HKB := hide hkb
         clear rf hk ho hrd hkb
         go_wp2
         refine bodyPost_ret (v := pieceV false (.slice none 0 0) 0 (.slice none 0 0) 0) (results_cell_row (p := 2) (ty := 155) rfl _ _ w.heap.size _ _ _ _ rfl HO.out Tryz.underlying155 rfl Tryz.infoPiece) rfl ⟨HK.out, _, rfl, by rw [HE.out]; exact ⟨rfl, _, HRD.out⟩⟩
     ·
      have HE : Hid (y = .error (1, p)) := by
       show _ = _
       have h := HS.out
       rw [span_bad (fun d hd => by rw [List.getElem?_eq_none_iff.2 (by omega)] at hd; cases hd)] at h
       rw [HY.out, ← Option.some.inj h]
       rfl
      have hne : ((p : Int) == m.length) = true := by rw [beq_iff_eq]; omega
      obtain ⟨c0, c1, _, _, _⟩ := five_cells HY1.out.rd
      go_wp2
      go_quiet (fail)
      obtain ⟨X1, HW2⟩ : ∃ W2, Hid (W2 = World.drewN Y1 nq) := ⟨_, hide rfl⟩
      rw [← HW2.out]
      have HX1 : Hid (AtS w rb m p g 0 0 X1) := by rw [HW2.out]; exact hide (HY1.out.on hrb (Kept2.drewN (.refl _ _ _)) HY1.out.rd.draw)
      have HBX1 : Hid (boolsAt X1 L (boolRow s)) := by rw [HW2.out]; exact HBY1
      clear HW2
      obtain ⟨c0, c1, _, _, _⟩ := five_cells HX1.out.rd
      go_wp2_with fail
      refine (wrong_any _ rb m p g 1 (p : Int) 1 p rfl rfl HX1.out.rd).mono ?_
      rintro en wx ⟨rfl, hk3, hr3⟩
      have HX3 := hide (HX1.out.on hrb hk3 hr3)
      clear hk3 hr3
      obtain ⟨⟨r0, r1, r2, r3, r4⟩, rf⟩ := HX3.out.cells
      have z0 := rf 0
      have z1 := rf 1
      have z2 := rf 2
      have z3 := rf 3
      have z4 := rf 4
      obtain ⟨Z, eZ, hk, ho, hrd, hkb⟩ := HX3.out.store hrb (.bool false) (.slice none 0 0) (.int .i64 0) (.slice none 0 0) (.int .u8 0)
      have HO := hide ho
      have HK := hide hk
      have HRD := hide hrd
      have HKB := hide hkb
      clear rf hk ho hrd hkb
      go_wp2
      refine bodyPost_ret (v := pieceV false (.slice none 0 0) 0 (.slice none 0 0) 0) (results_cell_row (p := 2) (ty := 155) rfl _ _ w.heap.size _ _ _ _ rfl HO.out Tryz.underlying155 rfl Tryz.infoPiece) rfl ⟨HK.out, _, rfl, by rw [HE.out]; exact ⟨rfl, _, HRD.out⟩⟩
/-- What Rows does, with so many groups ahead. -/
def rrowsPost (rb : Nat) (m : List UInt8) (y : Except (Nat × Nat) (Tr × Nat × Nat)) (w : World) (e : Ending) (w' : World) : Prop :=
 Kept2 rb rb w w' ∧ ∃ v k ys, e = .returned v ∧ w'.ownsRow w.heap.size 153 1 v k ys ∧ match y with
  | .error x => ∃ j h, readerAt w' rb m j h x.1 x.2
  | .ok x => cellsAt w' (fun b => w.heap.size ≤ b ∧ v.ownBlock ≠ some b) x.1 ys ∧ readerAt w' rb m x.2.1 x.2.2 0 0
def RRowsOK (m : List UInt8) (f : Nat) : Prop :=
 ∀ (w : World) (rb i g : Nat) (y : Except (Nat × Nat) (Tr × Nat × Nat)), readerAt w rb m i g 0 0 → i ≤ m.length → g ≤ 9 → pM m f true i g = some y →
  Calls Tryz.prog 74 #[.pointer (some ⟨rb, 0, none⟩)] w (rrowsPost rb m y w)
/-- A piece without its sign. -/
def aOut (m : List UInt8) (f i g : Nat) (c : UInt8) : Out (Item × Nat × Nat) :=
 if c.toNat = 40 then
  if g = 9 then some (.error (2, i))
  else bindO (pM m f true (i + 1) (g + 1)) fun x => if isAt m x.2.1 41 then some (.ok (.grp g x.1 0, x.2.1 + 1, x.2.2)) else some (.error (1, x.2.1))
 else bindO (pSet m i c) fun x => some (.ok (.set x.1 0, x.2, g))
def apost (rb : Nat) (m : List UInt8) (y : Except (Nat × Nat) (Item × Nat × Nat)) (w : World) (e : Ending) (w' : World) : Prop :=
 Kept2 rb rb w w' ∧ ∃ (gr : Bool) (so : Option Addr) (sn sc : Nat) (nm : Int) (ro : Option Addr) (rn rc : Nat), e = .returned (pieceV gr (.slice so sn sc) nm (.slice ro rn rc) 0) ∧ match y with
  | .error x => ∃ j h, readerAt w' rb m j h x.1 x.2
  | .ok x => itemAt w' (fun b => w.heap.size ≤ b) x.1 (pieceC5 gr (.slice so sn sc) nm (.slice ro rn rc) 0) ∧ readerAt w' rb m x.2.1 x.2.2 0 0
theorem apost_of {rb : Nat} {m : List UInt8} {g : Nat} {y : Except (Nat × Nat) ((UInt8 → Bool) × Nat)} {w : World} {e : Ending} {w' : World} (h : ratomPost rb m g y w e w') :
  apost rb m (match y with | .error x => .error x | .ok x => .ok (.set x.1 0, x.2, g)) w e w' := by
 obtain ⟨h1, v, rfl, h2⟩ := h
 refine ⟨h1, ?_⟩
 cases y with
 | error x =>
  obtain ⟨rfl, j, h3⟩ := h2
  exact ⟨false, none, 0, 0, 0, none, 0, 0, rfl, j, g, h3⟩
 | ok x =>
  obtain ⟨sv, rfl, ⟨b, rfl, hb, hs⟩, h3⟩ := h2
  exact ⟨false, some ⟨b, 0, none⟩, 256, 256, 0, none, 0, 0, rfl, ⟨b, rfl, hb, hs⟩, h3⟩
set_option maxRecDepth 20000 in
set_option maxHeartbeats 4000000 in
theorem ratom_group (w : World) (rb : Nat) (m : List UInt8) (i g : Nat) (c : UInt8) (hr : readerAt w rb m i g 0 0) (hc : m[i]? = some c) (hm : m.length ≤ 1000) (hq : c.toNat = 40) {f : Nat} (hf : RRowsOK m f) (hg : g ≤ 9) (y : Except (Nat × Nat) (Item × Nat × Nat)) (hy : aOut m f i g c = some y) :
  Calls Tryz.prog 106 #[.pointer (some ⟨rb, 0, none⟩)] w (apost rb m y w) := by
 have hrb := lt_of_block hr
 have hi := get_lt hc
 have hget : m[i] = c := by rw [List.getElem?_eq_getElem hi] at hc; exact Option.some.inj hc
 have HI40 : Hid (isAt m i 40 = true) := by show _ = _; simp [isAt, hc, hq]
 have HI46 : Hid (isAt m i 46 = false) := by show _ = _; simp [isAt, hc]; omega
 have HI92 : Hid (isAt m i 92 = false) := by show _ = _; simp [isAt, hc]; omega
 have HI91 : Hid (isAt m i 91 = false) := by show _ = _; simp [isAt, hc]; omega
 obtain ⟨A, HA⟩ : ∃ A, Hid (A = w.alloc (.cells pieceZ 155)) := ⟨_, hide rfl⟩
 have hA := AtS.first hr HA.out
 obtain ⟨c0, c1, c2, c3, c4⟩ := five_cells hA.rd
 have HAS : Hid (∀ n, AtS w rb m i g 0 0 (A.drewN n)) := hide fun n => ⟨hA.kept.drewN, hA.size, hA.out, hA.rd⟩
 have eA := HA.out.symm
 have HY : Hid ((if g = 9 then some (.error (2, i)) else bindO (pM m f true (i + 1) (g + 1)) fun x => if isAt m x.2.1 41 then some (.ok (.grp g x.1 0, x.2.1 + 1, x.2.2)) else some (.error (1, x.2.1))) = some y) := by
  show _ = _
  rw [← hy]
  unfold aOut
  rw [if_pos hq]
 clear hr hc HA hA c2 c3 c4 hq hy
 go_enter Tryz.func106, Tryz.ntmps106
 go_wp2
 go_quiet (fail)
 have H0 := hide (HAS.out nq)
 clear eA HAS c0 c1
 go_wp2_with fail
 refine (rmay_any _ rb m i g 0 0 46 46 rfl (by decide) (by omega) H0.out.rd).mono ?_
 rintro en w1 ⟨rfl, hk, hr1⟩
 have h1 := H0.out.on hrb hk hr1
 rw [HI46.out] at h1 ⊢
 simp only [onIf] at h1
 have H1 := hide h1
 clear hk hr1 h1 H0
 go_wp2_with fail
 refine (rmay_any _ rb m i g 0 0 92 92 rfl (by decide) (by omega) H1.out.rd).mono ?_
 rintro en w2 ⟨rfl, hk, hr1⟩
 have h1 := H1.out.on hrb hk hr1
 rw [HI92.out] at h1 ⊢
 simp only [onIf] at h1
 have H2 := hide h1
 clear hk hr1 h1 H1
 go_wp2_with fail
 refine (rmay_any _ rb m i g 0 0 91 91 rfl (by decide) (by omega) H2.out.rd).mono ?_
 rintro en w3 ⟨rfl, hk, hr1⟩
 have h1 := H2.out.on hrb hk hr1
 rw [HI91.out] at h1 ⊢
 simp only [onIf] at h1
 have H3 := hide h1
 clear hk hr1 h1 H2
 go_wp2_with fail
 refine (ris_any _ rb m i g 0 0 40 40 rfl (by decide) H3.out.rd).mono ?_
 rintro en w4 ⟨rfl, nd, rfl⟩
 have h1 := H3.out.on hrb (Kept2.drewN (n := nd) (.refl _ _ _)) H3.out.rd.draw
 rw [HI40.out]
 obtain ⟨W4, HW4⟩ : ∃ W4, Hid (W4 = World.drewN w3 nd) := ⟨_, hide rfl⟩
 rw [← HW4.out] at h1 ⊢
 have H4 := hide h1
 clear h1 H3 HW4
 obtain ⟨k0, k1, k2, k3, k4⟩ := five_cells H4.out.rd
 by_cases h9 : g = 9
 ·
  have HE : Hid (y = .error (2, i)) := by
   show _ = _
   have h := HY.out
   rw [if_pos h9] at h
   exact (Option.some.inj h).symm
  have h92 : ((g : Int) == 9) = true := by simp [h9]
  clear h9 HY
  go_wp2_with fail
  refine (wrong_any _ rb m i g 2 (i : Int) 2 i rfl rfl H4.out.rd).mono ?_
  rintro en w6 ⟨rfl, hk3, hr3⟩
  have H6 := hide (H4.out.on hrb hk3 hr3)
  clear hk3 hr3
  obtain ⟨⟨r0, r1, r2, r3, r4⟩, rf⟩ := H6.out.cells
  have z0 := rf 0
  have z1 := rf 1
  have z2 := rf 2
  have z3 := rf 3
  have z4 := rf 4
  obtain ⟨Z, eZ, hk, ho, hrd, hkb⟩ := H6.out.store hrb (.bool false) (.slice none 0 0) (.int .i64 0) (.slice none 0 0) (.int .u8 0)
  have HO := hide ho
  have HK := hide hk
  have HRD := hide hrd
  have HKB := hide hkb
  clear rf hk ho hrd hkb
  go_wp2
  refine bodyPost_ret (v := pieceV false (.slice none 0 0) 0 (.slice none 0 0) 0) (results_cell_row (p := 2) (ty := 155) rfl _ _ w.heap.size _ _ _ _ rfl HO.out Tryz.underlying155 rfl Tryz.infoPiece) rfl ⟨HK.out, false, none, 0, 0, 0, none, 0, 0, rfl, by rw [HE.out]; exact ⟨i, g, HRD.out⟩⟩
 ·
  have h92 : ((g : Int) == 9) = false := by simp; omega
  have HY2 : Hid (bindO (pM m f true (i + 1) (g + 1)) (fun x => if isAt m x.2.1 41 then some (.ok (.grp g x.1 0, x.2.1 + 1, x.2.2)) else some (.error (1, x.2.1))) = some y) := by
   have h := HY.out
   rw [if_neg h9] at h
   exact hide h
  have HG9 := hide h9
  clear h9 HY
  have kf1 := not_frozen (k := 1) H4.out.rd
  have kf2 := not_frozen (k := 2) H4.out.rd
  obtain ⟨W5, HW5⟩ : ∃ W5, Hid (W5 = (W4.setCell ⟨rb, 1, none⟩ (.int .i64 ((i : Int) + 1))).setCell ⟨rb, 2, none⟩ (.int .i64 ((g : Int) + 1))) := ⟨_, hide rfl⟩
  have hr5 : readerAt W5 rb m (i + 1) (g + 1) 0 0 := by
   unfold readerAt
   rw [HW5.out, set_blk (set_blk H4.out.rd _)]
   rfl
  have h5 : AtS w rb m (i + 1) (g + 1) 0 0 W5 := H4.out.on hrb (by rw [HW5.out]; exact (Kept2.setT _ _).trans (Kept2.setT _ _)) hr5
  have H5 := hide h5
  have hwr : IntKind.i64.wrap ((i : Int) + 1) = (i : Int) + 1 := wrap_i64_small _ (by omega) (by omega)
  have hwr2 : IntKind.i64.wrap ((g : Int) + 1) = (g : Int) + 1 := wrap_i64_small _ (by omega) (by omega)
  have eW5 := HW5.out.symm
  obtain ⟨m0, m1, m2, m3, m4⟩ := five_cells hr5
  have hs5 := h5.size
  clear hr5 h5 H4 HW5
  go_wp2_with fail
  clear eW5 k0 k1 k2 k3 k4 kf1 kf2 m0 m1 m3 m4
  rcases bindO_eq HY2.out with ⟨x, hx, rfl⟩ | ⟨x, hx, hy3⟩
  ·
   refine (hf W5 rb (i + 1) (g + 1) _ H5.out.rd (by omega) (by have := HG9.out; omega) hx).mono ?_
   rintro en w6 ⟨hk6, v6, k6, ys6, rfl, ho6, j6, g6, hr6⟩
   obtain ⟨ao6, cp6, rfl⟩ := own_shape ho6
   have hxe := eM hx
   have H6 := hide (H5.out.on hrb hk6 hr6)
   clear hk6 hr6 ho6 hx
   obtain ⟨n0, n1, n2, n3, n4⟩ := five_cells H6.out.rd
   have hxn : ((x.1 : Int) == 0) = false := by simp; omega
   obtain ⟨⟨r0, r1, r2, r3, r4⟩, rf⟩ := H6.out.cells
   have z0 := rf 0
   have z1 := rf 1
   have z2 := rf 2
   have z3 := rf 3
   have z4 := rf 4
   obtain ⟨Z, eZ, hk, ho, hrd, hkb⟩ := H6.out.store hrb (.bool true) (.slice none 0 0) (.int .i64 ((g : Int) + 1)) (.slice ao6 k6 cp6) (.int .u8 0)
   have HO := hide ho
   have HK := hide hk
   have HRD := hide hrd
   have HKB := hide hkb
   clear rf hk ho hrd hkb
   go_wp2
   refine bodyPost_ret (v := pieceV true (.slice none 0 0) ((g : Int) + 1) (.slice ao6 k6 cp6) 0) (results_cell_row (p := 2) (ty := 155) rfl _ _ w.heap.size _ _ _ _ rfl HO.out Tryz.underlying155 rfl Tryz.infoPiece) rfl ⟨HK.out, true, none, 0, 0, ((g : Int) + 1), ao6, k6, cp6, rfl, j6, g6, HRD.out⟩
  ·
   have hxo := pM_ok hx (by omega)
   refine (hf W5 rb (i + 1) (g + 1) _ H5.out.rd (by omega) (by have := HG9.out; omega) hx).mono ?_
   rintro en w6 ⟨hk6, v6, k6, ys6, rfl, ho6, hc6, hr6⟩
   have HY3 := hide hy3
   obtain ⟨T, j, h⟩ := x
   simp only at hc6 hr6 hxo
   have H6 := hide (H5.out.on hrb hk6 hr6)
   have HO6 := hide ho6
   have HC6 := hide hc6
   have hs6 := hk6.size
   obtain ⟨ao6, cp6, rfl⟩ := own_shape ho6
   clear hk6 hr6 ho6 hc6 hy3 hx
   obtain ⟨n0, n1, n2, n3, n4⟩ := five_cells H6.out.rd
   go_wp2_with fail
   refine (rmay_any _ rb m j h 0 0 41 41 rfl (by decide) (by omega) H6.out.rd).mono ?_
   rintro en w7 ⟨rfl, hk7, hr7⟩
   have h7 := H6.out.on hrb hk7 hr7
   have hko : ∀ b, W5.heap.size ≤ b → b < w6.heap.size → w7.heap[b]? = w6.heap[b]? := fun b h1 h2 => hk7.block b h2 (by omega) (by omega)
   have HO7 : Hid (w7.ownsRow W5.heap.size 153 1 (.slice ao6 k6 cp6) k6 ys6) := hide (own_keep HO6.out fun b hb => hko b (HO6.out.lt b hb).1 (HO6.out.lt b hb).2)
   have HC7 : Hid (cellsAt w7 (fun b => W5.heap.size ≤ b ∧ (Value.slice ao6 k6 cp6).ownBlock ≠ some b) T ys6) := hide (HC6.out.keep fun b hb ha => ⟨ha, hko b ha.1 hb⟩)
   have hs7 := hk7.size
   clear hk7 hr7 hko H6
   obtain ⟨bo, HBO⟩ : ∃ bo, Hid (isAt m j 41 = bo) := ⟨_, hide rfl⟩
   rw [HBO.out] at h7 ⊢
   have HY4 : Hid ((if bo then some (.ok (.grp g T 0, j + 1, h)) else some (.error (1, j))) = some y) := by
    have hh := HY3.out
    rw [HBO.out] at hh
    exact hide hh
   cases bo with
   | true =>
    simp only [onIf] at h7
    have H7 := hide h7
    have HE : Hid (y = .ok (.grp g T 0, j + 1, h)) := hide (Option.some.inj HY4.out).symm
    clear h7
    obtain ⟨⟨r0, r1, r2, r3, r4⟩, rf⟩ := H7.out.cells
    have z0 := rf 0
    have z1 := rf 1
    have z2 := rf 2
    have z3 := rf 3
    have z4 := rf 4
    obtain ⟨Z, eZ, hk, ho, hrd, hkb⟩ := H7.out.store hrb (.bool true) (.slice none 0 0) (.int .i64 ((g : Int) + 1)) (.slice ao6 k6 cp6) (.int .u8 0)
    have HO := hide ho
    have HK := hide hk
    have HRD := hide hrd
    have HKB := hide hkb
    clear rf hk ho hrd hkb
    have HO8 : Hid (Z.ownsRow w.heap.size 153 1 (.slice ao6 k6 cp6) k6 ys6) := hide (own_le (own_keep HO7.out fun b hb => HKB.out b (by have := (HO7.out.lt b hb).1; omega)) (by omega))
    have HC8 : Hid (cellsAt Z (fun b => w.heap.size ≤ b) T ys6) := hide (HC7.out.keep fun b hb ha => ⟨by omega, HKB.out b (by omega)⟩)
    go_wp2
    refine bodyPost_ret (v := pieceV true (.slice none 0 0) ((g : Int) + 1) (.slice ao6 k6 cp6) 0) (results_cell_row (p := 2) (ty := 155) rfl _ _ w.heap.size _ _ _ _ rfl HO.out Tryz.underlying155 rfl Tryz.infoPiece) rfl ⟨HK.out, true, none, 0, 0, ((g : Int) + 1), ao6, k6, cp6, rfl, by rw [HE.out]; exact ⟨⟨_, _, _, rfl, own_le HO8.out (by omega), fun b hb => (HO8.out.lt b hb).1, HC8.out⟩, HRD.out⟩⟩
   | false =>
    simp only [onIf] at h7
    have H7 := hide h7
    have HE : Hid (y = .error (1, j)) := hide (Option.some.inj HY4.out).symm
    clear h7
    obtain ⟨o0, o1, o2, o3, o4⟩ := five_cells H7.out.rd
    go_wp2_with fail
    refine (wrong_any _ rb m j h 1 (j : Int) 1 j rfl rfl H7.out.rd).mono ?_
    rintro en w8 ⟨rfl, hk3, hr3⟩
    have H8 := hide (H7.out.on hrb hk3 hr3)
    clear hk3 hr3
    obtain ⟨⟨r0, r1, r2, r3, r4⟩, rf⟩ := H8.out.cells
    have z0 := rf 0
    have z1 := rf 1
    have z2 := rf 2
    have z3 := rf 3
    have z4 := rf 4
    obtain ⟨Z, eZ, hk, ho, hrd, hkb⟩ := H8.out.store hrb (.bool true) (.slice none 0 0) (.int .i64 ((g : Int) + 1)) (.slice ao6 k6 cp6) (.int .u8 0)
    have HO := hide ho
    have HK := hide hk
    have HRD := hide hrd
    have HKB := hide hkb
    clear rf hk ho hrd hkb
    go_wp2
    refine bodyPost_ret (v := pieceV true (.slice none 0 0) ((g : Int) + 1) (.slice ao6 k6 cp6) 0) (results_cell_row (p := 2) (ty := 155) rfl _ _ w.heap.size _ _ _ _ rfl HO.out Tryz.underlying155 rfl Tryz.infoPiece) rfl ⟨HK.out, true, none, 0, 0, ((g : Int) + 1), ao6, k6, cp6, rfl, by rw [HE.out]; exact ⟨j, h, HRD.out⟩⟩
end Go.Proofs.YtndpjdmfkhjiiaaGreatDoor
