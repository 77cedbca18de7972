/- The document's own reader of masks: pieces that are no groups, but for brackets. -/
import Derived.Laws.OwnMore
import Derived.Test.YtndpjdmfkhjiiaaGreatDoorProg
import Derived.Test.YtndpjdmfkhjiiaaGreatDoorKit
import Derived.Test.YtndpjdmfkhjiiaaGreatDoorMPar
import Derived.Test.YtndpjdmfkhjiiaaGreatDoorMLay
import Derived.Test.YtndpjdmfkhjiiaaGreatDoorMWlk
import Derived.Test.YtndpjdmfkhjiiaaGreatDoorMFrom
import Derived.Test.YtndpjdmfkhjiiaaGreatDoorMExp
import Derived.Test.YtndpjdmfkhjiiaaGreatDoorMPrA
import Derived.Test.YtndpjdmfkhjiiaaGreatDoorMPrB
import Derived.Test.YtndpjdmfkhjiiaaGreatDoorMNew
import Derived.Test.YtndpjdmfkhjiiaaGreatDoorMRdA
import Derived.Test.YtndpjdmfkhjiiaaGreatDoorMRdB
import Derived.BigQuiet
set_option linter.unusedVariables false
set_option linter.unusedSimpArgs false
namespace Go.Proofs.YtndpjdmfkhjiiaaGreatDoor
open Go.RowKit
attribute [local go_sem] bs_size bs_toList bs_append bs_get bs_extract

/-- A piece's value. -/
def pieceV (gr : Bool) (sv : Value) (n : Int) (rv : Value) (sg : Int) : Value := .agg #[.bool gr, sv, .int .i64 n, rv, .int .u8 sg]
abbrev pieceZ : Array Value := #[.bool false, .slice none 0 0, .int .i64 0, .slice none 0 0, .int .u8 0]

/-- While a piece is read: what has stayed, the block that is handed back, and the reader. -/
structure AtS (w : World) (rb : Nat) (m : List UInt8) (i g e a : Nat) (W : World) : Prop where
  kept : Kept2 rb rb w W
  size : w.heap.size < W.heap.size
  out : W.heap[w.heap.size]? = some (.cells pieceZ 155 (0, 0))
  rd : readerAt W rb m i g e a
theorem AtS.first {w A : World} {rb : Nat} {m : List UInt8} {i g e a : Nat} (h : readerAt w rb m i g e a) (hA : A = w.alloc (.cells pieceZ 155)) : AtS w rb m i g e a A := by
  subst hA
  have g : Grow w (w.alloc (.cells pieceZ 155)) := (Grow.refl _).alloc _
  exact ⟨.grow g, by simp, heap_alloc_new _ _, h.grow g⟩
theorem AtS.on {w W W' : World} {rb : Nat} {m : List UInt8} {i g e a i' g' e' a' : Nat} (h : AtS w rb m i g e a W) (hrb : rb < w.heap.size) (k : Kept2 rb rb W W') (hr : readerAt W' rb m i' g' e' a') : AtS w rb m i' g' e' a' W' :=
  ⟨h.kept.trans k, Nat.lt_of_lt_of_le h.size k.size, (k.block _ h.size (by omega) (by omega)).trans h.out, hr⟩
theorem AtS.grow {w W W' : World} {rb : Nat} {m : List UInt8} {i g e a : Nat} (h : AtS w rb m i g e a W) (hrb : rb < w.heap.size) (k : Grow W W') : AtS w rb m i g e a W' := h.on hrb (.grow k) (h.rd.grow k)
theorem AtS.cells {w W : World} {rb : Nat} {m : List UInt8} {i g e a : Nat} (h : AtS w rb m i g e a W) :
    (W.cell? ⟨w.heap.size, 0, none⟩ = some (.bool false) ∧ W.cell? ⟨w.heap.size, 1, none⟩ = some (.slice none 0 0) ∧ W.cell? ⟨w.heap.size, 2, none⟩ = some (.int .i64 0) ∧ W.cell? ⟨w.heap.size, 3, none⟩ = some (.slice none 0 0) ∧ W.cell? ⟨w.heap.size, 4, none⟩ = some (.int .u8 0)) ∧
    (∀ k, W.frozen? ⟨w.heap.size, k, none⟩ = false) := by
  have ho := h.out
  unfold pieceZ at ho
  exact ⟨five_cells ho, fun k => not_frozen (k := k) ho⟩
/-- A row of the call's own is written. -/
theorem AtS.setB {w W : World} {rb : Nat} {m : List UInt8} {i g e a b o : Nat} (h : AtS w rb m i g e a W) (hrb : rb < w.heap.size) (hb : w.heap.size < b) (u : Value) : AtS w rb m i g e a (W.setCell ⟨b, o, none⟩ u) := by
  refine ⟨⟨h.kept.os, h.kept.tape, h.kept.output, by simpa [World.setCell] using h.kept.size, fun k h1 h2 h3 => (set_apart _ (by omega)).trans (h.kept.block k h1 h2 h3)⟩, by simpa [World.setCell] using h.size, (set_apart _ (by omega)).trans h.out, (set_apart _ (by omega)).trans h.rd⟩
/-- The piece is handed back. -/
theorem AtS.store {w W : World} {rb : Nat} {m : List UInt8} {i g e a : Nat} (h : AtS w rb m i g e a W) (hrb : rb < w.heap.size) (x0 x1 x2 x3 x4 : Value) :
    ∃ Z, (((((W.setCell ⟨w.heap.size, 0, none⟩ x0).setCell ⟨w.heap.size, 1, none⟩ x1).setCell ⟨w.heap.size, 2, none⟩ x2).setCell ⟨w.heap.size, 3, none⟩ x3).setCell ⟨w.heap.size, 4, none⟩ x4) = Z ∧
      Kept2 rb rb w Z ∧ Z.heap[w.heap.size]? = some (.cells #[x0, x1, x2, x3, x4] 155 (0, 0)) ∧ readerAt Z rb m i g e a ∧ (∀ k, k ≠ w.heap.size → Z.heap[k]? = W.heap[k]?) := by
  have ho := h.out
  unfold pieceZ at ho
  have hf := set_five ho x0 x1 x2 x3 x4
  have hk5 : Kept2 w.heap.size w.heap.size W (((((W.setCell ⟨w.heap.size, 0, none⟩ x0).setCell ⟨w.heap.size, 1, none⟩ x1).setCell ⟨w.heap.size, 2, none⟩ x2).setCell ⟨w.heap.size, 3, none⟩ x3).setCell ⟨w.heap.size, 4, none⟩ x4) :=
    ((((Kept2.setT _ _).trans (Kept2.setT _ _)).trans (Kept2.setT _ _)).trans (Kept2.setT _ _)).trans (Kept2.setT _ _)
  have hk : ∀ k, k ≠ w.heap.size → (((((W.setCell ⟨w.heap.size, 0, none⟩ x0).setCell ⟨w.heap.size, 1, none⟩ x1).setCell ⟨w.heap.size, 2, none⟩ x2).setCell ⟨w.heap.size, 3, none⟩ x3).setCell ⟨w.heap.size, 4, none⟩ x4).heap[k]? = W.heap[k]? := fun k hk =>
    (set_apart _ hk).trans ((set_apart _ hk).trans ((set_apart _ hk).trans ((set_apart _ hk).trans (set_apart _ hk))))
  generalize (((((W.setCell ⟨w.heap.size, 0, none⟩ x0).setCell ⟨w.heap.size, 1, none⟩ x1).setCell ⟨w.heap.size, 2, none⟩ x2).setCell ⟨w.heap.size, 3, none⟩ x3).setCell ⟨w.heap.size, 4, none⟩ x4) = Z at hf hk hk5 ⊢
  have hs := h.size
  have hs5 := hk5.size
  exact ⟨Z, rfl, ⟨hk5.os.trans h.kept.os, hk5.tape.trans h.kept.tape, hk5.output.trans h.kept.output, by omega, fun k h1 h2 h3 => (hk k (by omega)).trans (h.kept.block k h1 h2 h3)⟩, hf, (hk rb (by omega)).trans h.rd, hk⟩

/-- A row of 256 that is made. -/
theorem made_row (W : World) : ∃ W1, (Instr.makeSlice 120 (.int .i64 256) (.int .i64 256)).run Tryz.prog W = .ok (.slice (some ⟨W.heap.size, 0, none⟩) 256 256) W1 ∧ Grow W W1 ∧ W1.heap.size = W.heap.size + 1 ∧ boolsAt W1 W.heap.size (boolRow (fun _ => false)) := by
  refine ⟨W.alloc (.cells (Array.replicate 256 (Value.bool false)) 4), make_bools 256 (by decide) W, (Grow.refl _).alloc _, by simp, ?_⟩
  rw [← boolRow_none]
  unfold boolsAt
  rw [heap_alloc_new, List.map_replicate, List.toArray_replicate]

theorem below_row {k : Nat} (h : k < 256) : (boolRow fun c => decide (c.toNat < k)).set k true = boolRow fun c => decide (c.toNat < k + 1) := by
  rw [boolRow_set _ _ h]
  congr 1
  funext c
  by_cases e : c.toNat = k
  · simp [e]
  · have : c.toNat < k ↔ c.toNat < k + 1 := by omega
    simp [e, this]
theorem below_all : (boolRow fun c => decide (c.toNat < 256)) = boolRow fun _ => true := by
  congr 1
  funext c
  have := c.toNat_lt
  simp
  omega
theorem below_none : (boolRow fun c => decide (c.toNat < 0)) = boolRow fun _ => false := by
  congr 1

/-- A set that was laid from a block on. -/
def setFrom (B : Nat) (w : World) (v : Value) (s : UInt8 → Bool) : Prop := ∃ b, v = .slice (some ⟨b, 0, none⟩) 256 256 ∧ B ≤ b ∧ boolsAt w b (boolRow s)
/-- What is read of a piece that is no group. -/
def ratomPost (rb : Nat) (m : List UInt8) (g : Nat) (y : Except (Nat × Nat) ((UInt8 → Bool) × Nat)) (w : World) (e : Ending) (w' : World) : Prop :=
  Kept2 rb rb w w' ∧ ∃ v, e = .returned v ∧ match y with
    | .error x => v = pieceV false (.slice none 0 0) 0 (.slice none 0 0) 0 ∧ ∃ j, readerAt w' rb m j g x.1 x.2
    | .ok x => ∃ sv, v = pieceV false sv 0 (.slice none 0 0) 0 ∧ setFrom w.heap.size w' sv x.1 ∧ readerAt w' rb m x.2 g 0 0

set_option maxRecDepth 20000 in
set_option maxHeartbeats 4000000 in
theorem ratom_dot (w : World) (rb : Nat) (m : List UInt8) (i g : Nat) (c : UInt8) (hr : readerAt w rb m i g 0 0) (hc : m[i]? = some c) (hm : m.length ≤ 1000) (hq : c.toNat = 46) :
    Calls Tryz.prog 106 #[.pointer (some ⟨rb, 0, none⟩)] w (ratomPost rb m g (.ok (fun _ => true, i + 1)) w) := by
  have hrb := lt_of_block hr
  have hi := get_lt hc
  have hget : m[i] = c := by rw [List.getElem?_eq_getElem hi] at hc; exact Option.some.inj hc
  have HI46 : Hid (isAt m i 46 = true) := by show _ = _; simp [isAt, hc, hq]
  obtain ⟨A, HA⟩ : ∃ A, Hid (A = w.alloc (.cells pieceZ 155)) := ⟨_, hide rfl⟩
  have hA := AtS.first hr HA.out
  obtain ⟨c0, c1, c2, c3, c4⟩ := five_cells hA.rd
  have HAS : Hid (∀ n, AtS w rb m i g 0 0 (A.drewN n)) := hide fun n => ⟨hA.kept.drewN, hA.size, hA.out, hA.rd⟩
  have eA := HA.out.symm
  skip
  clear hr hc HA hA c2 c3 c4 hq
  go_enter Tryz.func106, Tryz.ntmps106
  go_wp2
  go_quiet (fail)
  have H0 := hide (HAS.out nq)
  clear eA HAS c0 c1
  go_wp2_with fail
  refine (rmay_any _ rb m i g 0 0 46 46 rfl (by decide) (by omega) H0.out.rd).mono ?_
  rintro en w1 ⟨rfl, hk, hr1⟩
  have h1 := H0.out.on hrb hk hr1
  rw [HI46.out] at h1 ⊢
  simp only [onIf] at h1
  have H1 := hide h1
  clear hk hr1 h1 H0
  obtain ⟨W1, hmk, hg1, hs1, hb1⟩ := made_row w1
  have h2 := H1.out.grow hrb hg1
  have hlw := H1.out.size
  have H2 := hide h2
  have HB1 : Hid (boolsAt W1 w1.heap.size (boolRow fun c => decide (c.toNat < 0))) := hide (by rw [below_none]; exact hb1)
  clear hg1 hb1 h2
  go_wp2
  go_loopw [5] (fun v wr => ∃ k : Nat, k ≤ 256 ∧ v = .int .i64 k ∧ Hid (AtS w rb m (i + 1) g 0 0 wr) ∧ Hid (boolsAt wr w1.heap.size (boolRow fun c => decide (c.toNat < k)))) (fun v _ => 256 - (intOf v).toNat)
  case atStart => exact ⟨0, by omega, rfl, H2, HB1⟩
  case round =>
    obtain ⟨k, hk, rfl, HA, HB⟩ := hrel
    by_cases hlt : k < 256
    · have hlt2 : (k : Int) < 256 := by omega
      have hcell := HB.out.cell (k := k) (boolRow_get _ hlt)
      have hfz := not_frozen (k := k) HB.out
      go_wp2
      refine ⟨⟨k + 1, by omega, by go_num, hide (HA.out.setB hrb hlw _), hide ?_⟩, ?_⟩
      · have := HB.out.set k true
        rw [below_row hlt] at this
        exact this
      · simp [intOf]; omega
    · obtain rfl : k = 256 := by omega
      have hB := HB.out
      rw [below_all] at hB
      obtain ⟨⟨r0, r1, r2, r3, r4⟩, rf⟩ := HA.out.cells
      have z0 := rf 0
      have z1 := rf 1
      have z2 := rf 2
      have z3 := rf 3
      have z4 := rf 4
      obtain ⟨Z, eZ, hk, ho, hrd, hkb⟩ := HA.out.store hrb (.bool false) (.slice (some ⟨w1.heap.size, 0, none⟩) 256 256) (.int .i64 0) (.slice none 0 0) (.int .u8 0)
      have HO := hide ho
      have HK := hide hk
      have HRD := hide hrd
      have HKB := hide hkb
      clear rf hk ho hrd hkb
      have HB2 : Hid (boolsAt Z w1.heap.size (boolRow fun _ => true)) := hide (hB.keep (HKB.out _ (by omega)))
      clear hB HA HB
      go_wp2
      refine bodyPost_ret (v := pieceV false (.slice (some ⟨w1.heap.size, 0, none⟩) 256 256) 0 (.slice none 0 0) 0) (results_cell_row (p := 2) (ty := 155) rfl _ _ w.heap.size _ _ _ _ rfl HO.out Tryz.underlying155 rfl Tryz.infoPiece) rfl ⟨HK.out, _, rfl, _, rfl, ⟨_, rfl, by omega, HB2.out⟩, HRD.out⟩

set_option maxRecDepth 20000 in
set_option maxHeartbeats 4000000 in
theorem ratom_esc (w : World) (rb : Nat) (m : List UInt8) (i g : Nat) (c : UInt8) (hr : readerAt w rb m i g 0 0) (hc : m[i]? = some c) (hm : m.length ≤ 1000) (hq : c.toNat = 92) (y : Except (Nat × Nat) ((UInt8 → Bool) × Nat)) (hy : pSet m i c = some y) :
    Calls Tryz.prog 106 #[.pointer (some ⟨rb, 0, none⟩)] w (ratomPost rb m g y w) := by
  have hrb := lt_of_block hr
  have hi := get_lt hc
  have hget : m[i] = c := by rw [List.getElem?_eq_getElem hi] at hc; exact Option.some.inj hc
  have HI92 : Hid (isAt m i 92 = true) := by show _ = _; simp [isAt, hc, hq]
  have HI46 : Hid (isAt m i 46 = false) := by show _ = _; simp [isAt, hc]; omega
  obtain ⟨A, HA⟩ : ∃ A, Hid (A = w.alloc (.cells pieceZ 155)) := ⟨_, hide rfl⟩
  have hA := AtS.first hr HA.out
  obtain ⟨c0, c1, c2, c3, c4⟩ := five_cells hA.rd
  have HAS : Hid (∀ n, AtS w rb m i g 0 0 (A.drewN n)) := hide fun n => ⟨hA.kept.drewN, hA.size, hA.out, hA.rd⟩
  have eA := HA.out.symm
  obtain ⟨j, hj⟩ : ∃ j, i + 1 = j := ⟨_, rfl⟩
  have HY : Hid (some y = match m[j]? with | none => some (.error (1, j)) | some d => if isAl d || isNu d then some (.error (1, j)) else some (.ok (between d d, j + 1))) := by
    show _ = _
    rw [← hy, ← hj]
    simp [pSet, hq]
    rfl
  clear hr hc HA hA c2 c3 c4 hq hy
  go_enter Tryz.func106, Tryz.ntmps106
  go_wp2
  go_quiet (fail)
  have H0 := hide (HAS.out nq)
  clear eA HAS c0 c1
  go_wp2_with fail
  refine (rmay_any _ rb m i g 0 0 46 46 rfl (by decide) (by omega) H0.out.rd).mono ?_
  rintro en w1 ⟨rfl, hk, hr1⟩
  have h1 := H0.out.on hrb hk hr1
  rw [HI46.out] at h1 ⊢
  simp only [onIf] at h1
  have H1 := hide h1
  clear hk hr1 h1 H0
  go_wp2_with fail
  refine (rmay_any _ rb m i g 0 0 92 92 rfl (by decide) (by omega) H1.out.rd).mono ?_
  rintro en w2 ⟨rfl, hk, hr1⟩
  have h1 := H1.out.on hrb hk hr1
  rw [HI92.out] at h1 ⊢
  simp only [onIf] at h1
  have H2 := hide h1
  clear hk hr1 h1 H1
  rw [hj] at H2
  obtain ⟨c0, c1, _, _, _⟩ := five_cells H2.out.rd
  have HR2 : Hid (∀ n, AtS w rb m j g 0 0 (w2.drewN n)) := hide fun n => ⟨H2.out.kept.drewN, H2.out.size, H2.out.out, H2.out.rd⟩
  by_cases hlt : j < m.length
  · obtain ⟨d, hd⟩ : ∃ d, m[j] = d := ⟨_, rfl⟩
    have hgt : m[j]? = some d := by rw [List.getElem?_eq_getElem hlt, hd]
    have hne : ((j : Int) == m.length) = false := by rw [beq_eq_false_iff_ne]; omega
    have hlt2 : (j : Int) < m.length := by omega
    have hdl := d.toNat_lt
    have HY2 : Hid (some y = if isAl d || isNu d then some (.error (1, j)) else some (.ok (between d d, j + 1))) := by
      show _ = _
      rw [HY.out, hgt]
    have HL : Hid (∀ w, Calls Tryz.prog 73 #[.int .u8 (d.toNat : Int)] w fun e w' => e = .returned (.bool (isAlU d)) ∧ w' = w) := hide fun w => rIsLetter_any d w
    have HN : Hid (∀ w, Calls Tryz.prog 20 #[.int .u8 (d.toNat : Int)] w fun e w' => e = .returned (.bool (isNu d)) ∧ w' = w) := hide fun w => rIsNumeral_any d w
    have HAU : Hid (isAl d = (isAlU d && !decide (d.toNat = 95))) := by
      show _ = _
      unfold isAlU
      by_cases h95 : d.toNat = 95
      · simp [isAl, h95]
      · simp [h95]
    clear hgt HY
    cases hL : isAlU d with
    | true =>
      rw [hL] at HL HAU
      by_cases h95 : d.toNat = 95
      · have HN0 : isNu d = false := by simp [isNu, h95]
        have HE : Hid (y = .ok (between d d, j + 1)) := by
          show _ = _
          have h := HY2.out
          rw [HAU.out, HN0] at h
          simp [h95] at h
          exact h
        have h95' : ((d.toNat : Int) != 95) = false := by simp [h95]
        rw [HN0] at HN
        clear h95 HN0 hL HY2 HAU
        go_wp2_with fail
        go_quiet (first | (go_at_call 73; exact Calls.quiet_of_same (HL.out _)) | (go_at_call 20; exact Calls.quiet_of_same (HN.out _)))
        obtain ⟨W3, HW3⟩ : ∃ W3, Hid (W3 = w2.drewN nq) := ⟨_, hide rfl⟩
        rw [← HW3.out]
        have h3 : AtS w rb m j g 0 0 W3 := by rw [HW3.out]; exact HR2.out nq
        obtain ⟨k0, k1, _, _, _⟩ := five_cells h3.rd
        have kf := not_frozen (k := 1) h3.rd
        obtain ⟨W4, HW4⟩ : ∃ W4, Hid (W4 = W3.setCell ⟨rb, 1, none⟩ (.int .i64 ((j : Int) + 1))) := ⟨_, hide rfl⟩
        have h4 : AtS w rb m (j + 1) g 0 0 W4 := by rw [HW4.out]; exact h3.on hrb (.setT _ _) (h3.rd.on _ (by go_num))
        have H4 := hide h4
        have hwr : IntKind.i64.wrap ((j : Int) + 1) = (j : Int) + 1 := wrap_i64_small _ (by omega) (by omega)
        have eW4 := HW4.out.symm
        clear h3 HW3 HW4 h4 c0 c1
        go_wp2
        clear eW4 k0 k1 kf
        obtain ⟨d0, d1, _, _, _⟩ := five_cells H4.out.rd
        refine wp_region_free 11 312 Tryz.mixed2 rfl (by decide +kernel) Grow (fun _ _ _ => Grow.trans) (Grow.refl _)
          (fun i v w' => match i with
            | 0 => v = .pointer (some ⟨rb, 0, none⟩)
            | 1 => v = .pointer (some ⟨rb, 0, none⟩)
            | 2 => v = .pointer (some ⟨rb, 0, none⟩)
            | 3 => v = .string (bs m)
            | 4 => v = .pointer (some ⟨rb, 0, none⟩)
            | 5 => v = .pointer (some ⟨rb, 0, none⟩)
            | 6 => v = .pointer (some ⟨rb, 1, none⟩)
            | 7 => v = .int .i64 ((j + 1 : Nat) : Int)
            | 8 => v = .int .i64 (j : Int)
            | 9 => v = .int .u8 (d.toNat : Int)
            | _ => ∃ b, W4.heap.size ≤ b ∧ v = .slice (some ⟨b, 0, none⟩) 256 256 ∧ boolsAt w' b (boolRow (between d d)))
          (fun i v w1 w2 h hg => ?_) (fun _ _ => False) (fun _ _ _ _ h => h.elim) (fun i hi o ho a2 w5 hG hoff hdep => ?_) (fun vals w5 hG hvals => ?_)
        · match i, h with
          | 0, h => exact h
          | 1, h => exact h
          | 2, h => exact h
          | 3, h => exact h
          | 4, h => exact h
          | 5, h => exact h
          | 6, h => exact h
          | 7, h => exact h
          | 8, h => exact h
          | 9, h => exact h
          | k + 10, h =>
            obtain ⟨b, h1, h2, h3⟩ := h
            exact ⟨b, h1, h2, hg.get h3⟩
        · have hg5 : Grow W4 w5 := hG.undrew
          obtain ⟨d0, d1, _, _, _⟩ := five_cells (H4.out.rd.grow hg5)
          match i, hi with
          | 0, _ =>
            obtain rfl := Option.some.inj ho
            have o0 := hoff 0 (by decide +kernel)
            simp at o0
            simp [opYields, go_sem, o0]
            exact Grow.refl _
          | 1, _ =>
            obtain rfl := Option.some.inj ho
            have d0 := hdep 0 (by decide +kernel)
            simp [slotOf, dstOf] at d0
            simp [opYields, go_sem, d0]
            exact Grow.refl _
          | 2, _ =>
            obtain rfl := Option.some.inj ho
            have d1 := hdep 1 (by decide +kernel)
            simp [slotOf, dstOf] at d1
            simp [opYields, go_sem, d1]
            exact Grow.refl _
          | 3, _ =>
            obtain rfl := Option.some.inj ho
            have d2 := hdep 2 (by decide +kernel)
            simp [slotOf, dstOf] at d2
            simp [opYields, go_sem, d2, d0]
            exact Grow.refl _
          | 4, _ =>
            obtain rfl := Option.some.inj ho
            have o0 := hoff 0 (by decide +kernel)
            simp at o0
            simp [opYields, go_sem, o0]
            exact Grow.refl _
          | 5, _ =>
            obtain rfl := Option.some.inj ho
            have d4 := hdep 4 (by decide +kernel)
            simp [slotOf, dstOf] at d4
            simp [opYields, go_sem, d4]
            exact Grow.refl _
          | 6, _ =>
            obtain rfl := Option.some.inj ho
            have d5 := hdep 5 (by decide +kernel)
            simp [slotOf, dstOf] at d5
            simp [opYields, go_sem, d5]
            exact Grow.refl _
          | 7, _ =>
            obtain rfl := Option.some.inj ho
            have d6 := hdep 6 (by decide +kernel)
            simp [slotOf, dstOf] at d6
            simp [opYields, go_sem, d6, d1]
            exact Grow.refl _
          | 8, _ =>
            obtain rfl := Option.some.inj ho
            have d7 := hdep 7 (by decide +kernel)
            simp [slotOf, dstOf] at d7
            simp [opYields, go_sem, d7]
            exact ⟨Grow.refl _, wrap_i64_small _ (by omega) (by omega)⟩
          | 9, _ =>
            obtain rfl := Option.some.inj ho
            have d3 := hdep 3 (by decide +kernel)
            simp [slotOf, dstOf] at d3
            have d8 := hdep 8 (by decide +kernel)
            simp [slotOf, dstOf] at d8
            simp [opYields, go_sem, d3, d8]
            simp [hlt, hd]
            exact Grow.refl _
          | 10, _ =>
            obtain rfl := Option.some.inj ho
            have d9 := hdep 9 (by decide +kernel)
            simp [slotOf, dstOf] at d9
            simp [opYields, go_sem, d9]
            refine (alone_any d w5).mono ?_
            rintro e w6 ⟨rfl, hg6, hb6⟩
            exact ⟨hg6, _, hG.undrew.size, rfl, hb6⟩
          | k + 11, h => exact absurd h (by omega)
        · obtain ⟨b, hb, v10, hbb⟩ := hvals 10 (by omega)
          clear hvals
          have hg5 : Grow W4 w5 := hG.undrew
          have H5 := hide (H4.out.grow hrb hg5)
          have hs4 := H4.out.size
          have HBB := hide hbb
          clear hG hg5 hbb d0 d1
          obtain ⟨⟨r0, r1, r2, r3, r4⟩, rf⟩ := H5.out.cells
          have z0 := rf 0
          have z1 := rf 1
          have z2 := rf 2
          have z3 := rf 3
          have z4 := rf 4
          obtain ⟨Z, eZ, hk, ho, hrd, hkb⟩ := H5.out.store hrb (.bool false) (.slice (some ⟨b, 0, none⟩) 256 256) (.int .i64 0) (.slice none 0 0) (.int .u8 0)
          have HO := hide ho
          have HK := hide hk
          have HRD := hide hrd
          have HKB := hide hkb
          clear rf hk ho hrd hkb
          have HB2 : Hid (boolsAt Z b (boolRow (between d d))) := hide (HBB.out.keep (HKB.out _ (by omega)))
          simp [over, dstOf, Act.put, v10]
          go_wp2
          refine bodyPost_ret (v := pieceV false (.slice (some ⟨b, 0, none⟩) 256 256) 0 (.slice none 0 0) 0) (results_cell_row (p := 2) (ty := 155) rfl _ _ w.heap.size _ _ _ _ rfl HO.out Tryz.underlying155 rfl Tryz.infoPiece) rfl ⟨HK.out, _, rfl, by rw [HE.out]; exact ⟨_, rfl, ⟨_, rfl, by omega, HB2.out⟩, HRD.out⟩⟩
      · have HE : Hid (y = .error (1, j)) := by
          show _ = _
          have h := HY2.out
          rw [HAU.out] at h
          simp [h95] at h
          exact h
        have h95' : ((d.toNat : Int) != 95) = true := by simp; omega
        clear h95 hL HY2 HAU
        go_wp2_with fail
        go_quiet (first | (go_at_call 73; exact Calls.quiet_of_same (HL.out _)) | (go_at_call 20; exact Calls.quiet_of_same (HN.out _)))
        go_wp2_with fail
        refine (wrong_any _ rb m j g 1 (j : Int) 1 j rfl rfl (HR2.out nq).rd).mono ?_
        rintro en w3 ⟨rfl, hk3, hr3⟩
        have H3 := hide ((HR2.out nq).on hrb hk3 hr3)
        clear hk3 hr3
        obtain ⟨⟨r0, r1, r2, r3, r4⟩, rf⟩ := H3.out.cells
        have z0 := rf 0
        have z1 := rf 1
        have z2 := rf 2
        have z3 := rf 3
        have z4 := rf 4
        obtain ⟨Z, eZ, hk, ho, hrd, hkb⟩ := H3.out.store hrb (.bool false) (.slice none 0 0) (.int .i64 0) (.slice none 0 0) (.int .u8 0)
        have HO := hide ho
        have HK := hide hk
        have HRD := hide hrd
        have HKB := hide hkb
        clear rf hk ho hrd hkb
        go_wp2
        refine bodyPost_ret (v := pieceV false (.slice none 0 0) 0 (.slice none 0 0) 0) (results_cell_row (p := 2) (ty := 155) rfl _ _ w.heap.size _ _ _ _ rfl HO.out Tryz.underlying155 rfl Tryz.infoPiece) rfl ⟨HK.out, _, rfl, by rw [HE.out]; exact ⟨rfl, j, HRD.out⟩⟩
    | false =>
      rw [hL] at HL HAU
      cases hN : isNu d with
      | true =>
        have HE : Hid (y = .error (1, j)) := by
          show _ = _
          have h := HY2.out
          rw [hN] at h
          simp at h
          exact h
        rw [hN] at HN
        clear hN hL HY2 HAU
        go_wp2_with fail
        go_quiet (first | (go_at_call 73; exact Calls.quiet_of_same (HL.out _)) | (go_at_call 20; exact Calls.quiet_of_same (HN.out _)))
        go_wp2_with fail
        refine (wrong_any _ rb m j g 1 (j : Int) 1 j rfl rfl (HR2.out nq).rd).mono ?_
        rintro en w3 ⟨rfl, hk3, hr3⟩
        have H3 := hide ((HR2.out nq).on hrb hk3 hr3)
        clear hk3 hr3
        obtain ⟨⟨r0, r1, r2, r3, r4⟩, rf⟩ := H3.out.cells
        have z0 := rf 0
        have z1 := rf 1
        have z2 := rf 2
        have z3 := rf 3
        have z4 := rf 4
        obtain ⟨Z, eZ, hk, ho, hrd, hkb⟩ := H3.out.store hrb (.bool false) (.slice none 0 0) (.int .i64 0) (.slice none 0 0) (.int .u8 0)
        have HO := hide ho
        have HK := hide hk
        have HRD := hide hrd
        have HKB := hide hkb
        clear rf hk ho hrd hkb
        go_wp2
        refine bodyPost_ret (v := pieceV false (.slice none 0 0) 0 (.slice none 0 0) 0) (results_cell_row (p := 2) (ty := 155) rfl _ _ w.heap.size _ _ _ _ rfl HO.out Tryz.underlying155 rfl Tryz.infoPiece) rfl ⟨HK.out, _, rfl, by rw [HE.out]; exact ⟨rfl, j, HRD.out⟩⟩
      | false =>
        have HE : Hid (y = .ok (between d d, j + 1)) := by
          show _ = _
          have h := HY2.out
          rw [HAU.out, hN] at h
          simp at h
          exact h
        rw [hN] at HN
        clear hN hL HY2 HAU
        go_wp2_with fail
        go_quiet (first | (go_at_call 73; exact Calls.quiet_of_same (HL.out _)) | (go_at_call 20; exact Calls.quiet_of_same (HN.out _)))
        obtain ⟨W3, HW3⟩ : ∃ W3, Hid (W3 = w2.drewN nq) := ⟨_, hide rfl⟩
        rw [← HW3.out]
        have h3 : AtS w rb m j g 0 0 W3 := by rw [HW3.out]; exact HR2.out nq
        obtain ⟨k0, k1, _, _, _⟩ := five_cells h3.rd
        have kf := not_frozen (k := 1) h3.rd
        obtain ⟨W4, HW4⟩ : ∃ W4, Hid (W4 = W3.setCell ⟨rb, 1, none⟩ (.int .i64 ((j : Int) + 1))) := ⟨_, hide rfl⟩
        have h4 : AtS w rb m (j + 1) g 0 0 W4 := by rw [HW4.out]; exact h3.on hrb (.setT _ _) (h3.rd.on _ (by go_num))
        have H4 := hide h4
        have hwr : IntKind.i64.wrap ((j : Int) + 1) = (j : Int) + 1 := wrap_i64_small _ (by omega) (by omega)
        have eW4 := HW4.out.symm
        clear h3 HW3 HW4 h4 c0 c1
        go_wp2
        clear eW4 k0 k1 kf
        obtain ⟨d0, d1, _, _, _⟩ := five_cells H4.out.rd
        refine wp_region_free 11 312 Tryz.mixed2 rfl (by decide +kernel) Grow (fun _ _ _ => Grow.trans) (Grow.refl _)
          (fun i v w' => match i with
            | 0 => v = .pointer (some ⟨rb, 0, none⟩)
            | 1 => v = .pointer (some ⟨rb, 0, none⟩)
            | 2 => v = .pointer (some ⟨rb, 0, none⟩)
            | 3 => v = .string (bs m)
            | 4 => v = .pointer (some ⟨rb, 0, none⟩)
            | 5 => v = .pointer (some ⟨rb, 0, none⟩)
            | 6 => v = .pointer (some ⟨rb, 1, none⟩)
            | 7 => v = .int .i64 ((j + 1 : Nat) : Int)
            | 8 => v = .int .i64 (j : Int)
            | 9 => v = .int .u8 (d.toNat : Int)
            | _ => ∃ b, W4.heap.size ≤ b ∧ v = .slice (some ⟨b, 0, none⟩) 256 256 ∧ boolsAt w' b (boolRow (between d d)))
          (fun i v w1 w2 h hg => ?_) (fun _ _ => False) (fun _ _ _ _ h => h.elim) (fun i hi o ho a2 w5 hG hoff hdep => ?_) (fun vals w5 hG hvals => ?_)
        · match i, h with
          | 0, h => exact h
          | 1, h => exact h
          | 2, h => exact h
          | 3, h => exact h
          | 4, h => exact h
          | 5, h => exact h
          | 6, h => exact h
          | 7, h => exact h
          | 8, h => exact h
          | 9, h => exact h
          | k + 10, h =>
            obtain ⟨b, h1, h2, h3⟩ := h
            exact ⟨b, h1, h2, hg.get h3⟩
        · have hg5 : Grow W4 w5 := hG.undrew
          obtain ⟨d0, d1, _, _, _⟩ := five_cells (H4.out.rd.grow hg5)
          match i, hi with
          | 0, _ =>
            obtain rfl := Option.some.inj ho
            have o0 := hoff 0 (by decide +kernel)
            simp at o0
            simp [opYields, go_sem, o0]
            exact Grow.refl _
          | 1, _ =>
            obtain rfl := Option.some.inj ho
            have d0 := hdep 0 (by decide +kernel)
            simp [slotOf, dstOf] at d0
            simp [opYields, go_sem, d0]
            exact Grow.refl _
          | 2, _ =>
            obtain rfl := Option.some.inj ho
            have d1 := hdep 1 (by decide +kernel)
            simp [slotOf, dstOf] at d1
            simp [opYields, go_sem, d1]
            exact Grow.refl _
          | 3, _ =>
            obtain rfl := Option.some.inj ho
            have d2 := hdep 2 (by decide +kernel)
            simp [slotOf, dstOf] at d2
            simp [opYields, go_sem, d2, d0]
            exact Grow.refl _
          | 4, _ =>
            obtain rfl := Option.some.inj ho
            have o0 := hoff 0 (by decide +kernel)
            simp at o0
            simp [opYields, go_sem, o0]
            exact Grow.refl _
          | 5, _ =>
            obtain rfl := Option.some.inj ho
            have d4 := hdep 4 (by decide +kernel)
            simp [slotOf, dstOf] at d4
            simp [opYields, go_sem, d4]
            exact Grow.refl _
          | 6, _ =>
            obtain rfl := Option.some.inj ho
            have d5 := hdep 5 (by decide +kernel)
            simp [slotOf, dstOf] at d5
            simp [opYields, go_sem, d5]
            exact Grow.refl _
          | 7, _ =>
            obtain rfl := Option.some.inj ho
            have d6 := hdep 6 (by decide +kernel)
            simp [slotOf, dstOf] at d6
            simp [opYields, go_sem, d6, d1]
            exact Grow.refl _
          | 8, _ =>
            obtain rfl := Option.some.inj ho
            have d7 := hdep 7 (by decide +kernel)
            simp [slotOf, dstOf] at d7
            simp [opYields, go_sem, d7]
            exact ⟨Grow.refl _, wrap_i64_small _ (by omega) (by omega)⟩
          | 9, _ =>
            obtain rfl := Option.some.inj ho
            have d3 := hdep 3 (by decide +kernel)
            simp [slotOf, dstOf] at d3
            have d8 := hdep 8 (by decide +kernel)
            simp [slotOf, dstOf] at d8
            simp [opYields, go_sem, d3, d8]
            simp [hlt, hd]
            exact Grow.refl _
          | 10, _ =>
            obtain rfl := Option.some.inj ho
            have d9 := hdep 9 (by decide +kernel)
            simp [slotOf, dstOf] at d9
            simp [opYields, go_sem, d9]
            refine (alone_any d w5).mono ?_
            rintro e w6 ⟨rfl, hg6, hb6⟩
            exact ⟨hg6, _, hG.undrew.size, rfl, hb6⟩
          | k + 11, h => exact absurd h (by omega)
        · obtain ⟨b, hb, v10, hbb⟩ := hvals 10 (by omega)
          clear hvals
          have hg5 : Grow W4 w5 := hG.undrew
          have H5 := hide (H4.out.grow hrb hg5)
          have hs4 := H4.out.size
          have HBB := hide hbb
          clear hG hg5 hbb d0 d1
          obtain ⟨⟨r0, r1, r2, r3, r4⟩, rf⟩ := H5.out.cells
          have z0 := rf 0
          have z1 := rf 1
          have z2 := rf 2
          have z3 := rf 3
          have z4 := rf 4
          obtain ⟨Z, eZ, hk, ho, hrd, hkb⟩ := H5.out.store hrb (.bool false) (.slice (some ⟨b, 0, none⟩) 256 256) (.int .i64 0) (.slice none 0 0) (.int .u8 0)
          have HO := hide ho
          have HK := hide hk
          have HRD := hide hrd
          have HKB := hide hkb
          clear rf hk ho hrd hkb
          have HB2 : Hid (boolsAt Z b (boolRow (between d d))) := hide (HBB.out.keep (HKB.out _ (by omega)))
          simp [over, dstOf, Act.put, v10]
          go_wp2
          refine bodyPost_ret (v := pieceV false (.slice (some ⟨b, 0, none⟩) 256 256) 0 (.slice none 0 0) 0) (results_cell_row (p := 2) (ty := 155) rfl _ _ w.heap.size _ _ _ _ rfl HO.out Tryz.underlying155 rfl Tryz.infoPiece) rfl ⟨HK.out, _, rfl, by rw [HE.out]; exact ⟨_, rfl, ⟨_, rfl, by omega, HB2.out⟩, HRD.out⟩⟩
  · have hne : ((j : Int) == m.length) = true := by rw [beq_iff_eq]; omega
    have HE : Hid (y = .error (1, j)) := by
      show _ = _
      have h := HY.out
      rw [List.getElem?_eq_none_iff.2 (by omega)] at h
      exact Option.some.inj h
    clear HY
    go_wp2_with fail
    go_quiet (fail)
    go_wp2_with fail
    refine (wrong_any _ rb m j g 1 (j : Int) 1 j rfl rfl (HR2.out nq).rd).mono ?_
    rintro en w3 ⟨rfl, hk3, hr3⟩
    have H3 := hide ((HR2.out nq).on hrb hk3 hr3)
    clear hk3 hr3
    obtain ⟨⟨r0, r1, r2, r3, r4⟩, rf⟩ := H3.out.cells
    have z0 := rf 0
    have z1 := rf 1
    have z2 := rf 2
    have z3 := rf 3
    have z4 := rf 4
    obtain ⟨Z, eZ, hk, ho, hrd, hkb⟩ := H3.out.store hrb (.bool false) (.slice none 0 0) (.int .i64 0) (.slice none 0 0) (.int .u8 0)
    have HO := hide ho
    have HK := hide hk
    have HRD := hide hrd
    have HKB := hide hkb
    clear rf hk ho hrd hkb
    go_wp2
    refine bodyPost_ret (v := pieceV false (.slice none 0 0) 0 (.slice none 0 0) 0) (results_cell_row (p := 2) (ty := 155) rfl _ _ w.heap.size _ _ _ _ rfl HO.out Tryz.underlying155 rfl Tryz.infoPiece) rfl ⟨HK.out, _, rfl, by rw [HE.out]; exact ⟨rfl, j, HRD.out⟩⟩

end Go.Proofs.YtndpjdmfkhjiiaaGreatDoor
