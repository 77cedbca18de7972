/- 3 texts in one. -/
import Derived.Laws.OwnMore
import Derived.Test.YtndpjdmfkhjiiaaGreatDoorProg
import Derived.Test.YtndpjdmfkhjiiaaGreatDoorK06d19db
import Derived.Test.YtndpjdmfkhjiiaaGreatDoorKf4a3d8c
import Derived.Test.YtndpjdmfkhjiiaaGreatDoorKd196569
import Derived.Test.YtndpjdmfkhjiiaaGreatDoorK93a5441
import Derived.Test.YtndpjdmfkhjiiaaGreatDoorKab9fbe2
import Derived.Test.YtndpjdmfkhjiiaaGreatDoorKf9caae4
import Derived.Test.YtndpjdmfkhjiiaaGreatDoorK98fb42d
import Derived.Test.YtndpjdmfkhjiiaaGreatDoorK34ee0da
import Derived.Test.YtndpjdmfkhjiiaaGreatDoorKd333600
import Derived.Test.YtndpjdmfkhjiiaaGreatDoorKa44af40
import Derived.Test.YtndpjdmfkhjiiaaGreatDoorK05d8bbe
import Derived.BigQuiet
import Derived.Test.YtndpjdmfkhjiiaaGreatDoorK43598eb
set_option linter.unusedVariables false
set_option linter.unusedSimpArgs false
namespace Go.Proofs.YtndpjdmfkhjiiaaGreatDoor
open Go.RowKit
attribute [local go_sem] bs_size bs_toList bs_append bs_get bs_extract
/-! ### how many spots -/
theorem layPiece_len {sg room : Nat} {once : Nat → Nat → List Kind × Nat} (h : ∀ b nx, (once b nx).1.length ≤ room) (b nx : Nat) : (layPiece sg once b nx).1.length ≤ room + 1 := by
 have h1 := h b nx
 have h2 := h (b + 1) b
 unfold layPiece
 split
 ·
  simp; omega
 ·
  split
  ·
   simp; omega
  ·
   split
   ·
    simp; omega
   ·
    omega
theorem layK_len : ∀ (T : Tr) (b nx : Nat), (layK T b nx).1.length ≤ szK T
 | .nil, b, nx => by simp [layK]
 | .set s sg rest, b, nx => by
  have h1 := layK_len rest b nx
  have h2 := layPiece_len (sg := sg) (room := 1) (once := fun b nx => ([.take s nx], b)) (fun _ _ => by simp) (b + (layK rest b nx).1.length) (layK rest b nx).2
  simp only [layK, szK, List.length_append]
  omega
 | .grp n rows sg rest, b, nx => by
  have h1 := layK_len rest b nx
  have h2 := layPiece_len (sg := sg) (room := szK rows + 2) (once := layGroup n (layK rows)) (fun b nx => by
   have := layK_len rows (b + 1) b
   simp [layGroup]
   omega) (b + (layK rest b nx).1.length) (layK rest b nx).2
  simp only [layK, szK, List.length_append]
  omega
 | .row r .nil, b, nx => by
  have := layK_len r b nx
  simp only [layK, szK]
  omega
 | .row r (.set s sg rest), b, nx => by
  have h1 := layK_len (.set s sg rest) b nx
  have h2 := layK_len r (b + (layK (.set s sg rest) b nx).1.length) nx
  rw [layK]
  ·
   simp only [szK, List.length_append, List.length_cons, List.length_nil] at h1 h2 ⊢
   omega
  ·
   intro h
   cases h
 | .row r (.grp n rows sg rest), b, nx => by
  have h1 := layK_len (.grp n rows sg rest) b nx
  have h2 := layK_len r (b + (layK (.grp n rows sg rest) b nx).1.length) nx
  rw [layK]
  ·
   simp only [szK, List.length_append, List.length_cons, List.length_nil] at h1 h2 ⊢
   omega
  ·
   intro h
   cases h
 | .row r (.row a c), b, nx => by
  have h1 := layK_len (.row a c) b nx
  have h2 := layK_len r (b + (layK (.row a c) b nx).1.length) nx
  rw [layK]
  ·
   simp only [szK, List.length_append, List.length_cons, List.length_nil] at h1 h2 ⊢
   omega
  ·
   intro h
   cases h
/-- A piece without its sign. -/
def onceF : Item → Nat → Nat → List Kind × Nat
 | .set s _ => fun b nx => ([.take s nx], b)
 | .grp n rows _ => layGroup n (layK rows)
def szI : Item → Nat
 | .set _ _ => 2
 | .grp _ rows _ => 3 + szK rows
theorem onceF_len : ∀ (it : Item) (b nx : Nat), (onceF it b nx).1.length + 1 ≤ szI it
 | .set s sg, b, nx => by simp [onceF, szI]
 | .grp n rows sg, b, nx => by
  have := layK_len rows (b + 1) b
  simp [onceF, layGroup, szI]
  omega
theorem layK_on (it : Item) (T : Tr) (b nx : Nat) : layK (it.on T) b nx = ((layK T b nx).1 ++ (layPiece it.sig (onceF it) (b + (layK T b nx).1.length) (layK T b nx).2).1, (layPiece it.sig (onceF it) (b + (layK T b nx).1.length) (layK T b nx).2).2) := by
 cases it <;> rfl
theorem szK_on (it : Item) (T : Tr) : szK (it.on T) = szI it + szK T := by cases it <;> simp [Item.on, szK, szI]
theorem itemAt.frame {B : Nat} {w w' : World} (k : LFrame B w w') {it : Item} {xs : List Value} (h : itemAt w (fun _ => True) it xs) : itemAt w' (fun _ => True) it xs := by
 cases it with
 | set s sg =>
  obtain ⟨b, h1, h2, h3⟩ := h
  exact ⟨b, h1, h2, h3.frame k⟩
 | grp n rows sg =>
  obtain ⟨rv, kk, ys, h1, h2, h3, h4⟩ := h
  exact ⟨rv, kk, ys, h1, own_frame h2 k (by decide) (by decide), h3, h4.frame k⟩
/-- Rows are laid out. -/
def RLay (T : Tr) : Prop :=
 ∀ (w : World) (B lb : Nat) (L : List Kind) (v : Value) (k : Nat) (ys : List Value) (nx : Nat), layAt w B lb L → w.ownsRow 0 153 1 v k ys → cellsAt w (fun _ => True) T ys → L.length + szK T ≤ 100000 →
  Calls Tryz.prog 78 #[.pointer (some ⟨lb, 0, none⟩), v, .int .i64 nx] w fun e w' => e = .returned (.int .i64 ((layK T L.length nx).2 : Nat)) ∧ LFrame B w w' ∧ layAt w' B lb (L ++ (layK T L.length nx).1)
/-- What laying does: it answers where it begins. -/
def lpost (w : World) (B lb : Nat) (L : List Kind) (y : List Kind × Nat) (e : Ending) (w' : World) : Prop := e = .returned (.int .i64 (y.2 : Nat)) ∧ LFrame B w w' ∧ layAt w' B lb (L ++ y.1)
/-- While a group's rows are laid, and its first mark. -/
def onceJ (B lb : Nat) (w2 : World) (L1 L2 L3 : List Kind) (b7 b9 : Bool) (w' : World) : Prop :=
 LFrame B w2 w' ∧ (b7 = false → layAt w' B lb L1) ∧ (b7 = true → b9 = false → layAt w' B lb L2) ∧ (b9 = true → layAt w' B lb L3)
theorem laid_piece (w : World) (x0 x1 x2 x3 x4 : Value) (t : TypeId) : ∃ W : World, w.alloc (.cells #[x0, x1, x2, x3, x4] t) = W ∧ Grow w W ∧ W.heap[w.heap.size]? = some (.cells #[x0, x1, x2, x3, x4] t (0, 0)) := ⟨_, rfl, (Grow.refl _).alloc _, heap_alloc_new _ _⟩
set_option maxRecDepth 20000 in
set_option maxHeartbeats 4000000 in
theorem once_any (w : World) (B lb : Nat) (L : List Kind) (it : Item) (gr : Bool) (so : Option Addr) (sn sc : Nat) (nm : Int) (ro : Option Addr) (rn rc : Nat) (sg : Int) (nx : Nat) (hl : layAt w B lb L)
  (hi : itemAt w (fun _ => True) it (pieceC5 gr (.slice so sn sc) nm (.slice ro rn rc) sg)) (hR : ∀ n rows k, it = .grp n rows k → RLay rows) (hL : L.length + szI it ≤ 100001) :
  Calls Tryz.prog 127 #[.pointer (some ⟨lb, 0, none⟩), .agg #[.bool gr, .slice so sn sc, .int .i64 nm, .slice ro rn rc, .int .u8 sg], .int .i64 nx] w (lpost w B lb L (onceF it L.length nx)) := by
 obtain ⟨W, eW, gW, hW⟩ := laid_piece w (.bool gr) (.slice so sn sc) (.int .i64 nm) (.slice ro rn rc) (.int .u8 sg) 155
 have hlW := hl.grow gW
 have hiW := hi.frame (.grow (B := B) gW)
 obtain ⟨c0, c1, c2, c3, c4⟩ := five_cells hW
 have HL := hide hlW
 have HGW := hide gW
 have HW := hide hW
 cases it with
 | set s sg' =>
  have hgr := item_set hiW
  subst hgr
  obtain ⟨b, hb1, -, hb2⟩ := hiW
  simp only [pieceC5, List.cons.injEq] at hb1
  obtain ⟨-, e1, -⟩ := hb1
  cases e1
  have HP := hide (put_any W B lb L (.take s nx) 1 nx 0 0 (some ⟨b, 0, none⟩) 256 256 hlW ⟨b, rfl, hb2⟩ (by simp [szI] at hL; omega))
  clear hl hi hlW hb2 hW gW hR
  go_enter Tryz.func127, Tryz.ntmps127
  go_wp2_with fail
  refine HP.out.mono ?_
  rintro e w2 ⟨rfl, hf, hl2⟩
  have HF := hide hf
  have HL2 := hide hl2
  clear hf hl2
  go_wp2
  go_ret
  exact ⟨rfl, (LFrame.grow HGW.out).trans HF.out, HL2.out⟩
 | grp n rows sg' =>
  obtain ⟨hgr, kq, yq, hown, _, hcq⟩ := item_grp hiW
  subst hgr
  obtain ⟨rv', kk, yy, hb1, -⟩ := hiW
  simp only [pieceC5, List.cons.injEq, Value.int.injEq, true_and] at hb1
  obtain ⟨-, enm, -⟩ := hb1
  subst enm
  obtain ⟨n1, hn1⟩ : ∃ n1 : Nat, n + 1 = n1 := ⟨_, rfl⟩
  rw [hn1] at eW c2 HW ⊢
  have HR := hide (hR n rows sg' rfl)
  simp only [szI] at hL
  have HP := hide (put_any W B lb L (.mark (2 * n + 1) nx) 4 nx 0 (n1 : Nat) none 0 0 hlW (by show _ = _; rw [if_neg (by omega), show (2 * n + 1) / 2 + 1 = n1 by omega]) (by omega))
  have HO := hide hown
  have HC := hide hcq
  clear hl hi hlW hW gW hR hown hcq
  go_enter Tryz.func127, Tryz.ntmps127
  go_wp2_with fail
  refine HP.out.mono ?_
  rintro e w2 ⟨rfl, hf, hl2⟩
  have HF := hide hf
  have HL2 := hide hl2
  have HW2 := hide (hf.kind _ _ _ _ HW.out (by decide) (by decide))
  clear hf hl2 c0 c1 c2 c3 c4 eW
  obtain ⟨X, HX⟩ : ∃ X, Hid (layK rows (L.length + 1) L.length = X) := ⟨_, hide rfl⟩
  have hXl : X.1.length ≤ szK rows := by rw [← HX.out]; exact layK_len _ _ _
  obtain ⟨L1, hL1⟩ : ∃ L1, L ++ [.mark (2 * n + 1) nx] = L1 := ⟨_, rfl⟩
  have hL1n : L1.length = L.length + 1 := by rw [← hL1]; simp
  rw [hL1] at HL2
  have HRC : Hid (∀ W3, LFrame B w2 W3 → layAt W3 B lb L1 → Calls Tryz.prog 78 #[.pointer (some ⟨lb, 0, none⟩), .slice ro rn rc, .int .i64 L.length] W3 fun e w' => e = .returned (.int .i64 (X.2 : Nat)) ∧ LFrame B W3 w' ∧ layAt w' B lb (L1 ++ X.1)) := hide fun W3 hf3 hl3 => by
   have h := HR.out W3 B lb _ (.slice ro rn rc) kq yq L.length hl3 (own_frame (own_frame HO.out HF.out (by decide) (by decide)) hf3 (by decide) (by decide)) ((HC.out.frame HF.out).frame hf3) (by omega)
   rw [hL1n, HX.out] at h
   exact h
  obtain ⟨L2, hL2⟩ : ∃ L2, L1 ++ X.1 = L2 := ⟨_, rfl⟩
  have hL2n : L2.length = L.length + 1 + X.1.length := by rw [← hL2, List.length_append, hL1n]
  rw [hL2] at HRC
  obtain ⟨L3, hL3⟩ : ∃ L3, L2 ++ [.mark (2 * n) X.2] = L3 := ⟨_, rfl⟩
  have HPC : Hid (∀ W3, layAt W3 B lb L2 → Calls Tryz.prog 79 #[.pointer (some ⟨lb, 0, none⟩), .agg #[.int .i64 3, .int .i64 (X.2 : Nat), .int .i64 0, .int .i64 (n1 : Nat), .slice none 0 0]] W3 fun e w' => e = .returned (.int .i64 (L2.length : Nat)) ∧ LFrame B W3 w' ∧ layAt w' B lb L3) := hide fun W3 hl3 => by
   have h := put_any W3 B lb _ (.mark (2 * n) X.2) 3 X.2 0 (n1 : Nat) none 0 0 hl3 (by show _ = _; rw [if_pos (by omega), show 2 * n / 2 + 1 = n1 by omega]) (by omega)
   rw [hL3] at h
   exact h
  have HLL : Hid (L3 = L ++ (layGroup n (layK rows) L.length nx).1 ∧ L2.length = (layGroup n (layK rows) L.length nx).2) := by
   refine hide ⟨?_, ?_⟩
   ·
    rw [← hL3, ← hL2, ← hL1]
    unfold layGroup
    rw [HX.out]
    simp
   ·
    rw [hL2n]
    unfold layGroup
    rw [HX.out]
  clear hL1 hL2 hL3
  go_wp2_with fail
  refine wp_region_state 10 33 Tryz.mixed2 rfl (by decide +kernel) (fun Ls vals w' => onceJ B lb w2 L1 L2 L3 (Ls 7) (Ls 9) w')
   (fun Ls vals h => ?_)
   (fun i v => match i with
    | 0 => v = .pointer (some ⟨lb, 0, none⟩)
    | 1 => v = .pointer (some ⟨w.heap.size, 2, none⟩)
    | 2 => v = .int .i64 (n1 : Nat)
    | 3 => v = .pointer (some ⟨lb, 0, none⟩)
    | 4 => v = .pointer (some ⟨w.heap.size, 3, none⟩)
    | 5 => v = .slice ro rn rc
    | 6 => v = .int .i64 L.length
    | 7 => v = .int .i64 (X.2 : Nat)
    | 8 => v = .agg #[.int .i64 3, .int .i64 (X.2 : Nat), .int .i64 0, .int .i64 (n1 : Nat), .slice none 0 0]
    | _ => v = .int .i64 (L2.length : Nat))
   (fun _ _ => False) (fun _ _ _ _ h => h.elim) (fun i hi o ho a w3 Ls vals hLi hLc hLe hJ hoff hval hdep => ?_) (fun vals w3 Ls hLs hJ hvals => ?_)
  ·
   simp only [h]
   exact ⟨⟨rfl, rfl, rfl, Nat.le_refl _, fun _ _ _ => rfl, fun _ _ _ _ h _ _ => h⟩, fun _ => HL2.out.grow ⟨rfl, rfl, rfl, Nat.le_refl _, fun _ _ => rfl⟩, fun h => (nomatch h), fun h => (nomatch h)⟩
  ·
   obtain ⟨b0, b1, b2, b3, b4⟩ := five_cells (hJ.1.kind _ _ _ _ HW2.out (by decide) (by decide))
   match i, hi with
   | 0, _ =>
    obtain rfl := Option.some.inj ho
    have o0 := hoff 0 (by decide +kernel)
    simp at o0
    simp [opYields, go_sem, o0]
    exact hJ
   | 1, _ =>
    obtain rfl := Option.some.inj ho
    have o4 := hoff 4 (by decide +kernel)
    simp at o4
    simp [opYields, go_sem, o4]
    exact hJ
   | 2, _ =>
    obtain rfl := Option.some.inj ho
    have d1 := hdep 1 (by decide +kernel)
    simp [slotOf, dstOf] at d1
    simp [opYields, go_sem, d1, b2]
    exact hJ
   | 3, _ =>
    obtain rfl := Option.some.inj ho
    have o0 := hoff 0 (by decide +kernel)
    simp at o0
    simp [opYields, go_sem, o0]
    exact hJ
   | 4, _ =>
    obtain rfl := Option.some.inj ho
    have o4 := hoff 4 (by decide +kernel)
    simp at o4
    simp [opYields, go_sem, o4]
    exact hJ
   | 5, _ =>
    obtain rfl := Option.some.inj ho
    have d4 := hdep 4 (by decide +kernel)
    simp [slotOf, dstOf] at d4
    simp [opYields, go_sem, d4, b3]
    exact hJ
   | 6, _ =>
    obtain rfl := Option.some.inj ho
    have o7 := hoff 7 (by decide +kernel)
    simp at o7
    simp [opYields, go_sem, o7]
    exact hJ
   | 7, _ =>
    have h9 : Ls 9 = false := by
     cases h9 : Ls 9 with
     | false => rfl
     | true =>
      have h8 := hLc 9 h9 8 (by decide +kernel)
      have := hLc 8 h8 7 (by decide +kernel)
      rw [hLi] at this
      cases this
    obtain rfl := Option.some.inj ho
    have d3 := hdep 3 (by decide +kernel)
    have d5 := hdep 5 (by decide +kernel)
    have d6 := hdep 6 (by decide +kernel)
    simp [slotOf, dstOf] at d3 d5 d6
    simp [opYields, go_sem, d3, d5, d6]
    refine (HRC.out w3 hJ.1 (hJ.2.1 hLi)).mono ?_
    rintro e w4 ⟨rfl, hf4, hl4⟩
    rw [h9]
    refine ⟨⟨hJ.1.trans hf4, fun h => (nomatch h), fun _ _ => hl4, fun h => (nomatch h)⟩, ?_⟩
    rfl
   | 8, _ =>
    obtain rfl := Option.some.inj ho
    have d2 := hdep 2 (by decide +kernel)
    simp [slotOf, dstOf] at d2
    have d7 := hdep 7 (by decide +kernel)
    simp [slotOf, dstOf] at d7
    simp [opYields, go_sem, d2, d7]
    exact hJ
   | 9, _ =>
    have h7 : Ls 7 = true := by
     have h8 := hLe 8 (by decide +kernel)
     exact hLc 8 h8 7 (by decide +kernel)
    obtain rfl := Option.some.inj ho
    have d0 := hdep 0 (by decide +kernel)
    have d8 := hdep 8 (by decide +kernel)
    simp [slotOf, dstOf] at d0 d8
    simp [opYields, go_sem, d0, d8]
    refine (HPC.out w3 (hJ.2.2.1 h7 hLi)).mono ?_
    rintro e w4 ⟨rfl, hf4, hl4⟩
    rw [h7]
    refine ⟨⟨hJ.1.trans hf4, fun h => (nomatch h), fun _ h => (nomatch h), fun _ => hl4⟩, ?_⟩
    rfl
   | q + 10, h => exact absurd h (by omega)
  ·
   have h9 := hJ.2.2.2 (hLs 9 (by omega))
   have v9 := hvals 9 (by omega)
   simp only at v9
   have HF3 := hide hJ.1
   have HL3 := hide h9
   clear hvals hJ h9
   simp [over, dstOf, Act.put, v9]
   go_wp2
   go_ret
   refine ⟨?_, ((LFrame.grow HGW.out).trans HF.out).trans HF3.out, ?_⟩
   ·
    rw [HLL.out.2]; rfl
   ·
    rw [HLL.out.1] at HL3; exact HL3.out
theorem layAt_fork {w : World} {B lb : Nat} {M : List Kind} {k a y : Nat} (h : layAt w B lb M) (hk : M[k]? = some (.fork [a, y])) :
  ∃ sb cp, w.heap[lb]? = some (.cells #[.slice (some ⟨sb, 0, none⟩) M.length cp] 117 (0, 0)) ∧ w.cell? ⟨sb, k * 5 + 1, none⟩ = some (.int .i64 a) ∧ w.frozen? ⟨sb, k * 5 + 1, none⟩ = false ∧
   ∀ x : Nat, layAt (w.setCell ⟨sb, k * 5 + 1, none⟩ (.int .i64 x)) B lb (M.set k (.fork [x, y])) ∧ LFrame B w (w.setCell ⟨sb, k * 5 + 1, none⟩ (.int .i64 x)) := by
 obtain ⟨sv, xs, h1, h2, h3, h4⟩ := h
 have hlt := (List.getElem?_eq_some_iff.1 hk).1
 obtain ⟨sb, cp, rfl, hsb, hcell⟩ := own_first h3 (by omega)
 obtain ⟨hl, hg⟩ := spotsAt_get h4
 obtain ⟨ys, h5, h6⟩ := hg k _ hk
 obtain rfl : ys = _ := h5
 have hge := (h3.lt sb rfl).1
 have hne : sb ≠ lb := by
  rintro rfl
  exact own_apart h3 h1 (by decide) rfl
 have hfr : ∀ x : Nat, LFrame B w (w.setCell ⟨sb, k * 5 + 1, none⟩ (.int .i64 x)) := fun x => by
  refine ⟨rfl, rfl, rfl, by simp [World.setCell], fun q h7 h8 => set_apart _ (by omega), fun q c t fr h7 h8 h9 => ?_⟩
  refine (set_apart _ ?_).trans h7
  rintro rfl
  exact own_apart h3 h7 (fun e => h9 e.symm) rfl
 refine ⟨sb, cp, h1, hcell _ _ ((h6 1 (by omega)).trans rfl), own_free h3, fun x => ⟨⟨_, xs.set (k * 5 + 1) (.int .i64 x), (set_apart _ (fun e => hne e.symm)).trans h1, h2, ?_, (spotsAt_fork h4 hk).frame (hfr x)⟩, hfr x⟩⟩
 rw [List.length_set]
 exact own_set h3 _ (by rw [hl]; omega)
set_option maxRecDepth 20000 in
set_option maxHeartbeats 4000000 in
theorem lpiece_any (w : World) (B lb : Nat) (L : List Kind) (it : Item) (gr : Bool) (so : Option Addr) (sn sc : Nat) (nm : Int) (ro : Option Addr) (rn rc : Nat) (sg nx : Nat) (hsg : it.sig = sg) (hl : layAt w B lb L)
  (hi : itemAt w (fun _ => True) it (pieceC5 gr (.slice so sn sc) nm (.slice ro rn rc) sg)) (hR : ∀ n rows k, it = .grp n rows k → RLay rows) (hL : L.length + szI it ≤ 100000) :
  Calls Tryz.prog 113 #[.pointer (some ⟨lb, 0, none⟩), .agg #[.bool gr, .slice so sn sc, .int .i64 nm, .slice ro rn rc, .int .u8 sg], .int .i64 nx] w (lpost w B lb L (layPiece sg (onceF it) L.length nx)) := by
 obtain ⟨W, eW, gW, hW⟩ := laid_piece w (.bool gr) (.slice so sn sc) (.int .i64 nm) (.slice ro rn rc) (.int .u8 sg) 155
 have hlW := hl.grow gW
 have hiW := hi.frame (.grow (B := B) gW)
 obtain ⟨c0, c1, c2, c3, c4⟩ := five_cells hW
 have HL := hide hlW
 have HGW : Hid (LFrame B w W) := hide (.grow gW)
 have HW := hide hW
 have HI := hide hiW
 have HR := hide hR
 have hol := onceF_len it
 clear hl hi hlW hiW hW gW hR
 by_cases h63 : sg = 63
 ·
  have e63 : ((sg : Int) == 63) = true := by simp [h63]
  obtain ⟨X, HX⟩ : ∃ X, Hid (onceF it L.length nx = X) := ⟨_, hide rfl⟩
  have hXl : X.1.length + 1 ≤ szI it := by rw [← HX.out]; exact hol _ _
  have HE : Hid (layPiece sg (onceF it) L.length nx = (X.1 ++ [.fork [X.2, nx]], L.length + X.1.length)) := by
   show _ = _
   unfold layPiece
   rw [if_pos h63, HX.out]
  have HO := hide (once_any W B lb L it gr so sn sc nm ro rn rc sg nx HL.out HI.out HR.out (by omega))
  rw [HX.out] at HO
  clear h63 hol
  go_enter Tryz.func113, Tryz.ntmps113
  go_wp2_with fail
  refine HO.out.mono ?_
  rintro e w2 ⟨rfl, hf, hl2⟩
  have HF := hide hf
  have HP := hide (put_any w2 B lb (L ++ X.1) (.fork [X.2, nx]) 2 X.2 nx 0 none 0 0 hl2 rfl (by rw [List.length_append]; omega))
  clear hf hl2 eW
  go_wp2_with fail
  refine HP.out.mono ?_
  rintro e w3 ⟨rfl, hf, hl3⟩
  have HF3 := hide hf
  have HL3 := hide hl3
  clear hf hl3
  go_wp2
  go_ret
  refine ⟨?_, (HGW.out.trans HF.out).trans HF3.out, ?_⟩
  ·
   rw [HE.out]; exact ret_int (by simp)
  ·
   rw [HE.out]
   have h := HL3.out
   rw [List.append_assoc] at h
   exact h
 ·
  have e63 : ((sg : Int) == 63) = false := by simp; omega
  by_cases hst : sg = 42 ∨ sg = 43
  ·
   obtain ⟨X, HX⟩ : ∃ X, Hid (onceF it (L.length + 1) L.length = X) := ⟨_, hide rfl⟩
   have hXl : X.1.length + 1 ≤ szI it := by rw [← HX.out]; exact hol _ _
   obtain ⟨bg, hbg⟩ : ∃ bg, decide (sg = 43) = bg := ⟨_, rfl⟩
   have HE : Hid (layPiece sg (onceF it) L.length nx = (.fork [X.2, nx] :: X.1, if bg then X.2 else L.length)) := by
    show _ = _
    unfold layPiece
    rw [if_neg h63, HX.out, ← hbg]
    rcases hst with rfl | rfl
    ·
     simp
    ·
     simp
   have HP := hide (put_any W B lb L (.fork [0, nx]) 2 0 nx 0 none 0 0 HL.out rfl (by omega))
   obtain ⟨L1, hL1⟩ : ∃ L1, L ++ [Kind.fork [0, nx]] = L1 := ⟨_, rfl⟩
   have hL1n : L1.length = L.length + 1 := by rw [← hL1]; simp
   rw [hL1] at HP
   have HONCE : Hid (∀ w2, LFrame B W w2 → layAt w2 B lb L1 → Calls Tryz.prog 127 #[.pointer (some ⟨lb, 0, none⟩), .agg #[.bool gr, .slice so sn sc, .int .i64 nm, .slice ro rn rc, .int .u8 sg], .int .i64 L.length] w2 (lpost w2 B lb L1 X)) := hide fun w2 hf hl2 => by
    have h := once_any w2 B lb L1 it gr so sn sc nm ro rn rc sg L.length hl2 (HI.out.frame hf) HR.out (by omega)
    rw [hL1n, HX.out] at h
    exact h
   have hget : (L1 ++ X.1)[L.length]? = some (.fork [0, nx]) := by rw [← hL1]; simp
   have hset : (L1 ++ X.1).set L.length (.fork [X.2, nx]) = L ++ (.fork [X.2, nx] :: X.1) := by rw [← hL1]; simp
   have HGET := hide hget
   have HSET := hide hset
   have hlen1 : (L1 ++ X.1).length = L.length + 1 + X.1.length := by rw [List.length_append, hL1n]
   have e42 : ((sg : Int) == 42) = !bg := by
    rw [← hbg]
    rcases hst with rfl | rfl <;> rfl
   have e43 : ((sg : Int) == 43) = bg := by
    rw [← hbg]
    rcases hst with rfl | rfl <;> rfl
   clear h63 hol hget hset hbg hst hL1
   cases bg
   all_goals
    simp only [Bool.not_false, Bool.not_true] at e42
    go_enter Tryz.func113, Tryz.ntmps113
    go_wp2_with fail
    refine HP.out.mono ?_
    rintro e w2 ⟨rfl, hf, hl2⟩
    have HF2 := hide hf
    have HL2 := hide hl2
    obtain ⟨b0, b1, b2, b3, b4⟩ := five_cells (hf.kind _ _ _ _ HW.out (by decide) (by decide))
    clear hf hl2 eW
    go_wp2_with fail
    refine (HONCE.out w2 HF2.out HL2.out).mono ?_
    rintro e w3 ⟨rfl, hf, hl3⟩
    have HF3 := hide hf
    obtain ⟨sb, scp, hlb, hcc, hfz, hset3⟩ := layAt_fork hl3 HGET.out
    rw [hlen1] at hlb
    have k0 := cell_of_one hlb
    obtain ⟨hl4, hf4⟩ := hset3 X.2
    rw [HSET.out] at hl4
    obtain ⟨Q, eQ⟩ : ∃ Q, w3.setCell ⟨sb, L.length * 5 + 1, none⟩ (.int .i64 (X.2 : Nat)) = Q := ⟨_, rfl⟩
    rw [eQ] at hl4 hf4
    have HL4 := hide hl4
    have HF4 := hide hf4
    obtain ⟨q0, q1, q2, q3, q4⟩ := five_cells (hf4.kind _ _ _ _ (hf.kind _ _ _ _ (HF2.out.kind _ _ _ _ HW.out (by decide) (by decide)) (by decide) (by decide)) (by decide) (by decide))
    have hlti : (L.length : Int) < ((L.length + 1 + X.1.length : Nat) : Int) := by omega
    have hltn : L.length < L.length + 1 + X.1.length := by omega
    clear hf hl3 hlb hset3 hl4 hf4 b0 b1 b2 b3 b4 c0 c1 c2 c3 c4
    go_wp2
    go_ret
    refine ⟨?_, ((HGW.out.trans HF2.out).trans HF3.out).trans HF4.out, ?_⟩
    ·
     rw [HE.out]; rfl
    ·
     rw [HE.out]; exact HL4.out
  ·
   have e42 : ((sg : Int) == 42) = false := by simp; omega
   have e43 : ((sg : Int) == 43) = false := by simp; omega
   obtain ⟨X, HX⟩ : ∃ X, Hid (onceF it L.length nx = X) := ⟨_, hide rfl⟩
   have HE : Hid (layPiece sg (onceF it) L.length nx = X) := by
    show _ = _
    unfold layPiece
    rw [if_neg h63, if_neg (fun h => hst (.inl h)), if_neg (fun h => hst (.inr h)), HX.out]
   have HO := hide (once_any W B lb L it gr so sn sc nm ro rn rc sg nx HL.out HI.out HR.out (by omega))
   rw [HX.out] at HO
   clear h63 hol hst
   go_enter Tryz.func113, Tryz.ntmps113
   go_wp2_with fail
   refine HO.out.mono ?_
   rintro e w2 ⟨rfl, hf, hl2⟩
   have HF := hide hf
   have HL2 := hide hl2
   clear hf hl2 eW
   go_wp2
   go_ret
   refine ⟨?_, HGW.out.trans HF.out, ?_⟩
   ·
    rw [HE.out]; rfl
   ·
    rw [HE.out]; exact HL2.out
/-- Rows from one on; none yet. -/
def layD (rs : List Tr) (b nx : Nat) : List Kind × Nat := if rs = [] then ([], 0) else layK (rowsOf rs .nil) b nx
theorem layD_one (r : Tr) (b nx : Nat) : layD [r] b nx = layK r b nx := rfl
theorem wf_rowsOf : ∀ {rs : List Tr}, rs ≠ [] → (∀ r ∈ rs, wf false r) → wf true (rowsOf rs .nil)
 | [], h, _ => absurd rfl h
 | [r], _, h => h r (by simp)
 | r :: x :: rs, _, h => wf_row (h r (by simp)) (wf_rowsOf (rs := x :: rs) (by simp) fun y hy => h y (List.mem_cons_of_mem _ hy))
theorem layD_cons {r : Tr} {rs : List Tr} (hn : rs ≠ []) (h : ∀ r ∈ rs, wf false r) (b nx : Nat) : layD (r :: rs) b nx =
  ((layD rs b nx).1 ++ ((layK r (b + (layD rs b nx).1.length) nx).1 ++ [.fork [(layK r (b + (layD rs b nx).1.length) nx).2, (layD rs b nx).2]]), b + (layD rs b nx).1.length + (layK r (b + (layD rs b nx).1.length) nx).1.length) := by
 unfold layD
 rw [if_neg (by simp), if_neg hn]
 exact layK_row (wf_rowsOf hn h) b nx
theorem layD_len (rs : List Tr) (b nx : Nat) : (layD rs b nx).1.length ≤ szK (rowsOf rs .nil) := by
 unfold layD
 split
 ·
  simp
 ·
  exact layK_len _ _ _
theorem szK_rows (r : Tr) (rs : List Tr) : szK (rowsOf (r :: rs) .nil) = szK r + 1 + szK (rowsOf rs .nil) := rfl
theorem szK_rows_drop (rs : List Tr) : ∀ j, szK (rowsOf (rs.drop j) .nil) ≤ szK (rowsOf rs .nil) := by
 induction rs with
 | nil => intro j; simp
 | cons r rs ih =>
  intro j
  cases j with
  | zero => exact Nat.le_refl _
  | succ j =>
   have := ih j
   rw [szK_rows]
   simp only [List.drop_succ_cons]
   omega
theorem szK_row (it : Item) (l : List Item) : szK (rowT (it :: l) .nil) = szI it + szK (rowT l .nil) := szK_on it _
theorem szK_row_drop (l : List Item) : ∀ q, szK (rowT (l.drop q) .nil) ≤ szK (rowT l .nil) := by
 induction l with
 | nil => intro q; simp
 | cons it l ih =>
  intro q
  cases q with
  | zero => exact Nat.le_refl _
  | succ q =>
   have := ih q
   rw [szK_row]
   simp only [List.drop_succ_cons]
   omega
theorem rowT_lenK : ∀ l : List Item, l.length ≤ szK (rowT l .nil)
 | [] => Nat.zero_le _
 | it :: l => by
  have := rowT_lenK l
  rw [szK_row, List.length_cons]
  cases it <;> simp only [szI] <;> omega
theorem rowsOf_lenK : ∀ rs : List Tr, rs.length ≤ szK (rowsOf rs .nil)
 | [] => Nat.zero_le _
 | r :: rs => by
  have := rowsOf_lenK rs
  rw [szK_rows, List.length_cons]
  omega
theorem drop_get {α : Type} {l : List α} {q : Nat} {x : α} (h : l[q]? = some x) : l.drop q = x :: l.drop (q + 1) := by
 obtain ⟨h1, rfl⟩ := List.getElem?_eq_some_iff.1 h
 exact List.drop_eq_getElem_cons h1
set_option maxRecDepth 20000 in
set_option maxHeartbeats 8000000 in
theorem rlay_any : ∀ (n : Nat) (T : Tr), sz T ≤ n → wf true T → RLay T := by
 intro n
 induction n using Nat.strongRecOn with
 | _ n ih =>
  intro T hn hwf w B lb L v k ys nx hl hv hc hL
  obtain ⟨rs, hrs, rfl, hparts⟩ := (wf_parts T).2 hwf
  obtain ⟨hlen, hrows⟩ := cellsAt_rows hc
  have hyk := own_len hv
  have hrk : k = rs.length := by omega
  subst hrk
  have hrl := rowsOf_lenK rs
  have hk0 : 0 < rs.length := List.length_pos_iff.2 hrs
  obtain ⟨vb, vc, rfl, hvb, _⟩ := own_first hv hk0
  have HVC : Hid (∀ W, LFrame B w W → ∀ i u, ys[i]? = some u → W.cell? ⟨vb, i, none⟩ = some u) := hide fun W hf i u hu => own_cell (own_frame hv hf (by decide) (by decide)) hu
  have HIH : Hid (∀ T', sz T' < sz (rowsOf rs .nil) → wf true T' → RLay T') := hide fun T' h1 h2 => ih (sz T') (by omega) T' (Nat.le_refl _) h2
  have HP := hide hparts
  have HR := hide hrows
  have HL0 := hide hl
  have hne : Hid (rs ≠ []) := hide hrs
  have HFIN : Hid (layK (rowsOf rs .nil) L.length nx = layD rs L.length nx) := hide (by unfold layD; rw [if_neg hrs])
  clear ih hc hv hparts hrows hl hrs hlen hyk hn
  rw [HFIN.out]
  go_enter Tryz.func78, Tryz.ntmps78
  go_wp2
  go_loopw [7, 8] (fun av iv W => ∃ (j : Nat) (z : Int), j ≤ rs.length ∧ iv = .int .i64 z ∧ z = (j : Int) - 1 ∧ (∃ a : Int, av = .int .i64 a ∧ Hid (a = if j = rs.length then (-1 : Int) else (((layD (rs.drop j) L.length nx).2 : Nat) : Int))) ∧ Hid (LFrame B w W) ∧ Hid (layAt W B lb (L ++ (layD (rs.drop j) L.length nx).1))) (fun _ iv _ => (intOf iv + 1).toNat)
  case atStart =>
   refine ⟨rs.length, (rs.length : Int) - 1, Nat.le_refl _, by go_num, rfl, ⟨-1, rfl, hide (by simp)⟩, hide (.refl _ _), ?_⟩
   rw [List.drop_length]
   exact hide (by simpa [layD] using HL0.out)
  case round =>
   obtain ⟨j, z, hj, rfl, hz, ⟨a, rfl, HA⟩, HF, HLY⟩ := hrel
   rename World => W
   cases j with
   | zero =>
    have hz1 : z = -1 := by omega
    subst hz1
    have ha : a = ((layD rs L.length nx).2 : Nat) := by
     have h := HA.out
     rw [if_neg (by omega)] at h
     exact h
    subst ha
    clear hz HA
    go_wp2
    go_ret
    exact ⟨rfl, HF.out, HLY.out⟩
   | succ j =>
    have hz1 : z = (j : Int) := by omega
    subst hz1
    clear hz
    have hji : (j : Int) < (rs.length : Int) := by omega
    obtain ⟨r, hr⟩ : ∃ r, rs[j]? = some r := ⟨_, List.getElem?_eq_getElem (by omega)⟩
    obtain ⟨rv, hyi, kr, zs, hrow, _, hcr⟩ := HR.out j r hr
    obtain ⟨hwr, hsr⟩ := HP.out r (List.mem_of_getElem? hr)
    obtain ⟨l, rfl, hits⟩ := (wf_parts r).1 hwr
    obtain ⟨hzl, hitem⟩ := cellsAt_item hcr
    have hzk := own_len hrow
    have hkl : kr = l.length := by omega
    subst hkl
    obtain ⟨ro, rc, rfl⟩ := own_shape hrow
    have HI := hide hitem
    have HITS := hide hits
    have HROW := hide hrow
    have hrc := HVC.out W HF.out j _ hyi
    have HYI := hide hyi
    have hdrop := drop_get hr
    have hs1 := szK_rows_drop rs j
    rw [hdrop, szK_rows] at hs1
    have hs2 := layD_len (rs.drop (j + 1)) L.length nx
    obtain ⟨X, HX⟩ : ∃ X, Hid (layD (rs.drop (j + 1)) L.length nx = X) := ⟨_, hide rfl⟩
    rw [HX.out] at hs2 HLY HA
    obtain ⟨L1, hL1⟩ : ∃ L1, L ++ X.1 = L1 := ⟨_, rfl⟩
    have hL1n : L1.length = L.length + X.1.length := by rw [← hL1, List.length_append]
    rw [hL1] at HLY
    have HL1 := hide hL1
    have HDROP := hide hdrop
    have hll := rowT_lenK l
    clear hits hitem hrow hcr hyi hzl hzk hwr hL1 hdrop
    go_wp2
    go_loopw [9, 10] (fun rowv kv W2 => ∃ (q : Nat) (z2 : Int), q ≤ l.length ∧ kv = .int .i64 z2 ∧ z2 = (q : Int) - 1 ∧ rowv = .int .i64 ((layK (rowT (l.drop q) .nil) L1.length nx).2 : Nat) ∧ Hid (LFrame B w W2) ∧ Hid (layAt W2 B lb (L1 ++ (layK (rowT (l.drop q) .nil) L1.length nx).1))) (fun _ kv _ => (intOf kv + 1).toNat)
    case atStart =>
     refine ⟨l.length, (l.length : Int) - 1, Nat.le_refl _, by go_num, rfl, ?_, HF, ?_⟩
     ·
      rw [List.drop_length]; rfl
     ·
      rw [List.drop_length]
      exact hide (by simpa [rowT, layK] using HLY.out)
    case round =>
     obtain ⟨q, z2, hq, rfl, hz2, rfl, HF2, HLY2⟩ := hrel
     rename World => W2
     have hrc2 := HVC.out W2 HF2.out j _ HYI.out
     cases q with
     | zero =>
      have hz3 : z2 = -1 := by omega
      subst hz3
      clear hz2
      rw [List.drop_zero] at HLY2 ⊢
      have hlr := layK_len (rowT l .nil) L1.length nx
      obtain ⟨Y, HY⟩ : ∃ Y, Hid (layK (rowT l .nil) L1.length nx = Y) := ⟨_, hide rfl⟩
      rw [HY.out] at HLY2 hlr ⊢
      have hsum : L1.length + Y.1.length ≤ 100000 := by omega
      by_cases hlast : j + 1 = rs.length
      ·
       have hd1 : rs.drop (j + 1) = [] := List.drop_eq_nil_of_le (by omega)
       have hX : X = ([], 0) := by rw [← HX.out, hd1]; rfl
       have ha : a = -1 := by
        have h := HA.out
        rw [if_pos hlast] at h
        exact h
       have HE : Hid (layD (rs.drop j) L.length nx = Y) := by
        rw [HDROP.out, hd1, layD_one, ← HY.out]
        have h := hL1n
        rw [hX] at h
        rw [show L.length = L1.length by simpa using h.symm]
        exact hide rfl
       have HLL : Hid (L1 = L) := by
        have h := HL1.out
        rw [hX] at h
        exact hide (by simpa using h.symm)
       subst ha
       clear hX hd1
       go_wp2
       refine ⟨⟨j, (j : Int) - 1, by omega, by go_num, rfl, ⟨_, rfl, hide (by rw [if_neg (by omega), HE.out])⟩, HF2, by rw [HE.out]; have h := HLY2; rw [HLL.out] at h; exact h⟩, ?_⟩
       simp [intOf]
      ·
       have ha : a = (X.2 : Nat) := by
        have h := HA.out
        rw [if_neg hlast] at h
        exact h
       have hdn : rs.drop (j + 1) ≠ [] := fun e => by have := congrArg List.length e; simp at this; omega
       have HE : Hid (layD (rs.drop j) L.length nx = (X.1 ++ (Y.1 ++ [.fork [Y.2, X.2]]), L1.length + Y.1.length)) := by
        rw [HDROP.out, layD_cons hdn (fun x hx => (HP.out x (List.mem_of_mem_drop hx)).1), HX.out, ← hL1n, HY.out]
        exact hide rfl
       have HPUT := hide (put_any W2 B lb (L1 ++ Y.1) (.fork [Y.2, X.2]) 2 Y.2 X.2 0 none 0 0 HLY2.out rfl (by rw [List.length_append]; omega))
       have hlen2 : (L1 ++ Y.1).length = L1.length + Y.1.length := List.length_append
       rw [hlen2] at HPUT
       subst ha
       clear hdn hL1n hlen2
       go_wp2_with fail
       refine HPUT.out.mono ?_
       rintro e W3 ⟨rfl, hf3, hl3⟩
       have HF3 : Hid (LFrame B w W3) := hide (HF2.out.trans hf3)
       have HL3 : Hid (layAt W3 B lb (L ++ (layD (rs.drop j) L.length nx).1)) := by
        rw [HE.out, ← List.append_assoc, HL1.out, ← List.append_assoc]
        exact hide hl3
       clear hf3 hl3
       go_wp2
       refine ⟨⟨j, (j : Int) - 1, by omega, by go_num, rfl, ⟨_, rfl, hide (by rw [if_neg (by omega), HE.out]; simp)⟩, HF3, HL3⟩, ?_⟩
       simp [intOf]
     | succ q =>
      have hz3 : z2 = (q : Int) := by omega
      subst hz3
      clear hz2
      have hqi : (q : Int) < (l.length : Int) := by omega
      obtain ⟨it, hit⟩ : ∃ it, l[q]? = some it := ⟨_, List.getElem?_eq_getElem (by omega)⟩
      obtain ⟨xs5, hia, hcells⟩ := HI.out q it hit
      obtain ⟨rb, rc', hre, hrb, _⟩ := own_first HROW.out (by omega)
      simp at hre
      obtain ⟨rfl, rfl⟩ := hre
      have hpc : ∀ i, i < 5 → ∀ u, xs5[i]? = some u → W2.cell? ⟨rb, q * 5 + i, none⟩ = some u := fun i hi u hu => own_cell (own_frame HROW.out HF2.out (by decide) (by decide)) ((hcells i hi).trans hu)
      have hiaw := hia.frame HF2.out
      obtain ⟨gr, so, sn, sc, nm, po, pn, pc, rfl⟩ : ∃ gr so sn sc nm po pn pc, xs5 = pieceC5 gr (.slice so sn sc) nm (.slice po pn pc) (it.sig : Nat) := by
       cases it with
       | set s sg =>
        obtain ⟨b, h1, _⟩ := hia
        exact ⟨false, _, _, _, 0, none, 0, 0, h1⟩
       | grp n' rows sg =>
        obtain ⟨rv', kk, yy, h1, h2, _⟩ := hia
        obtain ⟨o3, c3, rfl⟩ := own_shape h2
        exact ⟨true, none, 0, 0, _, o3, kk, c3, h1⟩
      have p0 := hpc 0 (by omega) _ rfl
      rw [Nat.add_zero] at p0
      have p1 := hpc 1 (by omega) _ rfl
      have p2 := hpc 2 (by omega) _ rfl
      have p3 := hpc 3 (by omega) _ rfl
      have p4 := hpc 4 (by omega) _ rfl
      have hdq := drop_get hit
      have hs3 := szK_row_drop l q
      rw [hdq, szK_row] at hs3
      have hs4 := layK_len (rowT (l.drop (q + 1)) .nil) L1.length nx
      obtain ⟨Y, HY⟩ : ∃ Y, Hid (layK (rowT (l.drop (q + 1)) .nil) L1.length nx = Y) := ⟨_, hide rfl⟩
      rw [HY.out] at HLY2 hs4 ⊢
      obtain ⟨sg, hsg⟩ : ∃ sg, it.sig = sg := ⟨_, rfl⟩
      have HNX : Hid (layK (rowT (l.drop q) .nil) L1.length nx = (Y.1 ++ (layPiece sg (onceF it) (L1.length + Y.1.length) Y.2).1, (layPiece sg (onceF it) (L1.length + Y.1.length) Y.2).2)) := by
       rw [hdq]
       show Hid (layK (it.on (rowT (l.drop (q + 1)) .nil)) L1.length nx = _)
       rw [layK_on, HY.out, hsg]
       exact hide rfl
      rw [hsg] at p4 hiaw
      have HPC := hide (lpiece_any W2 B lb (L1 ++ Y.1) it gr so sn sc nm po pn pc sg Y.2 hsg HLY2.out hiaw (fun n' rows k e => by
       subst e
       obtain ⟨h1, h2⟩ := HITS.out n' rows k (List.mem_of_getElem? hit)
       exact HIH.out rows (by omega) h1) (by rw [List.length_append]; omega))
      rw [show (L1 ++ Y.1).length = L1.length + Y.1.length from List.length_append] at HPC
      clear hL1n hpc hia hiaw hcells hdq hsg hit hs3 hs4
      go_wp2_with fail
      refine HPC.out.mono ?_
      rintro e W3 ⟨rfl, hf3, hl3⟩
      have HF3 : Hid (LFrame B w W3) := hide (HF2.out.trans hf3)
      have HL3 := hide hl3
      clear hf3 hl3
      go_wp2
      refine ⟨⟨q, (q : Int) - 1, by omega, by go_num, rfl, by rw [HNX.out], HF3, by rw [HNX.out, ← List.append_assoc]; exact HL3⟩, ?_⟩
      simp [intOf]
end Go.Proofs.YtndpjdmfkhjiiaaGreatDoor
