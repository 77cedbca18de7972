/- The document's own graph of a mask in memory: a piece, with its sign. -/
import Derived.Laws.OwnMore
import Derived.Test.YtaijakomgkageaaProg
import Derived.Test.YtaijakomgkageaaKit
import Derived.Test.YtaijakomgkageaaMPar
import Derived.Test.YtaijakomgkageaaMLay
import Derived.Test.YtaijakomgkageaaMWlk
import Derived.Test.YtaijakomgkageaaReg
import Derived.Test.YtaijakomgkageaaReg2
import Derived.Test.YtaijakomgkageaaMFrom
import Derived.Test.YtaijakomgkageaaMPrA
import Derived.Test.YtaijakomgkageaaMPrB
import Derived.Test.YtaijakomgkageaaMPrK
import Derived.Test.YtaijakomgkageaaMGra
import Derived.Test.YtaijakomgkageaaMRdA
import Derived.Test.YtaijakomgkageaaMRdB
import Derived.Test.YtaijakomgkageaaMRdC
import Derived.Test.YtaijakomgkageaaMRdF
import Derived.Test.YtaijakomgkageaaMRdI
import Derived.Test.YtaijakomgkageaaMRdJ
import Derived.Test.YtaijakomgkageaaMLyA
import Derived.BigQuiet
set_option linter.unusedVariables false
set_option linter.unusedSimpArgs false
namespace Go.Proofs.Ytaijakomgkageaa
open Go.RowKit
attribute [local go_sem] bs_size bs_toList bs_append bs_get bs_extract

/-! ### how many spots -/
theorem layPiece_len {sg room : Nat} {once : Nat → Nat → List Kind × Nat} (h : ∀ b nx, (once b nx).1.length ≤ room) (b nx : Nat) : (layPiece sg once b nx).1.length ≤ room + 1 := by
  have h1 := h b nx
  have h2 := h (b + 1) b
  unfold layPiece
  split
  · simp; omega
  · split
    · simp; omega
    · split
      · simp; omega
      · omega
theorem layK_len : ∀ (T : Tr) (b nx : Nat), (layK T b nx).1.length ≤ szK T
  | .nil, b, nx => by simp [layK]
  | .set s sg rest, b, nx => by
    have h1 := layK_len rest b nx
    have h2 := layPiece_len (sg := sg) (room := 1) (once := fun b nx => ([.take s nx], b)) (fun _ _ => by simp) (b + (layK rest b nx).1.length) (layK rest b nx).2
    simp only [layK, szK, List.length_append]
    omega
  | .grp n rows sg rest, b, nx => by
    have h1 := layK_len rest b nx
    have h2 := layPiece_len (sg := sg) (room := szK rows + 2) (once := layGroup n (layK rows)) (fun b nx => by
      have := layK_len rows (b + 1) b
      simp [layGroup]
      omega) (b + (layK rest b nx).1.length) (layK rest b nx).2
    simp only [layK, szK, List.length_append]
    omega
  | .row r .nil, b, nx => by
    have := layK_len r b nx
    simp only [layK, szK]
    omega
  | .row r (.set s sg rest), b, nx => by
    have h1 := layK_len (.set s sg rest) b nx
    have h2 := layK_len r (b + (layK (.set s sg rest) b nx).1.length) nx
    rw [layK]
    · simp only [szK, List.length_append, List.length_cons, List.length_nil] at h1 h2 ⊢
      omega
    · intro h
      cases h
  | .row r (.grp n rows sg rest), b, nx => by
    have h1 := layK_len (.grp n rows sg rest) b nx
    have h2 := layK_len r (b + (layK (.grp n rows sg rest) b nx).1.length) nx
    rw [layK]
    · simp only [szK, List.length_append, List.length_cons, List.length_nil] at h1 h2 ⊢
      omega
    · intro h
      cases h
  | .row r (.row a c), b, nx => by
    have h1 := layK_len (.row a c) b nx
    have h2 := layK_len r (b + (layK (.row a c) b nx).1.length) nx
    rw [layK]
    · simp only [szK, List.length_append, List.length_cons, List.length_nil] at h1 h2 ⊢
      omega
    · intro h
      cases h

/-- A piece without its sign. -/
def onceF : Item → Nat → Nat → List Kind × Nat
  | .set s _ => fun b nx => ([.take s nx], b)
  | .grp n rows _ => layGroup n (layK rows)
def szI : Item → Nat
  | .set _ _ => 2
  | .grp _ rows _ => 3 + szK rows
theorem onceF_len : ∀ (it : Item) (b nx : Nat), (onceF it b nx).1.length + 1 ≤ szI it
  | .set s sg, b, nx => by simp [onceF, szI]
  | .grp n rows sg, b, nx => by
    have := layK_len rows (b + 1) b
    simp [onceF, layGroup, szI]
    omega
theorem layK_on (it : Item) (T : Tr) (b nx : Nat) : layK (it.on T) b nx = ((layK T b nx).1 ++ (layPiece it.sig (onceF it) (b + (layK T b nx).1.length) (layK T b nx).2).1, (layPiece it.sig (onceF it) (b + (layK T b nx).1.length) (layK T b nx).2).2) := by
  cases it <;> rfl
theorem szK_on (it : Item) (T : Tr) : szK (it.on T) = szI it + szK T := by cases it <;> simp [Item.on, szK, szI]
theorem itemAt.frame {B : Nat} {w w' : World} (k : LFrame B w w') {it : Item} {xs : List Value} (h : itemAt w (fun _ => True) it xs) : itemAt w' (fun _ => True) it xs := by
  cases it with
  | set s sg =>
    obtain ⟨b, h1, h2, h3⟩ := h
    exact ⟨b, h1, h2, h3.frame k⟩
  | grp n rows sg =>
    obtain ⟨rv, kk, ys, h1, h2, h3, h4⟩ := h
    exact ⟨rv, kk, ys, h1, own_frame h2 k (by decide) (by decide), h3, h4.frame k⟩

/-- Rows are laid out. -/
def RLay (T : Tr) : Prop :=
  ∀ (w : World) (B lb : Nat) (L : List Kind) (v : Value) (k : Nat) (ys : List Value) (nx : Nat), layAt w B lb L → w.ownsRow 0 86 1 v k ys → cellsAt w (fun _ => True) T ys → L.length + szK T ≤ 100000 →
    Calls Try.prog 27 #[.pointer (some ⟨lb, 0, none⟩), v, .int .i64 nx] w fun e w' => e = .returned (.int .i64 ((layK T L.length nx).2 : Nat)) ∧ LFrame B w w' ∧ layAt w' B lb (L ++ (layK T L.length nx).1)
/-- What laying does: it answers where it begins. -/
def lpost (w : World) (B lb : Nat) (L : List Kind) (y : List Kind × Nat) (e : Ending) (w' : World) : Prop := e = .returned (.int .i64 (y.2 : Nat)) ∧ LFrame B w w' ∧ layAt w' B lb (L ++ y.1)

/-- While a group's rows are laid, and its first mark. -/
def onceJ (B lb : Nat) (w2 : World) (L1 L2 L3 : List Kind) (b7 b9 : Bool) (w' : World) : Prop :=
  LFrame B w2 w' ∧ (b7 = false → layAt w' B lb L1) ∧ (b7 = true → b9 = false → layAt w' B lb L2) ∧ (b9 = true → layAt w' B lb L3)
theorem laid_piece (w : World) (x0 x1 x2 x3 x4 : Value) (t : TypeId) : ∃ W : World, w.alloc (.cells #[x0, x1, x2, x3, x4] t) = W ∧ Grow w W ∧ W.heap[w.heap.size]? = some (.cells #[x0, x1, x2, x3, x4] t (0, 0)) := ⟨_, rfl, (Grow.refl _).alloc _, heap_alloc_new _ _⟩

set_option maxRecDepth 20000 in
set_option maxHeartbeats 4000000 in
theorem once_any (w : World) (B lb : Nat) (L : List Kind) (it : Item) (gr : Bool) (so : Option Addr) (sn sc : Nat) (nm : Int) (ro : Option Addr) (rn rc : Nat) (sg : Int) (nx : Nat) (hl : layAt w B lb L)
    (hi : itemAt w (fun _ => True) it (pieceC5 gr (.slice so sn sc) nm (.slice ro rn rc) sg)) (hR : ∀ n rows k, it = .grp n rows k → RLay rows) (hL : L.length + szI it ≤ 100001) :
    Calls Try.prog 52 #[.pointer (some ⟨lb, 0, none⟩), .agg #[.bool gr, .slice so sn sc, .int .i64 nm, .slice ro rn rc, .int .u8 sg], .int .i64 nx] w (lpost w B lb L (onceF it L.length nx)) := by
  obtain ⟨W, eW, gW, hW⟩ := laid_piece w (.bool gr) (.slice so sn sc) (.int .i64 nm) (.slice ro rn rc) (.int .u8 sg) 88
  have hlW := hl.grow gW
  have hiW := hi.frame (.grow (B := B) gW)
  obtain ⟨c0, c1, c2, c3, c4⟩ := five_cells hW
  have HL := hide hlW
  have HGW := hide gW
  have HW := hide hW
  cases it with
  | set s sg' =>
    have hgr := item_set hiW
    subst hgr
    obtain ⟨b, hb1, -, hb2⟩ := hiW
    simp only [pieceC5, List.cons.injEq] at hb1
    obtain ⟨-, e1, -⟩ := hb1
    cases e1
    have HP := hide (put_any W B lb L (.take s nx) 1 nx 0 0 (some ⟨b, 0, none⟩) 256 256 hlW ⟨b, rfl, hb2⟩ (by simp [szI] at hL; omega))
    clear hl hi hlW hb2 hW gW hR
    go_enter Try.func52, Try.ntmps52
    go_wp2_with fail
    refine HP.out.mono ?_
    rintro e w2 ⟨rfl, hf, hl2⟩
    have HF := hide hf
    have HL2 := hide hl2
    clear hf hl2
    go_wp2
    go_ret
    exact ⟨rfl, (LFrame.grow HGW.out).trans HF.out, HL2.out⟩
  | grp n rows sg' =>
    obtain ⟨hgr, kq, yq, hown, _, hcq⟩ := item_grp hiW
    subst hgr
    obtain ⟨rv', kk, yy, hb1, -⟩ := hiW
    simp only [pieceC5, List.cons.injEq, Value.int.injEq, true_and] at hb1
    obtain ⟨-, enm, -⟩ := hb1
    subst enm
    obtain ⟨n1, hn1⟩ : ∃ n1 : Nat, n + 1 = n1 := ⟨_, rfl⟩
    rw [hn1] at eW c2 HW ⊢
    have HR := hide (hR n rows sg' rfl)
    simp only [szI] at hL
    have HP := hide (put_any W B lb L (.mark (2 * n + 1) nx) 4 nx 0 (n1 : Nat) none 0 0 hlW (by show _ = _; rw [if_neg (by omega), show (2 * n + 1) / 2 + 1 = n1 by omega]) (by omega))
    have HO := hide hown
    have HC := hide hcq
    clear hl hi hlW hW gW hR hown hcq
    go_enter Try.func52, Try.ntmps52
    go_wp2_with fail
    refine HP.out.mono ?_
    rintro e w2 ⟨rfl, hf, hl2⟩
    have HF := hide hf
    have HL2 := hide hl2
    have HW2 := hide (hf.kind _ _ _ _ HW.out (by decide) (by decide))
    clear hf hl2 c0 c1 c2 c3 c4 eW
    obtain ⟨X, HX⟩ : ∃ X, Hid (layK rows (L.length + 1) L.length = X) := ⟨_, hide rfl⟩
    have hXl : X.1.length ≤ szK rows := by rw [← HX.out]; exact layK_len _ _ _
    obtain ⟨L1, hL1⟩ : ∃ L1, L ++ [.mark (2 * n + 1) nx] = L1 := ⟨_, rfl⟩
    have hL1n : L1.length = L.length + 1 := by rw [← hL1]; simp
    rw [hL1] at HL2
    have HRC : Hid (∀ W3, LFrame B w2 W3 → layAt W3 B lb L1 → Calls Try.prog 27 #[.pointer (some ⟨lb, 0, none⟩), .slice ro rn rc, .int .i64 L.length] W3 fun e w' => e = .returned (.int .i64 (X.2 : Nat)) ∧ LFrame B W3 w' ∧ layAt w' B lb (L1 ++ X.1)) := hide fun W3 hf3 hl3 => by
      have h := HR.out W3 B lb _ (.slice ro rn rc) kq yq L.length hl3 (own_frame (own_frame HO.out HF.out (by decide) (by decide)) hf3 (by decide) (by decide)) ((HC.out.frame HF.out).frame hf3) (by omega)
      rw [hL1n, HX.out] at h
      exact h
    obtain ⟨L2, hL2⟩ : ∃ L2, L1 ++ X.1 = L2 := ⟨_, rfl⟩
    have hL2n : L2.length = L.length + 1 + X.1.length := by rw [← hL2, List.length_append, hL1n]
    rw [hL2] at HRC
    obtain ⟨L3, hL3⟩ : ∃ L3, L2 ++ [.mark (2 * n) X.2] = L3 := ⟨_, rfl⟩
    have HPC : Hid (∀ W3, layAt W3 B lb L2 → Calls Try.prog 28 #[.pointer (some ⟨lb, 0, none⟩), .agg #[.int .i64 3, .int .i64 (X.2 : Nat), .int .i64 0, .int .i64 (n1 : Nat), .slice none 0 0]] W3 fun e w' => e = .returned (.int .i64 (L2.length : Nat)) ∧ LFrame B W3 w' ∧ layAt w' B lb L3) := hide fun W3 hl3 => by
      have h := put_any W3 B lb _ (.mark (2 * n) X.2) 3 X.2 0 (n1 : Nat) none 0 0 hl3 (by show _ = _; rw [if_pos (by omega), show 2 * n / 2 + 1 = n1 by omega]) (by omega)
      rw [hL3] at h
      exact h
    have HLL : Hid (L3 = L ++ (layGroup n (layK rows) L.length nx).1 ∧ L2.length = (layGroup n (layK rows) L.length nx).2) := by
      refine hide ⟨?_, ?_⟩
      · rw [← hL3, ← hL2, ← hL1]
        unfold layGroup
        rw [HX.out]
        simp
      · rw [hL2n]
        unfold layGroup
        rw [HX.out]
    clear hL1 hL2 hL3
    go_wp2_with fail
    refine wp_region_state 10 33 Try.mixed2 rfl (by decide +kernel) (fun Ls vals w' => onceJ B lb w2 L1 L2 L3 (Ls 7) (Ls 9) w')
      (fun Ls vals h => ?_)
      (fun i v => match i with
        | 0 => v = .pointer (some ⟨lb, 0, none⟩)
        | 1 => v = .pointer (some ⟨w.heap.size, 2, none⟩)
        | 2 => v = .int .i64 (n1 : Nat)
        | 3 => v = .pointer (some ⟨lb, 0, none⟩)
        | 4 => v = .pointer (some ⟨w.heap.size, 3, none⟩)
        | 5 => v = .slice ro rn rc
        | 6 => v = .int .i64 L.length
        | 7 => v = .int .i64 (X.2 : Nat)
        | 8 => v = .agg #[.int .i64 3, .int .i64 (X.2 : Nat), .int .i64 0, .int .i64 (n1 : Nat), .slice none 0 0]
        | _ => v = .int .i64 (L2.length : Nat))
      (fun _ _ => False) (fun _ _ _ _ h => h.elim) (fun i hi o ho a w3 Ls vals hLi hLc hLe hJ hoff hval hdep => ?_) (fun vals w3 Ls hLs hJ hvals => ?_)
    · simp only [h]
      exact ⟨⟨rfl, rfl, rfl, Nat.le_refl _, fun _ _ _ => rfl, fun _ _ _ _ h _ _ => h⟩, fun _ => HL2.out.grow ⟨rfl, rfl, rfl, Nat.le_refl _, fun _ _ => rfl⟩, fun h => (nomatch h), fun h => (nomatch h)⟩
    · obtain ⟨b0, b1, b2, b3, b4⟩ := five_cells (hJ.1.kind _ _ _ _ HW2.out (by decide) (by decide))
      match i, hi with
      | 0, _ =>
        obtain rfl := Option.some.inj ho
        have o0 := hoff 0 (by decide +kernel)
        simp at o0
        simp [opYields, go_sem, o0]
        exact hJ
      | 1, _ =>
        obtain rfl := Option.some.inj ho
        have o4 := hoff 4 (by decide +kernel)
        simp at o4
        simp [opYields, go_sem, o4]
        exact hJ
      | 2, _ =>
        obtain rfl := Option.some.inj ho
        have d1 := hdep 1 (by decide +kernel)
        simp [slotOf, dstOf] at d1
        simp [opYields, go_sem, d1, b2]
        exact hJ
      | 3, _ =>
        obtain rfl := Option.some.inj ho
        have o0 := hoff 0 (by decide +kernel)
        simp at o0
        simp [opYields, go_sem, o0]
        exact hJ
      | 4, _ =>
        obtain rfl := Option.some.inj ho
        have o4 := hoff 4 (by decide +kernel)
        simp at o4
        simp [opYields, go_sem, o4]
        exact hJ
      | 5, _ =>
        obtain rfl := Option.some.inj ho
        have d4 := hdep 4 (by decide +kernel)
        simp [slotOf, dstOf] at d4
        simp [opYields, go_sem, d4, b3]
        exact hJ
      | 6, _ =>
        obtain rfl := Option.some.inj ho
        have o7 := hoff 7 (by decide +kernel)
        simp at o7
        simp [opYields, go_sem, o7]
        exact hJ
      | 7, _ =>
        have h9 : Ls 9 = false := by
          cases h9 : Ls 9 with
          | false => rfl
          | true =>
            have h8 := hLc 9 h9 8 (by decide +kernel)
            have := hLc 8 h8 7 (by decide +kernel)
            rw [hLi] at this
            cases this
        obtain rfl := Option.some.inj ho
        have d3 := hdep 3 (by decide +kernel)
        have d5 := hdep 5 (by decide +kernel)
        have d6 := hdep 6 (by decide +kernel)
        simp [slotOf, dstOf] at d3 d5 d6
        simp [opYields, go_sem, d3, d5, d6]
        refine (HRC.out w3 hJ.1 (hJ.2.1 hLi)).mono ?_
        rintro e w4 ⟨rfl, hf4, hl4⟩
        rw [h9]
        refine ⟨⟨hJ.1.trans hf4, fun h => (nomatch h), fun _ _ => hl4, fun h => (nomatch h)⟩, ?_⟩
        rfl
      | 8, _ =>
        obtain rfl := Option.some.inj ho
        have d2 := hdep 2 (by decide +kernel)
        simp [slotOf, dstOf] at d2
        have d7 := hdep 7 (by decide +kernel)
        simp [slotOf, dstOf] at d7
        simp [opYields, go_sem, d2, d7]
        exact hJ
      | 9, _ =>
        have h7 : Ls 7 = true := by
          have h8 := hLe 8 (by decide +kernel)
          exact hLc 8 h8 7 (by decide +kernel)
        obtain rfl := Option.some.inj ho
        have d0 := hdep 0 (by decide +kernel)
        have d8 := hdep 8 (by decide +kernel)
        simp [slotOf, dstOf] at d0 d8
        simp [opYields, go_sem, d0, d8]
        refine (HPC.out w3 (hJ.2.2.1 h7 hLi)).mono ?_
        rintro e w4 ⟨rfl, hf4, hl4⟩
        rw [h7]
        refine ⟨⟨hJ.1.trans hf4, fun h => (nomatch h), fun _ h => (nomatch h), fun _ => hl4⟩, ?_⟩
        rfl
      | q + 10, h => exact absurd h (by omega)
    · have h9 := hJ.2.2.2 (hLs 9 (by omega))
      have v9 := hvals 9 (by omega)
      simp only at v9
      have HF3 := hide hJ.1
      have HL3 := hide h9
      clear hvals hJ h9
      simp [over, dstOf, Act.put, v9]
      go_wp2
      go_ret
      refine ⟨?_, ((LFrame.grow HGW.out).trans HF.out).trans HF3.out, ?_⟩
      · rw [HLL.out.2]; rfl
      · rw [HLL.out.1] at HL3; exact HL3.out

end Go.Proofs.Ytaijakomgkageaa
