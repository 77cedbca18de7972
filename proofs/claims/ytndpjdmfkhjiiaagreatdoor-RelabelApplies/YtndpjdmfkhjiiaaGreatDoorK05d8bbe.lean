/- 3 texts in one. -/
import Derived.Laws.OwnMore
import Derived.Test.YtndpjdmfkhjiiaaGreatDoorProg
import Derived.Test.YtndpjdmfkhjiiaaGreatDoorK06d19db
import Derived.Test.YtndpjdmfkhjiiaaGreatDoorKf4a3d8c
import Derived.Test.YtndpjdmfkhjiiaaGreatDoorKd196569
import Derived.Test.YtndpjdmfkhjiiaaGreatDoorK93a5441
import Derived.Test.YtndpjdmfkhjiiaaGreatDoorKab9fbe2
import Derived.Test.YtndpjdmfkhjiiaaGreatDoorKf9caae4
import Derived.Test.YtndpjdmfkhjiiaaGreatDoorK34ee0da
import Derived.Test.YtndpjdmfkhjiiaaGreatDoorKd333600
import Derived.BigQuiet
set_option linter.unusedVariables false
set_option linter.unusedSimpArgs false
namespace Go.Proofs.YtndpjdmfkhjiiaaGreatDoor
open Go.RowKit
attribute [local go_sem] bs_size bs_toList bs_append bs_get bs_extract
/-- A spot's cells. -/
def spotC (k a b n : Int) (sv : Value) : List Value := [.int .i64 k, .int .i64 a, .int .i64 b, .int .i64 n, sv]
def spotAt (w : World) : Kind → List Value → Prop
 | .fin, xs => xs = spotC 0 0 0 0 (.slice none 0 0)
 | .take s nx, xs => ∃ b, xs = spotC 1 nx 0 0 (.slice (some ⟨b, 0, none⟩) 256 256) ∧ boolsAt w b (boolRow s)
 | .fork [x, y], xs => xs = spotC 2 x y 0 (.slice none 0 0)
 | .fork _, xs => False
 | .mark sl nx, xs => xs = spotC (if sl % 2 = 0 then 3 else 4) nx 0 (sl / 2 + 1 : Nat) (.slice none 0 0)
def spotsAt (w : World) : List Kind → List Value → Prop
 | [], xs => xs = []
 | k :: L, xs => ∃ ys l, xs = ys ++ l ∧ spotAt w k ys ∧ spotsAt w L l
/-- What stays while spots are laid: all below a block, and all but spots and layouts. -/
structure LFrame (B : Nat) (w w' : World) : Prop where
 os : w'.os = w.os
 tape : w'.tape = w.tape
 output : w'.output = w.output
 size : w.heap.size ≤ w'.heap.size
 low : ∀ k, k < B → k < w.heap.size → w'.heap[k]? = w.heap[k]?
 kind : ∀ (k : Nat) (c : Array Value) (t : TypeId) (fr : Nat × Nat), w.heap[k]? = some (.cells c t fr) → t ≠ 117 → t ≠ 122 → w'.heap[k]? = some (.cells c t fr)
theorem LFrame.refl (B : Nat) (w : World) : LFrame B w w := ⟨rfl, rfl, rfl, Nat.le_refl _, fun _ _ _ => rfl, fun _ _ _ _ h _ _ => h⟩
theorem LFrame.trans {B : Nat} {a b c : World} (h : LFrame B a b) (k : LFrame B b c) : LFrame B a c :=
 ⟨k.os.trans h.os, k.tape.trans h.tape, k.output.trans h.output, Nat.le_trans h.size k.size, fun i h1 h2 => (k.low i h1 (Nat.lt_of_lt_of_le h2 h.size)).trans (h.low i h1 h2), fun i c t fr h1 h2 h3 => k.kind i c t fr (h.kind i c t fr h1 h2 h3) h2 h3⟩
theorem LFrame.grow {B : Nat} {a b : World} (h : Grow a b) : LFrame B a b := ⟨h.os, h.tape, h.output, h.size, fun k _ h2 => h.block k h2, fun k c t fr h1 _ _ => h.get h1⟩
theorem boolsAt.frame {B : Nat} {w w' : World} {b : Nat} {l : List Bool} (h : boolsAt w b l) (k : LFrame B w w') : boolsAt w' b l := k.kind _ _ _ _ h (by decide) (by decide)
theorem own_frame {B C e size n : Nat} {w w' : World} {v : Value} {xs : List Value} (h : w.ownsRow C e size v n xs) (k : LFrame B w w') (h1 : e ≠ 117) (h2 : e ≠ 122) : w'.ownsRow C e size v n xs := by
 refine own_keep h fun g hg => ?_
 rcases h.2 with ⟨rfl, _⟩ | ⟨b, cap, cur, rfl, _, hb, _⟩
 ·
  cases hg
 ·
  simp [Value.ownBlock] at hg
  subst hg
  rw [hb]
  exact k.kind _ _ _ _ hb h1 h2
theorem cellsAt.frame {B : Nat} {w w' : World} (k : LFrame B w w') : ∀ {T : Tr} {xs : List Value}, cellsAt w (fun _ => True) T xs → cellsAt w' (fun _ => True) T xs
 | .nil, xs, h => h
 | .set s sg rest, xs, h => by
  obtain ⟨b, l, h1, h2, h3, h4⟩ := h
  exact ⟨b, l, h1, h2, h3.frame k, h4.frame k⟩
 | .grp n rows sg rest, xs, h => by
  obtain ⟨rv, kk, ys, l, h1, h2, h3, h4, h5⟩ := h
  exact ⟨rv, kk, ys, l, h1, own_frame h2 k (by decide) (by decide), h3, h4.frame k, h5.frame k⟩
 | .row r rest, xs, h => by
  obtain ⟨v, kk, ys, l, h1, h2, h3, h4, h5⟩ := h
  exact ⟨v, kk, ys, l, h1, own_frame h2 k (by decide) (by decide), h3, h4.frame k, h5.frame k⟩
theorem cellsAt.any {w : World} {A : Nat → Prop} {T : Tr} {xs : List Value} (h : cellsAt w A T xs) : cellsAt w (fun _ => True) T xs := h.keep fun _ _ _ => ⟨trivial, rfl⟩
theorem spotAt.frame {B : Nat} {w w' : World} (k : LFrame B w w') : ∀ {kd : Kind} {xs : List Value}, spotAt w kd xs → spotAt w' kd xs
 | .fin, xs, h => h
 | .take s nx, xs, ⟨b, h1, h2⟩ => ⟨b, h1, h2.frame k⟩
 | .fork [], xs, h => h
 | .fork [x], xs, h => h
 | .fork [x, y], xs, h => h
 | .fork (x :: y :: z :: l), xs, h => h
 | .mark sl nx, xs, h => h
theorem spotsAt.frame {B : Nat} {w w' : World} (k : LFrame B w w') : ∀ {L : List Kind} {xs : List Value}, spotsAt w L xs → spotsAt w' L xs
 | [], xs, h => h
 | kd :: L, xs, h => by
  obtain ⟨ys, l, h1, h2, h3⟩ := h
  exact ⟨ys, l, h1, h2.frame k, h3.frame k⟩
theorem spotAt.length {w : World} : ∀ {kd : Kind} {xs : List Value}, spotAt w kd xs → xs.length = 5
 | .fin, xs, h => by rw [h]; rfl
 | .take s nx, xs, ⟨b, h, _⟩ => by rw [h]; rfl
 | .fork [], xs, h => h.elim
 | .fork [x], xs, h => h.elim
 | .fork [x, y], xs, h => by rw [h]; rfl
 | .fork (x :: y :: z :: l), xs, h => h.elim
 | .mark sl nx, xs, h => by rw [h]; rfl
theorem spotsAt_snoc {w : World} {kd : Kind} {ys : List Value} (hi : spotAt w kd ys) : ∀ {L : List Kind} {xs : List Value}, spotsAt w L xs → spotsAt w (L ++ [kd]) (xs ++ ys)
 | [], xs, h => by
  obtain rfl : xs = [] := h
  exact ⟨ys, [], by simp, hi, rfl⟩
 | x :: L, xs, h => by
  obtain ⟨zs, l, rfl, h1, h2⟩ := h
  exact ⟨zs, l ++ ys, by simp, h1, spotsAt_snoc hi h2⟩
theorem spotsAt_get {w : World} : ∀ {L : List Kind} {xs : List Value}, spotsAt w L xs → xs.length = L.length * 5 ∧ ∀ (k : Nat) (kd : Kind), L[k]? = some kd → ∃ ys, spotAt w kd ys ∧ ∀ j, j < 5 → xs[k * 5 + j]? = ys[j]?
 | [], xs, h => by
  obtain rfl : xs = [] := h
  exact ⟨rfl, fun k it hk => by simp at hk⟩
 | x :: L, xs, h => by
  obtain ⟨zs, r, rfl, h1, h2⟩ := h
  obtain ⟨h3, h4⟩ := spotsAt_get h2
  have hz := h1.length
  refine ⟨by simp [hz, h3]; omega, fun k it hk => ?_⟩
  cases k with
  | zero =>
   simp at hk
   subst hk
   exact ⟨zs, h1, fun j hj => by rw [List.getElem?_append_left (by omega)]; simp⟩
  | succ k =>
   obtain ⟨ys, h5, h6⟩ := h4 k it (by simpa using hk)
   refine ⟨ys, h5, fun j hj => ?_⟩
   rw [List.getElem?_append_right (by omega), ← h6 j hj, show (k + 1) * 5 + j - zs.length = k * 5 + j by omega]
/-- A fork's first way is laid. -/
theorem spotsAt_fork {w : World} {y x : Nat} : ∀ {L : List Kind} {xs : List Value} {k a : Nat}, spotsAt w L xs → L[k]? = some (.fork [a, y]) → spotsAt w (L.set k (.fork [x, y])) (xs.set (k * 5 + 1) (.int .i64 x))
 | [], xs, k, a, h, hk => by simp at hk
 | z :: L, xs, 0, a, h, hk => by
  obtain ⟨zs, r, rfl, h1, h2⟩ := h
  simp at hk
  subst hk
  obtain rfl : zs = _ := h1
  exact ⟨spotC 2 x y 0 (.slice none 0 0), r, by simp [spotC], rfl, h2⟩
 | z :: L, xs, k + 1, a, h, hk => by
  obtain ⟨zs, r, rfl, h1, h2⟩ := h
  have hz := h1.length
  refine ⟨zs, r.set (k * 5 + 1) (.int .i64 x), ?_, h1, spotsAt_fork h2 (by simpa using hk)⟩
  rw [List.set_append_right _ _ (by omega), show (k + 1) * 5 + 1 - zs.length = k * 5 + 1 by omega]
/-- A layout in its block. -/
def layAt (w : World) (B lb : Nat) (L : List Kind) : Prop :=
 ∃ sv xs, w.heap[lb]? = some (.cells #[sv] 117 (0, 0)) ∧ B ≤ lb ∧ w.ownsRow B 122 5 sv L.length xs ∧ spotsAt w L xs
theorem layAt.grow {w w' : World} {B lb : Nat} {L : List Kind} (h : layAt w B lb L) (g : Grow w w') : layAt w' B lb L := by
 obtain ⟨sv, xs, h1, h2, h3, h4⟩ := h
 exact ⟨sv, xs, g.get h1, h2, own_grow h3 g, h4.frame (.grow (B := 0) g)⟩
theorem Tryz.infoSp : (Tryz.prog.info? 122).any (fun i => i.size == 5 && i.bytes == 56 && (match i.zero with | some z => z.cells.size == 5 | none => false)) = true := by kernel_rfl
theorem spotC_oneCell {k a b n : Int} {so : Option Addr} {sn sc : Nat} : ∀ u ∈ spotC k a b n (.slice so sn sc), u.oneCell' = true := by
 intro u hu
 simp [spotC] at hu
 rcases hu with rfl | rfl | rfl | rfl | rfl <;> rfl
set_option maxRecDepth 20000 in
set_option maxHeartbeats 4000000 in
theorem put_any (w : World) (B lb : Nat) (L : List Kind) (kd : Kind) (k a b n : Int) (so : Option Addr) (sn sc : Nat) (hl : layAt w B lb L) (hk : spotAt w kd (spotC k a b n (.slice so sn sc))) (hL : L.length ≤ 100000) :
  Calls Tryz.prog 79 #[.pointer (some ⟨lb, 0, none⟩), .agg #[.int .i64 k, .int .i64 a, .int .i64 b, .int .i64 n, .slice so sn sc]] w fun e w' => e = .returned (.int .i64 L.length) ∧ LFrame B w w' ∧ layAt w' B lb (L ++ [kd]) := by
 obtain ⟨sv, xs, hlb, hB, hrow, hsp⟩ := hl
 obtain ⟨ao, cp, rfl⟩ := own_shape hrow
 obtain ⟨i0, z0, hinf, hz0, hz1, hz2, hz3⟩ := info_some Tryz.infoSp
 obtain ⟨W, HW⟩ : ∃ W, Hid (W = w.alloc (.cells #[.int .i64 k, .int .i64 a, .int .i64 b, .int .i64 n, .slice so sn sc] 122)) := ⟨_, hide rfl⟩
 have gW : Grow w W := by rw [HW.out]; exact (Grow.refl _).alloc _
 have hWb : W.heap[w.heap.size]? = some (.cells #[.int .i64 k, .int .i64 a, .int .i64 b, .int .i64 n, .slice so sn sc] 122 (0, 0)) := by rw [HW.out]; exact heap_alloc_new _ _
 have hWs : W.heap.size = w.heap.size + 1 := by rw [HW.out]; simp
 have hlW := gW.get hlb
 have hrW := own_grow hrow gW
 have hno : (Value.slice ao L.length cp).ownBlock ≠ some lb := own_apart hrow hlb (by decide)
 have hno2 : (Value.slice ao L.length cp).ownBlock ≠ some w.heap.size := fun e => by have := (hrow.lt _ e).2; omega
 have hlbs := lt_of_block hlb
 have HRW := hide hrW
 have HWB := hide hWb
 have HLW := hide hlW
 have HSP := hide hsp
 have HKD := hide hk
 have HGW := hide gW
 have HBO := hide (fun q (h : (Value.slice ao L.length cp).ownBlock = some q) => hrow.lt q h)
 have eW := HW.out.symm
 clear hrow hrW hWb hlW hlb hsp hk gW HW
 go_enter Tryz.func79, Tryz.ntmps79
 go_wp2_with fail
 clear eW
 refine wp_region_state 10 21 Tryz.mixed2 rfl (by decide +kernel) (fun Ls vals w' => appJ W B 122 5 (.slice ao L.length cp) L.length 1 xs (spotC k a b n (.slice so sn sc)) (Ls 7) (vals 7) w' ∧ newJ W 122 (spotC k a b n (.slice so sn sc)).toArray (Ls 6) (vals 6) w')
  (fun Ls vals h => ?_)
  (fun j v => match j with
   | 0 => v = .pointer (some ⟨lb, 0, none⟩)
   | 1 => v = .pointer (some ⟨lb, 0, none⟩)
   | 2 => v = .pointer (some ⟨lb, 0, none⟩)
   | 3 => v = .pointer (some ⟨lb, 0, none⟩)
   | 4 => v = .slice ao L.length cp
   | 5 => v = .agg #[.int .i64 k, .int .i64 a, .int .i64 b, .int .i64 n, .slice so sn sc]
   | 6 => True
   | 7 => ∃ ao' cp', v = .slice ao' (L.length + 1) cp'
   | 8 => v = .pointer (some ⟨lb, 0, none⟩)
   | _ => v = .pointer (some ⟨lb, 0, none⟩))
  (fun _ _ => False) (fun _ _ _ _ h => h.elim) (fun j hi o ho a2 w2 Ls vals hLi hLc hLe hJ hoff hval hdep => ?_) (fun vals w2 Ls hLs hJ hvals => ?_)
 ·
  simp only [h]
  exact ⟨⟨⟨rfl, rfl, rfl, Nat.le_refl _, fun _ _ _ => rfl⟩, fun _ => HRW.out, fun h => by cases h⟩, fun h => by cases h⟩
 ·
  have hblk := grown_block hJ.1.1 HLW.out hno
  have hbox := grown_block hJ.1.1 HWB.out hno2
  have c0 := cell_of_one hblk
  obtain ⟨b0, b1, b2, b3, b4⟩ := five_cells hbox
  match j, hi with
  | 0, _ =>
   obtain rfl := Option.some.inj ho
   have o0 := hoff 0 (by decide +kernel)
   simp at o0
   simp [opYields, go_sem, o0]
   exact hJ
  | 1, _ =>
   obtain rfl := Option.some.inj ho
   have o0 := hoff 0 (by decide +kernel)
   simp at o0
   simp [opYields, go_sem, o0]
   exact hJ
  | 2, _ =>
   obtain rfl := Option.some.inj ho
   have d1 := hdep 1 (by decide +kernel)
   simp [slotOf, dstOf] at d1
   simp [opYields, go_sem, d1]
   exact hJ
  | 3, _ =>
   obtain rfl := Option.some.inj ho
   have d2 := hdep 2 (by decide +kernel)
   simp [slotOf, dstOf] at d2
   simp [opYields, go_sem, d2]
   exact hJ
  | 4, _ =>
   obtain rfl := Option.some.inj ho
   have d3 := hdep 3 (by decide +kernel)
   simp [slotOf, dstOf] at d3
   simp [opYields, go_sem, d3, c0]
   exact hJ
  | 5, _ =>
   obtain rfl := Option.some.inj ho
   have o3 := hoff 3 (by decide +kernel)
   simp at o3
   simp [opYields, go_sem, o3, b0, b1, b2, b3, b4]
   exact hJ
  | 6, _ =>
   obtain rfl := Option.some.inj ho
   have d5 := hdep 5 (by decide +kernel)
   simp [slotOf, dstOf] at d5
   simp [opYields, go_sem, d5]
   exact ⟨hJ.1.grow ((Grow.refl _).alloc _), fun _ => ⟨_, rfl, hJ.1.1.size, heap_alloc_new _ _⟩⟩
  | 7, _ =>
   obtain rfl := Option.some.inj ho
   have h6 := hLe 6 (by decide +kernel)
   have d4 := hdep 4 (by decide +kernel)
   have v6 := hval 6 (by decide +kernel)
   simp [slotOf, dstOf] at d4 v6
   have hown2 := hJ.1.2.1 hLi
   obtain ⟨nb, hx, hnb, hcell2⟩ := hJ.2 h6
   rw [hx] at v6
   obtain ⟨v', w3, hrun, hown3, hgrow, hnew⟩ := run_append_new (P := Tryz.prog) w2 B 115 115 122 i0 z0 5 56 Tryz.underlying115 hinf hz0 hz1 hz2 hz3 (by omega) _ L.length xs hown2 ⟨nb, 0, none⟩ 1 1 (spotC k a b n (.slice so sn sc)) rfl (fun q u hu => by
    rw [Addr.add_lit]
    exact cell_in hcell2 (by simpa using hu)) spotC_oneCell (by unfold maxLen; omega) (by omega) (by have := hJ.1.1.size; omega)
   refine yields_append rfl (.tmp 9) (.tmp 11) _ _ rfl (v1 := .slice ao L.length cp) (v2 := .slice (some ⟨nb, 0, none⟩) 1 1) (by simpa [Act.eval] using d4) (by simpa [Act.eval] using v6) hrun ?_
   obtain ⟨ao', cp', rfl⟩ := own_shape hown3
   refine ⟨⟨⟨grown_trans hJ.1.1 hgrow, fun h => by simp at h, fun _ => ⟨hown3, ?_⟩⟩, ?_⟩, ao', cp', rfl⟩
   ·
    rcases hnew with h | ⟨g', h, h2⟩
    ·
     exact .inl h
    ·
     exact .inr ⟨g', h, Nat.le_trans hJ.1.1.size h2⟩
   ·
    exact hJ.2.grown hgrow (fun q hq => (HRW.out.lt q hq).2)
  | 8, _ =>
   obtain rfl := Option.some.inj ho
   have d0 := hdep 0 (by decide +kernel)
   simp [slotOf, dstOf] at d0
   simp [opYields, go_sem, d0]
   exact hJ
  | 9, _ =>
   obtain rfl := Option.some.inj ho
   have d8 := hdep 8 (by decide +kernel)
   simp [slotOf, dstOf] at d8
   simp [opYields, go_sem, d8]
   exact hJ
  | q + 10, h => exact absurd h (by omega)
 ·
  have hblk := grown_block hJ.1.1 HLW.out hno
  have h7 := hLs 7 (by omega)
  obtain ⟨hown3, hnew⟩ := hJ.1.2.2 h7
  obtain ⟨ao', cp', v7⟩ := hvals 7 (by omega)
  have v9 := hvals 9 (by omega)
  simp only at v9
  rw [v7] at hown3 hnew
  have c0 := cell_of_one hblk
  have z0 := not_frozen (k := 0) hblk
  have H3 := hide hown3
  have HG := hide hJ.1.1
  have HBL := hide hblk
  clear hvals hown3 hnew hJ hblk
  simp [over, dstOf, Act.put, v7, v9]
  obtain ⟨W2, HW2⟩ : ∃ W2, Hid (W2 = w2.setCell ⟨lb, 0, none⟩ (.slice ao' (L.length + 1) cp')) := ⟨_, hide rfl⟩
  have hb2 : W2.heap[lb]? = some (.cells #[.slice ao' (L.length + 1) cp'] 117 (0, 0)) := by
   rw [HW2.out, set_blk HBL.out]; simp
  have k0 := cell_of_one hb2
  have HB2 := hide hb2
  have hwr : IntKind.i64.wrap ((L.length : Int) + 1 - 1) = L.length := by rw [wrap_i64_small _ (by omega) (by omega)]; omega
  have eW2 := HW2.out.symm
  clear hb2
  go_wp2
  go_ret
  have hs2 : W2.heap.size = w2.heap.size := by rw [HW2.out]; simp [World.setCell]
  have hset : ∀ q, q ≠ lb → W2.heap[q]? = w2.heap[q]? := fun q hq => by rw [HW2.out]; exact Below.heap_setCell _ _ _ _ hq
  have hWsz := HG.out.size
  have hlow : ∀ q, q < w.heap.size → q ≠ lb → some q ≠ (Value.slice ao L.length cp).ownBlock → W2.heap[q]? = w.heap[q]? := fun q h1 h2 h3 => by
   rw [hset q h2, HG.out.block q (by omega) h3, HGW.out.block q h1]
  have hframe : LFrame B w W2 := by
   refine ⟨by rw [HW2.out]; exact HG.out.os.trans HGW.out.os, by rw [HW2.out]; exact HG.out.tape.trans HGW.out.tape, by rw [HW2.out]; exact HG.out.output.trans HGW.out.output, by omega, fun q h1 h2 => hlow q h2 (by omega) (fun e => by have := (HBO.out q e.symm).1; omega), fun q c t fr h1 h2 h3 => ?_⟩
   have hq := lt_of_block h1
   rw [hlow q hq ?_ ?_]
   ·
    exact h1
   ·
    rintro rfl
    have e := HGW.out.get h1
    rw [HLW.out] at e
    simp at e
    exact h2 e.2.1.symm
   ·
    intro e
    exact own_apart HRW.out (HGW.out.get h1) (fun e => h3 e.symm) e.symm
  refine ⟨ret_int rfl, hframe, .slice ao' (L.length + 1) cp', xs ++ spotC k a b n (.slice so sn sc), HB2.out, hB, ?_, spotsAt_snoc (HKD.out.frame hframe) (HSP.out.frame hframe)⟩
  have hpn : (Value.slice ao' (L.length + 1) cp').ownBlock ≠ some lb := own_apart H3.out HBL.out (by decide)
  rw [HW2.out, List.length_append]
  exact ownsRow_setCell_other (a := ⟨lb, 0, none⟩) H3.out hpn _
end Go.Proofs.YtndpjdmfkhjiiaaGreatDoor
namespace Go.Proofs.YtndpjdmfkhjiiaaGreatDoor
open Go.RowKit
/-! ### what was tried -/
def spentG (K : Nat → Kind) (t : List UInt8) (tr : List Bool) (f : Nat) : Prop :=
 ∀ n p, p ≤ t.length → tr[n * (t.length + 1) + p]? = some true → den K t f n p = none ∨ ∃ f', den K t f' n p = some none
def vainG (K : Nat → Kind) (t : List UInt8) (tr tr' : List Bool) : Prop :=
 ∀ n p, p ≤ t.length → tr'[n * (t.length + 1) + p]? = some true → tr[n * (t.length + 1) + p]? = some true ∨ ∃ f', den K t f' n p = some none
theorem spentG.down {K : Nat → Kind} {t : List UInt8} {tr : List Bool} {f : Nat} (h : spentG K t tr (f + 1)) : spentG K t tr f := by
 intro n p hp hk
 rcases h n p hp hk with h | h
 ·
  left
  cases hc : den K t f n p with
  | none => rfl
  | some z => rw [den_succ _ _ _ _ _ _ hc] at h; cases h
 ·
  exact .inr h
theorem spentG.put {K : Nat → Kind} {t : List UInt8} {tr : List Bool} {f n p : Nat} (h : spentG K t tr (f + 1)) (hp : p ≤ t.length) (hd : den K t f n p = none) : spentG K t (tr.set (n * (t.length + 1) + p) true) f := by
 intro n' p' hp' hk
 by_cases e : n * (t.length + 1) + p = n' * (t.length + 1) + p'
 ·
  obtain ⟨rfl, rfl⟩ := idx_inj e hp hp'
  exact .inl hd
 ·
  rw [List.getElem?_set_ne e] at hk
  exact h.down n' p' hp' hk
theorem vainG.refl (K : Nat → Kind) (t : List UInt8) (tr : List Bool) : vainG K t tr tr := fun n p _ h => .inl h
theorem vainG.trans {K : Nat → Kind} {t : List UInt8} {a b c : List Bool} (h : vainG K t a b) (k : vainG K t b c) : vainG K t a c := by
 intro n p hp hc
 rcases k n p hp hc with k | k
 ·
  exact h n p hp k
 ·
  exact .inr k
theorem spentG.vain {K : Nat → Kind} {t : List UInt8} {tr tr' : List Bool} {f : Nat} (h : spentG K t tr f) (k : vainG K t tr tr') : spentG K t tr' f := by
 intro n p hp hc
 rcases k n p hp hc with k | k
 ·
  exact h n p hp k
 ·
  exact .inr k
/-- What leads to nothing is noted. -/
theorem vainG.note {K : Nat → Kind} {t : List UInt8} {tr tr' : List Bool} {f n p : Nat} (h : vainG K t tr tr') (hp : p ≤ t.length) (hd : den K t f n p = some none) : vainG K t tr (tr'.set (n * (t.length + 1) + p) true) := by
 intro n' p' hp' hk
 by_cases e : n * (t.length + 1) + p = n' * (t.length + 1) + p'
 ·
  obtain ⟨rfl, rfl⟩ := idx_inj e hp hp'
  exact .inr ⟨f, hd⟩
 ·
  rw [List.getElem?_set_ne e] at hk
  exact h n' p' hp' hk
theorem vainG.noted {K : Nat → Kind} {t : List UInt8} {tr tr' : List Bool} {f n p : Nat} (h : vainG K t (tr.set (n * (t.length + 1) + p) true) tr') (hp : p ≤ t.length) (hd : den K t f n p = some none) : vainG K t tr tr' := by
 intro n' p' hp' hk
 rcases h n' p' hp' hk with h | h
 ·
  by_cases e : n * (t.length + 1) + p = n' * (t.length + 1) + p'
  ·
   obtain ⟨rfl, rfl⟩ := idx_inj e hp hp'
   exact .inr ⟨f, hd⟩
  ·
   rw [List.getElem?_set_ne e] at h
   exact .inl h
 ·
  exact .inr h
/-! ### what is marked: the last place of each group's begin (0), or end (1) -/
def putE (odd : Nat) (F : List Int) : Evs → List Int
 | [] => F
 | (sl, p) :: l => putE odd (if sl % 2 = odd then F.set (sl / 2 + 1) p else F) l
theorem putE_get (odd : Nat) (ho : odd < 2) : ∀ (l : Evs) (F : List Int) (k : Nat), k + 1 < F.length → (putE odd F l)[k + 1]? = some (lastOf ((F[k + 1]?).getD 0) (2 * k + odd) l)
 | [], F, k, hk => by simp [putE, lastOf, hk]
 | (sl, p) :: l, F, k, hk => by
  rw [putE, putE_get odd ho l _ k (by split <;> simpa using hk), lastOf]
  congr 2
  by_cases h : sl % 2 = odd
  ·
   rw [if_pos h]
   by_cases e : sl = 2 * k + odd
   ·
    have : sl / 2 + 1 = k + 1 := by omega
    rw [if_pos e, this, List.getElem?_set_self hk]
    rfl
   ·
    rw [if_neg e, List.getElem?_set_ne (by omega)]
  ·
   rw [if_neg h, if_neg (by omega)]
/-! ### memory -/
structure KB (X : Nat → Prop) (w w' : World) : Prop where
 os : w'.os = w.os
 tape : w'.tape = w.tape
 output : w'.output = w.output
 size : w.heap.size ≤ w'.heap.size
 block : ∀ k, k < w.heap.size → ¬ X k → w'.heap[k]? = w.heap[k]?
theorem KB.refl (X : Nat → Prop) (w : World) : KB X w w := ⟨rfl, rfl, rfl, Nat.le_refl _, fun _ _ _ => rfl⟩
theorem KB.trans {X : Nat → Prop} {a b c : World} (h : KB X a b) (k : KB X b c) : KB X a c :=
 ⟨k.os.trans h.os, k.tape.trans h.tape, k.output.trans h.output, Nat.le_trans h.size k.size, fun i h1 h2 => (k.block i (Nat.lt_of_lt_of_le h1 h.size) h2).trans (h.block i h1 h2)⟩
theorem KB.grow {X : Nat → Prop} {a b : World} (h : Grow a b) : KB X a b := ⟨h.os, h.tape, h.output, h.size, fun k h1 _ => h.block k h1⟩
theorem KB.set {X : Nat → Prop} {w : World} {b o : Nat} (h : X b) (v : Value) : KB X w (w.setCell ⟨b, o, none⟩ v) :=
 ⟨rfl, rfl, rfl, by simp [World.setCell], fun k _ hk => set_apart _ (fun e => hk (e ▸ h))⟩
theorem KB.get {X : Nat → Prop} {w w' : World} (h : KB X w w') {b : Nat} {o : Obj} (hb : w.heap[b]? = some o) (hx : ¬ X b) : w'.heap[b]? = some o := (h.block b (lt_of_block hb) hx).trans hb
theorem KB.cell {X : Nat → Prop} {w w' : World} (h : KB X w w') {b o : Nat} {v : Value} (hc : w.cell? ⟨b, o, none⟩ = some v) (hx : ¬ X b) : w'.cell? ⟨b, o, none⟩ = some v := (cell_keep (h.block b (cell_has hc) hx)).trans hc
/-- The rows that a walk writes: what was tried, where groups begin, where they end. -/
def own3 (bb fb tb : Nat) : Nat → Prop := fun k => k = bb ∨ k = fb ∨ k = tb
/-- A spot that a walk reads. -/
def spotOf (w : World) (X : Nat → Prop) : Kind → List Value → Prop
 | .take s nx, xs => ∃ b, xs = spotC 1 nx 0 0 (.slice (some ⟨b, 0, none⟩) 256 256) ∧ ¬ X b ∧ boolsAt w b (boolRow s)
 | .fin, xs => xs = spotC 0 0 0 0 (.slice none 0 0)
 | .fork [x, y], xs => xs = spotC 2 x y 0 (.slice none 0 0)
 | .fork _, xs => False
 | .mark sl nx, xs => xs = spotC (if sl % 2 = 0 then 3 else 4) nx 0 (sl / 2 + 1 : Nat) (.slice none 0 0)
theorem spotOf.keep {w w' : World} {X : Nat → Prop} (k : KB X w w') : ∀ {kd : Kind} {xs : List Value}, spotOf w X kd xs → spotOf w' X kd xs
 | .take s nx, xs, ⟨b, h1, h2, h3⟩ => ⟨b, h1, h2, k.get h3 h2⟩
 | .fin, xs, h => h
 | .fork [], xs, h => h
 | .fork [x], xs, h => h
 | .fork [x, y], xs, h => h
 | .fork (x :: y :: z :: l), xs, h => h
 | .mark sl nx, xs, h => h
theorem spotOf_of {w : World} {X : Nat → Prop} (hX : ∀ b l, boolsAt w b l → l.length = 256 → ¬ X b) : ∀ {kd : Kind} {xs : List Value}, spotAt w kd xs → spotOf w X kd xs
 | .take s nx, xs, ⟨b, h1, h2⟩ => ⟨b, h1, hX b _ h2 (boolRow_length s), h2⟩
 | .fin, xs, h => h
 | .fork [], xs, h => h
 | .fork [x], xs, h => h
 | .fork [x, y], xs, h => h
 | .fork (x :: y :: z :: l), xs, h => h
 | .mark sl nx, xs, h => h
/-- What stays while a walk goes on. -/
def wkAt (w : World) (wb lb sb bb fb tb : Nat) (K : List Kind) (t : List UInt8) (bn gn : Nat) : Prop :=
 ∃ scp bcp fcp tcp, w.heap[wb]? = some (.cells #[.pointer (some ⟨lb, 0, none⟩), .string (bs t), .slice (some ⟨bb, 0, none⟩) bn bcp, .slice (some ⟨fb, 0, none⟩) gn fcp, .slice (some ⟨tb, 0, none⟩) gn tcp] 125 (0, 0)) ∧
  w.heap[lb]? = some (.cells #[.slice (some ⟨sb, 0, none⟩) K.length scp] 117 (0, 0)) ∧
  (∀ i k, K[i]? = some k → ∃ ys, spotOf w (own3 bb fb tb) k ys ∧ ∀ j u, j < 5 → ys[j]? = some u → w.cell? ⟨sb, i * 5 + j, none⟩ = some u) ∧
  ¬ own3 bb fb tb wb ∧ ¬ own3 bb fb tb lb ∧ ¬ own3 bb fb tb sb ∧ bb ≠ fb ∧ bb ≠ tb ∧ fb ≠ tb
theorem wkAt.keep {w w' : World} {wb lb sb bb fb tb : Nat} {K : List Kind} {t : List UInt8} {bn gn : Nat} (h : wkAt w wb lb sb bb fb tb K t bn gn) (k : KB (own3 bb fb tb) w w') : wkAt w' wb lb sb bb fb tb K t bn gn := by
 obtain ⟨scp, bcp, fcp, tcp, h1, h2, h3, h4, h5, h6, h7⟩ := h
 refine ⟨scp, bcp, fcp, tcp, k.get h1 h4, k.get h2 h5, fun i kd hi => ?_, h4, h5, h6, h7⟩
 obtain ⟨ys, a, b⟩ := h3 i kd hi
 exact ⟨ys, a.keep k, fun j u hj hu => k.cell (b j u hj hu) h6⟩
/-- What a walk from a spot does. -/
def wpost (K : List Kind) (t : List UInt8) (bb fb tb : Nat) (bad : List Bool) (F G : List Int) (x : Option Evs) (w : World) (e : Ending) (w' : World) : Prop :=
 e = .returned (.bool x.isSome) ∧ KB (own3 bb fb tb) w w' ∧ ∃ bad', bad'.length = bad.length ∧ boolsAt w' bb bad' ∧
  (x = none → marksAt w' fb F ∧ marksAt w' tb G ∧ vainG (spots K) t bad bad') ∧ (∀ l, x = some l → marksAt w' fb (putE 0 F l) ∧ marksAt w' tb (putE 1 G l))
theorem marks_apart {w : World} {fb b o : Nat} {F : List Int} (h : marksAt w fb F) (v : Value) (hne : fb ≠ b) : marksAt (w.setCell ⟨b, o, none⟩ v) fb F := (set_apart _ hne).trans h
theorem bools_apart {w : World} {fb b o : Nat} {l : List Bool} (h : boolsAt w fb l) (v : Value) (hne : fb ≠ b) : boolsAt (w.setCell ⟨b, o, none⟩ v) fb l := (set_apart _ hne).trans h
end Go.Proofs.YtndpjdmfkhjiiaaGreatDoor
namespace Go.Proofs.YtndpjdmfkhjiiaaGreatDoor
open Go.RowKit
attribute [local go_sem] bs_size bs_toList bs_append bs_get bs_extract
theorem wk_cells {w : World} {wb lb sb bb fb tb : Nat} {K : List Kind} {t : List UInt8} {bn gn : Nat} (h : wkAt w wb lb sb bb fb tb K t bn gn) :
  ∃ scp bcp, w.cell? ⟨wb, 0, none⟩ = some (.pointer (some ⟨lb, 0, none⟩)) ∧ w.cell? ⟨wb, 1, none⟩ = some (.string (bs t)) ∧ w.cell? ⟨wb, 2, none⟩ = some (.slice (some ⟨bb, 0, none⟩) bn bcp) ∧ w.cell? ⟨lb, 0, none⟩ = some (.slice (some ⟨sb, 0, none⟩) K.length scp) := by
 obtain ⟨scp, bcp, fcp, tcp, h1, h2, _⟩ := h
 obtain ⟨c0, c1, c2, c3, c4⟩ := five_cells h1
 exact ⟨scp, bcp, c0, c1, c2, cell_of_one h2⟩
theorem wk_head {w : World} {wb lb sb bb fb tb : Nat} {K : List Kind} {t : List UInt8} {bn gn : Nat} (h : wkAt w wb lb sb bb fb tb K t bn gn) :
  ∃ bcp, w.cell? ⟨wb, 1, none⟩ = some (.string (bs t)) ∧ w.cell? ⟨wb, 2, none⟩ = some (.slice (some ⟨bb, 0, none⟩) bn bcp) := by
 obtain ⟨scp, bcp, fcp, tcp, h1, h2, _⟩ := h
 obtain ⟨c0, c1, c2, c3, c4⟩ := five_cells h1
 exact ⟨bcp, c1, c2⟩
theorem wk_from {w : World} {wb lb sb bb fb tb : Nat} {K : List Kind} {t : List UInt8} {bn gn : Nat} (h : wkAt w wb lb sb bb fb tb K t bn gn) : ∃ cp, w.cell? ⟨wb, 3, none⟩ = some (.slice (some ⟨fb, 0, none⟩) gn cp) := by
 obtain ⟨scp, bcp, fcp, tcp, h1, h2, _⟩ := h
 obtain ⟨c0, c1, c2, c3, c4⟩ := five_cells h1
 exact ⟨_, c3⟩
theorem wk_to {w : World} {wb lb sb bb fb tb : Nat} {K : List Kind} {t : List UInt8} {bn gn : Nat} (h : wkAt w wb lb sb bb fb tb K t bn gn) : ∃ cp, w.cell? ⟨wb, 4, none⟩ = some (.slice (some ⟨tb, 0, none⟩) gn cp) := by
 obtain ⟨scp, bcp, fcp, tcp, h1, h2, _⟩ := h
 obtain ⟨c0, c1, c2, c3, c4⟩ := five_cells h1
 exact ⟨_, c4⟩
theorem wk_lt {w : World} {wb lb sb bb fb tb : Nat} {K : List Kind} {t : List UInt8} {bn gn : Nat} (h : wkAt w wb lb sb bb fb tb K t bn gn) : wb < w.heap.size := by
 obtain ⟨scp, bcp, fcp, tcp, h1, h2, _⟩ := h
 exact lt_of_block h1
theorem set_back {α : Type} {l : List α} {k : Nat} {v : α} (h : l[k]? = some v) : l.set k v = l := by
 apply List.ext_getElem?
 intro j
 by_cases e : k = j
 ·
  subst e
  rw [List.getElem?_set_self (List.getElem?_eq_some_iff.1 h).1, h]
 ·
  rw [List.getElem?_set_ne e]
/-- While a spot takes a byte: ahead of the walk from the next one, and behind it. -/
def wJ (K : List Kind) (t : List UInt8) (bb fb tb : Nat) (bad : List Bool) (F G : List Int) (x : Option Evs) (P : World) (b : Bool) (w' : World) : Prop :=
 KB (own3 bb fb tb) P w' ∧ (b = false → boolsAt w' bb bad ∧ marksAt w' fb F ∧ marksAt w' tb G) ∧
  (b = true → ∃ bad', bad'.length = bad.length ∧ boolsAt w' bb bad' ∧ (x = none → marksAt w' fb F ∧ marksAt w' tb G ∧ vainG (spots K) t bad bad') ∧ (∀ l, x = some l → marksAt w' fb (putE 0 F l) ∧ marksAt w' tb (putE 1 G l)))
set_option maxRecDepth 20000 in
set_option maxHeartbeats 8000000 in
theorem rwalk_any (K : List Kind) (t : List UInt8) (wb lb sb bb fb tb g : Nat) (hK : K.length ≤ 100000) (hL : t.length ≤ 2000) (hok : ∀ k ∈ K, kOk g K.length k) :
  ∀ f n p x w bad F G, wkAt w wb lb sb bb fb tb K t bad.length (g + 1) → boolsAt w bb bad → marksAt w fb F → marksAt w tb G → bad.length = K.length * (t.length + 1) → F.length = g + 1 → G.length = g + 1 →
   den (spots K) t f n p = some x → n < K.length → p ≤ t.length → spentG (spots K) t bad f →
   Calls Tryz.prog 80 #[.pointer (some ⟨wb, 0, none⟩), .int .i64 n, .int .i64 p] w (wpost K t bb fb tb bad F G x w) := by
 intro f
 induction f with
 | zero => intro n p x w bad F G _ _ _ _ _ _ _ h; cases h
 | succ f ih =>
  intro n p x w bad F G hw hb hF hG hbl hFl hGl hd hn hp hsp
  cases hdf : den (spots K) t f n p with
  | some y =>
   obtain rfl := den_det hdf hd
   exact ih n p y w bad F G hw hb hF hG hbl hFl hGl hdf hn hp hsp.down
  | none =>
   obtain ⟨kd, hkd⟩ : ∃ kd, K[n]? = some kd := ⟨_, List.getElem?_eq_getElem hn⟩
   have hspot : spots K n = kd := by simp [spots, hkd]
   have hkok := hok kd (List.mem_of_getElem? hkd)
   have hidx := idx_lt hn hp
   rw [← hbl] at hidx
   obtain ⟨M, hM⟩ : ∃ M, n * (t.length + 1) = M := ⟨_, rfl⟩
   have hMi : (n : Int) * ((t.length : Int) + 1) = (M : Int) := by rw [← hM]; simp
   have hMle : M ≤ 200100000 := by
    have h1 : n * (t.length + 1) ≤ 100000 * 2001 := Nat.mul_le_mul (by omega) (by omega)
    omega
   rw [hM] at hidx
   obtain ⟨scp, bcp, fcp, tcp, hwb, hlb, hsteps, hx1, hx2, hx3, hne1, hne2, hne3⟩ := id hw
   obtain ⟨ys, hspo, hcl0⟩ := hsteps n kd hkd
   have hcl : ∀ j u, j < 5 → ys[j]? = some u → w.cell? ⟨sb, n * 5 + j, none⟩ = some u := hcl0
   obtain ⟨c0, c1, c2, c3, c4⟩ := five_cells hwb
   have cl := cell_of_one hlb
   have hget : bad[M + p]? = some bad[M + p] := List.getElem?_eq_getElem hidx
   have ct := hb.cell hget
   have hni : (n : Int) < (K.length : Int) := by omega
   have hidxi : (M : Int) + (p : Int) < (bad.length : Int) := by omega
   have HW := hide hw
   have HB := hide hb
   have HF := hide hF
   have HG := hide hG
   have IH := hide ih
   have D := hide hd
   have DF := hide hdf
   have SP := hide hsp
   have HS := hide hspot
   have HM := hide hM
   have LB := hide hbl
   have LF := hide hFl
   have LG := hide hGl
   have GT := hide hget
   have HOK := hide hkok
   clear hw hb hF hG ih hd hdf hsp hspot hM hbl hFl hGl hget hkok hwb hlb hsteps hx1 hx2 hx3 hcl0 hkd
   cases hbv : bad[M + p] with
   | true =>
    rw [hbv] at ct GT
    have hx : x = none := by
     have h := SP.out n p hp (by rw [HM.out]; exact GT.out)
     rcases h with h | ⟨f', h⟩
     ·
      rw [D.out] at h; cases h
     ·
      exact den_det D.out h
    subst hx
    clear hbv
    go_enter Tryz.func80, Tryz.ntmps80
    go_wp2
    go_ret
    exact ⟨rfl, .refl _ _, bad, rfl, HB.out, fun _ => ⟨HF.out, HG.out, .refl _ _ _⟩, fun l h => by cases h⟩
   | false =>
    rw [hbv] at ct GT
    clear hbv
    cases kd with
    | fin =>
     have hys : ys = _ := hspo
     subst hys
     have s0 := hcl 0 _ (by omega) rfl
     rw [Nat.add_zero] at s0
     have s1 := hcl 1 _ (by omega) rfl
     have s2 := hcl 2 _ (by omega) rfl
     have s3 := hcl 3 _ (by omega) rfl
     have s4 := hcl 4 _ (by omega) rfl
     clear hcl
     have hx : x = if p = t.length then some [] else none := by
      have h := D.out
      rw [den, HS.out] at h
      exact (Option.some.inj h).symm
     obtain ⟨P0, e0⟩ : ∃ P0, w.alloc (.cells #[.int .i64 0, .int .i64 0, .int .i64 0, .int .i64 0, .slice none 0 0] 122) = P0 := ⟨_, rfl⟩
     have hP0 : P0.heap[w.heap.size]? = some (.cells #[.int .i64 0, .int .i64 0, .int .i64 0, .int .i64 0, .slice none 0 0] 122 (0, 0)) := by rw [← e0]; exact heap_alloc_new _ _
     have gP0 : Grow w P0 := by rw [← e0]; exact (Grow.refl _).alloc _
     obtain ⟨x0, x1, x2, x3, x4⟩ := five_cells hP0
     have z0 := not_frozen (k := 0) hP0
     have z1 := not_frozen (k := 1) hP0
     have z2 := not_frozen (k := 2) hP0
     have z3 := not_frozen (k := 3) hP0
     have z4 := not_frozen (k := 4) hP0
     have hP := set_five hP0 (.int .i64 0) (.int .i64 0) (.int .i64 0) (.int .i64 0) (.slice none 0 0)
     have gP : Grow w _ := grow_five gP0 (Nat.le_refl _) (.int .i64 0) (.int .i64 0) (.int .i64 0) (.int .i64 0) (.slice none 0 0)
     obtain ⟨P1, eP⟩ : ∃ P1, (((((P0.setCell ⟨w.heap.size, 0, none⟩ (.int .i64 0)).setCell ⟨w.heap.size, 1, none⟩ (.int .i64 0)).setCell ⟨w.heap.size, 2, none⟩ (.int .i64 0)).setCell ⟨w.heap.size, 3, none⟩ (.int .i64 0)).setCell ⟨w.heap.size, 4, none⟩ (.slice none 0 0)) = P1 := ⟨_, rfl⟩
     rw [eP] at hP gP
     obtain ⟨p0, p1, p2, p3, p4⟩ := five_cells hP
     have KQ : Hid (KB (own3 bb fb tb) w P1) := hide (.grow gP)
     have HWQ := hide (HW.out.keep KQ.out)
     have HBQ : Hid (boolsAt P1 bb bad) := hide (gP.get HB.out)
     have HFQ : Hid (marksAt P1 fb F) := hide (gP.get HF.out)
     have HGQ : Hid (marksAt P1 tb G) := hide (gP.get HG.out)
     have hspx : ¬ own3 bb fb tb w.heap.size := fun h => by
      have h1 := lt_of_block HB.out
      have h2 := lt_of_block HF.out
      have h3 := lt_of_block HG.out
      unfold own3 at h
      omega
     have HPB := hide hP
     have HPX := hide hspx
     clear hP hP0 gP0 gP hspx
     obtain ⟨a3, a4, a0, a1, a2, a5⟩ := wk_cells HWQ.out
     by_cases hpl : p = t.length
     ·
      rw [if_pos hpl] at hx
      subst hx
      have hpe : ((p : Int) == (t.length : Int)) = true := by simp [hpl]
      have HLT : Hid (M + p < bad.length) := hide hidx
      clear hpl
      go_enter Tryz.func80, Tryz.ntmps80
      obtain ⟨a3, a4, a0, a1, a2, a5⟩ := wk_cells HWQ.out
      have hbm := HLT.out
      have hgb := List.getElem?_eq_getElem hbm
      have bq := HBQ.out.cell hgb
      have fbq := not_frozen (k := M + p) HBQ.out
      clear hgb
      go_wp2
      go_ret
      exact ⟨ret_bool (by simp), KQ.out.trans (KB.set (.inl rfl) _), _, by rw [List.length_set], HBQ.out.set _ _, fun h => (by cases h), fun l h => by cases h; exact ⟨marks_apart HFQ.out _ (fun e => hne1 e.symm), marks_apart HGQ.out _ (fun e => hne2 e.symm)⟩⟩
     ·
      rw [if_neg hpl] at hx
      subst hx
      have hpe : ((p : Int) == (t.length : Int)) = false := by simp; omega
      have HV : Hid (vainG (spots K) t bad bad) := hide (.refl _ _ _)
      have HLT : Hid (M + p < bad.length) := hide hidx
      clear hpl
      go_enter Tryz.func80, Tryz.ntmps80
      obtain ⟨a3, a4, a0, a1, a2, a5⟩ := wk_cells HWQ.out
      have hbm := HLT.out
      have hgb := List.getElem?_eq_getElem hbm
      have bq := HBQ.out.cell hgb
      have fbq := not_frozen (k := M + p) HBQ.out
      clear hgb
      go_wp2
      go_ret
      exact ⟨ret_bool (by simp), KQ.out.trans (KB.set (.inl rfl) _), _, by rw [List.length_set], HBQ.out.set _ _, fun _ => ⟨marks_apart HFQ.out _ (fun e => hne1 e.symm), marks_apart HGQ.out _ (fun e => hne2 e.symm), by rw [← HM.out]; exact HV.out.note hp D.out⟩, fun l h => by cases h⟩
    | take s nx =>
     obtain ⟨sbk, hys, hsx, hsb⟩ := hspo
     subst hys
     have s0 := hcl 0 _ (by omega) rfl
     rw [Nat.add_zero] at s0
     have s1 := hcl 1 _ (by omega) rfl
     have s2 := hcl 2 _ (by omega) rfl
     have s3 := hcl 3 _ (by omega) rfl
     have s4 := hcl 4 _ (by omega) rfl
     have HSB := hide hsb
     have HSX := hide hsx
     have hnx : nx < K.length := HOK.out
     have hd : (if hits t s p = true then den (spots K) t f nx (p + 1) else some none) = some x := by
      have h := D.out
      rw [den, HS.out] at h
      exact h
     clear hsb hsx hcl
     obtain ⟨P0, e0⟩ : ∃ P0, w.alloc (.cells #[.int .i64 0, .int .i64 0, .int .i64 0, .int .i64 0, .slice none 0 0] 122) = P0 := ⟨_, rfl⟩
     have hP0 : P0.heap[w.heap.size]? = some (.cells #[.int .i64 0, .int .i64 0, .int .i64 0, .int .i64 0, .slice none 0 0] 122 (0, 0)) := by rw [← e0]; exact heap_alloc_new _ _
     have gP0 : Grow w P0 := by rw [← e0]; exact (Grow.refl _).alloc _
     obtain ⟨x0, x1, x2, x3, x4⟩ := five_cells hP0
     have z0 := not_frozen (k := 0) hP0
     have z1 := not_frozen (k := 1) hP0
     have z2 := not_frozen (k := 2) hP0
     have z3 := not_frozen (k := 3) hP0
     have z4 := not_frozen (k := 4) hP0
     have hP := set_five hP0 (.int .i64 1) (.int .i64 nx) (.int .i64 0) (.int .i64 0) (.slice (some ⟨sbk, 0, none⟩) 256 256)
     have gP : Grow w _ := grow_five gP0 (Nat.le_refl _) (.int .i64 1) (.int .i64 nx) (.int .i64 0) (.int .i64 0) (.slice (some ⟨sbk, 0, none⟩) 256 256)
     obtain ⟨P1, eP⟩ : ∃ P1, (((((P0.setCell ⟨w.heap.size, 0, none⟩ (.int .i64 1)).setCell ⟨w.heap.size, 1, none⟩ (.int .i64 nx)).setCell ⟨w.heap.size, 2, none⟩ (.int .i64 0)).setCell ⟨w.heap.size, 3, none⟩ (.int .i64 0)).setCell ⟨w.heap.size, 4, none⟩ (.slice (some ⟨sbk, 0, none⟩) 256 256)) = P1 := ⟨_, rfl⟩
     rw [eP] at hP gP
     obtain ⟨p0, p1, p2, p3, p4⟩ := five_cells hP
     have KQ : Hid (KB (own3 bb fb tb) w P1) := hide (.grow gP)
     have HWQ := hide (HW.out.keep KQ.out)
     have HBQ : Hid (boolsAt P1 bb bad) := hide (gP.get HB.out)
     have HFQ : Hid (marksAt P1 fb F) := hide (gP.get HF.out)
     have HGQ : Hid (marksAt P1 tb G) := hide (gP.get HG.out)
     have hspx : ¬ own3 bb fb tb w.heap.size := fun h => by
      have h1 := lt_of_block HB.out
      have h2 := lt_of_block HF.out
      have h3 := lt_of_block HG.out
      unfold own3 at h
      omega
     have HPB := hide hP
     have HPX := hide hspx
     clear hP hP0 gP0 gP hspx
     obtain ⟨a3, a4, a0, a1, a2, a5⟩ := wk_cells HWQ.out
     have HSQ : Hid (boolsAt P1 sbk (boolRow s)) := hide (KQ.out.get HSB.out HSX.out)
     by_cases hpl : p < t.length
     ·
      have hpl' : decide ((p : Int) < (t.length : Int)) = true := by simpa using hpl
      have hpi : (p : Int) < (t.length : Int) := by omega
      obtain ⟨c, hcc⟩ : ∃ c, t[p] = c := ⟨_, rfl⟩
      have hc256 := c.toNat_lt
      have hci : (c.toNat : Int) < 256 := by omega
      have hsc := HSQ.out.cell (boolRow_at s c)
      rw [hits_get hpl, hcc] at hd
      cases hsv : s c with
      | true =>
       rw [hsv, if_pos rfl] at hd
       rw [hsv] at hsc
       have HD := hide hd
       have HIH := hide fun W Fx Gx badx (h1 : KB (own3 bb fb tb) w W) (h2 : boolsAt W bb badx) (h3 : marksAt W fb Fx) (h4 : marksAt W tb Gx) (h5 : badx.length = bad.length) (h6 : Fx.length = g + 1) (h7 : Gx.length = g + 1) (h8 : spentG (spots K) t badx f) => IH.out nx (p + 1) x W badx Fx Gx (by rw [h5]; exact HW.out.keep h1) h2 h3 h4 (by rw [h5]; exact LB.out) h6 h7 hd hnx hpl h8
       have HSC := hide hsc
       clear hd hsc hsv
       go_enter Tryz.func80, Tryz.ntmps80
       go_wp2
       clear a0 a1 a2 a5 p0 p1 p2 p3 p4 e0 eP x0 x1 x2 x3 x4 z0 z1 z2 z3 z4 s0 s1 s2 s3 s4
       refine wp_region_state 27 174 Tryz.mixed2 rfl (by decide +kernel) (fun L vals w' => wJ K t bb fb tb bad F G x P1 (L 25) w')
        (fun L vals h => ?_)
        (fun i v => match i with
         | 0 => v = .int .i64 (p : Nat)
         | 1 => v = .pointer (some ⟨wb, 0, none⟩)
         | 2 => v = .pointer (some ⟨wb, 0, none⟩)
         | 3 => v = .pointer (some ⟨wb, 1, none⟩)
         | 4 => v = .string (bs t)
         | 5 => v = .int .i64 t.length
         | 6 => v = .bool true
         | 7 => v = .bool true
         | 8 => v = .pointer (some ⟨w.heap.size, 4, none⟩)
         | 9 => v = .slice (some ⟨sbk, 0, none⟩) 256 256
         | 10 => v = .pointer (some ⟨wb, 0, none⟩)
         | 11 => v = .pointer (some ⟨wb, 0, none⟩)
         | 12 => v = .pointer (some ⟨wb, 1, none⟩)
         | 13 => v = .string (bs t)
         | 14 => v = .int .i64 (p : Nat)
         | 15 => v = .int .u8 (c.toNat : Nat)
         | 16 => v = .pointer (some ⟨sbk, c.toNat, none⟩)
         | 17 => v = .bool true
         | 18 => v = .bool true
         | 19 => v = .bool true
         | 20 => v = .pointer (some ⟨wb, 0, none⟩)
         | 21 => v = .pointer (some ⟨w.heap.size, 1, none⟩)
         | 22 => v = .int .i64 (nx : Nat)
         | 23 => v = .int .i64 (p : Nat)
         | 24 => v = .int .i64 ((p : Int) + 1)
         | 25 => v = .bool x.isSome
         | _ => v = .bool x.isSome)
        (fun _ _ => False) (fun _ _ _ _ h => h.elim) (fun i hi o ho a w2 L vals hLi hLc hLe hJ hoff hval hdep => ?_) (fun vals w2 L hL hJ hvals => ?_)
       ·
        rw [h]
        exact ⟨⟨rfl, rfl, rfl, Nat.le_refl _, fun _ _ _ => rfl⟩, fun _ => ⟨HBQ.out, HFQ.out, HGQ.out⟩, fun h => (nomatch h)⟩
       ·
        obtain ⟨b3, b4, b0, b1, b2, b5⟩ := wk_cells (HW.out.keep (KQ.out.trans hJ.1))
        obtain ⟨q0, q1, q2, q3, q4⟩ := five_cells (hJ.1.get HPB.out HPX.out)
        have qs := hJ.1.cell HSC.out HSX.out
        match i, hi with
        | 0, _ =>
         obtain rfl := Option.some.inj ho
         have o2 := hoff 2 (by decide +kernel)
         simp at o2
         simp [opYields, go_sem, o2]
         exact hJ
        | 1, _ =>
         obtain rfl := Option.some.inj ho
         have o0 := hoff 0 (by decide +kernel)
         simp at o0
         simp [opYields, go_sem, o0]
         exact hJ
        | 2, _ =>
         obtain rfl := Option.some.inj ho
         have d1 := hdep 1 (by decide +kernel)
         simp [slotOf, dstOf] at d1
         simp [opYields, go_sem, d1]
         exact hJ
        | 3, _ =>
         obtain rfl := Option.some.inj ho
         have d2 := hdep 2 (by decide +kernel)
         simp [slotOf, dstOf] at d2
         simp [opYields, go_sem, d2]
         exact hJ
        | 4, _ =>
         obtain rfl := Option.some.inj ho
         have d3 := hdep 3 (by decide +kernel)
         simp [slotOf, dstOf] at d3
         simp [opYields, go_sem, d3, b1]
         exact hJ
        | 5, _ =>
         obtain rfl := Option.some.inj ho
         have d4 := hdep 4 (by decide +kernel)
         simp [slotOf, dstOf] at d4
         simp [opYields, go_sem, d4]
         exact hJ
        | 6, _ =>
         obtain rfl := Option.some.inj ho
         have d0 := hdep 0 (by decide +kernel)
         simp [slotOf, dstOf] at d0
         have d5 := hdep 5 (by decide +kernel)
         simp [slotOf, dstOf] at d5
         simp [opYields, go_sem, d0, d5, hpl]
         exact hJ
        | 7, _ =>
         obtain rfl := Option.some.inj ho
         have d6 := hdep 6 (by decide +kernel)
         simp [slotOf, dstOf] at d6
         simp [opYields, go_sem, d6]
         exact hJ
        | 8, _ =>
         have hwt := wanted_yes ho (g := 7) (by rfl) (hdep 7 (by decide +kernel))
         unfold opYields
         rw [if_pos hwt]
         obtain rfl := Option.some.inj ho
         have o8 := hoff 8 (by decide +kernel)
         simp at o8
         simp [go_sem, o8]
         exact hJ
        | 9, _ =>
         have hwt := wanted_yes ho (g := 7) (by rfl) (hdep 7 (by decide +kernel))
         unfold opYields
         rw [if_pos hwt]
         obtain rfl := Option.some.inj ho
         have d8 := hdep 8 (by decide +kernel)
         simp [slotOf, dstOf] at d8
         simp [go_sem, d8, q4]
         exact hJ
        | 10, _ =>
         have hwt := wanted_yes ho (g := 7) (by rfl) (hdep 7 (by decide +kernel))
         unfold opYields
         rw [if_pos hwt]
         obtain rfl := Option.some.inj ho
         have o0 := hoff 0 (by decide +kernel)
         simp at o0
         simp [go_sem, o0]
         exact hJ
        | 11, _ =>
         have hwt := wanted_yes ho (g := 7) (by rfl) (hdep 7 (by decide +kernel))
         unfold opYields
         rw [if_pos hwt]
         obtain rfl := Option.some.inj ho
         have d10 := hdep 10 (by decide +kernel)
         simp [slotOf, dstOf] at d10
         simp [go_sem, d10]
         exact hJ
        | 12, _ =>
         have hwt := wanted_yes ho (g := 7) (by rfl) (hdep 7 (by decide +kernel))
         unfold opYields
         rw [if_pos hwt]
         obtain rfl := Option.some.inj ho
         have d11 := hdep 11 (by decide +kernel)
         simp [slotOf, dstOf] at d11
         simp [go_sem, d11]
         exact hJ
        | 13, _ =>
         have hwt := wanted_yes ho (g := 7) (by rfl) (hdep 7 (by decide +kernel))
         unfold opYields
         rw [if_pos hwt]
         obtain rfl := Option.some.inj ho
         have d12 := hdep 12 (by decide +kernel)
         simp [slotOf, dstOf] at d12
         simp [go_sem, d12, b1]
         exact hJ
        | 14, _ =>
         have hwt := wanted_yes ho (g := 7) (by rfl) (hdep 7 (by decide +kernel))
         unfold opYields
         rw [if_pos hwt]
         obtain rfl := Option.some.inj ho
         have o2 := hoff 2 (by decide +kernel)
         simp at o2
         simp [go_sem, o2]
         exact hJ
        | 15, _ =>
         have hwt := wanted_yes ho (g := 7) (by rfl) (hdep 7 (by decide +kernel))
         unfold opYields
         rw [if_pos hwt]
         obtain rfl := Option.some.inj ho
         have d13 := hdep 13 (by decide +kernel)
         simp [slotOf, dstOf] at d13
         have d14 := hdep 14 (by decide +kernel)
         simp [slotOf, dstOf] at d14
         simp [go_sem, d13, d14, hpl, hcc]
         exact hJ
        | 16, _ =>
         have hwt := wanted_yes ho (g := 7) (by rfl) (hdep 7 (by decide +kernel))
         unfold opYields
         rw [if_pos hwt]
         obtain rfl := Option.some.inj ho
         have d9 := hdep 9 (by decide +kernel)
         simp [slotOf, dstOf] at d9
         have d15 := hdep 15 (by decide +kernel)
         simp [slotOf, dstOf] at d15
         simp [go_sem, d9, d15, hci]
         exact hJ
        | 17, _ =>
         have hwt := wanted_yes ho (g := 7) (by rfl) (hdep 7 (by decide +kernel))
         unfold opYields
         rw [if_pos hwt]
         obtain rfl := Option.some.inj ho
         have d16 := hdep 16 (by decide +kernel)
         simp [slotOf, dstOf] at d16
         simp [go_sem, d16, qs]
         exact hJ
        | 18, _ =>
         obtain rfl := Option.some.inj ho
         have d7 := hdep 7 (by decide +kernel)
         simp [slotOf, dstOf] at d7
         have d17 := hdep 17 (by decide +kernel)
         simp [slotOf, dstOf] at d17
         simp [opYields, go_sem, d7, d17]
         exact hJ
        | 19, _ =>
         obtain rfl := Option.some.inj ho
         have d18 := hdep 18 (by decide +kernel)
         simp [slotOf, dstOf] at d18
         simp [opYields, go_sem, d18]
         exact hJ
        | 20, _ =>
         have hwt := wanted_yes ho (g := 19) (by rfl) (hdep 19 (by decide +kernel))
         unfold opYields
         rw [if_pos hwt]
         obtain rfl := Option.some.inj ho
         have o0 := hoff 0 (by decide +kernel)
         simp at o0
         simp [go_sem, o0]
         exact hJ
        | 21, _ =>
         have hwt := wanted_yes ho (g := 19) (by rfl) (hdep 19 (by decide +kernel))
         unfold opYields
         rw [if_pos hwt]
         obtain rfl := Option.some.inj ho
         have o8 := hoff 8 (by decide +kernel)
         simp at o8
         simp [go_sem, o8]
         exact hJ
        | 22, _ =>
         have hwt := wanted_yes ho (g := 19) (by rfl) (hdep 19 (by decide +kernel))
         unfold opYields
         rw [if_pos hwt]
         obtain rfl := Option.some.inj ho
         have d21 := hdep 21 (by decide +kernel)
         simp [slotOf, dstOf] at d21
         simp [go_sem, d21, q1]
         exact hJ
        | 23, _ =>
         have hwt := wanted_yes ho (g := 19) (by rfl) (hdep 19 (by decide +kernel))
         unfold opYields
         rw [if_pos hwt]
         obtain rfl := Option.some.inj ho
         have o2 := hoff 2 (by decide +kernel)
         simp at o2
         simp [go_sem, o2]
         exact hJ
        | 24, _ =>
         have hwt := wanted_yes ho (g := 19) (by rfl) (hdep 19 (by decide +kernel))
         unfold opYields
         rw [if_pos hwt]
         obtain rfl := Option.some.inj ho
         have d23 := hdep 23 (by decide +kernel)
         simp [slotOf, dstOf] at d23
         simp [go_sem, d23]
         exact ⟨hJ, wrap_i64_small _ (by omega) (by omega)⟩
        | 25, _ =>
         have hwt := wanted_yes ho (g := 19) (by rfl) (hdep 19 (by decide +kernel))
         unfold opYields
         rw [if_pos hwt]
         obtain rfl := Option.some.inj ho
         have d20 := hdep 20 (by decide +kernel)
         simp [slotOf, dstOf] at d20
         have d22 := hdep 22 (by decide +kernel)
         simp [slotOf, dstOf] at d22
         have d24 := hdep 24 (by decide +kernel)
         simp [slotOf, dstOf] at d24
         simp [go_sem, d20, d22, d24]
         rw [hLi] at hJ
         obtain ⟨hj1, hj2, _⟩ := hJ
         obtain ⟨hj3, hj4, hj5⟩ := hj2 rfl
         refine (HIH.out w2 F G bad (KQ.out.trans hj1) hj3 hj4 hj5 rfl LF.out LG.out SP.out.down).mono ?_
         rintro e w3 ⟨rfl, hk3, hrest⟩
         exact ⟨⟨hj1.trans hk3, fun h => (nomatch h), fun _ => hrest⟩, rfl⟩
        | 26, _ =>
         obtain rfl := Option.some.inj ho
         have d19 := hdep 19 (by decide +kernel)
         simp [slotOf, dstOf] at d19
         have d25 := hdep 25 (by decide +kernel)
         simp [slotOf, dstOf] at d25
         simp [opYields, go_sem, d19, d25]
         exact hJ
        | k + 27, h => exact absurd h (by omega)
       ·
        have v26 := hvals 26 (by omega)
        simp only at v26
        rw [hL 25 (by omega)] at hJ
        obtain ⟨hj1, _, hj2⟩ := hJ
        obtain ⟨bad1, hl1, hb1, hn1, hs1⟩ := hj2 rfl
        have KQ := hide (KQ.out.trans hj1)
        have HWQ := hide (HW.out.keep KQ.out)
        have HBQ := hide hb1
        have HN1 := hide hn1
        have HS1 := hide hs1
        have HLB2 := hide hl1
        have HLT : Hid (M + p < bad1.length) := by rw [hl1]; exact hide hidx
        clear hvals hb1 hn1 hs1 hl1 hj1 hj2
        simp [over, dstOf, Act.put, v26]
        cases x with
        | none =>
         obtain ⟨hf1, hg1, hv1⟩ := HN1.out rfl
         have HFQ := hide hf1
         have HGQ := hide hg1
         have HV := hide hv1
         clear hf1 hg1 hv1
         obtain ⟨a3, a4, a0, a1, a2, a5⟩ := wk_cells HWQ.out
         have hbm := HLT.out
         have hgb := List.getElem?_eq_getElem hbm
         have bq := HBQ.out.cell hgb
         have fbq := not_frozen (k := M + p) HBQ.out
         clear hgb
         go_wp2
         go_ret
         exact ⟨ret_bool (by simp), KQ.out.trans (KB.set (.inl rfl) _), _, List.length_set.trans HLB2.out, HBQ.out.set _ _, fun _ => ⟨marks_apart HFQ.out _ (fun e => hne1 e.symm), marks_apart HGQ.out _ (fun e => hne2 e.symm), by rw [← HM.out]; exact HV.out.note hp D.out⟩, fun l h => by cases h⟩
        | some lv =>
         obtain ⟨hf1, hg1⟩ := HS1.out lv rfl
         have HFQ := hide hf1
         have HGQ := hide hg1
         clear hf1 hg1
         obtain ⟨a3, a4, a0, a1, a2, a5⟩ := wk_cells HWQ.out
         have hbm := HLT.out
         have hgb := List.getElem?_eq_getElem hbm
         have bq := HBQ.out.cell hgb
         have fbq := not_frozen (k := M + p) HBQ.out
         clear hgb
         go_wp2
         go_ret
         exact ⟨ret_bool (by simp), KQ.out.trans (KB.set (.inl rfl) _), _, List.length_set.trans HLB2.out, HBQ.out.set _ _, fun h => (by cases h), fun l h => by cases h; exact ⟨marks_apart HFQ.out _ (fun e => hne1 e.symm), marks_apart HGQ.out _ (fun e => hne2 e.symm)⟩⟩
      | false =>
       rw [hsv, if_neg (by decide)] at hd
       obtain rfl : x = none := (Option.some.inj hd).symm
       rw [hsv] at hsc
       have HV : Hid (vainG (spots K) t bad bad) := hide (.refl _ _ _)
       have HLT : Hid (M + p < bad.length) := hide hidx
       clear hd hsv
       go_enter Tryz.func80, Tryz.ntmps80
       go_wp2
       go_quiet (fail)
       clear a0 a1 a2 a5
       obtain ⟨Q1, HQ1⟩ : ∃ Q1, Hid (Q1 = World.drewN P1 nq) := ⟨_, hide rfl⟩
       rw [← HQ1.out]
       have gQ : Grow P1 Q1 := by rw [HQ1.out]; exact ⟨rfl, rfl, rfl, Nat.le_refl _, fun _ _ => rfl⟩
       have KQ := hide (KQ.out.trans (.grow gQ))
       have HWQ := hide (HW.out.keep KQ.out)
       have HBQ : Hid (boolsAt Q1 bb bad) := hide (gQ.get HBQ.out)
       have HFQ : Hid (marksAt Q1 fb F) := hide (gQ.get HFQ.out)
       have HGQ : Hid (marksAt Q1 tb G) := hide (gQ.get HGQ.out)
       obtain ⟨p0, p1, p2, p3, p4⟩ := five_cells (gQ.get HPB.out)
       have HPB := hide (gQ.get HPB.out)
       clear HQ1 gQ
       obtain ⟨a3, a4, a0, a1, a2, a5⟩ := wk_cells HWQ.out
       have hbm := HLT.out
       have hgb := List.getElem?_eq_getElem hbm
       have bq := HBQ.out.cell hgb
       have fbq := not_frozen (k := M + p) HBQ.out
       clear hgb
       go_wp2
       go_ret
       exact ⟨ret_bool (by simp), KQ.out.trans (KB.set (.inl rfl) _), _, by rw [List.length_set], HBQ.out.set _ _, fun _ => ⟨marks_apart HFQ.out _ (fun e => hne1 e.symm), marks_apart HGQ.out _ (fun e => hne2 e.symm), by rw [← HM.out]; exact HV.out.note hp D.out⟩, fun l h => by cases h⟩
     ·
      rw [hits_ge hpl, if_neg (by decide)] at hd
      obtain rfl : x = none := (Option.some.inj hd).symm
      have hpl' : decide ((p : Int) < (t.length : Int)) = false := by simp; omega
      have HV : Hid (vainG (spots K) t bad bad) := hide (.refl _ _ _)
      have HLT : Hid (M + p < bad.length) := hide hidx
      clear hd
      go_enter Tryz.func80, Tryz.ntmps80
      go_wp2
      go_quiet (fail)
      clear a0 a1 a2 a5
      obtain ⟨Q1, HQ1⟩ : ∃ Q1, Hid (Q1 = World.drewN P1 nq) := ⟨_, hide rfl⟩
      rw [← HQ1.out]
      have gQ : Grow P1 Q1 := by rw [HQ1.out]; exact ⟨rfl, rfl, rfl, Nat.le_refl _, fun _ _ => rfl⟩
      have KQ := hide (KQ.out.trans (.grow gQ))
      have HWQ := hide (HW.out.keep KQ.out)
      have HBQ : Hid (boolsAt Q1 bb bad) := hide (gQ.get HBQ.out)
      have HFQ : Hid (marksAt Q1 fb F) := hide (gQ.get HFQ.out)
      have HGQ : Hid (marksAt Q1 tb G) := hide (gQ.get HGQ.out)
      obtain ⟨p0, p1, p2, p3, p4⟩ := five_cells (gQ.get HPB.out)
      have HPB := hide (gQ.get HPB.out)
      clear HQ1 gQ
      obtain ⟨a3, a4, a0, a1, a2, a5⟩ := wk_cells HWQ.out
      have hbm := HLT.out
      have hgb := List.getElem?_eq_getElem hbm
      have bq := HBQ.out.cell hgb
      have fbq := not_frozen (k := M + p) HBQ.out
      clear hgb
      go_wp2
      go_ret
      exact ⟨ret_bool (by simp), KQ.out.trans (KB.set (.inl rfl) _), _, by rw [List.length_set], HBQ.out.set _ _, fun _ => ⟨marks_apart HFQ.out _ (fun e => hne1 e.symm), marks_apart HGQ.out _ (fun e => hne2 e.symm), by rw [← HM.out]; exact HV.out.note hp D.out⟩, fun l h => by cases h⟩
    | fork ws =>
     obtain ⟨fa, fbb, hws, hfa, hfb⟩ := HOK.out
     subst hws
     have hys : ys = _ := hspo
     subst hys
     have s0 := hcl 0 _ (by omega) rfl
     rw [Nat.add_zero] at s0
     have s1 := hcl 1 _ (by omega) rfl
     have s2 := hcl 2 _ (by omega) rfl
     have s3 := hcl 3 _ (by omega) rfl
     have s4 := hcl 4 _ (by omega) rfl
     have hd : first (den (spots K) t f fa p) (first (den (spots K) t f fbb p) (some none)) = some x := by
      have h := D.out
      rw [den, HS.out] at h
      exact h
     clear hcl
     obtain ⟨P0, e0⟩ : ∃ P0, w.alloc (.cells #[.int .i64 0, .int .i64 0, .int .i64 0, .int .i64 0, .slice none 0 0] 122) = P0 := ⟨_, rfl⟩
     have hP0 : P0.heap[w.heap.size]? = some (.cells #[.int .i64 0, .int .i64 0, .int .i64 0, .int .i64 0, .slice none 0 0] 122 (0, 0)) := by rw [← e0]; exact heap_alloc_new _ _
     have gP0 : Grow w P0 := by rw [← e0]; exact (Grow.refl _).alloc _
     obtain ⟨x0, x1, x2, x3, x4⟩ := five_cells hP0
     have z0 := not_frozen (k := 0) hP0
     have z1 := not_frozen (k := 1) hP0
     have z2 := not_frozen (k := 2) hP0
     have z3 := not_frozen (k := 3) hP0
     have z4 := not_frozen (k := 4) hP0
     have hP := set_five hP0 (.int .i64 2) (.int .i64 fa) (.int .i64 fbb) (.int .i64 0) (.slice none 0 0)
     have gP : Grow w _ := grow_five gP0 (Nat.le_refl _) (.int .i64 2) (.int .i64 fa) (.int .i64 fbb) (.int .i64 0) (.slice none 0 0)
     obtain ⟨P1, eP⟩ : ∃ P1, (((((P0.setCell ⟨w.heap.size, 0, none⟩ (.int .i64 2)).setCell ⟨w.heap.size, 1, none⟩ (.int .i64 fa)).setCell ⟨w.heap.size, 2, none⟩ (.int .i64 fbb)).setCell ⟨w.heap.size, 3, none⟩ (.int .i64 0)).setCell ⟨w.heap.size, 4, none⟩ (.slice none 0 0)) = P1 := ⟨_, rfl⟩
     rw [eP] at hP gP
     obtain ⟨p0, p1, p2, p3, p4⟩ := five_cells hP
     have KQ : Hid (KB (own3 bb fb tb) w P1) := hide (.grow gP)
     have HWQ := hide (HW.out.keep KQ.out)
     have HBQ : Hid (boolsAt P1 bb bad) := hide (gP.get HB.out)
     have HFQ : Hid (marksAt P1 fb F) := hide (gP.get HF.out)
     have HGQ : Hid (marksAt P1 tb G) := hide (gP.get HG.out)
     have hspx : ¬ own3 bb fb tb w.heap.size := fun h => by
      have h1 := lt_of_block HB.out
      have h2 := lt_of_block HF.out
      have h3 := lt_of_block HG.out
      unfold own3 at h
      omega
     have HPB := hide hP
     have HPX := hide hspx
     clear hP hP0 gP0 gP hspx
     obtain ⟨a3, a4, a0, a1, a2, a5⟩ := wk_cells HWQ.out
     have hgq := HBQ.out.cell GT.out
     have fgq := not_frozen (k := M + p) HBQ.out
     obtain ⟨P2, eP2⟩ : ∃ P2, P1.setCell ⟨bb, M + p, none⟩ (.bool true) = P2 := ⟨_, rfl⟩
     have KQ2 : Hid (KB (own3 bb fb tb) w P2) := by rw [← eP2]; exact hide (KQ.out.trans (KB.set (.inl rfl) _))
     have HWQ2 := hide (HW.out.keep KQ2.out)
     have HBQ2 : Hid (boolsAt P2 bb (bad.set (M + p) true)) := by rw [← eP2]; exact hide (HBQ.out.set _ _)
     have HFQ2 : Hid (marksAt P2 fb F) := by rw [← eP2]; exact hide (marks_apart HFQ.out _ (fun e => hne1 e.symm))
     have HGQ2 : Hid (marksAt P2 tb G) := by rw [← eP2]; exact hide (marks_apart HGQ.out _ (fun e => hne2 e.symm))
     have HPB2 : Hid (P2.heap[w.heap.size]? = some (.cells #[.int .i64 2, .int .i64 (fa : Nat), .int .i64 (fbb : Nat), .int .i64 0, .slice none 0 0] 122 (0, 0))) := by rw [← eP2]; exact hide ((KB.set (X := own3 bb fb tb) (.inl rfl) _).get HPB.out HPX.out)
     obtain ⟨q0, q1, q2, q3, q4⟩ := five_cells HPB2.out
     have HSP2 : Hid (spentG (spots K) t (bad.set (M + p) true) f) := by rw [← HM.out]; exact hide (SP.out.put hp DF.out)
     have HIH := hide fun fz z (hfz : fz < K.length) (hdz : den (spots K) t f fz p = some z) W badx (h1 : KB (own3 bb fb tb) w W) (h2 : boolsAt W bb badx) (h3 : marksAt W fb F) (h4 : marksAt W tb G) (h5 : badx.length = bad.length) (h8 : spentG (spots K) t badx f) => IH.out fz p z W badx F G (by rw [h5]; exact HW.out.keep h1) h2 h3 h4 (by rw [h5]; exact LB.out) LF.out LG.out hdz hfz hp h8
     rcases first_eq hd with ⟨lv, hda, rfl⟩ | ⟨hda, hdb⟩
     ·
      have HDA := hide hda
      clear hd hda
      go_enter Tryz.func80, Tryz.ntmps80
      go_wp2_with fail
      refine (HIH.out fa (some lv) hfa HDA.out P2 _ KQ2.out HBQ2.out HFQ2.out HGQ2.out (by simp) HSP2.out).mono ?_
      rintro e W3 ⟨rfl, hk3, bad1, hl1, hb1, _, hs1⟩
      obtain ⟨hf1, hg1⟩ := hs1 lv rfl
      have KQ := hide (KQ2.out.trans hk3)
      have HWQ := hide (HW.out.keep KQ.out)
      have HBQ := hide hb1
      have HFQ := hide hf1
      have HGQ := hide hg1
      rw [List.length_set] at hl1
      have HLB2 := hide hl1
      have HLT : Hid (M + p < bad1.length) := by rw [hl1]; exact hide hidx
      clear hk3 hl1 hb1 hs1 hf1 hg1 a0 a1 a2 a5 q0 q1 q2 q3 q4 p0 p1 p2 p3 p4 e0 eP eP2 x0 x1 x2 x3 x4 z0 z1 z2 z3 z4 s0 s1 s2 s3 s4 hgq fgq
      simp only [Option.isSome_some]
      obtain ⟨a3, a4, a0, a1, a2, a5⟩ := wk_cells HWQ.out
      have hbm := HLT.out
      have hgb := List.getElem?_eq_getElem hbm
      have bq := HBQ.out.cell hgb
      have fbq := not_frozen (k := M + p) HBQ.out
      clear hgb
      go_wp2
      go_ret
      exact ⟨ret_bool (by simp), KQ.out.trans (KB.set (.inl rfl) _), _, List.length_set.trans HLB2.out, HBQ.out.set _ _, fun h => (by cases h), fun l h => by cases h; exact ⟨marks_apart HFQ.out _ (fun e => hne1 e.symm), marks_apart HGQ.out _ (fun e => hne2 e.symm)⟩⟩
     ·
      have hdb : den (spots K) t f fbb p = some x := by
       rcases first_eq hdb with ⟨lv, h1, rfl⟩ | ⟨h1, h2⟩
       ·
        exact h1
       ·
        rw [h1, ← h2]
      have HDA := hide hda
      have HDB := hide hdb
      clear hd hda hdb
      go_enter Tryz.func80, Tryz.ntmps80
      go_wp2_with fail
      refine (HIH.out fa none hfa HDA.out P2 _ KQ2.out HBQ2.out HFQ2.out HGQ2.out (by simp) HSP2.out).mono ?_
      rintro e W3 ⟨rfl, hk3, bad1, hl1, hb1, hn1, _⟩
      obtain ⟨hf1, hg1, hv1⟩ := hn1 rfl
      have KQ := hide (KQ2.out.trans hk3)
      have HBQ := hide hb1
      have HFQ := hide hf1
      have HGQ := hide hg1
      have HV1 := hide hv1
      rw [List.length_set] at hl1
      have HL1 := hide hl1
      obtain ⟨q0, q1, q2, q3, q4⟩ := five_cells (hk3.get HPB2.out HPX.out)
      clear hk3 hl1 hb1 hn1 hf1 hg1 hv1 a0 a1 a2 a5 p0 p1 p2 p3 p4 e0 eP eP2 x0 x1 x2 x3 x4 z0 z1 z2 z3 z4 s0 s1 s2 s3 s4 hgq fgq
      simp only [Option.isSome_none]
      go_wp2_with fail
      refine (HIH.out fbb x hfb HDB.out W3 _ KQ.out HBQ.out HFQ.out HGQ.out HL1.out (HSP2.out.vain HV1.out)).mono ?_
      rintro e W4 ⟨rfl, hk4, bad2, hl2, hb2, hn2, hs2⟩
      have KQ := hide (KQ.out.trans hk4)
      have HWQ := hide (HW.out.keep KQ.out)
      have HBQ := hide hb2
      have HLB2 : Hid (bad2.length = bad.length) := hide (hl2.trans HL1.out)
      have HLT : Hid (M + p < bad2.length) := by rw [HLB2.out]; exact hide hidx
      have HN2 := hide hn2
      have HS2 := hide hs2
      clear hk4 hl2 hb2 hn2 hs2 q0 q1 q2 q3 q4
      cases x with
      | none =>
       obtain ⟨hf1, hg1, hv1⟩ := HN2.out rfl
       have HFQ := hide hf1
       have HGQ := hide hg1
       have HV : Hid (vainG (spots K) t bad bad2) := by
        have h := HV1.out.trans hv1
        rw [← HM.out] at h
        exact hide (h.noted hp D.out)
       clear hf1 hg1 hv1
       simp only [Option.isSome_none]
       obtain ⟨a3, a4, a0, a1, a2, a5⟩ := wk_cells HWQ.out
       have hbm := HLT.out
       have hgb := List.getElem?_eq_getElem hbm
       have bq := HBQ.out.cell hgb
       have fbq := not_frozen (k := M + p) HBQ.out
       clear hgb
       go_wp2
       go_ret
       exact ⟨ret_bool (by simp), KQ.out.trans (KB.set (.inl rfl) _), _, List.length_set.trans HLB2.out, HBQ.out.set _ _, fun _ => ⟨marks_apart HFQ.out _ (fun e => hne1 e.symm), marks_apart HGQ.out _ (fun e => hne2 e.symm), by rw [← HM.out]; exact HV.out.note hp D.out⟩, fun l h => by cases h⟩
      | some lv =>
       obtain ⟨hf1, hg1⟩ := HS2.out lv rfl
       have HFQ := hide hf1
       have HGQ := hide hg1
       clear hf1 hg1
       simp only [Option.isSome_some]
       obtain ⟨a3, a4, a0, a1, a2, a5⟩ := wk_cells HWQ.out
       have hbm := HLT.out
       have hgb := List.getElem?_eq_getElem hbm
       have bq := HBQ.out.cell hgb
       have fbq := not_frozen (k := M + p) HBQ.out
       clear hgb
       go_wp2
       go_ret
       exact ⟨ret_bool (by simp), KQ.out.trans (KB.set (.inl rfl) _), _, List.length_set.trans HLB2.out, HBQ.out.set _ _, fun h => (by cases h), fun l h => by cases h; exact ⟨marks_apart HFQ.out _ (fun e => hne1 e.symm), marks_apart HGQ.out _ (fun e => hne2 e.symm)⟩⟩
    | mark sl nx =>
     by_cases hsl : sl % 2 = 0
     ·
      have hys : ys = _ := hspo
      rw [if_pos (by omega)] at hys
      subst hys
      have s0 := hcl 0 _ (by omega) rfl
      rw [Nat.add_zero] at s0
      have s1 := hcl 1 _ (by omega) rfl
      have s2 := hcl 2 _ (by omega) rfl
      have s3 := hcl 3 _ (by omega) rfl
      have s4 := hcl 4 _ (by omega) rfl
      obtain ⟨n1, hn1⟩ : ∃ n1 : Nat, sl / 2 + 1 = n1 := ⟨_, rfl⟩
      rw [hn1] at s3
      have hnx : nx < K.length := HOK.out.2
      have hn1g : n1 < g + 1 := by have := HOK.out.1; omega
      have hn1i : (n1 : Int) < ((g + 1 : Nat) : Int) := by omega
      have hn1i2 : (n1 : Int) < (g : Int) + 1 := by omega
      obtain ⟨y, hy, hxy⟩ : ∃ y, den (spots K) t f nx p = some y ∧ x = marked sl p y := by
       have h := D.out
       rw [den, HS.out] at h
       obtain ⟨y, h1, h2⟩ := map_some h
       exact ⟨y, h1, h2⟩
      have HDY := hide hy
      have HSL := hide hsl
      have HN1 := hide hn1
      clear hcl hy hn1
      obtain ⟨P0, e0⟩ : ∃ P0, w.alloc (.cells #[.int .i64 0, .int .i64 0, .int .i64 0, .int .i64 0, .slice none 0 0] 122) = P0 := ⟨_, rfl⟩
      have hP0 : P0.heap[w.heap.size]? = some (.cells #[.int .i64 0, .int .i64 0, .int .i64 0, .int .i64 0, .slice none 0 0] 122 (0, 0)) := by rw [← e0]; exact heap_alloc_new _ _
      have gP0 : Grow w P0 := by rw [← e0]; exact (Grow.refl _).alloc _
      obtain ⟨x0, x1, x2, x3, x4⟩ := five_cells hP0
      have z0 := not_frozen (k := 0) hP0
      have z1 := not_frozen (k := 1) hP0
      have z2 := not_frozen (k := 2) hP0
      have z3 := not_frozen (k := 3) hP0
      have z4 := not_frozen (k := 4) hP0
      have hP := set_five hP0 (.int .i64 3) (.int .i64 nx) (.int .i64 0) (.int .i64 n1) (.slice none 0 0)
      have gP : Grow w _ := grow_five gP0 (Nat.le_refl _) (.int .i64 3) (.int .i64 nx) (.int .i64 0) (.int .i64 n1) (.slice none 0 0)
      obtain ⟨P1, eP⟩ : ∃ P1, (((((P0.setCell ⟨w.heap.size, 0, none⟩ (.int .i64 3)).setCell ⟨w.heap.size, 1, none⟩ (.int .i64 nx)).setCell ⟨w.heap.size, 2, none⟩ (.int .i64 0)).setCell ⟨w.heap.size, 3, none⟩ (.int .i64 n1)).setCell ⟨w.heap.size, 4, none⟩ (.slice none 0 0)) = P1 := ⟨_, rfl⟩
      rw [eP] at hP gP
      obtain ⟨p0, p1, p2, p3, p4⟩ := five_cells hP
      have KQ : Hid (KB (own3 bb fb tb) w P1) := hide (.grow gP)
      have HWQ := hide (HW.out.keep KQ.out)
      have HBQ : Hid (boolsAt P1 bb bad) := hide (gP.get HB.out)
      have HFQ : Hid (marksAt P1 fb F) := hide (gP.get HF.out)
      have HGQ : Hid (marksAt P1 tb G) := hide (gP.get HG.out)
      have hspx : ¬ own3 bb fb tb w.heap.size := fun h => by
       have h1 := lt_of_block HB.out
       have h2 := lt_of_block HF.out
       have h3 := lt_of_block HG.out
       unfold own3 at h
       omega
      have HPB := hide hP
      have HPX := hide hspx
      clear hP hP0 gP0 gP hspx
      obtain ⟨fcp, a3⟩ := wk_from HWQ.out
      obtain ⟨bcp0, a1, a2⟩ := wk_head HWQ.out
      obtain ⟨was, hwas⟩ : ∃ v, F[n1]? = some v := ⟨_, List.getElem?_eq_getElem (by rw [LF.out]; exact hn1g)⟩
      have hwc := HFQ.out.cell hwas
      have HWAS := hide hwas
      have HIH := hide fun W badx Fx Gx (h1 : KB (own3 bb fb tb) w W) (h2 : boolsAt W bb badx) (h3 : marksAt W fb Fx) (h4 : marksAt W tb Gx) (h5 : badx.length = bad.length) (h6 : Fx.length = g + 1) (h7 : Gx.length = g + 1) (h8 : spentG (spots K) t badx f) => IH.out nx p y W badx Fx Gx (by rw [h5]; exact HW.out.keep h1) h2 h3 h4 (by rw [h5]; exact LB.out) h6 h7 HDY.out hnx hp h8
      clear hwas
      go_enter Tryz.func80, Tryz.ntmps80
      go_wp2
      go_quiet (fail)
      obtain ⟨Q1, HQ1⟩ : ∃ Q1, Hid (Q1 = World.drewN P1 nq) := ⟨_, hide rfl⟩
      rw [← HQ1.out]
      have gQ : Grow P1 Q1 := by rw [HQ1.out]; exact ⟨rfl, rfl, rfl, Nat.le_refl _, fun _ _ => rfl⟩
      have KQ := hide (KQ.out.trans (.grow gQ))
      have HWQ := hide (HW.out.keep KQ.out)
      have HBQ : Hid (boolsAt Q1 bb bad) := hide (gQ.get HBQ.out)
      have HFQ : Hid (marksAt Q1 fb F) := hide (gQ.get HFQ.out)
      have HGQ : Hid (marksAt Q1 tb G) := hide (gQ.get HGQ.out)
      have HPB := hide (gQ.get HPB.out)
      clear HQ1 gQ a3 a1 a2 p0 p1 p2 p3 p4 e0 eP x0 x1 x2 x3 x4 z0 z1 z2 z3 z4 s0 s1 s2 s3 s4 hwc
      obtain ⟨fcp, a3⟩ := wk_from HWQ.out
      go_wp2
      refine wp_region_free 8 174 Tryz.mixed2 rfl (by decide +kernel) Grow (fun _ _ _ => Grow.trans) (Grow.refl _)
       (fun i v w' => match i with
        | 0 => v = .pointer (some ⟨wb, 0, none⟩)
        | 1 => v = .pointer (some ⟨wb, 0, none⟩)
        | 2 => v = .pointer (some ⟨wb, 3, none⟩)
        | 3 => v = .slice (some ⟨fb, 0, none⟩) (g + 1) fcp
        | 4 => v = .pointer (some ⟨w.heap.size, 3, none⟩)
        | 5 => v = .int .i64 (n1 : Nat)
        | 6 => v = .int .i64 (p : Nat)
        | _ => v = .pointer (some ⟨fb, n1, none⟩))
       (fun i v w1 w2 h hg => h) (fun _ _ => False) (fun _ _ _ _ h => h.elim) (fun i hi o ho a w2 hG hoff hdep => ?_) (fun vals w2 hG hvals => ?_)
      ·
       have gg : Grow Q1 w2 := hG.undrew
       have b3 := (cell_keep (sp := none) (o := 3) (gg.block wb (wk_lt HWQ.out))).trans a3
       obtain ⟨q0, q1, q2, q3, q4⟩ := five_cells (gg.get HPB.out)
       match i, hi with
       | 0, _ =>
        obtain rfl := Option.some.inj ho
        have o0 := hoff 0 (by decide +kernel)
        simp at o0
        simp [opYields, go_sem, o0]
        exact Grow.refl _
       | 1, _ =>
        obtain rfl := Option.some.inj ho
        have d0 := hdep 0 (by decide +kernel)
        simp [slotOf, dstOf] at d0
        simp [opYields, go_sem, d0]
        exact Grow.refl _
       | 2, _ =>
        obtain rfl := Option.some.inj ho
        have d1 := hdep 1 (by decide +kernel)
        simp [slotOf, dstOf] at d1
        simp [opYields, go_sem, d1]
        exact Grow.refl _
       | 3, _ =>
        obtain rfl := Option.some.inj ho
        have d2 := hdep 2 (by decide +kernel)
        simp [slotOf, dstOf] at d2
        simp [opYields, go_sem, d2, b3]
        exact Grow.refl _
       | 4, _ =>
        obtain rfl := Option.some.inj ho
        have o8 := hoff 8 (by decide +kernel)
        simp at o8
        simp [opYields, go_sem, o8]
        exact Grow.refl _
       | 5, _ =>
        obtain rfl := Option.some.inj ho
        have d4 := hdep 4 (by decide +kernel)
        simp [slotOf, dstOf] at d4
        simp [opYields, go_sem, d4, q3]
        exact Grow.refl _
       | 6, _ =>
        obtain rfl := Option.some.inj ho
        have o2 := hoff 2 (by decide +kernel)
        simp at o2
        simp [opYields, go_sem, o2]
        exact Grow.refl _
       | 7, _ =>
        obtain rfl := Option.some.inj ho
        have d3 := hdep 3 (by decide +kernel)
        simp [slotOf, dstOf] at d3
        have d5 := hdep 5 (by decide +kernel)
        simp [slotOf, dstOf] at d5
        simp [opYields, go_sem, d3, d5, hn1g, hn1i, hn1i2]
        exact Grow.refl _
       | k + 8, h => exact absurd h (by omega)
      ·
       have v6 := hvals 6 (by omega)
       have v7 := hvals 7 (by omega)
       simp only at v6 v7
       have gg : Grow Q1 w2 := hG.undrew
       obtain ⟨c0, hc0⟩ : ∃ v, F[n1]? = some v := ⟨_, HWAS.out⟩
       have hcc := (show marksAt w2 fb F from gg.get HFQ.out).cell HWAS.out
       have hfz := not_frozen (k := n1) (gg.get HFQ.out)
       obtain ⟨Q2, eQ2⟩ : ∃ Q2, w2.setCell ⟨fb, n1, none⟩ (.int .i64 (p : Nat)) = Q2 := ⟨_, rfl⟩
       have KQ : Hid (KB (own3 bb fb tb) w Q2) := by rw [← eQ2]; exact hide ((KQ.out.trans (.grow gg)).trans (KB.set (.inr (.inl rfl)) _))
       have HWQ := hide (HW.out.keep KQ.out)
       have HBQ : Hid (boolsAt Q2 bb bad) := by rw [← eQ2]; exact hide (bools_apart (gg.get HBQ.out) _ hne1)
       have HGQ : Hid (marksAt Q2 tb G) := by rw [← eQ2]; exact hide (marks_apart (gg.get HGQ.out) _ (fun e => hne3 e.symm))
       have HFQ : Hid (marksAt Q2 fb (F.set n1 (p : Nat))) := by rw [← eQ2]; exact hide ((show marksAt w2 fb F from gg.get HFQ.out).set _ _)
       have HPB : Hid (Q2.heap[w.heap.size]? = some (.cells #[.int .i64 3, .int .i64 (nx : Nat), .int .i64 0, .int .i64 (n1 : Nat), .slice none 0 0] 122 (0, 0))) := by rw [← eQ2]; exact hide ((KB.set (X := own3 bb fb tb) (.inr (.inl rfl)) _).get (gg.get HPB.out) HPX.out)
       obtain ⟨q0, q1, q2, q3, q4⟩ := five_cells HPB.out
       clear hG gg hvals c0 hc0 a3
       simp [over, dstOf, Act.put, v6, v7]
       go_wp2_with fail
       clear eQ2
       refine (HIH.out Q2 bad (F.set n1 (p : Nat)) G KQ.out HBQ.out HFQ.out HGQ.out rfl (by simp [LF.out]) (by simp [LG.out]) SP.out.down).mono ?_
       rintro e W3 ⟨rfl, hk3, bad1, hl1, hb1, hn1, hs1⟩
       have KQ := hide (KQ.out.trans hk3)
       have HWQ := hide (HW.out.keep KQ.out)
       have HBQ := hide hb1
       have HLB2 := hide hl1
       have HLT : Hid (M + p < bad1.length) := by rw [hl1]; exact hide hidx
       have HPB := hide (hk3.get HPB.out HPX.out)
       have HNN := hide hn1
       have HSS := hide hs1
       clear hk3 hl1 hb1 hn1 hs1 q0 q1 q2 q3 q4 hcc hfz
       cases y with
       | none =>
        obtain rfl : x = none := hxy
        obtain ⟨hf1, hg1, hv1⟩ := HNN.out rfl
        have HFQ := hide hf1
        have HGQ := hide hg1
        have HV := hide hv1
        clear hf1 hg1 hv1
        simp only [Option.isSome_none]
        obtain ⟨fcp, a3⟩ := wk_from HWQ.out
        go_wp2
        refine wp_region_free 8 174 Tryz.mixed2 rfl (by decide +kernel) Grow (fun _ _ _ => Grow.trans) (Grow.refl _)
         (fun i v w' => match i with
          | 0 => v = .pointer (some ⟨wb, 0, none⟩)
          | 1 => v = .pointer (some ⟨wb, 0, none⟩)
          | 2 => v = .pointer (some ⟨wb, 3, none⟩)
          | 3 => v = .slice (some ⟨fb, 0, none⟩) (g + 1) fcp
          | 4 => v = .pointer (some ⟨w.heap.size, 3, none⟩)
          | 5 => v = .int .i64 (n1 : Nat)
          | 6 => v = .int .i64 was
          | _ => v = .pointer (some ⟨fb, n1, none⟩))
         (fun i v w1 w2 h hg => h) (fun _ _ => False) (fun _ _ _ _ h => h.elim) (fun i hi o ho a w2 hG hoff hdep => ?_) (fun vals w2 hG hvals => ?_)
        ·
         have gg : Grow W3 w2 := hG.undrew
         have b3 := (cell_keep (sp := none) (o := 3) (gg.block wb (wk_lt HWQ.out))).trans a3
         obtain ⟨q0, q1, q2, q3, q4⟩ := five_cells (gg.get HPB.out)
         match i, hi with
         | 0, _ =>
          obtain rfl := Option.some.inj ho
          have o0 := hoff 0 (by decide +kernel)
          simp at o0
          simp [opYields, go_sem, o0]
          exact Grow.refl _
         | 1, _ =>
          obtain rfl := Option.some.inj ho
          have d0 := hdep 0 (by decide +kernel)
          simp [slotOf, dstOf] at d0
          simp [opYields, go_sem, d0]
          exact Grow.refl _
         | 2, _ =>
          obtain rfl := Option.some.inj ho
          have d1 := hdep 1 (by decide +kernel)
          simp [slotOf, dstOf] at d1
          simp [opYields, go_sem, d1]
          exact Grow.refl _
         | 3, _ =>
          obtain rfl := Option.some.inj ho
          have d2 := hdep 2 (by decide +kernel)
          simp [slotOf, dstOf] at d2
          simp [opYields, go_sem, d2, b3]
          exact Grow.refl _
         | 4, _ =>
          obtain rfl := Option.some.inj ho
          have o8 := hoff 8 (by decide +kernel)
          simp at o8
          simp [opYields, go_sem, o8]
          exact Grow.refl _
         | 5, _ =>
          obtain rfl := Option.some.inj ho
          have d4 := hdep 4 (by decide +kernel)
          simp [slotOf, dstOf] at d4
          simp [opYields, go_sem, d4, q3]
          exact Grow.refl _
         | 6, _ =>
          obtain rfl := Option.some.inj ho
          have o10 := hoff 10 (by decide +kernel)
          simp at o10
          simp [opYields, go_sem, o10]
          exact Grow.refl _
         | 7, _ =>
          obtain rfl := Option.some.inj ho
          have d3 := hdep 3 (by decide +kernel)
          simp [slotOf, dstOf] at d3
          have d5 := hdep 5 (by decide +kernel)
          simp [slotOf, dstOf] at d5
          simp [opYields, go_sem, d3, d5, hn1g, hn1i, hn1i2]
          exact Grow.refl _
         | k + 8, h => exact absurd h (by omega)
        ·
         have v6 := hvals 6 (by omega)
         have v7 := hvals 7 (by omega)
         simp only at v6 v7
         have gg : Grow W3 w2 := hG.undrew
         have hcc := (show marksAt w2 fb (F.set n1 (p : Nat)) from gg.get HFQ.out).cell (k := n1) (List.getElem?_set_self (by rw [LF.out]; exact hn1g))
         have hfz := not_frozen (k := n1) (gg.get HFQ.out)
         obtain ⟨Q3, eQ3⟩ : ∃ Q3, w2.setCell ⟨fb, n1, none⟩ (.int .i64 was) = Q3 := ⟨_, rfl⟩
         have KQ : Hid (KB (own3 bb fb tb) w Q3) := by rw [← eQ3]; exact hide ((KQ.out.trans (.grow gg)).trans (KB.set (.inr (.inl rfl)) _))
         have HWQ := hide (HW.out.keep KQ.out)
         have HBQ : Hid (boolsAt Q3 bb bad1) := by rw [← eQ3]; exact hide (bools_apart (gg.get HBQ.out) _ hne1)
         have HGQ : Hid (marksAt Q3 tb G) := by rw [← eQ3]; exact hide (marks_apart (gg.get HGQ.out) _ (fun e => hne3 e.symm))
         have HFQ : Hid (marksAt Q3 fb F) := by
          have h := (show marksAt w2 fb (F.set n1 (p : Nat)) from gg.get HFQ.out).set n1 was
          rw [eQ3, List.set_set, set_back HWAS.out] at h
          exact hide h
         clear hG gg hvals a3
         simp [over, dstOf, Act.put, v6, v7]
         obtain ⟨a3, a4, a0, a1, a2, a5⟩ := wk_cells HWQ.out
         have hbm := HLT.out
         have hgb := List.getElem?_eq_getElem hbm
         have bq := HBQ.out.cell hgb
         have fbq := not_frozen (k := M + p) HBQ.out
         clear hgb
         go_wp2
         go_ret
         exact ⟨ret_bool (by simp), KQ.out.trans (KB.set (.inl rfl) _), _, List.length_set.trans HLB2.out, HBQ.out.set _ _, fun _ => ⟨marks_apart HFQ.out _ (fun e => hne1 e.symm), marks_apart HGQ.out _ (fun e => hne2 e.symm), by rw [← HM.out]; exact HV.out.note hp D.out⟩, fun l h => by cases h⟩
       | some lv =>
        obtain rfl : x = some ((sl, p) :: lv) := hxy
        obtain ⟨hf1, hg1⟩ := HSS.out lv rfl
        have HFQ := hide hf1
        have HGQ := hide hg1
        clear hf1 hg1
        have HPF : Hid (putE 0 F ((sl, p) :: lv) = putE 0 (F.set n1 (p : Nat)) lv) := by
         refine hide ?_
         rw [putE, if_pos (by omega), HN1.out]
        have HPG : Hid (putE 1 G ((sl, p) :: lv) = putE 1 G lv) := by
         refine hide ?_
         rw [putE, if_neg (by omega)]
        rw [← HPF.out] at HFQ
        rw [← HPG.out] at HGQ
        simp only [Option.isSome_some]
        obtain ⟨a3, a4, a0, a1, a2, a5⟩ := wk_cells HWQ.out
        have hbm := HLT.out
        have hgb := List.getElem?_eq_getElem hbm
        have bq := HBQ.out.cell hgb
        have fbq := not_frozen (k := M + p) HBQ.out
        clear hgb
        go_wp2
        go_ret
        exact ⟨ret_bool (by simp), KQ.out.trans (KB.set (.inl rfl) _), _, List.length_set.trans HLB2.out, HBQ.out.set _ _, fun h => (by cases h), fun l h => by cases h; exact ⟨marks_apart HFQ.out _ (fun e => hne1 e.symm), marks_apart HGQ.out _ (fun e => hne2 e.symm)⟩⟩
     ·
      have hys : ys = _ := hspo
      rw [if_neg (by omega)] at hys
      subst hys
      have s0 := hcl 0 _ (by omega) rfl
      rw [Nat.add_zero] at s0
      have s1 := hcl 1 _ (by omega) rfl
      have s2 := hcl 2 _ (by omega) rfl
      have s3 := hcl 3 _ (by omega) rfl
      have s4 := hcl 4 _ (by omega) rfl
      obtain ⟨n1, hn1⟩ : ∃ n1 : Nat, sl / 2 + 1 = n1 := ⟨_, rfl⟩
      rw [hn1] at s3
      have hnx : nx < K.length := HOK.out.2
      have hn1g : n1 < g + 1 := by have := HOK.out.1; omega
      have hn1i : (n1 : Int) < ((g + 1 : Nat) : Int) := by omega
      have hn1i2 : (n1 : Int) < (g : Int) + 1 := by omega
      obtain ⟨y, hy, hxy⟩ : ∃ y, den (spots K) t f nx p = some y ∧ x = marked sl p y := by
       have h := D.out
       rw [den, HS.out] at h
       obtain ⟨y, h1, h2⟩ := map_some h
       exact ⟨y, h1, h2⟩
      have HDY := hide hy
      have HSL := hide hsl
      have HN1 := hide hn1
      clear hcl hy hn1
      obtain ⟨P0, e0⟩ : ∃ P0, w.alloc (.cells #[.int .i64 0, .int .i64 0, .int .i64 0, .int .i64 0, .slice none 0 0] 122) = P0 := ⟨_, rfl⟩
      have hP0 : P0.heap[w.heap.size]? = some (.cells #[.int .i64 0, .int .i64 0, .int .i64 0, .int .i64 0, .slice none 0 0] 122 (0, 0)) := by rw [← e0]; exact heap_alloc_new _ _
      have gP0 : Grow w P0 := by rw [← e0]; exact (Grow.refl _).alloc _
      obtain ⟨x0, x1, x2, x3, x4⟩ := five_cells hP0
      have z0 := not_frozen (k := 0) hP0
      have z1 := not_frozen (k := 1) hP0
      have z2 := not_frozen (k := 2) hP0
      have z3 := not_frozen (k := 3) hP0
      have z4 := not_frozen (k := 4) hP0
      have hP := set_five hP0 (.int .i64 4) (.int .i64 nx) (.int .i64 0) (.int .i64 n1) (.slice none 0 0)
      have gP : Grow w _ := grow_five gP0 (Nat.le_refl _) (.int .i64 4) (.int .i64 nx) (.int .i64 0) (.int .i64 n1) (.slice none 0 0)
      obtain ⟨P1, eP⟩ : ∃ P1, (((((P0.setCell ⟨w.heap.size, 0, none⟩ (.int .i64 4)).setCell ⟨w.heap.size, 1, none⟩ (.int .i64 nx)).setCell ⟨w.heap.size, 2, none⟩ (.int .i64 0)).setCell ⟨w.heap.size, 3, none⟩ (.int .i64 n1)).setCell ⟨w.heap.size, 4, none⟩ (.slice none 0 0)) = P1 := ⟨_, rfl⟩
      rw [eP] at hP gP
      obtain ⟨p0, p1, p2, p3, p4⟩ := five_cells hP
      have KQ : Hid (KB (own3 bb fb tb) w P1) := hide (.grow gP)
      have HWQ := hide (HW.out.keep KQ.out)
      have HBQ : Hid (boolsAt P1 bb bad) := hide (gP.get HB.out)
      have HFQ : Hid (marksAt P1 fb F) := hide (gP.get HF.out)
      have HGQ : Hid (marksAt P1 tb G) := hide (gP.get HG.out)
      have hspx : ¬ own3 bb fb tb w.heap.size := fun h => by
       have h1 := lt_of_block HB.out
       have h2 := lt_of_block HF.out
       have h3 := lt_of_block HG.out
       unfold own3 at h
       omega
      have HPB := hide hP
      have HPX := hide hspx
      clear hP hP0 gP0 gP hspx
      obtain ⟨fcp, a4⟩ := wk_to HWQ.out
      obtain ⟨bcp0, a1, a2⟩ := wk_head HWQ.out
      obtain ⟨was, hwas⟩ : ∃ v, G[n1]? = some v := ⟨_, List.getElem?_eq_getElem (by rw [LG.out]; exact hn1g)⟩
      have hwc := HGQ.out.cell hwas
      have HWAS := hide hwas
      have HIH := hide fun W badx Fx Gx (h1 : KB (own3 bb fb tb) w W) (h2 : boolsAt W bb badx) (h3 : marksAt W fb Fx) (h4 : marksAt W tb Gx) (h5 : badx.length = bad.length) (h6 : Fx.length = g + 1) (h7 : Gx.length = g + 1) (h8 : spentG (spots K) t badx f) => IH.out nx p y W badx Fx Gx (by rw [h5]; exact HW.out.keep h1) h2 h3 h4 (by rw [h5]; exact LB.out) h6 h7 HDY.out hnx hp h8
      clear hwas
      go_enter Tryz.func80, Tryz.ntmps80
      go_wp2
      go_quiet (fail)
      obtain ⟨Q1, HQ1⟩ : ∃ Q1, Hid (Q1 = World.drewN P1 nq) := ⟨_, hide rfl⟩
      rw [← HQ1.out]
      have gQ : Grow P1 Q1 := by rw [HQ1.out]; exact ⟨rfl, rfl, rfl, Nat.le_refl _, fun _ _ => rfl⟩
      have KQ := hide (KQ.out.trans (.grow gQ))
      have HWQ := hide (HW.out.keep KQ.out)
      have HBQ : Hid (boolsAt Q1 bb bad) := hide (gQ.get HBQ.out)
      have HFQ : Hid (marksAt Q1 fb F) := hide (gQ.get HFQ.out)
      have HGQ : Hid (marksAt Q1 tb G) := hide (gQ.get HGQ.out)
      have HPB := hide (gQ.get HPB.out)
      clear HQ1 gQ a4 a1 a2 p0 p1 p2 p3 p4 e0 eP x0 x1 x2 x3 x4 z0 z1 z2 z3 z4 s0 s1 s2 s3 s4 hwc
      obtain ⟨fcp, a4⟩ := wk_to HWQ.out
      go_wp2
      refine wp_region_free 8 174 Tryz.mixed2 rfl (by decide +kernel) Grow (fun _ _ _ => Grow.trans) (Grow.refl _)
       (fun i v w' => match i with
        | 0 => v = .pointer (some ⟨wb, 0, none⟩)
        | 1 => v = .pointer (some ⟨wb, 0, none⟩)
        | 2 => v = .pointer (some ⟨wb, 4, none⟩)
        | 3 => v = .slice (some ⟨tb, 0, none⟩) (g + 1) fcp
        | 4 => v = .pointer (some ⟨w.heap.size, 3, none⟩)
        | 5 => v = .int .i64 (n1 : Nat)
        | 6 => v = .int .i64 (p : Nat)
        | _ => v = .pointer (some ⟨tb, n1, none⟩))
       (fun i v w1 w2 h hg => h) (fun _ _ => False) (fun _ _ _ _ h => h.elim) (fun i hi o ho a w2 hG hoff hdep => ?_) (fun vals w2 hG hvals => ?_)
      ·
       have gg : Grow Q1 w2 := hG.undrew
       have b4 := (cell_keep (sp := none) (o := 4) (gg.block wb (wk_lt HWQ.out))).trans a4
       obtain ⟨q0, q1, q2, q3, q4⟩ := five_cells (gg.get HPB.out)
       match i, hi with
       | 0, _ =>
        obtain rfl := Option.some.inj ho
        have o0 := hoff 0 (by decide +kernel)
        simp at o0
        simp [opYields, go_sem, o0]
        exact Grow.refl _
       | 1, _ =>
        obtain rfl := Option.some.inj ho
        have d0 := hdep 0 (by decide +kernel)
        simp [slotOf, dstOf] at d0
        simp [opYields, go_sem, d0]
        exact Grow.refl _
       | 2, _ =>
        obtain rfl := Option.some.inj ho
        have d1 := hdep 1 (by decide +kernel)
        simp [slotOf, dstOf] at d1
        simp [opYields, go_sem, d1]
        exact Grow.refl _
       | 3, _ =>
        obtain rfl := Option.some.inj ho
        have d2 := hdep 2 (by decide +kernel)
        simp [slotOf, dstOf] at d2
        simp [opYields, go_sem, d2, b4]
        exact Grow.refl _
       | 4, _ =>
        obtain rfl := Option.some.inj ho
        have o8 := hoff 8 (by decide +kernel)
        simp at o8
        simp [opYields, go_sem, o8]
        exact Grow.refl _
       | 5, _ =>
        obtain rfl := Option.some.inj ho
        have d4 := hdep 4 (by decide +kernel)
        simp [slotOf, dstOf] at d4
        simp [opYields, go_sem, d4, q3]
        exact Grow.refl _
       | 6, _ =>
        obtain rfl := Option.some.inj ho
        have o2 := hoff 2 (by decide +kernel)
        simp at o2
        simp [opYields, go_sem, o2]
        exact Grow.refl _
       | 7, _ =>
        obtain rfl := Option.some.inj ho
        have d3 := hdep 3 (by decide +kernel)
        simp [slotOf, dstOf] at d3
        have d5 := hdep 5 (by decide +kernel)
        simp [slotOf, dstOf] at d5
        simp [opYields, go_sem, d3, d5, hn1g, hn1i, hn1i2]
        exact Grow.refl _
       | k + 8, h => exact absurd h (by omega)
      ·
       have v6 := hvals 6 (by omega)
       have v7 := hvals 7 (by omega)
       simp only at v6 v7
       have gg : Grow Q1 w2 := hG.undrew
       obtain ⟨c0, hc0⟩ : ∃ v, G[n1]? = some v := ⟨_, HWAS.out⟩
       have hcc := (show marksAt w2 tb G from gg.get HGQ.out).cell HWAS.out
       have hfz := not_frozen (k := n1) (gg.get HGQ.out)
       obtain ⟨Q2, eQ2⟩ : ∃ Q2, w2.setCell ⟨tb, n1, none⟩ (.int .i64 (p : Nat)) = Q2 := ⟨_, rfl⟩
       have KQ : Hid (KB (own3 bb fb tb) w Q2) := by rw [← eQ2]; exact hide ((KQ.out.trans (.grow gg)).trans (KB.set (.inr (.inr rfl)) _))
       have HWQ := hide (HW.out.keep KQ.out)
       have HBQ : Hid (boolsAt Q2 bb bad) := by rw [← eQ2]; exact hide (bools_apart (gg.get HBQ.out) _ hne2)
       have HFQ : Hid (marksAt Q2 fb F) := by rw [← eQ2]; exact hide (marks_apart (gg.get HFQ.out) _ hne3)
       have HGQ : Hid (marksAt Q2 tb (G.set n1 (p : Nat))) := by rw [← eQ2]; exact hide ((show marksAt w2 tb G from gg.get HGQ.out).set _ _)
       have HPB : Hid (Q2.heap[w.heap.size]? = some (.cells #[.int .i64 4, .int .i64 (nx : Nat), .int .i64 0, .int .i64 (n1 : Nat), .slice none 0 0] 122 (0, 0))) := by rw [← eQ2]; exact hide ((KB.set (X := own3 bb fb tb) (.inr (.inr rfl)) _).get (gg.get HPB.out) HPX.out)
       obtain ⟨q0, q1, q2, q3, q4⟩ := five_cells HPB.out
       clear hG gg hvals c0 hc0 a4
       simp [over, dstOf, Act.put, v6, v7]
       go_wp2_with fail
       clear eQ2
       refine (HIH.out Q2 bad F (G.set n1 (p : Nat)) KQ.out HBQ.out HFQ.out HGQ.out rfl (by simp [LF.out]) (by simp [LG.out]) SP.out.down).mono ?_
       rintro e W3 ⟨rfl, hk3, bad1, hl1, hb1, hn1, hs1⟩
       have KQ := hide (KQ.out.trans hk3)
       have HWQ := hide (HW.out.keep KQ.out)
       have HBQ := hide hb1
       have HLB2 := hide hl1
       have HLT : Hid (M + p < bad1.length) := by rw [hl1]; exact hide hidx
       have HPB := hide (hk3.get HPB.out HPX.out)
       have HNN := hide hn1
       have HSS := hide hs1
       clear hk3 hl1 hb1 hn1 hs1 q0 q1 q2 q3 q4 hcc hfz
       cases y with
       | none =>
        obtain rfl : x = none := hxy
        obtain ⟨hf1, hg1, hv1⟩ := HNN.out rfl
        have HFQ := hide hf1
        have HGQ := hide hg1
        have HV := hide hv1
        clear hf1 hg1 hv1
        simp only [Option.isSome_none]
        obtain ⟨fcp, a4⟩ := wk_to HWQ.out
        go_wp2
        refine wp_region_free 8 174 Tryz.mixed2 rfl (by decide +kernel) Grow (fun _ _ _ => Grow.trans) (Grow.refl _)
         (fun i v w' => match i with
          | 0 => v = .pointer (some ⟨wb, 0, none⟩)
          | 1 => v = .pointer (some ⟨wb, 0, none⟩)
          | 2 => v = .pointer (some ⟨wb, 4, none⟩)
          | 3 => v = .slice (some ⟨tb, 0, none⟩) (g + 1) fcp
          | 4 => v = .pointer (some ⟨w.heap.size, 3, none⟩)
          | 5 => v = .int .i64 (n1 : Nat)
          | 6 => v = .int .i64 was
          | _ => v = .pointer (some ⟨tb, n1, none⟩))
         (fun i v w1 w2 h hg => h) (fun _ _ => False) (fun _ _ _ _ h => h.elim) (fun i hi o ho a w2 hG hoff hdep => ?_) (fun vals w2 hG hvals => ?_)
        ·
         have gg : Grow W3 w2 := hG.undrew
         have b4 := (cell_keep (sp := none) (o := 4) (gg.block wb (wk_lt HWQ.out))).trans a4
         obtain ⟨q0, q1, q2, q3, q4⟩ := five_cells (gg.get HPB.out)
         match i, hi with
         | 0, _ =>
          obtain rfl := Option.some.inj ho
          have o0 := hoff 0 (by decide +kernel)
          simp at o0
          simp [opYields, go_sem, o0]
          exact Grow.refl _
         | 1, _ =>
          obtain rfl := Option.some.inj ho
          have d0 := hdep 0 (by decide +kernel)
          simp [slotOf, dstOf] at d0
          simp [opYields, go_sem, d0]
          exact Grow.refl _
         | 2, _ =>
          obtain rfl := Option.some.inj ho
          have d1 := hdep 1 (by decide +kernel)
          simp [slotOf, dstOf] at d1
          simp [opYields, go_sem, d1]
          exact Grow.refl _
         | 3, _ =>
          obtain rfl := Option.some.inj ho
          have d2 := hdep 2 (by decide +kernel)
          simp [slotOf, dstOf] at d2
          simp [opYields, go_sem, d2, b4]
          exact Grow.refl _
         | 4, _ =>
          obtain rfl := Option.some.inj ho
          have o8 := hoff 8 (by decide +kernel)
          simp at o8
          simp [opYields, go_sem, o8]
          exact Grow.refl _
         | 5, _ =>
          obtain rfl := Option.some.inj ho
          have d4 := hdep 4 (by decide +kernel)
          simp [slotOf, dstOf] at d4
          simp [opYields, go_sem, d4, q3]
          exact Grow.refl _
         | 6, _ =>
          obtain rfl := Option.some.inj ho
          have o11 := hoff 11 (by decide +kernel)
          simp at o11
          simp [opYields, go_sem, o11]
          exact Grow.refl _
         | 7, _ =>
          obtain rfl := Option.some.inj ho
          have d3 := hdep 3 (by decide +kernel)
          simp [slotOf, dstOf] at d3
          have d5 := hdep 5 (by decide +kernel)
          simp [slotOf, dstOf] at d5
          simp [opYields, go_sem, d3, d5, hn1g, hn1i, hn1i2]
          exact Grow.refl _
         | k + 8, h => exact absurd h (by omega)
        ·
         have v6 := hvals 6 (by omega)
         have v7 := hvals 7 (by omega)
         simp only at v6 v7
         have gg : Grow W3 w2 := hG.undrew
         have hcc := (show marksAt w2 tb (G.set n1 (p : Nat)) from gg.get HGQ.out).cell (k := n1) (List.getElem?_set_self (by rw [LG.out]; exact hn1g))
         have hfz := not_frozen (k := n1) (gg.get HGQ.out)
         obtain ⟨Q3, eQ3⟩ : ∃ Q3, w2.setCell ⟨tb, n1, none⟩ (.int .i64 was) = Q3 := ⟨_, rfl⟩
         have KQ : Hid (KB (own3 bb fb tb) w Q3) := by rw [← eQ3]; exact hide ((KQ.out.trans (.grow gg)).trans (KB.set (.inr (.inr rfl)) _))
         have HWQ := hide (HW.out.keep KQ.out)
         have HBQ : Hid (boolsAt Q3 bb bad1) := by rw [← eQ3]; exact hide (bools_apart (gg.get HBQ.out) _ hne2)
         have HFQ : Hid (marksAt Q3 fb F) := by rw [← eQ3]; exact hide (marks_apart (gg.get HFQ.out) _ hne3)
         have HGQ : Hid (marksAt Q3 tb G) := by
          have h := (show marksAt w2 tb (G.set n1 (p : Nat)) from gg.get HGQ.out).set n1 was
          rw [eQ3, List.set_set, set_back HWAS.out] at h
          exact hide h
         clear hG gg hvals a4
         simp [over, dstOf, Act.put, v6, v7]
         obtain ⟨a3, a4, a0, a1, a2, a5⟩ := wk_cells HWQ.out
         have hbm := HLT.out
         have hgb := List.getElem?_eq_getElem hbm
         have bq := HBQ.out.cell hgb
         have fbq := not_frozen (k := M + p) HBQ.out
         clear hgb
         go_wp2
         go_ret
         exact ⟨ret_bool (by simp), KQ.out.trans (KB.set (.inl rfl) _), _, List.length_set.trans HLB2.out, HBQ.out.set _ _, fun _ => ⟨marks_apart HFQ.out _ (fun e => hne1 e.symm), marks_apart HGQ.out _ (fun e => hne2 e.symm), by rw [← HM.out]; exact HV.out.note hp D.out⟩, fun l h => by cases h⟩
       | some lv =>
        obtain rfl : x = some ((sl, p) :: lv) := hxy
        obtain ⟨hf1, hg1⟩ := HSS.out lv rfl
        have HFQ := hide hf1
        have HGQ := hide hg1
        clear hf1 hg1
        have HPF : Hid (putE 0 F ((sl, p) :: lv) = putE 0 F lv) := by
         refine hide ?_
         rw [putE, if_neg (by omega)]
        have HPG : Hid (putE 1 G ((sl, p) :: lv) = putE 1 (G.set n1 (p : Nat)) lv) := by
         refine hide ?_
         rw [putE, if_pos (by omega), HN1.out]
        rw [← HPF.out] at HFQ
        rw [← HPG.out] at HGQ
        simp only [Option.isSome_some]
        obtain ⟨a3, a4, a0, a1, a2, a5⟩ := wk_cells HWQ.out
        have hbm := HLT.out
        have hgb := List.getElem?_eq_getElem hbm
        have bq := HBQ.out.cell hgb
        have fbq := not_frozen (k := M + p) HBQ.out
        clear hgb
        go_wp2
        go_ret
        exact ⟨ret_bool (by simp), KQ.out.trans (KB.set (.inl rfl) _), _, List.length_set.trans HLB2.out, HBQ.out.set _ _, fun h => (by cases h), fun l h => by cases h; exact ⟨marks_apart HFQ.out _ (fun e => hne1 e.symm), marks_apart HGQ.out _ (fun e => hne2 e.symm)⟩⟩
end Go.Proofs.YtndpjdmfkhjiiaaGreatDoor
