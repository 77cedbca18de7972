/- 2 texts in one. -/
import Derived.Laws.OwnMore
import Derived.Test.YtndpjdmfkhjiiaaGreatDoorProg
import Derived.Test.YtndpjdmfkhjiiaaGreatDoorQ74d152
import Derived.Test.YtndpjdmfkhjiiaaGreatDoorQ3d7cfc
import Derived.Test.YtndpjdmfkhjiiaaGreatDoorQ082284
import Derived.Test.YtndpjdmfkhjiiaaGreatDoorMFromV
import Derived.Test.YtndpjdmfkhjiiaaGreatDoorQfa040f
import Derived.Test.YtndpjdmfkhjiiaaGreatDoorQ06840a
import Derived.Test.YtndpjdmfkhjiiaaGreatDoorMRdAV
import Derived.Test.YtndpjdmfkhjiiaaGreatDoorQ6cc641
import Derived.BigQuiet
/- The document's own graph of a mask in memory: spots; one is put there. -/
set_option linter.unusedVariables false
set_option linter.unusedSimpArgs false
namespace Go.Proofs.YtndpjdmfkhjiiaaGreatDoor
open Go.RowKit
attribute [local go_sem] bs_size bs_toList bs_append bs_get bs_extract

/-- A spot's cells. -/
def spotC (k a b n : Int) (sv : Value) : List Value := [.int .i64 k, .int .i64 a, .int .i64 b, .int .i64 n, sv]
def spotAt (w : World) : Kind → List Value → Prop
  | .fin, xs => xs = spotC 0 0 0 0 (.slice none 0 0)
  | .take s nx, xs => ∃ b, xs = spotC 1 nx 0 0 (.slice (some ⟨b, 0, none⟩) 256 256) ∧ boolsAt w b (boolRow s)
  | .fork [x, y], xs => xs = spotC 2 x y 0 (.slice none 0 0)
  | .fork _, xs => False
  | .mark sl nx, xs => xs = spotC (if sl % 2 = 0 then 3 else 4) nx 0 (sl / 2 + 1 : Nat) (.slice none 0 0)
def spotsAt (w : World) : List Kind → List Value → Prop
  | [], xs => xs = []
  | k :: L, xs => ∃ ys l, xs = ys ++ l ∧ spotAt w k ys ∧ spotsAt w L l

/-- What stays while spots are laid: all below a block, and all but spots and layouts. -/
structure LFrame (B : Nat) (w w' : World) : Prop where
  os : w'.os = w.os
  tape : w'.tape = w.tape
  output : w'.output = w.output
  size : w.heap.size ≤ w'.heap.size
  low : ∀ k, k < B → k < w.heap.size → w'.heap[k]? = w.heap[k]?
  kind : ∀ (k : Nat) (c : Array Value) (t : TypeId) (fr : Nat × Nat), w.heap[k]? = some (.cells c t fr) → t ≠ 117 → t ≠ 122 → w'.heap[k]? = some (.cells c t fr)
theorem LFrame.refl (B : Nat) (w : World) : LFrame B w w := ⟨rfl, rfl, rfl, Nat.le_refl _, fun _ _ _ => rfl, fun _ _ _ _ h _ _ => h⟩
theorem LFrame.trans {B : Nat} {a b c : World} (h : LFrame B a b) (k : LFrame B b c) : LFrame B a c :=
  ⟨k.os.trans h.os, k.tape.trans h.tape, k.output.trans h.output, Nat.le_trans h.size k.size, fun i h1 h2 => (k.low i h1 (Nat.lt_of_lt_of_le h2 h.size)).trans (h.low i h1 h2), fun i c t fr h1 h2 h3 => k.kind i c t fr (h.kind i c t fr h1 h2 h3) h2 h3⟩
theorem LFrame.grow {B : Nat} {a b : World} (h : Grow a b) : LFrame B a b := ⟨h.os, h.tape, h.output, h.size, fun k _ h2 => h.block k h2, fun k c t fr h1 _ _ => h.get h1⟩
theorem boolsAt.frame {B : Nat} {w w' : World} {b : Nat} {l : List Bool} (h : boolsAt w b l) (k : LFrame B w w') : boolsAt w' b l := k.kind _ _ _ _ h (by decide) (by decide)
theorem own_frame {B C e size n : Nat} {w w' : World} {v : Value} {xs : List Value} (h : w.ownsRow C e size v n xs) (k : LFrame B w w') (h1 : e ≠ 117) (h2 : e ≠ 122) : w'.ownsRow C e size v n xs := by
  refine own_keep h fun g hg => ?_
  rcases h.2 with ⟨rfl, _⟩ | ⟨b, cap, cur, rfl, _, hb, _⟩
  · cases hg
  · simp [Value.ownBlock] at hg
    subst hg
    rw [hb]
    exact k.kind _ _ _ _ hb h1 h2
theorem cellsAt.frame {B : Nat} {w w' : World} (k : LFrame B w w') : ∀ {T : Tr} {xs : List Value}, cellsAt w (fun _ => True) T xs → cellsAt w' (fun _ => True) T xs
  | .nil, xs, h => h
  | .set s sg rest, xs, h => by
    obtain ⟨b, l, h1, h2, h3, h4⟩ := h
    exact ⟨b, l, h1, h2, h3.frame k, h4.frame k⟩
  | .grp n rows sg rest, xs, h => by
    obtain ⟨rv, kk, ys, l, h1, h2, h3, h4, h5⟩ := h
    exact ⟨rv, kk, ys, l, h1, own_frame h2 k (by decide) (by decide), h3, h4.frame k, h5.frame k⟩
  | .row r rest, xs, h => by
    obtain ⟨v, kk, ys, l, h1, h2, h3, h4, h5⟩ := h
    exact ⟨v, kk, ys, l, h1, own_frame h2 k (by decide) (by decide), h3, h4.frame k, h5.frame k⟩
theorem cellsAt.any {w : World} {A : Nat → Prop} {T : Tr} {xs : List Value} (h : cellsAt w A T xs) : cellsAt w (fun _ => True) T xs := h.keep fun _ _ _ => ⟨trivial, rfl⟩

theorem spotAt.frame {B : Nat} {w w' : World} (k : LFrame B w w') : ∀ {kd : Kind} {xs : List Value}, spotAt w kd xs → spotAt w' kd xs
  | .fin, xs, h => h
  | .take s nx, xs, ⟨b, h1, h2⟩ => ⟨b, h1, h2.frame k⟩
  | .fork [], xs, h => h
  | .fork [x], xs, h => h
  | .fork [x, y], xs, h => h
  | .fork (x :: y :: z :: l), xs, h => h
  | .mark sl nx, xs, h => h
theorem spotsAt.frame {B : Nat} {w w' : World} (k : LFrame B w w') : ∀ {L : List Kind} {xs : List Value}, spotsAt w L xs → spotsAt w' L xs
  | [], xs, h => h
  | kd :: L, xs, h => by
    obtain ⟨ys, l, h1, h2, h3⟩ := h
    exact ⟨ys, l, h1, h2.frame k, h3.frame k⟩
theorem spotAt.length {w : World} : ∀ {kd : Kind} {xs : List Value}, spotAt w kd xs → xs.length = 5
  | .fin, xs, h => by rw [h]; rfl
  | .take s nx, xs, ⟨b, h, _⟩ => by rw [h]; rfl
  | .fork [], xs, h => h.elim
  | .fork [x], xs, h => h.elim
  | .fork [x, y], xs, h => by rw [h]; rfl
  | .fork (x :: y :: z :: l), xs, h => h.elim
  | .mark sl nx, xs, h => by rw [h]; rfl
theorem spotsAt_snoc {w : World} {kd : Kind} {ys : List Value} (hi : spotAt w kd ys) : ∀ {L : List Kind} {xs : List Value}, spotsAt w L xs → spotsAt w (L ++ [kd]) (xs ++ ys)
  | [], xs, h => by
    obtain rfl : xs = [] := h
    exact ⟨ys, [], by simp, hi, rfl⟩
  | x :: L, xs, h => by
    obtain ⟨zs, l, rfl, h1, h2⟩ := h
    exact ⟨zs, l ++ ys, by simp, h1, spotsAt_snoc hi h2⟩
theorem spotsAt_get {w : World} : ∀ {L : List Kind} {xs : List Value}, spotsAt w L xs → xs.length = L.length * 5 ∧ ∀ (k : Nat) (kd : Kind), L[k]? = some kd → ∃ ys, spotAt w kd ys ∧ ∀ j, j < 5 → xs[k * 5 + j]? = ys[j]?
  | [], xs, h => by
    obtain rfl : xs = [] := h
    exact ⟨rfl, fun k it hk => by simp at hk⟩
  | x :: L, xs, h => by
    obtain ⟨zs, r, rfl, h1, h2⟩ := h
    obtain ⟨h3, h4⟩ := spotsAt_get h2
    have hz := h1.length
    refine ⟨by simp [hz, h3]; omega, fun k it hk => ?_⟩
    cases k with
    | zero =>
      simp at hk
      subst hk
      exact ⟨zs, h1, fun j hj => by rw [List.getElem?_append_left (by omega)]; simp⟩
    | succ k =>
      obtain ⟨ys, h5, h6⟩ := h4 k it (by simpa using hk)
      refine ⟨ys, h5, fun j hj => ?_⟩
      rw [List.getElem?_append_right (by omega), ← h6 j hj, show (k + 1) * 5 + j - zs.length = k * 5 + j by omega]
/-- A fork's first way is laid. -/
theorem spotsAt_fork {w : World} {y x : Nat} : ∀ {L : List Kind} {xs : List Value} {k a : Nat}, spotsAt w L xs → L[k]? = some (.fork [a, y]) → spotsAt w (L.set k (.fork [x, y])) (xs.set (k * 5 + 1) (.int .i64 x))
  | [], xs, k, a, h, hk => by simp at hk
  | z :: L, xs, 0, a, h, hk => by
    obtain ⟨zs, r, rfl, h1, h2⟩ := h
    simp at hk
    subst hk
    obtain rfl : zs = _ := h1
    exact ⟨spotC 2 x y 0 (.slice none 0 0), r, by simp [spotC], rfl, h2⟩
  | z :: L, xs, k + 1, a, h, hk => by
    obtain ⟨zs, r, rfl, h1, h2⟩ := h
    have hz := h1.length
    refine ⟨zs, r.set (k * 5 + 1) (.int .i64 x), ?_, h1, spotsAt_fork h2 (by simpa using hk)⟩
    rw [List.set_append_right _ _ (by omega), show (k + 1) * 5 + 1 - zs.length = k * 5 + 1 by omega]

/-- A layout in its block. -/
def layAt (w : World) (B lb : Nat) (L : List Kind) : Prop :=
  ∃ sv xs, w.heap[lb]? = some (.cells #[sv] 117 (0, 0)) ∧ B ≤ lb ∧ w.ownsRow B 122 5 sv L.length xs ∧ spotsAt w L xs
theorem layAt.grow {w w' : World} {B lb : Nat} {L : List Kind} (h : layAt w B lb L) (g : Grow w w') : layAt w' B lb L := by
  obtain ⟨sv, xs, h1, h2, h3, h4⟩ := h
  exact ⟨sv, xs, g.get h1, h2, own_grow h3 g, h4.frame (.grow (B := 0) g)⟩
theorem Tryz.infoSp : (Tryz.prog.info? 122).any (fun i => i.size == 5 && i.bytes == 56 && (match i.zero with | some z => z.cells.size == 5 | none => false)) = true := by kernel_rfl
theorem spotC_oneCell {k a b n : Int} {so : Option Addr} {sn sc : Nat} : ∀ u ∈ spotC k a b n (.slice so sn sc), u.oneCell' = true := by
  intro u hu
  simp [spotC] at hu
  rcases hu with rfl | rfl | rfl | rfl | rfl <;> rfl

set_option maxRecDepth 20000 in
set_option maxHeartbeats 4000000 in
theorem put_any (w : World) (B lb : Nat) (L : List Kind) (kd : Kind) (k a b n : Int) (so : Option Addr) (sn sc : Nat) (hl : layAt w B lb L) (hk : spotAt w kd (spotC k a b n (.slice so sn sc))) (hL : L.length ≤ 100000) :
    Calls Tryz.prog 79 #[.pointer (some ⟨lb, 0, none⟩), .agg #[.int .i64 k, .int .i64 a, .int .i64 b, .int .i64 n, .slice so sn sc]] w fun e w' => e = .returned (.int .i64 L.length) ∧ LFrame B w w' ∧ layAt w' B lb (L ++ [kd]) := by
  obtain ⟨sv, xs, hlb, hB, hrow, hsp⟩ := hl
  obtain ⟨ao, cp, rfl⟩ := own_shape hrow
  obtain ⟨i0, z0, hinf, hz0, hz1, hz2, hz3⟩ := info_some Tryz.infoSp
  obtain ⟨W, HW⟩ : ∃ W, Hid (W = w.alloc (.cells #[.int .i64 k, .int .i64 a, .int .i64 b, .int .i64 n, .slice so sn sc] 122)) := ⟨_, hide rfl⟩
  have gW : Grow w W := by rw [HW.out]; exact (Grow.refl _).alloc _
  have hWb : W.heap[w.heap.size]? = some (.cells #[.int .i64 k, .int .i64 a, .int .i64 b, .int .i64 n, .slice so sn sc] 122 (0, 0)) := by rw [HW.out]; exact heap_alloc_new _ _
  have hWs : W.heap.size = w.heap.size + 1 := by rw [HW.out]; simp
  have hlW := gW.get hlb
  have hrW := own_grow hrow gW
  have hno : (Value.slice ao L.length cp).ownBlock ≠ some lb := own_apart hrow hlb (by decide)
  have hno2 : (Value.slice ao L.length cp).ownBlock ≠ some w.heap.size := fun e => by have := (hrow.lt _ e).2; omega
  have hlbs := lt_of_block hlb
  have HRW := hide hrW
  have HWB := hide hWb
  have HLW := hide hlW
  have HSP := hide hsp
  have HKD := hide hk
  have HGW := hide gW
  have HBO := hide (fun q (h : (Value.slice ao L.length cp).ownBlock = some q) => hrow.lt q h)
  have eW := HW.out.symm
  clear hrow hrW hWb hlW hlb hsp hk gW HW
  go_enter Tryz.func79, Tryz.ntmps79
  go_wp2_with fail
  clear eW
  refine wp_region_state 10 21 Tryz.mixed2 rfl (by decide +kernel) (fun Ls vals w' => appJ W B 122 5 (.slice ao L.length cp) L.length 1 xs (spotC k a b n (.slice so sn sc)) (Ls 7) (vals 7) w' ∧ newJ W 122 (spotC k a b n (.slice so sn sc)).toArray (Ls 6) (vals 6) w')
    (fun Ls vals h => ?_)
    (fun j v => match j with
      | 0 => v = .pointer (some ⟨lb, 0, none⟩)
      | 1 => v = .pointer (some ⟨lb, 0, none⟩)
      | 2 => v = .pointer (some ⟨lb, 0, none⟩)
      | 3 => v = .pointer (some ⟨lb, 0, none⟩)
      | 4 => v = .slice ao L.length cp
      | 5 => v = .agg #[.int .i64 k, .int .i64 a, .int .i64 b, .int .i64 n, .slice so sn sc]
      | 6 => True
      | 7 => ∃ ao' cp', v = .slice ao' (L.length + 1) cp'
      | 8 => v = .pointer (some ⟨lb, 0, none⟩)
      | _ => v = .pointer (some ⟨lb, 0, none⟩))
    (fun _ _ => False) (fun _ _ _ _ h => h.elim) (fun j hi o ho a2 w2 Ls vals hLi hLc hLe hJ hoff hval hdep => ?_) (fun vals w2 Ls hLs hJ hvals => ?_)
  · simp only [h]
    exact ⟨⟨⟨rfl, rfl, rfl, Nat.le_refl _, fun _ _ _ => rfl⟩, fun _ => HRW.out, fun h => by cases h⟩, fun h => by cases h⟩
  · have hblk := grown_block hJ.1.1 HLW.out hno
    have hbox := grown_block hJ.1.1 HWB.out hno2
    have c0 := cell_of_one hblk
    obtain ⟨b0, b1, b2, b3, b4⟩ := five_cells hbox
    match j, hi with
    | 0, _ =>
      obtain rfl := Option.some.inj ho
      have o0 := hoff 0 (by decide +kernel)
      simp at o0
      simp [opYields, go_sem, o0]
      exact hJ
    | 1, _ =>
      obtain rfl := Option.some.inj ho
      have o0 := hoff 0 (by decide +kernel)
      simp at o0
      simp [opYields, go_sem, o0]
      exact hJ
    | 2, _ =>
      obtain rfl := Option.some.inj ho
      have d1 := hdep 1 (by decide +kernel)
      simp [slotOf, dstOf] at d1
      simp [opYields, go_sem, d1]
      exact hJ
    | 3, _ =>
      obtain rfl := Option.some.inj ho
      have d2 := hdep 2 (by decide +kernel)
      simp [slotOf, dstOf] at d2
      simp [opYields, go_sem, d2]
      exact hJ
    | 4, _ =>
      obtain rfl := Option.some.inj ho
      have d3 := hdep 3 (by decide +kernel)
      simp [slotOf, dstOf] at d3
      simp [opYields, go_sem, d3, c0]
      exact hJ
    | 5, _ =>
      obtain rfl := Option.some.inj ho
      have o3 := hoff 3 (by decide +kernel)
      simp at o3
      simp [opYields, go_sem, o3, b0, b1, b2, b3, b4]
      exact hJ
    | 6, _ =>
      obtain rfl := Option.some.inj ho
      have d5 := hdep 5 (by decide +kernel)
      simp [slotOf, dstOf] at d5
      simp [opYields, go_sem, d5]
      exact ⟨hJ.1.grow ((Grow.refl _).alloc _), fun _ => ⟨_, rfl, hJ.1.1.size, heap_alloc_new _ _⟩⟩
    | 7, _ =>
      obtain rfl := Option.some.inj ho
      have h6 := hLe 6 (by decide +kernel)
      have d4 := hdep 4 (by decide +kernel)
      have v6 := hval 6 (by decide +kernel)
      simp [slotOf, dstOf] at d4 v6
      have hown2 := hJ.1.2.1 hLi
      obtain ⟨nb, hx, hnb, hcell2⟩ := hJ.2 h6
      rw [hx] at v6
      obtain ⟨v', w3, hrun, hown3, hgrow, hnew⟩ := run_append_new (P := Tryz.prog) w2 B 115 115 122 i0 z0 5 56 Tryz.underlying115 hinf hz0 hz1 hz2 hz3 (by omega) _ L.length xs hown2 ⟨nb, 0, none⟩ 1 1 (spotC k a b n (.slice so sn sc)) rfl (fun q u hu => by
        rw [Addr.add_lit]
        exact cell_in hcell2 (by simpa using hu)) spotC_oneCell (by unfold maxLen; omega) (by omega) (by have := hJ.1.1.size; omega)
      refine yields_append rfl (.tmp 9) (.tmp 11) _ _ rfl (v1 := .slice ao L.length cp) (v2 := .slice (some ⟨nb, 0, none⟩) 1 1) (by simpa [Act.eval] using d4) (by simpa [Act.eval] using v6) hrun ?_
      obtain ⟨ao', cp', rfl⟩ := own_shape hown3
      refine ⟨⟨⟨grown_trans hJ.1.1 hgrow, fun h => by simp at h, fun _ => ⟨hown3, ?_⟩⟩, ?_⟩, ao', cp', rfl⟩
      · rcases hnew with h | ⟨g', h, h2⟩
        · exact .inl h
        · exact .inr ⟨g', h, Nat.le_trans hJ.1.1.size h2⟩
      · exact hJ.2.grown hgrow (fun q hq => (HRW.out.lt q hq).2)
    | 8, _ =>
      obtain rfl := Option.some.inj ho
      have d0 := hdep 0 (by decide +kernel)
      simp [slotOf, dstOf] at d0
      simp [opYields, go_sem, d0]
      exact hJ
    | 9, _ =>
      obtain rfl := Option.some.inj ho
      have d8 := hdep 8 (by decide +kernel)
      simp [slotOf, dstOf] at d8
      simp [opYields, go_sem, d8]
      exact hJ
    | q + 10, h => exact absurd h (by omega)
  · have hblk := grown_block hJ.1.1 HLW.out hno
    have h7 := hLs 7 (by omega)
    obtain ⟨hown3, hnew⟩ := hJ.1.2.2 h7
    obtain ⟨ao', cp', v7⟩ := hvals 7 (by omega)
    have v9 := hvals 9 (by omega)
    simp only at v9
    rw [v7] at hown3 hnew
    have c0 := cell_of_one hblk
    have z0 := not_frozen (k := 0) hblk
    have H3 := hide hown3
    have HG := hide hJ.1.1
    have HBL := hide hblk
    clear hvals hown3 hnew hJ hblk
    simp [over, dstOf, Act.put, v7, v9]
    obtain ⟨W2, HW2⟩ : ∃ W2, Hid (W2 = w2.setCell ⟨lb, 0, none⟩ (.slice ao' (L.length + 1) cp')) := ⟨_, hide rfl⟩
    have hb2 : W2.heap[lb]? = some (.cells #[.slice ao' (L.length + 1) cp'] 117 (0, 0)) := by
      rw [HW2.out, set_blk HBL.out]; simp
    have k0 := cell_of_one hb2
    have HB2 := hide hb2
    have hwr : IntKind.i64.wrap ((L.length : Int) + 1 - 1) = L.length := by rw [wrap_i64_small _ (by omega) (by omega)]; omega
    have eW2 := HW2.out.symm
    clear hb2
    go_wp2
    go_ret
    have hs2 : W2.heap.size = w2.heap.size := by rw [HW2.out]; simp [World.setCell]
    have hset : ∀ q, q ≠ lb → W2.heap[q]? = w2.heap[q]? := fun q hq => by rw [HW2.out]; exact Below.heap_setCell _ _ _ _ hq
    have hWsz := HG.out.size
    have hlow : ∀ q, q < w.heap.size → q ≠ lb → some q ≠ (Value.slice ao L.length cp).ownBlock → W2.heap[q]? = w.heap[q]? := fun q h1 h2 h3 => by
      rw [hset q h2, HG.out.block q (by omega) h3, HGW.out.block q h1]
    have hframe : LFrame B w W2 := by
      refine ⟨by rw [HW2.out]; exact HG.out.os.trans HGW.out.os, by rw [HW2.out]; exact HG.out.tape.trans HGW.out.tape, by rw [HW2.out]; exact HG.out.output.trans HGW.out.output, by omega, fun q h1 h2 => hlow q h2 (by omega) (fun e => by have := (HBO.out q e.symm).1; omega), fun q c t fr h1 h2 h3 => ?_⟩
      have hq := lt_of_block h1
      rw [hlow q hq ?_ ?_]
      · exact h1
      · rintro rfl
        have e := HGW.out.get h1
        rw [HLW.out] at e
        simp at e
        exact h2 e.2.1.symm
      · intro e
        exact own_apart HRW.out (HGW.out.get h1) (fun e => h3 e.symm) e.symm
    refine ⟨ret_int rfl, hframe, .slice ao' (L.length + 1) cp', xs ++ spotC k a b n (.slice so sn sc), HB2.out, hB, ?_, spotsAt_snoc (HKD.out.frame hframe) (HSP.out.frame hframe)⟩
    have hpn : (Value.slice ao' (L.length + 1) cp').ownBlock ≠ some lb := own_apart H3.out HBL.out (by decide)
    rw [HW2.out, List.length_append]
    exact ownsRow_setCell_other (a := ⟨lb, 0, none⟩) H3.out hpn _

end Go.Proofs.YtndpjdmfkhjiiaaGreatDoor

/- The document's own walk along a mask's graph: what is known of it, and what it marks. -/
set_option linter.unusedVariables false
set_option linter.unusedSimpArgs false
namespace Go.Proofs.YtndpjdmfkhjiiaaGreatDoor
open Go.RowKit

/-! ### what was tried -/
def spentG (K : Nat → Kind) (t : List UInt8) (tr : List Bool) (f : Nat) : Prop :=
  ∀ n p, p ≤ t.length → tr[n * (t.length + 1) + p]? = some true → den K t f n p = none ∨ ∃ f', den K t f' n p = some none
def vainG (K : Nat → Kind) (t : List UInt8) (tr tr' : List Bool) : Prop :=
  ∀ n p, p ≤ t.length → tr'[n * (t.length + 1) + p]? = some true → tr[n * (t.length + 1) + p]? = some true ∨ ∃ f', den K t f' n p = some none
theorem spentG.down {K : Nat → Kind} {t : List UInt8} {tr : List Bool} {f : Nat} (h : spentG K t tr (f + 1)) : spentG K t tr f := by
  intro n p hp hk
  rcases h n p hp hk with h | h
  · left
    cases hc : den K t f n p with
    | none => rfl
    | some z => rw [den_succ _ _ _ _ _ _ hc] at h; cases h
  · exact .inr h
theorem spentG.put {K : Nat → Kind} {t : List UInt8} {tr : List Bool} {f n p : Nat} (h : spentG K t tr (f + 1)) (hp : p ≤ t.length) (hd : den K t f n p = none) : spentG K t (tr.set (n * (t.length + 1) + p) true) f := by
  intro n' p' hp' hk
  by_cases e : n * (t.length + 1) + p = n' * (t.length + 1) + p'
  · obtain ⟨rfl, rfl⟩ := idx_inj e hp hp'
    exact .inl hd
  · rw [List.getElem?_set_ne e] at hk
    exact h.down n' p' hp' hk
theorem vainG.refl (K : Nat → Kind) (t : List UInt8) (tr : List Bool) : vainG K t tr tr := fun n p _ h => .inl h
theorem vainG.trans {K : Nat → Kind} {t : List UInt8} {a b c : List Bool} (h : vainG K t a b) (k : vainG K t b c) : vainG K t a c := by
  intro n p hp hc
  rcases k n p hp hc with k | k
  · exact h n p hp k
  · exact .inr k
theorem spentG.vain {K : Nat → Kind} {t : List UInt8} {tr tr' : List Bool} {f : Nat} (h : spentG K t tr f) (k : vainG K t tr tr') : spentG K t tr' f := by
  intro n p hp hc
  rcases k n p hp hc with k | k
  · exact h n p hp k
  · exact .inr k
/-- What leads to nothing is noted. -/
theorem vainG.note {K : Nat → Kind} {t : List UInt8} {tr tr' : List Bool} {f n p : Nat} (h : vainG K t tr tr') (hp : p ≤ t.length) (hd : den K t f n p = some none) : vainG K t tr (tr'.set (n * (t.length + 1) + p) true) := by
  intro n' p' hp' hk
  by_cases e : n * (t.length + 1) + p = n' * (t.length + 1) + p'
  · obtain ⟨rfl, rfl⟩ := idx_inj e hp hp'
    exact .inr ⟨f, hd⟩
  · rw [List.getElem?_set_ne e] at hk
    exact h n' p' hp' hk
theorem vainG.noted {K : Nat → Kind} {t : List UInt8} {tr tr' : List Bool} {f n p : Nat} (h : vainG K t (tr.set (n * (t.length + 1) + p) true) tr') (hp : p ≤ t.length) (hd : den K t f n p = some none) : vainG K t tr tr' := by
  intro n' p' hp' hk
  rcases h n' p' hp' hk with h | h
  · by_cases e : n * (t.length + 1) + p = n' * (t.length + 1) + p'
    · obtain ⟨rfl, rfl⟩ := idx_inj e hp hp'
      exact .inr ⟨f, hd⟩
    · rw [List.getElem?_set_ne e] at h
      exact .inl h
  · exact .inr h

/-! ### what is marked: the last place of each group's begin (0), or end (1) -/
def putE (odd : Nat) (F : List Int) : Evs → List Int
  | [] => F
  | (sl, p) :: l => putE odd (if sl % 2 = odd then F.set (sl / 2 + 1) p else F) l
theorem putE_length (odd : Nat) : ∀ (l : Evs) (F : List Int), (putE odd F l).length = F.length
  | [], F => rfl
  | (sl, p) :: l, F => by
    rw [putE, putE_length odd l]
    split <;> simp
theorem putE_get (odd : Nat) (ho : odd < 2) : ∀ (l : Evs) (F : List Int) (k : Nat), k + 1 < F.length → (putE odd F l)[k + 1]? = some (lastOf ((F[k + 1]?).getD 0) (2 * k + odd) l)
  | [], F, k, hk => by simp [putE, lastOf, hk]
  | (sl, p) :: l, F, k, hk => by
    rw [putE, putE_get odd ho l _ k (by split <;> simpa using hk), lastOf]
    congr 2
    by_cases h : sl % 2 = odd
    · rw [if_pos h]
      by_cases e : sl = 2 * k + odd
      · have : sl / 2 + 1 = k + 1 := by omega
        rw [if_pos e, this, List.getElem?_set_self hk]
        rfl
      · rw [if_neg e, List.getElem?_set_ne (by omega)]
    · rw [if_neg h, if_neg (by omega)]

/-! ### memory -/
structure KB (X : Nat → Prop) (w w' : World) : Prop where
  os : w'.os = w.os
  tape : w'.tape = w.tape
  output : w'.output = w.output
  size : w.heap.size ≤ w'.heap.size
  block : ∀ k, k < w.heap.size → ¬ X k → w'.heap[k]? = w.heap[k]?
theorem KB.refl (X : Nat → Prop) (w : World) : KB X w w := ⟨rfl, rfl, rfl, Nat.le_refl _, fun _ _ _ => rfl⟩
theorem KB.trans {X : Nat → Prop} {a b c : World} (h : KB X a b) (k : KB X b c) : KB X a c :=
  ⟨k.os.trans h.os, k.tape.trans h.tape, k.output.trans h.output, Nat.le_trans h.size k.size, fun i h1 h2 => (k.block i (Nat.lt_of_lt_of_le h1 h.size) h2).trans (h.block i h1 h2)⟩
theorem KB.grow {X : Nat → Prop} {a b : World} (h : Grow a b) : KB X a b := ⟨h.os, h.tape, h.output, h.size, fun k h1 _ => h.block k h1⟩
theorem KB.set {X : Nat → Prop} {w : World} {b o : Nat} (h : X b) (v : Value) : KB X w (w.setCell ⟨b, o, none⟩ v) :=
  ⟨rfl, rfl, rfl, by simp [World.setCell], fun k _ hk => set_apart _ (fun e => hk (e ▸ h))⟩
theorem KB.get {X : Nat → Prop} {w w' : World} (h : KB X w w') {b : Nat} {o : Obj} (hb : w.heap[b]? = some o) (hx : ¬ X b) : w'.heap[b]? = some o := (h.block b (lt_of_block hb) hx).trans hb
theorem KB.cell {X : Nat → Prop} {w w' : World} (h : KB X w w') {b o : Nat} {v : Value} (hc : w.cell? ⟨b, o, none⟩ = some v) (hx : ¬ X b) : w'.cell? ⟨b, o, none⟩ = some v := (cell_keep (h.block b (cell_has hc) hx)).trans hc

/-- The rows that a walk writes: what was tried, where groups begin, where they end. -/
def own3 (bb fb tb : Nat) : Nat → Prop := fun k => k = bb ∨ k = fb ∨ k = tb
/-- A spot that a walk reads. -/
def spotOf (w : World) (X : Nat → Prop) : Kind → List Value → Prop
  | .take s nx, xs => ∃ b, xs = spotC 1 nx 0 0 (.slice (some ⟨b, 0, none⟩) 256 256) ∧ ¬ X b ∧ boolsAt w b (boolRow s)
  | .fin, xs => xs = spotC 0 0 0 0 (.slice none 0 0)
  | .fork [x, y], xs => xs = spotC 2 x y 0 (.slice none 0 0)
  | .fork _, xs => False
  | .mark sl nx, xs => xs = spotC (if sl % 2 = 0 then 3 else 4) nx 0 (sl / 2 + 1 : Nat) (.slice none 0 0)
theorem spotOf.keep {w w' : World} {X : Nat → Prop} (k : KB X w w') : ∀ {kd : Kind} {xs : List Value}, spotOf w X kd xs → spotOf w' X kd xs
  | .take s nx, xs, ⟨b, h1, h2, h3⟩ => ⟨b, h1, h2, k.get h3 h2⟩
  | .fin, xs, h => h
  | .fork [], xs, h => h
  | .fork [x], xs, h => h
  | .fork [x, y], xs, h => h
  | .fork (x :: y :: z :: l), xs, h => h
  | .mark sl nx, xs, h => h
theorem spotOf_of {w : World} {X : Nat → Prop} (hX : ∀ b l, boolsAt w b l → l.length = 256 → ¬ X b) : ∀ {kd : Kind} {xs : List Value}, spotAt w kd xs → spotOf w X kd xs
  | .take s nx, xs, ⟨b, h1, h2⟩ => ⟨b, h1, hX b _ h2 (boolRow_length s), h2⟩
  | .fin, xs, h => h
  | .fork [], xs, h => h
  | .fork [x], xs, h => h
  | .fork [x, y], xs, h => h
  | .fork (x :: y :: z :: l), xs, h => h
  | .mark sl nx, xs, h => h

/-- What stays while a walk goes on. -/
def wkAt (w : World) (wb lb sb bb fb tb : Nat) (K : List Kind) (t : List UInt8) (bn gn : Nat) : Prop :=
  ∃ scp bcp fcp tcp, w.heap[wb]? = some (.cells #[.pointer (some ⟨lb, 0, none⟩), .string (bs t), .slice (some ⟨bb, 0, none⟩) bn bcp, .slice (some ⟨fb, 0, none⟩) gn fcp, .slice (some ⟨tb, 0, none⟩) gn tcp] 125 (0, 0)) ∧
    w.heap[lb]? = some (.cells #[.slice (some ⟨sb, 0, none⟩) K.length scp] 117 (0, 0)) ∧
    (∀ i k, K[i]? = some k → ∃ ys, spotOf w (own3 bb fb tb) k ys ∧ ∀ j u, j < 5 → ys[j]? = some u → w.cell? ⟨sb, i * 5 + j, none⟩ = some u) ∧
    ¬ own3 bb fb tb wb ∧ ¬ own3 bb fb tb lb ∧ ¬ own3 bb fb tb sb ∧ bb ≠ fb ∧ bb ≠ tb ∧ fb ≠ tb
theorem wkAt.keep {w w' : World} {wb lb sb bb fb tb : Nat} {K : List Kind} {t : List UInt8} {bn gn : Nat} (h : wkAt w wb lb sb bb fb tb K t bn gn) (k : KB (own3 bb fb tb) w w') : wkAt w' wb lb sb bb fb tb K t bn gn := by
  obtain ⟨scp, bcp, fcp, tcp, h1, h2, h3, h4, h5, h6, h7⟩ := h
  refine ⟨scp, bcp, fcp, tcp, k.get h1 h4, k.get h2 h5, fun i kd hi => ?_, h4, h5, h6, h7⟩
  obtain ⟨ys, a, b⟩ := h3 i kd hi
  exact ⟨ys, a.keep k, fun j u hj hu => k.cell (b j u hj hu) h6⟩

/-- What a walk from a spot does. -/
def wpost (K : List Kind) (t : List UInt8) (bb fb tb : Nat) (bad : List Bool) (F G : List Int) (x : Option Evs) (w : World) (e : Ending) (w' : World) : Prop :=
  e = .returned (.bool x.isSome) ∧ KB (own3 bb fb tb) w w' ∧ ∃ bad', bad'.length = bad.length ∧ boolsAt w' bb bad' ∧
    (x = none → marksAt w' fb F ∧ marksAt w' tb G ∧ vainG (spots K) t bad bad') ∧ (∀ l, x = some l → marksAt w' fb (putE 0 F l) ∧ marksAt w' tb (putE 1 G l))
theorem marks_apart {w : World} {fb b o : Nat} {F : List Int} (h : marksAt w fb F) (v : Value) (hne : fb ≠ b) : marksAt (w.setCell ⟨b, o, none⟩ v) fb F := (set_apart _ hne).trans h
theorem bools_apart {w : World} {fb b o : Nat} {l : List Bool} (h : boolsAt w fb l) (v : Value) (hne : fb ≠ b) : boolsAt (w.setCell ⟨b, o, none⟩ v) fb l := (set_apart _ hne).trans h
end Go.Proofs.YtndpjdmfkhjiiaaGreatDoor
