/- The parser of masks: a step is added. -/
import Derived.Test.YtndpjdmfkhjiiaaGreatDoorProg
import Derived.Test.YtndpjdmfkhjiiaaGreatDoorKit
import Derived.Test.YtndpjdmfkhjiiaaGreatDoorMPar
import Derived.Test.YtndpjdmfkhjiiaaGreatDoorMLay
import Derived.Test.YtndpjdmfkhjiiaaGreatDoorMSet
import Derived.Test.YtndpjdmfkhjiiaaGreatDoorMWlk
import Derived.Test.YtndpjdmfkhjiiaaGreatDoorReg
import Derived.Test.YtndpjdmfkhjiiaaGreatDoorReg2
import Derived.Test.YtndpjdmfkhjiiaaGreatDoorMFrom
import Derived.Test.YtndpjdmfkhjiiaaGreatDoorMPrA
import Derived.Test.YtndpjdmfkhjiiaaGreatDoorMPrB
set_option linter.unusedVariables false
set_option linter.unusedSimpArgs false
namespace Go.Proofs.YtndpjdmfkhjiiaaGreatDoor
open Go.RowKit
attribute [local go_sem] bs_size bs_toList bs_append bs_get bs_extract

theorem rawC_oneCell {r : Raw} (h : r.wv = .slice none 0 0) : ∀ u ∈ rawC r, u.oneCell' = true := by
  intro u hu
  simp only [rawC, h, List.mem_cons, List.mem_nil_iff, or_false] at hu
  rcases hu with rfl | rfl | rfl | rfl | rfl | rfl | rfl <;> rfl

theorem seven_cells {w : World} {b : Nat} {x0 x1 x2 x3 x4 x5 x6 : Value} {t : TypeId} (h : w.heap[b]? = some (.cells #[x0, x1, x2, x3, x4, x5, x6] t (0, 0))) :
    w.cell? ⟨b, 0, none⟩ = some x0 ∧ w.cell? ⟨b, 1, none⟩ = some x1 ∧ w.cell? ⟨b, 2, none⟩ = some x2 ∧ w.cell? ⟨b, 3, none⟩ = some x3 ∧ w.cell? ⟨b, 4, none⟩ = some x4 ∧ w.cell? ⟨b, 5, none⟩ = some x5 ∧ w.cell? ⟨b, 6, none⟩ = some x6 := by simp [World.cell?, h]

set_option maxRecDepth 20000 in
set_option maxHeartbeats 4000000 in
theorem add_any (w : World) (F : Nat → Prop) (pb : Nat) (m : List UInt8) (i g : Nat) (S : List St) (r : Raw) (hp : parserAt w F pb m i S g) (hw : r.wv = .slice none 0 0) (hok : ∀ w : World, rawOk w 0 r) (hS : S.length ≤ 1000000) :
    Calls Tryz.prog 122 #[.pointer (some ⟨pb, 0, none⟩), rawV r] w fun e w' => e = .returned (.int .i64 S.length) ∧ KeptX F pb w w' ∧ parserAt w' F pb m i (S ++ [r.st]) g := by
  obtain ⟨sv, rs, ⟨hB, hb, hrow, hall, hap, hfs, hfw⟩, rfl⟩ := hp
  rw [List.length_map] at hS
  obtain ⟨ao, cp, rfl⟩ := own_shape hrow
  obtain ⟨i0, z0, hinf, hz0, hz1, hz2, hz3⟩ := info_some Tryz.infoSt
  obtain ⟨W, HW⟩ : ∃ W, Hid (W = w.alloc (.cells (rawC r).toArray 150)) := ⟨_, hide rfl⟩
  have gW : Grow w W := by rw [HW.out]; exact (Grow.refl _).alloc _
  have hWb : W.heap[w.heap.size]? = some (.cells #[.int .i64 (kindNo r.st), .int .u64 (r.a : Nat), .int .u64 (r.b : Nat), .int .u64 (r.c : Nat), .int .u64 (r.d : Nat), .int .i64 r.sl, r.wv] 150 (0, 0)) := by rw [HW.out]; exact heap_alloc_new _ _
  have hWs : W.heap.size = w.heap.size + 1 := by rw [HW.out]; simp
  have hpW := gW.get hb
  have hrW := own_grow hrow gW
  have hno : (Value.slice ao rs.length cp).ownBlock ≠ some pb := own_apart hrow hb (by decide)
  have hno2 : (Value.slice ao rs.length cp).ownBlock ≠ some w.heap.size := fun e => by have := (hrow.lt _ e).2; omega
  have hA : ∀ (j : Nat) (r : Raw), rs[j]? = some r → ∀ b, r.wv.ownBlock = some b → b ≠ pb ∧ some b ≠ (Value.slice ao rs.length cp).ownBlock ∧ b < w.heap.size := by
    intro j r hr b hbk
    have hok := hall j r hr
    refine ⟨fun e => hok.apart hb (by decide) (e ▸ hbk), fun e => ?_, (hok.1.lt b hbk).2⟩
    rcases own_two hrow hok.1 (by decide) with h | h
    · rw [h] at e; cases e
    · exact h (by rw [← e, hbk])
  have HA := hide hA
  clear hA
  have HALL := hide hall
  have HAP := hide hap
  have HFS := hide hfs
  have HFW := hide hfw
  have HRW := hide hrW
  have HWB := hide hWb
  have HPW := hide hpW
  have HOK := hide hok
  clear hall hap hfs hfw hrow hrW hWb hpW hb hok
  obtain ⟨st, ra, rb, rc, rd, sl, wv⟩ := r
  simp only at hw
  subst hw
  unfold rawV
  go_enter Tryz.func122, Tryz.ntmps122
  go_wp2_with fail
  rw [show w.alloc (.cells #[.int .i64 (kindNo st), .int .u64 (ra : Nat), .int .u64 (rb : Nat), .int .u64 (rc : Nat), .int .u64 (rd : Nat), .int .i64 sl, .slice none 0 0] 150) = W from HW.out.symm]
  refine wp_region_state 12 24 Tryz.mixed2 rfl (by decide +kernel) (fun L vals w' => appJ W 0 150 7 (.slice ao rs.length cp) rs.length 1 (rawCells rs) (rawC ⟨st, ra, rb, rc, rd, sl, .slice none 0 0⟩) (L 8) (vals 8) w' ∧ newJ W 150 (rawC ⟨st, ra, rb, rc, rd, sl, .slice none 0 0⟩).toArray (L 7) (vals 7) w')
    (fun L vals h => ?_)
    (fun j v => match j with
      | 0 => v = .pointer (some ⟨pb, 0, none⟩)
      | 1 => v = .pointer (some ⟨pb, 0, none⟩)
      | 2 => v = .pointer (some ⟨pb, 0, none⟩)
      | 3 => v = .pointer (some ⟨pb, 2, none⟩)
      | 4 => v = .pointer (some ⟨pb, 2, none⟩)
      | 5 => v = .slice ao rs.length cp
      | 6 => v = .agg #[.int .i64 (kindNo st), .int .u64 (ra : Nat), .int .u64 (rb : Nat), .int .u64 (rc : Nat), .int .u64 (rd : Nat), .int .i64 sl, .slice none 0 0]
      | 7 => True
      | 8 => ∃ ao' cp', v = .slice ao' (rs.length + 1) cp'
      | 9 => v = .pointer (some ⟨pb, 0, none⟩)
      | 10 => v = .pointer (some ⟨pb, 2, none⟩)
      | _ => v = .pointer (some ⟨pb, 2, none⟩))
    (fun _ _ => False) (fun _ _ _ _ h => h.elim) (fun j hi o ho a w2 L vals hLi hLc hLe hJ hoff hval hdep => ?_) (fun vals w2 L hL hJ hvals => ?_)
  · simp only [h]
    exact ⟨⟨⟨rfl, rfl, rfl, Nat.le_refl _, fun _ _ _ => rfl⟩, fun _ => HRW.out, fun h => by cases h⟩, fun h => by cases h⟩
  · have hblk := grown_block hJ.1.1 HPW.out hno
    have hbox := grown_block hJ.1.1 HWB.out hno2
    obtain ⟨c0, c1, c2, c3⟩ := four_cells hblk
    obtain ⟨b0, b1, b2, b3, b4, b5, b6⟩ := seven_cells hbox
    match j, hi with
    | 0, _ =>
      obtain rfl := Option.some.inj ho
      have o0 := hoff 0 (by decide +kernel)
      simp at o0
      simp [opYields, go_sem, o0]
      exact hJ
    | 1, _ =>
      obtain rfl := Option.some.inj ho
      have o0 := hoff 0 (by decide +kernel)
      simp at o0
      simp [opYields, go_sem, o0]
      exact hJ
    | 2, _ =>
      obtain rfl := Option.some.inj ho
      have d1 := hdep 1 (by decide +kernel)
      simp [slotOf, dstOf] at d1
      simp [opYields, go_sem, d1]
      exact hJ
    | 3, _ =>
      obtain rfl := Option.some.inj ho
      have d2 := hdep 2 (by decide +kernel)
      simp [slotOf, dstOf] at d2
      simp [opYields, go_sem, d2]
      exact hJ
    | 4, _ =>
      obtain rfl := Option.some.inj ho
      have d3 := hdep 3 (by decide +kernel)
      simp [slotOf, dstOf] at d3
      simp [opYields, go_sem, d3]
      exact hJ
    | 5, _ =>
      obtain rfl := Option.some.inj ho
      have d4 := hdep 4 (by decide +kernel)
      simp [slotOf, dstOf] at d4
      simp [opYields, go_sem, d4, c2]
      exact hJ
    | 6, _ =>
      obtain rfl := Option.some.inj ho
      have o3 := hoff 3 (by decide +kernel)
      simp at o3
      simp [opYields, go_sem, o3, b0, b1, b2, b3, b4, b5, b6]
      exact hJ
    | 7, _ =>
      obtain rfl := Option.some.inj ho
      have d6 := hdep 6 (by decide +kernel)
      simp [slotOf, dstOf] at d6
      simp [opYields, go_sem, d6]
      exact ⟨hJ.1.grow ((Grow.refl _).alloc _), fun _ => ⟨_, rfl, hJ.1.1.size, heap_alloc_new _ _⟩⟩
    | 8, _ =>
      obtain rfl := Option.some.inj ho
      have h7 := hLe 7 (by decide +kernel)
      have d5 := hdep 5 (by decide +kernel)
      have v7 := hval 7 (by decide +kernel)
      simp [slotOf, dstOf] at d5 v7
      have hown2 := hJ.1.2.1 hLi
      obtain ⟨nb, hx, hnb, hcell2⟩ := hJ.2 h7
      rw [hx] at v7
      obtain ⟨v', w3, hrun, hown3, hgrow, hnew⟩ := run_append_new (P := Tryz.prog) w2 0 94 94 150 i0 z0 7 72 Tryz.underlying94 hinf hz0 hz1 hz2 hz3 (by omega) _ rs.length (rawCells rs) hown2 ⟨nb, 0, none⟩ 1 1 (rawC ⟨st, ra, rb, rc, rd, sl, .slice none 0 0⟩) rfl (fun q u hu => by
        rw [Addr.add_lit]
        exact cell_in hcell2 (by simpa using hu)) (rawC_oneCell rfl) (by unfold maxLen; omega) (by omega) (Nat.zero_le _)
      refine yields_append rfl (.tmp 10) (.tmp 12) _ _ rfl (v1 := .slice ao rs.length cp) (v2 := .slice (some ⟨nb, 0, none⟩) 1 1) (by simpa [Act.eval] using d5) (by simpa [Act.eval] using v7) hrun ?_
      obtain ⟨ao', cp', rfl⟩ := own_shape hown3
      refine ⟨⟨⟨grown_trans hJ.1.1 hgrow, fun h => by simp at h, fun _ => ⟨hown3, ?_⟩⟩, ?_⟩, ao', cp', rfl⟩
      · rcases hnew with h | ⟨g', h, h2⟩
        · exact .inl h
        · exact .inr ⟨g', h, Nat.le_trans hJ.1.1.size h2⟩
      · exact hJ.2.grown hgrow (fun k hk => (HRW.out.lt k hk).2)
    | 9, _ =>
      obtain rfl := Option.some.inj ho
      have d0 := hdep 0 (by decide +kernel)
      simp [slotOf, dstOf] at d0
      simp [opYields, go_sem, d0]
      exact hJ
    | 10, _ =>
      obtain rfl := Option.some.inj ho
      have d9 := hdep 9 (by decide +kernel)
      simp [slotOf, dstOf] at d9
      simp [opYields, go_sem, d9]
      exact hJ
    | 11, _ =>
      obtain rfl := Option.some.inj ho
      have d10 := hdep 10 (by decide +kernel)
      simp [slotOf, dstOf] at d10
      simp [opYields, go_sem, d10]
      exact hJ
    | k + 12, h => exact absurd h (by omega)
  · have hblk := grown_block hJ.1.1 HPW.out hno
    have h8 := hL 8 (by omega)
    obtain ⟨hown3, hnew⟩ := hJ.1.2.2 h8
    obtain ⟨ao', cp', v8⟩ := hvals 8 (by omega)
    have v11 := hvals 11 (by omega)
    simp only at v11
    rw [v8] at hown3 hnew
    obtain ⟨c0, c1, c2, c3⟩ := four_cells hblk
    obtain ⟨z0, z1, z2, z3⟩ := four_free hblk
    have H3 := hide hown3
    have HN := hide hnew
    have HG := hide hJ.1.1
    have HBL := hide hblk
    clear hvals hown3 hnew hJ hblk
    simp [over, dstOf, Act.put, v8, v11]
    have hset : ∀ k, k ≠ pb → (w2.setCell ⟨pb, 2, none⟩ (.slice ao' (rs.length + 1) cp')).heap[k]? = w2.heap[k]? := fun k hk => Below.heap_setCell _ _ _ _ hk
    obtain ⟨W2, HW2⟩ : ∃ W2, Hid (W2 = w2.setCell ⟨pb, 2, none⟩ (.slice ao' (rs.length + 1) cp')) := ⟨_, hide rfl⟩
    have hb2 : W2.heap[pb]? = some (.cells #[.string (bs m), .int .i64 i, .slice ao' (rs.length + 1) cp', .int .i64 g] 143 (0, 0)) := by
      rw [HW2.out, set_blk HBL.out]; simp
    obtain ⟨k0, k1, k2, k3⟩ := four_cells hb2
    have HB2 := hide hb2
    have hwr : IntKind.i64.wrap ((rs.length : Int) + 1 - 1) = rs.length := by rw [wrap_i64_small _ (by omega) (by omega)]; omega
    clear hb2
    go_wp2
    rw [← HW2.out]
    go_wp2
    go_ret
    have hs2 : W2.heap.size = w2.heap.size := by rw [HW2.out]; simp [World.setCell]
    have hW2b : ∀ k, k < w.heap.size → k ≠ pb → some k ≠ (Value.slice ao rs.length cp).ownBlock → W2.heap[k]? = w.heap[k]? := by
      intro k h1 h2 h3
      rw [HW2.out, hset k h2, HG.out.block k (by omega) h3, gW.block k h1]
    have hW2s : w.heap.size ≤ W2.heap.size := by rw [hs2]; have := HG.out.size; omega
    refine ⟨ret_int (by rw [List.length_map]), ⟨by rw [HW2.out]; exact HG.out.os.trans gW.os, by rw [HW2.out]; exact HG.out.tape.trans gW.tape, by rw [HW2.out]; exact HG.out.output.trans gW.output, hW2s, fun k hk hn => hW2b k (hB k hk) hn (fun e => HFS.out k e.symm hk)⟩, .slice ao' (rs.length + 1) cp', rs ++ [⟨st, ra, rb, rc, rd, sl, .slice none 0 0⟩], ⟨fun k hk => Nat.lt_of_lt_of_le (hB k hk) hW2s, HB2.out, ?_, ?_, ?_, ?_, ?_⟩, by simp⟩
    · have h : w2.ownsRow 0 150 7 (.slice ao' (rs.length + 1) cp') (rs ++ [(⟨st, ra, rb, rc, rd, sl, .slice none 0 0⟩ : Raw)]).length (rawCells (rs ++ [⟨st, ra, rb, rc, rd, sl, .slice none 0 0⟩])) := by
        rw [List.length_append, rawCells_append]
        have := H3.out
        simpa [rawCells] using this
      have hpn : (Value.slice ao' (rs.length + 1) cp').ownBlock ≠ some pb := own_apart H3.out HBL.out (by decide)
      rw [HW2.out]
      exact ownsRow_setCell_other (a := ⟨pb, 2, none⟩) h hpn _
    · intro j x hx
      rcases Nat.lt_or_ge j rs.length with hj | hj
      · rw [List.getElem?_append_left hj] at hx
        refine (HALL.out j x hx).keep fun b hbk => ?_
        obtain ⟨h1, h2, h3⟩ := HA.out j x hx b hbk
        exact hW2b b h3 h1 h2
      · rw [List.getElem?_append_right hj] at hx
        obtain ⟨rfl, _⟩ : x = ⟨st, ra, rb, rc, rd, sl, .slice none 0 0⟩ ∧ True := by
          cases h : j - rs.length with
          | zero => rw [h] at hx; simp at hx; exact ⟨hx.symm, trivial⟩
          | succ q => rw [h] at hx; simp at hx
        exact HOK.out W2
    · intro j k x y hjk hx hy b hbk hbk2
      rcases Nat.lt_or_ge j rs.length with hj | hj
      · rw [List.getElem?_append_left hj] at hx
        rcases Nat.lt_or_ge k rs.length with hk | hk
        · rw [List.getElem?_append_left hk] at hy
          exact HAP.out j k x y hjk hx hy b hbk hbk2
        · rw [List.getElem?_append_right hk] at hy
          cases h : k - rs.length with
          | zero => rw [h] at hy; simp at hy; subst hy; cases hbk2
          | succ q => rw [h] at hy; simp at hy
      · rw [List.getElem?_append_right hj] at hx
        cases h : j - rs.length with
        | zero => rw [h] at hx; simp at hx; subst hx; cases hbk
        | succ q => rw [h] at hx; simp at hx
    · intro b hbk hf
      rcases HN.out with h2 | ⟨q, h2, h3⟩
      · exact HFS.out b (by rw [← h2]; exact hbk) hf
      · rw [h2] at hbk; cases hbk; have := hB b hf; omega
    · intro j x b hx hbk hf
      rcases Nat.lt_or_ge j rs.length with hj | hj
      · rw [List.getElem?_append_left hj] at hx
        exact HFW.out j x b hx hbk hf
      · rw [List.getElem?_append_right hj] at hx
        cases h : j - rs.length with
        | zero => rw [h] at hx; simp at hx; subst hx; cases hbk
        | succ q => rw [h] at hx; simp at hx

end Go.Proofs.YtndpjdmfkhjiiaaGreatDoor
