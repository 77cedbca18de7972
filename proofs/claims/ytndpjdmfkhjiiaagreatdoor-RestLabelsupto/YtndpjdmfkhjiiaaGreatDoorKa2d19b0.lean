/- 2 texts in one. -/
import Derived.Laws.OwnMore
import Derived.Deep.AppendLies
import Derived.Test.YtndpjdmfkhjiiaaGreatDoorProg
import Derived.Test.YtndpjdmfkhjiiaaGreatDoorK97fdc06
import Derived.Test.YtndpjdmfkhjiiaaGreatDoorKd9d6983
import Derived.Test.YtndpjdmfkhjiiaaGreatDoorKbff346a
import Derived.Test.YtndpjdmfkhjiiaaGreatDoorK395e834
import Derived.Test.YtndpjdmfkhjiiaaGreatDoorK1f74ead
import Derived.Test.YtndpjdmfkhjiiaaGreatDoorKac5e9b6
import Derived.Test.YtndpjdmfkhjiiaaGreatDoorKbd7ef7d
import Derived.BigQuiet
set_option linter.unusedVariables false
set_option linter.unusedSimpArgs false
namespace Go.Proofs.YtndpjdmfkhjiiaaGreatDoor
open Go.RowKit
attribute [local go_sem] bs_size bs_toList bs_append bs_get bs_extract
/-- A row of texts. -/
def strsV (L : List (List UInt8)) : List Value := L.map fun s => .string (bs s)
theorem strsV_snoc (L : List (List UInt8)) (s : List UInt8) : strsV (L ++ [s]) = strsV L ++ [.string (bs s)] := by simp [strsV]
theorem strsV_length (L : List (List UInt8)) : (strsV L).length = L.length := by simp [strsV]
abbrev ownStrs (w : World) (B : Nat) (v : Value) (L : List (List UInt8)) : Prop := w.ownsRow B 9 1 v L.length (strsV L)
theorem Tryz.infoStr : (Tryz.prog.info? 9).map (fun i => (i.zero, i.size, i.bytes)) = some (some (.string ByteArray.empty), 1, 16) := by kernel_rfl
set_option maxHeartbeats 400000 in
theorem mclone_any (s : List UInt8) (w : World) (hs : s.length ≤ 1000000) : Calls Tryz.prog 50 #[.string (bs s)] w fun e w' => e = .returned (.string (bs s)) ∧ Below w.heap.size w w' := by
  have hc := Tryz.stringslite_Clone (bs s) w (by rw [bs_size]; omega)
  have HC := hide hc
  clear hc
  go_enter Tryz.func50, Tryz.ntmps50
  go_wp2_with (go_at_call 88; refine HC.out.mono ?_; rintro e w' ⟨rfl, hb⟩)
  go_ret
  exact ⟨rfl, hb⟩
/-- A group's places are nowhere, or from the one to the other. -/
def placed (len : Nat) (x y : Int) : Prop := x = -1 ∨ ∃ a b : Nat, x = a ∧ y = b ∧ a ≤ b ∧ b ≤ len
/-- What a group took. -/
def tookB (t : List UInt8) (x y : Int) : List UInt8 := if 0 ≤ x then (t.drop x.toNat).take (y.toNat - x.toNat) else []
def tooksB (t : List UInt8) (mk : List Int) (n : Nat) : List (List UInt8) := (List.range n).map fun k => tookB t (mk.getD (2 * k) (-1)) (mk.getD (2 * k + 1) (-1))
theorem tooksB_length (t mk n) : (tooksB t mk n).length = n := by simp [tooksB]
theorem tooksB_succ (t mk n) : tooksB t mk (n + 1) = tooksB t mk n ++ [tookB t (mk.getD (2 * n) (-1)) (mk.getD (2 * n + 1) (-1))] := by simp [tooksB, List.range_succ]
theorem walkOf.cells {w : World} {wb sb tb mb : Nat} {S : List St} {t : List UInt8} {tn mn : Nat} (h : walkOf w wb sb tb mb S t tn mn) (hm : 0 < mn) :
    ∃ mc, w.cell? ⟨wb, 1, none⟩ = some (.string (bs t)) ∧ w.cell? ⟨wb, 3, none⟩ = some (.slice (some ⟨mb, 0, none⟩) mn mc) := by
  obtain ⟨sc, tc, mc, ma, h1, h2, _⟩ := h
  obtain ⟨c0, c1, c2, c3⟩ := four_cells h1
  exact ⟨mc, c1, by rw [c3, h2 hm]⟩
theorem walkOf.marksLen {w : World} {wb sb tb mb : Nat} {S : List St} {t : List UInt8} {tn mn : Nat} (h : walkOf w wb sb tb mb S t tn mn) :
    ∃ mc ma, w.cell? ⟨wb, 3, none⟩ = some (.slice ma mn mc) := by
  obtain ⟨sc, tc, mc, ma, h1, h2, _⟩ := h
  obtain ⟨c0, c1, c2, c3⟩ := four_cells h1
  exact ⟨mc, ma, c3⟩
set_option maxRecDepth 20000 in
set_option maxHeartbeats 4000000 in
theorem groups_any (w : World) (wb sb tb mb g : Nat) (S : List St) (t : List UInt8) (tn : Nat) (mk : List Int) (hw : walkOf w wb sb tb mb S t tn mk.length) (hm : marksAt w mb mk) (hg : mk.length = 2 * g) (hg9 : g ≤ 9) (ht : t.length ≤ 2000)
    (hp : ∀ k, k < g → placed t.length (mk.getD (2 * k) (-1)) (mk.getD (2 * k + 1) (-1))) :
    Calls Tryz.prog 59 #[.pointer (some ⟨wb, 0, none⟩)] w fun e w' => ∃ v, e = .returned v ∧ Grow w w' ∧ ownStrs w' w.heap.size v (tooksB t mk g) := by
  obtain ⟨i0, hinf, hz0, hz1, hz2⟩ := info_parts Tryz.infoStr
  have HW := hide hw
  have HM := hide hm
  have HP := hide hp
  clear hw hm hp
  go_enter Tryz.func59, Tryz.ntmps59
  go_wp2
  go_loopw [3, 4, 5] (fun v i s wr => ∃ k : Nat, k ≤ g ∧ i = .int .i64 ((2 * k : Nat) : Int) ∧ Hid (Grow w wr) ∧ Hid (ownStrs wr w.heap.size v (tooksB t mk k))) (fun _ i _ _ => 2 * g + 2 - (intOf i).toNat)
  case atStart => exact ⟨0, by omega, rfl, hide (Grow.refl _), hide (World.ownsRow_nil _ _ _ _)⟩
  case round =>
    obtain ⟨k, hk, rfl, HG, HO⟩ := hrel
    have hwr := HW.out.keep (.grow HG.out)
    have hmr := HM.out.keep HG.out
    have hbs := HG.out.size
    have HWB : Hid (wb < w.heap.size) := by obtain ⟨_, _, _, _, h, _⟩ := HW.out; exact lt_of_block h
    have hmb := lt_of_block HM.out
    by_cases hlt : k < g
    · obtain ⟨mc, c1, c3⟩ := hwr.cells (by omega)
      have h2 : 2 * k < mk.length := by omega
      have h3 : 2 * k + 1 < mk.length := by omega
      obtain ⟨x, hx⟩ : ∃ x, mk[2 * k]? = some x := ⟨_, List.getElem?_eq_getElem h2⟩
      obtain ⟨y, hy⟩ : ∃ y, mk[2 * k + 1]? = some y := ⟨_, List.getElem?_eq_getElem h3⟩
      have m0 := hmr.cell hx
      have m1 := hmr.cell hy
      have HSn := hide (tooksB_succ t mk k)
      have hpk := HP.out k hlt
      rw [show mk.getD (2 * k) (-1) = x by simp [List.getD, hx], show mk.getD (2 * k + 1) (-1) = y by simp [List.getD, hy]] at hpk
      have HS2 : Hid (tooksB t mk (k + 1) = tooksB t mk k ++ [tookB t x y]) := by
        show _ = _
        rw [HSn.out]
        simp [List.getD, hx, hy]
      have hlen : (tooksB t mk k).length = k := tooksB_length _ _ _
      obtain ⟨L, HL⟩ : ∃ L, Hid (tooksB t mk k = L) := ⟨_, hide rfl⟩
      rw [HL.out] at hlen HO HS2
      have hlt2 : ((2 * k : Nat) : Int) < (mk.length : Int) := by omega
      have hdec : decide (((2 * k : Nat) : Int) < (mk.length : Int)) = true := by simpa using hlt2
      have HWR := hide hwr
      have HMR := hide hmr
      clear hx hy HSn hwr hmr
      rcases hpk with rfl | ⟨a, b, rfl, rfl, hab, hbl⟩
      · have HT : Hid (tooksB t mk (k + 1) = L ++ [[]]) := by
          show _ = _
          rw [HS2.out]
          simp [tookB]
        have hown := HO.out
        have hge : decide ((0 : Int) ≤ -1) = false := by decide
        clear HS2
        obtain ⟨vo, vc, rfl⟩ := own_shape hown
        go_wp2_with (at_builtin; go_loud (refine wpList_append_own _ rfl _ _ 22 rfl w.heap.size 9 i0 (.string ByteArray.empty) 1 16 Tryz.underlying22 hinf hz0 hz1 hz2 rfl (by omega) (.slice vo L.length vc) L.length (strsV L) rfl (hown.alloc _) ⟨wr.heap.size, 0, none⟩ 1 1 (strsV [[]]) rfl rfl (World.news_of_block (cs := #[.string (bs [])]) (heap_alloc_new wr _)) (by simp [strsV, Value.oneCell']) (by unfold maxLen; omega) (by omega) (by simp; omega) ?_); intro v' w1 hown' hgrow _)
        have hbw : Below w.heap.size w (wr.alloc (.cells #[.string (bs [])] 9)) := Grow.alloc HG.out _
        have hgr : Grow w w1 := hbw.grown hgrow (by simp; omega) (fun j hj => (hown.lt j hj).1)
        refine ⟨⟨k + 1, by omega, by go_num, hide hgr, hide ?_⟩, ?_⟩
        · rw [HT.out]
          show World.ownsRow _ _ _ _ _ _ _
          rw [List.length_append, strsV_snoc]
          exact hown'
        · simp [intOf]; omega
      · have hge : decide ((0 : Int) ≤ (a : Int)) = true := by simp
        obtain ⟨s, HS⟩ : ∃ s, Hid ((t.drop a).take (b - a) = s) := ⟨_, hide rfl⟩
        have hsl : s.length ≤ 2000 := by rw [← HS.out, List.length_take, List.length_drop]; omega
        have HT : Hid (tooksB t mk (k + 1) = L ++ [s]) := by
          show _ = _
          rw [HS2.out, ← HS.out]
          simp [tookB]
        clear HS2
        obtain ⟨vo, vc, rfl⟩ := own_shape HO.out
        go_wp2
        refine wp_region_free 19 49 Tryz.mixed2 rfl (by decide +kernel) Grow (fun _ _ _ => Grow.trans) (Grow.refl _)
          (fun i v w' => match i with
            | 0 => v = .pointer (some ⟨wb, 0, none⟩)
            | 1 => v = .pointer (some ⟨wb, 0, none⟩)
            | 2 => v = .pointer (some ⟨wb, 1, none⟩)
            | 3 => v = .string (bs t)
            | 4 => v = .pointer (some ⟨wb, 0, none⟩)
            | 5 => v = .pointer (some ⟨wb, 0, none⟩)
            | 6 => v = .pointer (some ⟨wb, 3, none⟩)
            | 7 => v = .slice (some ⟨mb, 0, none⟩) mk.length mc
            | 8 => v = .int .i64 ((2 * k : Nat) : Int)
            | 9 => v = .pointer (some ⟨mb, 2 * k, none⟩)
            | 10 => v = .int .i64 a
            | 11 => v = .pointer (some ⟨wb, 0, none⟩)
            | 12 => v = .pointer (some ⟨wb, 0, none⟩)
            | 13 => v = .pointer (some ⟨wb, 3, none⟩)
            | 14 => v = .slice (some ⟨mb, 0, none⟩) mk.length mc
            | 15 => v = .int .i64 ((2 * k : Nat) : Int)
            | 16 => v = .int .i64 ((2 * k + 1 : Nat) : Int)
            | 17 => v = .pointer (some ⟨mb, 2 * k + 1, none⟩)
            | _ => v = .int .i64 b)
          (fun i v w1 w2 h hg => h) (fun _ _ => False) (fun _ _ _ _ h => h.elim) (fun i hi o ho a2 w2 hG hoff hdep => ?_) (fun vals w2 hG hvals => ?_)
        · have hg2 : Grow wr w2 := hG.undrew
          have d1 := (cell_keep (sp := none) (o := 1) (hg2.block wb (by have := HWB.out; omega))).trans c1
          have d3 := (cell_keep (sp := none) (o := 3) (hg2.block wb (by have := HWB.out; omega))).trans c3
          have n0 := (cell_keep (sp := none) (o := 2 * k) (hg2.block mb (by omega))).trans m0
          have n1 := (cell_keep (sp := none) (o := 2 * k + 1) (hg2.block mb (by omega))).trans m1
          clear c1 c3 m0 m1
          match i, hi with
          | 0, _ =>
            obtain rfl := Option.some.inj ho
            have o0 := hoff 0 (by decide +kernel)
            simp at o0
            simp [opYields, go_sem, o0]
            exact Grow.refl _
          | 1, _ =>
            obtain rfl := Option.some.inj ho
            have d0 := hdep 0 (by decide +kernel)
            simp [slotOf, dstOf] at d0
            simp [opYields, go_sem, d0]
            exact Grow.refl _
          | 2, _ =>
            obtain rfl := Option.some.inj ho
            have d1 := hdep 1 (by decide +kernel)
            simp [slotOf, dstOf] at d1
            simp [opYields, go_sem, d1]
            exact Grow.refl _
          | 3, _ =>
            obtain rfl := Option.some.inj ho
            have d2 := hdep 2 (by decide +kernel)
            simp [slotOf, dstOf] at d2
            simp [opYields, go_sem, d2, d1]
            exact Grow.refl _
          | 4, _ =>
            obtain rfl := Option.some.inj ho
            have o0 := hoff 0 (by decide +kernel)
            simp at o0
            simp [opYields, go_sem, o0]
            exact Grow.refl _
          | 5, _ =>
            obtain rfl := Option.some.inj ho
            have d4 := hdep 4 (by decide +kernel)
            simp [slotOf, dstOf] at d4
            simp [opYields, go_sem, d4]
            exact Grow.refl _
          | 6, _ =>
            obtain rfl := Option.some.inj ho
            have d5 := hdep 5 (by decide +kernel)
            simp [slotOf, dstOf] at d5
            simp [opYields, go_sem, d5]
            exact Grow.refl _
          | 7, _ =>
            obtain rfl := Option.some.inj ho
            have d6 := hdep 6 (by decide +kernel)
            simp [slotOf, dstOf] at d6
            simp [opYields, go_sem, d6, d3]
            exact Grow.refl _
          | 8, _ =>
            obtain rfl := Option.some.inj ho
            have o4 := hoff 4 (by decide +kernel)
            simp at o4
            simp [opYields, go_sem, o4]
            exact Grow.refl _
          | 9, _ =>
            obtain rfl := Option.some.inj ho
            have d7 := hdep 7 (by decide +kernel)
            simp [slotOf, dstOf] at d7
            have d8 := hdep 8 (by decide +kernel)
            simp [slotOf, dstOf] at d8
            simp [opYields, go_sem, d7, d8]
            rw [if_pos ⟨by omega, by omega⟩]
            exact ⟨Grow.refl _, by simp⟩
          | 10, _ =>
            obtain rfl := Option.some.inj ho
            have d9 := hdep 9 (by decide +kernel)
            simp [slotOf, dstOf] at d9
            simp [opYields, go_sem, d9, n0]
            exact Grow.refl _
          | 11, _ =>
            obtain rfl := Option.some.inj ho
            have o0 := hoff 0 (by decide +kernel)
            simp at o0
            simp [opYields, go_sem, o0]
            exact Grow.refl _
          | 12, _ =>
            obtain rfl := Option.some.inj ho
            have d11 := hdep 11 (by decide +kernel)
            simp [slotOf, dstOf] at d11
            simp [opYields, go_sem, d11]
            exact Grow.refl _
          | 13, _ =>
            obtain rfl := Option.some.inj ho
            have d12 := hdep 12 (by decide +kernel)
            simp [slotOf, dstOf] at d12
            simp [opYields, go_sem, d12]
            exact Grow.refl _
          | 14, _ =>
            obtain rfl := Option.some.inj ho
            have d13 := hdep 13 (by decide +kernel)
            simp [slotOf, dstOf] at d13
            simp [opYields, go_sem, d13, d3]
            exact Grow.refl _
          | 15, _ =>
            obtain rfl := Option.some.inj ho
            have o4 := hoff 4 (by decide +kernel)
            simp at o4
            simp [opYields, go_sem, o4]
            exact Grow.refl _
          | 16, _ =>
            obtain rfl := Option.some.inj ho
            have d15 := hdep 15 (by decide +kernel)
            simp [slotOf, dstOf] at d15
            simp [opYields, go_sem, d15]
            exact ⟨Grow.refl _, wrap_i64_small _ (by omega) (by omega)⟩
          | 17, _ =>
            obtain rfl := Option.some.inj ho
            have d14 := hdep 14 (by decide +kernel)
            simp [slotOf, dstOf] at d14
            have d16 := hdep 16 (by decide +kernel)
            simp [slotOf, dstOf] at d16
            simp [opYields, go_sem, d14, d16]
            rw [if_pos ⟨by omega, by omega⟩]
            exact ⟨Grow.refl _, by simp⟩
          | 18, _ =>
            obtain rfl := Option.some.inj ho
            have d17 := hdep 17 (by decide +kernel)
            simp [slotOf, dstOf] at d17
            simp [opYields, go_sem, d17, n1]
            exact Grow.refl _
          | k + 19, h => exact absurd h (by omega)
        · have v3 := hvals 3 (by omega)
          have v10 := hvals 10 (by omega)
          have v18 := hvals 18 (by omega)
          simp only at v3 v10 v18
          clear hvals
          have HG2 : Hid (Grow wr w2) := hide hG.undrew
          simp [over, dstOf, Act.put, v3, v10, v18]
          go_wp2_with fail
          rw [HS.out]
          refine (mclone_any s w2 (by omega)).mono ?_
          rintro e w3 ⟨rfl, hb3⟩
          have hg3 : Grow wr w3 := HG2.out.trans hb3
          have hown : w3.ownsRow w.heap.size 9 1 (.slice vo k vc) k (strsV L) := by
            have h := own_grow HO.out hg3
            rw [hlen] at h
            exact h
          have hs3 := hg3.size
          have HG3 := hide hg3
          clear hg3 hb3 v3 v10 v18 c1 c3 m0 m1
          go_wp2_with (at_builtin; go_loud (refine wpList_append_own _ rfl _ _ 22 rfl w.heap.size 9 i0 (.string ByteArray.empty) 1 16 Tryz.underlying22 hinf hz0 hz1 hz2 rfl (by omega) (.slice vo k vc) k (strsV L) rfl (hown.alloc _) ⟨w3.heap.size, 0, none⟩ 1 1 (strsV [s]) rfl rfl (World.news_of_block (cs := #[.string (bs s)]) (heap_alloc_new w3 _)) (by simp [strsV, Value.oneCell']) (by unfold maxLen; omega) (by omega) (by simp; omega) ?_); intro v' w1 hown' hgrow _)
          have hbw : Below w.heap.size w (w3.alloc (.cells #[.string (bs s)] 9)) := Grow.alloc (HG.out.trans HG3.out) _
          have hgr : Grow w w1 := hbw.grown hgrow (by simp; omega) (fun j hj => (hown.lt j hj).1)
          refine ⟨⟨k + 1, by omega, by go_num, hide hgr, hide ?_⟩, ?_⟩
          · rw [HT.out]
            show World.ownsRow _ _ _ _ _ _ _
            rw [List.length_append, strsV_snoc, hlen]
            exact hown'
          · simp [intOf]; omega
    · obtain rfl : k = g := by omega
      obtain ⟨mc, ma, c3⟩ := hwr.marksLen
      have hdec : decide (((2 * k : Nat) : Int) < (mk.length : Int)) = false := by simp; omega
      clear hwr hmr
      have hno : ¬ (((2 * k : Nat) : Int) < (mk.length : Int)) := by omega
      go_wp2
      go_ret
      exact ⟨_, rfl, HG.out, HO.out⟩
theorem rawC_oneCell {r : Raw} (h : r.wv = .slice none 0 0) : ∀ u ∈ rawC r, u.oneCell' = true := by
  intro u hu
  simp only [rawC, h, List.mem_cons, List.mem_nil_iff, or_false] at hu
  rcases hu with rfl | rfl | rfl | rfl | rfl | rfl | rfl <;> rfl
theorem seven_cells {w : World} {b : Nat} {x0 x1 x2 x3 x4 x5 x6 : Value} {t : TypeId} (h : w.heap[b]? = some (.cells #[x0, x1, x2, x3, x4, x5, x6] t (0, 0))) :
    w.cell? ⟨b, 0, none⟩ = some x0 ∧ w.cell? ⟨b, 1, none⟩ = some x1 ∧ w.cell? ⟨b, 2, none⟩ = some x2 ∧ w.cell? ⟨b, 3, none⟩ = some x3 ∧ w.cell? ⟨b, 4, none⟩ = some x4 ∧ w.cell? ⟨b, 5, none⟩ = some x5 ∧ w.cell? ⟨b, 6, none⟩ = some x6 := by simp [World.cell?, h]
set_option maxRecDepth 20000 in
set_option maxHeartbeats 4000000 in
theorem add_any (w : World) (F : Nat → Prop) (pb : Nat) (m : List UInt8) (i g : Nat) (S : List St) (r : Raw) (hp : parserAt w F pb m i S g) (hw : r.wv = .slice none 0 0) (hok : ∀ w : World, rawOk w 0 r) (hS : S.length ≤ 1000000) :
    Calls Tryz.prog 122 #[.pointer (some ⟨pb, 0, none⟩), rawV r] w fun e w' => e = .returned (.int .i64 S.length) ∧ KeptX F pb w w' ∧ parserAt w' F pb m i (S ++ [r.st]) g := by
  obtain ⟨sv, rs, ⟨hB, hb, hrow, hall, hap, hfs, hfw⟩, rfl⟩ := hp
  rw [List.length_map] at hS
  obtain ⟨ao, cp, rfl⟩ := own_shape hrow
  obtain ⟨i0, z0, hinf, hz0, hz1, hz2, hz3⟩ := info_some Tryz.infoSt
  obtain ⟨W, HW⟩ : ∃ W, Hid (W = w.alloc (.cells (rawC r).toArray 150)) := ⟨_, hide rfl⟩
  have gW : Grow w W := by rw [HW.out]; exact (Grow.refl _).alloc _
  have hWb : W.heap[w.heap.size]? = some (.cells #[.int .i64 (kindNo r.st), .int .u64 (r.a : Nat), .int .u64 (r.b : Nat), .int .u64 (r.c : Nat), .int .u64 (r.d : Nat), .int .i64 r.sl, r.wv] 150 (0, 0)) := by rw [HW.out]; exact heap_alloc_new _ _
  have hWs : W.heap.size = w.heap.size + 1 := by rw [HW.out]; simp
  have hpW := gW.get hb
  have hrW := own_grow hrow gW
  have hno : (Value.slice ao rs.length cp).ownBlock ≠ some pb := own_apart hrow hb (by decide)
  have hno2 : (Value.slice ao rs.length cp).ownBlock ≠ some w.heap.size := fun e => by have := (hrow.lt _ e).2; omega
  have hA : ∀ (j : Nat) (r : Raw), rs[j]? = some r → ∀ b, r.wv.ownBlock = some b → b ≠ pb ∧ some b ≠ (Value.slice ao rs.length cp).ownBlock ∧ b < w.heap.size := by
    intro j r hr b hbk
    have hok := hall j r hr
    refine ⟨fun e => hok.apart hb (by decide) (e ▸ hbk), fun e => ?_, (hok.1.lt b hbk).2⟩
    rcases own_two hrow hok.1 (by decide) with h | h
    · rw [h] at e; cases e
    · exact h (by rw [← e, hbk])
  have HA := hide hA
  clear hA
  have HALL := hide hall
  have HAP := hide hap
  have HFS := hide hfs
  have HFW := hide hfw
  have HRW := hide hrW
  have HWB := hide hWb
  have HPW := hide hpW
  have HOK := hide hok
  clear hall hap hfs hfw hrow hrW hWb hpW hb hok
  obtain ⟨st, ra, rb, rc, rd, sl, wv⟩ := r
  simp only at hw
  subst hw
  unfold rawV
  go_enter Tryz.func122, Tryz.ntmps122
  go_wp2_with fail
  rw [show w.alloc (.cells #[.int .i64 (kindNo st), .int .u64 (ra : Nat), .int .u64 (rb : Nat), .int .u64 (rc : Nat), .int .u64 (rd : Nat), .int .i64 sl, .slice none 0 0] 150) = W from HW.out.symm]
  refine wp_region_state 12 24 Tryz.mixed2 rfl (by decide +kernel) (fun L vals w' => appJ W 0 150 7 (.slice ao rs.length cp) rs.length 1 (rawCells rs) (rawC ⟨st, ra, rb, rc, rd, sl, .slice none 0 0⟩) (L 8) (vals 8) w' ∧ newJ W 150 (rawC ⟨st, ra, rb, rc, rd, sl, .slice none 0 0⟩).toArray (L 7) (vals 7) w')
    (fun L vals h => ?_)
    (fun j v => match j with
      | 0 => v = .pointer (some ⟨pb, 0, none⟩)
      | 1 => v = .pointer (some ⟨pb, 0, none⟩)
      | 2 => v = .pointer (some ⟨pb, 0, none⟩)
      | 3 => v = .pointer (some ⟨pb, 2, none⟩)
      | 4 => v = .pointer (some ⟨pb, 2, none⟩)
      | 5 => v = .slice ao rs.length cp
      | 6 => v = .agg #[.int .i64 (kindNo st), .int .u64 (ra : Nat), .int .u64 (rb : Nat), .int .u64 (rc : Nat), .int .u64 (rd : Nat), .int .i64 sl, .slice none 0 0]
      | 7 => True
      | 8 => ∃ ao' cp', v = .slice ao' (rs.length + 1) cp'
      | 9 => v = .pointer (some ⟨pb, 0, none⟩)
      | 10 => v = .pointer (some ⟨pb, 2, none⟩)
      | _ => v = .pointer (some ⟨pb, 2, none⟩))
    (fun _ _ => False) (fun _ _ _ _ h => h.elim) (fun j hi o ho a w2 L vals hLi hLc hLe hJ hoff hval hdep => ?_) (fun vals w2 L hL hJ hvals => ?_)
  · simp only [h]
    exact ⟨⟨⟨rfl, rfl, rfl, Nat.le_refl _, fun _ _ _ => rfl⟩, fun _ => HRW.out, fun h => by cases h⟩, fun h => by cases h⟩
  · have hblk := grown_block hJ.1.1 HPW.out hno
    have hbox := grown_block hJ.1.1 HWB.out hno2
    obtain ⟨c0, c1, c2, c3⟩ := four_cells hblk
    obtain ⟨b0, b1, b2, b3, b4, b5, b6⟩ := seven_cells hbox
    match j, hi with
    | 0, _ =>
      obtain rfl := Option.some.inj ho
      have o0 := hoff 0 (by decide +kernel)
      simp at o0
      simp [opYields, go_sem, o0]
      exact hJ
    | 1, _ =>
      obtain rfl := Option.some.inj ho
      have o0 := hoff 0 (by decide +kernel)
      simp at o0
      simp [opYields, go_sem, o0]
      exact hJ
    | 2, _ =>
      obtain rfl := Option.some.inj ho
      have d1 := hdep 1 (by decide +kernel)
      simp [slotOf, dstOf] at d1
      simp [opYields, go_sem, d1]
      exact hJ
    | 3, _ =>
      obtain rfl := Option.some.inj ho
      have d2 := hdep 2 (by decide +kernel)
      simp [slotOf, dstOf] at d2
      simp [opYields, go_sem, d2]
      exact hJ
    | 4, _ =>
      obtain rfl := Option.some.inj ho
      have d3 := hdep 3 (by decide +kernel)
      simp [slotOf, dstOf] at d3
      simp [opYields, go_sem, d3]
      exact hJ
    | 5, _ =>
      obtain rfl := Option.some.inj ho
      have d4 := hdep 4 (by decide +kernel)
      simp [slotOf, dstOf] at d4
      simp [opYields, go_sem, d4, c2]
      exact hJ
    | 6, _ =>
      obtain rfl := Option.some.inj ho
      have o3 := hoff 3 (by decide +kernel)
      simp at o3
      simp [opYields, go_sem, o3, b0, b1, b2, b3, b4, b5, b6]
      exact hJ
    | 7, _ =>
      obtain rfl := Option.some.inj ho
      have d6 := hdep 6 (by decide +kernel)
      simp [slotOf, dstOf] at d6
      simp [opYields, go_sem, d6]
      exact ⟨hJ.1.grow ((Grow.refl _).alloc _), fun _ => ⟨_, rfl, hJ.1.1.size, heap_alloc_new _ _⟩⟩
    | 8, _ =>
      obtain rfl := Option.some.inj ho
      have h7 := hLe 7 (by decide +kernel)
      have d5 := hdep 5 (by decide +kernel)
      have v7 := hval 7 (by decide +kernel)
      simp [slotOf, dstOf] at d5 v7
      have hown2 := hJ.1.2.1 hLi
      obtain ⟨nb, hx, hnb, hcell2⟩ := hJ.2 h7
      rw [hx] at v7
      obtain ⟨v', w3, hrun, hown3, hgrow, hnew⟩ := run_append_new (P := Tryz.prog) w2 0 94 94 150 i0 z0 7 72 Tryz.underlying94 hinf hz0 hz1 hz2 hz3 (by omega) _ rs.length (rawCells rs) hown2 ⟨nb, 0, none⟩ 1 1 (rawC ⟨st, ra, rb, rc, rd, sl, .slice none 0 0⟩) rfl (fun q u hu => by
        rw [Addr.add_lit]
        exact cell_in hcell2 (by simpa using hu)) (rawC_oneCell rfl) (by unfold maxLen; omega) (by omega) (Nat.zero_le _)
      refine yields_append rfl (.tmp 10) (.tmp 12) _ _ rfl (v1 := .slice ao rs.length cp) (v2 := .slice (some ⟨nb, 0, none⟩) 1 1) (by simpa [Act.eval] using d5) (by simpa [Act.eval] using v7) hrun ?_
      obtain ⟨ao', cp', rfl⟩ := own_shape hown3
      refine ⟨⟨⟨grown_trans hJ.1.1 hgrow, fun h => by simp at h, fun _ => ⟨hown3, ?_⟩⟩, ?_⟩, ao', cp', rfl⟩
      · rcases hnew with h | ⟨g', h, h2⟩
        · exact .inl h
        · exact .inr ⟨g', h, Nat.le_trans hJ.1.1.size h2⟩
      · exact hJ.2.grown hgrow (fun k hk => (HRW.out.lt k hk).2)
    | 9, _ =>
      obtain rfl := Option.some.inj ho
      have d0 := hdep 0 (by decide +kernel)
      simp [slotOf, dstOf] at d0
      simp [opYields, go_sem, d0]
      exact hJ
    | 10, _ =>
      obtain rfl := Option.some.inj ho
      have d9 := hdep 9 (by decide +kernel)
      simp [slotOf, dstOf] at d9
      simp [opYields, go_sem, d9]
      exact hJ
    | 11, _ =>
      obtain rfl := Option.some.inj ho
      have d10 := hdep 10 (by decide +kernel)
      simp [slotOf, dstOf] at d10
      simp [opYields, go_sem, d10]
      exact hJ
    | k + 12, h => exact absurd h (by omega)
  · have hblk := grown_block hJ.1.1 HPW.out hno
    have h8 := hL 8 (by omega)
    obtain ⟨hown3, hnew⟩ := hJ.1.2.2 h8
    obtain ⟨ao', cp', v8⟩ := hvals 8 (by omega)
    have v11 := hvals 11 (by omega)
    simp only at v11
    rw [v8] at hown3 hnew
    obtain ⟨c0, c1, c2, c3⟩ := four_cells hblk
    obtain ⟨z0, z1, z2, z3⟩ := four_free hblk
    have H3 := hide hown3
    have HN := hide hnew
    have HG := hide hJ.1.1
    have HBL := hide hblk
    clear hvals hown3 hnew hJ hblk
    simp [over, dstOf, Act.put, v8, v11]
    have hset : ∀ k, k ≠ pb → (w2.setCell ⟨pb, 2, none⟩ (.slice ao' (rs.length + 1) cp')).heap[k]? = w2.heap[k]? := fun k hk => Below.heap_setCell _ _ _ _ hk
    obtain ⟨W2, HW2⟩ : ∃ W2, Hid (W2 = w2.setCell ⟨pb, 2, none⟩ (.slice ao' (rs.length + 1) cp')) := ⟨_, hide rfl⟩
    have hb2 : W2.heap[pb]? = some (.cells #[.string (bs m), .int .i64 i, .slice ao' (rs.length + 1) cp', .int .i64 g] 143 (0, 0)) := by
      rw [HW2.out, set_blk HBL.out]; simp
    obtain ⟨k0, k1, k2, k3⟩ := four_cells hb2
    have HB2 := hide hb2
    have hwr : IntKind.i64.wrap ((rs.length : Int) + 1 - 1) = rs.length := by rw [wrap_i64_small _ (by omega) (by omega)]; omega
    clear hb2
    go_wp2
    rw [← HW2.out]
    go_wp2
    go_ret
    have hs2 : W2.heap.size = w2.heap.size := by rw [HW2.out]; simp [World.setCell]
    have hW2b : ∀ k, k < w.heap.size → k ≠ pb → some k ≠ (Value.slice ao rs.length cp).ownBlock → W2.heap[k]? = w.heap[k]? := by
      intro k h1 h2 h3
      rw [HW2.out, hset k h2, HG.out.block k (by omega) h3, gW.block k h1]
    have hW2s : w.heap.size ≤ W2.heap.size := by rw [hs2]; have := HG.out.size; omega
    refine ⟨ret_int (by rw [List.length_map]), ⟨by rw [HW2.out]; exact HG.out.os.trans gW.os, by rw [HW2.out]; exact HG.out.tape.trans gW.tape, by rw [HW2.out]; exact HG.out.output.trans gW.output, hW2s, fun k hk hn => hW2b k (hB k hk) hn (fun e => HFS.out k e.symm hk)⟩, .slice ao' (rs.length + 1) cp', rs ++ [⟨st, ra, rb, rc, rd, sl, .slice none 0 0⟩], ⟨fun k hk => Nat.lt_of_lt_of_le (hB k hk) hW2s, HB2.out, ?_, ?_, ?_, ?_, ?_⟩, by simp⟩
    · have h : w2.ownsRow 0 150 7 (.slice ao' (rs.length + 1) cp') (rs ++ [(⟨st, ra, rb, rc, rd, sl, .slice none 0 0⟩ : Raw)]).length (rawCells (rs ++ [⟨st, ra, rb, rc, rd, sl, .slice none 0 0⟩])) := by
        rw [List.length_append, rawCells_append]
        have := H3.out
        simpa [rawCells] using this
      have hpn : (Value.slice ao' (rs.length + 1) cp').ownBlock ≠ some pb := own_apart H3.out HBL.out (by decide)
      rw [HW2.out]
      exact ownsRow_setCell_other (a := ⟨pb, 2, none⟩) h hpn _
    · intro j x hx
      rcases Nat.lt_or_ge j rs.length with hj | hj
      · rw [List.getElem?_append_left hj] at hx
        refine (HALL.out j x hx).keep fun b hbk => ?_
        obtain ⟨h1, h2, h3⟩ := HA.out j x hx b hbk
        exact hW2b b h3 h1 h2
      · rw [List.getElem?_append_right hj] at hx
        obtain ⟨rfl, _⟩ : x = ⟨st, ra, rb, rc, rd, sl, .slice none 0 0⟩ ∧ True := by
          cases h : j - rs.length with
          | zero => rw [h] at hx; simp at hx; exact ⟨hx.symm, trivial⟩
          | succ q => rw [h] at hx; simp at hx
        exact HOK.out W2
    · intro j k x y hjk hx hy b hbk hbk2
      rcases Nat.lt_or_ge j rs.length with hj | hj
      · rw [List.getElem?_append_left hj] at hx
        rcases Nat.lt_or_ge k rs.length with hk | hk
        · rw [List.getElem?_append_left hk] at hy
          exact HAP.out j k x y hjk hx hy b hbk hbk2
        · rw [List.getElem?_append_right hk] at hy
          cases h : k - rs.length with
          | zero => rw [h] at hy; simp at hy; subst hy; cases hbk2
          | succ q => rw [h] at hy; simp at hy
      · rw [List.getElem?_append_right hj] at hx
        cases h : j - rs.length with
        | zero => rw [h] at hx; simp at hx; subst hx; cases hbk
        | succ q => rw [h] at hx; simp at hx
    · intro b hbk hf
      rcases HN.out with h2 | ⟨q, h2, h3⟩
      · exact HFS.out b (by rw [← h2]; exact hbk) hf
      · rw [h2] at hbk; cases hbk; have := hB b hf; omega
    · intro j x b hx hbk hf
      rcases Nat.lt_or_ge j rs.length with hj | hj
      · rw [List.getElem?_append_left hj] at hx
        exact HFW.out j x b hx hbk hf
      · rw [List.getElem?_append_right hj] at hx
        cases h : j - rs.length with
        | zero => rw [h] at hx; simp at hx; subst hx; cases hbk
        | succ q => rw [h] at hx; simp at hx
end Go.Proofs.YtndpjdmfkhjiiaaGreatDoor
