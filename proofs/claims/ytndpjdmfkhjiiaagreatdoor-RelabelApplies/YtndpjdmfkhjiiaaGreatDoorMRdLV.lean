/- The document's own reader of masks: whole masks. -/
import Derived.Laws.OwnMore
import Derived.Test.YtndpjdmfkhjiiaaGreatDoorProg
import Derived.Test.YtndpjdmfkhjiiaaGreatDoorQ74d152
import Derived.Test.YtndpjdmfkhjiiaaGreatDoorQ3d7cfc
import Derived.Test.YtndpjdmfkhjiiaaGreatDoorQ06840a
import Derived.Test.YtndpjdmfkhjiiaaGreatDoorQ082284
import Derived.Test.YtndpjdmfkhjiiaaGreatDoorMFromV
import Derived.Test.YtndpjdmfkhjiiaaGreatDoorQfa040f
import Derived.Test.YtndpjdmfkhjiiaaGreatDoorMMatV
import Derived.Test.YtndpjdmfkhjiiaaGreatDoorMRdAV
import Derived.Test.YtndpjdmfkhjiiaaGreatDoorQ6cc641
import Derived.Test.YtndpjdmfkhjiiaaGreatDoorQ7dd50d
import Derived.Test.YtndpjdmfkhjiiaaGreatDoorQ13d957
import Derived.Test.YtndpjdmfkhjiiaaGreatDoorMRdKV
import Derived.BigQuiet
set_option linter.unusedVariables false
set_option linter.unusedSimpArgs false
namespace Go.Proofs.YtndpjdmfkhjiiaaGreatDoor
open Go.RowKit
attribute [local go_sem] bs_size bs_toList bs_append bs_get bs_extract

/-- What MaskOf answers. -/
def maskPost (w : World) (m : List UInt8) (e : Ending) (w' : World) : Prop :=
  Grow w w' ∧ match maskIs m with
    | .error x => e = .returned (.tuple #[.slice none 0 0, .int .i64 0, .agg #[.int .i64 x.1, .int .i64 x.2]])
    | .ok x => ∃ v k ys, e = .returned (.tuple #[v, .int .i64 x.2, .agg #[.int .i64 0, .int .i64 0]]) ∧ w'.ownsRow w.heap.size 153 1 v k ys ∧ cellsAt w' (fun b => w.heap.size ≤ b) x.1 ys

theorem fault_set {w : World} {b : Nat} {y0 y1 : Value} {t : TypeId} (h : w.heap[b]? = some (.cells #[y0, y1] t (0, 0))) (x0 x1 : Value) : ((w.setCell ⟨b, 0, none⟩ x0).setCell ⟨b, 1, none⟩ x1).heap[b]? = some (.cells #[x0, x1] t (0, 0)) := by
  rw [set_blk (set_blk h _)]
  simp

set_option maxRecDepth 20000 in
set_option maxHeartbeats 4000000 in
theorem maskOf_any (w : World) (m : List UInt8) (hml : m.length ≤ 9223372036854775807) : Calls Tryz.prog 33 #[.string (bs m)] w (maskPost w m) := by
  have HEQ := hide (maskIs_eq m)
  obtain ⟨A, HA⟩ : ∃ A, Hid (A = w.alloc (.cells #[.int .i64 0, .int .i64 0] 65)) := ⟨_, hide rfl⟩
  have gA : Grow w A := by rw [HA.out]; exact (Grow.refl _).alloc _
  have hA0 : A.heap[w.heap.size]? = some (.cells #[.int .i64 0, .int .i64 0] 65 (0, 0)) := by rw [HA.out]; exact heap_alloc_new _ _
  have hAs : A.heap.size = w.heap.size + 1 := by rw [HA.out]; simp
  have GA := hide gA
  have HA0 := hide hA0
  have eA := HA.out.symm
  clear gA hA0 HA
  by_cases h60 : 60 < m.length
  · have HE : Hid (maskIs m = .error (2, 0)) := by
      have h := HEQ.out
      unfold pMask at h
      rw [if_pos h60] at h
      exact hide (Option.some.inj h).symm
    have h602 : (60 : Int) < (m.length : Int) := by omega
    obtain ⟨r0, r1⟩ := cells_two HA0.out
    have z0 := not_frozen (k := 0) HA0.out
    have z1 := not_frozen (k := 1) HA0.out
    have hZ := fault_set HA0.out (.int .i64 2) (.int .i64 0)
    have hGZ : Grow w _ := (GA.out.setCell (p := ⟨w.heap.size, 0, none⟩) (Nat.le_refl _) (.int .i64 2)).setCell (p := ⟨w.heap.size, 1, none⟩) (Nat.le_refl _) (.int .i64 0)
    obtain ⟨Z, eZ⟩ : ∃ Z, (A.setCell ⟨w.heap.size, 0, none⟩ (.int .i64 2)).setCell ⟨w.heap.size, 1, none⟩ (.int .i64 0) = Z := ⟨_, rfl⟩
    rw [eZ] at hZ hGZ
    obtain ⟨t0, t1⟩ := cells_two hZ
    have HGZ := hide hGZ
    clear hZ hGZ h60 HEQ
    go_enter Tryz.func33, Tryz.ntmps33
    go_wp2
    simp [bodyPost, results, Tryz.results33, go_sem, t0, t1]
    refine ⟨HGZ.out, ?_⟩
    rw [HE.out]
    rfl
  · have h602 : ¬ (60 : Int) < (m.length : Int) := by omega
    obtain ⟨y, hy⟩ : ∃ y, pM m (2 * m.length + 2) true 0 0 = some y := pM_some (m := m) (2 * m.length + 2) true 0 0 (by omega) (by simp)
    have HY := hide hy
    have HME : Hid ((bindO (some y) fun x => if x.2.1 < m.length then some (.error (1, x.2.1)) else some (.ok (x.1, x.2.2))) = some (maskIs m)) := by
      have h := HEQ.out
      unfold pMask at h
      rw [if_neg h60, hy] at h
      exact hide h
    obtain ⟨B, eB⟩ : ∃ B, A.alloc (.cells #[.string (bs m), .int .i64 0, .int .i64 0, .int .i64 0, .int .i64 0] 109) = B := ⟨_, rfl⟩
    have gB : Grow A B := by rw [← eB]; exact (Grow.refl _).alloc _
    have hB : readerAt B A.heap.size m 0 0 0 0 := by rw [← eB]; exact heap_alloc_new _ _
    have hBs : B.heap.size = w.heap.size + 2 := by rw [← eB]; simp [hAs]
    have HB := hide hB
    have HFB := hide (gB.get HA0.out)
    have HGB : Hid (Grow w B) := hide (GA.out.trans gB)
    have hm60 : m.length ≤ 1000 := by omega
    rw [hAs] at HB
    have HROWS := hide (rrows_ok (m := m) hm60 (2 * m.length + 2) B (w.heap.size + 1) 0 0 y HB.out (by omega) (by omega) HY.out)
    clear hy hB gB h60 HEQ
    go_enter Tryz.func33, Tryz.ntmps33
    go_wp2_with fail
    refine HROWS.out.mono ?_
    rintro en w1 ⟨hk1, v, k, ys, rfl, ho, hpost⟩
    obtain ⟨ao, cp, rfl⟩ := own_shape ho
    have hfb : w1.heap[w.heap.size]? = some (.cells #[.int .i64 0, .int .i64 0] 65 (0, 0)) := (hk1.block _ (by omega) (by omega) (by omega)).trans HFB.out
    have hgw : Grow w w1 := ⟨hk1.os.trans HGB.out.os, hk1.tape.trans HGB.out.tape, hk1.output.trans HGB.out.output, Nat.le_trans HGB.out.size hk1.size, fun b hb => (hk1.block b (by have := HGB.out.size; omega) (by omega) (by omega)).trans (HGB.out.block b hb)⟩
    have HPO := hide hpost
    have HO := hide ho
    have HFQ1 := hide hfb
    have HGQ1 := hide hgw
    have hs1 := hk1.size
    clear hpost ho hfb hgw hk1 HROWS eA eB
    cases y with
    | error x =>
      obtain ⟨j, h, hr⟩ := HPO.out
      have HE : Hid (maskIs m = .error x) := hide (Option.some.inj HME.out).symm
      have hx0 := eM HY.out
      have hxn : ((x.1 : Int) == 0) = false := by simp; omega
      have hxn2 : ((x.1 : Int) != 0) = true := by simp; omega
      obtain ⟨Q, HQQ⟩ : ∃ Q, Hid (Q = w1) := ⟨_, hide rfl⟩
      rw [← HQQ.out] at HFQ1 HGQ1 hr ⊢
      have HRQ := hide hr
      have HFQ := HFQ1
      have HGQ := HGQ1
      obtain ⟨r0, r1, r2, r3, r4⟩ := five_cells hr
      clear hr HPO HO HME hx0 HQQ
      go_wp2
      refine wp_region_free 6 53 Tryz.mixed2 rfl (by decide +kernel) Grow (fun _ _ _ => Grow.trans) (Grow.refl _)
        (fun i v w' => match i with
          | 0 => v = .pointer (some ⟨w.heap.size + 1, 0, none⟩)
          | 1 => v = .pointer (some ⟨w.heap.size + 1, 0, none⟩)
          | 2 => v = .pointer (some ⟨w.heap.size + 1, 3, none⟩)
          | 3 => v = .agg #[.int .i64 (x.1 : Nat), .int .i64 (x.2 : Nat)]
          | 4 => v = .slice none 0 0
          | _ => v = .int .i64 0)
        (fun i v w1 w2 h hg => h) (fun _ _ => False) (fun _ _ _ _ h => h.elim) (fun i hi o ho a2 w2 hG hoff hdep => ?_) (fun vals w2 hG hvals => ?_)
      · have hrd := HRQ.out.grow (hG.undrew)
        obtain ⟨_, _, _, k3, k4⟩ := five_cells hrd
        clear hrd
        match i, hi with
        | 0, _ =>
          obtain rfl := Option.some.inj ho
          have o5 := hoff 5 (by decide +kernel)
          simp at o5
          simp [opYields, go_sem, o5]
          exact Grow.refl _
        | 1, _ =>
          obtain rfl := Option.some.inj ho
          have d0 := hdep 0 (by decide +kernel)
          simp [slotOf, dstOf] at d0
          simp [opYields, go_sem, d0]
          exact Grow.refl _
        | 2, _ =>
          obtain rfl := Option.some.inj ho
          have d1 := hdep 1 (by decide +kernel)
          simp [slotOf, dstOf] at d1
          simp [opYields, go_sem, d1]
          exact Grow.refl _
        | 3, _ =>
          obtain rfl := Option.some.inj ho
          have d2 := hdep 2 (by decide +kernel)
          simp [slotOf, dstOf] at d2
          simp [opYields, go_sem, d2, k3, k4]
          exact Grow.refl _
        | 4, _ =>
          obtain rfl := Option.some.inj ho
          simp [opYields, go_sem]
          exact Grow.refl _
        | 5, _ =>
          obtain rfl := Option.some.inj ho
          simp [opYields, go_sem]
          exact Grow.refl _
        | k + 6, h => exact absurd h (by omega)
      · have v3 := hvals 3 (by omega)
        have v4 := hvals 4 (by omega)
        have v5 := hvals 5 (by omega)
        simp only at v3 v4 v5
        have hg2 : Grow Q w2 := hG.undrew
        have hr2 := hg2.get HFQ.out
        have y0 := not_frozen (k := 0) hr2
        have y1 := not_frozen (k := 1) hr2
        obtain ⟨s0, s1⟩ := cells_two hr2
        obtain ⟨Z, HZ⟩ : ∃ Z, Hid (Z = (w2.setCell ⟨w.heap.size, 0, none⟩ (.int .i64 x.1)).setCell ⟨w.heap.size, 1, none⟩ (.int .i64 x.2)) := ⟨_, hide rfl⟩
        have hZ : Z.heap[w.heap.size]? = some (.cells #[.int .i64 x.1, .int .i64 x.2] 65 (0, 0)) := by
          rw [HZ.out]; exact fault_set hr2 _ _
        have hGZ : Grow w Z := by
          rw [HZ.out]
          exact ((HGQ.out.trans hg2).setCell (Nat.le_refl _) _).setCell (Nat.le_refl _) _
        have eZ := HZ.out.symm
        obtain ⟨t0, t1⟩ := cells_two hZ
        have HGZ := hide hGZ
        clear hG hg2 hr2 hGZ hZ HZ hvals
        simp [over, dstOf, Act.put, v3, v4, v5]
        go_wp2
        clear eZ
        simp [bodyPost, results, Tryz.results33, go_sem, t0, t1]
        refine ⟨HGZ.out, ?_⟩
        rw [HE.out]
    | ok x =>
      obtain ⟨T, j, g⟩ := x
      obtain ⟨hc, hr⟩ := HPO.out
      simp only at hc hr
      obtain ⟨r0, r1, r2, r3, r4⟩ := five_cells hr
      have HR1 := hide hr
      by_cases hj : j < m.length
      · have HE : Hid (maskIs m = .error (1, j)) := by
          have h := HME.out
          simp only [bindO, if_pos hj] at h
          exact hide (Option.some.inj h).symm
        have hjd : decide ((j : Int) < m.length) = true := by simpa using hj
        clear hc hr HPO HO HME
        go_wp2_with fail
        refine (wrong_any w1 (w.heap.size + 1) m j g 1 (j : Int) 1 j rfl rfl HR1.out).mono ?_
        rintro en Q ⟨rfl, hk2, hr2⟩
        obtain ⟨x, hx⟩ : ∃ x : Nat × Nat, (1, j) = x := ⟨_, rfl⟩
        have hx1 : x.1 = 1 := by rw [← hx]
        have hx2 : x.2 = j := by rw [← hx]
        have HRQ : Hid (readerAt Q (w.heap.size + 1) m j g x.1 x.2) := by rw [hx1, hx2]; exact hide hr2
        have HFQ : Hid (Q.heap[w.heap.size]? = some (.cells #[.int .i64 0, .int .i64 0] 65 (0, 0))) := hide ((hk2.block _ (lt_of_block HFQ1.out) (by omega) (by omega)).trans HFQ1.out)
        have HGQ : Hid (Grow w Q) := hide ⟨hk2.os.trans HGQ1.out.os, hk2.tape.trans HGQ1.out.tape, hk2.output.trans HGQ1.out.output, Nat.le_trans HGQ1.out.size hk2.size, fun b hb => (hk2.block b (Nat.lt_of_lt_of_le hb HGQ1.out.size) (by omega) (by omega)).trans (HGQ1.out.block b hb)⟩
        rw [hx] at HE
        have hxn : ((x.1 : Int) == 0) = false := by rw [hx1]; rfl
        have hxn2 : ((x.1 : Int) != 0) = true := by rw [hx1]; rfl
        obtain ⟨q0, q1, q2, q3, q4⟩ := five_cells HRQ.out
        clear hk2 hr2 hx hx1 hx2 r0 r1 r2 r3 r4
        go_wp2
        refine wp_region_free 6 53 Tryz.mixed2 rfl (by decide +kernel) Grow (fun _ _ _ => Grow.trans) (Grow.refl _)
          (fun i v w' => match i with
            | 0 => v = .pointer (some ⟨w.heap.size + 1, 0, none⟩)
            | 1 => v = .pointer (some ⟨w.heap.size + 1, 0, none⟩)
            | 2 => v = .pointer (some ⟨w.heap.size + 1, 3, none⟩)
            | 3 => v = .agg #[.int .i64 (x.1 : Nat), .int .i64 (x.2 : Nat)]
            | 4 => v = .slice none 0 0
            | _ => v = .int .i64 0)
          (fun i v w1 w2 h hg => h) (fun _ _ => False) (fun _ _ _ _ h => h.elim) (fun i hi o ho a2 w2 hG hoff hdep => ?_) (fun vals w2 hG hvals => ?_)
        · have hrd := HRQ.out.grow (hG.undrew)
          obtain ⟨_, _, _, k3, k4⟩ := five_cells hrd
          clear hrd
          match i, hi with
          | 0, _ =>
            obtain rfl := Option.some.inj ho
            have o5 := hoff 5 (by decide +kernel)
            simp at o5
            simp [opYields, go_sem, o5]
            exact Grow.refl _
          | 1, _ =>
            obtain rfl := Option.some.inj ho
            have d0 := hdep 0 (by decide +kernel)
            simp [slotOf, dstOf] at d0
            simp [opYields, go_sem, d0]
            exact Grow.refl _
          | 2, _ =>
            obtain rfl := Option.some.inj ho
            have d1 := hdep 1 (by decide +kernel)
            simp [slotOf, dstOf] at d1
            simp [opYields, go_sem, d1]
            exact Grow.refl _
          | 3, _ =>
            obtain rfl := Option.some.inj ho
            have d2 := hdep 2 (by decide +kernel)
            simp [slotOf, dstOf] at d2
            simp [opYields, go_sem, d2, k3, k4]
            exact Grow.refl _
          | 4, _ =>
            obtain rfl := Option.some.inj ho
            simp [opYields, go_sem]
            exact Grow.refl _
          | 5, _ =>
            obtain rfl := Option.some.inj ho
            simp [opYields, go_sem]
            exact Grow.refl _
          | k + 6, h => exact absurd h (by omega)
        · have v3 := hvals 3 (by omega)
          have v4 := hvals 4 (by omega)
          have v5 := hvals 5 (by omega)
          simp only at v3 v4 v5
          have hg2 : Grow Q w2 := hG.undrew
          have hr2 := hg2.get HFQ.out
          have y0 := not_frozen (k := 0) hr2
          have y1 := not_frozen (k := 1) hr2
          obtain ⟨s0, s1⟩ := cells_two hr2
          obtain ⟨Z, HZ⟩ : ∃ Z, Hid (Z = (w2.setCell ⟨w.heap.size, 0, none⟩ (.int .i64 x.1)).setCell ⟨w.heap.size, 1, none⟩ (.int .i64 x.2)) := ⟨_, hide rfl⟩
          have hZ : Z.heap[w.heap.size]? = some (.cells #[.int .i64 x.1, .int .i64 x.2] 65 (0, 0)) := by
            rw [HZ.out]; exact fault_set hr2 _ _
          have hGZ : Grow w Z := by
            rw [HZ.out]
            exact ((HGQ.out.trans hg2).setCell (Nat.le_refl _) _).setCell (Nat.le_refl _) _
          have eZ := HZ.out.symm
          obtain ⟨t0, t1⟩ := cells_two hZ
          have HGZ := hide hGZ
          clear hG hg2 hr2 hGZ hZ HZ hvals
          simp [over, dstOf, Act.put, v3, v4, v5]
          go_wp2
          clear eZ
          simp [bodyPost, results, Tryz.results33, go_sem, t0, t1]
          refine ⟨HGZ.out, ?_⟩
          rw [HE.out]
      · have HE : Hid (maskIs m = .ok (T, g)) := by
          have h := HME.out
          simp only [bindO, if_neg hj] at h
          exact hide (Option.some.inj h).symm
        have hjd : decide ((j : Int) < m.length) = false := by simpa using hj
        obtain ⟨Q, HQQ⟩ : ∃ Q, Hid (Q = w1) := ⟨_, hide rfl⟩
        have HC : Hid (cellsAt Q (fun b => w.heap.size + 2 ≤ b) T ys) := by rw [HQQ.out]; exact hide (hc.keep fun b _ h2 => ⟨by have := h2.1; omega, rfl⟩)
        have HO : Hid (Q.ownsRow (w.heap.size + 2) 153 1 (.slice ao k cp) k ys) := by rw [HQQ.out]; exact hide (own_le HO.out (by omega))
        rw [← HQQ.out] at HFQ1 HGQ1 HR1 ⊢
        have HRQ := HR1
        have HFQ := HFQ1
        have HGQ := HGQ1
        clear hc hr HPO HME HQQ r0 r1 r2 r3 r4
        obtain ⟨r0, r1, r2, r3, r4⟩ := five_cells HRQ.out
        go_wp2
        refine wp_region_free 8 53 Tryz.mixed2 rfl (by decide +kernel) Grow (fun _ _ _ => Grow.trans) (Grow.refl _)
          (fun i v w' => match i with
            | 0 => v = .slice ao k cp
            | 1 => v = .pointer (some ⟨w.heap.size + 1, 0, none⟩)
            | 2 => v = .pointer (some ⟨w.heap.size + 1, 0, none⟩)
            | 3 => v = .pointer (some ⟨w.heap.size + 1, 2, none⟩)
            | 4 => v = .int .i64 (g : Nat)
            | 5 => v = .agg #[.int .i64 0, .int .i64 0]
            | 6 => v = .slice ao k cp
            | _ => v = .int .i64 (g : Nat))
          (fun i v w1 w2 h hg => h) (fun _ _ => False) (fun _ _ _ _ h => h.elim) (fun i hi o ho a2 w2 hG hoff hdep => ?_) (fun vals w2 hG hvals => ?_)
        · have hrd := HRQ.out.grow (hG.undrew)
          obtain ⟨_, _, k2, _, _⟩ := five_cells hrd
          clear hrd
          match i, hi with
          | 0, _ =>
            obtain rfl := Option.some.inj ho
            have o6 := hoff 6 (by decide +kernel)
            simp at o6
            simp [opYields, go_sem, o6]
            exact Grow.refl _
          | 1, _ =>
            obtain rfl := Option.some.inj ho
            have o5 := hoff 5 (by decide +kernel)
            simp at o5
            simp [opYields, go_sem, o5]
            exact Grow.refl _
          | 2, _ =>
            obtain rfl := Option.some.inj ho
            have d1 := hdep 1 (by decide +kernel)
            simp [slotOf, dstOf] at d1
            simp [opYields, go_sem, d1]
            exact Grow.refl _
          | 3, _ =>
            obtain rfl := Option.some.inj ho
            have d2 := hdep 2 (by decide +kernel)
            simp [slotOf, dstOf] at d2
            simp [opYields, go_sem, d2]
            exact Grow.refl _
          | 4, _ =>
            obtain rfl := Option.some.inj ho
            have d3 := hdep 3 (by decide +kernel)
            simp [slotOf, dstOf] at d3
            simp [opYields, go_sem, d3, k2]
            exact Grow.refl _
          | 5, _ =>
            obtain rfl := Option.some.inj ho
            simp [opYields, go_sem]
            exact Grow.refl _
          | 6, _ =>
            obtain rfl := Option.some.inj ho
            have d0 := hdep 0 (by decide +kernel)
            simp [slotOf, dstOf] at d0
            simp [opYields, go_sem, d0]
            exact Grow.refl _
          | 7, _ =>
            obtain rfl := Option.some.inj ho
            have d4 := hdep 4 (by decide +kernel)
            simp [slotOf, dstOf] at d4
            simp [opYields, go_sem, d4]
            exact Grow.refl _
          | k + 8, h => exact absurd h (by omega)
        · have v5 := hvals 5 (by omega)
          have v6 := hvals 6 (by omega)
          have v7 := hvals 7 (by omega)
          simp only at v5 v6 v7
          have hg2 : Grow Q w2 := hG.undrew
          have hr2 := hg2.get HFQ.out
          have y0 := not_frozen (k := 0) hr2
          have y1 := not_frozen (k := 1) hr2
          obtain ⟨s0, s1⟩ := cells_two hr2
          obtain ⟨Z, HZ⟩ : ∃ Z, Hid (Z = (w2.setCell ⟨w.heap.size, 0, none⟩ (.int .i64 0)).setCell ⟨w.heap.size, 1, none⟩ (.int .i64 0)) := ⟨_, hide rfl⟩
          have hZ : Z.heap[w.heap.size]? = some (.cells #[.int .i64 0, .int .i64 0] 65 (0, 0)) := by
            rw [HZ.out]; exact fault_set hr2 _ _
          have hGZ : Grow w Z := by
            rw [HZ.out]
            exact ((HGQ.out.trans hg2).setCell (Nat.le_refl _) _).setCell (Nat.le_refl _) _
          have hkZ : ∀ b, w.heap.size + 2 ≤ b → b < Q.heap.size → Z.heap[b]? = Q.heap[b]? := fun b h1 h2 => by
            rw [HZ.out]
            exact (set_apart _ (by omega)).trans ((set_apart _ (by omega)).trans (hg2.block b h2))
          have HOZ : Hid (Z.ownsRow w.heap.size 153 1 (.slice ao k cp) k ys) := hide (own_le (own_keep HO.out fun b e => hkZ b (by have := (own_ge HO.out e).1; omega) (own_ge HO.out e).2) (by omega))
          have HCZ : Hid (cellsAt Z (fun b => w.heap.size ≤ b) T ys) := hide (HC.out.keep fun b h1 h2 => ⟨by omega, hkZ b (by omega) h1⟩)
          have eZ := HZ.out.symm
          obtain ⟨t0, t1⟩ := cells_two hZ
          have HGZ := hide hGZ
          clear hG hg2 hr2 hGZ hZ HZ hvals hkZ
          simp [over, dstOf, Act.put, v5, v6, v7]
          go_wp2
          clear eZ
          simp [bodyPost, results, Tryz.results33, go_sem, t0, t1]
          refine ⟨HGZ.out, ?_⟩
          rw [HE.out]
          exact ⟨_, k, ys, rfl, HOZ.out, HCZ.out⟩

end Go.Proofs.YtndpjdmfkhjiiaaGreatDoor
