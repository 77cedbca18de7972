/- 2 texts in one. -/
import Derived.Laws.OwnMore
import Derived.Test.YtndpjdmfkhjiiaaGreatDoorProg
import Derived.Test.YtndpjdmfkhjiiaaGreatDoorK97fdc06
import Derived.Test.YtndpjdmfkhjiiaaGreatDoorKbff346a
import Derived.Test.YtndpjdmfkhjiiaaGreatDoorK395e834
import Derived.Test.YtndpjdmfkhjiiaaGreatDoorK1f74ead
import Derived.Test.YtndpjdmfkhjiiaaGreatDoorKac5e9b6
import Derived.Test.YtndpjdmfkhjiiaaGreatDoorKbd7ef7d
import Derived.Test.YtndpjdmfkhjiiaaGreatDoorKf7c4ee9
import Derived.BigQuiet
set_option linter.unusedVariables false
set_option linter.unusedSimpArgs false
namespace Go.Proofs.YtndpjdmfkhjiiaaGreatDoor
open Go.RowKit
attribute [local go_sem] bs_size bs_toList bs_append bs_get bs_extract
theorem Tryz.infoB : (Tryz.prog.info? 4).map (fun i => (i.zero, i.size, i.bytes)) = some (some (.bool false), 1, 1) := by kernel_rfl
/-- Rows of one value that are made. -/
theorem make_ints (n : Nat) (hn : n ≤ 1000000000) (W : World) : (Instr.makeSlice 46 (.int .i64 (n : Int)) (.int .i64 (n : Int))).run Tryz.prog W = .ok (.slice (some ⟨W.heap.size, 0, none⟩) n n) (W.alloc (.cells (Array.replicate n (Value.int .i64 0)) 3)) := by
  obtain ⟨i0, hi, hz0, hz1, hz2⟩ := info_parts Tryz.infoI
  have h := run_make (P := Tryz.prog) W 46 3 i0 (.int .i64 0) Tryz.underlying46 hi hz0 .i64 .i64 (n : Int) (n : Int) (by omega) (by omega) (by rw [hz2]; omega) (by omega)
  have e : madeCells (Value.int .i64 0).cells (((n : Nat) : Int).toNat * i0.size) = Array.replicate n (Value.int .i64 0) := by
    apply Array.toList_inj.1
    rw [hz1, show (Value.int .i64 0).cells = #[Value.int .i64 0] from rfl, toList_madeCells_one]
    simp
  rw [e] at h
  simpa using h
theorem make_bools (n : Nat) (hn : n ≤ 1000000000) (W : World) : (Instr.makeSlice 120 (.int .i64 (n : Int)) (.int .i64 (n : Int))).run Tryz.prog W = .ok (.slice (some ⟨W.heap.size, 0, none⟩) n n) (W.alloc (.cells (Array.replicate n (Value.bool false)) 4)) := by
  obtain ⟨i0, hi, hz0, hz1, hz2⟩ := info_parts Tryz.infoB
  have h := run_make (P := Tryz.prog) W 120 4 i0 (.bool false) Tryz.underlying120 hi hz0 .i64 .i64 (n : Int) (n : Int) (by omega) (by omega) (by rw [hz2]; omega) (by omega)
  have e : madeCells (Value.bool false).cells (((n : Nat) : Int).toNat * i0.size) = Array.replicate n (Value.bool false) := by
    apply Array.toList_inj.1
    rw [hz1, show (Value.bool false).cells = #[Value.bool false] from rfl, toList_madeCells_one]
    simp
  rw [e] at h
  simpa using h
/-- Some of a row are set. -/
def minusTo (n k : Nat) : List Int := List.replicate k (-1) ++ List.replicate (n - k) 0
theorem minusTo_zero (n : Nat) : minusTo n 0 = List.replicate n 0 := by simp [minusTo]
theorem minusTo_all (n : Nat) : minusTo n n = List.replicate n (-1) := by simp [minusTo]
theorem minusTo_next {n k : Nat} (h : k < n) : (minusTo n k).set k (-1) = minusTo n (k + 1) := by
  obtain ⟨d, rfl⟩ := Nat.exists_eq_add_of_lt h
  have e1 : k + d + 1 - k = d + 1 := by omega
  have e2 : k + d + 1 - (k + 1) = d := by omega
  unfold minusTo
  rw [e1, e2, List.replicate_succ' (n := k), List.replicate_succ (n := d), List.set_append_right _ _ (by simp)]
  simp
theorem minusTo_at {n k : Nat} (h : k < n) : (minusTo n k)[k]? = some 0 := by
  obtain ⟨d, rfl⟩ := Nat.exists_eq_add_of_lt h
  have e1 : k + d + 1 - k = d + 1 := by omega
  unfold minusTo
  rw [e1, List.getElem?_append_right (by simp)]
  simp [List.replicate_succ]
/-- Steps that were laid out stay where a walk reads them. -/
theorem steps_walk {w : World} {ao : Option Addr} {S : List St} {n cp : Nat} (h : stepsIn w (.slice ao n cp) S) (tb mb : Nat) (h0 : 0 < S.length) (ht : w.heap.size ≤ tb) (hm : w.heap.size ≤ mb) :
    n = S.length ∧ ∃ sb, ao = some ⟨sb, 0, none⟩ ∧ sb < w.heap.size ∧ ∀ i st, S[i]? = some st → stepAt w tb mb sb (i * 7) st := by
  obtain ⟨rs, hrow, hall, rfl⟩ := h
  rw [List.length_map] at h0 ⊢
  rcases hrow.2 with ⟨h1, h2⟩ | ⟨sb, cap, cur, h1, h2, h3, h4⟩
  · omega
  · have hrow' := hrow
    simp at h1
    obtain ⟨rfl, rfl, rfl⟩ := h1
    refine ⟨rfl, sb, rfl, lt_of_block h3, fun i st hi => ?_⟩
    rw [List.getElem?_map] at hi
    obtain ⟨r, hr, rfl⟩ : ∃ r, rs[i]? = some r ∧ r.st = st := by
      cases hc : rs[i]? with
      | none => rw [hc] at hi; cases hi
      | some r => rw [hc] at hi; exact ⟨r, rfl, by simpa using hi⟩
    have hc : ∀ j, j < 7 → ∀ u, (rawC r)[j]? = some u → w.cell? ⟨sb, i * 7 + j, none⟩ = some u := fun j hj u hu => own_cell hrow' (by rw [rawCells_at rs i r hr j hj]; exact hu)
    refine ⟨r.a, r.b, r.c, r.d, r.sl, r.wv, hc 0 (by omega) _ rfl, hc 1 (by omega) _ rfl, hc 2 (by omega) _ rfl, hc 3 (by omega) _ rfl, hc 4 (by omega) _ rfl, hc 5 (by omega) _ rfl, hc 6 (by omega) _ rfl, ?_⟩
    have hok := hall i r hr
    cases hst : r.st with
    | fin => trivial
    | take s => have := hok.2; rw [hst] at this; exact this
    | mark n => have := hok.2; rw [hst] at this; exact this
    | fork ws =>
      have hown := hok.1
      rw [hst] at hown
      simp only [waysOf] at hown
      obtain ⟨ao', cp', hwv⟩ := own_shape hown
      refine ⟨ao', cp', hwv, fun k hk => ?_⟩
      rcases hown.2 with ⟨_, h0⟩ | ⟨g, cap', cur', e1, _, e3, _⟩
      · omega
      · have hlt := lt_of_block e3
        rw [e1] at hwv
        simp at hwv
        refine ⟨g, 0, hwv.1.symm, by omega, by omega, ?_⟩
        rw [e1] at hown
        have := own_cell hown (i := k) (u := .int .i64 (ws[k] : Nat)) (by simp [intsV, hk])
        simpa using this
theorem stepAt.grow {w w' : World} {tb mb sb o : Nat} {st : St} (h : stepAt w tb mb sb o st) (g : Grow w w') (h1 : sb ≠ tb) (h2 : sb ≠ mb) : stepAt w' tb mb sb o st := h.keep (.grow g) h1 h2
set_option maxRecDepth 20000 in
set_option maxHeartbeats 4000000 in
theorem newWalk_any (w : World) (sv : Value) (g : Nat) (S : List St) (t : List UInt8) (hst : stepsIn w sv S) (hg : g ≤ 9) (h0 : 0 < S.length) (hS : S.length ≤ 100000) (hL : t.length ≤ 2000) :
    Calls Tryz.prog 57 #[.agg #[sv, .int .i64 g], .string (bs t)] w fun e w' => ∃ wb sb tb mb, e = .returned (.pointer (some ⟨wb, 0, none⟩)) ∧ Grow w w' ∧ w.heap.size ≤ tb ∧ w.heap.size ≤ mb ∧
      walkOf w' wb sb tb mb S t (S.length * (t.length + 1)) (2 * g) ∧ triedAt w' tb (List.replicate (S.length * (t.length + 1)) false) ∧ marksAt w' mb (List.replicate (2 * g) (-1)) := by
  obtain ⟨ao, n, cp, rfl⟩ : ∃ ao n cp, sv = .slice ao n cp := by
    obtain ⟨rs, h1, _⟩ := hst
    obtain ⟨ao, cp, h⟩ := own_shape h1
    exact ⟨ao, _, cp, h⟩
  obtain ⟨rfl, sb, rfl, hsb, hsteps⟩ : n = S.length ∧ ∃ sb, ao = some ⟨sb, 0, none⟩ ∧ sb < w.heap.size ∧ ∀ tb mb, w.heap.size ≤ tb → w.heap.size ≤ mb → ∀ i st, S[i]? = some st → stepAt w tb mb sb (i * 7) st := by
    obtain ⟨h1, sb, h2, h3, _⟩ := steps_walk hst w.heap.size w.heap.size h0 (Nat.le_refl _) (Nat.le_refl _)
    refine ⟨h1, sb, h2, h3, fun tb mb ht hm => ?_⟩
    obtain ⟨_, sb', h2', _, h4⟩ := steps_walk hst tb mb h0 ht hm
    rw [h2] at h2'
    cases h2'
    exact h4
  have HST := hide hsteps
  obtain ⟨N, HN⟩ : ∃ N, Hid (S.length * (t.length + 1) = N) := ⟨_, hide rfl⟩
  have hN : N ≤ 1000000000 := by
    have h1 := HN.out
    have : S.length * (t.length + 1) ≤ 100000 * 2001 := Nat.mul_le_mul hS (by omega)
    omega
  have hNI : (S.length : Int) * ((t.length : Int) + 1) = (N : Int) := by
    have h1 := HN.out
    rw [← h1]
    push_cast
    rfl
  have HNI := hide hNI
  have hmm := make_ints (2 * g) (by omega)
  have e2 : ((2 * g : Nat) : Int) = 2 * (g : Int) := by omega
  rw [e2] at hmm
  obtain ⟨A, HA⟩ : ∃ A, Hid (A = w.alloc (.cells #[.slice (some ⟨sb, 0, none⟩) S.length cp, .int .i64 (g : Int)] 96)) := ⟨_, hide rfl⟩
  have gA : Grow w A := by rw [HA.out]; exact (Grow.refl _).alloc _
  have hAs : A.heap.size = w.heap.size + 1 := by rw [HA.out]; simp
  have hA0 : A.heap[w.heap.size]? = some (.cells #[.slice (some ⟨sb, 0, none⟩) S.length cp, .int .i64 (g : Int)] 96 (0, 0)) := by rw [HA.out]; exact heap_alloc_new _ _
  obtain ⟨a0, a1⟩ := cells_two hA0
  obtain ⟨B, HB⟩ : ∃ B, Hid (B = A.alloc (.cells (Array.replicate (2 * g) (Value.int .i64 0)) 3)) := ⟨_, hide rfl⟩
  have gB : Grow w B := by rw [HB.out]; exact gA.alloc _
  have hB0 : B.heap[w.heap.size]? = some (.cells #[.slice (some ⟨sb, 0, none⟩) S.length cp, .int .i64 (g : Int)] 96 (0, 0)) := by rw [HB.out]; exact (Below.heap_alloc _ _ _ (by omega)).trans hA0
  have hBm : marksAt B (w.heap.size + 1) (List.replicate (2 * g) 0) := by
    rw [HB.out, ← hAs]
    unfold marksAt
    rw [heap_alloc_new]
    simp
  have hmm' := hmm A
  rw [hAs] at hmm'
  have eA := HA.out.symm
  have eB := HB.out.symm
  clear hst hsteps hmm hNI
  have GB := hide gB
  have HB0 := hide hB0
  have HBM := hide hBm
  have hBs : B.heap.size = w.heap.size + 2 := by rw [HB.out]; simp [hAs]
  have HBS := hide hBs
  clear gB hB0 hBm hA0 gA hBs
  go_enter Tryz.func57, Tryz.ntmps57
  go_wp2
  clear eA eB a0 a1 hmm' HA HB
  go_loopw [13] (fun v wr => ∃ k : Nat, k ≤ 2 * g ∧ v = .int .i64 k ∧ Hid (Grow w wr) ∧ Hid (w.heap.size + 2 ≤ wr.heap.size) ∧ Hid (wr.heap[w.heap.size]? = some (.cells #[.slice (some ⟨sb, 0, none⟩) S.length cp, .int .i64 (g : Int)] 96 (0, 0))) ∧ Hid (marksAt wr (w.heap.size + 1) (minusTo (2 * g) k))) (fun v _ => 2 * g - (intOf v).toNat)
  case atStart => exact ⟨0, by omega, rfl, GB, hide (by rw [HBS.out]; exact Nat.le_refl _), HB0, hide (by rw [minusTo_zero]; exact HBM.out)⟩
  case round =>
    obtain ⟨k, hk, rfl, HG, HSZ, HP, HM⟩ := hrel
    by_cases hlt : k < 2 * g
    · have hkk : (k : Int) < 2 * (g : Int) := by omega
      have fz := not_frozen (k := k) HM.out
      have hcell := HM.out.cell (k := k) (x := 0) (minusTo_at hlt)
      have hdec : decide ((k : Int) < 2 * (g : Int)) = true := by simpa using hkk
      go_wp2
      refine ⟨⟨k + 1, by omega, by go_num, hide (HG.out.setCell (Nat.le_succ _) _), hide (by have := HSZ.out; simpa [World.setCell] using this), hide ((set_apart (b := w.heap.size + 1) (k := w.heap.size) _ (by omega)).trans HP.out), hide ?_⟩, ?_⟩
      · have := HM.out.set k (-1)
        rw [minusTo_next hlt] at this
        exact this
      · simp [intOf]; omega
    · obtain rfl : k = 2 * g := by omega
      have hM := HM.out
      rw [minusTo_all] at hM
      have HM2 := hide hM
      have hdec : decide (((2 * g : Nat) : Int) < 2 * (g : Int)) = false := by simp
      have hnot : ¬ (((2 * g : Nat) : Int) < 2 * (g : Int)) := by omega
      clear hM HM
      go_wp2
      have hmb := make_bools N hN
      have hSz : w.heap.size + 2 ≤ wr.heap.size := HSZ.out
      refine wp_region_free 12 34 Tryz.mixed2 rfl (by decide +kernel) Grow (fun _ _ _ => Grow.trans) (Grow.refl _)
        (fun i v w' => match i with
          | 0 => v = .pointer (some ⟨w.heap.size, 0, none⟩)
          | 1 => v = .slice (some ⟨sb, 0, none⟩) S.length cp
          | 2 => v = .string (bs t)
          | 3 => v = .pointer (some ⟨w.heap.size, 0, none⟩)
          | 4 => v = .slice (some ⟨sb, 0, none⟩) S.length cp
          | 5 => v = .int .i64 S.length
          | 6 => v = .string (bs t)
          | 7 => v = .int .i64 t.length
          | 8 => v = .int .i64 ((t.length : Int) + 1)
          | 9 => v = .int .i64 N
          | 10 => ∃ tb, w.heap.size + 2 ≤ tb ∧ v = .slice (some ⟨tb, 0, none⟩) N N ∧ w'.heap[tb]? = some (.cells (Array.replicate N (Value.bool false)) 4 (0, 0))
          | _ => v = .slice (some ⟨w.heap.size + 1, 0, none⟩) (2 * g) (2 * g))
        (fun i v w1 w2 h hg => ?_) (fun _ _ => False) (fun _ _ _ _ h => h.elim) (fun i hi o ho a w2 hG hoff hdep => ?_) (fun vals w2 hG hvals => ?_)
      · match i, h with
        | 0, h => exact h
        | 1, h => exact h
        | 2, h => exact h
        | 3, h => exact h
        | 4, h => exact h
        | 5, h => exact h
        | 6, h => exact h
        | 7, h => exact h
        | 8, h => exact h
        | 9, h => exact h
        | 10, h =>
          obtain ⟨tb, h1, h2, h3⟩ := h
          exact ⟨tb, h1, h2, hg.get h3⟩
        | k + 11, h => exact h
      · obtain ⟨c0, c1⟩ := cells_two (hG.undrew.block _ (lt_of_block HP.out) ▸ HP.out)
        match i, hi with
        | 0, _ =>
          obtain rfl := Option.some.inj ho
          have o2 := hoff 2 (by decide +kernel)
          simp at o2
          simp [opYields, go_sem, o2]
          exact Grow.refl _
        | 1, _ =>
          obtain rfl := Option.some.inj ho
          have d0 := hdep 0 (by decide +kernel)
          simp [slotOf, dstOf] at d0
          simp [opYields, go_sem, d0, c0]
          exact Grow.refl _
        | 2, _ =>
          obtain rfl := Option.some.inj ho
          have o1 := hoff 1 (by decide +kernel)
          simp at o1
          simp [opYields, go_sem, o1]
          exact Grow.refl _
        | 3, _ =>
          obtain rfl := Option.some.inj ho
          have o2 := hoff 2 (by decide +kernel)
          simp at o2
          simp [opYields, go_sem, o2]
          exact Grow.refl _
        | 4, _ =>
          obtain rfl := Option.some.inj ho
          have d3 := hdep 3 (by decide +kernel)
          simp [slotOf, dstOf] at d3
          simp [opYields, go_sem, d3, c0]
          exact Grow.refl _
        | 5, _ =>
          obtain rfl := Option.some.inj ho
          have d4 := hdep 4 (by decide +kernel)
          simp [slotOf, dstOf] at d4
          simp [opYields, go_sem, d4]
          exact Grow.refl _
        | 6, _ =>
          obtain rfl := Option.some.inj ho
          have o1 := hoff 1 (by decide +kernel)
          simp at o1
          simp [opYields, go_sem, o1]
          exact Grow.refl _
        | 7, _ =>
          obtain rfl := Option.some.inj ho
          have d6 := hdep 6 (by decide +kernel)
          simp [slotOf, dstOf] at d6
          simp [opYields, go_sem, d6]
          exact Grow.refl _
        | 8, _ =>
          obtain rfl := Option.some.inj ho
          have d7 := hdep 7 (by decide +kernel)
          simp [slotOf, dstOf] at d7
          simp [opYields, go_sem, d7]
          exact ⟨Grow.refl _, wrap_i64_small _ (by omega) (by omega)⟩
        | 9, _ =>
          obtain rfl := Option.some.inj ho
          have d5 := hdep 5 (by decide +kernel)
          simp [slotOf, dstOf] at d5
          have d8 := hdep 8 (by decide +kernel)
          simp [slotOf, dstOf] at d8
          simp [opYields, go_sem, d5, d8, HNI.out]
          exact ⟨Grow.refl _, wrap_i64_small _ (by omega) (by omega)⟩
        | 10, _ =>
          obtain rfl := Option.some.inj ho
          have d9 := hdep 9 (by decide +kernel)
          simp [slotOf, dstOf] at d9
          simp [opYields, go_sem, d9, hmb]
          exact ⟨(Grow.refl _).alloc _, _, by have := hG.undrew.size; have := HSZ.out; omega, rfl, heap_alloc_new _ _⟩
        | 11, _ =>
          obtain rfl := Option.some.inj ho
          have o5 := hoff 5 (by decide +kernel)
          simp at o5
          simp [opYields, go_sem, o5]
          exact Grow.refl _
        | k + 12, h => exact absurd h (by omega)
      · have v1 := hvals 1 (by omega)
        have v2 := hvals 2 (by omega)
        obtain ⟨tb, htb, v10, hT⟩ := hvals 10 (by omega)
        have v11 := hvals 11 (by omega)
        simp only at v1 v2 v11
        clear hvals
        have hgr : Grow w w2 := HG.out.trans hG.undrew
        have hM2 := (HM2.out).keep hG.undrew
        have HGR := hide hgr
        have HGRS := hide hG.undrew.size
        have HM3 := hide hM2
        have HT := hide hT
        clear hgr hM2 hT hmb hG
        simp [over, dstOf, Act.put, v1, v2, v10, v11]
        have hs2 : w.heap.size + 2 ≤ w2.heap.size := by have := HSZ.out; have := HGRS.out; omega
        have htl := lt_of_block HT.out
        have hml := lt_of_block HM3.out
        obtain ⟨Z, HZ⟩ : ∃ Z, Hid (Z = w2.alloc (.cells #[.slice (some ⟨sb, 0, none⟩) S.length cp, .string (bs t), .slice (some ⟨tb, 0, none⟩) N N, .slice (some ⟨w.heap.size + 1, 0, none⟩) (2 * g) (2 * g)] 145)) := ⟨_, hide rfl⟩
        have gZ : Grow w2 Z := by rw [HZ.out]; exact (Grow.refl _).alloc _
        have hZ0 : Z.heap[w2.heap.size]? = some (.cells #[.slice (some ⟨sb, 0, none⟩) S.length cp, .string (bs t), .slice (some ⟨tb, 0, none⟩) N N, .slice (some ⟨w.heap.size + 1, 0, none⟩) (2 * g) (2 * g)] 145 (0, 0)) := by rw [HZ.out]; exact heap_alloc_new _ _
        have HZ0 := hide hZ0
        have HGZ := hide gZ
        have eZ := HZ.out.symm
        clear hZ0 gZ HZ
        go_wp2
        go_ret
        refine ⟨w2.heap.size, sb, tb, w.heap.size + 1, rfl, HGR.out.trans HGZ.out, by omega, by omega, ⟨cp, N, 2 * g, some ⟨w.heap.size + 1, 0, none⟩, ?_, fun _ => rfl, fun i st hi => ?_, by omega, by omega, by omega, by omega, by omega⟩, ?_, ?_⟩
        · rw [HN.out]
          exact HZ0.out
        · exact (HST.out tb (w.heap.size + 1) (by omega) (by omega) i st hi).grow (HGR.out.trans HGZ.out) (by omega) (by omega)
        · unfold triedAt
          rw [HGZ.out.get HT.out, HN.out]
          simp
        · exact HM3.out.keep HGZ.out
/-- A reader in a block: its mask, where it is, how many groups, and its fault. -/
def readerAt (w : World) (rb : Nat) (m : List UInt8) (i g e a : Nat) : Prop :=
  w.heap[rb]? = some (.cells #[.string (bs m), .int .i64 i, .int .i64 g, .int .i64 e, .int .i64 a] 109 (0, 0))
theorem five_cells {w : World} {b : Nat} {x0 x1 x2 x3 x4 : Value} {t : TypeId} (h : w.heap[b]? = some (.cells #[x0, x1, x2, x3, x4] t (0, 0))) :
    w.cell? ⟨b, 0, none⟩ = some x0 ∧ w.cell? ⟨b, 1, none⟩ = some x1 ∧ w.cell? ⟨b, 2, none⟩ = some x2 ∧ w.cell? ⟨b, 3, none⟩ = some x3 ∧ w.cell? ⟨b, 4, none⟩ = some x4 := by simp [World.cell?, h]
theorem readerAt.draw {w : World} {rb n : Nat} {m : List UInt8} {i g e a : Nat} (h : readerAt w rb m i g e a) : readerAt (w.drewN n) rb m i g e a := h
theorem readerAt.grow {w w' : World} {rb : Nat} {m : List UInt8} {i g e a : Nat} (h : readerAt w rb m i g e a) (k : Grow w w') : readerAt w' rb m i g e a := k.get h
theorem readerAt.on {w : World} {rb : Nat} {m : List UInt8} {i i' g e a : Nat} (h : readerAt w rb m i g e a) (u : Value) (hu : u = .int .i64 (i' : Int)) : readerAt (w.setCell ⟨rb, 1, none⟩ u) rb m i' g e a := by
  unfold readerAt
  rw [set_blk h, hu]
  rfl
end Go.Proofs.YtndpjdmfkhjiiaaGreatDoor
