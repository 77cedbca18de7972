/- 4 texts in one. -/
import Derived.Test.YtmdakfmecfcbhaaGreatProg
import Derived.Test.YtmdakfmecfcbhaaGreatK7e06493
import Derived.Test.YtmdakfmecfcbhaaGreatK85cc7d6
import Derived.Test.YtmdakfmecfcbhaaGreatK6271d58
import Derived.Test.YtmdakfmecfcbhaaGreatK2326a0d
import Derived.Test.YtmdakfmecfcbhaaGreatK3e23582
import Derived.Test.YtmdakfmecfcbhaaGreatKcd6d4df
set_option linter.unusedVariables false
set_option linter.unusedSimpArgs false
namespace Go.Proofs.YtmdakfmecfcbhaaGreat
open Go.RowKit
attribute [local go_sem] bs_size bs_toList bs_append bs_get bs_extract
theorem Tryz.infoL : (Tryz.prog.info? 62).map (fun i => (i.zero, i.size, i.bytes)) = some (some (.agg #[.string ⟨#[]⟩, .string ⟨#[]⟩]), 2, 32) := by kernel_rfl
theorem Tryz.infoS : (Tryz.prog.info? 48).map (fun i => (i.zero, i.size, i.bytes)) = some (some (.agg #[.int .i64 0, .int .u64 0]), 2, 16) := by kernel_rfl
theorem Tryz.infoE : (Tryz.prog.info? 41).map (fun i => (i.zero, i.size, i.bytes)) = some (some (.agg #[.slice none 0 0, .slice none 0 0]), 2, 48) := by kernel_rfl
/-- A series that is being read, in a block. -/
def serAt (w : World) (B xb : Nat) (x : Ser) : Prop :=
  B ≤ w.heap.size ∧ ∃ v1 v2, w.heap[xb]? = some (.cells #[v1, v2] 41 (0, 0)) ∧ ownLabels w B v1 x.1 ∧ ownSamples w B v2 x.2
theorem serAt_grow {w w' : World} {B xb : Nat} {x : Ser} (h : serAt w B xb x) (hg : Grow w w') : serAt w' B xb x := by
  obtain ⟨h0, v1, v2, h1, h2, h3⟩ := h
  exact ⟨by have := hg.size; omega, v1, v2, hg.get h1, own_grow h2 hg, own_grow h3 hg⟩
/-- What a series' fields tell. -/
def serStep (x : Ser) (f : Fld) : Ser :=
  if f.1 = 10 then (match labRead f.2.2 with | some a => (x.1 ++ [a], x.2) | none => x)
  else if f.1 = 18 then (match samRead f.2.2 with | some a => (x.1, x.2 ++ [a]) | none => x)
  else x
def serOk (f : Fld) : Bool := if f.1 = 10 then (labRead f.2.2).isSome else if f.1 = 18 then (samRead f.2.2).isSome else true
set_option maxRecDepth 20000 in
set_option maxHeartbeats 4000000 in
theorem readSeries1_any (w : World) (B xb : Nat) (x : Ser) (f : Fld) (hx : serAt w B xb x) (hl1 : x.1.length ≤ 1000000) (hl2 : x.2.length ≤ 1000000) (hf : f.2.2.length ≤ 1000000) :
    Calls Tryz.prog 126 #[fldV f, .pointer (some ⟨xb, 0, none⟩)] w fun e w' => KeptX B xb w w' ∧
      ((serOk f = true ∧ e = .returned (.tuple #[]) ∧ serAt w' B xb (serStep x f)) ∨ (serOk f = false ∧ e = gaveUp 1)) := by
  obtain ⟨h, n, b⟩ := f
  obtain ⟨ls, ss⟩ := x
  obtain ⟨hB, v1, v2, hx, ho1, ho2⟩ := hx
  obtain ⟨ao1, cp1, rfl⟩ := own_shape ho1
  obtain ⟨ao2, cp2, rfl⟩ := own_shape ho2
  have hxlt := lt_of_block hx
  have h0 : Grow w (w.alloc (.cells #[.int .u64 h, .int .u64 n, .string (bs b)] 133)) := (Below.refl _ _).alloc (Nat.le_refl _) _
  obtain ⟨W, HW⟩ : ∃ W, Hid (W = w.alloc (.cells #[.int .u64 h, .int .u64 n, .string (bs b)] 133)) := ⟨_, hide rfl⟩
  have hfb : W.heap[w.heap.size]? = some (.cells #[.int .u64 h, .int .u64 n, .string (bs b)] 133 (0, 0)) := by
    rw [HW.out]; exact heap_alloc_new _ _
  unfold fldV
  go_enter Tryz.func126, Tryz.ntmps126
  rw [← HW.out] at h0
  by_cases m1 : h = 10
  · have t1 : ((h : Int) == 10) = true := by rw [beq_iff_eq]; omega
    have M := hide m1
    clear m1
    go_wp2
    have hbz : b.length ≤ 1000000 := hf
    cases hr : labRead b with
    | none =>
      have HR := hide hr
      clear hr
      refine wp_region_free 6 25 Tryz.mixed2 rfl (by decide +kernel) Grow (fun _ _ _ => Grow.trans) (Grow.refl _)
        (fun i v _ => match i with
          | 0 => v = .pointer (some ⟨xb, 0, none⟩)
          | 2 => v = .pointer (some ⟨w.heap.size, 2, none⟩)
          | 3 => v = .string (bs b)
          | 4 => False
          | _ => True)
        (fun i v w w' h hg => h) (fun ch w2 => Ending.panicked ch = gaveUp 1 ∧ Grow w w2) (fun ch a w2 hd hq => ?_) (fun i hi o ho a w2 hG hoff hdep => ?_) (fun vals w2 hG hvals => (hvals 4 (by omega)).elim)
      · obtain ⟨hq1, hq2⟩ := hq
        simp only [Ending.panicked.injEq] at hq1
        subst hq1
        exact ⟨hd, keptX_of (hq2.mono hB), .inr ⟨by simp [serOk, M.out, HR.out], rfl⟩⟩
      · have hG' : Grow w w2 := h0.trans ⟨by rw [HW.out]; exact hG.os, by rw [HW.out]; exact hG.tape, by rw [HW.out]; exact hG.output, by rw [HW.out]; exact hG.size, by rw [HW.out]; exact hG.block⟩
        have hfb2 : w2.heap[w.heap.size]? = some (.cells #[.int .u64 h, .int .u64 n, .string (bs b)] 133 (0, 0)) := by
          have := hG.get (b := w.heap.size) (by rw [← HW.out]; exact hfb)
          exact this
        have hx2 := hG'.get hx
        obtain ⟨x0, x1⟩ := two_cells hx2
        obtain ⟨f0, f1, f2, _⟩ := three_cells hfb2
        match i, hi with
        | 0, _ =>
          obtain rfl := Option.some.inj ho
          have o1 := hoff 1 (by decide +kernel)
          simp at o1
          simp [opYields, go_sem, o1]
          exact Grow.refl _
        | 1, _ =>
          obtain rfl := Option.some.inj ho
          have d0 := hdep 0 (by decide +kernel)
          simp [slotOf, dstOf] at d0
          simp [opYields, go_sem, d0, x0]
          exact Grow.refl _
        | 2, _ =>
          obtain rfl := Option.some.inj ho
          have o2 := hoff 2 (by decide +kernel)
          simp at o2
          simp [opYields, go_sem, o2]
          exact Grow.refl _
        | 3, _ =>
          obtain rfl := Option.some.inj ho
          have d2 := hdep 2 (by decide +kernel)
          simp [slotOf, dstOf] at d2
          simp [opYields, go_sem, d2, f2]
          exact Grow.refl _
        | 4, _ =>
          obtain rfl := Option.some.inj ho
          have d3 := hdep 3 (by decide +kernel)
          simp [slotOf, dstOf] at d3
          simp [opYields, go_sem, d3]
          refine (readLabel_any w2 b (by omega)).mono ?_
          rintro e w3 ⟨hb, (⟨x, hr, _⟩|⟨_, rfl⟩)⟩
          rw [HR.out] at hr; cases hr
          exact ⟨rfl, hG'.trans hb⟩
        | 5, _ => exact (hdep 4 (by decide +kernel)).elim
    | some x =>
      have HR := hide hr
      clear hr
      refine wp_region_free 6 25 Tryz.mixed2 rfl (by decide +kernel) Grow (fun _ _ _ => Grow.trans) (Grow.refl _)
        (fun i v wq => match i with
          | 0 => v = .pointer (some ⟨xb, 0, none⟩)
          | 1 => v = (.slice ao1 ls.length cp1)
          | 2 => v = .pointer (some ⟨w.heap.size, 2, none⟩)
          | 3 => v = .string (bs b)
          | 4 => v = .agg #[.string (bs x.1), .string (bs x.2)]
          | _ => ∃ g, v = .slice (some ⟨g, 0, none⟩) 1 1 ∧ wq.heap[g]? = some (.cells #[.string (bs x.1), .string (bs x.2)] 62 (0, 0)))
        (fun i v w1 w2 h hg => ?_) (fun ch w2 => False) (fun ch a w2 hd hq => hq.elim) (fun i hi o ho a w2 hG hoff hdep => ?_) (fun vals w2 hG hvals => ?_)
      · match i, h with
        | 0, h => exact h
        | 1, h => exact h
        | 2, h => exact h
        | 3, h => exact h
        | 4, h => exact h
        | i + 5, ⟨g, h1, h2⟩ => exact ⟨g, h1, hg.get h2⟩
      · have hG' : Grow w w2 := h0.trans ⟨by rw [HW.out]; exact hG.os, by rw [HW.out]; exact hG.tape, by rw [HW.out]; exact hG.output, by rw [HW.out]; exact hG.size, by rw [HW.out]; exact hG.block⟩
        have hfb2 : w2.heap[w.heap.size]? = some (.cells #[.int .u64 h, .int .u64 n, .string (bs b)] 133 (0, 0)) := by
          have := hG.get (b := w.heap.size) (by rw [← HW.out]; exact hfb)
          exact this
        have hx2 := hG'.get hx
        obtain ⟨x0, x1⟩ := two_cells hx2
        obtain ⟨f0, f1, f2, _⟩ := three_cells hfb2
        match i, hi with
        | 0, _ =>
          obtain rfl := Option.some.inj ho
          have o1 := hoff 1 (by decide +kernel)
          simp at o1
          simp [opYields, go_sem, o1]
          exact Grow.refl _
        | 1, _ =>
          obtain rfl := Option.some.inj ho
          have d0 := hdep 0 (by decide +kernel)
          simp [slotOf, dstOf] at d0
          simp [opYields, go_sem, d0, x0]
          exact Grow.refl _
        | 2, _ =>
          obtain rfl := Option.some.inj ho
          have o2 := hoff 2 (by decide +kernel)
          simp at o2
          simp [opYields, go_sem, o2]
          exact Grow.refl _
        | 3, _ =>
          obtain rfl := Option.some.inj ho
          have d2 := hdep 2 (by decide +kernel)
          simp [slotOf, dstOf] at d2
          simp [opYields, go_sem, d2, f2]
          exact Grow.refl _
        | 4, _ =>
          obtain rfl := Option.some.inj ho
          have d3 := hdep 3 (by decide +kernel)
          simp [slotOf, dstOf] at d3
          simp [opYields, go_sem, d3]
          refine (readLabel_any w2 b (by omega)).mono ?_
          rintro e w3 ⟨hb, (⟨y, hr, _, _, rfl⟩|⟨hr, rfl⟩)⟩
          · rw [HR.out] at hr; cases hr; exact ⟨hb, rfl⟩
          · rw [HR.out] at hr; cases hr
        | 5, _ =>
          obtain rfl := Option.some.inj ho
          have d4 := hdep 4 (by decide +kernel)
          simp [slotOf, dstOf] at d4
          simp [opYields, go_sem, d4]
          exact ⟨(Grow.refl _).alloc _, (Array.getElem?_eq_some_iff.1 (heap_alloc_new _ _)).2⟩
      · have hG' : Grow w w2 := h0.trans ⟨by rw [HW.out]; exact hG.os, by rw [HW.out]; exact hG.tape, by rw [HW.out]; exact hG.output, by rw [HW.out]; exact hG.size, by rw [HW.out]; exact hG.block⟩
        have d0 := hvals 0 (by omega)
        have d1 := hvals 1 (by omega)
        have d2 := hvals 2 (by omega)
        have d3 := hvals 3 (by omega)
        have d4 := hvals 4 (by omega)
        obtain ⟨g, d5, hg2⟩ := hvals 5 (by omega)
        simp only at d0 d1 d2 d3 d4
        clear hvals hfb
        have hx2 := hG'.get hx
        have ho1' := own_grow ho1 hG'
        have ho2' := own_grow ho2 hG'
        have hne := own_apart ho1' hx2 (by decide)
        obtain ⟨i0, hi0, hz0, hz1, hz2⟩ := info_parts Tryz.infoL
        obtain ⟨g0, g1⟩ := two_cells hg2
        simp [over, dstOf, Act.put, d0, d1, d2, d3, d4, d5]
        refine wpList_append_own _ rfl _ _ 34 rfl B 62 i0 _ 2 32 Tryz.underlying34 hi0 hz0 hz1 hz2 rfl (by omega) _ ls.length (labCells ls) rfl ho1' ⟨g, 0, none⟩ 1 1 [.string (bs x.1), .string (bs x.2)] rfl rfl (fun j u hu => by match j, hu with | 0, hu => simp at hu; subst hu; rw [Addr.add_lit]; simpa using g0 | 1, hu => simp at hu; subst hu; rw [Addr.add_lit]; simpa using g1) (by simp [Value.oneCell']) (by unfold maxLen; omega) (by omega) (by have := hG'.size; omega) ?_
        intro v' w3 hown' hgrow _
        obtain ⟨ao', cp', rfl⟩ := own_shape hown'
        have hx3 := grown_block hgrow hx2 hne
        obtain ⟨y0, y1⟩ := two_cells hx3
        have z0 : w3.frozen? ⟨xb, 0, none⟩ = false := by simp only [World.frozen?, hx3]; rfl
        have z1 : w3.frozen? ⟨xb, 1, none⟩ = false := by simp only [World.frozen?, hx3]; rfl
        simp
        go_wp2
        go_end0
        have hbel : Below B w2 w3 := (Below.refl B w2).grown hgrow (by have := hG'.size; omega) (fun k hk => (ho1'.lt k hk).1)
        have hmine : w3.ownsRow B 62 2 (.slice ao' (ls.length + 1) cp') (ls ++ [x]).length (labCells (ls ++ [x])) := by
          rw [labCells_snoc, List.length_append]; exact hown'
        have hoth := World.ownsRow.kept ho2' hgrow (own_two ho2' ho1' (by decide))
        refine ⟨(((keptX_of (hG'.mono hB)).trans (keptX_of hbel)).setAt _ _), .inl ⟨by simp [serOk, M.out, HR.out], rfl, ?_⟩⟩
        have e : serStep (ls, ss) (h, n, b) = (ls ++ [x], ss) := by simp [serStep, M.out, HR.out]
        rw [e]
        refine ⟨by have h1 := hG'.size; have h2 := hbel.size; simp [World.setCell]; omega, .slice ao' (ls.length + 1) cp', .slice ao2 ss.length cp2, set_block hx3 _, ?_, ?_⟩
        · exact ownsRow_setCell_other (a := ⟨xb, 0, none⟩) hmine (own_apart hmine hx3 (by decide)) _
        · exact ownsRow_setCell_other (a := ⟨xb, 0, none⟩) hoth (own_apart hoth hx3 (by decide)) _
  · have t1 : ((h : Int) == 10) = false := by rw [beq_eq_false_iff_ne]; omega
    by_cases m2 : h = 18
    · have t2 : ((h : Int) == 18) = true := by rw [beq_iff_eq]; omega
      have M := hide m2
      clear m1 m2
      go_wp2
      have hbz : b.length ≤ 1000000 := hf
      cases hr : samRead b with
      | none =>
        have HR := hide hr
        clear hr
        refine wp_region_free 6 25 Tryz.mixed2 rfl (by decide +kernel) Grow (fun _ _ _ => Grow.trans) (Grow.refl _)
          (fun i v _ => match i with
            | 0 => v = .pointer (some ⟨xb, 1, none⟩)
            | 2 => v = .pointer (some ⟨w.heap.size, 2, none⟩)
            | 3 => v = .string (bs b)
            | 4 => False
            | _ => True)
          (fun i v w w' h hg => h) (fun ch w2 => Ending.panicked ch = gaveUp 1 ∧ Grow w w2) (fun ch a w2 hd hq => ?_) (fun i hi o ho a w2 hG hoff hdep => ?_) (fun vals w2 hG hvals => (hvals 4 (by omega)).elim)
        · obtain ⟨hq1, hq2⟩ := hq
          simp only [Ending.panicked.injEq] at hq1
          subst hq1
          exact ⟨hd, keptX_of (hq2.mono hB), .inr ⟨by simp [serOk, M.out, HR.out], rfl⟩⟩
        · have hG' : Grow w w2 := h0.trans ⟨by rw [HW.out]; exact hG.os, by rw [HW.out]; exact hG.tape, by rw [HW.out]; exact hG.output, by rw [HW.out]; exact hG.size, by rw [HW.out]; exact hG.block⟩
          have hfb2 : w2.heap[w.heap.size]? = some (.cells #[.int .u64 h, .int .u64 n, .string (bs b)] 133 (0, 0)) := by
            have := hG.get (b := w.heap.size) (by rw [← HW.out]; exact hfb)
            exact this
          have hx2 := hG'.get hx
          obtain ⟨x0, x1⟩ := two_cells hx2
          obtain ⟨f0, f1, f2, _⟩ := three_cells hfb2
          match i, hi with
          | 0, _ =>
            obtain rfl := Option.some.inj ho
            have o1 := hoff 1 (by decide +kernel)
            simp at o1
            simp [opYields, go_sem, o1]
            exact Grow.refl _
          | 1, _ =>
            obtain rfl := Option.some.inj ho
            have d0 := hdep 0 (by decide +kernel)
            simp [slotOf, dstOf] at d0
            simp [opYields, go_sem, d0, x1]
            exact Grow.refl _
          | 2, _ =>
            obtain rfl := Option.some.inj ho
            have o2 := hoff 2 (by decide +kernel)
            simp at o2
            simp [opYields, go_sem, o2]
            exact Grow.refl _
          | 3, _ =>
            obtain rfl := Option.some.inj ho
            have d2 := hdep 2 (by decide +kernel)
            simp [slotOf, dstOf] at d2
            simp [opYields, go_sem, d2, f2]
            exact Grow.refl _
          | 4, _ =>
            obtain rfl := Option.some.inj ho
            have d3 := hdep 3 (by decide +kernel)
            simp [slotOf, dstOf] at d3
            simp [opYields, go_sem, d3]
            refine (readSample_any w2 b (by omega)).mono ?_
            rintro e w3 ⟨hb, (⟨x, hr, _⟩|⟨_, rfl⟩)⟩
            rw [HR.out] at hr; cases hr
            exact ⟨rfl, hG'.trans hb⟩
          | 5, _ => exact (hdep 4 (by decide +kernel)).elim
      | some x =>
        have HR := hide hr
        clear hr
        refine wp_region_free 6 25 Tryz.mixed2 rfl (by decide +kernel) Grow (fun _ _ _ => Grow.trans) (Grow.refl _)
          (fun i v wq => match i with
            | 0 => v = .pointer (some ⟨xb, 1, none⟩)
            | 1 => v = (.slice ao2 ss.length cp2)
            | 2 => v = .pointer (some ⟨w.heap.size, 2, none⟩)
            | 3 => v = .string (bs b)
            | 4 => v = .agg #[.int .i64 x.1, .int .u64 x.2]
            | _ => ∃ g, v = .slice (some ⟨g, 0, none⟩) 1 1 ∧ wq.heap[g]? = some (.cells #[.int .i64 x.1, .int .u64 x.2] 48 (0, 0)))
          (fun i v w1 w2 h hg => ?_) (fun ch w2 => False) (fun ch a w2 hd hq => hq.elim) (fun i hi o ho a w2 hG hoff hdep => ?_) (fun vals w2 hG hvals => ?_)
        · match i, h with
          | 0, h => exact h
          | 1, h => exact h
          | 2, h => exact h
          | 3, h => exact h
          | 4, h => exact h
          | i + 5, ⟨g, h1, h2⟩ => exact ⟨g, h1, hg.get h2⟩
        · have hG' : Grow w w2 := h0.trans ⟨by rw [HW.out]; exact hG.os, by rw [HW.out]; exact hG.tape, by rw [HW.out]; exact hG.output, by rw [HW.out]; exact hG.size, by rw [HW.out]; exact hG.block⟩
          have hfb2 : w2.heap[w.heap.size]? = some (.cells #[.int .u64 h, .int .u64 n, .string (bs b)] 133 (0, 0)) := by
            have := hG.get (b := w.heap.size) (by rw [← HW.out]; exact hfb)
            exact this
          have hx2 := hG'.get hx
          obtain ⟨x0, x1⟩ := two_cells hx2
          obtain ⟨f0, f1, f2, _⟩ := three_cells hfb2
          match i, hi with
          | 0, _ =>
            obtain rfl := Option.some.inj ho
            have o1 := hoff 1 (by decide +kernel)
            simp at o1
            simp [opYields, go_sem, o1]
            exact Grow.refl _
          | 1, _ =>
            obtain rfl := Option.some.inj ho
            have d0 := hdep 0 (by decide +kernel)
            simp [slotOf, dstOf] at d0
            simp [opYields, go_sem, d0, x1]
            exact Grow.refl _
          | 2, _ =>
            obtain rfl := Option.some.inj ho
            have o2 := hoff 2 (by decide +kernel)
            simp at o2
            simp [opYields, go_sem, o2]
            exact Grow.refl _
          | 3, _ =>
            obtain rfl := Option.some.inj ho
            have d2 := hdep 2 (by decide +kernel)
            simp [slotOf, dstOf] at d2
            simp [opYields, go_sem, d2, f2]
            exact Grow.refl _
          | 4, _ =>
            obtain rfl := Option.some.inj ho
            have d3 := hdep 3 (by decide +kernel)
            simp [slotOf, dstOf] at d3
            simp [opYields, go_sem, d3]
            refine (readSample_any w2 b (by omega)).mono ?_
            rintro e w3 ⟨hb, (⟨y, hr, _, rfl⟩|⟨hr, rfl⟩)⟩
            · rw [HR.out] at hr; cases hr; exact ⟨hb, rfl⟩
            · rw [HR.out] at hr; cases hr
          | 5, _ =>
            obtain rfl := Option.some.inj ho
            have d4 := hdep 4 (by decide +kernel)
            simp [slotOf, dstOf] at d4
            simp [opYields, go_sem, d4]
            exact ⟨(Grow.refl _).alloc _, (Array.getElem?_eq_some_iff.1 (heap_alloc_new _ _)).2⟩
        · have hG' : Grow w w2 := h0.trans ⟨by rw [HW.out]; exact hG.os, by rw [HW.out]; exact hG.tape, by rw [HW.out]; exact hG.output, by rw [HW.out]; exact hG.size, by rw [HW.out]; exact hG.block⟩
          have d0 := hvals 0 (by omega)
          have d1 := hvals 1 (by omega)
          have d2 := hvals 2 (by omega)
          have d3 := hvals 3 (by omega)
          have d4 := hvals 4 (by omega)
          obtain ⟨g, d5, hg2⟩ := hvals 5 (by omega)
          simp only at d0 d1 d2 d3 d4
          clear hvals hfb
          have hx2 := hG'.get hx
          have ho1' := own_grow ho1 hG'
          have ho2' := own_grow ho2 hG'
          have hne := own_apart ho2' hx2 (by decide)
          obtain ⟨i0, hi0, hz0, hz1, hz2⟩ := info_parts Tryz.infoS
          obtain ⟨g0, g1⟩ := two_cells hg2
          simp [over, dstOf, Act.put, d0, d1, d2, d3, d4, d5]
          refine wpList_append_own _ rfl _ _ 35 rfl B 48 i0 _ 2 16 Tryz.underlying35 hi0 hz0 hz1 hz2 rfl (by omega) _ ss.length (samCells ss) rfl ho2' ⟨g, 0, none⟩ 1 1 [.int .i64 x.1, .int .u64 x.2] rfl rfl (fun j u hu => by match j, hu with | 0, hu => simp at hu; subst hu; rw [Addr.add_lit]; simpa using g0 | 1, hu => simp at hu; subst hu; rw [Addr.add_lit]; simpa using g1) (by simp [Value.oneCell']) (by unfold maxLen; omega) (by omega) (by have := hG'.size; omega) ?_
          intro v' w3 hown' hgrow _
          obtain ⟨ao', cp', rfl⟩ := own_shape hown'
          have hx3 := grown_block hgrow hx2 hne
          obtain ⟨y0, y1⟩ := two_cells hx3
          have z0 : w3.frozen? ⟨xb, 0, none⟩ = false := by simp only [World.frozen?, hx3]; rfl
          have z1 : w3.frozen? ⟨xb, 1, none⟩ = false := by simp only [World.frozen?, hx3]; rfl
          simp
          go_wp2
          go_end0
          have hbel : Below B w2 w3 := (Below.refl B w2).grown hgrow (by have := hG'.size; omega) (fun k hk => (ho2'.lt k hk).1)
          have hmine : w3.ownsRow B 48 2 (.slice ao' (ss.length + 1) cp') (ss ++ [x]).length (samCells (ss ++ [x])) := by
            rw [samCells_snoc, List.length_append]; exact hown'
          have hoth := World.ownsRow.kept ho1' hgrow (own_two ho1' ho2' (by decide))
          refine ⟨(((keptX_of (hG'.mono hB)).trans (keptX_of hbel)).setAt _ _), .inl ⟨by simp [serOk, M.out, HR.out], rfl, ?_⟩⟩
          have e : serStep (ls, ss) (h, n, b) = (ls, ss ++ [x]) := by simp [serStep, M.out, HR.out]
          rw [e]
          refine ⟨by have h1 := hG'.size; have h2 := hbel.size; simp [World.setCell]; omega, .slice ao1 ls.length cp1, .slice ao' (ss.length + 1) cp', set_block hx3 _, ?_, ?_⟩
          · exact ownsRow_setCell_other (a := ⟨xb, 1, none⟩) hoth (own_apart hoth hx3 (by decide)) _
          · exact ownsRow_setCell_other (a := ⟨xb, 1, none⟩) hmine (own_apart hmine hx3 (by decide)) _
    · have t2 : ((h : Int) == 18) = false := by rw [beq_eq_false_iff_ne]; omega
      have M := hide (And.intro m1 m2)
      clear m1 m2
      go_wp2
      go_end0
      rw [← HW.out]
      refine ⟨keptX_of (h0.mono hB), .inl ⟨?_, rfl, ?_⟩⟩
      · simp only [serOk, M.out.1, M.out.2, if_false]
      · simp only [serStep, M.out.1, M.out.2, if_false]
        exact serAt_grow ⟨hB, _, _, hx, ho1, ho2⟩ h0
/-- A series' text tells one. -/
def serOf (l : List Fld) : Ser := l.foldl serStep ([], [])
theorem serOf_snoc (d : List Fld) (f : Fld) : serOf (d ++ [f]) = serStep (serOf d) f := by simp [serOf]
def serRead (s : List UInt8) : Option Ser := if fieldsOk serOk s = true then some (serOf (fields s).1) else none
theorem serStep_len (x : Ser) (f : Fld) : (serStep x f).1.length ≤ x.1.length + 1 ∧ (serStep x f).2.length ≤ x.2.length + 1 := by
  unfold serStep
  split
  · split <;> simp
  · split
    · split <;> simp
    · simp
theorem serOf_len : ∀ (d : List Fld) (x : Ser), (d.foldl serStep x).1.length ≤ x.1.length + d.length ∧ (d.foldl serStep x).2.length ≤ x.2.length + d.length
  | [], x => by simp
  | f :: d, x => by
    have h1 := serOf_len d (serStep x f)
    have h2 := serStep_len x f
    simp only [List.foldl_cons, List.length_cons]
    omega
set_option maxRecDepth 20000 in
set_option maxHeartbeats 2000000 in
theorem readSeries_any (w : World) (s : List UInt8) (hs : s.length ≤ 1000000) :
    Calls Tryz.prog 109 #[.string (bs s)] w fun e w' => Below w.heap.size w w' ∧
      ((∃ x v1 v2, serRead s = some x ∧ e = .returned (.agg #[v1, v2]) ∧ ownLabels w' w.heap.size v1 x.1 ∧ ownSamples w' w.heap.size v2 x.2) ∨ (serRead s = none ∧ e = gaveUp 1)) := by
  have hcf : ∀ (args : Array Value) (w : World), (callFunc 126 args).run Tryz.prog w = .ok (.enter 126 args) w := fun args w => by simp [go_sem]
  obtain ⟨W, HW⟩ : ∃ W, Hid (W = (w.alloc (.cells #[.slice none 0 0, .slice none 0 0] 41)).alloc (.cells #[.slice none 0 0, .slice none 0 0] 41)) := ⟨_, hide rfl⟩
  have hW0 : Below w.heap.size w W := by rw [HW.out]; exact ((Below.refl _ _).alloc (Nat.le_refl _) _).alloc (by simp) _
  have hWs : w.heap.size + 2 ≤ W.heap.size := by rw [HW.out]; simp
  have hW1 : W.heap[w.heap.size]? = some (.cells #[.slice none 0 0, .slice none 0 0] 41 (0, 0)) := by
    rw [HW.out, Below.heap_alloc _ _ _ (by simp)]; exact heap_alloc_new _ _
  have hW2 : W.heap[w.heap.size + 1]? = some (.cells #[.slice none 0 0, .slice none 0 0] 41 (0, 0)) := by
    rw [HW.out]
    have := heap_alloc_new (w.alloc (.cells #[.slice none 0 0, .slice none 0 0] 41)) (.cells #[.slice none 0 0, .slice none 0 0] 41)
    simpa using this
  have HE := hide (eachField_any s W 126 #[.pointer (some ⟨w.heap.size + 1, 0, none⟩)]
    (fun d wi => Below w.heap.size w wi ∧ wi.heap[w.heap.size]? = some (.cells #[.slice none 0 0, .slice none 0 0] 41 (0, 0)) ∧ serAt wi (w.heap.size + 2) (w.heap.size + 1) (serOf d))
    serOk (fun wi => Below w.heap.size w wi) (by omega) hcf ⟨hW0, hW1, hWs, _, _, hW2, World.ownsRow_nil _ _ _ _, World.ownsRow_nil _ _ _ _⟩
    (fun d w1 w2 ⟨h1, h2, h3⟩ hg => ⟨h1.trans (hg.mono h1.size), hg.get h2, serAt_grow h3 hg⟩)
    (fun d w1 h => h.1)
    (fun d f w1 ⟨h1, h2, h3⟩ _ hn hf hd => (readSeries1_any w1 (w.heap.size + 2) (w.heap.size + 1) (serOf d) f h3 (by have := (serOf_len d ([], [])).1; simp at this; show (d.foldl serStep ([], [])).1.length ≤ _; omega) (by have := (serOf_len d ([], [])).2; simp at this; show (d.foldl serStep ([], [])).2.length ≤ _; omega) (by omega)).mono fun e w2 ⟨hk, h⟩ => by
      have hb2 : Below w.heap.size w w2 := h1.trans (hk.below (by omega) (by omega))
      rcases h with ⟨h4, h5, h6⟩ | ⟨h4, h5⟩
      · exact .inl ⟨h4, h5, hb2, hk.get h2 (by omega) (by omega), by rw [serOf_snoc]; exact h6⟩
      · exact .inr ⟨h4, h5, hb2⟩))
  clear hW0 hW1 hW2 hWs
  rw [HW.out] at HE
  go_enter Tryz.func109, Tryz.ntmps109
  go_wp2_with fail
  refine HE.out.mono ?_
  clear HE hcf HW
  rintro e w1 (⟨hok, rfl, hb1, h2, h3⟩ | ⟨hok, rfl, hb1⟩)
  · have HOk : Hid (serRead s = some (serOf (fields s).1)) := by
      show _ = _
      simp [serRead, hok]
    clear hok
    generalize serOf (fields s).1 = x at *
    obtain ⟨h4, v1, v2, h5, h6, h7⟩ := h3
    obtain ⟨ao1, cp1, rfl⟩ := own_shape h6
    obtain ⟨ao2, cp2, rfl⟩ := own_shape h7
    obtain ⟨x0, x1⟩ := two_cells h5
    obtain ⟨c0, c1⟩ := two_cells h2
    have z0 : w1.frozen? ⟨w.heap.size, 0, none⟩ = false := by simp only [World.frozen?, h2]; rfl
    have z1 : w1.frozen? ⟨w.heap.size, 1, none⟩ = false := by simp only [World.frozen?, h2]; rfl
    have hb3 : ((w1.setCell ⟨w.heap.size, 0, none⟩ (.slice ao1 x.1.length cp1)).setCell ⟨w.heap.size, 1, none⟩ (.slice ao2 x.2.length cp2)).heap[w.heap.size]? = some (.cells #[.slice ao1 x.1.length cp1, .slice ao2 x.2.length cp2] 41 (0, 0)) := by
      rw [set_block (set_block h2 _) _]; rfl
    obtain ⟨r0, r1⟩ := two_cells hb3
    go_wp2
    refine bodyPost_ret (v := .agg #[.slice ao1 x.1.length cp1, .slice ao2 x.2.length cp2]) (by simp [results, Tryz.results109, go_sem, r0, r1]) rfl ?_
    have n1 : Value.ownBlock (.slice ao1 x.1.length cp1) ≠ some w.heap.size := fun e => by have := (h6.lt _ e).1; omega
    have n2 : Value.ownBlock (.slice ao2 x.2.length cp2) ≠ some w.heap.size := fun e => by have := (h7.lt _ e).1; omega
    refine ⟨(hb1.setCell (p := ⟨w.heap.size, 0, none⟩) (Nat.le_refl _) _).setCell (p := ⟨w.heap.size, 1, none⟩) (Nat.le_refl _) _, .inl ⟨x, _, _, HOk.out, rfl, ?_, ?_⟩⟩
    · exact own_le (ownsRow_setCell_other (a := ⟨w.heap.size, 1, none⟩) (ownsRow_setCell_other (a := ⟨w.heap.size, 0, none⟩) h6 n1 _) n1 _) (by omega)
    · exact own_le (ownsRow_setCell_other (a := ⟨w.heap.size, 1, none⟩) (ownsRow_setCell_other (a := ⟨w.heap.size, 0, none⟩) h7 n2 _) n2 _) (by omega)
  · have HOk : Hid (serRead s = none) := by
      show _ = _
      simp [serRead, hok]
    exact ⟨rfl, hb1, .inr ⟨HOk.out, rfl⟩⟩
/-- Series that are being read, in a block. -/
def allAt (w : World) (B xb : Nat) (x : List Ser) : Prop :=
  B ≤ w.heap.size ∧ ∃ v, w.heap[xb]? = some (.cells #[v] 22 (0, 0)) ∧ ownSeries w B v x
theorem allAt_grow {w w' : World} {B xb : Nat} {x : List Ser} (h : allAt w B xb x) (hg : Grow w w') : allAt w' B xb x := by
  obtain ⟨h0, v1, h1, h2⟩ := h
  exact ⟨by have := hg.size; omega, v1, hg.get h1, ownSeries_grow h2 hg⟩
def allStep (x : List Ser) (f : Fld) : List Ser := if f.1 = 10 then (match serRead f.2.2 with | some a => x ++ [a] | none => x) else x
def allOk (f : Fld) : Bool := if f.1 = 10 then (serRead f.2.2).isSome else true
/-- One series more, in the row that a call owns. -/
theorem ownSeries_more {w w' : World} {B : Nat} {v v' : Value} {ls : List Ser} {x : Ser} {y1 y2 : Value} {vs : List (Value × Value)} (hl : vs.length = ls.length)
    (hrow : w.ownsRow B 41 2 v ls.length (pairCells vs))
    (hall : ∀ (i : Nat) (x : Value × Value) (s : Ser), vs[i]? = some x → ls[i]? = some s → ownLabels w B x.1 s.1 ∧ ownSamples w B x.2 s.2)
    (hg : w.grownBy w' v.ownBlock) (hown : w'.ownsRow B 41 2 v' (ls.length + 1) (pairCells vs ++ [y1, y2])) (h1 : ownLabels w B y1 x.1) (h2 : ownSamples w B y2 x.2) : ownSeries w' B v' (ls ++ [x]) := by
  have kl : ∀ y l, ownLabels w B y l → ownLabels w' B y l := fun y l h => World.ownsRow.kept h hg (own_two h hrow (by decide))
  have ks : ∀ y l, ownSamples w B y l → ownSamples w' B y l := fun y l h => World.ownsRow.kept h hg (own_two h hrow (by decide))
  refine ⟨vs ++ [(y1, y2)], by simp [hl], ?_, ?_⟩
  · rw [pairCells_snoc, List.length_append]; exact hown
  · intro i a s ha hs
    by_cases hi : i < ls.length
    · rw [List.getElem?_append_left (by omega)] at ha hs
      exact ⟨kl _ _ (hall i a s ha hs).1, ks _ _ (hall i a s ha hs).2⟩
    · have e : i = ls.length := by
        have := (List.getElem?_eq_some_iff.1 hs).1
        simp at this; omega
      subst e
      rw [List.getElem?_append_right (by omega)] at ha hs
      simp [hl] at ha hs
      subst ha
      subst hs
      exact ⟨kl _ _ h1, ks _ _ h2⟩
theorem ownSeries_setCell {w : World} {B b : Nat} {v u : Value} {ls : List Ser} {c : Array Value} {t : TypeId} {i : Nat} (h : ownSeries w B v ls) (hb : w.heap[b]? = some (.cells c t (0, 0))) (h1 : 41 ≠ t) (h2 : 62 ≠ t) (h3 : 48 ≠ t) : ownSeries (w.setCell ⟨b, i, none⟩ u) B v ls := by
  obtain ⟨vs, hl, hr, hall⟩ := h
  exact ⟨vs, hl, ownsRow_setCell_other (a := ⟨b, i, none⟩) hr (own_apart hr hb h1) _, fun i x s hx hs =>
    ⟨ownsRow_setCell_other (hall i x s hx hs).1 (own_apart (hall i x s hx hs).1 hb h2) _, ownsRow_setCell_other (hall i x s hx hs).2 (own_apart (hall i x s hx hs).2 hb h3) _⟩⟩
set_option maxRecDepth 20000 in
set_option maxHeartbeats 4000000 in
theorem readAll1_any (w : World) (B xb : Nat) (x : List Ser) (f : Fld) (hx : allAt w B xb x) (hl1 : x.length ≤ 1000000) (hf : f.2.2.length ≤ 1000000) :
    Calls Tryz.prog 108 #[fldV f, .pointer (some ⟨xb, 0, none⟩)] w fun e w' => KeptX B xb w w' ∧
      ((allOk f = true ∧ e = .returned (.tuple #[]) ∧ allAt w' B xb (allStep x f)) ∨ (allOk f = false ∧ e = gaveUp 1)) := by
  obtain ⟨h, n, b⟩ := f
  obtain ⟨hB, v, hx, ho⟩ := hx
  obtain ⟨vs, hvl, hrow, hall⟩ := id ho
  obtain ⟨ao, cp, rfl⟩ := own_shape hrow
  have hxlt := lt_of_block hx
  have h0 : Grow w (w.alloc (.cells #[.int .u64 h, .int .u64 n, .string (bs b)] 133)) := (Below.refl _ _).alloc (Nat.le_refl _) _
  obtain ⟨W, HW⟩ : ∃ W, Hid (W = w.alloc (.cells #[.int .u64 h, .int .u64 n, .string (bs b)] 133)) := ⟨_, hide rfl⟩
  have hfb : W.heap[w.heap.size]? = some (.cells #[.int .u64 h, .int .u64 n, .string (bs b)] 133 (0, 0)) := by
    rw [HW.out]; exact heap_alloc_new _ _
  unfold fldV
  go_enter Tryz.func108, Tryz.ntmps108
  rw [← HW.out] at h0
  by_cases m1 : h = 10
  · have t1 : ((h : Int) == 10) = true := by rw [beq_iff_eq]; omega
    have M := hide m1
    clear m1
    go_wp2
    have hbz : b.length ≤ 1000000 := hf
    cases hr : serRead b with
    | none =>
      have HR := hide hr
      clear hr
      refine wp_region_free 5 12 Tryz.mixed2 rfl (by decide +kernel) Grow (fun _ _ _ => Grow.trans) (Grow.refl _)
        (fun i v wq => match i with
          | 1 => v = .pointer (some ⟨w.heap.size, 2, none⟩)
          | 2 => v = .string (bs b)
          | 3 => False
          | _ => True)
        (fun i v w w' h hg => h) (fun ch w2 => Ending.panicked ch = gaveUp 1 ∧ Grow w w2) (fun ch a w2 hd hq => ?_) (fun i hi o ho a w2 hG hoff hdep => ?_) (fun vals w2 hG hvals => (hvals 3 (by omega)).elim)
      · obtain ⟨hq1, hq2⟩ := hq
        simp only [Ending.panicked.injEq] at hq1
        subst hq1
        exact ⟨hd, keptX_of (hq2.mono hB), .inr ⟨by simp [allOk, M.out, HR.out], rfl⟩⟩
      · have hG' : Grow w w2 := h0.trans ⟨by rw [HW.out]; exact hG.os, by rw [HW.out]; exact hG.tape, by rw [HW.out]; exact hG.output, by rw [HW.out]; exact hG.size, by rw [HW.out]; exact hG.block⟩
        have hfb2 : w2.heap[w.heap.size]? = some (.cells #[.int .u64 h, .int .u64 n, .string (bs b)] 133 (0, 0)) := by
          have := hG.get (b := w.heap.size) (by rw [← HW.out]; exact hfb)
          exact this
        have x0 := cell_of_one (hG'.get hx)
        obtain ⟨f0, f1, f2, _⟩ := three_cells hfb2
        match i, hi with
        | 0, _ =>
          obtain rfl := Option.some.inj ho
          have o1 := hoff 1 (by decide +kernel)
          simp at o1
          simp [opYields, go_sem, o1, x0]
          exact Grow.refl _
        | 1, _ =>
          obtain rfl := Option.some.inj ho
          have o2 := hoff 2 (by decide +kernel)
          simp at o2
          simp [opYields, go_sem, o2]
          exact Grow.refl _
        | 2, _ =>
          obtain rfl := Option.some.inj ho
          have d1 := hdep 1 (by decide +kernel)
          simp [slotOf, dstOf] at d1
          simp [opYields, go_sem, d1, f2]
          exact Grow.refl _
        | 3, _ =>
          obtain rfl := Option.some.inj ho
          have d2 := hdep 2 (by decide +kernel)
          simp [slotOf, dstOf] at d2
          simp [opYields, go_sem, d2]
          refine (readSeries_any w2 b (by omega)).mono ?_
          rintro e w3 ⟨hb, (⟨x, _, _, hr, _⟩|⟨_, rfl⟩)⟩
          rw [HR.out] at hr; cases hr
          exact ⟨rfl, hG'.trans hb⟩
        | 4, _ => exact (hdep 3 (by decide +kernel)).elim
    | some y =>
      have HR := hide hr
      clear hr
      refine wp_region_free 5 12 Tryz.mixed2 rfl (by decide +kernel) Grow (fun _ _ _ => Grow.trans) (Grow.refl _)
        (fun i v wq => match i with
          | 0 => v = .slice ao x.length cp
          | 1 => v = .pointer (some ⟨w.heap.size, 2, none⟩)
          | 2 => v = .string (bs b)
          | 3 => ∃ a1 c1 a2 c2, v = .agg #[.slice a1 y.1.length c1, .slice a2 y.2.length c2] ∧ ownLabels wq B (.slice a1 y.1.length c1) y.1 ∧ ownSamples wq B (.slice a2 y.2.length c2) y.2
          | _ => ∃ g a1 c1 a2 c2, v = .slice (some ⟨g, 0, none⟩) 1 1 ∧ wq.heap[g]? = some (.cells #[.slice a1 y.1.length c1, .slice a2 y.2.length c2] 41 (0, 0)) ∧ ownLabels wq B (.slice a1 y.1.length c1) y.1 ∧ ownSamples wq B (.slice a2 y.2.length c2) y.2)
        (fun i v w1 w2 h hg => ?_) (fun ch w2 => False) (fun ch a w2 hd hq => hq.elim) (fun i hi o ho a w2 hG hoff hdep => ?_) (fun vals w2 hG hvals => ?_)
      · match i, h with
        | 0, h => exact h
        | 1, h => exact h
        | 2, h => exact h
        | 3, ⟨a1, c1, a2, c2, h1, h2, h3⟩ => exact ⟨a1, c1, a2, c2, h1, own_grow h2 hg, own_grow h3 hg⟩
        | i + 4, ⟨g, a1, c1, a2, c2, h1, h2, h3, h4⟩ => exact ⟨g, a1, c1, a2, c2, h1, hg.get h2, own_grow h3 hg, own_grow h4 hg⟩
      · have hG' : Grow w w2 := h0.trans ⟨by rw [HW.out]; exact hG.os, by rw [HW.out]; exact hG.tape, by rw [HW.out]; exact hG.output, by rw [HW.out]; exact hG.size, by rw [HW.out]; exact hG.block⟩
        have hfb2 : w2.heap[w.heap.size]? = some (.cells #[.int .u64 h, .int .u64 n, .string (bs b)] 133 (0, 0)) := by
          have := hG.get (b := w.heap.size) (by rw [← HW.out]; exact hfb)
          exact this
        have x0 := cell_of_one (hG'.get hx)
        obtain ⟨f0, f1, f2, _⟩ := three_cells hfb2
        have hBs : B ≤ w2.heap.size := by have := hG'.size; omega
        match i, hi with
        | 0, _ =>
          obtain rfl := Option.some.inj ho
          have o1 := hoff 1 (by decide +kernel)
          simp at o1
          simp [opYields, go_sem, o1, x0]
          exact Grow.refl _
        | 1, _ =>
          obtain rfl := Option.some.inj ho
          have o2 := hoff 2 (by decide +kernel)
          simp at o2
          simp [opYields, go_sem, o2]
          exact Grow.refl _
        | 2, _ =>
          obtain rfl := Option.some.inj ho
          have d1 := hdep 1 (by decide +kernel)
          simp [slotOf, dstOf] at d1
          simp [opYields, go_sem, d1, f2]
          exact Grow.refl _
        | 3, _ =>
          obtain rfl := Option.some.inj ho
          have d2 := hdep 2 (by decide +kernel)
          simp [slotOf, dstOf] at d2
          simp [opYields, go_sem, d2]
          refine (readSeries_any w2 b (by omega)).mono ?_
          rintro e w3 ⟨hb, (⟨y', v1, v2, hr, rfl, k1, k2⟩|⟨hr, rfl⟩)⟩
          · (rw [HR.out] at hr; cases hr; obtain ⟨a1, c1, rfl⟩ := own_shape k1; obtain ⟨a2, c2, rfl⟩ := own_shape k2; exact ⟨hb, a1, c1, a2, c2, rfl, own_le k1 hBs, own_le k2 hBs⟩)
          · rw [HR.out] at hr; cases hr
        | 4, _ =>
          obtain rfl := Option.some.inj ho
          have d3 := hdep 3 (by decide +kernel)
          simp [slotOf, dstOf] at d3
          obtain ⟨a1, c1, a2, c2, g1, g2, g3⟩ := d3
          simp [opYields, go_sem, g1]
          exact ⟨(Grow.refl _).alloc _, a1, c1, a2, c2, (Array.getElem?_eq_some_iff.1 (heap_alloc_new _ _)).2, own_grow g2 ((Grow.refl _).alloc _), own_grow g3 ((Grow.refl _).alloc _)⟩
      · have hG' : Grow w w2 := h0.trans ⟨by rw [HW.out]; exact hG.os, by rw [HW.out]; exact hG.tape, by rw [HW.out]; exact hG.output, by rw [HW.out]; exact hG.size, by rw [HW.out]; exact hG.block⟩
        have d0 := hvals 0 (by omega)
        have d1 := hvals 1 (by omega)
        have d2 := hvals 2 (by omega)
        obtain ⟨_, _, _, _, d3, _, _⟩ := hvals 3 (by omega)
        obtain ⟨g, a1, c1, a2, c2, d4, hg2, k1, k2⟩ := hvals 4 (by omega)
        simp only at d0 d1 d2 d3
        clear hvals hfb
        have hx2 := hG'.get hx
        have hrow' := own_grow hrow hG'
        have hne := own_apart hrow' hx2 (by decide)
        obtain ⟨i0, hi0, hz0, hz1, hz2⟩ := info_parts Tryz.infoE
        obtain ⟨g0, g1⟩ := two_cells hg2
        simp [over, dstOf, Act.put, d0, d1, d2, d3, d4]
        refine wpList_append_own _ rfl _ _ 22 rfl B 41 i0 _ 2 48 Tryz.underlying22 hi0 hz0 hz1 hz2 rfl (by omega) _ x.length (pairCells vs) rfl hrow' ⟨g, 0, none⟩ 1 1 [.slice a1 y.1.length c1, .slice a2 y.2.length c2] rfl rfl (fun j u hu => by match j, hu with | 0, hu => simp at hu; subst hu; rw [Addr.add_lit]; simpa using g0 | 1, hu => simp at hu; subst hu; rw [Addr.add_lit]; simpa using g1) (by simp [Value.oneCell']) (by unfold maxLen; omega) (by omega) (by have := hG'.size; omega) ?_
        intro v' w3 hown' hgrow _
        obtain ⟨ao', cp', rfl⟩ := own_shape hown'
        have hx3 := grown_block hgrow hx2 hne
        have y0 := cell_of_one hx3
        have z0 := free_of_one hx3
        simp
        go_wp2
        go_end0
        have hbel : Below B w2 w3 := (Below.refl B w2).grown hgrow (by have := hG'.size; omega) (fun k hk => (hrow'.lt k hk).1)
        have hmore : ownSeries w3 B (.slice ao' (x.length + 1) cp') (x ++ [y]) := ownSeries_more hvl hrow' (fun i a s h1 h2 => ⟨own_grow (hall i a s h1 h2).1 hG', own_grow (hall i a s h1 h2).2 hG'⟩) hgrow hown' k1 k2
        refine ⟨(((keptX_of (hG'.mono hB)).trans (keptX_of hbel)).setAt _ _), .inl ⟨by simp [allOk, M.out, HR.out], rfl, ?_⟩⟩
        have e : allStep x (h, n, b) = x ++ [y] := by simp [allStep, M.out, HR.out]
        rw [e]
        exact ⟨by have h1 := hG'.size; have h2 := hbel.size; simp [World.setCell]; omega, .slice ao' (x.length + 1) cp', set_block hx3 _, ownSeries_setCell hmore hx3 (by decide) (by decide) (by decide)⟩
  · have t1 : ((h : Int) == 10) = false := by rw [beq_eq_false_iff_ne]; omega
    have M := hide m1
    clear m1
    go_wp2
    go_end0
    rw [← HW.out]
    refine ⟨keptX_of (h0.mono hB), .inl ⟨?_, rfl, ?_⟩⟩
    · simp only [allOk, M.out, if_false]
    · simp only [allStep, M.out, if_false]
      exact allAt_grow ⟨hB, _, hx, ho⟩ h0
/-- A text tells series. -/
def allOf (l : List Fld) : List Ser := l.foldl allStep []
theorem allOf_snoc (d : List Fld) (f : Fld) : allOf (d ++ [f]) = allStep (allOf d) f := by simp [allOf]
def allRead (s : List UInt8) : Option (List Ser) := if fieldsOk allOk s = true then some (allOf (fields s).1) else none
theorem allStep_len (x : List Ser) (f : Fld) : (allStep x f).length ≤ x.length + 1 := by
  unfold allStep
  split
  · split <;> simp
  · simp
theorem allOf_len : ∀ (d : List Fld) (x : List Ser), (d.foldl allStep x).length ≤ x.length + d.length
  | [], x => by simp
  | f :: d, x => by
    have h1 := allOf_len d (allStep x f)
    have h2 := allStep_len x f
    simp only [List.foldl_cons, List.length_cons]
    omega
set_option maxRecDepth 20000 in
set_option maxHeartbeats 2000000 in
theorem readAll_any (w : World) (s : List UInt8) (hs : s.length ≤ 1000000) :
    Calls Tryz.prog 84 #[.string (bs s)] w fun e w' => Below w.heap.size w w' ∧
      ((∃ x v, allRead s = some x ∧ e = .returned v ∧ ownSeries w' w.heap.size v x) ∨ (allRead s = none ∧ e = gaveUp 1)) := by
  have hcf : ∀ (args : Array Value) (w : World), (callFunc 108 args).run Tryz.prog w = .ok (.enter 108 args) w := fun args w => by simp [go_sem]
  have hW0 : Below w.heap.size w (w.alloc (.cells #[.slice none 0 0] 22)) := (Below.refl _ _).alloc (Nat.le_refl _) _
  have HE := hide (eachField_any s (w.alloc (.cells #[.slice none 0 0] 22)) 108 #[.pointer (some ⟨w.heap.size, 0, none⟩)]
    (fun d wi => Below w.heap.size w wi ∧ allAt wi (w.heap.size + 1) w.heap.size (allOf d))
    allOk (fun wi => Below w.heap.size w wi) (by omega) hcf ⟨hW0, by simp, _, heap_alloc_new _ _, ownSeries_nil _ _⟩
    (fun d w1 w2 ⟨h1, h3⟩ hg => ⟨h1.trans (hg.mono h1.size), allAt_grow h3 hg⟩)
    (fun d w1 h => h.1)
    (fun d f w1 ⟨h1, h3⟩ _ hn hf hd => (readAll1_any w1 (w.heap.size + 1) w.heap.size (allOf d) f h3 (by have := allOf_len d []; simp at this; show (d.foldl allStep []).length ≤ _; omega) (by omega)).mono fun e w2 ⟨hk, h⟩ => by
      have hb2 : Below w.heap.size w w2 := h1.trans (hk.below (by omega) (by omega))
      rcases h with ⟨h4, h5, h6⟩ | ⟨h4, h5⟩
      · exact .inl ⟨h4, h5, hb2, by rw [allOf_snoc]; exact h6⟩
      · exact .inr ⟨h4, h5, hb2⟩))
  clear hW0
  go_enter Tryz.func84, Tryz.ntmps84
  go_wp2_with fail
  refine HE.out.mono ?_
  clear HE hcf
  rintro e w1 (⟨hok, rfl, hb1, h3⟩ | ⟨hok, rfl, hb1⟩)
  · have HOk : Hid (allRead s = some (allOf (fields s).1)) := by
      show _ = _
      simp [allRead, hok]
    clear hok
    generalize allOf (fields s).1 = x at *
    obtain ⟨h4, v, h5, h6⟩ := h3
    obtain ⟨ao, cp, rfl⟩ : ∃ ao cp, v = .slice ao x.length cp := by obtain ⟨vs, _, hr, _⟩ := h6; exact own_shape hr
    have c0 := cell_of_one h5
    go_wp2
    go_ret
    refine ⟨hb1, .inl ⟨x, _, HOk.out, rfl, ?_⟩⟩
    obtain ⟨vs, hl, hr, hall⟩ := h6
    exact ⟨vs, hl, own_le hr (by omega), fun i a b h1 h2 => ⟨own_le (hall i a b h1 h2).1 (by omega), own_le (hall i a b h1 h2).2 (by omega)⟩⟩
  · have HOk : Hid (allRead s = none) := by
      show _ = _
      simp [allRead, hok]
    exact ⟨rfl, hb1, .inr ⟨HOk.out, rfl⟩⟩
theorem fieldsF_in : ∀ (k : Nat) (l : List UInt8), (fieldsF k l).1.length ≤ k ∧ ∀ f ∈ (fieldsF k l).1, f.1 < 18446744073709551616 ∧ f.2.1 < 18446744073709551616 ∧ f.2.2.length ≤ l.length
  | 0, l => by simp [fieldsF]
  | k + 1, l => by
    unfold fieldsF
    split
    · simp
    · split
      · simp
      · rename_i f r h
        have hs := oneField_shorter h
        have ih := fieldsF_in k r
        refine ⟨by simp; exact ih.1, fun g hg => ?_⟩
        rcases List.mem_cons.1 hg with rfl | hg
        · exact hs.2
        · have := ih.2 g hg
          exact ⟨this.1, this.2.1, by omega⟩
theorem fields_in (l : List UInt8) : (fields l).1.length ≤ l.length ∧ ∀ f ∈ (fields l).1, f.1 < 18446744073709551616 ∧ f.2.1 < 18446744073709551616 ∧ f.2.2.length ≤ l.length := fieldsF_in _ _
theorem fold_inv {α β : Type} (P : α → Prop) (Q : β → Prop) (g : α → β → α) (h : ∀ a b, P a → Q b → P (g a b)) : ∀ (l : List β) (a : α), P a → (∀ b ∈ l, Q b) → P (l.foldl g a)
  | [], a, ha, _ => ha
  | b :: l, a, ha, hl => fold_inv P Q g h l (g a b) (h a b ha (hl b (by simp))) fun c hc => hl c (by simp [hc])
def labIn (n : Nat) (x : Lab) : Prop := x.1.length ≤ n ∧ x.2.length ≤ n
theorem labRead_len {b : List UInt8} {a : Lab} (h : labRead b = some a) : labIn b.length a := by
  unfold labRead at h
  split at h
  · cases h
    exact fold_inv (labIn b.length) (fun f : Fld => f.2.2.length ≤ b.length) labStep (fun x f hx hf => labStep_len hx hf) _ _ ⟨Nat.zero_le _, Nat.zero_le _⟩ fun f hf => ((fields_in b).2 f hf).2.2
  · cases h
def samIn (x : Sam) : Prop := x.2 < 18446744073709551616
theorem samRead_len {b : List UInt8} {a : Sam} (h : samRead b = some a) : samIn a := by
  unfold samRead at h
  split at h
  · cases h
    refine fold_inv samIn (fun f : Fld => f.2.1 < 18446744073709551616) samStep (fun x f hx hf => ?_) _ _ (by simp [samIn]) fun f hf => ((fields_in b).2 f hf).2.1
    unfold samStep samIn
    split
    · exact hf
    · split <;> exact hx
  · cases h
def serIn (n : Nat) (x : Ser) : Prop := (∀ y ∈ x.1, labIn n y) ∧ ∀ y ∈ x.2, samIn y
theorem serRead_len {b : List UInt8} {a : Ser} (h : serRead b = some a) : serIn b.length a ∧ a.1.length ≤ b.length ∧ a.2.length ≤ b.length := by
  unfold serRead at h
  split at h
  · cases h
    refine ⟨fold_inv (serIn b.length) (fun f : Fld => f.2.2.length ≤ b.length) serStep (fun x f hx hf => ?_) _ _ ⟨by simp, by simp⟩ fun f hf => ((fields_in b).2 f hf).2.2, ?_⟩
    · unfold serStep
      split
      · split
        · rename_i a ha
          have hl := labRead_len ha
          refine ⟨fun y hy => ?_, hx.2⟩
          rcases List.mem_append.1 hy with hy | hy
          · exact hx.1 y hy
          · simp at hy
            subst hy
            exact ⟨by have := hl.1; omega, by have := hl.2; omega⟩
        · exact hx
      · split
        · split
          · rename_i a ha
            refine ⟨hx.1, fun y hy => ?_⟩
            rcases List.mem_append.1 hy with hy | hy
            · exact hx.2 y hy
            · simp at hy
              subst hy
              exact samRead_len ha
          · exact hx
        · exact hx
    · have h1 := serOf_len (fields b).1 ([], [])
      have h2 := (fields_in b).1
      simp at h1
      exact ⟨by show ((fields b).1.foldl serStep ([], [])).1.length ≤ _; omega, by show ((fields b).1.foldl serStep ([], [])).2.length ≤ _; omega⟩
  · cases h
def allIn (n : Nat) (l : List Ser) : Prop := ∀ x ∈ l, serIn n x ∧ x.1.length ≤ n ∧ x.2.length ≤ n
theorem allRead_len {b : List UInt8} {a : List Ser} (h : allRead b = some a) : allIn b.length a ∧ a.length ≤ b.length := by
  unfold allRead at h
  split at h
  · cases h
    refine ⟨fold_inv (allIn b.length) (fun f : Fld => f.2.2.length ≤ b.length) allStep (fun x f hx hf => ?_) _ _ (by simp [allIn]) fun f hf => ((fields_in b).2 f hf).2.2, ?_⟩
    · unfold allStep
      split
      · split
        · rename_i a ha
          have hl := serRead_len ha
          intro y hy
          rcases List.mem_append.1 hy with hy | hy
          · exact hx y hy
          · simp at hy
            subst hy
            exact ⟨⟨fun z hz => by have := hl.1.1 z hz; exact ⟨by have := this.1; omega, by have := this.2; omega⟩, hl.1.2⟩, by omega, by omega⟩
        · exact hx
      · exact hx
    · have h1 := allOf_len (fields b).1 []
      have h2 := (fields_in b).1
      simp at h1
      show ((fields b).1.foldl allStep []).length ≤ _
      omega
  · cases h
theorem allRead_fit {b : List UInt8} {a : List Ser} (h : allRead b = some a) (hb : b.length ≤ 1000000) : lensFit a := by
  have hl := allRead_len h
  refine ⟨by omega, fun x hx => ?_⟩
  have hx' := hl.1 x hx
  refine ⟨by omega, by omega, fun y hy => ?_⟩
  have := hx'.1.1 y hy
  exact ⟨by have := this.1; omega, by have := this.2; omega⟩
/-- The error with which a short text is read: 0 is none. -/
def rdErr (s : List UInt8) : Int := match allRead s with | none => 1 | some x => if countsB x = true then (if timesB x = true then 0 else 3) else 2
set_option maxRecDepth 20000 in
set_option maxHeartbeats 2000000 in
theorem read1_any (w : World) (sb lb : Nat) (s : List UInt8) (v0 : Value) (hsb : w.heap[sb]? = some (.cells #[.string (bs s)] 9 (0, 0))) (hlb : w.heap[lb]? = some (.cells #[v0] 22 (0, 0))) (hne : sb ≠ lb) (hs : s.length ≤ 20000) :
    Calls Tryz.prog 83 #[.pointer (some ⟨sb, 0, none⟩), .pointer (some ⟨lb, 0, none⟩)] w (worked fun err w' => err = rdErr s ∧ KeptX w.heap.size lb w w' ∧
      (rdErr s = 0 → ∃ x v, allRead s = some x ∧ w'.heap[lb]? = some (.cells #[v] 22 (0, 0)) ∧ ownSeries w' w.heap.size v x)) := by
  have hc := cell_of_one hsb
  have hlt := lt_of_block hlb
  go_enter Tryz.func83, Tryz.ntmps83
  go_wp2_with fail
  refine (readAll_any w s (by omega)).mono ?_
  rintro e w1 ⟨hb1, (⟨x, v, hr, rfl, ho⟩ | ⟨hr, rfl⟩)⟩
  · obtain ⟨ao, cp, rfl⟩ : ∃ ao cp, v = .slice ao x.length cp := by obtain ⟨vs, _, hr, _⟩ := ho; exact own_shape hr
    have hfit := hide (allRead_fit hr (by omega))
    have HR := hide hr
    clear hr
    have hl1 := below_block hb1 hlb hlt
    have z1 := free_of_one hl1
    have c1 := cell_of_one hl1
    obtain ⟨W, HW⟩ : ∃ W, Hid (W = w1.setCell ⟨lb, 0, none⟩ (.slice ao x.length cp)) := ⟨_, hide rfl⟩
    have hlW : W.heap[lb]? = some (.cells #[.slice ao x.length cp] 22 (0, 0)) := by rw [HW.out]; exact set_block hl1 _
    have hoW : ownSeries W w.heap.size (.slice ao x.length cp) x := by rw [HW.out]; exact ownSeries_setCell ho hl1 (by decide) (by decide) (by decide)
    have hkW : KeptX w.heap.size lb w W := by rw [HW.out]; exact (keptX_of hb1).setAt _ _
    have hWs := hkW.size
    have cW := cell_of_one hlW
    rw [HW.out] at cW
    clear hc
    go_wp2_with fail
    rw [← HW.out]
    clear c1
    refine (checkCounts_any W _ x (reads_ownSeries hoW) hfit.out.1 hfit.out.2).mono ?_
    clear hfit
    rintro e w2 ⟨hb2, (⟨h1, rfl⟩ | ⟨h1, rfl⟩)⟩
    · have g2 : Grow W w2 := hb2
      have hl2 := g2.get hlW
      have c2 := cell_of_one hl2
      clear cW
      go_wp2_with fail
      refine (checkTimes_any w2 _ x (reads_ownSeries (ownSeries_grow hoW g2)) h1).mono ?_
      rintro e w3 ⟨hb3, (⟨h2, rfl⟩ | ⟨h2, rfl⟩)⟩
      · have g3 : Grow W w3 := g2.trans hb3
        have he : rdErr s = 0 := by
          have := (countsB_iff x).1 h1; have := (timesB_iff x).1 h2
          simp [rdErr, HR.out, *]
        go_wp2
        go_end0
        exact .inl ⟨rfl, he.symm, hkW.trans (keptX_of (g3.mono hWs)), fun _ => ⟨x, _, HR.out, g3.get hlW, ownSeries_grow hoW g3⟩⟩
      · have g3 : Grow W w3 := g2.trans hb3
        have he : rdErr s = 3 := by
          have := (countsB_iff x).1 h1; have h2' := mt (timesB_iff x).2 h2
          simp [rdErr, HR.out, *]
        exact ⟨rfl, .inr ⟨3, rfl, he.symm, hkW.trans (keptX_of (g3.mono hWs)), fun h => by rw [he] at h; simp at h⟩⟩
    · have g2 : Grow W w2 := hb2
      have he : rdErr s = 2 := by
        have h1' := mt (countsB_iff x).2 h1
        simp [rdErr, HR.out, *]
      exact ⟨rfl, .inr ⟨2, rfl, he.symm, hkW.trans (keptX_of (g2.mono hWs)), fun h => by rw [he] at h; simp at h⟩⟩
  · have he : rdErr s = 1 := by simp [rdErr, hr]
    exact ⟨rfl, .inr ⟨1, rfl, he.symm, keptX_of hb1, fun h => by rw [he] at h; simp at h⟩⟩
/-- The error of Read: 0 is none. -/
def readErr (s : List UInt8) : Int := if s.length ≤ 20000 then rdErr s else 2
set_option maxRecDepth 20000 in
set_option maxHeartbeats 2000000 in
theorem read_any (w : World) (s : List UInt8) (hs : s.length ≤ 9223372036854775807) :
    Calls Tryz.prog 55 #[.string (bs s)] w fun e w' => Below w.heap.size w w' ∧
      ((readErr s = 0 ∧ ∃ x v, allRead s = some x ∧ e = .returned (.tuple #[v, .int .i64 0]) ∧ ownSeries w' w.heap.size v x) ∨ (readErr s ≠ 0 ∧ e = .returned (.tuple #[.slice none 0 0, .int .i64 (readErr s)]))) := by
  have hcf : ∀ (args : Array Value) (w : World), (callFunc 83 args).run Tryz.prog w = .ok (.enter 83 args) w := fun args w => by simp [go_sem]
  have hBox : Below w.heap.size w (w.alloc (.cells #[.string (bs s)] 9)) := (Below.refl _ _).alloc (Nat.le_refl _) _
  by_cases hlen : s.length ≤ 20000
  · obtain ⟨W, HW⟩ : ∃ W, Hid (W = ((w.alloc (.cells #[.string (bs s)] 9)).alloc (.cells #[.slice none 0 0] 22)).alloc (.cells #[.int .i64 0] 24)) := ⟨_, hide rfl⟩
    have h0 : Below w.heap.size w W := by rw [HW.out]; exact (hBox.alloc (by simp) _).alloc (by simp; omega) _
    have hWs : W.heap.size = w.heap.size + 3 := by rw [HW.out]; simp
    have g0 : W.heap[w.heap.size]? = some (.cells #[.string (bs s)] 9 (0, 0)) := by
      rw [HW.out, Below.heap_alloc _ _ _ (by simp; omega), Below.heap_alloc _ _ _ (by simp)]; exact heap_alloc_new _ _
    have g1 : W.heap[w.heap.size + 1]? = some (.cells #[.slice none 0 0] 22 (0, 0)) := by
      rw [HW.out, Below.heap_alloc _ _ _ (by simp)]
      have := heap_alloc_new (w.alloc (.cells #[.string (bs s)] 9)) (.cells #[.slice none 0 0] 22)
      simpa using this
    have g2 : W.heap[w.heap.size + 2]? = some (.cells #[.int .i64 0] 24 (0, 0)) := by
      rw [HW.out]
      have := heap_alloc_new ((w.alloc (.cells #[.string (bs s)] 9)).alloc (.cells #[.slice none 0 0] 22)) (.cells #[.int .i64 0] 24)
      simpa using this
    have HR := hide ((read1_any W w.heap.size (w.heap.size + 1) s _ g0 g1 (by omega) hlen).mono fun e w' h => (show worked (fun err w' => (err = rdErr s ∧ Below w.heap.size w w' ∧ w'.heap[w.heap.size + 2]? = some (.cells #[.int .i64 0] 24 (0, 0)) ∧ (rdErr s = 0 → ∃ x v, allRead s = some x ∧ w'.heap[w.heap.size + 1]? = some (.cells #[v] 22 (0, 0)) ∧ ownSeries w' (w.heap.size + 3) v x)) ∧ w'.heap[((w.alloc (.cells #[.string (bs s)] 9)).alloc (.cells #[.slice none 0 0] 22)).heap.size]? = some (.cells #[.int .i64 0] 24 (0, 0))) e w' from by
      have key : ∀ err w', (err = rdErr s ∧ KeptX W.heap.size (w.heap.size + 1) W w' ∧ (rdErr s = 0 → ∃ x v, allRead s = some x ∧ w'.heap[w.heap.size + 1]? = some (.cells #[v] 22 (0, 0)) ∧ ownSeries w' W.heap.size v x)) →
          (err = rdErr s ∧ Below w.heap.size w w' ∧ w'.heap[w.heap.size + 2]? = some (.cells #[.int .i64 0] 24 (0, 0)) ∧ (rdErr s = 0 → ∃ x v, allRead s = some x ∧ w'.heap[w.heap.size + 1]? = some (.cells #[v] 22 (0, 0)) ∧ ownSeries w' (w.heap.size + 3) v x)) ∧ w'.heap[((w.alloc (.cells #[.string (bs s)] 9)).alloc (.cells #[.slice none 0 0] 22)).heap.size]? = some (.cells #[.int .i64 0] 24 (0, 0)) := by
        rintro err w' ⟨e1, e2, e3⟩
        have e4 := e2.get g2 (by omega) (by omega)
        exact ⟨⟨e1, h0.trans (e2.below (by omega) (by omega)), e4, fun h => by rw [← hWs]; exact e3 h⟩, by simpa using e4⟩
      rcases h with ⟨rfl, hR⟩ | ⟨err, rfl, hR⟩
      · exact .inl ⟨rfl, key _ _ hR⟩
      · exact .inr ⟨err, rfl, key _ _ hR⟩))
    rw [HW.out] at HR
    clear g0 g1 g2 h0 hWs HW
    have hcs : (w.alloc (.cells #[.string (bs s)] 9)).cell? ⟨w.heap.size, 0, none⟩ = some (.string (bs s)) := cell_of_one (heap_alloc_new _ _)
    have hz : readErr s = rdErr s := by simp [readErr, hlen]
    rw [hz]
    go_enter Tryz.func55, Tryz.ntmps55
    go_wp2_with fail
    refine (attempt_any _ 83 _ (fun err w' => err = rdErr s ∧ Below w.heap.size w w' ∧ w'.heap[w.heap.size + 2]? = some (.cells #[.int .i64 0] 24 (0, 0)) ∧ (rdErr s = 0 → ∃ x v, allRead s = some x ∧ w'.heap[w.heap.size + 1]? = some (.cells #[v] 22 (0, 0)) ∧ ownSeries w' (w.heap.size + 3) v x)) hcf HR.out).mono ?_
    clear HR hcf
    rintro e w2 ⟨err, w1, rfl, ⟨herr, hb, hg, hW⟩, hw2⟩
    have hb2 : Below w.heap.size w w2 := by rw [hw2]; exact hb.setCell (by simp; omega) _
    by_cases h : rdErr s = 0
    · obtain ⟨x, v, hr, hlv, how⟩ := hW h
      have hlv2 : w2.heap[w.heap.size + 1]? = some (.cells #[v] 22 (0, 0)) := by
        rw [hw2, Below.heap_setCell _ _ _ _ (by simp)]; exact hlv
      have how2 : ownSeries w2 (w.heap.size + 3) v x := by
        rw [hw2]
        have := ownSeries_setCell (u := .int .i64 err) (i := 0) how hg (by decide) (by decide) (by decide)
        simpa using this
      clear hw2
      rw [herr, h]
      have hcell := cell_of_one hlv2
      obtain ⟨ao, cp, rfl⟩ : ∃ ao cp, v = .slice ao x.length cp := by obtain ⟨vs, _, hr, _⟩ := how; exact own_shape hr
      have HX := hide hr
      have HZ := hide h
      clear h herr hg hW hr
      go_wp2
      go_ret2
      refine ⟨hb2, .inl ⟨HZ.out, x, _, HX.out, rfl, ?_⟩⟩
      obtain ⟨vs, hl, hr, hall⟩ := how2
      exact ⟨vs, hl, own_le hr (by omega), fun i a b h1 h2 => ⟨own_le (hall i a b h1 h2).1 (by omega), own_le (hall i a b h1 h2).2 (by omega)⟩⟩
    · have hne : (err != 0) = true := by rw [herr]; simpa using h
      have HE := hide herr
      have HN := hide h
      clear h herr hg hw2 hW
      go_wp2
      go_ret2
      exact ⟨hb2, .inr ⟨HN.out, by rw [← HE.out]; rfl⟩⟩
  · have hz : readErr s = 2 := by simp [readErr, hlen]
    have hcs : (w.alloc (.cells #[.string (bs s)] 9)).cell? ⟨w.heap.size, 0, none⟩ = some (.string (bs s)) := cell_of_one (heap_alloc_new _ _)
    rw [hz]
    go_enter Tryz.func55, Tryz.ntmps55
    go_wp2
    go_ret2
    exact ⟨hBox, .inr ⟨by omega, rfl⟩⟩
end Go.Proofs.YtmdakfmecfcbhaaGreat
namespace Go.Proofs.YtmdakfmecfcbhaaGreat
theorem readErr_none {s : List UInt8} {x : List Ser} (h : readErr s = 0) (hx : allRead s = some x) : countsB x = true ∧ timesB x = true ∧ s.length ≤ 20000 := by
  unfold readErr rdErr at h
  rw [hx] at h
  simp only at h
  split at h
  · split at h
    · split at h
      · exact ⟨by assumption, by assumption, by assumption⟩
      · simp at h
    · simp at h
  · simp at h
end Go.Proofs.YtmdakfmecfcbhaaGreat
