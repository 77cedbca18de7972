/- readSeries$1, readSeries. -/
import Derived.Test.YtmdakfmecfcbhaaGreatProg
import Derived.Test.YtmdakfmecfcbhaaGreatKit
import Derived.Test.YtmdakfmecfcbhaaGreatSpec
import Derived.Test.YtmdakfmecfcbhaaGreatSpec2
import Derived.Test.YtmdakfmecfcbhaaGreatReg
import Derived.Test.YtmdakfmecfcbhaaGreatWSer
import Derived.Test.YtmdakfmecfcbhaaGreatRdA
import Derived.Test.YtmdakfmecfcbhaaGreatRdB
import Derived.Test.YtmdakfmecfcbhaaGreatRdC
import Derived.Test.YtmdakfmecfcbhaaGreatRdD
import Derived.Test.YtmdakfmecfcbhaaGreatRowK
set_option linter.unusedVariables false
set_option linter.unusedSimpArgs false
namespace Go.Proofs.YtmdakfmecfcbhaaGreat
open Go.RowKit
attribute [local go_sem] bs_size bs_toList bs_append bs_get bs_extract

theorem Tryz.infoL : (Tryz.prog.info? 62).map (fun i => (i.zero, i.size, i.bytes)) = some (some (.agg #[.string ⟨#[]⟩, .string ⟨#[]⟩]), 2, 32) := by kernel_rfl
theorem Tryz.infoS : (Tryz.prog.info? 48).map (fun i => (i.zero, i.size, i.bytes)) = some (some (.agg #[.int .i64 0, .int .u64 0]), 2, 16) := by kernel_rfl
theorem Tryz.infoE : (Tryz.prog.info? 41).map (fun i => (i.zero, i.size, i.bytes)) = some (some (.agg #[.slice none 0 0, .slice none 0 0]), 2, 48) := by kernel_rfl

/-- A series that is being read, in a block. -/
def serAt (w : World) (B xb : Nat) (x : Ser) : Prop :=
  B ≤ w.heap.size ∧ ∃ v1 v2, w.heap[xb]? = some (.cells #[v1, v2] 41 (0, 0)) ∧ ownLabels w B v1 x.1 ∧ ownSamples w B v2 x.2
theorem serAt_grow {w w' : World} {B xb : Nat} {x : Ser} (h : serAt w B xb x) (hg : Grow w w') : serAt w' B xb x := by
  obtain ⟨h0, v1, v2, h1, h2, h3⟩ := h
  exact ⟨by have := hg.size; omega, v1, v2, hg.get h1, own_grow h2 hg, own_grow h3 hg⟩

/-- What a series' fields tell. -/
def serStep (x : Ser) (f : Fld) : Ser :=
  if f.1 = 10 then (match labRead f.2.2 with | some a => (x.1 ++ [a], x.2) | none => x)
  else if f.1 = 18 then (match samRead f.2.2 with | some a => (x.1, x.2 ++ [a]) | none => x)
  else x
def serOk (f : Fld) : Bool := if f.1 = 10 then (labRead f.2.2).isSome else if f.1 = 18 then (samRead f.2.2).isSome else true

set_option maxRecDepth 20000 in
set_option maxHeartbeats 4000000 in
theorem readSeries1_any (w : World) (B xb : Nat) (x : Ser) (f : Fld) (hx : serAt w B xb x) (hl1 : x.1.length ≤ 1000000) (hl2 : x.2.length ≤ 1000000) (hf : f.2.2.length ≤ 1000000) :
    Calls Tryz.prog 126 #[fldV f, .pointer (some ⟨xb, 0, none⟩)] w fun e w' => KeptX B xb w w' ∧
      ((serOk f = true ∧ e = .returned (.tuple #[]) ∧ serAt w' B xb (serStep x f)) ∨ (serOk f = false ∧ e = gaveUp 1)) := by
  obtain ⟨h, n, b⟩ := f
  obtain ⟨ls, ss⟩ := x
  obtain ⟨hB, v1, v2, hx, ho1, ho2⟩ := hx
  obtain ⟨ao1, cp1, rfl⟩ := own_shape ho1
  obtain ⟨ao2, cp2, rfl⟩ := own_shape ho2
  have hxlt := lt_of_block hx
  have h0 : Grow w (w.alloc (.cells #[.int .u64 h, .int .u64 n, .string (bs b)] 133)) := (Below.refl _ _).alloc (Nat.le_refl _) _
  obtain ⟨W, HW⟩ : ∃ W, Hid (W = w.alloc (.cells #[.int .u64 h, .int .u64 n, .string (bs b)] 133)) := ⟨_, hide rfl⟩
  have hfb : W.heap[w.heap.size]? = some (.cells #[.int .u64 h, .int .u64 n, .string (bs b)] 133 (0, 0)) := by
    rw [HW.out]; exact heap_alloc_new _ _
  unfold fldV
  go_enter Tryz.func126, Tryz.ntmps126
  rw [← HW.out] at h0
  by_cases m1 : h = 10
  · have t1 : ((h : Int) == 10) = true := by rw [beq_iff_eq]; omega
    have M := hide m1
    clear m1
    go_wp2
    have hbz : b.length ≤ 1000000 := hf
    cases hr : labRead b with
    | none =>
      have HR := hide hr
      clear hr
      refine wp_region_free 6 25 Tryz.mixed2 rfl (by decide +kernel) Grow (fun _ _ _ => Grow.trans) (Grow.refl _)
        (fun i v _ => match i with
          | 0 => v = .pointer (some ⟨xb, 0, none⟩)
          | 2 => v = .pointer (some ⟨w.heap.size, 2, none⟩)
          | 3 => v = .string (bs b)
          | 4 => False
          | _ => True)
        (fun i v w w' h hg => h) (fun ch w2 => Ending.panicked ch = gaveUp 1 ∧ Grow w w2) (fun ch a w2 hd hq => ?_) (fun i hi o ho a w2 hG hoff hdep => ?_) (fun vals w2 hG hvals => (hvals 4 (by omega)).elim)
      · obtain ⟨hq1, hq2⟩ := hq
        simp only [Ending.panicked.injEq] at hq1
        subst hq1
        exact ⟨hd, keptX_of (hq2.mono hB), .inr ⟨by simp [serOk, M.out, HR.out], rfl⟩⟩
      · have hG' : Grow w w2 := h0.trans ⟨by rw [HW.out]; exact hG.os, by rw [HW.out]; exact hG.tape, by rw [HW.out]; exact hG.output, by rw [HW.out]; exact hG.size, by rw [HW.out]; exact hG.block⟩
        have hfb2 : w2.heap[w.heap.size]? = some (.cells #[.int .u64 h, .int .u64 n, .string (bs b)] 133 (0, 0)) := by
          have := hG.get (b := w.heap.size) (by rw [← HW.out]; exact hfb)
          exact this
        have hx2 := hG'.get hx
        obtain ⟨x0, x1⟩ := two_cells hx2
        obtain ⟨f0, f1, f2, _⟩ := three_cells hfb2
        match i, hi with
        | 0, _ =>
          obtain rfl := Option.some.inj ho
          have o1 := hoff 1 (by decide +kernel)
          simp at o1
          simp [opYields, go_sem, o1]
          exact Grow.refl _
        | 1, _ =>
          obtain rfl := Option.some.inj ho
          have d0 := hdep 0 (by decide +kernel)
          simp [slotOf, dstOf] at d0
          simp [opYields, go_sem, d0, x0]
          exact Grow.refl _
        | 2, _ =>
          obtain rfl := Option.some.inj ho
          have o2 := hoff 2 (by decide +kernel)
          simp at o2
          simp [opYields, go_sem, o2]
          exact Grow.refl _
        | 3, _ =>
          obtain rfl := Option.some.inj ho
          have d2 := hdep 2 (by decide +kernel)
          simp [slotOf, dstOf] at d2
          simp [opYields, go_sem, d2, f2]
          exact Grow.refl _
        | 4, _ =>
          obtain rfl := Option.some.inj ho
          have d3 := hdep 3 (by decide +kernel)
          simp [slotOf, dstOf] at d3
          simp [opYields, go_sem, d3]
          refine (readLabel_any w2 b (by omega)).mono ?_
          rintro e w3 ⟨hb, (⟨x, hr, _⟩|⟨_, rfl⟩)⟩
          rw [HR.out] at hr; cases hr
          exact ⟨rfl, hG'.trans hb⟩
        | 5, _ => exact (hdep 4 (by decide +kernel)).elim
    | some x =>
      have HR := hide hr
      clear hr
      refine wp_region_free 6 25 Tryz.mixed2 rfl (by decide +kernel) Grow (fun _ _ _ => Grow.trans) (Grow.refl _)
        (fun i v wq => match i with
          | 0 => v = .pointer (some ⟨xb, 0, none⟩)
          | 1 => v = (.slice ao1 ls.length cp1)
          | 2 => v = .pointer (some ⟨w.heap.size, 2, none⟩)
          | 3 => v = .string (bs b)
          | 4 => v = .agg #[.string (bs x.1), .string (bs x.2)]
          | _ => ∃ g, v = .slice (some ⟨g, 0, none⟩) 1 1 ∧ wq.heap[g]? = some (.cells #[.string (bs x.1), .string (bs x.2)] 62 (0, 0)))
        (fun i v w1 w2 h hg => ?_) (fun ch w2 => False) (fun ch a w2 hd hq => hq.elim) (fun i hi o ho a w2 hG hoff hdep => ?_) (fun vals w2 hG hvals => ?_)
      · match i, h with
        | 0, h => exact h
        | 1, h => exact h
        | 2, h => exact h
        | 3, h => exact h
        | 4, h => exact h
        | i + 5, ⟨g, h1, h2⟩ => exact ⟨g, h1, hg.get h2⟩
      · have hG' : Grow w w2 := h0.trans ⟨by rw [HW.out]; exact hG.os, by rw [HW.out]; exact hG.tape, by rw [HW.out]; exact hG.output, by rw [HW.out]; exact hG.size, by rw [HW.out]; exact hG.block⟩
        have hfb2 : w2.heap[w.heap.size]? = some (.cells #[.int .u64 h, .int .u64 n, .string (bs b)] 133 (0, 0)) := by
          have := hG.get (b := w.heap.size) (by rw [← HW.out]; exact hfb)
          exact this
        have hx2 := hG'.get hx
        obtain ⟨x0, x1⟩ := two_cells hx2
        obtain ⟨f0, f1, f2, _⟩ := three_cells hfb2
        match i, hi with
        | 0, _ =>
          obtain rfl := Option.some.inj ho
          have o1 := hoff 1 (by decide +kernel)
          simp at o1
          simp [opYields, go_sem, o1]
          exact Grow.refl _
        | 1, _ =>
          obtain rfl := Option.some.inj ho
          have d0 := hdep 0 (by decide +kernel)
          simp [slotOf, dstOf] at d0
          simp [opYields, go_sem, d0, x0]
          exact Grow.refl _
        | 2, _ =>
          obtain rfl := Option.some.inj ho
          have o2 := hoff 2 (by decide +kernel)
          simp at o2
          simp [opYields, go_sem, o2]
          exact Grow.refl _
        | 3, _ =>
          obtain rfl := Option.some.inj ho
          have d2 := hdep 2 (by decide +kernel)
          simp [slotOf, dstOf] at d2
          simp [opYields, go_sem, d2, f2]
          exact Grow.refl _
        | 4, _ =>
          obtain rfl := Option.some.inj ho
          have d3 := hdep 3 (by decide +kernel)
          simp [slotOf, dstOf] at d3
          simp [opYields, go_sem, d3]
          refine (readLabel_any w2 b (by omega)).mono ?_
          rintro e w3 ⟨hb, (⟨y, hr, _, _, rfl⟩|⟨hr, rfl⟩)⟩
          · rw [HR.out] at hr; cases hr; exact ⟨hb, rfl⟩
          · rw [HR.out] at hr; cases hr
        | 5, _ =>
          obtain rfl := Option.some.inj ho
          have d4 := hdep 4 (by decide +kernel)
          simp [slotOf, dstOf] at d4
          simp [opYields, go_sem, d4]
          exact ⟨(Grow.refl _).alloc _, (Array.getElem?_eq_some_iff.1 (heap_alloc_new _ _)).2⟩
      · have hG' : Grow w w2 := h0.trans ⟨by rw [HW.out]; exact hG.os, by rw [HW.out]; exact hG.tape, by rw [HW.out]; exact hG.output, by rw [HW.out]; exact hG.size, by rw [HW.out]; exact hG.block⟩
        have d0 := hvals 0 (by omega)
        have d1 := hvals 1 (by omega)
        have d2 := hvals 2 (by omega)
        have d3 := hvals 3 (by omega)
        have d4 := hvals 4 (by omega)
        obtain ⟨g, d5, hg2⟩ := hvals 5 (by omega)
        simp only at d0 d1 d2 d3 d4
        clear hvals hfb
        have hx2 := hG'.get hx
        have ho1' := own_grow ho1 hG'
        have ho2' := own_grow ho2 hG'
        have hne := own_apart ho1' hx2 (by decide)
        obtain ⟨i0, hi0, hz0, hz1, hz2⟩ := info_parts Tryz.infoL
        obtain ⟨g0, g1⟩ := two_cells hg2
        simp [over, dstOf, Act.put, d0, d1, d2, d3, d4, d5]
        refine wpList_append_own _ rfl _ _ 34 rfl B 62 i0 _ 2 32 Tryz.underlying34 hi0 hz0 hz1 hz2 rfl (by omega) _ ls.length (labCells ls) rfl ho1' ⟨g, 0, none⟩ 1 1 [.string (bs x.1), .string (bs x.2)] rfl rfl (fun j u hu => by match j, hu with | 0, hu => simp at hu; subst hu; rw [Addr.add_lit]; simpa using g0 | 1, hu => simp at hu; subst hu; rw [Addr.add_lit]; simpa using g1) (by simp [Value.oneCell']) (by unfold maxLen; omega) (by omega) (by have := hG'.size; omega) ?_
        intro v' w3 hown' hgrow _
        obtain ⟨ao', cp', rfl⟩ := own_shape hown'
        have hx3 := grown_block hgrow hx2 hne
        obtain ⟨y0, y1⟩ := two_cells hx3
        have z0 : w3.frozen? ⟨xb, 0, none⟩ = false := by simp only [World.frozen?, hx3]; rfl
        have z1 : w3.frozen? ⟨xb, 1, none⟩ = false := by simp only [World.frozen?, hx3]; rfl
        simp
        go_wp2
        go_end0
        have hbel : Below B w2 w3 := (Below.refl B w2).grown hgrow (by have := hG'.size; omega) (fun k hk => (ho1'.lt k hk).1)
        have hmine : w3.ownsRow B 62 2 (.slice ao' (ls.length + 1) cp') (ls ++ [x]).length (labCells (ls ++ [x])) := by
          rw [labCells_snoc, List.length_append]; exact hown'
        have hoth := World.ownsRow.kept ho2' hgrow (own_two ho2' ho1' (by decide))
        refine ⟨(((keptX_of (hG'.mono hB)).trans (keptX_of hbel)).setAt _ _), .inl ⟨by simp [serOk, M.out, HR.out], rfl, ?_⟩⟩
        have e : serStep (ls, ss) (h, n, b) = (ls ++ [x], ss) := by simp [serStep, M.out, HR.out]
        rw [e]
        refine ⟨by have h1 := hG'.size; have h2 := hbel.size; simp [World.setCell]; omega, .slice ao' (ls.length + 1) cp', .slice ao2 ss.length cp2, set_block hx3 _, ?_, ?_⟩
        · exact ownsRow_setCell_other (a := ⟨xb, 0, none⟩) hmine (own_apart hmine hx3 (by decide)) _
        · exact ownsRow_setCell_other (a := ⟨xb, 0, none⟩) hoth (own_apart hoth hx3 (by decide)) _
  · have t1 : ((h : Int) == 10) = false := by rw [beq_eq_false_iff_ne]; omega
    by_cases m2 : h = 18
    · have t2 : ((h : Int) == 18) = true := by rw [beq_iff_eq]; omega
      have M := hide m2
      clear m1 m2
      go_wp2
      have hbz : b.length ≤ 1000000 := hf
      cases hr : samRead b with
      | none =>
        have HR := hide hr
        clear hr
        refine wp_region_free 6 25 Tryz.mixed2 rfl (by decide +kernel) Grow (fun _ _ _ => Grow.trans) (Grow.refl _)
          (fun i v _ => match i with
            | 0 => v = .pointer (some ⟨xb, 1, none⟩)
            | 2 => v = .pointer (some ⟨w.heap.size, 2, none⟩)
            | 3 => v = .string (bs b)
            | 4 => False
            | _ => True)
          (fun i v w w' h hg => h) (fun ch w2 => Ending.panicked ch = gaveUp 1 ∧ Grow w w2) (fun ch a w2 hd hq => ?_) (fun i hi o ho a w2 hG hoff hdep => ?_) (fun vals w2 hG hvals => (hvals 4 (by omega)).elim)
        · obtain ⟨hq1, hq2⟩ := hq
          simp only [Ending.panicked.injEq] at hq1
          subst hq1
          exact ⟨hd, keptX_of (hq2.mono hB), .inr ⟨by simp [serOk, M.out, HR.out], rfl⟩⟩
        · have hG' : Grow w w2 := h0.trans ⟨by rw [HW.out]; exact hG.os, by rw [HW.out]; exact hG.tape, by rw [HW.out]; exact hG.output, by rw [HW.out]; exact hG.size, by rw [HW.out]; exact hG.block⟩
          have hfb2 : w2.heap[w.heap.size]? = some (.cells #[.int .u64 h, .int .u64 n, .string (bs b)] 133 (0, 0)) := by
            have := hG.get (b := w.heap.size) (by rw [← HW.out]; exact hfb)
            exact this
          have hx2 := hG'.get hx
          obtain ⟨x0, x1⟩ := two_cells hx2
          obtain ⟨f0, f1, f2, _⟩ := three_cells hfb2
          match i, hi with
          | 0, _ =>
            obtain rfl := Option.some.inj ho
            have o1 := hoff 1 (by decide +kernel)
            simp at o1
            simp [opYields, go_sem, o1]
            exact Grow.refl _
          | 1, _ =>
            obtain rfl := Option.some.inj ho
            have d0 := hdep 0 (by decide +kernel)
            simp [slotOf, dstOf] at d0
            simp [opYields, go_sem, d0, x1]
            exact Grow.refl _
          | 2, _ =>
            obtain rfl := Option.some.inj ho
            have o2 := hoff 2 (by decide +kernel)
            simp at o2
            simp [opYields, go_sem, o2]
            exact Grow.refl _
          | 3, _ =>
            obtain rfl := Option.some.inj ho
            have d2 := hdep 2 (by decide +kernel)
            simp [slotOf, dstOf] at d2
            simp [opYields, go_sem, d2, f2]
            exact Grow.refl _
          | 4, _ =>
            obtain rfl := Option.some.inj ho
            have d3 := hdep 3 (by decide +kernel)
            simp [slotOf, dstOf] at d3
            simp [opYields, go_sem, d3]
            refine (readSample_any w2 b (by omega)).mono ?_
            rintro e w3 ⟨hb, (⟨x, hr, _⟩|⟨_, rfl⟩)⟩
            rw [HR.out] at hr; cases hr
            exact ⟨rfl, hG'.trans hb⟩
          | 5, _ => exact (hdep 4 (by decide +kernel)).elim
      | some x =>
        have HR := hide hr
        clear hr
        refine wp_region_free 6 25 Tryz.mixed2 rfl (by decide +kernel) Grow (fun _ _ _ => Grow.trans) (Grow.refl _)
          (fun i v wq => match i with
            | 0 => v = .pointer (some ⟨xb, 1, none⟩)
            | 1 => v = (.slice ao2 ss.length cp2)
            | 2 => v = .pointer (some ⟨w.heap.size, 2, none⟩)
            | 3 => v = .string (bs b)
            | 4 => v = .agg #[.int .i64 x.1, .int .u64 x.2]
            | _ => ∃ g, v = .slice (some ⟨g, 0, none⟩) 1 1 ∧ wq.heap[g]? = some (.cells #[.int .i64 x.1, .int .u64 x.2] 48 (0, 0)))
          (fun i v w1 w2 h hg => ?_) (fun ch w2 => False) (fun ch a w2 hd hq => hq.elim) (fun i hi o ho a w2 hG hoff hdep => ?_) (fun vals w2 hG hvals => ?_)
        · match i, h with
          | 0, h => exact h
          | 1, h => exact h
          | 2, h => exact h
          | 3, h => exact h
          | 4, h => exact h
          | i + 5, ⟨g, h1, h2⟩ => exact ⟨g, h1, hg.get h2⟩
        · have hG' : Grow w w2 := h0.trans ⟨by rw [HW.out]; exact hG.os, by rw [HW.out]; exact hG.tape, by rw [HW.out]; exact hG.output, by rw [HW.out]; exact hG.size, by rw [HW.out]; exact hG.block⟩
          have hfb2 : w2.heap[w.heap.size]? = some (.cells #[.int .u64 h, .int .u64 n, .string (bs b)] 133 (0, 0)) := by
            have := hG.get (b := w.heap.size) (by rw [← HW.out]; exact hfb)
            exact this
          have hx2 := hG'.get hx
          obtain ⟨x0, x1⟩ := two_cells hx2
          obtain ⟨f0, f1, f2, _⟩ := three_cells hfb2
          match i, hi with
          | 0, _ =>
            obtain rfl := Option.some.inj ho
            have o1 := hoff 1 (by decide +kernel)
            simp at o1
            simp [opYields, go_sem, o1]
            exact Grow.refl _
          | 1, _ =>
            obtain rfl := Option.some.inj ho
            have d0 := hdep 0 (by decide +kernel)
            simp [slotOf, dstOf] at d0
            simp [opYields, go_sem, d0, x1]
            exact Grow.refl _
          | 2, _ =>
            obtain rfl := Option.some.inj ho
            have o2 := hoff 2 (by decide +kernel)
            simp at o2
            simp [opYields, go_sem, o2]
            exact Grow.refl _
          | 3, _ =>
            obtain rfl := Option.some.inj ho
            have d2 := hdep 2 (by decide +kernel)
            simp [slotOf, dstOf] at d2
            simp [opYields, go_sem, d2, f2]
            exact Grow.refl _
          | 4, _ =>
            obtain rfl := Option.some.inj ho
            have d3 := hdep 3 (by decide +kernel)
            simp [slotOf, dstOf] at d3
            simp [opYields, go_sem, d3]
            refine (readSample_any w2 b (by omega)).mono ?_
            rintro e w3 ⟨hb, (⟨y, hr, _, rfl⟩|⟨hr, rfl⟩)⟩
            · rw [HR.out] at hr; cases hr; exact ⟨hb, rfl⟩
            · rw [HR.out] at hr; cases hr
          | 5, _ =>
            obtain rfl := Option.some.inj ho
            have d4 := hdep 4 (by decide +kernel)
            simp [slotOf, dstOf] at d4
            simp [opYields, go_sem, d4]
            exact ⟨(Grow.refl _).alloc _, (Array.getElem?_eq_some_iff.1 (heap_alloc_new _ _)).2⟩
        · have hG' : Grow w w2 := h0.trans ⟨by rw [HW.out]; exact hG.os, by rw [HW.out]; exact hG.tape, by rw [HW.out]; exact hG.output, by rw [HW.out]; exact hG.size, by rw [HW.out]; exact hG.block⟩
          have d0 := hvals 0 (by omega)
          have d1 := hvals 1 (by omega)
          have d2 := hvals 2 (by omega)
          have d3 := hvals 3 (by omega)
          have d4 := hvals 4 (by omega)
          obtain ⟨g, d5, hg2⟩ := hvals 5 (by omega)
          simp only at d0 d1 d2 d3 d4
          clear hvals hfb
          have hx2 := hG'.get hx
          have ho1' := own_grow ho1 hG'
          have ho2' := own_grow ho2 hG'
          have hne := own_apart ho2' hx2 (by decide)
          obtain ⟨i0, hi0, hz0, hz1, hz2⟩ := info_parts Tryz.infoS
          obtain ⟨g0, g1⟩ := two_cells hg2
          simp [over, dstOf, Act.put, d0, d1, d2, d3, d4, d5]
          refine wpList_append_own _ rfl _ _ 35 rfl B 48 i0 _ 2 16 Tryz.underlying35 hi0 hz0 hz1 hz2 rfl (by omega) _ ss.length (samCells ss) rfl ho2' ⟨g, 0, none⟩ 1 1 [.int .i64 x.1, .int .u64 x.2] rfl rfl (fun j u hu => by match j, hu with | 0, hu => simp at hu; subst hu; rw [Addr.add_lit]; simpa using g0 | 1, hu => simp at hu; subst hu; rw [Addr.add_lit]; simpa using g1) (by simp [Value.oneCell']) (by unfold maxLen; omega) (by omega) (by have := hG'.size; omega) ?_
          intro v' w3 hown' hgrow _
          obtain ⟨ao', cp', rfl⟩ := own_shape hown'
          have hx3 := grown_block hgrow hx2 hne
          obtain ⟨y0, y1⟩ := two_cells hx3
          have z0 : w3.frozen? ⟨xb, 0, none⟩ = false := by simp only [World.frozen?, hx3]; rfl
          have z1 : w3.frozen? ⟨xb, 1, none⟩ = false := by simp only [World.frozen?, hx3]; rfl
          simp
          go_wp2
          go_end0
          have hbel : Below B w2 w3 := (Below.refl B w2).grown hgrow (by have := hG'.size; omega) (fun k hk => (ho2'.lt k hk).1)
          have hmine : w3.ownsRow B 48 2 (.slice ao' (ss.length + 1) cp') (ss ++ [x]).length (samCells (ss ++ [x])) := by
            rw [samCells_snoc, List.length_append]; exact hown'
          have hoth := World.ownsRow.kept ho1' hgrow (own_two ho1' ho2' (by decide))
          refine ⟨(((keptX_of (hG'.mono hB)).trans (keptX_of hbel)).setAt _ _), .inl ⟨by simp [serOk, M.out, HR.out], rfl, ?_⟩⟩
          have e : serStep (ls, ss) (h, n, b) = (ls, ss ++ [x]) := by simp [serStep, M.out, HR.out]
          rw [e]
          refine ⟨by have h1 := hG'.size; have h2 := hbel.size; simp [World.setCell]; omega, .slice ao1 ls.length cp1, .slice ao' (ss.length + 1) cp', set_block hx3 _, ?_, ?_⟩
          · exact ownsRow_setCell_other (a := ⟨xb, 1, none⟩) hoth (own_apart hoth hx3 (by decide)) _
          · exact ownsRow_setCell_other (a := ⟨xb, 1, none⟩) hmine (own_apart hmine hx3 (by decide)) _
    · have t2 : ((h : Int) == 18) = false := by rw [beq_eq_false_iff_ne]; omega
      have M := hide (And.intro m1 m2)
      clear m1 m2
      go_wp2
      go_end0
      rw [← HW.out]
      refine ⟨keptX_of (h0.mono hB), .inl ⟨?_, rfl, ?_⟩⟩
      · simp only [serOk, M.out.1, M.out.2, if_false]
      · simp only [serStep, M.out.1, M.out.2, if_false]
        exact serAt_grow ⟨hB, _, _, hx, ho1, ho2⟩ h0

/-- A series' text tells one. -/
def serOf (l : List Fld) : Ser := l.foldl serStep ([], [])
theorem serOf_snoc (d : List Fld) (f : Fld) : serOf (d ++ [f]) = serStep (serOf d) f := by simp [serOf]
theorem serOf_nil : serOf [] = ([], []) := rfl
def serRead (s : List UInt8) : Option Ser := if fieldsOk serOk s = true then some (serOf (fields s).1) else none
theorem serStep_len (x : Ser) (f : Fld) : (serStep x f).1.length ≤ x.1.length + 1 ∧ (serStep x f).2.length ≤ x.2.length + 1 := by
  unfold serStep
  split
  · split <;> simp
  · split
    · split <;> simp
    · simp
theorem serOf_len : ∀ (d : List Fld) (x : Ser), (d.foldl serStep x).1.length ≤ x.1.length + d.length ∧ (d.foldl serStep x).2.length ≤ x.2.length + d.length
  | [], x => by simp
  | f :: d, x => by
    have h1 := serOf_len d (serStep x f)
    have h2 := serStep_len x f
    simp only [List.foldl_cons, List.length_cons]
    omega

set_option maxRecDepth 20000 in
set_option maxHeartbeats 2000000 in
theorem readSeries_any (w : World) (s : List UInt8) (hs : s.length ≤ 1000000) :
    Calls Tryz.prog 109 #[.string (bs s)] w fun e w' => Below w.heap.size w w' ∧
      ((∃ x v1 v2, serRead s = some x ∧ e = .returned (.agg #[v1, v2]) ∧ ownLabels w' w.heap.size v1 x.1 ∧ ownSamples w' w.heap.size v2 x.2) ∨ (serRead s = none ∧ e = gaveUp 1)) := by
  have hcf : ∀ (args : Array Value) (w : World), (callFunc 126 args).run Tryz.prog w = .ok (.enter 126 args) w := fun args w => by simp [go_sem]
  obtain ⟨W, HW⟩ : ∃ W, Hid (W = (w.alloc (.cells #[.slice none 0 0, .slice none 0 0] 41)).alloc (.cells #[.slice none 0 0, .slice none 0 0] 41)) := ⟨_, hide rfl⟩
  have hW0 : Below w.heap.size w W := by rw [HW.out]; exact ((Below.refl _ _).alloc (Nat.le_refl _) _).alloc (by simp) _
  have hWs : w.heap.size + 2 ≤ W.heap.size := by rw [HW.out]; simp
  have hW1 : W.heap[w.heap.size]? = some (.cells #[.slice none 0 0, .slice none 0 0] 41 (0, 0)) := by
    rw [HW.out, Below.heap_alloc _ _ _ (by simp)]; exact heap_alloc_new _ _
  have hW2 : W.heap[w.heap.size + 1]? = some (.cells #[.slice none 0 0, .slice none 0 0] 41 (0, 0)) := by
    rw [HW.out]
    have := heap_alloc_new (w.alloc (.cells #[.slice none 0 0, .slice none 0 0] 41)) (.cells #[.slice none 0 0, .slice none 0 0] 41)
    simpa using this
  have HE := hide (eachField_any s W 126 #[.pointer (some ⟨w.heap.size + 1, 0, none⟩)]
    (fun d wi => Below w.heap.size w wi ∧ wi.heap[w.heap.size]? = some (.cells #[.slice none 0 0, .slice none 0 0] 41 (0, 0)) ∧ serAt wi (w.heap.size + 2) (w.heap.size + 1) (serOf d))
    serOk (fun wi => Below w.heap.size w wi) (by omega) hcf ⟨hW0, hW1, hWs, _, _, hW2, World.ownsRow_nil _ _ _ _, World.ownsRow_nil _ _ _ _⟩
    (fun d w1 w2 ⟨h1, h2, h3⟩ hg => ⟨h1.trans (hg.mono h1.size), hg.get h2, serAt_grow h3 hg⟩)
    (fun d w1 h => h.1)
    (fun d f w1 ⟨h1, h2, h3⟩ _ hn hf hd => (readSeries1_any w1 (w.heap.size + 2) (w.heap.size + 1) (serOf d) f h3 (by have := (serOf_len d ([], [])).1; simp at this; show (d.foldl serStep ([], [])).1.length ≤ _; omega) (by have := (serOf_len d ([], [])).2; simp at this; show (d.foldl serStep ([], [])).2.length ≤ _; omega) (by omega)).mono fun e w2 ⟨hk, h⟩ => by
      have hb2 : Below w.heap.size w w2 := h1.trans (hk.below (by omega) (by omega))
      rcases h with ⟨h4, h5, h6⟩ | ⟨h4, h5⟩
      · exact .inl ⟨h4, h5, hb2, hk.get h2 (by omega) (by omega), by rw [serOf_snoc]; exact h6⟩
      · exact .inr ⟨h4, h5, hb2⟩))
  clear hW0 hW1 hW2 hWs
  rw [HW.out] at HE
  go_enter Tryz.func109, Tryz.ntmps109
  go_wp2_with fail
  refine HE.out.mono ?_
  clear HE hcf HW
  rintro e w1 (⟨hok, rfl, hb1, h2, h3⟩ | ⟨hok, rfl, hb1⟩)
  · have HOk : Hid (serRead s = some (serOf (fields s).1)) := by
      show _ = _
      simp [serRead, hok]
    clear hok
    generalize serOf (fields s).1 = x at *
    obtain ⟨h4, v1, v2, h5, h6, h7⟩ := h3
    obtain ⟨ao1, cp1, rfl⟩ := own_shape h6
    obtain ⟨ao2, cp2, rfl⟩ := own_shape h7
    obtain ⟨x0, x1⟩ := two_cells h5
    obtain ⟨c0, c1⟩ := two_cells h2
    have z0 : w1.frozen? ⟨w.heap.size, 0, none⟩ = false := by simp only [World.frozen?, h2]; rfl
    have z1 : w1.frozen? ⟨w.heap.size, 1, none⟩ = false := by simp only [World.frozen?, h2]; rfl
    have hb3 : ((w1.setCell ⟨w.heap.size, 0, none⟩ (.slice ao1 x.1.length cp1)).setCell ⟨w.heap.size, 1, none⟩ (.slice ao2 x.2.length cp2)).heap[w.heap.size]? = some (.cells #[.slice ao1 x.1.length cp1, .slice ao2 x.2.length cp2] 41 (0, 0)) := by
      rw [set_block (set_block h2 _) _]; rfl
    obtain ⟨r0, r1⟩ := two_cells hb3
    go_wp2
    refine bodyPost_ret (v := .agg #[.slice ao1 x.1.length cp1, .slice ao2 x.2.length cp2]) (by simp [results, Tryz.results109, go_sem, r0, r1]) rfl ?_
    have n1 : Value.ownBlock (.slice ao1 x.1.length cp1) ≠ some w.heap.size := fun e => by have := (h6.lt _ e).1; omega
    have n2 : Value.ownBlock (.slice ao2 x.2.length cp2) ≠ some w.heap.size := fun e => by have := (h7.lt _ e).1; omega
    refine ⟨(hb1.setCell (p := ⟨w.heap.size, 0, none⟩) (Nat.le_refl _) _).setCell (p := ⟨w.heap.size, 1, none⟩) (Nat.le_refl _) _, .inl ⟨x, _, _, HOk.out, rfl, ?_, ?_⟩⟩
    · exact own_le (ownsRow_setCell_other (a := ⟨w.heap.size, 1, none⟩) (ownsRow_setCell_other (a := ⟨w.heap.size, 0, none⟩) h6 n1 _) n1 _) (by omega)
    · exact own_le (ownsRow_setCell_other (a := ⟨w.heap.size, 1, none⟩) (ownsRow_setCell_other (a := ⟨w.heap.size, 0, none⟩) h7 n2 _) n2 _) (by omega)
  · have HOk : Hid (serRead s = none) := by
      show _ = _
      simp [serRead, hok]
    exact ⟨rfl, hb1, .inr ⟨HOk.out, rfl⟩⟩

end Go.Proofs.YtmdakfmecfcbhaaGreat
