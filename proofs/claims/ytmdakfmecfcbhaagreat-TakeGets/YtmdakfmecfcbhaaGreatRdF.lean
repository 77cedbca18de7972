/- readAll$1, readAll. -/
import Derived.Test.YtmdakfmecfcbhaaGreatProg
import Derived.Test.YtmdakfmecfcbhaaGreatKit
import Derived.Test.YtmdakfmecfcbhaaGreatSpec
import Derived.Test.YtmdakfmecfcbhaaGreatSpec2
import Derived.Test.YtmdakfmecfcbhaaGreatReg
import Derived.Test.YtmdakfmecfcbhaaGreatWSer
import Derived.Test.YtmdakfmecfcbhaaGreatRdA
import Derived.Test.YtmdakfmecfcbhaaGreatRdB
import Derived.Test.YtmdakfmecfcbhaaGreatRdC
import Derived.Test.YtmdakfmecfcbhaaGreatRdD
import Derived.Test.YtmdakfmecfcbhaaGreatRowK
import Derived.Test.YtmdakfmecfcbhaaGreatRdE
set_option linter.unusedVariables false
set_option linter.unusedSimpArgs false
namespace Go.Proofs.YtmdakfmecfcbhaaGreat
open Go.RowKit
attribute [local go_sem] bs_size bs_toList bs_append bs_get bs_extract

/-- Series that are being read, in a block. -/
def allAt (w : World) (B xb : Nat) (x : List Ser) : Prop :=
  B ≤ w.heap.size ∧ ∃ v, w.heap[xb]? = some (.cells #[v] 22 (0, 0)) ∧ ownSeries w B v x
theorem allAt_grow {w w' : World} {B xb : Nat} {x : List Ser} (h : allAt w B xb x) (hg : Grow w w') : allAt w' B xb x := by
  obtain ⟨h0, v1, h1, h2⟩ := h
  exact ⟨by have := hg.size; omega, v1, hg.get h1, ownSeries_grow h2 hg⟩

def allStep (x : List Ser) (f : Fld) : List Ser := if f.1 = 10 then (match serRead f.2.2 with | some a => x ++ [a] | none => x) else x
def allOk (f : Fld) : Bool := if f.1 = 10 then (serRead f.2.2).isSome else true

/-- One series more, in the row that a call owns. -/
theorem ownSeries_more {w w' : World} {B : Nat} {v v' : Value} {ls : List Ser} {x : Ser} {y1 y2 : Value} {vs : List (Value × Value)} (hl : vs.length = ls.length)
    (hrow : w.ownsRow B 41 2 v ls.length (pairCells vs))
    (hall : ∀ (i : Nat) (x : Value × Value) (s : Ser), vs[i]? = some x → ls[i]? = some s → ownLabels w B x.1 s.1 ∧ ownSamples w B x.2 s.2)
    (hg : w.grownBy w' v.ownBlock) (hown : w'.ownsRow B 41 2 v' (ls.length + 1) (pairCells vs ++ [y1, y2])) (h1 : ownLabels w B y1 x.1) (h2 : ownSamples w B y2 x.2) : ownSeries w' B v' (ls ++ [x]) := by
  have kl : ∀ y l, ownLabels w B y l → ownLabels w' B y l := fun y l h => World.ownsRow.kept h hg (own_two h hrow (by decide))
  have ks : ∀ y l, ownSamples w B y l → ownSamples w' B y l := fun y l h => World.ownsRow.kept h hg (own_two h hrow (by decide))
  refine ⟨vs ++ [(y1, y2)], by simp [hl], ?_, ?_⟩
  · rw [pairCells_snoc, List.length_append]; exact hown
  · intro i a s ha hs
    by_cases hi : i < ls.length
    · rw [List.getElem?_append_left (by omega)] at ha hs
      exact ⟨kl _ _ (hall i a s ha hs).1, ks _ _ (hall i a s ha hs).2⟩
    · have e : i = ls.length := by
        have := (List.getElem?_eq_some_iff.1 hs).1
        simp at this; omega
      subst e
      rw [List.getElem?_append_right (by omega)] at ha hs
      simp [hl] at ha hs
      subst ha
      subst hs
      exact ⟨kl _ _ h1, ks _ _ h2⟩
theorem ownSeries_setCell {w : World} {B b : Nat} {v u : Value} {ls : List Ser} {c : Array Value} {t : TypeId} {i : Nat} (h : ownSeries w B v ls) (hb : w.heap[b]? = some (.cells c t (0, 0))) (h1 : 41 ≠ t) (h2 : 62 ≠ t) (h3 : 48 ≠ t) : ownSeries (w.setCell ⟨b, i, none⟩ u) B v ls := by
  obtain ⟨vs, hl, hr, hall⟩ := h
  exact ⟨vs, hl, ownsRow_setCell_other (a := ⟨b, i, none⟩) hr (own_apart hr hb h1) _, fun i x s hx hs =>
    ⟨ownsRow_setCell_other (hall i x s hx hs).1 (own_apart (hall i x s hx hs).1 hb h2) _, ownsRow_setCell_other (hall i x s hx hs).2 (own_apart (hall i x s hx hs).2 hb h3) _⟩⟩

set_option maxRecDepth 20000 in
set_option maxHeartbeats 4000000 in
theorem readAll1_any (w : World) (B xb : Nat) (x : List Ser) (f : Fld) (hx : allAt w B xb x) (hl1 : x.length ≤ 1000000) (hf : f.2.2.length ≤ 1000000) :
    Calls Tryz.prog 108 #[fldV f, .pointer (some ⟨xb, 0, none⟩)] w fun e w' => KeptX B xb w w' ∧
      ((allOk f = true ∧ e = .returned (.tuple #[]) ∧ allAt w' B xb (allStep x f)) ∨ (allOk f = false ∧ e = gaveUp 1)) := by
  obtain ⟨h, n, b⟩ := f
  obtain ⟨hB, v, hx, ho⟩ := hx
  obtain ⟨vs, hvl, hrow, hall⟩ := id ho
  obtain ⟨ao, cp, rfl⟩ := own_shape hrow
  have hxlt := lt_of_block hx
  have h0 : Grow w (w.alloc (.cells #[.int .u64 h, .int .u64 n, .string (bs b)] 133)) := (Below.refl _ _).alloc (Nat.le_refl _) _
  obtain ⟨W, HW⟩ : ∃ W, Hid (W = w.alloc (.cells #[.int .u64 h, .int .u64 n, .string (bs b)] 133)) := ⟨_, hide rfl⟩
  have hfb : W.heap[w.heap.size]? = some (.cells #[.int .u64 h, .int .u64 n, .string (bs b)] 133 (0, 0)) := by
    rw [HW.out]; exact heap_alloc_new _ _
  unfold fldV
  go_enter Tryz.func108, Tryz.ntmps108
  rw [← HW.out] at h0
  by_cases m1 : h = 10
  · have t1 : ((h : Int) == 10) = true := by rw [beq_iff_eq]; omega
    have M := hide m1
    clear m1
    go_wp2
    have hbz : b.length ≤ 1000000 := hf
    cases hr : serRead b with
    | none =>
      have HR := hide hr
      clear hr
      refine wp_region_free 5 12 Tryz.mixed2 rfl (by decide +kernel) Grow (fun _ _ _ => Grow.trans) (Grow.refl _)
        (fun i v wq => match i with
          | 1 => v = .pointer (some ⟨w.heap.size, 2, none⟩)
          | 2 => v = .string (bs b)
          | 3 => False
          | _ => True)
        (fun i v w w' h hg => h) (fun ch w2 => Ending.panicked ch = gaveUp 1 ∧ Grow w w2) (fun ch a w2 hd hq => ?_) (fun i hi o ho a w2 hG hoff hdep => ?_) (fun vals w2 hG hvals => (hvals 3 (by omega)).elim)
      · obtain ⟨hq1, hq2⟩ := hq
        simp only [Ending.panicked.injEq] at hq1
        subst hq1
        exact ⟨hd, keptX_of (hq2.mono hB), .inr ⟨by simp [allOk, M.out, HR.out], rfl⟩⟩
      · have hG' : Grow w w2 := h0.trans ⟨by rw [HW.out]; exact hG.os, by rw [HW.out]; exact hG.tape, by rw [HW.out]; exact hG.output, by rw [HW.out]; exact hG.size, by rw [HW.out]; exact hG.block⟩
        have hfb2 : w2.heap[w.heap.size]? = some (.cells #[.int .u64 h, .int .u64 n, .string (bs b)] 133 (0, 0)) := by
          have := hG.get (b := w.heap.size) (by rw [← HW.out]; exact hfb)
          exact this
        have x0 := cell_of_one (hG'.get hx)
        obtain ⟨f0, f1, f2, _⟩ := three_cells hfb2
        match i, hi with
        | 0, _ =>
          obtain rfl := Option.some.inj ho
          have o1 := hoff 1 (by decide +kernel)
          simp at o1
          simp [opYields, go_sem, o1, x0]
          exact Grow.refl _
        | 1, _ =>
          obtain rfl := Option.some.inj ho
          have o2 := hoff 2 (by decide +kernel)
          simp at o2
          simp [opYields, go_sem, o2]
          exact Grow.refl _
        | 2, _ =>
          obtain rfl := Option.some.inj ho
          have d1 := hdep 1 (by decide +kernel)
          simp [slotOf, dstOf] at d1
          simp [opYields, go_sem, d1, f2]
          exact Grow.refl _
        | 3, _ =>
          obtain rfl := Option.some.inj ho
          have d2 := hdep 2 (by decide +kernel)
          simp [slotOf, dstOf] at d2
          simp [opYields, go_sem, d2]
          refine (readSeries_any w2 b (by omega)).mono ?_
          rintro e w3 ⟨hb, (⟨x, _, _, hr, _⟩|⟨_, rfl⟩)⟩
          rw [HR.out] at hr; cases hr
          exact ⟨rfl, hG'.trans hb⟩
        | 4, _ => exact (hdep 3 (by decide +kernel)).elim
    | some y =>
      have HR := hide hr
      clear hr
      refine wp_region_free 5 12 Tryz.mixed2 rfl (by decide +kernel) Grow (fun _ _ _ => Grow.trans) (Grow.refl _)
        (fun i v wq => match i with
          | 0 => v = .slice ao x.length cp
          | 1 => v = .pointer (some ⟨w.heap.size, 2, none⟩)
          | 2 => v = .string (bs b)
          | 3 => ∃ a1 c1 a2 c2, v = .agg #[.slice a1 y.1.length c1, .slice a2 y.2.length c2] ∧ ownLabels wq B (.slice a1 y.1.length c1) y.1 ∧ ownSamples wq B (.slice a2 y.2.length c2) y.2
          | _ => ∃ g a1 c1 a2 c2, v = .slice (some ⟨g, 0, none⟩) 1 1 ∧ wq.heap[g]? = some (.cells #[.slice a1 y.1.length c1, .slice a2 y.2.length c2] 41 (0, 0)) ∧ ownLabels wq B (.slice a1 y.1.length c1) y.1 ∧ ownSamples wq B (.slice a2 y.2.length c2) y.2)
        (fun i v w1 w2 h hg => ?_) (fun ch w2 => False) (fun ch a w2 hd hq => hq.elim) (fun i hi o ho a w2 hG hoff hdep => ?_) (fun vals w2 hG hvals => ?_)
      · match i, h with
        | 0, h => exact h
        | 1, h => exact h
        | 2, h => exact h
        | 3, ⟨a1, c1, a2, c2, h1, h2, h3⟩ => exact ⟨a1, c1, a2, c2, h1, own_grow h2 hg, own_grow h3 hg⟩
        | i + 4, ⟨g, a1, c1, a2, c2, h1, h2, h3, h4⟩ => exact ⟨g, a1, c1, a2, c2, h1, hg.get h2, own_grow h3 hg, own_grow h4 hg⟩
      · have hG' : Grow w w2 := h0.trans ⟨by rw [HW.out]; exact hG.os, by rw [HW.out]; exact hG.tape, by rw [HW.out]; exact hG.output, by rw [HW.out]; exact hG.size, by rw [HW.out]; exact hG.block⟩
        have hfb2 : w2.heap[w.heap.size]? = some (.cells #[.int .u64 h, .int .u64 n, .string (bs b)] 133 (0, 0)) := by
          have := hG.get (b := w.heap.size) (by rw [← HW.out]; exact hfb)
          exact this
        have x0 := cell_of_one (hG'.get hx)
        obtain ⟨f0, f1, f2, _⟩ := three_cells hfb2
        have hBs : B ≤ w2.heap.size := by have := hG'.size; omega
        match i, hi with
        | 0, _ =>
          obtain rfl := Option.some.inj ho
          have o1 := hoff 1 (by decide +kernel)
          simp at o1
          simp [opYields, go_sem, o1, x0]
          exact Grow.refl _
        | 1, _ =>
          obtain rfl := Option.some.inj ho
          have o2 := hoff 2 (by decide +kernel)
          simp at o2
          simp [opYields, go_sem, o2]
          exact Grow.refl _
        | 2, _ =>
          obtain rfl := Option.some.inj ho
          have d1 := hdep 1 (by decide +kernel)
          simp [slotOf, dstOf] at d1
          simp [opYields, go_sem, d1, f2]
          exact Grow.refl _
        | 3, _ =>
          obtain rfl := Option.some.inj ho
          have d2 := hdep 2 (by decide +kernel)
          simp [slotOf, dstOf] at d2
          simp [opYields, go_sem, d2]
          refine (readSeries_any w2 b (by omega)).mono ?_
          rintro e w3 ⟨hb, (⟨y', v1, v2, hr, rfl, k1, k2⟩|⟨hr, rfl⟩)⟩
          · (rw [HR.out] at hr; cases hr; obtain ⟨a1, c1, rfl⟩ := own_shape k1; obtain ⟨a2, c2, rfl⟩ := own_shape k2; exact ⟨hb, a1, c1, a2, c2, rfl, own_le k1 hBs, own_le k2 hBs⟩)
          · rw [HR.out] at hr; cases hr
        | 4, _ =>
          obtain rfl := Option.some.inj ho
          have d3 := hdep 3 (by decide +kernel)
          simp [slotOf, dstOf] at d3
          obtain ⟨a1, c1, a2, c2, g1, g2, g3⟩ := d3
          simp [opYields, go_sem, g1]
          exact ⟨(Grow.refl _).alloc _, a1, c1, a2, c2, (Array.getElem?_eq_some_iff.1 (heap_alloc_new _ _)).2, own_grow g2 ((Grow.refl _).alloc _), own_grow g3 ((Grow.refl _).alloc _)⟩
      · have hG' : Grow w w2 := h0.trans ⟨by rw [HW.out]; exact hG.os, by rw [HW.out]; exact hG.tape, by rw [HW.out]; exact hG.output, by rw [HW.out]; exact hG.size, by rw [HW.out]; exact hG.block⟩
        have d0 := hvals 0 (by omega)
        have d1 := hvals 1 (by omega)
        have d2 := hvals 2 (by omega)
        obtain ⟨_, _, _, _, d3, _, _⟩ := hvals 3 (by omega)
        obtain ⟨g, a1, c1, a2, c2, d4, hg2, k1, k2⟩ := hvals 4 (by omega)
        simp only at d0 d1 d2 d3
        clear hvals hfb
        have hx2 := hG'.get hx
        have hrow' := own_grow hrow hG'
        have hne := own_apart hrow' hx2 (by decide)
        obtain ⟨i0, hi0, hz0, hz1, hz2⟩ := info_parts Tryz.infoE
        obtain ⟨g0, g1⟩ := two_cells hg2
        simp [over, dstOf, Act.put, d0, d1, d2, d3, d4]
        refine wpList_append_own _ rfl _ _ 22 rfl B 41 i0 _ 2 48 Tryz.underlying22 hi0 hz0 hz1 hz2 rfl (by omega) _ x.length (pairCells vs) rfl hrow' ⟨g, 0, none⟩ 1 1 [.slice a1 y.1.length c1, .slice a2 y.2.length c2] rfl rfl (fun j u hu => by match j, hu with | 0, hu => simp at hu; subst hu; rw [Addr.add_lit]; simpa using g0 | 1, hu => simp at hu; subst hu; rw [Addr.add_lit]; simpa using g1) (by simp [Value.oneCell']) (by unfold maxLen; omega) (by omega) (by have := hG'.size; omega) ?_
        intro v' w3 hown' hgrow _
        obtain ⟨ao', cp', rfl⟩ := own_shape hown'
        have hx3 := grown_block hgrow hx2 hne
        have y0 := cell_of_one hx3
        have z0 := free_of_one hx3
        simp
        go_wp2
        go_end0
        have hbel : Below B w2 w3 := (Below.refl B w2).grown hgrow (by have := hG'.size; omega) (fun k hk => (hrow'.lt k hk).1)
        have hmore : ownSeries w3 B (.slice ao' (x.length + 1) cp') (x ++ [y]) := ownSeries_more hvl hrow' (fun i a s h1 h2 => ⟨own_grow (hall i a s h1 h2).1 hG', own_grow (hall i a s h1 h2).2 hG'⟩) hgrow hown' k1 k2
        refine ⟨(((keptX_of (hG'.mono hB)).trans (keptX_of hbel)).setAt _ _), .inl ⟨by simp [allOk, M.out, HR.out], rfl, ?_⟩⟩
        have e : allStep x (h, n, b) = x ++ [y] := by simp [allStep, M.out, HR.out]
        rw [e]
        exact ⟨by have h1 := hG'.size; have h2 := hbel.size; simp [World.setCell]; omega, .slice ao' (x.length + 1) cp', set_block hx3 _, ownSeries_setCell hmore hx3 (by decide) (by decide) (by decide)⟩
  · have t1 : ((h : Int) == 10) = false := by rw [beq_eq_false_iff_ne]; omega
    have M := hide m1
    clear m1
    go_wp2
    go_end0
    rw [← HW.out]
    refine ⟨keptX_of (h0.mono hB), .inl ⟨?_, rfl, ?_⟩⟩
    · simp only [allOk, M.out, if_false]
    · simp only [allStep, M.out, if_false]
      exact allAt_grow ⟨hB, _, hx, ho⟩ h0

/-- A text tells series. -/
def allOf (l : List Fld) : List Ser := l.foldl allStep []
theorem allOf_snoc (d : List Fld) (f : Fld) : allOf (d ++ [f]) = allStep (allOf d) f := by simp [allOf]
def allRead (s : List UInt8) : Option (List Ser) := if fieldsOk allOk s = true then some (allOf (fields s).1) else none
theorem allStep_len (x : List Ser) (f : Fld) : (allStep x f).length ≤ x.length + 1 := by
  unfold allStep
  split
  · split <;> simp
  · simp
theorem allOf_len : ∀ (d : List Fld) (x : List Ser), (d.foldl allStep x).length ≤ x.length + d.length
  | [], x => by simp
  | f :: d, x => by
    have h1 := allOf_len d (allStep x f)
    have h2 := allStep_len x f
    simp only [List.foldl_cons, List.length_cons]
    omega

set_option maxRecDepth 20000 in
set_option maxHeartbeats 2000000 in
theorem readAll_any (w : World) (s : List UInt8) (hs : s.length ≤ 1000000) :
    Calls Tryz.prog 84 #[.string (bs s)] w fun e w' => Below w.heap.size w w' ∧
      ((∃ x v, allRead s = some x ∧ e = .returned v ∧ ownSeries w' w.heap.size v x) ∨ (allRead s = none ∧ e = gaveUp 1)) := by
  have hcf : ∀ (args : Array Value) (w : World), (callFunc 108 args).run Tryz.prog w = .ok (.enter 108 args) w := fun args w => by simp [go_sem]
  have hW0 : Below w.heap.size w (w.alloc (.cells #[.slice none 0 0] 22)) := (Below.refl _ _).alloc (Nat.le_refl _) _
  have HE := hide (eachField_any s (w.alloc (.cells #[.slice none 0 0] 22)) 108 #[.pointer (some ⟨w.heap.size, 0, none⟩)]
    (fun d wi => Below w.heap.size w wi ∧ allAt wi (w.heap.size + 1) w.heap.size (allOf d))
    allOk (fun wi => Below w.heap.size w wi) (by omega) hcf ⟨hW0, by simp, _, heap_alloc_new _ _, ownSeries_nil _ _⟩
    (fun d w1 w2 ⟨h1, h3⟩ hg => ⟨h1.trans (hg.mono h1.size), allAt_grow h3 hg⟩)
    (fun d w1 h => h.1)
    (fun d f w1 ⟨h1, h3⟩ _ hn hf hd => (readAll1_any w1 (w.heap.size + 1) w.heap.size (allOf d) f h3 (by have := allOf_len d []; simp at this; show (d.foldl allStep []).length ≤ _; omega) (by omega)).mono fun e w2 ⟨hk, h⟩ => by
      have hb2 : Below w.heap.size w w2 := h1.trans (hk.below (by omega) (by omega))
      rcases h with ⟨h4, h5, h6⟩ | ⟨h4, h5⟩
      · exact .inl ⟨h4, h5, hb2, by rw [allOf_snoc]; exact h6⟩
      · exact .inr ⟨h4, h5, hb2⟩))
  clear hW0
  go_enter Tryz.func84, Tryz.ntmps84
  go_wp2_with fail
  refine HE.out.mono ?_
  clear HE hcf
  rintro e w1 (⟨hok, rfl, hb1, h3⟩ | ⟨hok, rfl, hb1⟩)
  · have HOk : Hid (allRead s = some (allOf (fields s).1)) := by
      show _ = _
      simp [allRead, hok]
    clear hok
    generalize allOf (fields s).1 = x at *
    obtain ⟨h4, v, h5, h6⟩ := h3
    obtain ⟨ao, cp, rfl⟩ : ∃ ao cp, v = .slice ao x.length cp := by obtain ⟨vs, _, hr, _⟩ := h6; exact own_shape hr
    have c0 := cell_of_one h5
    go_wp2
    go_ret
    refine ⟨hb1, .inl ⟨x, _, HOk.out, rfl, ?_⟩⟩
    obtain ⟨vs, hl, hr, hall⟩ := h6
    exact ⟨vs, hl, own_le hr (by omega), fun i a b h1 h2 => ⟨own_le (hall i a b h1 h2).1 (by omega), own_le (hall i a b h1 h2).2 (by omega)⟩⟩
  · have HOk : Hid (allRead s = none) := by
      show _ = _
      simp [allRead, hok]
    exact ⟨rfl, hb1, .inr ⟨HOk.out, rfl⟩⟩

end Go.Proofs.YtmdakfmecfcbhaaGreat
