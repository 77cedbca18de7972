/- 7 texts in one. -/
import Derived.Test.YtmdakfmecfcbhaaGreatProg
import Derived.Test.YtmdakfmecfcbhaaGreatK7e06493
import Derived.Test.YtmdakfmecfcbhaaGreatK85cc7d6
import Derived.Test.YtmdakfmecfcbhaaGreatK8ae92a4
import Derived.Test.YtmdakfmecfcbhaaGreatK2326a0d
import Derived.Test.YtmdakfmecfcbhaaGreatKb59da35
set_option linter.unusedVariables false
set_option linter.unusedSimpArgs false
namespace Go.Proofs.YtmdakfmecfcbhaaGreat
open Go.RowKit
attribute [local go_sem] bs_size bs_toList bs_append bs_get bs_extract
/-- Series that are being read, in a block. -/
def allAt (w : World) (B xb : Nat) (x : List Ser) : Prop :=
  B ≤ w.heap.size ∧ ∃ v, w.heap[xb]? = some (.cells #[v] 22 (0, 0)) ∧ ownSeries w B v x
theorem allAt_grow {w w' : World} {B xb : Nat} {x : List Ser} (h : allAt w B xb x) (hg : Grow w w') : allAt w' B xb x := by
  obtain ⟨h0, v1, h1, h2⟩ := h
  exact ⟨by have := hg.size; omega, v1, hg.get h1, ownSeries_grow h2 hg⟩
def allStep (x : List Ser) (f : Fld) : List Ser := if f.1 = 10 then (match serRead f.2.2 with | some a => x ++ [a] | none => x) else x
def allOk (f : Fld) : Bool := if f.1 = 10 then (serRead f.2.2).isSome else true
/-- One series more, in the row that a call owns. -/
theorem ownSeries_more {w w' : World} {B : Nat} {v v' : Value} {ls : List Ser} {x : Ser} {y1 y2 : Value} {vs : List (Value × Value)} (hl : vs.length = ls.length)
    (hrow : w.ownsRow B 41 2 v ls.length (pairCells vs))
    (hall : ∀ (i : Nat) (x : Value × Value) (s : Ser), vs[i]? = some x → ls[i]? = some s → ownLabels w B x.1 s.1 ∧ ownSamples w B x.2 s.2)
    (hg : w.grownBy w' v.ownBlock) (hown : w'.ownsRow B 41 2 v' (ls.length + 1) (pairCells vs ++ [y1, y2])) (h1 : ownLabels w B y1 x.1) (h2 : ownSamples w B y2 x.2) : ownSeries w' B v' (ls ++ [x]) := by
  have kl : ∀ y l, ownLabels w B y l → ownLabels w' B y l := fun y l h => World.ownsRow.kept h hg (own_two h hrow (by decide))
  have ks : ∀ y l, ownSamples w B y l → ownSamples w' B y l := fun y l h => World.ownsRow.kept h hg (own_two h hrow (by decide))
  refine ⟨vs ++ [(y1, y2)], by simp [hl], ?_, ?_⟩
  · rw [pairCells_snoc, List.length_append]; exact hown
  · intro i a s ha hs
    by_cases hi : i < ls.length
    · rw [List.getElem?_append_left (by omega)] at ha hs
      exact ⟨kl _ _ (hall i a s ha hs).1, ks _ _ (hall i a s ha hs).2⟩
    · have e : i = ls.length := by
        have := (List.getElem?_eq_some_iff.1 hs).1
        simp at this; omega
      subst e
      rw [List.getElem?_append_right (by omega)] at ha hs
      simp [hl] at ha hs
      subst ha
      subst hs
      exact ⟨kl _ _ h1, ks _ _ h2⟩
theorem ownSeries_setCell {w : World} {B b : Nat} {v u : Value} {ls : List Ser} {c : Array Value} {t : TypeId} {i : Nat} (h : ownSeries w B v ls) (hb : w.heap[b]? = some (.cells c t (0, 0))) (h1 : 41 ≠ t) (h2 : 62 ≠ t) (h3 : 48 ≠ t) : ownSeries (w.setCell ⟨b, i, none⟩ u) B v ls := by
  obtain ⟨vs, hl, hr, hall⟩ := h
  exact ⟨vs, hl, ownsRow_setCell_other (a := ⟨b, i, none⟩) hr (own_apart hr hb h1) _, fun i x s hx hs =>
    ⟨ownsRow_setCell_other (hall i x s hx hs).1 (own_apart (hall i x s hx hs).1 hb h2) _, ownsRow_setCell_other (hall i x s hx hs).2 (own_apart (hall i x s hx hs).2 hb h3) _⟩⟩
set_option maxRecDepth 20000 in
set_option maxHeartbeats 4000000 in
theorem readAll1_any (w : World) (B xb : Nat) (x : List Ser) (f : Fld) (hx : allAt w B xb x) (hl1 : x.length ≤ 1000000) (hf : f.2.2.length ≤ 1000000) :
    Calls Tryz.prog 108 #[fldV f, .pointer (some ⟨xb, 0, none⟩)] w fun e w' => KeptX B xb w w' ∧
      ((allOk f = true ∧ e = .returned (.tuple #[]) ∧ allAt w' B xb (allStep x f)) ∨ (allOk f = false ∧ e = gaveUp 1)) := by
  obtain ⟨h, n, b⟩ := f
  obtain ⟨hB, v, hx, ho⟩ := hx
  obtain ⟨vs, hvl, hrow, hall⟩ := id ho
  obtain ⟨ao, cp, rfl⟩ := own_shape hrow
  have hxlt := lt_of_block hx
  have h0 : Grow w (w.alloc (.cells #[.int .u64 h, .int .u64 n, .string (bs b)] 133)) := (Below.refl _ _).alloc (Nat.le_refl _) _
  obtain ⟨W, HW⟩ : ∃ W, Hid (W = w.alloc (.cells #[.int .u64 h, .int .u64 n, .string (bs b)] 133)) := ⟨_, hide rfl⟩
  have hfb : W.heap[w.heap.size]? = some (.cells #[.int .u64 h, .int .u64 n, .string (bs b)] 133 (0, 0)) := by
    rw [HW.out]; exact heap_alloc_new _ _
  unfold fldV
  go_enter Tryz.func108, Tryz.ntmps108
  rw [← HW.out] at h0
  by_cases m1 : h = 10
  · have t1 : ((h : Int) == 10) = true := by rw [beq_iff_eq]; omega
    have M := hide m1
    clear m1
    go_wp2
    have hbz : b.length ≤ 1000000 := hf
    cases hr : serRead b with
    | none =>
      have HR := hide hr
      clear hr
      refine wp_region_free 5 12 Tryz.mixed2 rfl (by decide +kernel) Grow (fun _ _ _ => Grow.trans) (Grow.refl _)
        (fun i v wq => match i with
          | 1 => v = .pointer (some ⟨w.heap.size, 2, none⟩)
          | 2 => v = .string (bs b)
          | 3 => False
          | _ => True)
        (fun i v w w' h hg => h) (fun ch w2 => Ending.panicked ch = gaveUp 1 ∧ Grow w w2) (fun ch a w2 hd hq => ?_) (fun i hi o ho a w2 hG hoff hdep => ?_) (fun vals w2 hG hvals => (hvals 3 (by omega)).elim)
      · obtain ⟨hq1, hq2⟩ := hq
        simp only [Ending.panicked.injEq] at hq1
        subst hq1
        exact ⟨hd, keptX_of (hq2.mono hB), .inr ⟨by simp [allOk, M.out, HR.out], rfl⟩⟩
      · have hG' : Grow w w2 := h0.trans ⟨by rw [HW.out]; exact hG.os, by rw [HW.out]; exact hG.tape, by rw [HW.out]; exact hG.output, by rw [HW.out]; exact hG.size, by rw [HW.out]; exact hG.block⟩
        have hfb2 : w2.heap[w.heap.size]? = some (.cells #[.int .u64 h, .int .u64 n, .string (bs b)] 133 (0, 0)) := by
          have := hG.get (b := w.heap.size) (by rw [← HW.out]; exact hfb)
          exact this
        have x0 := cell_of_one (hG'.get hx)
        obtain ⟨f0, f1, f2, _⟩ := three_cells hfb2
        match i, hi with
        | 0, _ =>
          obtain rfl := Option.some.inj ho
          have o1 := hoff 1 (by decide +kernel)
          simp at o1
          simp [opYields, go_sem, o1, x0]
          exact Grow.refl _
        | 1, _ =>
          obtain rfl := Option.some.inj ho
          have o2 := hoff 2 (by decide +kernel)
          simp at o2
          simp [opYields, go_sem, o2]
          exact Grow.refl _
        | 2, _ =>
          obtain rfl := Option.some.inj ho
          have d1 := hdep 1 (by decide +kernel)
          simp [slotOf, dstOf] at d1
          simp [opYields, go_sem, d1, f2]
          exact Grow.refl _
        | 3, _ =>
          obtain rfl := Option.some.inj ho
          have d2 := hdep 2 (by decide +kernel)
          simp [slotOf, dstOf] at d2
          simp [opYields, go_sem, d2]
          refine (readSeries_any w2 b (by omega)).mono ?_
          rintro e w3 ⟨hb, (⟨x, _, _, hr, _⟩|⟨_, rfl⟩)⟩
          rw [HR.out] at hr; cases hr
          exact ⟨rfl, hG'.trans hb⟩
        | 4, _ => exact (hdep 3 (by decide +kernel)).elim
    | some y =>
      have HR := hide hr
      clear hr
      refine wp_region_free 5 12 Tryz.mixed2 rfl (by decide +kernel) Grow (fun _ _ _ => Grow.trans) (Grow.refl _)
        (fun i v wq => match i with
          | 0 => v = .slice ao x.length cp
          | 1 => v = .pointer (some ⟨w.heap.size, 2, none⟩)
          | 2 => v = .string (bs b)
          | 3 => ∃ a1 c1 a2 c2, v = .agg #[.slice a1 y.1.length c1, .slice a2 y.2.length c2] ∧ ownLabels wq B (.slice a1 y.1.length c1) y.1 ∧ ownSamples wq B (.slice a2 y.2.length c2) y.2
          | _ => ∃ g a1 c1 a2 c2, v = .slice (some ⟨g, 0, none⟩) 1 1 ∧ wq.heap[g]? = some (.cells #[.slice a1 y.1.length c1, .slice a2 y.2.length c2] 41 (0, 0)) ∧ ownLabels wq B (.slice a1 y.1.length c1) y.1 ∧ ownSamples wq B (.slice a2 y.2.length c2) y.2)
        (fun i v w1 w2 h hg => ?_) (fun ch w2 => False) (fun ch a w2 hd hq => hq.elim) (fun i hi o ho a w2 hG hoff hdep => ?_) (fun vals w2 hG hvals => ?_)
      · match i, h with
        | 0, h => exact h
        | 1, h => exact h
        | 2, h => exact h
        | 3, ⟨a1, c1, a2, c2, h1, h2, h3⟩ => exact ⟨a1, c1, a2, c2, h1, own_grow h2 hg, own_grow h3 hg⟩
        | i + 4, ⟨g, a1, c1, a2, c2, h1, h2, h3, h4⟩ => exact ⟨g, a1, c1, a2, c2, h1, hg.get h2, own_grow h3 hg, own_grow h4 hg⟩
      · have hG' : Grow w w2 := h0.trans ⟨by rw [HW.out]; exact hG.os, by rw [HW.out]; exact hG.tape, by rw [HW.out]; exact hG.output, by rw [HW.out]; exact hG.size, by rw [HW.out]; exact hG.block⟩
        have hfb2 : w2.heap[w.heap.size]? = some (.cells #[.int .u64 h, .int .u64 n, .string (bs b)] 133 (0, 0)) := by
          have := hG.get (b := w.heap.size) (by rw [← HW.out]; exact hfb)
          exact this
        have x0 := cell_of_one (hG'.get hx)
        obtain ⟨f0, f1, f2, _⟩ := three_cells hfb2
        have hBs : B ≤ w2.heap.size := by have := hG'.size; omega
        match i, hi with
        | 0, _ =>
          obtain rfl := Option.some.inj ho
          have o1 := hoff 1 (by decide +kernel)
          simp at o1
          simp [opYields, go_sem, o1, x0]
          exact Grow.refl _
        | 1, _ =>
          obtain rfl := Option.some.inj ho
          have o2 := hoff 2 (by decide +kernel)
          simp at o2
          simp [opYields, go_sem, o2]
          exact Grow.refl _
        | 2, _ =>
          obtain rfl := Option.some.inj ho
          have d1 := hdep 1 (by decide +kernel)
          simp [slotOf, dstOf] at d1
          simp [opYields, go_sem, d1, f2]
          exact Grow.refl _
        | 3, _ =>
          obtain rfl := Option.some.inj ho
          have d2 := hdep 2 (by decide +kernel)
          simp [slotOf, dstOf] at d2
          simp [opYields, go_sem, d2]
          refine (readSeries_any w2 b (by omega)).mono ?_
          rintro e w3 ⟨hb, (⟨y', v1, v2, hr, rfl, k1, k2⟩|⟨hr, rfl⟩)⟩
          · (rw [HR.out] at hr; cases hr; obtain ⟨a1, c1, rfl⟩ := own_shape k1; obtain ⟨a2, c2, rfl⟩ := own_shape k2; exact ⟨hb, a1, c1, a2, c2, rfl, own_le k1 hBs, own_le k2 hBs⟩)
          · rw [HR.out] at hr; cases hr
        | 4, _ =>
          obtain rfl := Option.some.inj ho
          have d3 := hdep 3 (by decide +kernel)
          simp [slotOf, dstOf] at d3
          obtain ⟨a1, c1, a2, c2, g1, g2, g3⟩ := d3
          simp [opYields, go_sem, g1]
          exact ⟨(Grow.refl _).alloc _, a1, c1, a2, c2, (Array.getElem?_eq_some_iff.1 (heap_alloc_new _ _)).2, own_grow g2 ((Grow.refl _).alloc _), own_grow g3 ((Grow.refl _).alloc _)⟩
      · have hG' : Grow w w2 := h0.trans ⟨by rw [HW.out]; exact hG.os, by rw [HW.out]; exact hG.tape, by rw [HW.out]; exact hG.output, by rw [HW.out]; exact hG.size, by rw [HW.out]; exact hG.block⟩
        have d0 := hvals 0 (by omega)
        have d1 := hvals 1 (by omega)
        have d2 := hvals 2 (by omega)
        obtain ⟨_, _, _, _, d3, _, _⟩ := hvals 3 (by omega)
        obtain ⟨g, a1, c1, a2, c2, d4, hg2, k1, k2⟩ := hvals 4 (by omega)
        simp only at d0 d1 d2 d3
        clear hvals hfb
        have hx2 := hG'.get hx
        have hrow' := own_grow hrow hG'
        have hne := own_apart hrow' hx2 (by decide)
        obtain ⟨i0, hi0, hz0, hz1, hz2⟩ := info_parts Tryz.infoE
        obtain ⟨g0, g1⟩ := two_cells hg2
        simp [over, dstOf, Act.put, d0, d1, d2, d3, d4]
        refine wpList_append_own _ rfl _ _ 22 rfl B 41 i0 _ 2 48 Tryz.underlying22 hi0 hz0 hz1 hz2 rfl (by omega) _ x.length (pairCells vs) rfl hrow' ⟨g, 0, none⟩ 1 1 [.slice a1 y.1.length c1, .slice a2 y.2.length c2] rfl rfl (fun j u hu => by match j, hu with | 0, hu => simp at hu; subst hu; rw [Addr.add_lit]; simpa using g0 | 1, hu => simp at hu; subst hu; rw [Addr.add_lit]; simpa using g1) (by simp [Value.oneCell']) (by unfold maxLen; omega) (by omega) (by have := hG'.size; omega) ?_
        intro v' w3 hown' hgrow _
        obtain ⟨ao', cp', rfl⟩ := own_shape hown'
        have hx3 := grown_block hgrow hx2 hne
        have y0 := cell_of_one hx3
        have z0 := free_of_one hx3
        simp
        go_wp2
        go_end0
        have hbel : Below B w2 w3 := (Below.refl B w2).grown hgrow (by have := hG'.size; omega) (fun k hk => (hrow'.lt k hk).1)
        have hmore : ownSeries w3 B (.slice ao' (x.length + 1) cp') (x ++ [y]) := ownSeries_more hvl hrow' (fun i a s h1 h2 => ⟨own_grow (hall i a s h1 h2).1 hG', own_grow (hall i a s h1 h2).2 hG'⟩) hgrow hown' k1 k2
        refine ⟨(((keptX_of (hG'.mono hB)).trans (keptX_of hbel)).setAt _ _), .inl ⟨by simp [allOk, M.out, HR.out], rfl, ?_⟩⟩
        have e : allStep x (h, n, b) = x ++ [y] := by simp [allStep, M.out, HR.out]
        rw [e]
        exact ⟨by have h1 := hG'.size; have h2 := hbel.size; simp [World.setCell]; omega, .slice ao' (x.length + 1) cp', set_block hx3 _, ownSeries_setCell hmore hx3 (by decide) (by decide) (by decide)⟩
  · have t1 : ((h : Int) == 10) = false := by rw [beq_eq_false_iff_ne]; omega
    have M := hide m1
    clear m1
    go_wp2
    go_end0
    rw [← HW.out]
    refine ⟨keptX_of (h0.mono hB), .inl ⟨?_, rfl, ?_⟩⟩
    · simp only [allOk, M.out, if_false]
    · simp only [allStep, M.out, if_false]
      exact allAt_grow ⟨hB, _, hx, ho⟩ h0
/-- A text tells series. -/
def allOf (l : List Fld) : List Ser := l.foldl allStep []
theorem allOf_snoc (d : List Fld) (f : Fld) : allOf (d ++ [f]) = allStep (allOf d) f := by simp [allOf]
def allRead (s : List UInt8) : Option (List Ser) := if fieldsOk allOk s = true then some (allOf (fields s).1) else none
theorem allStep_len (x : List Ser) (f : Fld) : (allStep x f).length ≤ x.length + 1 := by
  unfold allStep
  split
  · split <;> simp
  · simp
theorem allOf_len : ∀ (d : List Fld) (x : List Ser), (d.foldl allStep x).length ≤ x.length + d.length
  | [], x => by simp
  | f :: d, x => by
    have h1 := allOf_len d (allStep x f)
    have h2 := allStep_len x f
    simp only [List.foldl_cons, List.length_cons]
    omega
set_option maxRecDepth 20000 in
set_option maxHeartbeats 2000000 in
theorem readAll_any (w : World) (s : List UInt8) (hs : s.length ≤ 1000000) :
    Calls Tryz.prog 84 #[.string (bs s)] w fun e w' => Below w.heap.size w w' ∧
      ((∃ x v, allRead s = some x ∧ e = .returned v ∧ ownSeries w' w.heap.size v x) ∨ (allRead s = none ∧ e = gaveUp 1)) := by
  have hcf : ∀ (args : Array Value) (w : World), (callFunc 108 args).run Tryz.prog w = .ok (.enter 108 args) w := fun args w => by simp [go_sem]
  have hW0 : Below w.heap.size w (w.alloc (.cells #[.slice none 0 0] 22)) := (Below.refl _ _).alloc (Nat.le_refl _) _
  have HE := hide (eachField_any s (w.alloc (.cells #[.slice none 0 0] 22)) 108 #[.pointer (some ⟨w.heap.size, 0, none⟩)]
    (fun d wi => Below w.heap.size w wi ∧ allAt wi (w.heap.size + 1) w.heap.size (allOf d))
    allOk (fun wi => Below w.heap.size w wi) (by omega) hcf ⟨hW0, by simp, _, heap_alloc_new _ _, ownSeries_nil _ _⟩
    (fun d w1 w2 ⟨h1, h3⟩ hg => ⟨h1.trans (hg.mono h1.size), allAt_grow h3 hg⟩)
    (fun d w1 h => h.1)
    (fun d f w1 ⟨h1, h3⟩ _ hn hf hd => (readAll1_any w1 (w.heap.size + 1) w.heap.size (allOf d) f h3 (by have := allOf_len d []; simp at this; show (d.foldl allStep []).length ≤ _; omega) (by omega)).mono fun e w2 ⟨hk, h⟩ => by
      have hb2 : Below w.heap.size w w2 := h1.trans (hk.below (by omega) (by omega))
      rcases h with ⟨h4, h5, h6⟩ | ⟨h4, h5⟩
      · exact .inl ⟨h4, h5, hb2, by rw [allOf_snoc]; exact h6⟩
      · exact .inr ⟨h4, h5, hb2⟩))
  clear hW0
  go_enter Tryz.func84, Tryz.ntmps84
  go_wp2_with fail
  refine HE.out.mono ?_
  clear HE hcf
  rintro e w1 (⟨hok, rfl, hb1, h3⟩ | ⟨hok, rfl, hb1⟩)
  · have HOk : Hid (allRead s = some (allOf (fields s).1)) := by
      show _ = _
      simp [allRead, hok]
    clear hok
    generalize allOf (fields s).1 = x at *
    obtain ⟨h4, v, h5, h6⟩ := h3
    obtain ⟨ao, cp, rfl⟩ : ∃ ao cp, v = .slice ao x.length cp := by obtain ⟨vs, _, hr, _⟩ := h6; exact own_shape hr
    have c0 := cell_of_one h5
    go_wp2
    go_ret
    refine ⟨hb1, .inl ⟨x, _, HOk.out, rfl, ?_⟩⟩
    obtain ⟨vs, hl, hr, hall⟩ := h6
    exact ⟨vs, hl, own_le hr (by omega), fun i a b h1 h2 => ⟨own_le (hall i a b h1 h2).1 (by omega), own_le (hall i a b h1 h2).2 (by omega)⟩⟩
  · have HOk : Hid (allRead s = none) := by
      show _ = _
      simp [allRead, hok]
    exact ⟨rfl, hb1, .inr ⟨HOk.out, rfl⟩⟩
theorem fieldsF_in : ∀ (k : Nat) (l : List UInt8), (fieldsF k l).1.length ≤ k ∧ ∀ f ∈ (fieldsF k l).1, f.1 < 18446744073709551616 ∧ f.2.1 < 18446744073709551616 ∧ f.2.2.length ≤ l.length
  | 0, l => by simp [fieldsF]
  | k + 1, l => by
    unfold fieldsF
    split
    · simp
    · split
      · simp
      · rename_i f r h
        have hs := oneField_shorter h
        have ih := fieldsF_in k r
        refine ⟨by simp; exact ih.1, fun g hg => ?_⟩
        rcases List.mem_cons.1 hg with rfl | hg
        · exact hs.2
        · have := ih.2 g hg
          exact ⟨this.1, this.2.1, by omega⟩
theorem fields_in (l : List UInt8) : (fields l).1.length ≤ l.length ∧ ∀ f ∈ (fields l).1, f.1 < 18446744073709551616 ∧ f.2.1 < 18446744073709551616 ∧ f.2.2.length ≤ l.length := fieldsF_in _ _
theorem fold_inv {α β : Type} (P : α → Prop) (Q : β → Prop) (g : α → β → α) (h : ∀ a b, P a → Q b → P (g a b)) : ∀ (l : List β) (a : α), P a → (∀ b ∈ l, Q b) → P (l.foldl g a)
  | [], a, ha, _ => ha
  | b :: l, a, ha, hl => fold_inv P Q g h l (g a b) (h a b ha (hl b (by simp))) fun c hc => hl c (by simp [hc])
def labIn (n : Nat) (x : Lab) : Prop := x.1.length ≤ n ∧ x.2.length ≤ n
theorem labRead_len {b : List UInt8} {a : Lab} (h : labRead b = some a) : labIn b.length a := by
  unfold labRead at h
  split at h
  · cases h
    exact fold_inv (labIn b.length) (fun f : Fld => f.2.2.length ≤ b.length) labStep (fun x f hx hf => labStep_len hx hf) _ _ ⟨Nat.zero_le _, Nat.zero_le _⟩ fun f hf => ((fields_in b).2 f hf).2.2
  · cases h
def samIn (x : Sam) : Prop := x.2 < 18446744073709551616
theorem samRead_len {b : List UInt8} {a : Sam} (h : samRead b = some a) : samIn a := by
  unfold samRead at h
  split at h
  · cases h
    refine fold_inv samIn (fun f : Fld => f.2.1 < 18446744073709551616) samStep (fun x f hx hf => ?_) _ _ (by simp [samIn]) fun f hf => ((fields_in b).2 f hf).2.1
    unfold samStep samIn
    split
    · exact hf
    · split <;> exact hx
  · cases h
def serIn (n : Nat) (x : Ser) : Prop := (∀ y ∈ x.1, labIn n y) ∧ ∀ y ∈ x.2, samIn y
theorem serRead_len {b : List UInt8} {a : Ser} (h : serRead b = some a) : serIn b.length a ∧ a.1.length ≤ b.length ∧ a.2.length ≤ b.length := by
  unfold serRead at h
  split at h
  · cases h
    refine ⟨fold_inv (serIn b.length) (fun f : Fld => f.2.2.length ≤ b.length) serStep (fun x f hx hf => ?_) _ _ ⟨by simp, by simp⟩ fun f hf => ((fields_in b).2 f hf).2.2, ?_⟩
    · unfold serStep
      split
      · split
        · rename_i a ha
          have hl := labRead_len ha
          refine ⟨fun y hy => ?_, hx.2⟩
          rcases List.mem_append.1 hy with hy | hy
          · exact hx.1 y hy
          · simp at hy
            subst hy
            exact ⟨by have := hl.1; omega, by have := hl.2; omega⟩
        · exact hx
      · split
        · split
          · rename_i a ha
            refine ⟨hx.1, fun y hy => ?_⟩
            rcases List.mem_append.1 hy with hy | hy
            · exact hx.2 y hy
            · simp at hy
              subst hy
              exact samRead_len ha
          · exact hx
        · exact hx
    · have h1 := serOf_len (fields b).1 ([], [])
      have h2 := (fields_in b).1
      simp at h1
      exact ⟨by show ((fields b).1.foldl serStep ([], [])).1.length ≤ _; omega, by show ((fields b).1.foldl serStep ([], [])).2.length ≤ _; omega⟩
  · cases h
def allIn (n : Nat) (l : List Ser) : Prop := ∀ x ∈ l, serIn n x ∧ x.1.length ≤ n ∧ x.2.length ≤ n
theorem allRead_len {b : List UInt8} {a : List Ser} (h : allRead b = some a) : allIn b.length a ∧ a.length ≤ b.length := by
  unfold allRead at h
  split at h
  · cases h
    refine ⟨fold_inv (allIn b.length) (fun f : Fld => f.2.2.length ≤ b.length) allStep (fun x f hx hf => ?_) _ _ (by simp [allIn]) fun f hf => ((fields_in b).2 f hf).2.2, ?_⟩
    · unfold allStep
      split
      · split
        · rename_i a ha
          have hl := serRead_len ha
          intro y hy
          rcases List.mem_append.1 hy with hy | hy
          · exact hx y hy
          · simp at hy
            subst hy
            exact ⟨⟨fun z hz => by have := hl.1.1 z hz; exact ⟨by have := this.1; omega, by have := this.2; omega⟩, hl.1.2⟩, by omega, by omega⟩
        · exact hx
      · exact hx
    · have h1 := allOf_len (fields b).1 []
      have h2 := (fields_in b).1
      simp at h1
      show ((fields b).1.foldl allStep []).length ≤ _
      omega
  · cases h
theorem allRead_fit {b : List UInt8} {a : List Ser} (h : allRead b = some a) (hb : b.length ≤ 1000000) : lensFit a := by
  have hl := allRead_len h
  refine ⟨by omega, fun x hx => ?_⟩
  have hx' := hl.1 x hx
  refine ⟨by omega, by omega, fun y hy => ?_⟩
  have := hx'.1.1 y hy
  exact ⟨by have := this.1; omega, by have := this.2; omega⟩
/-- The error with which a short text is read: 0 is none. -/
def rdErr (s : List UInt8) : Int := match allRead s with | none => 1 | some x => if countsB x = true then (if timesB x = true then 0 else 3) else 2
set_option maxRecDepth 20000 in
set_option maxHeartbeats 2000000 in
theorem read1_any (w : World) (sb lb : Nat) (s : List UInt8) (v0 : Value) (hsb : w.heap[sb]? = some (.cells #[.string (bs s)] 9 (0, 0))) (hlb : w.heap[lb]? = some (.cells #[v0] 22 (0, 0))) (hne : sb ≠ lb) (hs : s.length ≤ 20000) :
    Calls Tryz.prog 83 #[.pointer (some ⟨sb, 0, none⟩), .pointer (some ⟨lb, 0, none⟩)] w (worked fun err w' => err = rdErr s ∧ KeptX w.heap.size lb w w' ∧
      (rdErr s = 0 → ∃ x v, allRead s = some x ∧ w'.heap[lb]? = some (.cells #[v] 22 (0, 0)) ∧ ownSeries w' w.heap.size v x)) := by
  have hc := cell_of_one hsb
  have hlt := lt_of_block hlb
  go_enter Tryz.func83, Tryz.ntmps83
  go_wp2_with fail
  refine (readAll_any w s (by omega)).mono ?_
  rintro e w1 ⟨hb1, (⟨x, v, hr, rfl, ho⟩ | ⟨hr, rfl⟩)⟩
  · obtain ⟨ao, cp, rfl⟩ : ∃ ao cp, v = .slice ao x.length cp := by obtain ⟨vs, _, hr, _⟩ := ho; exact own_shape hr
    have hfit := hide (allRead_fit hr (by omega))
    have HR := hide hr
    clear hr
    have hl1 := below_block hb1 hlb hlt
    have z1 := free_of_one hl1
    have c1 := cell_of_one hl1
    obtain ⟨W, HW⟩ : ∃ W, Hid (W = w1.setCell ⟨lb, 0, none⟩ (.slice ao x.length cp)) := ⟨_, hide rfl⟩
    have hlW : W.heap[lb]? = some (.cells #[.slice ao x.length cp] 22 (0, 0)) := by rw [HW.out]; exact set_block hl1 _
    have hoW : ownSeries W w.heap.size (.slice ao x.length cp) x := by rw [HW.out]; exact ownSeries_setCell ho hl1 (by decide) (by decide) (by decide)
    have hkW : KeptX w.heap.size lb w W := by rw [HW.out]; exact (keptX_of hb1).setAt _ _
    have hWs := hkW.size
    have cW := cell_of_one hlW
    rw [HW.out] at cW
    clear hc
    go_wp2_with fail
    rw [← HW.out]
    clear c1
    refine (checkCounts_any W _ x (reads_ownSeries hoW) hfit.out.1 hfit.out.2).mono ?_
    clear hfit
    rintro e w2 ⟨hb2, (⟨h1, rfl⟩ | ⟨h1, rfl⟩)⟩
    · have g2 : Grow W w2 := hb2
      have hl2 := g2.get hlW
      have c2 := cell_of_one hl2
      clear cW
      go_wp2_with fail
      refine (checkTimes_any w2 _ x (reads_ownSeries (ownSeries_grow hoW g2)) h1).mono ?_
      rintro e w3 ⟨hb3, (⟨h2, rfl⟩ | ⟨h2, rfl⟩)⟩
      · have g3 : Grow W w3 := g2.trans hb3
        have he : rdErr s = 0 := by
          have := (countsB_iff x).1 h1; have := (timesB_iff x).1 h2
          simp [rdErr, HR.out, *]
        go_wp2
        go_end0
        exact .inl ⟨rfl, he.symm, hkW.trans (keptX_of (g3.mono hWs)), fun _ => ⟨x, _, HR.out, g3.get hlW, ownSeries_grow hoW g3⟩⟩
      · have g3 : Grow W w3 := g2.trans hb3
        have he : rdErr s = 3 := by
          have := (countsB_iff x).1 h1; have h2' := mt (timesB_iff x).2 h2
          simp [rdErr, HR.out, *]
        exact ⟨rfl, .inr ⟨3, rfl, he.symm, hkW.trans (keptX_of (g3.mono hWs)), fun h => by rw [he] at h; simp at h⟩⟩
    · have g2 : Grow W w2 := hb2
      have he : rdErr s = 2 := by
        have h1' := mt (countsB_iff x).2 h1
        simp [rdErr, HR.out, *]
      exact ⟨rfl, .inr ⟨2, rfl, he.symm, hkW.trans (keptX_of (g2.mono hWs)), fun h => by rw [he] at h; simp at h⟩⟩
  · have he : rdErr s = 1 := by simp [rdErr, hr]
    exact ⟨rfl, .inr ⟨1, rfl, he.symm, keptX_of hb1, fun h => by rw [he] at h; simp at h⟩⟩
/-- The error of Read: 0 is none. -/
def readErr (s : List UInt8) : Int := if s.length ≤ 20000 then rdErr s else 2
set_option maxRecDepth 20000 in
set_option maxHeartbeats 2000000 in
theorem read_any (w : World) (s : List UInt8) (hs : s.length ≤ 9223372036854775807) :
    Calls Tryz.prog 55 #[.string (bs s)] w fun e w' => Below w.heap.size w w' ∧
      ((readErr s = 0 ∧ ∃ x v, allRead s = some x ∧ e = .returned (.tuple #[v, .int .i64 0]) ∧ ownSeries w' w.heap.size v x) ∨ (readErr s ≠ 0 ∧ e = .returned (.tuple #[.slice none 0 0, .int .i64 (readErr s)]))) := by
  have hcf : ∀ (args : Array Value) (w : World), (callFunc 83 args).run Tryz.prog w = .ok (.enter 83 args) w := fun args w => by simp [go_sem]
  have hBox : Below w.heap.size w (w.alloc (.cells #[.string (bs s)] 9)) := (Below.refl _ _).alloc (Nat.le_refl _) _
  by_cases hlen : s.length ≤ 20000
  · obtain ⟨W, HW⟩ : ∃ W, Hid (W = ((w.alloc (.cells #[.string (bs s)] 9)).alloc (.cells #[.slice none 0 0] 22)).alloc (.cells #[.int .i64 0] 24)) := ⟨_, hide rfl⟩
    have h0 : Below w.heap.size w W := by rw [HW.out]; exact (hBox.alloc (by simp) _).alloc (by simp; omega) _
    have hWs : W.heap.size = w.heap.size + 3 := by rw [HW.out]; simp
    have g0 : W.heap[w.heap.size]? = some (.cells #[.string (bs s)] 9 (0, 0)) := by
      rw [HW.out, Below.heap_alloc _ _ _ (by simp; omega), Below.heap_alloc _ _ _ (by simp)]; exact heap_alloc_new _ _
    have g1 : W.heap[w.heap.size + 1]? = some (.cells #[.slice none 0 0] 22 (0, 0)) := by
      rw [HW.out, Below.heap_alloc _ _ _ (by simp)]
      have := heap_alloc_new (w.alloc (.cells #[.string (bs s)] 9)) (.cells #[.slice none 0 0] 22)
      simpa using this
    have g2 : W.heap[w.heap.size + 2]? = some (.cells #[.int .i64 0] 24 (0, 0)) := by
      rw [HW.out]
      have := heap_alloc_new ((w.alloc (.cells #[.string (bs s)] 9)).alloc (.cells #[.slice none 0 0] 22)) (.cells #[.int .i64 0] 24)
      simpa using this
    have HR := hide ((read1_any W w.heap.size (w.heap.size + 1) s _ g0 g1 (by omega) hlen).mono fun e w' h => (show worked (fun err w' => (err = rdErr s ∧ Below w.heap.size w w' ∧ w'.heap[w.heap.size + 2]? = some (.cells #[.int .i64 0] 24 (0, 0)) ∧ (rdErr s = 0 → ∃ x v, allRead s = some x ∧ w'.heap[w.heap.size + 1]? = some (.cells #[v] 22 (0, 0)) ∧ ownSeries w' (w.heap.size + 3) v x)) ∧ w'.heap[((w.alloc (.cells #[.string (bs s)] 9)).alloc (.cells #[.slice none 0 0] 22)).heap.size]? = some (.cells #[.int .i64 0] 24 (0, 0))) e w' from by
      have key : ∀ err w', (err = rdErr s ∧ KeptX W.heap.size (w.heap.size + 1) W w' ∧ (rdErr s = 0 → ∃ x v, allRead s = some x ∧ w'.heap[w.heap.size + 1]? = some (.cells #[v] 22 (0, 0)) ∧ ownSeries w' W.heap.size v x)) →
          (err = rdErr s ∧ Below w.heap.size w w' ∧ w'.heap[w.heap.size + 2]? = some (.cells #[.int .i64 0] 24 (0, 0)) ∧ (rdErr s = 0 → ∃ x v, allRead s = some x ∧ w'.heap[w.heap.size + 1]? = some (.cells #[v] 22 (0, 0)) ∧ ownSeries w' (w.heap.size + 3) v x)) ∧ w'.heap[((w.alloc (.cells #[.string (bs s)] 9)).alloc (.cells #[.slice none 0 0] 22)).heap.size]? = some (.cells #[.int .i64 0] 24 (0, 0)) := by
        rintro err w' ⟨e1, e2, e3⟩
        have e4 := e2.get g2 (by omega) (by omega)
        exact ⟨⟨e1, h0.trans (e2.below (by omega) (by omega)), e4, fun h => by rw [← hWs]; exact e3 h⟩, by simpa using e4⟩
      rcases h with ⟨rfl, hR⟩ | ⟨err, rfl, hR⟩
      · exact .inl ⟨rfl, key _ _ hR⟩
      · exact .inr ⟨err, rfl, key _ _ hR⟩))
    rw [HW.out] at HR
    clear g0 g1 g2 h0 hWs HW
    have hcs : (w.alloc (.cells #[.string (bs s)] 9)).cell? ⟨w.heap.size, 0, none⟩ = some (.string (bs s)) := cell_of_one (heap_alloc_new _ _)
    have hz : readErr s = rdErr s := by simp [readErr, hlen]
    rw [hz]
    go_enter Tryz.func55, Tryz.ntmps55
    go_wp2_with fail
    refine (attempt_any _ 83 _ (fun err w' => err = rdErr s ∧ Below w.heap.size w w' ∧ w'.heap[w.heap.size + 2]? = some (.cells #[.int .i64 0] 24 (0, 0)) ∧ (rdErr s = 0 → ∃ x v, allRead s = some x ∧ w'.heap[w.heap.size + 1]? = some (.cells #[v] 22 (0, 0)) ∧ ownSeries w' (w.heap.size + 3) v x)) hcf HR.out).mono ?_
    clear HR hcf
    rintro e w2 ⟨err, w1, rfl, ⟨herr, hb, hg, hW⟩, hw2⟩
    have hb2 : Below w.heap.size w w2 := by rw [hw2]; exact hb.setCell (by simp; omega) _
    by_cases h : rdErr s = 0
    · obtain ⟨x, v, hr, hlv, how⟩ := hW h
      have hlv2 : w2.heap[w.heap.size + 1]? = some (.cells #[v] 22 (0, 0)) := by
        rw [hw2, Below.heap_setCell _ _ _ _ (by simp)]; exact hlv
      have how2 : ownSeries w2 (w.heap.size + 3) v x := by
        rw [hw2]
        have := ownSeries_setCell (u := .int .i64 err) (i := 0) how hg (by decide) (by decide) (by decide)
        simpa using this
      clear hw2
      rw [herr, h]
      have hcell := cell_of_one hlv2
      obtain ⟨ao, cp, rfl⟩ : ∃ ao cp, v = .slice ao x.length cp := by obtain ⟨vs, _, hr, _⟩ := how; exact own_shape hr
      have HX := hide hr
      have HZ := hide h
      clear h herr hg hW hr
      go_wp2
      go_ret2
      refine ⟨hb2, .inl ⟨HZ.out, x, _, HX.out, rfl, ?_⟩⟩
      obtain ⟨vs, hl, hr, hall⟩ := how2
      exact ⟨vs, hl, own_le hr (by omega), fun i a b h1 h2 => ⟨own_le (hall i a b h1 h2).1 (by omega), own_le (hall i a b h1 h2).2 (by omega)⟩⟩
    · have hne : (err != 0) = true := by rw [herr]; simpa using h
      have HE := hide herr
      have HN := hide h
      clear h herr hg hw2 hW
      go_wp2
      go_ret2
      exact ⟨hb2, .inr ⟨HN.out, by rw [← HE.out]; rfl⟩⟩
  · have hz : readErr s = 2 := by simp [readErr, hlen]
    have hcs : (w.alloc (.cells #[.string (bs s)] 9)).cell? ⟨w.heap.size, 0, none⟩ = some (.string (bs s)) := cell_of_one (heap_alloc_new _ _)
    rw [hz]
    go_enter Tryz.func55, Tryz.ntmps55
    go_wp2
    go_ret2
    exact ⟨hBox, .inr ⟨by omega, rfl⟩⟩
end Go.Proofs.YtmdakfmecfcbhaaGreat
namespace Go.Proofs.YtmdakfmecfcbhaaGreat
theorem readErr_none {s : List UInt8} {x : List Ser} (h : readErr s = 0) (hx : allRead s = some x) : countsB x = true ∧ timesB x = true ∧ s.length ≤ 20000 := by
  unfold readErr rdErr at h
  rw [hx] at h
  simp only at h
  split at h
  · split at h
    · split at h
      · exact ⟨by assumption, by assumption, by assumption⟩
      · simp at h
    · simp at h
  · simp at h
end Go.Proofs.YtmdakfmecfcbhaaGreat
namespace Go.Proofs.YtmdakfmecfcbhaaGreat
open Go.RowKit
attribute [local go_sem] bs_size bs_toList bs_append bs_get bs_extract
set_option maxRecDepth 20000 in
set_option maxHeartbeats 2000000 in
theorem little_some (w : World) (atb sb p many : Nat) (s : List UInt8) (hat : w.heap[atb]? = some (.cells #[.int .i64 p] 3 (0, 0))) (hsb : w.heap[sb]? = some (.cells #[.string (bs s)] 9 (0, 0))) (hs : s.length ≤ 140737488355328) (hm : many ≤ 4) (h : p + many ≤ s.length) :
    Calls Tryz.prog 58 #[.int .i64 many, .pointer (some ⟨atb, 0, none⟩), .pointer (some ⟨sb, 0, none⟩)] w fun e w' => e = .returned (.int .i64 (lowB ((s.drop p).take many))) ∧ w' = w.setCell ⟨atb, 0, none⟩ (.int .i64 ((p : Int) + many)) := by
  have c0 := cell_of_one hat
  have z0 := free_of_one hat
  have d0 := cell_of_one hsb
  obtain ⟨T, HTe⟩ : ∃ T, Hid ((s.drop p).take many = T) := ⟨_, hide rfl⟩
  have HT : Hid (T.length = many) := by show _ = _; rw [← HTe.out, List.length_take, List.length_drop]; omega
  have HG : Hid (∀ (j : Nat) (hj : j < many) (h1 : p + j < s.length), s[p + j] = T[j]'(by rw [HT.out]; exact hj)) := fun j hj h1 => by
    have : T[j]'(by rw [HT.out]; exact hj) = ((s.drop p).take many)[j]'(by rw [HTe.out, HT.out]; exact hj) := by simp only [HTe.out]
    rw [this, List.getElem_take, List.getElem_drop]
  have hno : ¬ ((s.length : Int) < (p : Int) + many) := by omega
  go_enter Tryz.func58, Tryz.ntmps58
  go_wp2
  go_loop [5, 6] (fun v i => ∃ (k : Int) (N : Nat), -1 ≤ k ∧ k < many ∧ i = .int .i64 k ∧ v = .int .i64 N ∧ Hid (N = lowB (T.drop (k + 1).toNat))) (fun _ i => (intOf i + 1).toNat)
  case atStart => exact ⟨(many : Int) - 1, 0, by omega, by omega, rfl, rfl, by show _ = _; rw [List.drop_eq_nil_of_le (by rw [HT.out]; omega)]; rfl⟩
  case round =>
    obtain ⟨k, N, hk1, hk2, rfl, rfl, HN⟩ := hrel
    by_cases hk : 0 ≤ k
    · obtain ⟨j, rfl⟩ := Int.eq_ofNat_of_zero_le hk
      have hjl : j < T.length := by rw [HT.out]; omega
      have hjs : p + j < s.length := by omega
      have HD : Hid (wrap64 (wrap64 (256 * (N : Int)) + wrap64 (s[p + j].toNat : Int)) = ((lowB (T.drop j) : Nat) : Int)) := by
        have q1 := lowB_drop T j hjl
        have q2 := lowB_drop_le T j
        have q3 := lowB_lt T
        have q4 : 256 ^ T.length ≤ 256 ^ 4 := Nat.pow_le_pow_right (by omega) (by rw [HT.out]; exact hm)
        have q5 : N = lowB (T.drop (j + 1)) := HN.out
        have q6 := T[j].toNat_lt
        show _ = _
        rw [HG.out j (by omega) hjs, wrap64_small (256 * (N : Int)) (by omega) (by omega), wrap64_small (T[j].toNat : Int) (by omega) (by omega), wrap64_small _ (by omega) (by omega)]
        omega
      go_wp2
      go_round
      case rel => exact ⟨(j : Int) - 1, lowB (T.drop j), by omega, by omega, rfl, by rw [HD.out], by show _ = _; rw [show ((j : Int) - 1 + 1).toNat = j from by omega]⟩
      case measure => simp [intOf]
    · obtain rfl : k = -1 := by omega
      go_wp2
      go_ret
      exact ⟨by rw [HTe.out, HN.out]; rfl, rfl⟩
set_option maxRecDepth 20000 in
set_option maxHeartbeats 2000000 in
theorem little_none (w : World) (atb sb p many : Nat) (s : List UInt8) (hat : w.heap[atb]? = some (.cells #[.int .i64 p] 3 (0, 0))) (hsb : w.heap[sb]? = some (.cells #[.string (bs s)] 9 (0, 0))) (hs : s.length ≤ 140737488355328) (hm : many ≤ 4) (hp : p ≤ s.length) (h : s.length < p + many) :
    Calls Tryz.prog 58 #[.int .i64 many, .pointer (some ⟨atb, 0, none⟩), .pointer (some ⟨sb, 0, none⟩)] w fun e w' => e = .returned (.int .i64 (-1)) ∧ w' = w := by
  have c0 := cell_of_one hat
  have d0 := cell_of_one hsb
  have hno : (s.length : Int) < (p : Int) + many := by omega
  go_enter Tryz.func58, Tryz.ntmps58
  go_wp2
  go_ret
  exact ⟨rfl, rfl⟩
theorem numAt_cases (l : List UInt8) : (∃ key n, numAt l = (key, n, 0) ∧ 1 ≤ n ∧ n ≤ l.length ∧ key < 18446744073709551616 ∧ cutNum l = some (key, l.drop n)) ∨ (∃ e, (e = 1 ∨ e = 3) ∧ numAt l = (0, 0, e) ∧ cutNum l = none) := by
  rcases numAt_read l with ⟨h1, h2⟩ | ⟨h1, h2⟩
  · left
    have hr := readNum_le l
    rw [h2] at hr
    refine ⟨(numAt l).1, (numAt l).2.1, ?_, hr.2.1 h1, hr.1, hr.2.2, ?_⟩
    · rw [← h1]
    · rw [cutNum_at, if_pos h1]
  · right
    refine ⟨(numAt l).2.2, ?_, ?_, ?_⟩
    · unfold numAt at h1 ⊢
      split
      · exact .inl rfl
      · split
        · exact .inr rfl
        · rename_i c1 c2
          rw [if_neg c1, if_neg c2] at h1
          exact absurd rfl h1
    · unfold numAt at h1 ⊢
      split
      · rfl
      · split
        · rfl
        · rename_i c1 c2
          rw [if_neg c1, if_neg c2] at h1
          exact absurd rfl h1
    · rw [cutNum_at, if_neg h1]
theorem cutLow_at (n p : Nat) (s : List UInt8) (h : p + n ≤ s.length) : cutLow n (s.drop p) = some (lowB ((s.drop p).take n), s.drop (p + n)) := by
  unfold cutLow
  rw [if_pos (by rw [List.length_drop]; omega), List.drop_drop]
theorem cutLow_out (n p : Nat) (s : List UInt8) (hp : p ≤ s.length) (h : s.length < p + n) : cutLow n (s.drop p) = none := by
  unfold cutLow
  rw [if_neg (by rw [List.length_drop]; omega)]
theorem cutLow_one (p : Nat) (s : List UInt8) (h : p < s.length) : cutLow 1 (s.drop p) = some (s[p].toNat, s.drop (p + 1)) := by
  rw [cutLow_at 1 p s (by omega), List.drop_eq_getElem_cons h]
  rfl
/-- Where the reading stands. -/
def atOf (w : World) (b : Nat) : Nat := match w.heap[b]? with | some (.cells c _ _) => (intOf (c.getD 0 undef)).toNat | _ => 0
theorem little_some_i (w : World) (atb sb p many : Nat) (pi mi : Int) (s : List UInt8) (hat : w.heap[atb]? = some (.cells #[.int .i64 pi] 3 (0, 0))) (hsb : w.heap[sb]? = some (.cells #[.string (bs s)] 9 (0, 0))) (hs : s.length ≤ 140737488355328) (hpi : pi = (p : Int)) (hmi : mi = (many : Int)) (hm : many ≤ 4) (h : p + many ≤ s.length) :
    Calls Tryz.prog 58 #[.int .i64 mi, .pointer (some ⟨atb, 0, none⟩), .pointer (some ⟨sb, 0, none⟩)] w fun e w' => e = .returned (.int .i64 (lowB ((s.drop p).take many))) ∧ w' = w.setCell ⟨atb, 0, none⟩ (.int .i64 ((p : Int) + many)) := by
  subst hpi; subst hmi; exact little_some w atb sb p many s hat hsb hs hm h
theorem little_none_i (w : World) (atb sb p many : Nat) (pi mi : Int) (s : List UInt8) (hat : w.heap[atb]? = some (.cells #[.int .i64 pi] 3 (0, 0))) (hsb : w.heap[sb]? = some (.cells #[.string (bs s)] 9 (0, 0))) (hs : s.length ≤ 140737488355328) (hpi : pi = (p : Int)) (hmi : mi = (many : Int)) (hm : many ≤ 4) (hp : p ≤ s.length) (h : s.length < p + many) :
    Calls Tryz.prog 58 #[.int .i64 mi, .pointer (some ⟨atb, 0, none⟩), .pointer (some ⟨sb, 0, none⟩)] w fun e w' => e = .returned (.int .i64 (-1)) ∧ w' = w := by
  subst hpi; subst hmi; exact little_none w atb sb p many s hat hsb hs hm hp h
/-- A byte more, in the row that a call owns: as the walk has it. -/
theorem append_byte {W : World} {ops : Array Oper} {rest : List Oper} {o : Oper} {a : Act} {Q : Exit → Act → World → Prop} (hgd : o.guard = none) (s x : Operand)
    (ho : o.op = .call { callee := .builtin .append, args := #[s, x], argTypes := #[63, 63] })
    (base : Nat) (v : Value) (d : List UInt8) (c : UInt8) (ci : Int) (hci : ci = (c.toNat : Int)) (hs : a.eval s = v) (hown : W.ownsRow base 5 1 v d.length (bytesV d)) (hx : a.eval x = .slice (some ⟨W.heap.size, 0, none⟩) 1 1)
    (hlen : d.length ≤ 1000000) (hbase : base ≤ W.heap.size)
    (h : ∀ ao cp w', w'.ownsRow base 5 1 (.slice ao (d.length + 1) cp) (d ++ [c]).length (bytesV (d ++ [c])) → Below base W w' → wpList Tryz.prog ops Q rest (a.put o.dst (.slice ao (d.length + 1) cp)) w') :
    wpList Tryz.prog ops Q (o :: rest) a (W.alloc (.cells #[.int .u8 ci] 5)) := by
  subst hci
  obtain ⟨i0, hi0, hz0, hz1, hz2⟩ := info_parts Tryz.info5
  have hb2 : Below base W (W.alloc (.cells #[.int .u8 (c.toNat : Int)] 5)) := (Below.refl _ _).alloc hbase _
  have hnew := heap_alloc_new W (.cells #[.int .u8 (c.toNat : Int)] 5)
  have hsz := hb2.size
  have hown' := hown.alloc (.cells #[.int .u8 (c.toNat : Int)] 5)
  generalize (W.alloc (.cells #[.int .u8 (c.toNat : Int)] 5)) = V at *
  refine wpList_append_own _ hgd s x 63 ho base 5 i0 (.int .u8 0) 1 1 Tryz.underlying63 hi0 hz0 hz1 hz2 rfl (by omega) v d.length (bytesV d) hs hown' ⟨W.heap.size, 0, none⟩ 1 1 [.int .u8 (c.toNat : Int)] hx rfl (fun j u hu => by
    match j, hu with
    | 0, hu => simp at hu; subst hu; simpa [Addr.add] using cell_of_one hnew) (by simp [Value.oneCell']) (by unfold maxLen; omega) (by omega) (by omega) ?_
  intro v' w' hown2 hgrow _
  obtain ⟨ao, cp, rfl⟩ := own_shape hown2
  refine h ao cp w' ?_ (hb2.grown hgrow (by omega) (fun k hk => (hown'.lt k hk).1))
  rw [bytesV_append, List.length_append]
  exact hown2
set_option maxRecDepth 20000 in
set_option maxHeartbeats 8000000 in
theorem unpackOf_any (w : World) (s : List UInt8) (most : Int) (hs : s.length ≤ 140737488355328) (h0 : -9223372036854775808 ≤ most) (h1 : most ≤ 9223372036854775807) :
    Calls Tryz.prog 31 #[.string (bs s), .int .i64 most] w fun e w' => e = .returned (.tuple #[.string (bs (unpackB s most).2), .int .i64 (unpackB s most).1]) ∧ Below w.heap.size w w' := by
  have hBox : Below w.heap.size w (w.alloc (.cells #[.string (bs s)] 9)) := (Below.refl _ _).alloc (Nat.le_refl _) _
  go_enter Tryz.func31, Tryz.ntmps31
  by_cases c1 : most < 0
  · have HE : Hid (unpackB s most = (3, [])) := by show _ = _; unfold unpackB; rw [if_pos (.inl c1)]
    go_wp2
    go_ret2
    exact ⟨by rw [HE.out]; rfl, hBox⟩
  · by_cases c2 : 20000 < most
    · have HE : Hid (unpackB s most = (3, [])) := by show _ = _; unfold unpackB; rw [if_pos (.inr c2)]
      go_wp2
      go_ret2
      exact ⟨by rw [HE.out]; rfl, hBox⟩
    · have HU : Hid (unpackB s most = match cutNum s with | none => (1, []) | some (n, r) => if most < n then (2, []) else match unpB n r [] with | none => (1, []) | some m => (0, m)) := by
        show _ = _; unfold unpackB; rw [if_neg (by omega)]; rfl
      go_wp2_with fail
      refine (numberAt_any s _ (by omega)).mono ?_
      rintro e w1 ⟨rfl, rfl⟩
      rcases numAt_cases s with ⟨n, size, hn, k1, k2, k3, hc⟩ | ⟨e, he, hn, hc⟩
      · rw [hn]
        have HC := hide hc
        clear hc hn
        have hwm : IntKind.u64.wrap most = most := wrap_u64_small _ (by omega) (by omega)
        by_cases c3 : most < n
        · have HE : Hid (unpackB s most = (2, [])) := by show _ = _; rw [HU.out, HC.out]; simp only; rw [if_pos c3]
          go_wp2
          go_ret2
          exact ⟨by rw [HE.out]; rfl, hBox.alloc hBox.size _⟩
        · have hwn : IntKind.i64.wrap (n : Int) = n := wrap_i64_small _ (by omega) (by omega)
          have hE : Hid (unpackB s most = match unpB n (s.drop size) [] with | none => (1, []) | some m => (0, m)) := by show _ = _; rw [HU.out, HC.out]; simp only; rw [if_neg c3]
          have hn2 : n ≤ 20000 := by omega
          have hsb0 : ((w.alloc (.cells #[.string (bs s)] 9)).alloc (.cells #[.int .i64 size] 3)).heap[w.heap.size]? = some (.cells #[.string (bs s)] 9 (0, 0)) := by
            rw [Below.heap_alloc _ _ _ (by simp)]; exact heap_alloc_new _ _
          have hat0 : ((w.alloc (.cells #[.string (bs s)] 9)).alloc (.cells #[.int .i64 size] 3)).heap[w.heap.size + 1]? = some (.cells #[.int .i64 size] 3 (0, 0)) := by
            have := heap_alloc_new (w.alloc (.cells #[.string (bs s)] 9)) (.cells #[.int .i64 size] 3); simpa using this
          have HB0 := hide (hBox.alloc hBox.size (.cells #[.int .i64 size] 3))
          have hmf : ∀ (fn : Fn) (first cap : Array Value) (w : World), (Instr.makeFunc fn first cap).run Tryz.prog w = .ok (.func fn first cap) w := fun _ _ _ _ => rfl
          go_wp2
          go_loopw [10] (fun out wr => ∃ (p : Nat) (made : List UInt8), p ≤ s.length ∧ made.length ≤ n ∧ wr.heap[w.heap.size]? = some (.cells #[.string (bs s)] 9 (0, 0)) ∧ wr.heap[w.heap.size + 1]? = some (.cells #[.int .i64 p] 3 (0, 0)) ∧ wr.ownsRow (w.heap.size + 2) 5 1 out made.length (bytesV made) ∧ Below w.heap.size w wr ∧ w.heap.size + 2 ≤ wr.heap.size ∧ Hid (unpB n (s.drop size) [] = unpB n (s.drop p) made)) (fun _ wr => s.length - atOf wr (w.heap.size + 1))
          case atStart => exact ⟨size, [], k2, by simp, hsb0, hat0, World.ownsRow_nil _ _ _ _, HB0.out, by simp, hide rfl⟩
          case round =>
            obtain ⟨p, made, hp, hm, hsb, hat, ho, hbel, hsz, HR⟩ := hrel
            rename World => wr
            obtain ⟨ao, cp, rfl⟩ := own_shape ho
            clear hsb0 hat0
            have d0 := cell_of_one hsb
            have a0 := cell_of_one hat
            have az := free_of_one hat
            by_cases hlt : p < s.length
            · have hlt' : (p : Int) < s.length := by omega
              have HNe : Hid (s.drop p ≠ []) := fun e => by have := congrArg List.length e; rw [List.length_drop] at this; simp at this; omega
              have HOne := hide (cutLow_one p s hlt)
              have h256 := s[p].toNat_lt
              obtain ⟨h, HH⟩ : ∃ h, Hid (s[p].toNat = h) := ⟨_, hide rfl⟩
              have hcl : (s[p].toNat : Int) = h := by rw [HH.out]
              rw [HH.out] at HOne h256
              have HBad : Hid (elemB n (s.drop p) made = none → unpackB s most = (1, [])) := fun h => by rw [hE.out, HR.out, unpB_none HNe.out h]
              have HGo : Hid (∀ r' m', elemB n (s.drop p) made = some (r', m') → unpB n (s.drop size) [] = unpB n r' m') := fun r' m' h => by rw [HR.out, unpB_some HNe.out h]
              obtain ⟨W, HWW⟩ : ∃ W, Hid (W = wr.setCell ⟨w.heap.size + 1, 0, none⟩ (.int .i64 ((p : Int) + 1))) := ⟨_, hide rfl⟩
              have hatW : W.heap[w.heap.size + 1]? = some (.cells #[.int .i64 ((p : Int) + 1)] 3 (0, 0)) := by rw [HWW.out]; exact set_block hat _
              have hsbW : W.heap[w.heap.size]? = some (.cells #[.string (bs s)] 9 (0, 0)) := by rw [HWW.out, Below.heap_setCell _ _ _ _ (by simp)]; exact hsb
              have hoW : W.ownsRow (w.heap.size + 2) 5 1 (.slice ao made.length cp) made.length (bytesV made) := by rw [HWW.out]; exact ownsRow_setCell_other (a := ⟨w.heap.size + 1, 0, none⟩) ho (own_apart ho hat (by decide)) _
              have hbW : Below w.heap.size w W := by rw [HWW.out]; exact hbel.setCell (p := ⟨w.heap.size + 1, 0, none⟩) (by simp) _
              have hsW : w.heap.size + 2 ≤ W.heap.size := by rw [HWW.out]; simpa [World.setCell] using hsz
              have dW := cell_of_one hsbW
              have aW := cell_of_one hatW
              have azW := free_of_one hatW
              rw [HWW.out] at dW aW azW
              clear ho
              by_cases m0 : h % 4 = 0
              · have t0 : ((h : Int) % 4 == 0) = true := by rw [beq_iff_eq]; omega
                by_cases m6 : 60 ≤ h / 4
                · as_aux_lemma =>
                  have m6' : 60 ≤ (h : Int) / 4 := by omega
                  have hsW2 : p + 1 ≤ s.length := by omega
                  go_wp2_with fail
                  rw [← HWW.out]
                  by_cases kz : p + 1 + (h / 4 - 59) ≤ s.length
                  · refine (little_some_i W (w.heap.size + 1) w.heap.size (p + 1) ((h / 4 - 59)) _ _ s hatW hsbW hs (by omega) (by omega) (by omega) kz).mono ?_
                    rintro e V ⟨rfl, hVe⟩
                    obtain ⟨P, hP⟩ : ∃ P, P = p + 1 + (h / 4 - 59) := ⟨_, rfl⟩
                    have hcut := cutLow_at ((h / 4 - 59)) (p + 1) s kz
                    rw [← hP] at hcut
                    have hlow := (cutLow_some hcut).2.2.2.1
                    have hlow2 : 256 ^ ((h / 4 - 59)) ≤ 256 ^ 4 := Nat.pow_le_pow_right (by omega) (by omega)
                    obtain ⟨m, Hm⟩ : ∃ m, Hid (lowB ((s.drop (p + 1)).take ((h / 4 - 59))) = m) := ⟨_, hide rfl⟩
                    rw [Hm.out] at hcut hlow ⊢
                    have HCut := hide hcut
                    have hm4 : m < 4294967296 := by omega
                    have hatV : V.heap[w.heap.size + 1]? = some (.cells #[.int .i64 (P : Int)] 3 (0, 0)) := by rw [hVe, set_block hatW, hP]; simp
                    have hsbV : V.heap[w.heap.size]? = some (.cells #[.string (bs s)] 9 (0, 0)) := by rw [hVe, Below.heap_setCell _ _ _ _ (by simp)]; exact hsbW
                    have hoV : V.ownsRow (w.heap.size + 2) 5 1 (.slice ao made.length cp) made.length (bytesV made) := by rw [hVe]; exact ownsRow_setCell_other (a := ⟨w.heap.size + 1, 0, none⟩) hoW (own_apart hoW hatW (by decide)) _
                    have hbV : Below w.heap.size w V := by rw [hVe]; exact hbW.setCell (p := ⟨w.heap.size + 1, 0, none⟩) (by simp) _
                    have hsV : w.heap.size + 2 ≤ V.heap.size := by rw [hVe]; simpa [World.setCell] using hsW
                    have HVe := hide hVe
                    have HW9 := hide (And.intro hatW (And.intro hsbW (And.intro hoW hbW)))
                    have HPs := hide hP
                    have hPs : P ≤ s.length := by omega
                    have hPp : p < P := by omega
                    clear hP hVe hatW hsbW hoW hbW dW aW azW hcut hlow hlow2 d0 a0 az
                    have dV := cell_of_one hsbV
                    have aV := cell_of_one hatV
                    have azV := free_of_one hatV
                    have HEl : Hid (elemB n (s.drop p) made = plainB n (m + 1) (s.drop P) made) := by show _ = _; unfold elemB; rw [HOne.out]; simp only; rw [if_pos m0, if_pos m6, HCut.out]
                    have f0 : ¬ (m : Int) < 0 := by omega
                    by_cases k1 : m + 1 ≤ s.length - (P)
                    · have f1 : ¬ (s.length : Int) < (P : Int) + (m : Int) + 1 := by omega
                      by_cases k2 : m + 1 + made.length ≤ n
                      · have f2 : ¬ (n : Int) < (made.length : Int) + (m : Int) + 1 := by omega
                        have HStep := HGo.out _ _ (by rw [HEl.out, plainB, if_pos ⟨k2, by rw [List.length_drop]; exact k1⟩])
                        have HS2 := hide HStep
                        clear HStep
                        go_wp2
                        skip
                        clear dV aV azV
                        go_loopw [10, 15] (fun out i wk => ∃ q : Nat, q ≤ m + 1 ∧ i = .int .i64 q ∧ Below (w.heap.size + 2) V wk ∧ wk.ownsRow (w.heap.size + 2) 5 1 out (made ++ (s.drop (P)).take q).length (bytesV (made ++ (s.drop (P)).take q))) (fun _ i _ => m + 1 - (intOf i).toNat)
                        case atStart => exact ⟨0, by omega, rfl, Below.refl _ _, by simpa using hoV⟩
                        case round =>
                          obtain ⟨q, hq, rfl, hbk, hok⟩ := hrel
                          rename World => wk
                          have hatk := (hbk.block (w.heap.size + 1) (by omega)).trans hatV
                          have hsbk := (hbk.block w.heap.size (by omega)).trans hsbV
                          have dk := cell_of_one hsbk
                          have ak := cell_of_one hatk
                          have azk := free_of_one hatk
                          have hlq : (made ++ (s.drop (P)).take q).length = made.length + q := by rw [List.length_append, List.length_take, List.length_drop]; omega
                          by_cases hq2 : q ≤ m
                          · have hq3 : (q : Int) ≤ (m : Int) := by omega
                            have hidx : P + q < s.length := by omega
                            have HTk : Hid (made ++ (s.drop (P)).take (q + 1) = made ++ (s.drop (P)).take q ++ [s[P + q]]) := by
                              show _ = _
                              rw [List.append_assoc, List.take_succ_eq_append_getElem (by rw [List.length_drop]; omega), List.getElem_drop]
                            obtain ⟨M, HM⟩ : ∃ M, Hid (made ++ (s.drop (P)).take q = M) := ⟨_, hide rfl⟩
                            rw [HM.out] at hok hlq HTk
                            obtain ⟨ao2, cp2, rfl⟩ := own_shape hok
                            have HLQ : M.length ≤ 1000000 := by omega
                            have HSz := hide hbk.size
                            have hszk : w.heap.size + 2 ≤ wk.heap.size := by have := HSz.out; omega
                            clear hlq
                            go_wp2_with (at_builtin; go_must (refine append_byte rfl (.tmp 87) (.tmp 93) rfl (w.heap.size + 2) (.slice ao2 M.length cp2) M (s[P + q]) _ (by first | rfl | (congr 2; simp; omega)) rfl hok rfl HLQ hszk ?_); intro ao3 cp3 w7 hown7 hb7)
                            go_roundw
                            case rel => exact ⟨q + 1, by omega, by go_num, hbk.trans hb7, by rw [HTk.out]; exact hown7⟩
                            case measure => simp [intOf]; omega
                          · have hq3 : ¬ (q : Int) ≤ (m : Int) := by omega
                            obtain rfl : q = m + 1 := by omega
                            go_wp2
                            go_roundw
                            case rel => exact ⟨P + (m + 1), _, by omega, by rw [hlq]; omega, by rw [Below.heap_setCell _ _ _ _ (by simp)]; exact hsbk, by rw [set_block hatk]; simp <;> omega, ownsRow_setCell_other (a := ⟨w.heap.size + 1, 0, none⟩) hok (own_apart hok hatk (by decide)) _, (hbV.trans (hbk.mono (by omega))).setCell (p := ⟨w.heap.size + 1, 0, none⟩) (by simp) _, by have := hbk.size; simp [World.setCell]; omega, by show _ = _; rw [HS2.out]; simp only [List.drop_drop]⟩
                            case measure =>
                              have := HPs.out
                              simp only [atOf, hat, set_block hatk]
                              simp [intOf]
                              omega
                      · have f2 : (n : Int) < (made.length : Int) + (m : Int) + 1 := by omega
                        have HE := hide (HBad.out (by rw [HEl.out, plainB, if_neg (fun h => k2 h.1)]))
                        go_wp2
                        go_ret2
                        exact ⟨by rw [HE.out]; rfl, hbV⟩
                    · have f1 : (s.length : Int) < (P : Int) + (m : Int) + 1 := by omega
                      have HE := hide (HBad.out (by rw [HEl.out, plainB, if_neg (fun h => k1 (by have := h.2; rw [List.length_drop] at this; exact this))]))
                      go_wp2
                      go_ret2
                      exact ⟨by rw [HE.out]; rfl, hbV⟩
                  · refine (little_none_i W (w.heap.size + 1) w.heap.size (p + 1) ((h / 4 - 59)) _ _ s hatW hsbW hs (by omega) (by omega) (by omega) (by omega) (by omega)).mono ?_
                    rintro e V ⟨rfl, rfl⟩
                    have hcut := cutLow_out ((h / 4 - 59)) (p + 1) s (by omega) (by omega)
                    have HE := hide (HBad.out (by unfold elemB; rw [HOne.out]; simp only; rw [if_pos m0, if_pos m6, hcut]))
                    rw [← HWW.out] at dW aW azW
                    clear hcut
                    go_wp2
                    go_ret2
                    exact ⟨by rw [HE.out]; rfl, hbW⟩
                · as_aux_lemma =>
                  have m6' : ¬ 60 ≤ (h : Int) / 4 := by omega
                  have HEl : Hid (elemB n (s.drop p) made = plainB n (h / 4 + 1) (s.drop (p + 1)) made) := by show _ = _; unfold elemB; rw [HOne.out]; simp only; rw [if_pos m0, if_neg m6]
                  have f0 : ¬ (h : Int) / 4 < 0 := by omega
                  by_cases k1 : h / 4 + 1 ≤ s.length - (p + 1)
                  · have f1 : ¬ (s.length : Int) < ((p : Int) + 1) + (h : Int) / 4 + 1 := by omega
                    by_cases k2 : h / 4 + 1 + made.length ≤ n
                    · have f2 : ¬ (n : Int) < (made.length : Int) + (h : Int) / 4 + 1 := by omega
                      have HStep := HGo.out _ _ (by rw [HEl.out, plainB, if_pos ⟨k2, by rw [List.length_drop]; exact k1⟩])
                      have HS2 := hide HStep
                      clear HStep
                      go_wp2
                      rw [← HWW.out]
                      clear d0 a0 az dW aW azW
                      go_loopw [10, 15] (fun out i wk => ∃ q : Nat, q ≤ h / 4 + 1 ∧ i = .int .i64 q ∧ Below (w.heap.size + 2) W wk ∧ wk.ownsRow (w.heap.size + 2) 5 1 out (made ++ (s.drop (p + 1)).take q).length (bytesV (made ++ (s.drop (p + 1)).take q))) (fun _ i _ => h / 4 + 1 - (intOf i).toNat)
                      case atStart => exact ⟨0, by omega, rfl, Below.refl _ _, by simpa using hoW⟩
                      case round =>
                        obtain ⟨q, hq, rfl, hbk, hok⟩ := hrel
                        rename World => wk
                        have hatk := (hbk.block (w.heap.size + 1) (by omega)).trans hatW
                        have hsbk := (hbk.block w.heap.size (by omega)).trans hsbW
                        have dk := cell_of_one hsbk
                        have ak := cell_of_one hatk
                        have azk := free_of_one hatk
                        have hlq : (made ++ (s.drop (p + 1)).take q).length = made.length + q := by rw [List.length_append, List.length_take, List.length_drop]; omega
                        by_cases hq2 : q ≤ h / 4
                        · have hq3 : (q : Int) ≤ (h : Int) / 4 := by omega
                          have hidx : p + 1 + q < s.length := by omega
                          have HTk : Hid (made ++ (s.drop (p + 1)).take (q + 1) = made ++ (s.drop (p + 1)).take q ++ [s[p + 1 + q]]) := by
                            show _ = _
                            rw [List.append_assoc, List.take_succ_eq_append_getElem (by rw [List.length_drop]; omega), List.getElem_drop]
                          obtain ⟨M, HM⟩ : ∃ M, Hid (made ++ (s.drop (p + 1)).take q = M) := ⟨_, hide rfl⟩
                          rw [HM.out] at hok hlq HTk
                          obtain ⟨ao2, cp2, rfl⟩ := own_shape hok
                          have HLQ : M.length ≤ 1000000 := by omega
                          have HSz := hide hbk.size
                          have hszk : w.heap.size + 2 ≤ wk.heap.size := by have := HSz.out; omega
                          clear hlq
                          go_wp2_with (at_builtin; go_must (refine append_byte rfl (.tmp 87) (.tmp 93) rfl (w.heap.size + 2) (.slice ao2 M.length cp2) M (s[p + 1 + q]) _ (by first | rfl | (congr 2; simp; omega)) rfl hok rfl HLQ hszk ?_); intro ao3 cp3 w7 hown7 hb7)
                          go_roundw
                          case rel => exact ⟨q + 1, by omega, by go_num, hbk.trans hb7, by rw [HTk.out]; exact hown7⟩
                          case measure => simp [intOf]; omega
                        · have hq3 : ¬ (q : Int) ≤ (h : Int) / 4 := by omega
                          obtain rfl : q = h / 4 + 1 := by omega
                          go_wp2
                          go_roundw
                          case rel => exact ⟨p + 1 + (h / 4 + 1), _, by omega, by rw [hlq]; omega, by rw [Below.heap_setCell _ _ _ _ (by simp)]; exact hsbk, by rw [set_block hatk]; simp <;> omega, ownsRow_setCell_other (a := ⟨w.heap.size + 1, 0, none⟩) hok (own_apart hok hatk (by decide)) _, (hbW.trans (hbk.mono (by omega))).setCell (p := ⟨w.heap.size + 1, 0, none⟩) (by simp) _, by have := hbk.size; simp [World.setCell]; omega, by show _ = _; rw [HS2.out]; simp only [List.drop_drop]⟩
                          case measure =>
                            simp only [atOf, hat, set_block hatk]
                            simp [intOf]
                            omega
                    · have f2 : (n : Int) < (made.length : Int) + (h : Int) / 4 + 1 := by omega
                      have HE := hide (HBad.out (by rw [HEl.out, plainB, if_neg (fun h => k2 h.1)]))
                      go_wp2
                      go_ret2
                      exact ⟨by rw [HE.out]; rfl, by rw [← HWW.out]; exact hbW⟩
                  · have f1 : (s.length : Int) < ((p : Int) + 1) + (h : Int) / 4 + 1 := by omega
                    have HE := hide (HBad.out (by rw [HEl.out, plainB, if_neg (fun h => k1 (by have := h.2; rw [List.length_drop] at this; exact this))]))
                    go_wp2
                    go_ret2
                    exact ⟨by rw [HE.out]; rfl, by rw [← HWW.out]; exact hbW⟩
              · have t0 : ((h : Int) % 4 == 0) = false := by rw [beq_eq_false_iff_ne]; omega
                by_cases m1 : h % 4 = 1
                · as_aux_lemma =>
                  have t1 : ((h : Int) % 4 == 1) = true := by rw [beq_iff_eq]; omega
                  have hsW2 : p + 1 ≤ s.length := by omega
                  go_wp2_with fail
                  rw [← HWW.out]
                  by_cases kz : p + 1 + 1 ≤ s.length
                  · refine (little_some_i W (w.heap.size + 1) w.heap.size (p + 1) (1) _ _ s hatW hsbW hs (by omega) (by omega) (by omega) kz).mono ?_
                    rintro e V ⟨rfl, hVe⟩
                    obtain ⟨P, hP⟩ : ∃ P, P = p + 1 + 1 := ⟨_, rfl⟩
                    have hcut := cutLow_at (1) (p + 1) s kz
                    rw [← hP] at hcut
                    have hlow := (cutLow_some hcut).2.2.2.1
                    have hlow2 : 256 ^ (1) ≤ 256 ^ 4 := Nat.pow_le_pow_right (by omega) (by omega)
                    obtain ⟨m, Hm⟩ : ∃ m, Hid (lowB ((s.drop (p + 1)).take (1)) = m) := ⟨_, hide rfl⟩
                    rw [Hm.out] at hcut hlow ⊢
                    have HCut := hide hcut
                    have hm4 : m < 4294967296 := by omega
                    have hatV : V.heap[w.heap.size + 1]? = some (.cells #[.int .i64 (P : Int)] 3 (0, 0)) := by rw [hVe, set_block hatW, hP]; simp
                    have hsbV : V.heap[w.heap.size]? = some (.cells #[.string (bs s)] 9 (0, 0)) := by rw [hVe, Below.heap_setCell _ _ _ _ (by simp)]; exact hsbW
                    have hoV : V.ownsRow (w.heap.size + 2) 5 1 (.slice ao made.length cp) made.length (bytesV made) := by rw [hVe]; exact ownsRow_setCell_other (a := ⟨w.heap.size + 1, 0, none⟩) hoW (own_apart hoW hatW (by decide)) _
                    have hbV : Below w.heap.size w V := by rw [hVe]; exact hbW.setCell (p := ⟨w.heap.size + 1, 0, none⟩) (by simp) _
                    have hsV : w.heap.size + 2 ≤ V.heap.size := by rw [hVe]; simpa [World.setCell] using hsW
                    have HVe := hide hVe
                    have HW9 := hide (And.intro hatW (And.intro hsbW (And.intro hoW hbW)))
                    have HPs := hide hP
                    have hPs : P ≤ s.length := by omega
                    have hPp : p < P := by omega
                    clear hP hVe hatW hsbW hoW hbW dW aW azW hcut hlow hlow2 d0 a0 az
                    have dV := cell_of_one hsbV
                    have aV := cell_of_one hatV
                    have azV := free_of_one hatV
                    have HEl : Hid (elemB n (s.drop p) made = againB n (h / 4 % 8 + 4) (h / 32 * 256 + m) (s.drop P) made) := by show _ = _; unfold elemB; rw [HOne.out]; simp only; rw [if_neg m0, if_pos m1, HCut.out]
                    have m00 : 0 ≤ (m : Int) := by omega
                    by_cases g1 : 1 ≤ (h / 32 * 256 + m)
                    · have g1' : ¬ ((m : Int) + (h : Int) / 4 / 8 * 256) < 1 := by omega
                      by_cases g2 : (h / 32 * 256 + m) ≤ made.length
                      · have g2' : ¬ (made.length : Int) < ((m : Int) + (h : Int) / 4 / 8 * 256) := by omega
                        have g2n : ¬ made.length < (h / 32 * 256 + m) := by omega
                        by_cases g3 : (h / 4 % 8 + 4) + made.length ≤ n
                        · have g3' : ¬ (n : Int) < (made.length : Int) + ((h : Int) / 4 % 8 + 4) := by omega
                          have HStep := HGo.out _ _ (by rw [HEl.out, againB, if_pos ⟨g3, g1, g2⟩])
                          have HS2 := hide HStep
                          clear HStep
                          go_wp2
                          clear dV aV azV
                          go_loopw [10, 18] (fun out i wk => ∃ q : Nat, q ≤ (h / 4 % 8 + 4) ∧ i = .int .i64 q ∧ Below (w.heap.size + 2) V wk ∧ wk.ownsRow (w.heap.size + 2) 5 1 out (copyB ((h / 32 * 256 + m)) q made).length (bytesV (copyB ((h / 32 * 256 + m)) q made))) (fun _ i _ => (h / 4 % 8 + 4) - (intOf i).toNat)
                          case atStart => exact ⟨0, by omega, rfl, Below.refl _ _, hoV⟩
                          case round =>
                            obtain ⟨q, hq, rfl, hbk, hok⟩ := hrel
                            rename World => wk
                            have hatk := (hbk.block (w.heap.size + 1) (by omega)).trans hatV
                            have hsbk := (hbk.block w.heap.size (by omega)).trans hsbV
                            have dk := cell_of_one hsbk
                            have ak := cell_of_one hatk
                            have azk := free_of_one hatk
                            have hml := copyB_length ((h / 32 * 256 + m)) q made
                            by_cases hq2 : q < (h / 4 % 8 + 4)
                            · have hq3 : (q : Int) < ((h : Int) / 4 % 8 + 4) := by omega
                              have HSn : Hid (copyB ((h / 32 * 256 + m)) (q + 1) made = copyB ((h / 32 * 256 + m)) q made ++ [(copyB ((h / 32 * 256 + m)) q made).getD ((copyB ((h / 32 * 256 + m)) q made).length - ((h / 32 * 256 + m))) 0]) := copyB_snoc ((h / 32 * 256 + m)) q made
                              obtain ⟨M, HM⟩ : ∃ M, Hid (copyB ((h / 32 * 256 + m)) q made = M) := ⟨_, hide rfl⟩
                              rw [HM.out] at hml hok HSn
                              obtain ⟨ao2, cp2, rfl⟩ := own_shape hok
                              obtain ⟨x, hx⟩ : ∃ x, x = M.length - ((h / 32 * 256 + m)) := ⟨_, rfl⟩
                              have hxl : x < M.length := by omega
                              have hxi : (M.length : Int) - ((m : Int) + (h : Int) / 4 / 8 * 256) = (x : Int) := by omega
                              have HC : Hid (M.getD (M.length - ((h / 32 * 256 + m))) 0 = M[x]) := by show _ = _; rw [← hx]; exact getD_get M x hxl
                              obtain ⟨gm, rfl⟩ : ∃ gm, ao2 = some ⟨gm, 0, none⟩ := by
                                rcases hok.2 with ⟨_, h0⟩ | ⟨g, cap, cur, e, _⟩
                                · omega
                                · simp at e; exact ⟨g, e.1⟩
                              have hcell := World.ownsRow.cells hok (g := gm) rfl x (.int .u8 (M[x].toNat : Int)) (by simp [bytesV, hxl])
                              rw [Addr.add_lit] at hcell
                              simp only [Nat.zero_add] at hcell
                              have HLQ : M.length ≤ 1000000 := by omega
                              have hszk : w.heap.size + 2 ≤ wk.heap.size := by have := hbk.size; omega
                              have HMl := hide hml
                              have HX := hide hx
                              clear hml hx
                              go_wp2_with (at_builtin; go_must (refine append_byte rfl (.tmp 146) (.tmp 154) rfl (w.heap.size + 2) (.slice (some ⟨gm, 0, none⟩) M.length cp2) M M[x] _ rfl rfl hok rfl HLQ hszk ?_); intro ao3 cp3 w7 hown7 hb7)
                              go_roundw
                              case rel => exact ⟨q + 1, by omega, by go_num, hbk.trans hb7, by rw [HSn.out, HC.out]; exact hown7⟩
                              case measure => simp [intOf]; omega
                            · have hq3 : ¬ (q : Int) < ((h : Int) / 4 % 8 + 4) := by omega
                              obtain rfl : q = (h / 4 % 8 + 4) := by omega
                              go_wp2
                              go_roundw
                              case rel => exact ⟨P, _, hPs, by rw [hml]; omega, hsbk, hatk, hok, hbV.trans (hbk.mono (by omega)), by have := hbk.size; omega, by show _ = _; rw [HS2.out]⟩
                              case measure =>
                                simp only [atOf, hat, hatk]
                                simp [intOf]
                                omega
                        · have g3' : (n : Int) < (made.length : Int) + ((h : Int) / 4 % 8 + 4) := by omega
                          have HE := hide (HBad.out (by rw [HEl.out, againB, if_neg (fun h => g3 h.1)]))
                          go_wp2
                          go_ret2
                          exact ⟨by rw [HE.out]; rfl, hbV⟩
                      · have g2' : (made.length : Int) < ((m : Int) + (h : Int) / 4 / 8 * 256) := by omega
                        have HE := hide (HBad.out (by rw [HEl.out, againB, if_neg (fun h => g2 h.2.2)]))
                        go_wp2
                        go_ret2
                        exact ⟨by rw [HE.out]; rfl, hbV⟩
                    · have g1' : ((m : Int) + (h : Int) / 4 / 8 * 256) < 1 := by omega
                      have HE := hide (HBad.out (by rw [HEl.out, againB, if_neg (fun h => g1 h.2.1)]))
                      go_wp2
                      go_ret2
                      exact ⟨by rw [HE.out]; rfl, hbV⟩
                  · refine (little_none_i W (w.heap.size + 1) w.heap.size (p + 1) (1) _ _ s hatW hsbW hs (by omega) (by omega) (by omega) (by omega) (by omega)).mono ?_
                    rintro e V ⟨rfl, rfl⟩
                    have hcut := cutLow_out (1) (p + 1) s (by omega) (by omega)
                    have HE := hide (HBad.out (by unfold elemB; rw [HOne.out]; simp only; rw [if_neg m0, if_pos m1, hcut]))
                    rw [← HWW.out] at dW aW azW
                    clear hcut
                    go_wp2
                    go_ret2
                    exact ⟨by rw [HE.out]; rfl, hbW⟩
                · by_cases m2 : h % 4 = 2
                  · as_aux_lemma =>
                    have t1 : ((h : Int) % 4 == 1) = false := by rw [beq_eq_false_iff_ne]; omega
                    have t2 : ((h : Int) % 4 == 2) = true := by rw [beq_iff_eq]; omega
                    have hsW2 : p + 1 ≤ s.length := by omega
                    go_wp2_with fail
                    rw [← HWW.out]
                    by_cases kz : p + 1 + 2 ≤ s.length
                    · refine (little_some_i W (w.heap.size + 1) w.heap.size (p + 1) (2) _ _ s hatW hsbW hs (by omega) (by omega) (by omega) kz).mono ?_
                      rintro e V ⟨rfl, hVe⟩
                      obtain ⟨P, hP⟩ : ∃ P, P = p + 1 + 2 := ⟨_, rfl⟩
                      have hcut := cutLow_at (2) (p + 1) s kz
                      rw [← hP] at hcut
                      have hlow := (cutLow_some hcut).2.2.2.1
                      have hlow2 : 256 ^ (2) ≤ 256 ^ 4 := Nat.pow_le_pow_right (by omega) (by omega)
                      obtain ⟨m, Hm⟩ : ∃ m, Hid (lowB ((s.drop (p + 1)).take (2)) = m) := ⟨_, hide rfl⟩
                      rw [Hm.out] at hcut hlow ⊢
                      have HCut := hide hcut
                      have hm4 : m < 4294967296 := by omega
                      have hatV : V.heap[w.heap.size + 1]? = some (.cells #[.int .i64 (P : Int)] 3 (0, 0)) := by rw [hVe, set_block hatW, hP]; simp
                      have hsbV : V.heap[w.heap.size]? = some (.cells #[.string (bs s)] 9 (0, 0)) := by rw [hVe, Below.heap_setCell _ _ _ _ (by simp)]; exact hsbW
                      have hoV : V.ownsRow (w.heap.size + 2) 5 1 (.slice ao made.length cp) made.length (bytesV made) := by rw [hVe]; exact ownsRow_setCell_other (a := ⟨w.heap.size + 1, 0, none⟩) hoW (own_apart hoW hatW (by decide)) _
                      have hbV : Below w.heap.size w V := by rw [hVe]; exact hbW.setCell (p := ⟨w.heap.size + 1, 0, none⟩) (by simp) _
                      have hsV : w.heap.size + 2 ≤ V.heap.size := by rw [hVe]; simpa [World.setCell] using hsW
                      have HVe := hide hVe
                      have HW9 := hide (And.intro hatW (And.intro hsbW (And.intro hoW hbW)))
                      have HPs := hide hP
                      have hPs : P ≤ s.length := by omega
                      have hPp : p < P := by omega
                      clear hP hVe hatW hsbW hoW hbW dW aW azW hcut hlow hlow2 d0 a0 az
                      have dV := cell_of_one hsbV
                      have aV := cell_of_one hatV
                      have azV := free_of_one hatV
                      have HEl : Hid (elemB n (s.drop p) made = againB n (h / 4 + 1) (m) (s.drop P) made) := by show _ = _; unfold elemB; rw [HOne.out]; simp only; rw [if_neg m0, if_neg m1, if_pos m2, HCut.out]
                      by_cases g1 : 1 ≤ (m)
                      · have g1' : ¬ (m : Int) < 1 := by omega
                        by_cases g2 : (m) ≤ made.length
                        · have g2' : ¬ (made.length : Int) < (m : Int) := by omega
                          have g2n : ¬ made.length < (m) := by omega
                          by_cases g3 : (h / 4 + 1) + made.length ≤ n
                          · have g3' : ¬ (n : Int) < (made.length : Int) + ((h : Int) / 4 + 1) := by omega
                            have HStep := HGo.out _ _ (by rw [HEl.out, againB, if_pos ⟨g3, g1, g2⟩])
                            have HS2 := hide HStep
                            clear HStep
                            go_wp2
                            clear dV aV azV
                            go_loopw [10, 18] (fun out i wk => ∃ q : Nat, q ≤ (h / 4 + 1) ∧ i = .int .i64 q ∧ Below (w.heap.size + 2) V wk ∧ wk.ownsRow (w.heap.size + 2) 5 1 out (copyB ((m)) q made).length (bytesV (copyB ((m)) q made))) (fun _ i _ => (h / 4 + 1) - (intOf i).toNat)
                            case atStart => exact ⟨0, by omega, rfl, Below.refl _ _, hoV⟩
                            case round =>
                              obtain ⟨q, hq, rfl, hbk, hok⟩ := hrel
                              rename World => wk
                              have hatk := (hbk.block (w.heap.size + 1) (by omega)).trans hatV
                              have hsbk := (hbk.block w.heap.size (by omega)).trans hsbV
                              have dk := cell_of_one hsbk
                              have ak := cell_of_one hatk
                              have azk := free_of_one hatk
                              have hml := copyB_length ((m)) q made
                              by_cases hq2 : q < (h / 4 + 1)
                              · have hq3 : (q : Int) < ((h : Int) / 4 + 1) := by omega
                                have HSn : Hid (copyB ((m)) (q + 1) made = copyB ((m)) q made ++ [(copyB ((m)) q made).getD ((copyB ((m)) q made).length - ((m))) 0]) := copyB_snoc ((m)) q made
                                obtain ⟨M, HM⟩ : ∃ M, Hid (copyB ((m)) q made = M) := ⟨_, hide rfl⟩
                                rw [HM.out] at hml hok HSn
                                obtain ⟨ao2, cp2, rfl⟩ := own_shape hok
                                obtain ⟨x, hx⟩ : ∃ x, x = M.length - ((m)) := ⟨_, rfl⟩
                                have hxl : x < M.length := by omega
                                have hxi : (M.length : Int) - (m : Int) = (x : Int) := by omega
                                have HC : Hid (M.getD (M.length - ((m))) 0 = M[x]) := by show _ = _; rw [← hx]; exact getD_get M x hxl
                                obtain ⟨gm, rfl⟩ : ∃ gm, ao2 = some ⟨gm, 0, none⟩ := by
                                  rcases hok.2 with ⟨_, h0⟩ | ⟨g, cap, cur, e, _⟩
                                  · omega
                                  · simp at e; exact ⟨g, e.1⟩
                                have hcell := World.ownsRow.cells hok (g := gm) rfl x (.int .u8 (M[x].toNat : Int)) (by simp [bytesV, hxl])
                                rw [Addr.add_lit] at hcell
                                simp only [Nat.zero_add] at hcell
                                have HLQ : M.length ≤ 1000000 := by omega
                                have hszk : w.heap.size + 2 ≤ wk.heap.size := by have := hbk.size; omega
                                have HMl := hide hml
                                have HX := hide hx
                                clear hml hx
                                go_wp2_with (at_builtin; go_must (refine append_byte rfl (.tmp 146) (.tmp 154) rfl (w.heap.size + 2) (.slice (some ⟨gm, 0, none⟩) M.length cp2) M M[x] _ rfl rfl hok rfl HLQ hszk ?_); intro ao3 cp3 w7 hown7 hb7)
                                go_roundw
                                case rel => exact ⟨q + 1, by omega, by go_num, hbk.trans hb7, by rw [HSn.out, HC.out]; exact hown7⟩
                                case measure => simp [intOf]; omega
                              · have hq3 : ¬ (q : Int) < ((h : Int) / 4 + 1) := by omega
                                obtain rfl : q = (h / 4 + 1) := by omega
                                go_wp2
                                go_roundw
                                case rel => exact ⟨P, _, hPs, by rw [hml]; omega, hsbk, hatk, hok, hbV.trans (hbk.mono (by omega)), by have := hbk.size; omega, by show _ = _; rw [HS2.out]⟩
                                case measure =>
                                  simp only [atOf, hat, hatk]
                                  simp [intOf]
                                  omega
                          · have g3' : (n : Int) < (made.length : Int) + ((h : Int) / 4 + 1) := by omega
                            have HE := hide (HBad.out (by rw [HEl.out, againB, if_neg (fun h => g3 h.1)]))
                            go_wp2
                            go_ret2
                            exact ⟨by rw [HE.out]; rfl, hbV⟩
                        · have g2' : (made.length : Int) < (m : Int) := by omega
                          have HE := hide (HBad.out (by rw [HEl.out, againB, if_neg (fun h => g2 h.2.2)]))
                          go_wp2
                          go_ret2
                          exact ⟨by rw [HE.out]; rfl, hbV⟩
                      · have g1' : (m : Int) < 1 := by omega
                        have HE := hide (HBad.out (by rw [HEl.out, againB, if_neg (fun h => g1 h.2.1)]))
                        go_wp2
                        go_ret2
                        exact ⟨by rw [HE.out]; rfl, hbV⟩
                    · refine (little_none_i W (w.heap.size + 1) w.heap.size (p + 1) (2) _ _ s hatW hsbW hs (by omega) (by omega) (by omega) (by omega) (by omega)).mono ?_
                      rintro e V ⟨rfl, rfl⟩
                      have hcut := cutLow_out (2) (p + 1) s (by omega) (by omega)
                      have HE := hide (HBad.out (by unfold elemB; rw [HOne.out]; simp only; rw [if_neg m0, if_neg m1, if_pos m2, hcut]))
                      rw [← HWW.out] at dW aW azW
                      clear hcut
                      go_wp2
                      go_ret2
                      exact ⟨by rw [HE.out]; rfl, hbW⟩
                  · as_aux_lemma =>
                    have t1 : ((h : Int) % 4 == 1) = false := by rw [beq_eq_false_iff_ne]; omega
                    have t2 : ((h : Int) % 4 == 2) = false := by rw [beq_eq_false_iff_ne]; omega
                    have t3 : ((h : Int) % 4 == 3) = true := by rw [beq_iff_eq]; omega
                    have hsW2 : p + 1 ≤ s.length := by omega
                    go_wp2_with fail
                    rw [← HWW.out]
                    by_cases kz : p + 1 + 4 ≤ s.length
                    · refine (little_some_i W (w.heap.size + 1) w.heap.size (p + 1) (4) _ _ s hatW hsbW hs (by omega) (by omega) (by omega) kz).mono ?_
                      rintro e V ⟨rfl, hVe⟩
                      obtain ⟨P, hP⟩ : ∃ P, P = p + 1 + 4 := ⟨_, rfl⟩
                      have hcut := cutLow_at (4) (p + 1) s kz
                      rw [← hP] at hcut
                      have hlow := (cutLow_some hcut).2.2.2.1
                      have hlow2 : 256 ^ (4) ≤ 256 ^ 4 := Nat.pow_le_pow_right (by omega) (by omega)
                      obtain ⟨m, Hm⟩ : ∃ m, Hid (lowB ((s.drop (p + 1)).take (4)) = m) := ⟨_, hide rfl⟩
                      rw [Hm.out] at hcut hlow ⊢
                      have HCut := hide hcut
                      have hm4 : m < 4294967296 := by omega
                      have hatV : V.heap[w.heap.size + 1]? = some (.cells #[.int .i64 (P : Int)] 3 (0, 0)) := by rw [hVe, set_block hatW, hP]; simp
                      have hsbV : V.heap[w.heap.size]? = some (.cells #[.string (bs s)] 9 (0, 0)) := by rw [hVe, Below.heap_setCell _ _ _ _ (by simp)]; exact hsbW
                      have hoV : V.ownsRow (w.heap.size + 2) 5 1 (.slice ao made.length cp) made.length (bytesV made) := by rw [hVe]; exact ownsRow_setCell_other (a := ⟨w.heap.size + 1, 0, none⟩) hoW (own_apart hoW hatW (by decide)) _
                      have hbV : Below w.heap.size w V := by rw [hVe]; exact hbW.setCell (p := ⟨w.heap.size + 1, 0, none⟩) (by simp) _
                      have hsV : w.heap.size + 2 ≤ V.heap.size := by rw [hVe]; simpa [World.setCell] using hsW
                      have HVe := hide hVe
                      have HW9 := hide (And.intro hatW (And.intro hsbW (And.intro hoW hbW)))
                      have HPs := hide hP
                      have hPs : P ≤ s.length := by omega
                      have hPp : p < P := by omega
                      clear hP hVe hatW hsbW hoW hbW dW aW azW hcut hlow hlow2 d0 a0 az
                      have dV := cell_of_one hsbV
                      have aV := cell_of_one hatV
                      have azV := free_of_one hatV
                      have HEl : Hid (elemB n (s.drop p) made = againB n (h / 4 + 1) (m) (s.drop P) made) := by show _ = _; unfold elemB; rw [HOne.out]; simp only; rw [if_neg m0, if_neg m1, if_neg m2, HCut.out]
                      by_cases g1 : 1 ≤ (m)
                      · have g1' : ¬ (m : Int) < 1 := by omega
                        by_cases g2 : (m) ≤ made.length
                        · have g2' : ¬ (made.length : Int) < (m : Int) := by omega
                          have g2n : ¬ made.length < (m) := by omega
                          by_cases g3 : (h / 4 + 1) + made.length ≤ n
                          · have g3' : ¬ (n : Int) < (made.length : Int) + ((h : Int) / 4 + 1) := by omega
                            have HStep := HGo.out _ _ (by rw [HEl.out, againB, if_pos ⟨g3, g1, g2⟩])
                            have HS2 := hide HStep
                            clear HStep
                            go_wp2
                            clear dV aV azV
                            go_loopw [10, 18] (fun out i wk => ∃ q : Nat, q ≤ (h / 4 + 1) ∧ i = .int .i64 q ∧ Below (w.heap.size + 2) V wk ∧ wk.ownsRow (w.heap.size + 2) 5 1 out (copyB ((m)) q made).length (bytesV (copyB ((m)) q made))) (fun _ i _ => (h / 4 + 1) - (intOf i).toNat)
                            case atStart => exact ⟨0, by omega, rfl, Below.refl _ _, hoV⟩
                            case round =>
                              obtain ⟨q, hq, rfl, hbk, hok⟩ := hrel
                              rename World => wk
                              have hatk := (hbk.block (w.heap.size + 1) (by omega)).trans hatV
                              have hsbk := (hbk.block w.heap.size (by omega)).trans hsbV
                              have dk := cell_of_one hsbk
                              have ak := cell_of_one hatk
                              have azk := free_of_one hatk
                              have hml := copyB_length ((m)) q made
                              by_cases hq2 : q < (h / 4 + 1)
                              · have hq3 : (q : Int) < ((h : Int) / 4 + 1) := by omega
                                have HSn : Hid (copyB ((m)) (q + 1) made = copyB ((m)) q made ++ [(copyB ((m)) q made).getD ((copyB ((m)) q made).length - ((m))) 0]) := copyB_snoc ((m)) q made
                                obtain ⟨M, HM⟩ : ∃ M, Hid (copyB ((m)) q made = M) := ⟨_, hide rfl⟩
                                rw [HM.out] at hml hok HSn
                                obtain ⟨ao2, cp2, rfl⟩ := own_shape hok
                                obtain ⟨x, hx⟩ : ∃ x, x = M.length - ((m)) := ⟨_, rfl⟩
                                have hxl : x < M.length := by omega
                                have hxi : (M.length : Int) - (m : Int) = (x : Int) := by omega
                                have HC : Hid (M.getD (M.length - ((m))) 0 = M[x]) := by show _ = _; rw [← hx]; exact getD_get M x hxl
                                obtain ⟨gm, rfl⟩ : ∃ gm, ao2 = some ⟨gm, 0, none⟩ := by
                                  rcases hok.2 with ⟨_, h0⟩ | ⟨g, cap, cur, e, _⟩
                                  · omega
                                  · simp at e; exact ⟨g, e.1⟩
                                have hcell := World.ownsRow.cells hok (g := gm) rfl x (.int .u8 (M[x].toNat : Int)) (by simp [bytesV, hxl])
                                rw [Addr.add_lit] at hcell
                                simp only [Nat.zero_add] at hcell
                                have HLQ : M.length ≤ 1000000 := by omega
                                have hszk : w.heap.size + 2 ≤ wk.heap.size := by have := hbk.size; omega
                                have HMl := hide hml
                                have HX := hide hx
                                clear hml hx
                                go_wp2_with (at_builtin; go_must (refine append_byte rfl (.tmp 146) (.tmp 154) rfl (w.heap.size + 2) (.slice (some ⟨gm, 0, none⟩) M.length cp2) M M[x] _ rfl rfl hok rfl HLQ hszk ?_); intro ao3 cp3 w7 hown7 hb7)
                                go_roundw
                                case rel => exact ⟨q + 1, by omega, by go_num, hbk.trans hb7, by rw [HSn.out, HC.out]; exact hown7⟩
                                case measure => simp [intOf]; omega
                              · have hq3 : ¬ (q : Int) < ((h : Int) / 4 + 1) := by omega
                                obtain rfl : q = (h / 4 + 1) := by omega
                                go_wp2
                                go_roundw
                                case rel => exact ⟨P, _, hPs, by rw [hml]; omega, hsbk, hatk, hok, hbV.trans (hbk.mono (by omega)), by have := hbk.size; omega, by show _ = _; rw [HS2.out]⟩
                                case measure =>
                                  simp only [atOf, hat, hatk]
                                  simp [intOf]
                                  omega
                          · have g3' : (n : Int) < (made.length : Int) + ((h : Int) / 4 + 1) := by omega
                            have HE := hide (HBad.out (by rw [HEl.out, againB, if_neg (fun h => g3 h.1)]))
                            go_wp2
                            go_ret2
                            exact ⟨by rw [HE.out]; rfl, hbV⟩
                        · have g2' : (made.length : Int) < (m : Int) := by omega
                          have HE := hide (HBad.out (by rw [HEl.out, againB, if_neg (fun h => g2 h.2.2)]))
                          go_wp2
                          go_ret2
                          exact ⟨by rw [HE.out]; rfl, hbV⟩
                      · have g1' : (m : Int) < 1 := by omega
                        have HE := hide (HBad.out (by rw [HEl.out, againB, if_neg (fun h => g1 h.2.1)]))
                        go_wp2
                        go_ret2
                        exact ⟨by rw [HE.out]; rfl, hbV⟩
                    · refine (little_none_i W (w.heap.size + 1) w.heap.size (p + 1) (4) _ _ s hatW hsbW hs (by omega) (by omega) (by omega) (by omega) (by omega)).mono ?_
                      rintro e V ⟨rfl, rfl⟩
                      have hcut := cutLow_out (4) (p + 1) s (by omega) (by omega)
                      have HE := hide (HBad.out (by unfold elemB; rw [HOne.out]; simp only; rw [if_neg m0, if_neg m1, if_neg m2, hcut]))
                      rw [← HWW.out] at dW aW azW
                      clear hcut
                      go_wp2
                      go_ret2
                      exact ⟨by rw [HE.out]; rfl, hbW⟩
            · have hlt' : ¬ (p : Int) < s.length := by omega
              have HN : Hid (s.drop p = []) := List.drop_eq_nil_of_le (by omega)
              by_cases hfull : made.length < n
              · have hne : ((made.length : Int) != n) = true := by simp; omega
                have HE : Hid (unpackB s most = (1, [])) := by show _ = _; rw [hE.out, HR.out, HN.out, unpB_nil, if_pos hfull]
                go_wp2
                go_ret2
                exact ⟨by rw [HE.out]; rfl, hbel⟩
              · have hne : ((made.length : Int) != n) = false := by simp; omega
                have HE : Hid (unpackB s most = (0, made)) := by show _ = _; rw [hE.out, HR.out, HN.out, unpB_nil, if_neg hfull]
                have hcv := run_bytesStr (P := Tryz.prog) Tryz.underlying63 Tryz.underlying5 Tryz.underlying9 ho
                go_wp2
                go_ret2
                exact ⟨by rw [HE.out]; rfl, hbel⟩
      · rw [hn]
        have HE : Hid (unpackB s most = (1, [])) := by show _ = _; rw [HU.out, hc]
        have hne : ((e : Int) != 0) = true := by simp; omega
        clear he hc hn
        go_wp2
        go_ret2
        exact ⟨by rw [HE.out]; rfl, hBox.alloc hBox.size _⟩
theorem Tryz.infoF : (Tryz.prog.info? 88).map (fun i => (i.zero, i.size, i.bytes)) = some (some (.agg #[.int .i64 0, .int .i64 0, .int .u64 0, .string ⟨#[]⟩]), 4, 40) := by kernel_rfl
def rawCells : List Fld → List Value
  | [] => []
  | f :: l => .int .i64 ((f.1 : Int) / 8) :: .int .i64 ((f.1 : Int) % 8) :: .int .u64 f.2.1 :: .string (bs f.2.2) :: rawCells l
theorem rawCells_snoc (l : List Fld) (x : Fld) : rawCells (l ++ [x]) = rawCells l ++ [.int .i64 ((x.1 : Int) / 8), .int .i64 ((x.1 : Int) % 8), .int .u64 x.2.1, .string (bs x.2.2)] := by
  induction l with
  | nil => rfl
  | cons y l ih => simp [rawCells, ih]
theorem rawCells_at : ∀ (l : List Fld) (i : Nat) (h : i < l.length), (rawCells l)[i * 4]? = some (.int .i64 ((l[i].1 : Int) / 8)) ∧ (rawCells l)[i * 4 + 1]? = some (.int .i64 ((l[i].1 : Int) % 8)) ∧ (rawCells l)[i * 4 + 2]? = some (.int .u64 l[i].2.1) ∧ (rawCells l)[i * 4 + 3]? = some (.string (bs l[i].2.2))
  | [], i, h => by simp at h
  | x :: l, 0, h => ⟨rfl, rfl, rfl, rfl⟩
  | x :: l, i + 1, h => by
    have e : (i + 1) * 4 = i * 4 + 1 + 1 + 1 + 1 := by omega
    have := rawCells_at l i (by simpa using h)
    rw [e]
    simpa [rawCells] using this
def ownRaws (w : World) (B : Nat) (v : Value) (ls : List Fld) : Prop := w.ownsRow B 88 4 v ls.length (rawCells ls)
theorem numAt_facts (l : List UInt8) : (∃ key n, numAt l = (key, n, 0) ∧ 1 ≤ n ∧ n ≤ l.length ∧ key < 18446744073709551616 ∧ cutNum l = some (key, l.drop n)) ∨ (∃ e, (e = 1 ∨ e = 3) ∧ numAt l = (0, 0, e) ∧ cutNum l = none) := by
  rcases numAt_read l with ⟨h1, h2⟩ | ⟨h1, h2⟩
  · left
    have hr := readNum_le l
    rw [h2] at hr
    refine ⟨(numAt l).1, (numAt l).2.1, ?_, hr.2.1 h1, hr.1, hr.2.2, ?_⟩
    · rw [← h1]
    · rw [cutNum_at, if_pos h1]
  · right
    refine ⟨(numAt l).2.2, ?_, ?_, ?_⟩
    · unfold numAt at h1 ⊢
      split
      · exact .inl rfl
      · split
        · exact .inr rfl
        · rename_i c1 c2
          rw [if_neg c1, if_neg c2] at h1
          exact absurd rfl h1
    · unfold numAt at h1 ⊢
      split
      · rfl
      · split
        · rfl
        · rename_i c1 c2
          rw [if_neg c1, if_neg c2] at h1
          exact absurd rfl h1
    · rw [cutNum_at, if_neg h1]
theorem take_rest (l : List UInt8) (p : Nat) : (l.drop p).take (l.length - p) = l.drop p := List.take_of_length_le (by rw [List.length_drop]; exact Nat.le_refl _)
theorem four_cells {w : World} {b : Nat} {x y z u : Value} {t : TypeId} (h : w.heap[b]? = some (.cells #[x, y, z, u] t (0, 0))) : (w.cell? ⟨b, 0, none⟩ = some x ∧ w.cell? ⟨b, 1, none⟩ = some y ∧ w.cell? ⟨b, 2, none⟩ = some z ∧ w.cell? ⟨b, 3, none⟩ = some u) ∧ w.frozen? ⟨b, 0, none⟩ = false ∧ w.frozen? ⟨b, 1, none⟩ = false ∧ w.frozen? ⟨b, 2, none⟩ = false ∧ w.frozen? ⟨b, 3, none⟩ = false := by simp [World.cell?, World.frozen?, h]
/-- One field more, in the row that a call owns: as the walk has it. -/
theorem append_fld {wr : World} {ops : Array Oper} {rest : List Oper} {o : Oper} {a : Act} {Q : Exit → Act → World → Prop} (hgd : o.guard = none) (s x : Operand)
    (ho : o.op = .call { callee := .builtin .append, args := #[s, x], argTypes := #[84, 84] })
    (base : Nat) (v : Value) (d : List Fld) (f : Fld) (B : ByteArray) (hB : B = bs f.2.2) (hs : a.eval s = v) (hown : ownRaws wr base v d) (hx : a.eval x = .slice (some ⟨wr.heap.size + 1, 0, none⟩) 1 1)
    (hlen : d.length ≤ 1000000) (hbase : base ≤ wr.heap.size)
    (h : ∀ ao cp w', ownRaws w' base (.slice ao (d.length + 1) cp) (d ++ [f]) → Below base wr w' → wpList Tryz.prog ops Q rest (a.put o.dst (.slice ao (d.length + 1) cp)) w') :
    wpList Tryz.prog ops Q (o :: rest) a ((wr.alloc (.cells #[.int .i64 ((f.1 : Int) / 8), .int .i64 ((f.1 : Int) % 8), .int .u64 f.2.1, .string B] 88)).alloc (.cells #[.int .i64 ((f.1 : Int) / 8), .int .i64 ((f.1 : Int) % 8), .int .u64 f.2.1, .string B] 88)) := by
  subst hB
  obtain ⟨i0, hi0, hz0, hz1, hz2⟩ := info_parts Tryz.infoF
  obtain ⟨C, hC⟩ : ∃ C, C = (#[.int .i64 ((f.1 : Int) / 8), .int .i64 ((f.1 : Int) % 8), .int .u64 f.2.1, .string (bs f.2.2)] : Array Value) := ⟨_, rfl⟩
  rw [← hC]
  have hb2 : Below base wr ((wr.alloc (.cells C 88)).alloc (.cells C 88)) := ((Below.refl _ _).alloc hbase _).alloc (by simp; omega) _
  have hg2 : Grow wr ((wr.alloc (.cells C 88)).alloc (.cells C 88)) := ((Grow.refl _).alloc _).alloc _
  have hnew : ((wr.alloc (.cells C 88)).alloc (.cells C 88)).heap[wr.heap.size + 1]? = some (.cells C 88 (0, 0)) := by
    have := heap_alloc_new (wr.alloc (.cells C 88)) (.cells C 88)
    simpa using this
  have hsz := hb2.size
  generalize ((wr.alloc (.cells C 88)).alloc (.cells C 88)) = W at *
  subst hC
  obtain ⟨⟨c0, c1, c2, c3⟩, _⟩ := four_cells hnew
  have hown' := own_grow hown hg2
  refine wpList_append_own _ hgd s x 84 ho base 88 i0 _ 4 40 Tryz.underlying84 hi0 hz0 hz1 hz2 rfl (by omega) v d.length (rawCells d) hs hown' ⟨wr.heap.size + 1, 0, none⟩ 1 1 [.int .i64 ((f.1 : Int) / 8), .int .i64 ((f.1 : Int) % 8), .int .u64 f.2.1, .string (bs f.2.2)] hx rfl (fun j u hu => by
    rw [Addr.add_lit]
    match j, hu with
    | 0, hu => simp at hu; subst hu; simpa using c0
    | 1, hu => simp at hu; subst hu; simpa using c1
    | 2, hu => simp at hu; subst hu; simpa using c2
    | 3, hu => simp at hu; subst hu; simpa using c3) (by simp [Value.oneCell']) (by unfold maxLen; omega) (by omega) (by omega) ?_
  intro v' w' hown2 hgrow _
  obtain ⟨ao, cp, rfl⟩ := own_shape hown2
  refine h ao cp w' ?_ (hb2.grown hgrow (by omega) (fun k hk => (hown'.lt k hk).1))
  show w'.ownsRow _ _ _ _ (d ++ [f]).length (rawCells (d ++ [f]))
  rw [rawCells_snoc, List.length_append]
  exact hown2
set_option maxRecDepth 20000 in
set_option maxHeartbeats 4000000 in
theorem fieldsOf_any (w : World) (s : List UInt8) (hs : s.length ≤ 1000000) :
    Calls Tryz.prog 59 #[.string (bs s)] w fun e w' => Below w.heap.size w w' ∧
      ((∃ v, (raws s).2 = true ∧ e = .returned (.tuple #[v, .bool true]) ∧ ownRaws w' w.heap.size v (raws s).1) ∨ ((raws s).2 = false ∧ e = .returned (.tuple #[.slice none 0 0, .bool false]))) := by
  go_enter Tryz.func59, Tryz.ntmps59
  go_wp2
  go_loopw [4, 5] (fun out at' wr => ∃ (p : Nat) (d : List Fld), p ≤ s.length ∧ at' = .int .i64 p ∧ d.length ≤ p ∧ ownRaws wr w.heap.size out d ∧ Hid (raws s = (d ++ (raws (s.drop p)).1, (raws (s.drop p)).2)) ∧ Below w.heap.size w wr) (fun _ i _ => s.length - (intOf i).toNat)
  case atStart => exact ⟨0, [], by omega, rfl, by simp, World.ownsRow_nil _ _ _ _, hide (by simp), Below.refl _ _⟩
  case round =>
    obtain ⟨p, d, hp, rfl, hd, ho, HR, hb⟩ := hrel
    obtain ⟨ao, cp, rfl⟩ := own_shape ho
    by_cases hlt : p < s.length
    · have hLl : (s.drop p).length = s.length - p := List.length_drop ..
      have HNe : Hid (s.drop p ≠ []) := fun e => by rw [e] at hLl; simp at hLl; omega
      have HBad : Hid (rawField (s.drop p) = none → (raws s).2 = false) := fun h => by rw [HR.out, raws_none HNe.out h]
      have hq0 : (List.drop p s).take (s.length - p) = s.drop p := take_rest s p
      go_wp2_with fail
      refine (numberAt_any (s.drop p) _ (by omega)).mono ?_
      rintro e w2 ⟨rfl, rfl⟩
      rename World => wr
      rcases numAt_facts (s.drop p) with ⟨key, n, hn, h1, h2, h3, hc⟩ | ⟨e, he, hn, hc⟩
      · rw [hn]
        have hq : IntKind.u64.wrap ((key : Int) / 8) = (key : Int) / 8 := wrap_u64_small _ (by omega) (by omega)
        have HC := hide hc
        have HN := hide hn
        clear hc hn
        by_cases b1 : (key : Int) / 8 < 1
        · have HW : Hid (rawField (s.drop p) = none) := by show _ = _; unfold rawField; rw [HC.out]; simp only; rw [if_pos (by omega)]
          go_wp2
          go_ret2
          exact ⟨hb, .inr ⟨HBad.out HW.out, rfl⟩⟩
        · by_cases b2 : 536870911 < (key : Int) / 8
          · have HW : Hid (rawField (s.drop p) = none) := by show _ = _; unfold rawField; rw [HC.out]; simp only; rw [if_pos (by omega)]
            go_wp2
            go_ret2
            exact ⟨hb, .inr ⟨HBad.out HW.out, rfl⟩⟩
          · have hk1 : ¬ (key / 8 < 1 ∨ 536870911 < key / 8) := by omega
            have HK := hide hk1
            have hq2 : IntKind.i64.wrap ((key : Int) / 8) = (key : Int) / 8 := wrap_i64_small _ (by omega) (by omega)
            have hq3 : IntKind.i64.wrap ((key : Int) % 8) = (key : Int) % 8 := wrap_i64_small _ (by omega) (by omega)
            have hq4 : IntKind.u64.wrap ((key : Int) % 8) = (key : Int) % 8 := wrap_u64_small _ (by omega) (by omega)
            have hdd : (s.drop p).drop n = s.drop (p + n) := by rw [List.drop_drop]
            rw [hdd] at HC
            have hL2 : (s.drop (p + n)).length = s.length - (p + n) := List.length_drop ..
            have hq1 : (List.drop (p + n) s).take (s.length - (p + n)) = s.drop (p + n) := take_rest s (p + n)
            rw [hLl] at h2
            clear hk1 hdd hLl
            by_cases m0 : key % 8 = 0
            · have t0 : ((key : Int) % 8 == 0) = true := by rw [beq_iff_eq]; omega
              go_wp2_with fail
              refine (numberAt_any (s.drop (p + n)) _ (by omega)).mono ?_
              rintro e w2 ⟨rfl, rfl⟩
              rcases numAt_facts (s.drop (p + n)) with ⟨n2, sz, hn, k1, k2, k3, hc⟩ | ⟨e, he, hn, hc⟩
              · rw [hn]
                have HC2 := hide hc
                clear hc hn
                rw [hL2] at k2
                have HF : Hid (rawField (s.drop p) = some ((key, n2, []), s.drop (p + n + sz))) := by
                  show _ = _
                  unfold rawField
                  rw [HC.out]
                  simp only
                  rw [if_neg HK.out, if_pos m0, HC2.out]
                  simp only [List.drop_drop]
                have hd1 : d.length ≤ 1000000 := by omega
                have HS := hide hb.size
                go_wp2_with (at_builtin; go_must (refine append_fld rfl (.tmp 101) (.tmp 103) rfl w.heap.size (.slice ao d.length cp) d (key, n2, []) _ rfl rfl ho rfl hd1 HS.out ?_); intro ao2 cp2 w3 hown3 hb3)
                go_roundw
                case rel => exact ⟨p + n + sz, d ++ [(key, n2, [])], by omega, by go_num, by simp; omega, by simpa using hown3, by show _ = _; rw [HR.out, raws_some HNe.out HF.out]; simp, hb.trans hb3⟩
                case measure => simp [intOf]; omega
              · rw [hn]
                have HW : Hid (rawField (s.drop p) = none) := by
                  show _ = _
                  unfold rawField
                  rw [HC.out]
                  simp only
                  rw [if_neg HK.out, if_pos m0, hc]
                have hne : ((e : Int) != 0) = true := by simp; omega
                clear he hc hn
                go_wp2
                go_ret2
                exact ⟨hb.alloc hb.size _, .inr ⟨HBad.out HW.out, rfl⟩⟩
            · by_cases m1 : key % 8 = 1
              · have t0 : ((key : Int) % 8 == 0) = false := by rw [beq_eq_false_iff_ne]; omega
                have t1 : ((key : Int) % 8 == 1) = true := by rw [beq_iff_eq]; omega
                have hw : IntKind.u64.wrap ((s.length : Int) - ((p : Int) + (n : Int))) = (s.length : Int) - ((p : Int) + (n : Int)) := wrap_u64_small _ (by omega) (by omega)
                by_cases c : 8 ≤ s.length - (p + n)
                · have HF : Hid (rawField (s.drop p) = some ((key, 0, (s.drop (p + n)).take 8), s.drop (p + n + 8))) := by
                    show _ = _
                    unfold rawField
                    rw [HC.out]
                    simp only
                    rw [if_neg HK.out]
                    rw [if_neg (by omega)]
                    rw [if_pos m1, if_pos (by rw [hL2]; exact c)]
                    simp only [List.drop_drop]
                  have hd1 : d.length ≤ 1000000 := by omega
                  have HS := hide hb.size
                  have c' : ¬ (s.length : Int) - ((p : Int) + (n : Int)) < 8 := by omega
                  go_wp2_with (at_builtin; go_must (refine append_fld rfl (.tmp 101) (.tmp 103) rfl w.heap.size (.slice ao d.length cp) d (key, 0, (s.drop (p + n)).take 8) _ (by first | rfl | (congr 2; omega) | simp) rfl ho rfl hd1 HS.out ?_); intro ao2 cp2 w3 hown3 hb3)
                  go_roundw
                  case rel => exact ⟨p + n + 8, d ++ [(key, 0, (s.drop (p + n)).take 8)], by omega, by go_num, by simp; omega, by simpa using hown3, by show _ = _; rw [HR.out, raws_some HNe.out HF.out]; simp, hb.trans hb3⟩
                  case measure => simp [intOf]; omega
                · have HW : Hid (rawField (s.drop p) = none) := by
                    show _ = _
                    unfold rawField
                    rw [HC.out]
                    simp only
                    rw [if_neg HK.out]
                    rw [if_neg (by omega)]
                    rw [if_pos m1, if_neg (by rw [hL2]; exact c)]
                  have c' : (s.length : Int) - ((p : Int) + (n : Int)) < 8 := by omega
                  go_wp2
                  go_ret2
                  exact ⟨hb.alloc hb.size _, .inr ⟨HBad.out HW.out, rfl⟩⟩
              · by_cases m2 : key % 8 = 2
                · have t0 : ((key : Int) % 8 == 0) = false := by rw [beq_eq_false_iff_ne]; omega
                  have t1 : ((key : Int) % 8 == 1) = false := by rw [beq_eq_false_iff_ne]; omega
                  have t2 : ((key : Int) % 8 == 2) = true := by rw [beq_iff_eq]; omega
                  go_wp2_with fail
                  refine (numberAt_any (s.drop (p + n)) _ (by omega)).mono ?_
                  rintro e w2 ⟨rfl, rfl⟩
                  rcases numAt_facts (s.drop (p + n)) with ⟨n2, sz, hn, k1, k2, k3, hc⟩ | ⟨e, he, hn, hc⟩
                  · rw [hn]
                    have HC2 := hide hc
                    clear hc hn
                    rw [hL2] at k2
                    have hL3 : (s.drop (p + n + sz)).length = s.length - (p + n + sz) := List.length_drop ..
                    have hw : IntKind.u64.wrap ((s.length : Int) - ((p : Int) + (n : Int) + (sz : Int))) = (s.length : Int) - ((p : Int) + (n : Int) + (sz : Int)) := wrap_u64_small _ (by omega) (by omega)
                    by_cases c : n2 ≤ s.length - (p + n + sz)
                    · have HF : Hid (rawField (s.drop p) = some ((key, 0, (s.drop (p + n + sz)).take n2), s.drop (p + n + sz + n2))) := by
                        show _ = _
                        unfold rawField
                        rw [HC.out]
                        simp only
                        rw [if_neg HK.out, if_neg (by omega), if_neg (by omega), if_pos m2, HC2.out]
                        simp only
                        rw [List.drop_drop, if_pos (by rw [hL3]; exact c)]
                        simp only [List.drop_drop]
                      have hd1 : d.length ≤ 1000000 := by omega
                      have HS := hide hb.size
                      have c' : ¬ (s.length : Int) - ((p : Int) + (n : Int) + (sz : Int)) < n2 := by omega
                      have hw2 : IntKind.i64.wrap (n2 : Int) = (n2 : Int) := wrap_i64_small _ (by omega) (by omega)
                      go_wp2_with (at_builtin; go_must (refine append_fld rfl (.tmp 101) (.tmp 103) rfl w.heap.size (.slice ao d.length cp) d (key, 0, (s.drop (p + n + sz)).take n2) _ (by first | rfl | (congr 2; omega) | simp) rfl ho rfl hd1 HS.out ?_); intro ao2 cp2 w3 hown3 hb3)
                      go_roundw
                      case rel => exact ⟨p + n + sz + n2, d ++ [(key, 0, (s.drop (p + n + sz)).take n2)], by omega, by go_num, by simp; omega, by simpa using hown3, by show _ = _; rw [HR.out, raws_some HNe.out HF.out]; simp, hb.trans hb3⟩
                      case measure => simp [intOf]; omega
                    · have HW : Hid (rawField (s.drop p) = none) := by
                        show _ = _
                        unfold rawField
                        rw [HC.out]
                        simp only
                        rw [if_neg HK.out, if_neg (by omega), if_neg (by omega), if_pos m2, HC2.out]
                        simp only
                        rw [List.drop_drop, if_neg (by rw [hL3]; exact c)]
                      have c' : (s.length : Int) - ((p : Int) + (n : Int) + (sz : Int)) < n2 := by omega
                      go_wp2
                      go_ret2
                      exact ⟨hb.alloc hb.size _, .inr ⟨HBad.out HW.out, rfl⟩⟩
                  · rw [hn]
                    have HW : Hid (rawField (s.drop p) = none) := by
                      show _ = _
                      unfold rawField
                      rw [HC.out]
                      simp only
                      rw [if_neg HK.out, if_neg (by omega), if_neg (by omega), if_pos m2, hc]
                    have hne : ((e : Int) != 0) = true := by simp; omega
                    clear he hc hn
                    go_wp2
                    go_ret2
                    exact ⟨hb.alloc hb.size _, .inr ⟨HBad.out HW.out, rfl⟩⟩
                · by_cases m5 : key % 8 = 5
                  · have t0 : ((key : Int) % 8 == 0) = false := by rw [beq_eq_false_iff_ne]; omega
                    have t1 : ((key : Int) % 8 == 1) = false := by rw [beq_eq_false_iff_ne]; omega
                    have t2 : ((key : Int) % 8 == 2) = false := by rw [beq_eq_false_iff_ne]; omega
                    have t5 : ((key : Int) % 8 == 5) = true := by rw [beq_iff_eq]; omega
                    have hw : IntKind.u64.wrap ((s.length : Int) - ((p : Int) + (n : Int))) = (s.length : Int) - ((p : Int) + (n : Int)) := wrap_u64_small _ (by omega) (by omega)
                    by_cases c : 4 ≤ s.length - (p + n)
                    · have HF : Hid (rawField (s.drop p) = some ((key, 0, (s.drop (p + n)).take 4), s.drop (p + n + 4))) := by
                        show _ = _
                        unfold rawField
                        rw [HC.out]
                        simp only
                        rw [if_neg HK.out]
                        rw [if_neg (by omega)]; rw [if_neg (by omega)]; rw [if_neg (by omega)]
                        rw [if_pos m5, if_pos (by rw [hL2]; exact c)]
                        simp only [List.drop_drop]
                      have hd1 : d.length ≤ 1000000 := by omega
                      have HS := hide hb.size
                      have c' : ¬ (s.length : Int) - ((p : Int) + (n : Int)) < 4 := by omega
                      go_wp2_with (at_builtin; go_must (refine append_fld rfl (.tmp 101) (.tmp 103) rfl w.heap.size (.slice ao d.length cp) d (key, 0, (s.drop (p + n)).take 4) _ (by first | rfl | (congr 2; omega) | simp) rfl ho rfl hd1 HS.out ?_); intro ao2 cp2 w3 hown3 hb3)
                      go_roundw
                      case rel => exact ⟨p + n + 4, d ++ [(key, 0, (s.drop (p + n)).take 4)], by omega, by go_num, by simp; omega, by simpa using hown3, by show _ = _; rw [HR.out, raws_some HNe.out HF.out]; simp, hb.trans hb3⟩
                      case measure => simp [intOf]; omega
                    · have HW : Hid (rawField (s.drop p) = none) := by
                        show _ = _
                        unfold rawField
                        rw [HC.out]
                        simp only
                        rw [if_neg HK.out]
                        rw [if_neg (by omega)]; rw [if_neg (by omega)]; rw [if_neg (by omega)]
                        rw [if_pos m5, if_neg (by rw [hL2]; exact c)]
                      have c' : (s.length : Int) - ((p : Int) + (n : Int)) < 4 := by omega
                      go_wp2
                      go_ret2
                      exact ⟨hb.alloc hb.size _, .inr ⟨HBad.out HW.out, rfl⟩⟩
                  · have t0 : ((key : Int) % 8 == 0) = false := by rw [beq_eq_false_iff_ne]; omega
                    have t1 : ((key : Int) % 8 == 1) = false := by rw [beq_eq_false_iff_ne]; omega
                    have t2 : ((key : Int) % 8 == 2) = false := by rw [beq_eq_false_iff_ne]; omega
                    have t5 : ((key : Int) % 8 == 5) = false := by rw [beq_eq_false_iff_ne]; omega
                    have HW : Hid (rawField (s.drop p) = none) := by
                      show _ = _
                      unfold rawField
                      rw [HC.out]
                      simp only
                      rw [if_neg HK.out, if_neg m0, if_neg m1, if_neg m2, if_neg m5]
                    go_wp2
                    go_ret2
                    exact ⟨hb.alloc hb.size _, .inr ⟨HBad.out HW.out, rfl⟩⟩
      · rw [hn]
        have HC := hide hc
        clear hc hn
        have hne : ((e : Int) != 0) = true := by simp; omega
        clear he
        go_wp2
        go_ret2
        exact ⟨hb, .inr ⟨HBad.out (by unfold rawField; rw [HC.out]), rfl⟩⟩
    · have HE : Hid (s.drop p = []) := List.drop_eq_nil_of_le (by omega)
      have HD : Hid ((raws s).1 = d ∧ (raws s).2 = true) := by
        show _ ∧ _
        rw [HR.out, HE.out, raws_nil]
        simp
      go_wp2
      go_ret2
      exact ⟨hb, .inl ⟨_, HD.out.2, rfl, by rw [HD.out.1]; exact ho⟩⟩
/-! ### the reference's fields tell what the program's do -/
theorem rawField_in {l r : List UInt8} {f : Fld} (h : rawField l = some (f, r)) : r.length < l.length ∧ 8 ≤ f.1 ∧ f.2.1 < 18446744073709551616 ∧ f.2.2.length ≤ l.length ∧ (f.1 % 8 = 1 → f.2.2.length = 8) := by
  refine ⟨rawField_shorter h, ?_⟩
  unfold rawField at h
  split at h
  · simp at h
  · rename_i hd r0 h0
    have c0 := cutNum_some h0
    split at h
    · simp at h
    · rename_i hb
      split at h
      · split at h
        · simp at h
        · rename_i n r1 h1
          have c1 := cutNum_some h1
          simp at h
          obtain ⟨rfl, rfl⟩ := h
          exact ⟨by show 8 ≤ hd; omega, c1.1, by simp, fun h => by omega⟩
      · split at h
        · split at h
          · rename_i hle
            simp at h
            obtain ⟨rfl, rfl⟩ := h
            exact ⟨by show 8 ≤ hd; omega, by simp, by simp; omega, fun _ => by simp; omega⟩
          · simp at h
        · split at h
          · split at h
            · simp at h
            · rename_i n r1 h1
              have c1 := cutNum_some h1
              split at h
              · simp at h
                obtain ⟨rfl, rfl⟩ := h
                exact ⟨by show 8 ≤ hd; omega, by simp, by simp; omega, fun h => by omega⟩
              · simp at h
          · split at h
            · split at h
              · simp at h
                obtain ⟨rfl, rfl⟩ := h
                exact ⟨by show 8 ≤ hd; omega, by simp, by simp; omega, fun h => by omega⟩
              · simp at h
            · simp at h
def rawIn (n : Nat) (f : Fld) : Prop := 8 ≤ f.1 ∧ f.2.1 < 18446744073709551616 ∧ f.2.2.length ≤ n ∧ (f.1 % 8 = 1 → f.2.2.length = 8)
theorem rawF_in : ∀ (k : Nat) (l : List UInt8), ∀ f ∈ (rawF k l).1, rawIn l.length f
  | 0, l => by simp [rawF]
  | k + 1, l => by
    unfold rawF
    split
    · simp
    · split
      · simp
      · rename_i f r h
        have hs := rawField_in h
        have ih := rawF_in k r
        intro g hg
        rcases List.mem_cons.1 hg with rfl | hg
        · exact hs.2
        · have := ih g hg
          exact ⟨this.1, this.2.1, by have := this.2.2.1; omega, this.2.2.2⟩
theorem raws_in (l : List UInt8) : ∀ f ∈ (raws l).1, rawIn l.length f := rawF_in _ _
theorem raws_len (l : List UInt8) : (raws l).1.length ≤ l.length := by
  have h := (fields_in l).1
  rw [fields_raw] at h
  simpa using h
theorem labRead_raw (b : List UInt8) : labRead b = if (raws b).2 = true then some (labOf ((raws b).1.map asFld)) else none := by
  unfold labRead; rw [fields_raw]
theorem samRead_raw (b : List UInt8) : samRead b = if (raws b).2 = true then some (samOf ((raws b).1.map asFld)) else none := by
  unfold samRead; rw [fields_raw]
theorem fieldsOk_raw (okF : Fld → Bool) (b : List UInt8) : fieldsOk okF b = true ↔ (raws b).2 = true ∧ ∀ f ∈ (raws b).1, okF (asFld f) = true := by
  unfold fieldsOk
  rw [fields_raw]
  simp
theorem serRead_raw {b : List UInt8} (h2 : (raws b).2 = true) (h : ∀ f ∈ (raws b).1, serOk (asFld f) = true) : serRead b = some (serOf ((raws b).1.map asFld)) := by
  unfold serRead
  rw [if_pos ((fieldsOk_raw serOk b).2 ⟨h2, h⟩), fields_raw]
theorem serRead_bad {b : List UInt8} (h : (raws b).2 = false ∨ ∃ f ∈ (raws b).1, serOk (asFld f) = false) : serRead b = none := by
  unfold serRead
  rw [if_neg]
  intro hc
  have := (fieldsOk_raw serOk b).1 hc
  rcases h with h | ⟨f, hf, h⟩
  · rw [this.1] at h; simp at h
  · rw [this.2 f hf] at h; simp at h
theorem allRead_raw {b : List UInt8} (h2 : (raws b).2 = true) (h : ∀ f ∈ (raws b).1, allOk (asFld f) = true) : allRead b = some (allOf ((raws b).1.map asFld)) := by
  unfold allRead
  rw [if_pos ((fieldsOk_raw allOk b).2 ⟨h2, h⟩), fields_raw]
theorem allRead_bad {b : List UInt8} (h : (raws b).2 = false ∨ ∃ f ∈ (raws b).1, allOk (asFld f) = false) : allRead b = none := by
  unfold allRead
  rw [if_neg]
  intro hc
  have := (fieldsOk_raw allOk b).1 hc
  rcases h with h | ⟨f, hf, h⟩
  · rw [this.1] at h; simp at h
  · rw [this.2 f hf] at h; simp at h
theorem asFld_one (f : Fld) : (asFld f).1 = f.1 := by unfold asFld; split <;> (try split) <;> rfl
theorem allOk_ten (n : Nat) (b : List UInt8) : allOk (asFld (10, n, b)) = (serRead b).isSome := by simp [asFld, allOk]
theorem allOk_other {f : Fld} (h : f.1 ≠ 10) : allOk (asFld f) = true := by unfold allOk; rw [asFld_one, if_neg h]
theorem allOf_other {L : List Fld} {f : Fld} (h : f.1 ≠ 10) : allOf ((L ++ [f]).map asFld) = allOf (L.map asFld) := by
  rw [List.map_append, List.map_singleton, allOf_snoc, allStep, asFld_one, if_neg h]
theorem allOf_ten {L : List Fld} {n : Nat} {b : List UInt8} {x : Ser} (h : serRead b = some x) : allOf ((L ++ [(10, n, b)]).map asFld) = allOf (L.map asFld) ++ [x] := by
  rw [List.map_append, List.map_singleton, allOf_snoc]
  simp [asFld, allStep, h]
theorem serOk_ten (n : Nat) (b : List UInt8) : serOk (asFld (10, n, b)) = (labRead b).isSome := by simp [asFld, serOk]
theorem serOk_eighteen (n : Nat) (b : List UInt8) : serOk (asFld (18, n, b)) = (samRead b).isSome := by simp [asFld, serOk]
theorem serOk_other {f : Fld} (h : f.1 ≠ 10) (h2 : f.1 ≠ 18) : serOk (asFld f) = true := by unfold serOk; rw [asFld_one, if_neg h, if_neg h2]
theorem serOf_other {L : List Fld} {f : Fld} (h : f.1 ≠ 10) (h2 : f.1 ≠ 18) : serOf ((L ++ [f]).map asFld) = serOf (L.map asFld) := by
  rw [List.map_append, List.map_singleton, serOf_snoc, serStep, asFld_one, if_neg h, if_neg h2]
theorem serOf_ten {L : List Fld} {n : Nat} {b : List UInt8} {x : Lab} (h : labRead b = some x) : serOf ((L ++ [(10, n, b)]).map asFld) = ((serOf (L.map asFld)).1 ++ [x], (serOf (L.map asFld)).2) := by
  rw [List.map_append, List.map_singleton, serOf_snoc]
  simp [asFld, serStep, h]
theorem serOf_eighteen {L : List Fld} {n : Nat} {b : List UInt8} {x : Sam} (h : samRead b = some x) : serOf ((L ++ [(18, n, b)]).map asFld) = ((serOf (L.map asFld)).1, (serOf (L.map asFld)).2 ++ [x]) := by
  rw [List.map_append, List.map_singleton, serOf_snoc]
  simp [asFld, serStep, h]
theorem labOf_step (L : List Fld) (f : Fld) : labOf ((L ++ [f]).map asFld) = labStep (labOf (L.map asFld)) (asFld f) := by
  rw [List.map_append, List.map_singleton, labOf_snoc]
theorem samOf_step (L : List Fld) (f : Fld) : samOf ((L ++ [f]).map asFld) = samStep (samOf (L.map asFld)) (asFld f) := by
  rw [List.map_append, List.map_singleton, samOf_snoc]
theorem labStep_ten (x : Lab) (n : Nat) (b : List UInt8) : labStep x (asFld (10, n, b)) = (b, x.2) := by simp [asFld, labStep]
theorem labStep_eighteen (x : Lab) (n : Nat) (b : List UInt8) : labStep x (asFld (18, n, b)) = (x.1, b) := by simp [asFld, labStep]
theorem labStep_other (x : Lab) {f : Fld} (h : f.1 ≠ 10) (h2 : f.1 ≠ 18) : labStep x (asFld f) = x := by unfold labStep; rw [asFld_one, if_neg h, if_neg h2]
theorem samStep_nine (x : Sam) (n : Nat) (b : List UInt8) : samStep x (asFld (9, n, b)) = (x.1, lowB b) := by simp [asFld, samStep]
theorem samStep_sixteen (x : Sam) (n : Nat) (b : List UInt8) : samStep x (asFld (16, n, b)) = (sgn n, x.2) := by simp [asFld, samStep]
theorem samStep_other (x : Sam) {f : Fld} (h : f.1 ≠ 9) (h2 : f.1 ≠ 16) : samStep x (asFld f) = x := by unfold samStep; rw [asFld_one, if_neg h, if_neg h2]
theorem rdErr_check {s : List UInt8} {l : List Ser} (h : allRead s = some l) : rdErr s = checkErr l := by
  unfold rdErr checkErr
  rw [h]
theorem all_snoc {p : Fld → Prop} {L L' : List Fld} {f : Fld} (e : L' = L ++ [f]) (h : ∀ g ∈ L, p g) (hf : p f) : ∀ g ∈ L', p g := by
  intro g hg
  rw [e] at hg
  rcases List.mem_append.1 hg with hg | hg
  · exact h g hg
  · simp at hg
    rw [hg]
    exact hf
def readsRaws (w : World) (B : Nat) (v : Value) (ls : List Fld) : Prop :=
  ∃ ao cp, v = .slice ao ls.length cp ∧ ∀ i (h : i < ls.length), ∃ g, ao = some ⟨g, 0, none⟩ ∧ g < B ∧ w.cell? ⟨g, i * 4, none⟩ = some (.int .i64 ((ls[i].1 : Int) / 8)) ∧ w.cell? ⟨g, i * 4 + 1, none⟩ = some (.int .i64 ((ls[i].1 : Int) % 8)) ∧ w.cell? ⟨g, i * 4 + 2, none⟩ = some (.int .u64 ls[i].2.1) ∧ w.cell? ⟨g, i * 4 + 3, none⟩ = some (.string (bs ls[i].2.2))
theorem reads_ownRaws {w : World} {B : Nat} {v : Value} {ls : List Fld} (h : ownRaws w B v ls) : readsRaws w w.heap.size v ls := by
  obtain ⟨ao, cp, e⟩ := own_shape h
  refine ⟨ao, cp, e, fun i hi => ?_⟩
  rcases h.2 with ⟨rfl, h0⟩ | ⟨g, cap, cur, rfl, h1, h2, h3⟩
  · omega
  · simp at e
    have hc := World.ownsRow.cells h (g := g) rfl
    have ha := rawCells_at ls i hi
    refine ⟨g, e.1.symm, lt_of_block h2, ?_, ?_, ?_, ?_⟩
    · have := hc _ _ ha.1
      rw [Addr.add_lit] at this
      simpa using this
    · have := hc _ _ ha.2.1
      rw [Addr.add_lit] at this
      simpa using this
    · have := hc _ _ ha.2.2.1
      rw [Addr.add_lit] at this
      simpa using this
    · have := hc _ _ ha.2.2.2
      rw [Addr.add_lit] at this
      simpa using this
/-- A label more, in the row that a call owns: as the walk has it. -/
theorem append_lab {W : World} {ops : Array Oper} {rest : List Oper} {o : Oper} {a : Act} {Q : Exit → Act → World → Prop} (hgd : o.guard = none) (s x : Operand)
    (ho : o.op = .call { callee := .builtin .append, args := #[s, x], argTypes := #[34, 34] })
    (base : Nat) (v : Value) (d : List Lab) (f : Lab) (hs : a.eval s = v) (hown : ownLabels W base v d) (hx : a.eval x = .slice (some ⟨W.heap.size, 0, none⟩) 1 1)
    (hlen : d.length ≤ 1000000) (hbase : base ≤ W.heap.size)
    (h : ∀ ao cp w', ownLabels w' base (.slice ao (d.length + 1) cp) (d ++ [f]) → Below base W w' → (W.alloc (.cells #[.string (bs f.1), .string (bs f.2)] 62)).grownBy w' v.ownBlock → wpList Tryz.prog ops Q rest (a.put o.dst (.slice ao (d.length + 1) cp)) w') :
    wpList Tryz.prog ops Q (o :: rest) a (W.alloc (.cells #[.string (bs f.1), .string (bs f.2)] 62)) := by
  obtain ⟨i0, hi0, hz0, hz1, hz2⟩ := info_parts Tryz.infoL
  have hb2 : Below base W (W.alloc (.cells #[.string (bs f.1), .string (bs f.2)] 62)) := (Below.refl _ _).alloc hbase _
  have hg2 : Grow W (W.alloc (.cells #[.string (bs f.1), .string (bs f.2)] 62)) := (Grow.refl _).alloc _
  have hnew := heap_alloc_new W (.cells #[.string (bs f.1), .string (bs f.2)] 62)
  have hsz := hb2.size
  generalize (W.alloc (.cells #[.string (bs f.1), .string (bs f.2)] 62)) = V at *
  obtain ⟨c0, c1⟩ := two_cells hnew
  have hown' := own_grow hown hg2
  refine wpList_append_own _ hgd s x 34 ho base 62 i0 _ 2 32 Tryz.underlying34 hi0 hz0 hz1 hz2 rfl (by omega) v d.length (labCells d) hs hown' ⟨W.heap.size, 0, none⟩ 1 1 [.string (bs f.1), .string (bs f.2)] hx rfl (fun j u hu => by
    rw [Addr.add_lit]
    match j, hu with
    | 0, hu => simp at hu; subst hu; simpa using c0
    | 1, hu => simp at hu; subst hu; simpa using c1) (by simp [Value.oneCell']) (by unfold maxLen; omega) (by omega) (by omega) ?_
  intro v' w' hown2 hgrow _
  obtain ⟨ao, cp, rfl⟩ := own_shape hown2
  refine h ao cp w' ?_ (hb2.grown hgrow (by omega) (fun k hk => (hown'.lt k hk).1)) hgrow
  show w'.ownsRow _ _ _ _ (d ++ [f]).length (labCells (d ++ [f]))
  rw [labCells_snoc, List.length_append]
  exact hown2
theorem append_sam {W : World} {ops : Array Oper} {rest : List Oper} {o : Oper} {a : Act} {Q : Exit → Act → World → Prop} (hgd : o.guard = none) (s x : Operand)
    (ho : o.op = .call { callee := .builtin .append, args := #[s, x], argTypes := #[35, 35] })
    (base : Nat) (v : Value) (d : List Sam) (f : Sam) (hs : a.eval s = v) (hown : ownSamples W base v d) (hx : a.eval x = .slice (some ⟨W.heap.size, 0, none⟩) 1 1)
    (hlen : d.length ≤ 1000000) (hbase : base ≤ W.heap.size)
    (h : ∀ ao cp w', ownSamples w' base (.slice ao (d.length + 1) cp) (d ++ [f]) → Below base W w' → (W.alloc (.cells #[.int .i64 f.1, .int .u64 f.2] 48)).grownBy w' v.ownBlock → wpList Tryz.prog ops Q rest (a.put o.dst (.slice ao (d.length + 1) cp)) w') :
    wpList Tryz.prog ops Q (o :: rest) a (W.alloc (.cells #[.int .i64 f.1, .int .u64 f.2] 48)) := by
  obtain ⟨i0, hi0, hz0, hz1, hz2⟩ := info_parts Tryz.infoS
  have hb2 : Below base W (W.alloc (.cells #[.int .i64 f.1, .int .u64 f.2] 48)) := (Below.refl _ _).alloc hbase _
  have hg2 : Grow W (W.alloc (.cells #[.int .i64 f.1, .int .u64 f.2] 48)) := (Grow.refl _).alloc _
  have hnew := heap_alloc_new W (.cells #[.int .i64 f.1, .int .u64 f.2] 48)
  have hsz := hb2.size
  generalize (W.alloc (.cells #[.int .i64 f.1, .int .u64 f.2] 48)) = V at *
  obtain ⟨c0, c1⟩ := two_cells hnew
  have hown' := own_grow hown hg2
  refine wpList_append_own _ hgd s x 35 ho base 48 i0 _ 2 16 Tryz.underlying35 hi0 hz0 hz1 hz2 rfl (by omega) v d.length (samCells d) hs hown' ⟨W.heap.size, 0, none⟩ 1 1 [.int .i64 f.1, .int .u64 f.2] hx rfl (fun j u hu => by
    rw [Addr.add_lit]
    match j, hu with
    | 0, hu => simp at hu; subst hu; simpa using c0
    | 1, hu => simp at hu; subst hu; simpa using c1) (by simp [Value.oneCell']) (by unfold maxLen; omega) (by omega) (by omega) ?_
  intro v' w' hown2 hgrow _
  obtain ⟨ao, cp, rfl⟩ := own_shape hown2
  refine h ao cp w' ?_ (hb2.grown hgrow (by omega) (fun k hk => (hown'.lt k hk).1)) hgrow
  show w'.ownsRow _ _ _ _ (d ++ [f]).length (samCells (d ++ [f]))
  rw [samCells_snoc, List.length_append]
  exact hown2
theorem append_ser {W : World} {ops : Array Oper} {rest : List Oper} {o : Oper} {a : Act} {Q : Exit → Act → World → Prop} (hgd : o.guard = none) (s x : Operand)
    (ho : o.op = .call { callee := .builtin .append, args := #[s, x], argTypes := #[22, 22] })
    (base : Nat) (v : Value) (d : List Ser) (f : Ser) (y1 y2 : Value) (hs : a.eval s = v) (hown : ownSeries W base v d) (h1 : ownLabels W base y1 f.1) (h2 : ownSamples W base y2 f.2) (hx : a.eval x = .slice (some ⟨W.heap.size, 0, none⟩) 1 1)
    (hlen : d.length ≤ 1000000) (hbase : base ≤ W.heap.size)
    (h : ∀ ao cp w', ownSeries w' base (.slice ao (d.length + 1) cp) (d ++ [f]) → Below base W w' → wpList Tryz.prog ops Q rest (a.put o.dst (.slice ao (d.length + 1) cp)) w') :
    wpList Tryz.prog ops Q (o :: rest) a (W.alloc (.cells #[y1, y2] 41)) := by
  obtain ⟨i0, hi0, hz0, hz1, hz2⟩ := info_parts Tryz.infoE
  have hb2 : Below base W (W.alloc (.cells #[y1, y2] 41)) := (Below.refl _ _).alloc hbase _
  have hg2 : Grow W (W.alloc (.cells #[y1, y2] 41)) := (Grow.refl _).alloc _
  have hnew := heap_alloc_new W (.cells #[y1, y2] 41)
  have hsz := hb2.size
  generalize (W.alloc (.cells #[y1, y2] 41)) = V at *
  obtain ⟨c0, c1⟩ := two_cells hnew
  obtain ⟨vs, hvl, hrow, hall⟩ := hown
  have hrow' := own_grow hrow hg2
  obtain ⟨ao1, cp1, e1⟩ := own_shape h1
  obtain ⟨ao2, cp2, e2⟩ := own_shape h2
  refine wpList_append_own _ hgd s x 22 ho base 41 i0 _ 2 48 Tryz.underlying22 hi0 hz0 hz1 hz2 rfl (by omega) v d.length (pairCells vs) hs hrow' ⟨W.heap.size, 0, none⟩ 1 1 [y1, y2] hx rfl (fun j u hu => by
    rw [Addr.add_lit]
    match j, hu with
    | 0, hu => simp at hu; subst hu; simpa using c0
    | 1, hu => simp at hu; subst hu; simpa using c1) (by rw [e1, e2]; simp [Value.oneCell']) (by unfold maxLen; omega) (by omega) (by omega) ?_
  intro v' w' hown2 hgrow _
  obtain ⟨ao, cp, rfl⟩ := own_shape hown2
  exact h ao cp w' (ownSeries_more hvl hrow' (fun i a s h1 h2 => ⟨own_grow (hall i a s h1 h2).1 hg2, own_grow (hall i a s h1 h2).2 hg2⟩) hgrow hown2 (own_grow h1 hg2) (own_grow h2 hg2)) (hb2.grown hgrow (by omega) (fun k hk => (hrow'.lt k hk).1))
end Go.Proofs.YtmdakfmecfcbhaaGreat
