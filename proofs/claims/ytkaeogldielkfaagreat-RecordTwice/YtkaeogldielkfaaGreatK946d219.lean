/- 1 texts in one. -/
import Derived.Laws.OwnMore
import Derived.Test.YtkaeogldielkfaaGreatProg
import Derived.Test.YtkaeogldielkfaaGreatK0755ea5
import Derived.Test.YtkaeogldielkfaaGreatK1cde199
import Derived.Test.YtkaeogldielkfaaGreatK27654cb
import Derived.Test.YtkaeogldielkfaaGreatKaf8554b
import Derived.Test.YtkaeogldielkfaaGreatK3c7d114
import Derived.Test.YtkaeogldielkfaaGreatK5804e26
import Derived.Test.YtkaeogldielkfaaGreatK3b2be08
import Derived.Test.YtkaeogldielkfaaGreatK87eb233
import Derived.Maps.Own
import Derived.Maps.OwnOps
import Derived.Maps.OwnSet
import Derived.Maps.Views
set_option linter.unusedVariables false
set_option linter.unusedSimpArgs false
namespace Go.Proofs.YtkaeogldielkfaaGreat.Rc
open Go.RowKit Go.Maps Lb
open Go.WideMaps (keyOf_string_mk)
attribute [local go_sem] bs_size bs_toList bs_append bs_get bs_extract
theorem Tryz.keyInt : Keyed Tryz.prog 3 := int_keyed Tryz.underlying3
theorem Tryz.zeroInt (w : World) : (zeroValue 3).run Tryz.prog w = .ok (.int .i64 0) w := by kernel_rfl
theorem okRef_of {x : RefL} (h : refErr x = 0) : okRef x := by
  obtain ⟨⟨h1, h2⟩, _, hc⟩ := refErr_zero h
  obtain ⟨h3, h4⟩ := check_small hc
  exact ⟨by omega, by omega, by omega, fun y hy => by have := h4 y hy; omega⟩
set_option maxRecDepth 20000 in
set_option maxHeartbeats 1000000 in
theorem newMemory_any (w : World) (B : Nat) (F : Nat → Prop) (hF : ∀ k, w.heap.size ≤ k → F k) :
    Calls Tryz.prog 20 #[] w fun e w' => ∃ b, e = .returned (.pointer (some ⟨b, 0, none⟩)) ∧ Grow w w' ∧ memJ w' B F b [] ∧ w.heap.size ≤ b := by
  have hmm := @run_makeMap Tryz.prog
  have h1 : (w.alloc (.map #[] 0)).ownsMap Tryz.prog 3 (plainElem (H := Unit) Tryz.prog 3) w.heap.size 0 (.map []) := World.ownsMap_made _ _ _ _
  obtain ⟨W1, e1⟩ : ∃ W, w.alloc (.map #[] 0) = W := ⟨_, rfl⟩
  have s1 : W1.heap.size = w.heap.size + 1 := by rw [← e1]; simp
  rw [e1] at h1
  have h2 : (W1.alloc (.map #[] 0)).ownsMap Tryz.prog 9 (plainElem (H := Unit) Tryz.prog 3) W1.heap.size 0 (.map []) := World.ownsMap_made _ _ _ _
  have h1' := h1.alloc (.map #[] 0)
  obtain ⟨W2, e2⟩ : ∃ W, W1.alloc (.map #[] 0) = W := ⟨_, rfl⟩
  have s2 : W2.heap.size = W1.heap.size + 1 := by rw [← e2]; simp
  rw [e2] at h2 h1'
  obtain ⟨W3, e3, g3, b3⟩ := laid_at W2 #[.slice none 0 0, .map (some w.heap.size), .map (some W1.heap.size)] 88
  have hP : memP W3 B F W2.heap.size [] (.slice none 0 0) w.heap.size W1.heap.size [] (.map []) (.map []) :=
    ⟨rfl, b3, World.ownsRow_nil _ _ _ _, h1'.kept (grownG g3) (by simp), h2.kept (grownG g3) (by simp), by omega, hF _ (by omega), hF _ (by omega), hF _ (by omega), (fun g hg => by cases hg), refMap_nil, txtMap_nil, (fun p hp => by simp at hp), by simp⟩
  have hG : Grow w W3 := by
    rw [← e3, ← e2, ← e1]
    exact (((Grow.refl _).alloc _).alloc _).alloc _
  rw [s2, s1] at hP
  clear h1 h2 h1' g3 b3
  rw [s1] at e3
  subst e3 e2 e1
  have HP := hide hP
  have HG := hide hG
  clear hP hG s1 s2
  go_enter Tryz.func20, Tryz.ntmps20
  go_wp2
  go_ret
  exact ⟨_, rfl, HG.out, ⟨_, _, _, _, _, _, HP.out⟩, by omega⟩
/-- What 'knows' answers. -/
def ansK (n : Nat) : Ending := if n = 2 then gaveUp 6 else .returned (.bool (decide (n = 1)))
set_option maxRecDepth 20000 in
set_option maxHeartbeats 4000000 in
theorem knows_any (w : World) (B : Nat) (F : Nat → Prop) (b : Nat) (K : List Kp) (x : RefL) (vl : Value) (hm : memJ w B F b K) (hd : Dist K) (hr : rightM K) (hx : refErr x = 0) (hv : readsLabels w w.heap.size vl x.2) :
    Calls Tryz.prog 84 #[.pointer (some ⟨b, 0, none⟩), .agg #[.int .i64 x.1, vl]] w fun e w' => e = ansK (knowsR K x) ∧ Grow w w' := by
  obtain ⟨v, mb, tb, ps, D1, D2, hP⟩ := hm
  have hway := knows_ways hd hr hx
  have hok := okRef_of hx
  have hTs := text_short (refErr_zero hx).2.2
  obtain ⟨E, HE⟩ : ∃ E, Hid (ansK (knowsR K x) = E) := ⟨_, hide rfl⟩
  rw [HE.out]
  have hwf : (Lit.int .i64 x.1).wf = true := WalkArith.wf_i64 ⟨by have := hok.1; omega, by have := hok.2.1; omega⟩
  have hkey1 : keyOf Tryz.prog 3 (.int .i64 x.1) = some (.int .i64 x.1) := keyOf_int_mk Tryz.underlying3 hwf
  have hd1 := hP.d1.2 x.1
  have hd2 := hP.d2.2 (textAns x.2)
  have hm1 := hP.m1
  have hm2 := hP.m2
  have hKl := hP.len
  obtain ⟨vo, vc, hvv⟩ := own_shape hP.row
  subst hvv
  obtain ⟨W, eW, gW, hW⟩ := laid_at w #[.int .i64 x.1, vl] 59
  have HTX := hide (fun w2 (g : Grow W w2) => textOf_any w2 x vl (readsLabels_mono (readsLabels_below hv (gW.trans g)) (gW.trans g).size) hok)
  obtain ⟨lo, lc, rfl⟩ := readsLabels_len hv
  obtain ⟨T, HT⟩ : ∃ T, Hid (textAns x.2 = T) := ⟨_, hide rfl⟩
  rw [HT.out] at HTX hTs hway hd2
  have hkey2 : keyOf Tryz.prog 9 (.string (bs T)) = some (.string T) := by rw [keyOf_string_mk Tryz.underlying9 (by rw [bs_size]; unfold maxLen; omega), bs_data]
  obtain ⟨i, HI⟩ : ∃ i : Nat, Hid ((idxNum K x.1).getD 0 = i) := ⟨_, hide rfl⟩
  obtain ⟨j, HJ⟩ : ∃ j : Nat, Hid ((idxTxt K T).getD 0 = j) := ⟨_, hide rfl⟩
  obtain ⟨t1, HB1⟩ : ∃ t1, Hid ((idxNum K x.1).isSome = t1) := ⟨_, hide rfl⟩
  obtain ⟨t2, HB2⟩ : ∃ t2, Hid ((idxTxt K T).isSome = t2) := ⟨_, hide rfl⟩
  rw [HI.out, HB1.out] at hd1
  rw [HJ.out, HB2.out] at hd2
  have hil : i ≤ 2000 := by
    rw [← HI.out]
    cases h : idxNum K x.1 with
    | none => simp
    | some k => obtain ⟨hk, _⟩ := idxNum_some h; simp; omega
  have hjl : j ≤ 2000 := by
    rw [← HJ.out]
    cases h : idxTxt K T with
    | none => simp
    | some k => obtain ⟨hk, _⟩ := idxTxt_some h; simp; omega
  have HL1 : Hid (∀ w2, Grow w w2 → (Instr.lookup 84 (.map (some mb)) (.int .i64 x.1) true).run Tryz.prog w2 = .ok (.tuple #[.int .i64 i, .bool t1]) w2) := hide fun w2 g => by
    obtain ⟨v, ps, hrun, hv⟩ := World.ownsMap.look_ok (hm1.kept (grownG g) (by simp)) Tryz.keyInt Tryz.underlying84 (Tryz.zeroInt w2) (plainElem_int Tryz.underlying3 (by decide)) hkey1
    obtain ⟨c, rfl, hc, _⟩ := plainElem_int_inv Tryz.underlying3 hv
    have h3 := congrArg Prod.fst hc
    rw [hd1.2] at h3
    rw [hd1.1] at hrun
    simp at h3
    rw [h3]
    exact hrun
  have HL2 : Hid (∀ w2, Grow w w2 → (Instr.lookup 85 (.map (some tb)) (.string (bs T)) true).run Tryz.prog w2 = .ok (.tuple #[.int .i64 j, .bool t2]) w2) := hide fun w2 g => by
    obtain ⟨v, ps, hrun, hv⟩ := World.ownsMap.look_ok (hm2.kept (grownG g) (by simp)) Tryz.keyLaw Tryz.underlying85 (Tryz.zeroInt w2) (plainElem_int Tryz.underlying3 (by decide)) hkey2
    obtain ⟨c, rfl, hc, _⟩ := plainElem_int_inv Tryz.underlying3 hv
    have h3 := congrArg Prod.fst hc
    rw [hd2.2] at h3
    rw [hd2.1] at hrun
    simp at h3
    rw [h3]
    exact hrun
  have HW := hide hW
  have HAT := hide (gW.get hP.at')
  have HGW := hide gW
  have HWAY := hide hway
  clear hP hv hd hr hx hW gW hm1 hm2 hd1 hd2 hkey1 hkey2 hway hwf hKl hok
  go_enter Tryz.func84, Tryz.ntmps84
  go_wp2
  refine wp_region_free 12 39 mixedR rfl (by decide +kernel) Grow (fun _ _ _ => Grow.trans) (Grow.refl _)
    (fun i' v _ => match i' with
      | 0 => v = .pointer (some ⟨b, 0, none⟩)
      | 1 => v = .pointer (some ⟨b, 0, none⟩)
      | 2 => v = .pointer (some ⟨b, 1, none⟩)
      | 3 => v = .map (some mb)
      | 4 => v = .pointer (some ⟨w.heap.size, 0, none⟩)
      | 5 => v = .int .i64 x.1
      | 6 => v = .tuple #[.int .i64 i, .bool t1]
      | 7 => v = .tuple #[.int .i64 i, .bool t1]
      | 8 => v = .int .i64 i
      | 9 => v = .bool t1
      | 10 => v = .int .i64 i
      | _ => v = .bool t1)
    (fun i v w w' h hg => h) (fun _ _ => False) (fun _ _ _ _ h => h.elim) (fun i' hi o ho a w2 hG hoff hdep => ?_) (fun vals w2 hG hvals => ?_)
  · have hg2 : Grow W w2 := hG.undrew
    obtain ⟨c0, c1, c2⟩ := three_of (hg2.get HAT.out)
    obtain ⟨d0, d1⟩ := two_of (hg2.get HW.out)
    have hrun := HL1.out w2 (HGW.out.trans hg2)
    match i', hi with
    | 0, _ =>
      obtain rfl := Option.some.inj ho
      have o0 := hoff 0 (by decide +kernel)
      simp at o0
      simp [opYields, go_sem, o0]
      exact Grow.refl _
    | 1, _ =>
      obtain rfl := Option.some.inj ho
      have d0 := hdep 0 (by decide +kernel)
      simp [slotOf, dstOf] at d0
      simp [opYields, go_sem, d0]
      exact Grow.refl _
    | 2, _ =>
      obtain rfl := Option.some.inj ho
      have d1 := hdep 1 (by decide +kernel)
      simp [slotOf, dstOf] at d1
      simp [opYields, go_sem, d1]
      exact Grow.refl _
    | 3, _ =>
      obtain rfl := Option.some.inj ho
      have d2 := hdep 2 (by decide +kernel)
      simp [slotOf, dstOf] at d2
      simp [opYields, go_sem, d2, c1]
      exact Grow.refl _
    | 4, _ =>
      obtain rfl := Option.some.inj ho
      have o3 := hoff 3 (by decide +kernel)
      simp at o3
      simp [opYields, go_sem, o3]
      exact Grow.refl _
    | 5, _ =>
      obtain rfl := Option.some.inj ho
      have d4 := hdep 4 (by decide +kernel)
      simp [slotOf, dstOf] at d4
      simp [opYields, go_sem, d4, d0]
      exact Grow.refl _
    | 6, _ =>
      obtain rfl := Option.some.inj ho
      have d3 := hdep 3 (by decide +kernel)
      simp [slotOf, dstOf] at d3
      have d5 := hdep 5 (by decide +kernel)
      simp [slotOf, dstOf] at d5
      simp [opYields, go_sem, d3, d5, hrun]
      exact Grow.refl _
    | 7, _ =>
      obtain rfl := Option.some.inj ho
      have d6 := hdep 6 (by decide +kernel)
      simp [slotOf, dstOf] at d6
      simp [opYields, go_sem, d6]
      exact Grow.refl _
    | 8, _ =>
      obtain rfl := Option.some.inj ho
      have d7 := hdep 7 (by decide +kernel)
      simp [slotOf, dstOf] at d7
      simp [opYields, go_sem, d7]
      exact Grow.refl _
    | 9, _ =>
      obtain rfl := Option.some.inj ho
      have d7 := hdep 7 (by decide +kernel)
      simp [slotOf, dstOf] at d7
      simp [opYields, go_sem, d7]
      exact Grow.refl _
    | 10, _ =>
      obtain rfl := Option.some.inj ho
      have d8 := hdep 8 (by decide +kernel)
      simp [slotOf, dstOf] at d8
      simp [opYields, go_sem, d8]
      exact Grow.refl _
    | 11, _ =>
      obtain rfl := Option.some.inj ho
      have d9 := hdep 9 (by decide +kernel)
      simp [slotOf, dstOf] at d9
      simp [opYields, go_sem, d9]
      exact Grow.refl _
    | k + 12, h => exact absurd h (by omega)
  · have v10 := hvals 10 (by omega)
    have v11 := hvals 11 (by omega)
    simp only at v10 v11
    have HG2 : Hid (Grow W w2) := hide hG.undrew
    clear hvals hG eW
    simp [over, dstOf, Act.put, v10, v11]
    clear v10 v11
    go_wp2
    refine wp_region_free 12 39 mixedR rfl (by decide +kernel) Grow (fun _ _ _ => Grow.trans) (Grow.refl _)
      (fun i' v _ => match i' with
        | 0 => v = .pointer (some ⟨b, 0, none⟩)
        | 1 => v = .pointer (some ⟨b, 0, none⟩)
        | 2 => v = .pointer (some ⟨b, 2, none⟩)
        | 3 => v = .map (some tb)
        | 4 => v = .agg #[.int .i64 x.1, .slice lo x.2.length lc]
        | 5 => v = .string (bs T)
        | 6 => v = .tuple #[.int .i64 j, .bool t2]
        | 7 => v = .tuple #[.int .i64 j, .bool t2]
        | 8 => v = .int .i64 j
        | 9 => v = .bool t2
        | 10 => v = .int .i64 j
        | _ => v = .bool t2)
      (fun i v w w' h hg => h) (fun _ _ => False) (fun _ _ _ _ h => h.elim) (fun i' hi o ho a w3 hG hoff hdep => ?_) (fun vals w3 hG hvals => ?_)
    · have hg3 : Grow W w3 := HG2.out.trans hG.undrew
      obtain ⟨c0, c1, c2⟩ := three_of (hg3.get HAT.out)
      obtain ⟨d0, d1⟩ := two_of (hg3.get HW.out)
      have hrun := HL2.out w3 (HGW.out.trans hg3)
      match i', hi with
      | 0, _ =>
        obtain rfl := Option.some.inj ho
        have o0 := hoff 0 (by decide +kernel)
        simp at o0
        simp [opYields, go_sem, o0]
        exact Grow.refl _
      | 1, _ =>
        obtain rfl := Option.some.inj ho
        have d0 := hdep 0 (by decide +kernel)
        simp [slotOf, dstOf] at d0
        simp [opYields, go_sem, d0]
        exact Grow.refl _
      | 2, _ =>
        obtain rfl := Option.some.inj ho
        have d1 := hdep 1 (by decide +kernel)
        simp [slotOf, dstOf] at d1
        simp [opYields, go_sem, d1]
        exact Grow.refl _
      | 3, _ =>
        obtain rfl := Option.some.inj ho
        have d2 := hdep 2 (by decide +kernel)
        simp [slotOf, dstOf] at d2
        simp [opYields, go_sem, d2, c2]
        exact Grow.refl _
      | 4, _ =>
        obtain rfl := Option.some.inj ho
        have o3 := hoff 3 (by decide +kernel)
        simp at o3
        simp [opYields, go_sem, o3, d0, d1]
        exact Grow.refl _
      | 5, _ =>
        obtain rfl := Option.some.inj ho
        have d4 := hdep 4 (by decide +kernel)
        simp [slotOf, dstOf] at d4
        simp [opYields, go_sem, d4]
        refine (HTX.out w3 hg3).mono ?_
        rintro e w4 ⟨rfl, hb⟩
        exact ⟨hb, rfl⟩
      | 6, _ =>
        obtain rfl := Option.some.inj ho
        have d3 := hdep 3 (by decide +kernel)
        simp [slotOf, dstOf] at d3
        have d5 := hdep 5 (by decide +kernel)
        simp [slotOf, dstOf] at d5
        simp [opYields, go_sem, d3, d5, hrun]
        exact Grow.refl _
      | 7, _ =>
        obtain rfl := Option.some.inj ho
        have d6 := hdep 6 (by decide +kernel)
        simp [slotOf, dstOf] at d6
        simp [opYields, go_sem, d6]
        exact Grow.refl _
      | 8, _ =>
        obtain rfl := Option.some.inj ho
        have d7 := hdep 7 (by decide +kernel)
        simp [slotOf, dstOf] at d7
        simp [opYields, go_sem, d7]
        exact Grow.refl _
      | 9, _ =>
        obtain rfl := Option.some.inj ho
        have d7 := hdep 7 (by decide +kernel)
        simp [slotOf, dstOf] at d7
        simp [opYields, go_sem, d7]
        exact Grow.refl _
      | 10, _ =>
        obtain rfl := Option.some.inj ho
        have d8 := hdep 8 (by decide +kernel)
        simp [slotOf, dstOf] at d8
        simp [opYields, go_sem, d8]
        exact Grow.refl _
      | 11, _ =>
        obtain rfl := Option.some.inj ho
        have d9 := hdep 9 (by decide +kernel)
        simp [slotOf, dstOf] at d9
        simp [opYields, go_sem, d9]
        exact Grow.refl _
      | k + 12, h => exact absurd h (by omega)
    · have v10 := hvals 10 (by omega)
      have v11 := hvals 11 (by omega)
      simp only at v10 v11
      have HG3 : Hid (Grow w w3) := hide (HGW.out.trans (HG2.out.trans hG.undrew))
      clear hvals hG HG2 HGW
      simp [over, dstOf, Act.put, v10, v11]
      clear v10 v11
      rcases HWAY.out with ⟨hk, q, h1, h2⟩ | ⟨hk, h1, h2⟩ | ⟨hk, hw⟩
      · have HEK : Hid (Ending.returned (.bool true) = E) := hide (by rw [← HE.out, hk]; rfl)
        have ei : i = q := by rw [← HI.out, h1]; rfl
        have ej : j = q := by rw [← HJ.out, h2]; rfl
        have e1 : t1 = true := by rw [← HB1.out, h1]; rfl
        have e2 : t2 = true := by rw [← HB2.out, h2]; rfl
        clear HE HI HJ HB1 HB2 HWAY hk h1 h2
        subst ei e1 e2
        rw [ej] at *
        have hne : ((i : Int) != (i : Int)) = false := by simp
        go_wp2_with fail
        refine (refuse_any false 6 w3 (by decide)).mono ?_
        rintro e w4 ⟨rfl, hw4⟩
        rw [if_neg (by simp), outc_ok]
        subst hw4
        go_wp2
        go_ret
        exact ⟨HEK.out, HG3.out⟩
      · have HEK : Hid (Ending.returned (.bool false) = E) := hide (by rw [← HE.out, hk]; rfl)
        have ei : i = 0 := by rw [← HI.out, h1]; rfl
        have ej : j = 0 := by rw [← HJ.out, h2]; rfl
        have e1 : t1 = false := by rw [← HB1.out, h1]; rfl
        have e2 : t2 = false := by rw [← HB2.out, h2]; rfl
        clear HE HI HJ HB1 HB2 HWAY hk h1 h2
        subst ei ej e1 e2
        go_wp2_with fail
        refine (refuse_any false 6 w3 (by decide)).mono ?_
        rintro e w4 ⟨rfl, hw4⟩
        rw [if_neg (by simp), outc_ok]
        subst hw4
        go_wp2
        go_ret
        exact ⟨HEK.out, HG3.out⟩
      · have HEK : Hid (gaveUp 6 = E) := hide (by rw [← HE.out, hk]; rfl)
        have hcase : (t1 = true ∧ t2 = false) ∨ (t1 = false ∧ t2 = true) ∨ (t1 = true ∧ t2 = true ∧ i ≠ j) := by
          rcases hw with ⟨q, h1, h2⟩ | ⟨q, h1, h2⟩ | ⟨q, r, h1, h2, h3⟩
          · exact .inl ⟨by rw [← HB1.out, h1]; rfl, by rw [← HB2.out, h2]; rfl⟩
          · exact .inr (.inl ⟨by rw [← HB1.out, h1]; rfl, by rw [← HB2.out, h2]; rfl⟩)
          · exact .inr (.inr ⟨by rw [← HB1.out, h1]; rfl, by rw [← HB2.out, h2]; rfl, by rw [← HI.out, ← HJ.out, h1, h2]; exact h3⟩)
        clear HE HI HJ HB1 HB2 HWAY hk hw
        rcases hcase with ⟨rfl, rfl⟩ | ⟨rfl, rfl⟩ | ⟨rfl, rfl, hij⟩
        · go_wp2_with fail
          refine (refuse_any true 6 w3 (by decide)).mono ?_
          rintro e w4 ⟨rfl, hw4⟩
          rw [if_pos rfl, outc_no (by decide)]
          exact ⟨rfl, HEK.out, by rw [hw4]; exact HG3.out⟩
        · go_wp2_with fail
          refine (refuse_any true 6 w3 (by decide)).mono ?_
          rintro e w4 ⟨rfl, hw4⟩
          rw [if_pos rfl, outc_no (by decide)]
          exact ⟨rfl, HEK.out, by rw [hw4]; exact HG3.out⟩
        · have hne : ((i : Int) != (j : Int)) = true := by simp; omega
          clear hij
          go_wp2_with fail
          refine (refuse_any true 6 w3 (by decide)).mono ?_
          rintro e w4 ⟨rfl, hw4⟩
          rw [if_pos rfl, outc_no (by decide)]
          exact ⟨rfl, HEK.out, by rw [hw4]; exact HG3.out⟩
end Go.Proofs.YtkaeogldielkfaaGreat.Rc
