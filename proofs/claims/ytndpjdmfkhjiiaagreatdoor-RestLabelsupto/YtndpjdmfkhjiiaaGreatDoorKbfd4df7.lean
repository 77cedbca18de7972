/- 1 texts in one. -/
import Derived.Test.YtndpjdmfkhjiiaaGreatDoorProg
import Derived.Test.YtndpjdmfkhjiiaaGreatDoorK97fdc06
import Derived.Test.YtndpjdmfkhjiiaaGreatDoorK6416f58
import Derived.Test.YtndpjdmfkhjiiaaGreatDoorK2069ade
import Derived.Test.YtndpjdmfkhjiiaaGreatDoorK49d1723
import Derived.Test.YtndpjdmfkhjiiaaGreatDoorK8903910
import Derived.BigFrame
import Derived.Lib.ItoaLen
set_option linter.unusedVariables false
set_option linter.unusedSimpArgs false
namespace Go.Proofs.YtndpjdmfkhjiiaaGreatDoor.Rl
open Go.RowKit Lb
attribute [local go_sem] bs_size bs_toList bs_append bs_get bs_extract
abbrev tabOk (w : World) : Prop := Lib.TabIs Tryz.prog w "internal/strconv.uint64pow10" .u64 Lib.pow10Tab
theorem tab_grow {w w' : World} (h : tabOk w) (hg : Grow w w') : tabOk w' := by
  unfold tabOk Lib.TabIs World.var? at *
  cases hn : Tryz.prog.globalNamed "internal/strconv.uint64pow10" with
  | none => simp [hn] at h
  | some g =>
    simp only [hn, Option.bind_some] at h ⊢
    have hlt : g < w.heap.size := by
      rcases Nat.lt_or_ge g w.heap.size with h' | h'
      · exact h'
      · rw [Array.getElem?_eq_none h'] at h
        simp at h
    rw [hg.block g hlt]
    exact h
theorem wrap_u64_sm (x : Int) (h0 : 0 ≤ x) (h : x < 18446744073709551616) : IntKind.u64.wrap x = x := by
  unfold IntKind.wrap; simp [IntKind.bits, IntKind.signed]; omega
/-- A share, and its text. -/
def shareN (r : Rul) (src : List UInt8) : Nat := (if src = [] then 0 else sumB [([120], src.take 100)]) % r.modulus.toNat
def shareT (r : Rul) (src : List UInt8) : List UInt8 := Lib.decDigits (shareN r src)
theorem sumB_lt (l : List Lab) : sumB l < 18446744073709551616 := sumGo_lt sum0_lt l
theorem one_right {s : List UInt8} (h : s ≠ []) : checkB [([120], s.take 100)] = 0 := by
  have hl : 1 ≤ s.length := by
    cases s with
    | nil => exact absurd rfl h
    | cons => simp
  refine checkB_zero.2 ⟨eachErr_zero.2 ⟨by simp, fun x hx => ?_⟩, by simp [riseB]⟩
  obtain rfl := List.mem_singleton.1 hx
  exact ⟨(by decide : nameB [120] = true), by simp only [List.length_take]; omega, by simp only [List.length_take]; omega⟩
set_option maxRecDepth 20000 in
set_option maxHeartbeats 8000000 in
theorem share_any (w : World) (r : Rul) (v va : Value) (ls : List Lab) (src : List UInt8) (hsrc : src.length ≤ 2000) (hc : checkB ls = 0) (ha : readsLabels w w.heap.size va ls) (htg : r.target.length ≤ 100) (hm1 : 1 ≤ r.modulus) (hm2 : r.modulus ≤ 1000000) (htab : tabOk w) :
    Calls Tryz.prog 64 #[ruleV r v, va, .string (bs src)] w fun e w' => Grow w w' ∧ ∃ v', e = .returned (.tuple #[v', .bool true, .int .i64 (withErr ls r.target (shareT r src) : Nat)]) ∧ ownLabels w' w.heap.size v' (withAns ls r.target (shareT r src)) := by
  obtain ⟨kind, rs, bt, mk, md, tg, rp⟩ := r
  unfold ruleV shareT shareN
  simp only at htg hm1 hm2 ⊢
  obtain ⟨M, rfl⟩ : ∃ M : Nat, md = M := ⟨md.toNat, by omega⟩
  obtain ⟨lo, lc, rfl⟩ := readsLabels_len ha
  have HA := hide ha
  have hsm := right_small hc
  have HIN : Hid (lensOk ls) := hide (fun x hx => by have := hsm.2 x hx; omega)
  have hll : ls.length ≤ 9223372036854775807 := by omega
  clear ha hc hsm
  obtain ⟨W, eW, gW, sW, hW⟩ := laid_rule w (.int .i64 kind) v (.string (bs bt)) (.string (bs mk)) (.int .i64 M) (.string (bs tg)) (.string (bs rp)) 24
  have HGW := hide gW
  have HW := hide hW
  have HTAB := hide htab
  clear gW hW htab
  simp only [Int.toNat_natCast]
  obtain ⟨S, HS⟩ : ∃ S, Hid ((if src = [] then 0 else sumB [([120], src.take 100)]) = S) := ⟨_, hide rfl⟩
  have HSL : Hid (S < 18446744073709551616) := hide (by
    rw [← HS.out]
    split
    · omega
    · exact sumB_lt _)
  rw [HS.out]
  obtain ⟨tx, HTX⟩ : ∃ tx, Hid (Lib.decDigits (S % M) = tx) := ⟨_, hide rfl⟩
  have HSM : Hid (S % M < 18446744073709551616) := hide (by
    have := Nat.mod_le S M
    have := HSL.out
    omega)
  have htxl : tx.length ≤ 9223372036854775807 := by
    rw [← HTX.out, Lib.decDigits_length]
    have := Lib.nDigits_le20 (S % M) HSM.out
    omega
  have HFMT : Hid (∀ W2, Grow w W2 → Calls Tryz.prog 104 #[.int .u64 (S % M : Nat), .int .i64 10] W2 fun e w' => e = .returned (.string (bs tx)) ∧ Grow W2 w') := hide (fun W2 hg2 => by
    have h := formatUint_any (S % M) HSM.out W2 (tab_grow HTAB.out hg2)
    rw [HTX.out] at h
    exact h)
  rw [HTX.out]
  have HWITH : Hid (∀ W2, Grow w W2 → Calls Tryz.prog 25 #[.slice lo ls.length lc, .string (bs tg), .string (bs tx)] W2 fun e w' => Grow W2 w' ∧ ∃ ao n cp, e = .returned (.tuple #[.slice ao n cp, .int .i64 (withErr ls tg tx : Nat)]) ∧ ownLabels w' w.heap.size (.slice ao n cp) (withAns ls tg tx)) := hide (fun W2 hg2 => by
    refine (with_any W2 (.slice lo ls.length lc) ls tg tx (readsLabels_mono (readsLabels_below HA.out hg2) hg2.size) hll HIN.out (by unfold maxLen; omega) (by unfold maxLen; omega)).mono ?_
    rintro e w' ⟨v', rfl, hown, hb⟩
    obtain ⟨ao, cp, rfl⟩ := own_shape hown
    exact ⟨hb, ao, _, cp, rfl, own_le hown hg2.size⟩)
  generalize withErr ls tg tx = we at HWITH ⊢
  generalize withAns ls tg tx = wa at HWITH ⊢
  by_cases h0 : src = []
  · rw [if_pos h0] at HS
    subst h0
    have HS0 : Hid ((0 : Int) = S) := hide (by have := HS.out; omega)
    have HM0 : Hid (¬ M = 0) := hide (by omega)
    have HGR : Hid (Grow w W) := HGW
    have HWR := HW
    go_enter Tryz.func64, Tryz.ntmps64
    go_wp2
    refine wp_region_free 14 37 Tryz.mixed2 rfl (by decide +kernel) Grow (fun _ _ _ => Grow.trans) (Grow.refl _)
      (fun i v w' => match i with
        | 0 => v = .slice lo ls.length lc
        | 1 => v = .pointer (some ⟨w.heap.size, 5, none⟩)
        | 2 => v = .string (bs tg)
        | 3 => v = .int .u64 S
        | 4 => v = .pointer (some ⟨w.heap.size, 4, none⟩)
        | 5 => v = .int .i64 M
        | 6 => v = .int .u64 M
        | 7 => v = .int .u64 (S % M : Nat)
        | 8 => v = .string (bs tx)
        | 9 => PairL w.heap.size we wa v w'
        | 10 => PairL w.heap.size we wa v w'
        | 11 => OneL w.heap.size wa v w'
        | 12 => v = .int .i64 we
        | _ => OneL w.heap.size wa v w')
      (fun i v w1 w2 h hg => by
        match i, h with
        | 0, h => exact h
        | 1, h => exact h
        | 2, h => exact h
        | 3, h => exact h
        | 4, h => exact h
        | 5, h => exact h
        | 6, h => exact h
        | 7, h => exact h
        | 8, h => exact h
        | 9, ⟨ao, n, cp, e, ho⟩ => exact ⟨ao, n, cp, e, own_grow ho hg⟩
        | 10, ⟨ao, n, cp, e, ho⟩ => exact ⟨ao, n, cp, e, own_grow ho hg⟩
        | 11, ⟨ao, n, cp, e, ho⟩ => exact ⟨ao, n, cp, e, own_grow ho hg⟩
        | 12, h => exact h
        | k + 13, ⟨ao, n, cp, e, ho⟩ => exact ⟨ao, n, cp, e, own_grow ho hg⟩) (fun _ _ => False) (fun _ _ _ _ h => h.elim) (fun i hi o ho a2 w3 hG hoff hdep => ?_) (fun vals w3 hG hvals => ?_)
    · have hg3 : Grow W w3 := hG.undrew
      obtain ⟨c0, c1, c2, c3, c4, c5, c6⟩ := seven_cells (hg3.get HWR.out)
      match i, hi with
      | 0, _ =>
        obtain rfl := Option.some.inj ho
        have o1 := hoff 1 (by decide +kernel)
        simp at o1
        simp [opYields, go_sem, o1]
        exact Grow.refl _
      | 1, _ =>
        obtain rfl := Option.some.inj ho
        have o3 := hoff 3 (by decide +kernel)
        simp at o3
        simp [opYields, go_sem, o3]
        exact Grow.refl _
      | 2, _ =>
        obtain rfl := Option.some.inj ho
        have d1 := hdep 1 (by decide +kernel)
        simp [slotOf, dstOf] at d1
        simp [opYields, go_sem, d1, c5]
        exact Grow.refl _
      | 3, _ =>
        obtain rfl := Option.some.inj ho
        have o9 := hoff 9 (by decide +kernel)
        simp at o9
        simp [opYields, go_sem, o9]
        exact ⟨Grow.refl _, HS0.out⟩
      | 4, _ =>
        obtain rfl := Option.some.inj ho
        have o3 := hoff 3 (by decide +kernel)
        simp at o3
        simp [opYields, go_sem, o3]
        exact Grow.refl _
      | 5, _ =>
        obtain rfl := Option.some.inj ho
        have d4 := hdep 4 (by decide +kernel)
        simp [slotOf, dstOf] at d4
        simp [opYields, go_sem, d4, c4]
        exact Grow.refl _
      | 6, _ =>
        obtain rfl := Option.some.inj ho
        have d5 := hdep 5 (by decide +kernel)
        simp [slotOf, dstOf] at d5
        simp [opYields, go_sem, d5]
        exact ⟨Grow.refl _, wrap_u64_sm _ (by omega) (by omega)⟩
      | 7, _ =>
        obtain rfl := Option.some.inj ho
        have d3 := hdep 3 (by decide +kernel)
        simp [slotOf, dstOf] at d3
        have d6 := hdep 6 (by decide +kernel)
        simp [slotOf, dstOf] at d6
        simp [opYields, go_sem, d3, d6, HM0.out]
        exact ⟨Grow.refl _, Int.tmod_eq_emod_of_nonneg (by omega)⟩
      | 8, _ =>
        obtain rfl := Option.some.inj ho
        have d7 := hdep 7 (by decide +kernel)
        simp [slotOf, dstOf] at d7
        simp [opYields, go_sem, d7]
        refine (HFMT.out w3 (HGR.out.trans hg3)).mono ?_
        rintro e w4 ⟨rfl, hg4⟩
        exact ⟨hg4, rfl⟩
      | 9, _ =>
        obtain rfl := Option.some.inj ho
        have d0 := hdep 0 (by decide +kernel)
        simp [slotOf, dstOf] at d0
        have d2 := hdep 2 (by decide +kernel)
        simp [slotOf, dstOf] at d2
        have d8 := hdep 8 (by decide +kernel)
        simp [slotOf, dstOf] at d8
        simp [opYields, go_sem, d0, d2, d8]
        refine (HWITH.out w3 (HGR.out.trans hg3)).mono ?_
        rintro e w4 ⟨hg4, ao, n, cp, rfl, hown⟩
        exact ⟨hg4, ao, n, cp, rfl, hown⟩
      | 10, _ =>
        obtain rfl := Option.some.inj ho
        have d9 := hdep 9 (by decide +kernel)
        simp [slotOf, dstOf] at d9
        obtain ⟨ao, n, cp, e9, ho9⟩ := d9
        simp [opYields, go_sem, e9]
        exact ⟨Grow.refl _, ao, n, cp, rfl, ho9⟩
      | 11, _ =>
        obtain rfl := Option.some.inj ho
        have d10 := hdep 10 (by decide +kernel)
        simp [slotOf, dstOf] at d10
        obtain ⟨ao, n, cp, e10, ho10⟩ := d10
        simp [opYields, go_sem, e10]
        exact ⟨Grow.refl _, ao, n, cp, rfl, ho10⟩
      | 12, _ =>
        obtain rfl := Option.some.inj ho
        have d10 := hdep 10 (by decide +kernel)
        simp [slotOf, dstOf] at d10
        obtain ⟨ao, n, cp, e10, ho10⟩ := d10
        simp [opYields, go_sem, e10]
        exact Grow.refl _
      | 13, _ =>
        obtain rfl := Option.some.inj ho
        have d11 := hdep 11 (by decide +kernel)
        simp [slotOf, dstOf] at d11
        obtain ⟨ao, n, cp, e11, ho11⟩ := d11
        simp [opYields, go_sem, e11]
        exact ⟨Grow.refl _, ao, n, cp, rfl, ho11⟩
      | k + 14, h => exact absurd h (by omega)
    · have v12 := hvals 12 (by omega)
      obtain ⟨ao, n, cp, v13, ho⟩ := hvals 13 (by omega)
      simp only at v12
      clear hvals
      have hg3 : Grow W w3 := hG.undrew
      have HG3 : Hid (Grow w w3) := hide (HGR.out.trans hg3)
      have HOW := hide ho
      clear hg3 hG ho
      simp [over, dstOf, Act.put, v12, v13]
      go_wp2
      simp [bodyPost, results, Tryz.results64, go_sem]
      exact ⟨HG3.out, HOW.out⟩
  · rw [if_neg h0] at HS
    have hone := one_right h0
    have hemp : src.isEmpty = false := by cases src with | nil => exact absurd rfl h0 | cons => rfl
    have HM0 : Hid (¬ M = 0) := hide (by omega)
    have HSUM : Hid (Calls Tryz.prog 45 #[.slice (some ⟨w.heap.size + 1, 0, none⟩) 1 1] (W.alloc (.cells #[.string { data := #[120] }, .string (bs (src.take 100))] 39)) fun e w' => e = .returned (.tuple #[.int .u64 (S : Nat), .int .i64 0]) ∧ Grow (W.alloc (.cells #[.string { data := #[120] }, .string (bs (src.take 100))] 39)) w') := hide (by
      have h := sum_any _ _ _ (one_reads W [120] (src.take 100)) (by simp) (fun x hx => by obtain rfl := List.mem_singleton.1 hx; exact ⟨(by decide : ([120] : List UInt8).length ≤ 9223372036854775807), by simp only [List.length_take]; omega⟩)
      rw [hone, sumAns_ok hone, HS.out, sW] at h
      exact h)
    clear hone h0
    go_enter Tryz.func64, Tryz.ntmps64
    go_wp2_with fail
    refine (cut_any src _ (by omega)).mono ?_
    rintro e w1 ⟨rfl, hw1⟩
    subst hw1
    go_wp2_with fail
    refine HSUM.out.mono ?_
    rintro e w2 ⟨rfl, hg2⟩
    have HGR : Hid (Grow w w2) := hide ((HGW.out.alloc _).trans hg2)
    have HWR := hide (((Grow.refl w1).alloc (.cells #[.string { data := #[120] }, .string (bs (src.take 100))] 39) |>.trans hg2).get HW.out)
    clear hg2
    go_wp2
    refine wp_region_free 14 37 Tryz.mixed2 rfl (by decide +kernel) Grow (fun _ _ _ => Grow.trans) (Grow.refl _)
      (fun i v w' => match i with
        | 0 => v = .slice lo ls.length lc
        | 1 => v = .pointer (some ⟨w.heap.size, 5, none⟩)
        | 2 => v = .string (bs tg)
        | 3 => v = .int .u64 S
        | 4 => v = .pointer (some ⟨w.heap.size, 4, none⟩)
        | 5 => v = .int .i64 M
        | 6 => v = .int .u64 M
        | 7 => v = .int .u64 (S % M : Nat)
        | 8 => v = .string (bs tx)
        | 9 => PairL w.heap.size we wa v w'
        | 10 => PairL w.heap.size we wa v w'
        | 11 => OneL w.heap.size wa v w'
        | 12 => v = .int .i64 we
        | _ => OneL w.heap.size wa v w')
      (fun i v w1 w2 h hg => by
        match i, h with
        | 0, h => exact h
        | 1, h => exact h
        | 2, h => exact h
        | 3, h => exact h
        | 4, h => exact h
        | 5, h => exact h
        | 6, h => exact h
        | 7, h => exact h
        | 8, h => exact h
        | 9, ⟨ao, n, cp, e, ho⟩ => exact ⟨ao, n, cp, e, own_grow ho hg⟩
        | 10, ⟨ao, n, cp, e, ho⟩ => exact ⟨ao, n, cp, e, own_grow ho hg⟩
        | 11, ⟨ao, n, cp, e, ho⟩ => exact ⟨ao, n, cp, e, own_grow ho hg⟩
        | 12, h => exact h
        | k + 13, ⟨ao, n, cp, e, ho⟩ => exact ⟨ao, n, cp, e, own_grow ho hg⟩) (fun _ _ => False) (fun _ _ _ _ h => h.elim) (fun i hi o ho a2 w3 hG hoff hdep => ?_) (fun vals w3 hG hvals => ?_)
    · have hg3 : Grow w2 w3 := hG.undrew
      obtain ⟨c0, c1, c2, c3, c4, c5, c6⟩ := seven_cells (hg3.get HWR.out)
      match i, hi with
      | 0, _ =>
        obtain rfl := Option.some.inj ho
        have o1 := hoff 1 (by decide +kernel)
        simp at o1
        simp [opYields, go_sem, o1]
        exact Grow.refl _
      | 1, _ =>
        obtain rfl := Option.some.inj ho
        have o3 := hoff 3 (by decide +kernel)
        simp at o3
        simp [opYields, go_sem, o3]
        exact Grow.refl _
      | 2, _ =>
        obtain rfl := Option.some.inj ho
        have d1 := hdep 1 (by decide +kernel)
        simp [slotOf, dstOf] at d1
        simp [opYields, go_sem, d1, c5]
        exact Grow.refl _
      | 3, _ =>
        obtain rfl := Option.some.inj ho
        have o9 := hoff 9 (by decide +kernel)
        simp at o9
        simp [opYields, go_sem, o9]
        exact Grow.refl _
      | 4, _ =>
        obtain rfl := Option.some.inj ho
        have o3 := hoff 3 (by decide +kernel)
        simp at o3
        simp [opYields, go_sem, o3]
        exact Grow.refl _
      | 5, _ =>
        obtain rfl := Option.some.inj ho
        have d4 := hdep 4 (by decide +kernel)
        simp [slotOf, dstOf] at d4
        simp [opYields, go_sem, d4, c4]
        exact Grow.refl _
      | 6, _ =>
        obtain rfl := Option.some.inj ho
        have d5 := hdep 5 (by decide +kernel)
        simp [slotOf, dstOf] at d5
        simp [opYields, go_sem, d5]
        exact ⟨Grow.refl _, wrap_u64_sm _ (by omega) (by omega)⟩
      | 7, _ =>
        obtain rfl := Option.some.inj ho
        have d3 := hdep 3 (by decide +kernel)
        simp [slotOf, dstOf] at d3
        have d6 := hdep 6 (by decide +kernel)
        simp [slotOf, dstOf] at d6
        simp [opYields, go_sem, d3, d6, HM0.out]
        exact ⟨Grow.refl _, Int.tmod_eq_emod_of_nonneg (by omega)⟩
      | 8, _ =>
        obtain rfl := Option.some.inj ho
        have d7 := hdep 7 (by decide +kernel)
        simp [slotOf, dstOf] at d7
        simp [opYields, go_sem, d7]
        refine (HFMT.out w3 (HGR.out.trans hg3)).mono ?_
        rintro e w4 ⟨rfl, hg4⟩
        exact ⟨hg4, rfl⟩
      | 9, _ =>
        obtain rfl := Option.some.inj ho
        have d0 := hdep 0 (by decide +kernel)
        simp [slotOf, dstOf] at d0
        have d2 := hdep 2 (by decide +kernel)
        simp [slotOf, dstOf] at d2
        have d8 := hdep 8 (by decide +kernel)
        simp [slotOf, dstOf] at d8
        simp [opYields, go_sem, d0, d2, d8]
        refine (HWITH.out w3 (HGR.out.trans hg3)).mono ?_
        rintro e w4 ⟨hg4, ao, n, cp, rfl, hown⟩
        exact ⟨hg4, ao, n, cp, rfl, hown⟩
      | 10, _ =>
        obtain rfl := Option.some.inj ho
        have d9 := hdep 9 (by decide +kernel)
        simp [slotOf, dstOf] at d9
        obtain ⟨ao, n, cp, e9, ho9⟩ := d9
        simp [opYields, go_sem, e9]
        exact ⟨Grow.refl _, ao, n, cp, rfl, ho9⟩
      | 11, _ =>
        obtain rfl := Option.some.inj ho
        have d10 := hdep 10 (by decide +kernel)
        simp [slotOf, dstOf] at d10
        obtain ⟨ao, n, cp, e10, ho10⟩ := d10
        simp [opYields, go_sem, e10]
        exact ⟨Grow.refl _, ao, n, cp, rfl, ho10⟩
      | 12, _ =>
        obtain rfl := Option.some.inj ho
        have d10 := hdep 10 (by decide +kernel)
        simp [slotOf, dstOf] at d10
        obtain ⟨ao, n, cp, e10, ho10⟩ := d10
        simp [opYields, go_sem, e10]
        exact Grow.refl _
      | 13, _ =>
        obtain rfl := Option.some.inj ho
        have d11 := hdep 11 (by decide +kernel)
        simp [slotOf, dstOf] at d11
        obtain ⟨ao, n, cp, e11, ho11⟩ := d11
        simp [opYields, go_sem, e11]
        exact ⟨Grow.refl _, ao, n, cp, rfl, ho11⟩
      | k + 14, h => exact absurd h (by omega)
    · have v12 := hvals 12 (by omega)
      obtain ⟨ao, n, cp, v13, ho⟩ := hvals 13 (by omega)
      simp only at v12
      clear hvals
      have hg3 : Grow w2 w3 := hG.undrew
      have HG3 : Hid (Grow w w3) := hide (HGR.out.trans hg3)
      have HOW := hide ho
      clear hg3 hG ho
      simp [over, dstOf, Act.put, v12, v13]
      go_wp2
      simp [bodyPost, results, Tryz.results64, go_sem]
      exact ⟨HG3.out, HOW.out⟩
end Go.Proofs.YtndpjdmfkhjiiaaGreatDoor.Rl
