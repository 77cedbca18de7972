/- 4 texts in one. -/
import Derived.Test.YtndpjdmfkhjiiaaGreatDoorProg
import Derived.Test.YtndpjdmfkhjiiaaGreatDoorQ74d152
import Derived.Test.YtndpjdmfkhjiiaaGreatDoorQ53e3ed
import Derived.Test.YtndpjdmfkhjiiaaGreatDoorQdeefed
import Derived.Test.YtndpjdmfkhjiiaaGreatDoorQb168a2
import Derived.Test.YtndpjdmfkhjiiaaGreatDoorRlUV
import Derived.BigFrame
import Derived.Lib.ItoaLen
import Derived.Test.YtndpjdmfkhjiiaaGreatDoorRlAV
import Derived.Test.YtndpjdmfkhjiiaaGreatDoorRlCV
import Derived.Test.YtndpjdmfkhjiiaaGreatDoorRlFV
import Derived.Test.YtndpjdmfkhjiiaaGreatDoorRlJV
import Derived.Test.YtndpjdmfkhjiiaaGreatDoorQ1f8da6
import Derived.Test.YtndpjdmfkhjiiaaGreatDoorQ3d7cfc
import Derived.Test.YtndpjdmfkhjiiaaGreatDoorRlEV
import Derived.Test.YtndpjdmfkhjiiaaGreatDoorRlIV
import Derived.Maps.OwnSet
import Derived.Maps.OwnOps
import Derived.Maps.Views
/- relabel: share. -/
set_option linter.unusedVariables false
set_option linter.unusedSimpArgs false
namespace Go.Proofs.YtndpjdmfkhjiiaaGreatDoor.Rl
open Go.RowKit Lb
attribute [local go_sem] bs_size bs_toList bs_append bs_get bs_extract

abbrev tabOk (w : World) : Prop := Lib.TabIs Tryz.prog w "internal/strconv.uint64pow10" .u64 Lib.pow10Tab
theorem tab_grow {w w' : World} (h : tabOk w) (hg : Grow w w') : tabOk w' := by
  unfold tabOk Lib.TabIs World.var? at *
  cases hn : Tryz.prog.globalNamed "internal/strconv.uint64pow10" with
  | none => simp [hn] at h
  | some g =>
    simp only [hn, Option.bind_some] at h ⊢
    have hlt : g < w.heap.size := by
      rcases Nat.lt_or_ge g w.heap.size with h' | h'
      · exact h'
      · rw [Array.getElem?_eq_none h'] at h
        simp at h
    rw [hg.block g hlt]
    exact h

theorem wrap_u64_sm (x : Int) (h0 : 0 ≤ x) (h : x < 18446744073709551616) : IntKind.u64.wrap x = x := by
  unfold IntKind.wrap; simp [IntKind.bits, IntKind.signed]; omega
/-- A share, and its text. -/
def shareN (r : Rul) (src : List UInt8) : Nat := (if src = [] then 0 else sumB [([120], src.take 100)]) % r.modulus.toNat
def shareT (r : Rul) (src : List UInt8) : List UInt8 := Lib.decDigits (shareN r src)
theorem sumB_lt (l : List Lab) : sumB l < 18446744073709551616 := sumGo_lt sum0_lt l
theorem one_right {s : List UInt8} (h : s ≠ []) : checkB [([120], s.take 100)] = 0 := by
  have hl : 1 ≤ s.length := by
    cases s with
    | nil => exact absurd rfl h
    | cons => simp
  refine checkB_zero.2 ⟨eachErr_zero.2 ⟨by simp, fun x hx => ?_⟩, by simp [riseB]⟩
  obtain rfl := List.mem_singleton.1 hx
  exact ⟨(by decide : nameB [120] = true), by simp only [List.length_take]; omega, by simp only [List.length_take]; omega⟩

set_option maxRecDepth 20000 in
set_option maxHeartbeats 8000000 in
theorem share_any (w : World) (r : Rul) (v va : Value) (ls : List Lab) (src : List UInt8) (hsrc : src.length ≤ 2000) (hc : checkB ls = 0) (ha : readsLabels w w.heap.size va ls) (htg : r.target.length ≤ 100) (hm1 : 1 ≤ r.modulus) (hm2 : r.modulus ≤ 1000000) (htab : tabOk w) :
    Calls Tryz.prog 64 #[ruleV r v, va, .string (bs src)] w fun e w' => Grow w w' ∧ ∃ v', e = .returned (.tuple #[v', .bool true, .int .i64 (withErr ls r.target (shareT r src) : Nat)]) ∧ ownLabels w' w.heap.size v' (withAns ls r.target (shareT r src)) := by
  obtain ⟨kind, rs, bt, mk, md, tg, rp⟩ := r
  unfold ruleV shareT shareN
  simp only at htg hm1 hm2 ⊢
  obtain ⟨M, rfl⟩ : ∃ M : Nat, md = M := ⟨md.toNat, by omega⟩
  obtain ⟨lo, lc, rfl⟩ := readsLabels_len ha
  have HA := hide ha
  have hsm := right_small hc
  have HIN : Hid (lensOk ls) := hide (fun x hx => by have := hsm.2 x hx; omega)
  have hll : ls.length ≤ 9223372036854775807 := by omega
  clear ha hc hsm
  obtain ⟨W, eW, gW, sW, hW⟩ := laid_rule w (.int .i64 kind) v (.string (bs bt)) (.string (bs mk)) (.int .i64 M) (.string (bs tg)) (.string (bs rp)) 24
  have HGW := hide gW
  have HW := hide hW
  have HTAB := hide htab
  clear gW hW htab
  simp only [Int.toNat_natCast]
  obtain ⟨S, HS⟩ : ∃ S, Hid ((if src = [] then 0 else sumB [([120], src.take 100)]) = S) := ⟨_, hide rfl⟩
  have HSL : Hid (S < 18446744073709551616) := hide (by
    rw [← HS.out]
    split
    · omega
    · exact sumB_lt _)
  rw [HS.out]
  obtain ⟨tx, HTX⟩ : ∃ tx, Hid (Lib.decDigits (S % M) = tx) := ⟨_, hide rfl⟩
  have HSM : Hid (S % M < 18446744073709551616) := hide (by
    have := Nat.mod_le S M
    have := HSL.out
    omega)
  have htxl : tx.length ≤ 9223372036854775807 := by
    rw [← HTX.out, Lib.decDigits_length]
    have := Lib.nDigits_le20 (S % M) HSM.out
    omega
  have HFMT : Hid (∀ W2, Grow w W2 → Calls Tryz.prog 104 #[.int .u64 (S % M : Nat), .int .i64 10] W2 fun e w' => e = .returned (.string (bs tx)) ∧ Grow W2 w') := hide (fun W2 hg2 => by
    have h := formatUint_any (S % M) HSM.out W2 (tab_grow HTAB.out hg2)
    rw [HTX.out] at h
    exact h)
  rw [HTX.out]
  have HWITH : Hid (∀ W2, Grow w W2 → Calls Tryz.prog 25 #[.slice lo ls.length lc, .string (bs tg), .string (bs tx)] W2 fun e w' => Grow W2 w' ∧ ∃ ao n cp, e = .returned (.tuple #[.slice ao n cp, .int .i64 (withErr ls tg tx : Nat)]) ∧ ownLabels w' w.heap.size (.slice ao n cp) (withAns ls tg tx)) := hide (fun W2 hg2 => by
    refine (with_any W2 (.slice lo ls.length lc) ls tg tx (readsLabels_mono (readsLabels_below HA.out hg2) hg2.size) hll HIN.out (by unfold maxLen; omega) (by unfold maxLen; omega)).mono ?_
    rintro e w' ⟨v', rfl, hown, hb⟩
    obtain ⟨ao, cp, rfl⟩ := own_shape hown
    exact ⟨hb, ao, _, cp, rfl, own_le hown hg2.size⟩)
  generalize withErr ls tg tx = we at HWITH ⊢
  generalize withAns ls tg tx = wa at HWITH ⊢
  by_cases h0 : src = []
  · rw [if_pos h0] at HS
    subst h0
    have HS0 : Hid ((0 : Int) = S) := hide (by have := HS.out; omega)
    have HM0 : Hid (¬ M = 0) := hide (by omega)
    have HGR : Hid (Grow w W) := HGW
    have HWR := HW
    go_enter Tryz.func64, Tryz.ntmps64
    go_wp2
    refine wp_region_free 14 37 Tryz.mixed2 rfl (by decide +kernel) Grow (fun _ _ _ => Grow.trans) (Grow.refl _)
      (fun i v w' => match i with
        | 0 => v = .slice lo ls.length lc
        | 1 => v = .pointer (some ⟨w.heap.size, 5, none⟩)
        | 2 => v = .string (bs tg)
        | 3 => v = .int .u64 S
        | 4 => v = .pointer (some ⟨w.heap.size, 4, none⟩)
        | 5 => v = .int .i64 M
        | 6 => v = .int .u64 M
        | 7 => v = .int .u64 (S % M : Nat)
        | 8 => v = .string (bs tx)
        | 9 => PairL w.heap.size we wa v w'
        | 10 => PairL w.heap.size we wa v w'
        | 11 => OneL w.heap.size wa v w'
        | 12 => v = .int .i64 we
        | _ => OneL w.heap.size wa v w')
      (fun i v w1 w2 h hg => by
        match i, h with
        | 0, h => exact h
        | 1, h => exact h
        | 2, h => exact h
        | 3, h => exact h
        | 4, h => exact h
        | 5, h => exact h
        | 6, h => exact h
        | 7, h => exact h
        | 8, h => exact h
        | 9, ⟨ao, n, cp, e, ho⟩ => exact ⟨ao, n, cp, e, own_grow ho hg⟩
        | 10, ⟨ao, n, cp, e, ho⟩ => exact ⟨ao, n, cp, e, own_grow ho hg⟩
        | 11, ⟨ao, n, cp, e, ho⟩ => exact ⟨ao, n, cp, e, own_grow ho hg⟩
        | 12, h => exact h
        | k + 13, ⟨ao, n, cp, e, ho⟩ => exact ⟨ao, n, cp, e, own_grow ho hg⟩) (fun _ _ => False) (fun _ _ _ _ h => h.elim) (fun i hi o ho a2 w3 hG hoff hdep => ?_) (fun vals w3 hG hvals => ?_)
    · have hg3 : Grow W w3 := hG.undrew
      obtain ⟨c0, c1, c2, c3, c4, c5, c6⟩ := seven_cells (hg3.get HWR.out)
      match i, hi with
      | 0, _ =>
        obtain rfl := Option.some.inj ho
        have o1 := hoff 1 (by decide +kernel)
        simp at o1
        simp [opYields, go_sem, o1]
        exact Grow.refl _
      | 1, _ =>
        obtain rfl := Option.some.inj ho
        have o3 := hoff 3 (by decide +kernel)
        simp at o3
        simp [opYields, go_sem, o3]
        exact Grow.refl _
      | 2, _ =>
        obtain rfl := Option.some.inj ho
        have d1 := hdep 1 (by decide +kernel)
        simp [slotOf, dstOf] at d1
        simp [opYields, go_sem, d1, c5]
        exact Grow.refl _
      | 3, _ =>
        obtain rfl := Option.some.inj ho
        have o9 := hoff 9 (by decide +kernel)
        simp at o9
        simp [opYields, go_sem, o9]
        exact ⟨Grow.refl _, HS0.out⟩
      | 4, _ =>
        obtain rfl := Option.some.inj ho
        have o3 := hoff 3 (by decide +kernel)
        simp at o3
        simp [opYields, go_sem, o3]
        exact Grow.refl _
      | 5, _ =>
        obtain rfl := Option.some.inj ho
        have d4 := hdep 4 (by decide +kernel)
        simp [slotOf, dstOf] at d4
        simp [opYields, go_sem, d4, c4]
        exact Grow.refl _
      | 6, _ =>
        obtain rfl := Option.some.inj ho
        have d5 := hdep 5 (by decide +kernel)
        simp [slotOf, dstOf] at d5
        simp [opYields, go_sem, d5]
        exact ⟨Grow.refl _, wrap_u64_sm _ (by omega) (by omega)⟩
      | 7, _ =>
        obtain rfl := Option.some.inj ho
        have d3 := hdep 3 (by decide +kernel)
        simp [slotOf, dstOf] at d3
        have d6 := hdep 6 (by decide +kernel)
        simp [slotOf, dstOf] at d6
        simp [opYields, go_sem, d3, d6, HM0.out]
        exact ⟨Grow.refl _, Int.tmod_eq_emod_of_nonneg (by omega)⟩
      | 8, _ =>
        obtain rfl := Option.some.inj ho
        have d7 := hdep 7 (by decide +kernel)
        simp [slotOf, dstOf] at d7
        simp [opYields, go_sem, d7]
        refine (HFMT.out w3 (HGR.out.trans hg3)).mono ?_
        rintro e w4 ⟨rfl, hg4⟩
        exact ⟨hg4, rfl⟩
      | 9, _ =>
        obtain rfl := Option.some.inj ho
        have d0 := hdep 0 (by decide +kernel)
        simp [slotOf, dstOf] at d0
        have d2 := hdep 2 (by decide +kernel)
        simp [slotOf, dstOf] at d2
        have d8 := hdep 8 (by decide +kernel)
        simp [slotOf, dstOf] at d8
        simp [opYields, go_sem, d0, d2, d8]
        refine (HWITH.out w3 (HGR.out.trans hg3)).mono ?_
        rintro e w4 ⟨hg4, ao, n, cp, rfl, hown⟩
        exact ⟨hg4, ao, n, cp, rfl, hown⟩
      | 10, _ =>
        obtain rfl := Option.some.inj ho
        have d9 := hdep 9 (by decide +kernel)
        simp [slotOf, dstOf] at d9
        obtain ⟨ao, n, cp, e9, ho9⟩ := d9
        simp [opYields, go_sem, e9]
        exact ⟨Grow.refl _, ao, n, cp, rfl, ho9⟩
      | 11, _ =>
        obtain rfl := Option.some.inj ho
        have d10 := hdep 10 (by decide +kernel)
        simp [slotOf, dstOf] at d10
        obtain ⟨ao, n, cp, e10, ho10⟩ := d10
        simp [opYields, go_sem, e10]
        exact ⟨Grow.refl _, ao, n, cp, rfl, ho10⟩
      | 12, _ =>
        obtain rfl := Option.some.inj ho
        have d10 := hdep 10 (by decide +kernel)
        simp [slotOf, dstOf] at d10
        obtain ⟨ao, n, cp, e10, ho10⟩ := d10
        simp [opYields, go_sem, e10]
        exact Grow.refl _
      | 13, _ =>
        obtain rfl := Option.some.inj ho
        have d11 := hdep 11 (by decide +kernel)
        simp [slotOf, dstOf] at d11
        obtain ⟨ao, n, cp, e11, ho11⟩ := d11
        simp [opYields, go_sem, e11]
        exact ⟨Grow.refl _, ao, n, cp, rfl, ho11⟩
      | k + 14, h => exact absurd h (by omega)
    · have v12 := hvals 12 (by omega)
      obtain ⟨ao, n, cp, v13, ho⟩ := hvals 13 (by omega)
      simp only at v12
      clear hvals
      have hg3 : Grow W w3 := hG.undrew
      have HG3 : Hid (Grow w w3) := hide (HGR.out.trans hg3)
      have HOW := hide ho
      clear hg3 hG ho
      simp [over, dstOf, Act.put, v12, v13]
      go_wp2
      simp [bodyPost, results, Tryz.results64, go_sem]
      exact ⟨HG3.out, HOW.out⟩
  · rw [if_neg h0] at HS
    have hone := one_right h0
    have hemp : src.isEmpty = false := by cases src with | nil => exact absurd rfl h0 | cons => rfl
    have HM0 : Hid (¬ M = 0) := hide (by omega)
    have HSUM : Hid (Calls Tryz.prog 45 #[.slice (some ⟨w.heap.size + 1, 0, none⟩) 1 1] (W.alloc (.cells #[.string { data := #[120] }, .string (bs (src.take 100))] 39)) fun e w' => e = .returned (.tuple #[.int .u64 (S : Nat), .int .i64 0]) ∧ Grow (W.alloc (.cells #[.string { data := #[120] }, .string (bs (src.take 100))] 39)) w') := hide (by
      have h := sum_any _ _ _ (one_reads W [120] (src.take 100)) (by simp) (fun x hx => by obtain rfl := List.mem_singleton.1 hx; exact ⟨(by decide : ([120] : List UInt8).length ≤ 9223372036854775807), by simp only [List.length_take]; omega⟩)
      rw [hone, sumAns_ok hone, HS.out, sW] at h
      exact h)
    clear hone h0
    go_enter Tryz.func64, Tryz.ntmps64
    go_wp2_with fail
    refine (cut_any src _ (by omega)).mono ?_
    rintro e w1 ⟨rfl, hw1⟩
    subst hw1
    go_wp2_with fail
    refine HSUM.out.mono ?_
    rintro e w2 ⟨rfl, hg2⟩
    have HGR : Hid (Grow w w2) := hide ((HGW.out.alloc _).trans hg2)
    have HWR := hide (((Grow.refl w1).alloc (.cells #[.string { data := #[120] }, .string (bs (src.take 100))] 39) |>.trans hg2).get HW.out)
    clear hg2
    go_wp2
    refine wp_region_free 14 37 Tryz.mixed2 rfl (by decide +kernel) Grow (fun _ _ _ => Grow.trans) (Grow.refl _)
      (fun i v w' => match i with
        | 0 => v = .slice lo ls.length lc
        | 1 => v = .pointer (some ⟨w.heap.size, 5, none⟩)
        | 2 => v = .string (bs tg)
        | 3 => v = .int .u64 S
        | 4 => v = .pointer (some ⟨w.heap.size, 4, none⟩)
        | 5 => v = .int .i64 M
        | 6 => v = .int .u64 M
        | 7 => v = .int .u64 (S % M : Nat)
        | 8 => v = .string (bs tx)
        | 9 => PairL w.heap.size we wa v w'
        | 10 => PairL w.heap.size we wa v w'
        | 11 => OneL w.heap.size wa v w'
        | 12 => v = .int .i64 we
        | _ => OneL w.heap.size wa v w')
      (fun i v w1 w2 h hg => by
        match i, h with
        | 0, h => exact h
        | 1, h => exact h
        | 2, h => exact h
        | 3, h => exact h
        | 4, h => exact h
        | 5, h => exact h
        | 6, h => exact h
        | 7, h => exact h
        | 8, h => exact h
        | 9, ⟨ao, n, cp, e, ho⟩ => exact ⟨ao, n, cp, e, own_grow ho hg⟩
        | 10, ⟨ao, n, cp, e, ho⟩ => exact ⟨ao, n, cp, e, own_grow ho hg⟩
        | 11, ⟨ao, n, cp, e, ho⟩ => exact ⟨ao, n, cp, e, own_grow ho hg⟩
        | 12, h => exact h
        | k + 13, ⟨ao, n, cp, e, ho⟩ => exact ⟨ao, n, cp, e, own_grow ho hg⟩) (fun _ _ => False) (fun _ _ _ _ h => h.elim) (fun i hi o ho a2 w3 hG hoff hdep => ?_) (fun vals w3 hG hvals => ?_)
    · have hg3 : Grow w2 w3 := hG.undrew
      obtain ⟨c0, c1, c2, c3, c4, c5, c6⟩ := seven_cells (hg3.get HWR.out)
      match i, hi with
      | 0, _ =>
        obtain rfl := Option.some.inj ho
        have o1 := hoff 1 (by decide +kernel)
        simp at o1
        simp [opYields, go_sem, o1]
        exact Grow.refl _
      | 1, _ =>
        obtain rfl := Option.some.inj ho
        have o3 := hoff 3 (by decide +kernel)
        simp at o3
        simp [opYields, go_sem, o3]
        exact Grow.refl _
      | 2, _ =>
        obtain rfl := Option.some.inj ho
        have d1 := hdep 1 (by decide +kernel)
        simp [slotOf, dstOf] at d1
        simp [opYields, go_sem, d1, c5]
        exact Grow.refl _
      | 3, _ =>
        obtain rfl := Option.some.inj ho
        have o9 := hoff 9 (by decide +kernel)
        simp at o9
        simp [opYields, go_sem, o9]
        exact Grow.refl _
      | 4, _ =>
        obtain rfl := Option.some.inj ho
        have o3 := hoff 3 (by decide +kernel)
        simp at o3
        simp [opYields, go_sem, o3]
        exact Grow.refl _
      | 5, _ =>
        obtain rfl := Option.some.inj ho
        have d4 := hdep 4 (by decide +kernel)
        simp [slotOf, dstOf] at d4
        simp [opYields, go_sem, d4, c4]
        exact Grow.refl _
      | 6, _ =>
        obtain rfl := Option.some.inj ho
        have d5 := hdep 5 (by decide +kernel)
        simp [slotOf, dstOf] at d5
        simp [opYields, go_sem, d5]
        exact ⟨Grow.refl _, wrap_u64_sm _ (by omega) (by omega)⟩
      | 7, _ =>
        obtain rfl := Option.some.inj ho
        have d3 := hdep 3 (by decide +kernel)
        simp [slotOf, dstOf] at d3
        have d6 := hdep 6 (by decide +kernel)
        simp [slotOf, dstOf] at d6
        simp [opYields, go_sem, d3, d6, HM0.out]
        exact ⟨Grow.refl _, Int.tmod_eq_emod_of_nonneg (by omega)⟩
      | 8, _ =>
        obtain rfl := Option.some.inj ho
        have d7 := hdep 7 (by decide +kernel)
        simp [slotOf, dstOf] at d7
        simp [opYields, go_sem, d7]
        refine (HFMT.out w3 (HGR.out.trans hg3)).mono ?_
        rintro e w4 ⟨rfl, hg4⟩
        exact ⟨hg4, rfl⟩
      | 9, _ =>
        obtain rfl := Option.some.inj ho
        have d0 := hdep 0 (by decide +kernel)
        simp [slotOf, dstOf] at d0
        have d2 := hdep 2 (by decide +kernel)
        simp [slotOf, dstOf] at d2
        have d8 := hdep 8 (by decide +kernel)
        simp [slotOf, dstOf] at d8
        simp [opYields, go_sem, d0, d2, d8]
        refine (HWITH.out w3 (HGR.out.trans hg3)).mono ?_
        rintro e w4 ⟨hg4, ao, n, cp, rfl, hown⟩
        exact ⟨hg4, ao, n, cp, rfl, hown⟩
      | 10, _ =>
        obtain rfl := Option.some.inj ho
        have d9 := hdep 9 (by decide +kernel)
        simp [slotOf, dstOf] at d9
        obtain ⟨ao, n, cp, e9, ho9⟩ := d9
        simp [opYields, go_sem, e9]
        exact ⟨Grow.refl _, ao, n, cp, rfl, ho9⟩
      | 11, _ =>
        obtain rfl := Option.some.inj ho
        have d10 := hdep 10 (by decide +kernel)
        simp [slotOf, dstOf] at d10
        obtain ⟨ao, n, cp, e10, ho10⟩ := d10
        simp [opYields, go_sem, e10]
        exact ⟨Grow.refl _, ao, n, cp, rfl, ho10⟩
      | 12, _ =>
        obtain rfl := Option.some.inj ho
        have d10 := hdep 10 (by decide +kernel)
        simp [slotOf, dstOf] at d10
        obtain ⟨ao, n, cp, e10, ho10⟩ := d10
        simp [opYields, go_sem, e10]
        exact Grow.refl _
      | 13, _ =>
        obtain rfl := Option.some.inj ho
        have d11 := hdep 11 (by decide +kernel)
        simp [slotOf, dstOf] at d11
        obtain ⟨ao, n, cp, e11, ho11⟩ := d11
        simp [opYields, go_sem, e11]
        exact ⟨Grow.refl _, ao, n, cp, rfl, ho11⟩
      | k + 14, h => exact absurd h (by omega)
    · have v12 := hvals 12 (by omega)
      obtain ⟨ao, n, cp, v13, ho⟩ := hvals 13 (by omega)
      simp only at v12
      clear hvals
      have hg3 : Grow w2 w3 := hG.undrew
      have HG3 : Hid (Grow w w3) := hide (HGR.out.trans hg3)
      have HOW := hide ho
      clear hg3 hG ho
      simp [over, dstOf, Act.put, v12, v13]
      go_wp2
      simp [bodyPost, results, Tryz.results64, go_sem]
      exact ⟨HG3.out, HOW.out⟩
end Go.Proofs.YtndpjdmfkhjiiaaGreatDoor.Rl

/- relabel: the deeds as one. -/
set_option linter.unusedVariables false
set_option linter.unusedSimpArgs false
namespace Go.Proofs.YtndpjdmfkhjiiaaGreatDoor.Rl
open Go.RowKit Lb

/-- What a rule that is right does to labels that are right: the labels then, whether they stay, and an error. -/
noncomputable def deedB (r : Rul) (T : Tr) (g : Nat) (tm : List (List UInt8 × Int)) (ls : List Lab) (src : List UInt8) : List Lab × Bool × Nat :=
  if r.kind = 1 then (match wayOf T src with
    | none => (ls, true, 0)
    | some l => (withAns ls r.target (madeB src (tookL src l g) tm), true, withErr ls r.target (madeB src (tookL src l g) tm)))
  else if r.kind = 2 then (ls, likeR T src, 0)
  else if r.kind = 3 then (ls, !likeR T src, 0)
  else if r.kind = 4 then (withAns ls r.target (shareT r src), true, withErr ls r.target (shareT r src))
  else if r.kind = 5 then ((mapGo (nameOf T g tm) ls ls).1, decide ((mapGo (nameOf T g tm) ls ls).2 = 0), (mapGo (nameOf T g tm) ls ls).2)
  else if r.kind = 6 then (ls.filter fun x => !likeR T x.1, true, 0)
  else (ls.filter fun x => likeR T x.1, true, 0)
/-- What a deed's call answers. -/
def DeedPost (w : World) (va : Value) (ls : List Lab) (d : List Lab × Bool × Nat) (e : Ending) (w' : World) : Prop :=
  Grow w w' ∧ ∃ mo n mc, e = .returned (.tuple #[.slice mo n mc, .bool d.2.1, .int .i64 d.2.2]) ∧ (d.2.2 = 0 → Stay w.heap.size va ls (.slice mo n mc) d.1 w')

theorem stay_shape {B : Nat} {v0 v : Value} {l0 l : List Lab} {w : World} (h : Stay B v0 l0 v l w) (h0 : ∃ ao n cp, v0 = .slice ao n cp) : ∃ ao n cp, v = .slice ao n cp := by
  rcases h with ⟨rfl, _⟩ | h
  · exact h0
  · obtain ⟨ao, cp, rfl⟩ := own_shape h
    exact ⟨ao, _, cp, rfl⟩

theorem rule_right {r : Rul} (h : ruleErr r = 0) : 1 ≤ r.kind ∧ r.kind ≤ 7 ∧ partsErr r = 0 ∧ kindErr r = 0 := by
  unfold ruleErr at h
  split at h
  · rename_i hk
    by_cases hp : partsErr r = 0
    · rw [if_neg (by omega)] at h
      exact ⟨hk.1, hk.2, hp, h⟩
    · rw [if_pos hp] at h
      exact absurd h hp
  · cases h
theorem parts_right {r : Rul} (h : partsErr r = 0) : r.sources.length ≤ 20 ∧ r.between.length ≤ 100 ∧ r.repl.length ≤ 100 ∧ r.target.length ≤ 100 ∧ ∃ T g, maskIs r.mask = .ok (T, g) := by
  unfold partsErr at h
  by_cases hm : manyR r
  · rw [if_pos hm] at h
    cases h
  · rw [if_neg hm] at h
    unfold manyR at hm
    refine ⟨by omega, by omega, by omega, by omega, ?_⟩
    split at h
    · unfold faultOf at h
      cases hx : maskIs r.mask with
      | error x =>
        obtain ⟨er, a⟩ := x
        rw [hx] at h
        have h1 := (maskIs_pos hx).1
        have h2 : er = 0 := h
        omega
      | ok x => exact ⟨x.1, x.2, rfl⟩
    · cases h

theorem share_right {r : Rul} (h : r.kind = 4) (hk : kindErr r = 0) : 1 ≤ r.modulus ∧ r.modulus ≤ 1000000 := by
  unfold kindErr at hk
  rw [if_neg (by omega), if_pos h] at hk
  split at hk
  · split at hk
    · cases hk
    · omega
  · cases hk
theorem deed_any (w : World) (r : Rul) (v va : Value) (ls : List Lab) (src : List UInt8) {T : Tr} {g : Nat} {tm : List (List UInt8 × Int)} (hr : ruleErr r = 0) (htab : tabOk w) (hm : maskIs r.mask = .ok (T, g)) (hsrc : src.length ≤ 2000) (hc : checkB ls = 0) (ha : readsLabels w w.heap.size va ls)
    (htm : r.kind = 1 ∨ r.kind = 5 → tmAt r.repl 0 = some tm) :
    Calls Tryz.prog (deedNo r.kind) #[ruleV r v, va, .string (bs src)] w (DeedPost w va ls (deedB r T g tm ls src)) := by
  obtain ⟨k1, k7, hp, hke⟩ := rule_right hr
  obtain ⟨_, _, hrp, htg, _⟩ := parts_right hp
  have hva : ∃ ao n cp, va = .slice ao n cp := by
    obtain ⟨ao, cp, e⟩ := readsLabels_len ha
    exact ⟨ao, _, cp, e⟩
  unfold DeedPost deedB
  by_cases h1 : r.kind = 1
  · rw [if_pos h1, h1]
    refine (replace_any w r v va ls src hm hsrc hc ha (htm (.inl h1)) hrp htg).mono ?_
    rintro e w' ⟨hg, h⟩
    refine ⟨hg, ?_⟩
    cases hw : wayOf T src with
    | none =>
      rw [hw] at h
      obtain ⟨ao, n, cp, rfl⟩ := hva
      exact ⟨ao, n, cp, h, fun _ => .inl ⟨rfl, rfl⟩⟩
    | some l =>
      rw [hw] at h
      obtain ⟨v', rfl, ho⟩ := h
      obtain ⟨ao, cp, rfl⟩ := own_shape ho
      exact ⟨ao, _, cp, rfl, fun _ => .inr ho⟩
  rw [if_neg h1]
  by_cases h2 : r.kind = 2
  · rw [if_pos h2, h2]
    refine (keep_any w r v va src hm hsrc).mono ?_
    rintro e w' ⟨hg, rfl⟩
    obtain ⟨ao, n, cp, rfl⟩ := hva
    exact ⟨hg, ao, n, cp, rfl, fun _ => .inl ⟨rfl, rfl⟩⟩
  rw [if_neg h2]
  by_cases h3 : r.kind = 3
  · rw [if_pos h3, h3]
    refine (drop_any w r v va src hm hsrc).mono ?_
    rintro e w' ⟨hg, rfl⟩
    obtain ⟨ao, n, cp, rfl⟩ := hva
    exact ⟨hg, ao, n, cp, rfl, fun _ => .inl ⟨rfl, rfl⟩⟩
  rw [if_neg h3]
  by_cases h4 : r.kind = 4
  · rw [if_pos h4, h4]
    have hmd := share_right h4 hke
    refine (share_any w r v va ls src hsrc hc ha htg hmd.1 hmd.2 htab).mono ?_
    rintro e w' ⟨hg, v', rfl, ho⟩
    obtain ⟨ao, cp, rfl⟩ := own_shape ho
    exact ⟨hg, ao, _, cp, rfl, fun _ => .inr ho⟩
  rw [if_neg h4]
  by_cases h5 : r.kind = 5
  · rw [if_pos h5, h5]
    refine (rename_any w r v va ls src hm hc ha (htm (.inr h5)) hrp).mono ?_
    rintro e w' ⟨hg, h⟩
    refine ⟨hg, ?_⟩
    unfold MapPost at h
    generalize mapGo (nameOf T g tm) ls ls = R at h ⊢
    by_cases hz : R.2 = 0
    · rw [if_neg (by omega)] at h
      obtain ⟨v', rfl, hs⟩ := h
      obtain ⟨ao, n, cp, rfl⟩ := stay_shape hs hva
      refine ⟨ao, n, cp, ?_, fun _ => hs⟩
      simp [hz]
    · rw [if_pos hz] at h
      subst h
      refine ⟨none, 0, 0, ?_, fun h => absurd h hz⟩
      simp [hz]
  rw [if_neg h5]
  by_cases h6 : r.kind = 6
  · rw [if_pos h6, h6]
    refine (lose_any w r v va ls src hm hc ha).mono ?_
    rintro e w' ⟨v', rfl, ho, hg⟩
    obtain ⟨ao, cp, rfl⟩ := own_shape ho
    exact ⟨hg, ao, _, cp, rfl, fun _ => .inr ho⟩
  rw [if_neg h6]
  have h7 : r.kind = 7 := by omega
  rw [h7]
  refine (hold_any w r v va ls src hm hc ha).mono ?_
  rintro e w' ⟨v', rfl, ho, hg⟩
  obtain ⟨ao, cp, rfl⟩ := own_shape ho
  exact ⟨hg, ao, _, cp, rfl, fun _ => .inr ho⟩
end Go.Proofs.YtndpjdmfkhjiiaaGreatDoor.Rl

/- relabel: Apply. -/
set_option linter.unusedVariables false
set_option linter.unusedSimpArgs false
namespace Go.Proofs.YtndpjdmfkhjiiaaGreatDoor.Rl
open Go.RowKit Lb Go.Maps
attribute [local go_sem] bs_size bs_toList bs_append bs_get bs_extract

/-- Labels that are right are made as they are. -/
theorem make_right {ls : List Lab} (h : checkB ls = 0) : makeErr ls = 0 ∧ makeAns ls = ls := by
  obtain ⟨h1, h2, h3⟩ : eachErr 1 ls = 0 ∧ twiceB ls = false ∧ riseB ls = true := by
    unfold checkB at h
    split at h
    · rename_i h1
      split at h
      · rename_i h2
        split at h
        · rename_i h3; exact ⟨h1, h2, h3⟩
        · cases h
      · cases h
    · rename_i h1; exact absurd h h1
  obtain ⟨hl, hx⟩ := eachErr_zero.1 h1
  have h0 : makeErr ls = 0 := by
    unfold makeErr
    rw [if_pos (eachErr_zero.2 ⟨hl, fun x hm => by have := hx x hm; exact ⟨this.1, by omega, this.2.2⟩⟩), if_pos h2]
  refine ⟨h0, ?_⟩
  rw [makeAns_ok h0]
  refine (makeL_uniq h2 (rise_iff.2 h3) fun y => ⟨fun hy => ⟨hy, fun e => ?_⟩, fun hy => hy.1⟩).symm
  have := (hx y hy).2.1
  rw [e] at this
  simp at this

/-- A rule's mask, groups and template, as they are read. -/
noncomputable def trOf (r : Rul) : Tr × Nat := match maskIs r.mask with | .ok x => x | .error _ => (.nil, 0)
def tmOf (r : Rul) : List (List UInt8 × Int) := (tmAt r.repl 0).getD []
noncomputable def deedR (r : Rul) (ls : List Lab) (src : List UInt8) : List Lab × Bool × Nat := deedB r (trOf r).1 (trOf r).2 (tmOf r) ls src
/-- What comes of rules that are right, one behind the other. -/
noncomputable def ruleGo : List Rul → List Lab → List Lab × Bool × Nat
  | [], made => (made, true, 0)
  | r :: rs, made => if 2000 < (sourceB r made).length then ([], false, 2) else
    if (deedR r made (sourceB r made)).2.2 ≠ 0 ∨ (deedR r made (sourceB r made)).2.1 = false then ([], false, (deedR r made (sourceB r made)).2.2) else ruleGo rs (deedR r made (sourceB r made)).1
/-- What Apply answers. -/
noncomputable def applyB (ls : List Lab) (rs : List Rul) : List Lab × Bool × Nat := if allErr ls rs ≠ 0 then ([], false, allErr ls rs) else ruleGo rs ls

theorem kind_right {r : Rul} (h : kindErr r = 0) : r.kind = 1 ∨ r.kind = 5 → tmAt r.repl 0 = some (tmOf r) := by
  intro hk
  have ht : tmB r.repl = true := by
    unfold kindErr at h
    rcases hk with hk | hk
    · rw [if_pos hk] at h
      split at h
      · rename_i h1; exact h1.2
      · cases h
    · rw [if_neg (by omega), if_neg (by omega), if_pos hk] at h
      split at h
      · rename_i h1; exact h1
      · cases h
  unfold tmB at ht
  unfold tmOf
  cases hx : tmAt r.repl 0 with
  | none => rw [hx] at ht; cases ht
  | some l => rfl
theorem deedR_any (w : World) (r : Rul) (v va : Value) (ls : List Lab) (src : List UInt8) (hr : ruleErr r = 0) (htab : tabOk w) (hsrc : src.length ≤ 2000) (hc : checkB ls = 0) (ha : readsLabels w w.heap.size va ls) :
    Calls Tryz.prog (deedNo r.kind) #[ruleV r v, va, .string (bs src)] w (DeedPost w va ls (deedR r ls src)) := by
  obtain ⟨_, _, hp, hke⟩ := rule_right hr
  obtain ⟨_, _, _, _, T, g, hm⟩ := parts_right hp
  have e : trOf r = (T, g) := by unfold trOf; rw [hm]
  have h := deed_any w r v va ls src (tm := tmOf r) hr htab hm hsrc hc ha (kind_right hke)
  unfold deedR
  rw [e]
  exact h
theorem check_filter {ls : List Lab} (h : checkB ls = 0) (p : Lab → Bool) : checkB (ls.filter p) = 0 := by
  obtain ⟨h1, h2⟩ := checkB_zero.1 h
  obtain ⟨hl, hx⟩ := eachErr_zero.1 h1
  refine checkB_zero.2 ⟨eachErr_zero.2 ⟨Nat.le_trans (List.length_filter_le _ _) hl, fun x hm => hx x (List.mem_filter.1 hm).1⟩, rise_iff.1 ?_⟩
  have h3 := rise_iff.2 h2
  unfold Rise at h3 ⊢
  exact h3.filter _
theorem check_with {ls : List Lab} {n v : List UInt8} (h : withErr ls n v = 0) : checkB (withAns ls n v) = 0 := by
  rw [withAns_ok h]
  exact (back_put h).2.1
theorem check_map {f : List UInt8 → Option (List UInt8)} : ∀ {l made : List Lab}, checkB made = 0 → (mapGo f made l).2 = 0 → checkB (mapGo f made l).1 = 0
  | [], made, h, _ => h
  | x :: l, made, h, h0 => by
    rw [mapGo] at h0 ⊢
    cases hf : f x.1 with
    | none =>
      rw [hf] at h0
      exact check_map h h0
    | some n =>
      rw [hf] at h0
      simp only at h0 ⊢
      by_cases hn : nameB n = true
      · rw [if_pos hn] at h0 ⊢
        by_cases hw : withErr made n x.2 = 0
        · rw [if_neg (by omega)] at h0 ⊢
          exact check_map (check_with hw) h0
        · rw [if_pos hw] at h0
          exact absurd h0 hw
      · rw [if_neg hn] at h0 ⊢
        exact check_map h h0
theorem deedR_right {r : Rul} {ls : List Lab} {src : List UInt8} (hc : checkB ls = 0) (h0 : (deedR r ls src).2.2 = 0) : checkB (deedR r ls src).1 = 0 := by
  unfold deedR deedB at h0 ⊢
  by_cases h1 : r.kind = 1
  · rw [if_pos h1] at h0 ⊢
    cases hw : wayOf (trOf r).1 src with
    | none => exact hc
    | some l => rw [hw] at h0; exact check_with h0
  rw [if_neg h1] at h0 ⊢
  by_cases h2 : r.kind = 2
  · rw [if_pos h2]; exact hc
  rw [if_neg h2] at h0 ⊢
  by_cases h3 : r.kind = 3
  · rw [if_pos h3]; exact hc
  rw [if_neg h3] at h0 ⊢
  by_cases h4 : r.kind = 4
  · rw [if_pos h4] at h0 ⊢; exact check_with h0
  rw [if_neg h4] at h0 ⊢
  by_cases h5 : r.kind = 5
  · rw [if_pos h5] at h0 ⊢; exact check_map hc h0
  rw [if_neg h5] at h0 ⊢
  by_cases h6 : r.kind = 6
  · rw [if_pos h6]; exact check_filter hc _
  rw [if_neg h6]
  exact check_filter hc _
theorem rulesErr_zero {l : List Rul} (h : rulesErr l = 0) : ∀ r ∈ l, ruleErr r = 0 := by
  induction l with
  | nil => intro r hr; simp at hr
  | cons x l ih =>
    intro r hr
    have h' : (if ruleErr x ≠ 0 then ruleErr x else rulesErr l) = 0 := h
    by_cases hx : ruleErr x = 0
    · rw [if_neg (by omega)] at h'
      rcases List.mem_cons.1 hr with rfl | hr
      · exact hx
      · exact ih h' r hr
    · rw [if_pos hx] at h'
      exact absurd h' hx
theorem allErr_zero {ls : List Lab} {rs : List Rul} (h : allErr ls rs = 0) : rs.length ≤ 30 ∧ checkB ls = 0 ∧ ∀ r ∈ rs, ruleErr r = 0 := by
  unfold allErr at h
  by_cases h1 : 30 < rs.length
  · rw [if_pos h1] at h; cases h
  · rw [if_neg h1] at h
    by_cases h2 : checkB ls = 0
    · rw [if_neg (by omega)] at h
      exact ⟨by omega, h2, rulesErr_zero h⟩
    · rw [if_pos h2] at h
      exact absurd h h2

end Go.Proofs.YtndpjdmfkhjiiaaGreatDoor.Rl

/- relabel: Apply walks the rules. -/
set_option linter.unusedVariables false
set_option linter.unusedSimpArgs false
namespace Go.Proofs.YtndpjdmfkhjiiaaGreatDoor.Rl
open Go.RowKit Lb Go.Maps
attribute [local go_sem] bs_size bs_toList bs_append bs_get bs_extract

theorem owns_grow {w w' : World} {b : Nat} {D : DataW Unit} (h : w.ownsMap Tryz.prog 3 funE b 7 D) (hg : Grow w w') : w'.ownsMap Tryz.prog 3 funE b 7 D := by
  obtain ⟨es, c, h1, h2⟩ := h
  exact ⟨es, c, hg.get h1, h2⟩
theorem look_deed {w : World} {b : Nat} {k : Int} (h : w.ownsMap Tryz.prog 3 funE b 7 deedsD) (hk : 1 ≤ k ∧ k ≤ 7) :
    (Instr.lookup 60 (.map (some b)) (.int .i64 k) false).run Tryz.prog w = .ok (.func (.func (deedNo k)) #[] #[]) w := by
  have hkey : keyOf Tryz.prog 3 (.int .i64 k) = some (.int .i64 k) := keyOf_int_mk Tryz.underlying3 (WalkArith.wf_i64 (by omega))
  obtain ⟨v, ps, hrun, hv⟩ := h.lookup (int_keyed Tryz.underlying3) Tryz.underlying60 (Tryz.zeroValue58 _) (zd := .lit (.int .i64 (-1))) (zp := []) rfl hkey
  rw [deeds_at k hk] at hv
  rw [hrun, funE_inv hv]
/-- What Apply's call answers. -/
def ApplyPost (B : Nat) (R : List Lab × Bool × Nat) (e : Ending) (w' : World) : Prop := ∃ mo n mc, e = .returned (.tuple #[.slice mo n mc, .bool R.2.1, .int .i64 R.2.2]) ∧ ownLabels w' B (.slice mo n mc) R.1
theorem ApplyPost.none {B : Nat} {R : List Lab × Bool × Nat} {n : Nat} {w : World} (h : R = ([], false, n)) : ApplyPost B R (.returned (.tuple #[.slice none 0 0, .bool false, .int .i64 n])) w := by
  subst h
  exact ⟨_, _, _, rfl, World.ownsRow_nil _ _ _ _⟩
theorem ApplyPost.some {B n : Nat} {R : List Lab × Bool × Nat} {mo : Option Addr} {mc : Nat} {l : List Lab} {w : World} (h : R = (l, true, 0)) (ho : ownLabels w B (.slice mo n mc) l) : ApplyPost B R (.returned (.tuple #[.slice mo n mc, .bool true, .int .i64 0])) w := by
  subst h
  exact ⟨_, _, _, rfl, ho⟩

set_option maxRecDepth 20000 in
set_option maxHeartbeats 16000000 in
theorem apply_any (w : World) (va vr : Value) (ls : List Lab) (rs : List Rul) (ha : readsLabels w w.heap.size va ls) (hlen : ls.length ≤ 9223372036854775807) (hin : lensOk ls) (hr : readsRules w w.heap.size vr rs) (hrl : rs.length ≤ 9223372036854775807) (hok : okRs rs) (htab : tabOk w) :
    Calls Tryz.prog 13 #[va, vr] w fun e w' => Grow w w' ∧ ApplyPost w.heap.size (applyB ls rs) e w' := by
  have HCA := hide (checkAll_any w va vr ls rs ha hlen hin hr hrl hok)
  obtain ⟨R, HR⟩ : ∃ R, Hid (applyB ls rs = R) := ⟨_, hide rfl⟩
  rw [HR.out]
  have HR1 : Hid ((if allErr ls rs ≠ 0 then ([], false, allErr ls rs) else ruleGo rs ls) = R) := HR
  obtain ⟨lo, lc, hva⟩ := readsLabels_len ha
  subst hva
  have HA := hide ha
  have HIN := hide hin
  have HRR := hide hr
  have HOK := hide hok
  have HTAB := hide htab
  obtain ⟨ro, rc, hvr, _⟩ := hr
  subst hvr
  clear ha hin hok htab HR
  obtain ⟨A, HAE⟩ : ∃ A, Hid (allErr ls rs = A) := ⟨_, hide rfl⟩
  rw [HAE.out] at HCA HR1
  by_cases hA : A = 0
  · have hA' : ((A : Int) != 0) = false := by simp [hA]
    have HZ := allErr_zero (HAE.out.trans hA)
    rw [if_neg (by omega)] at HR1
    obtain ⟨hr30, hc, hrr⟩ := HZ
    have HC := hide hc
    have HRT := hide hrr
    obtain ⟨m1, m2⟩ := make_right hc
    have HMK : Hid (∀ W, Grow w W → Calls Tryz.prog 26 #[.slice lo ls.length lc] W fun e w' => Grow W w' ∧ ∃ mo mc, e = .returned (.tuple #[.slice mo ls.length mc, .int .i64 0]) ∧ ownLabels w' w.heap.size (.slice mo ls.length mc) ls) := hide (fun W hg => by
      refine (make_any W (.slice lo ls.length lc) ls (readsLabels_mono (readsLabels_below HA.out hg) hg.size) hlen HIN.out).mono ?_
      rintro e w' ⟨v', rfl, ho, hb⟩
      rw [m2] at ho
      rw [m1]
      obtain ⟨mo, mc, rfl⟩ := own_shape ho
      exact ⟨hb, mo, mc, rfl, own_le ho hg.size⟩)
    clear hA hc hrr m1 m2
    go_enter Tryz.func13, Tryz.ntmps13
    go_wp2_with fail
    refine HCA.out.mono ?_
    rintro e w1 ⟨rfl, hg1⟩
    have HG1 := hide hg1
    clear hg1
    go_wp2_with fail
    refine (HMK.out w1 HG1.out).mono ?_
    rintro e w2 ⟨hg2, mo, mc, rfl, hown⟩
    have HG2 : Hid (Grow w w2) := hide (HG1.out.trans hg2)
    have HO2 := hide hown
    clear hg2 hown
    go_wp2_with fail
    refine (deeds_any w2).mono ?_
    rintro e w3 ⟨rfl, hg3, hs3, hmap⟩
    have HG3 : Hid (Grow w w3) := hide (HG2.out.trans hg3)
    have HO3 := hide (own_grow HO2.out hg3)
    have HMAP := hide hmap
    generalize w2.heap.size = mb at HMAP ⊢
    clear hg3 hs3 hmap
    go_wp2
    go_loopw [8, 31] (fun mv i wr => ∃ (k : Nat) (made : List Lab) (mo : Option Addr) (mc : Nat), k ≤ rs.length ∧ i = .int .i64 k ∧ mv = .slice mo made.length mc ∧ Hid (ownLabels wr w.heap.size mv made) ∧ Hid (checkB made = 0) ∧ Hid (ruleGo (rs.drop k) made = R) ∧ Hid (Grow w3 wr)) (fun _ i _ => rs.length - (intOf i).toNat)
    case atStart => exact ⟨0, ls, mo, mc, by omega, rfl, rfl, HO3, HC, HR1, hide (Grow.refl _)⟩
    case round =>
      obtain ⟨k, made, mo, mc, hk, rfl, rfl, HO, HCM, HD, HG⟩ := hrel
      have HGw : Hid (Grow w wr) := hide (HG3.out.trans HG.out)
      by_cases hlt : k < rs.length
      · have hrd := HRR.out.keep HGw.out
        obtain ⟨ro', rc', hv', hcells⟩ := hrd
        simp only [Value.slice.injEq] at hv'
        obtain ⟨rfl, -, rfl⟩ := hv'
        obtain ⟨rb, rf, vs, rfl, hlB, hst, d0, d1, d2, d3, d4, d5, d6⟩ := hcells k hlt
        clear hcells
        have hmem := List.getElem_mem hlt
        obtain ⟨hokr, _⟩ := HOK.out _ hmem
        have hrr := HRT.out _ hmem
        have hdrop : ruleGo (rs.drop k) made = ruleGo (rs[k] :: rs.drop (k + 1)) made := by rw [List.drop_eq_getElem_cons hlt]
        obtain ⟨r, HX⟩ : ∃ r : Rul, Hid (rs[k] = r) := ⟨_, hide rfl⟩
        rw [HX.out] at d0 d2 d3 d4 d5 d6 hst hokr hrr hdrop
        obtain ⟨so, sc, evs, _⟩ := id hst
        subst evs
        obtain ⟨W, eW, gW, sW, hW⟩ := laid_rule wr (.int .i64 r.kind) (.slice so r.sources.length sc) (.string (bs r.between)) (.string (bs r.mask)) (.int .i64 r.modulus) (.string (bs r.target)) (.string (bs r.repl)) 24
        have HGW : Hid (Grow w W) := hide (HGw.out.trans gW)
        have HGW3 : Hid (Grow w3 W) := hide (HG.out.trans gW)
        have HOW := hide (own_grow HO.out gW)
        obtain ⟨hk1, hk7, hpe, _⟩ := rule_right hrr
        obtain ⟨hs20, hb100, _, _, _⟩ := parts_right hpe
        have HSrc := hide (source_any W r (.slice so r.sources.length sc) (.slice mo made.length mc) made ((hst.keep (Below.mono gW HGw.out.size)).more HGW.out.size) (reads_ownLabels HOW.out) HCM.out hs20 hb100 (fun s hs => by have := hokr.2.1 s hs; unfold maxLen; omega))
        obtain ⟨c0, c1, c2, c3, c4, c5, c6⟩ := seven_cells hW
        have HW := hide hW
        have HDR := hide hdrop
        rw [HDR.out] at HD
        have HD2 : Hid ((if 2000 < (sourceB r made).length then ([], false, 2) else
          if (deedR r made (sourceB r made)).2.2 ≠ 0 ∨ (deedR r made (sourceB r made)).2.1 = false then ([], false, (deedR r made (sourceB r made)).2.2) else ruleGo (rs.drop (k + 1)) (deedR r made (sourceB r made)).1) = R) := HD
        have HDeed0 := fun W2 src (hs : src.length ≤ 2000) (hgw2 : Grow w W2) (hrd : readsLabels W2 W2.heap.size (.slice mo made.length mc) made) => deedR_any W2 r (.slice so r.sources.length sc) (.slice mo made.length mc) made src hrr (tab_grow HTAB.out hgw2) hs HCM.out hrd
        have HRt0 := fun src => deedR_right (r := r) (src := src) HCM.out
        clear hdrop HDR HD gW hW hst hokr hrr hpe hs20 hb100 hmem
        generalize sourceB r made = src at HSrc HD2
        obtain ⟨d, HDD⟩ : ∃ d, Hid (deedR r made src = d) := ⟨_, hide rfl⟩
        have HRt := hide (HRt0 src)
        have HDeed : Hid (src.length ≤ 2000 → ∀ W2, Grow w W2 → readsLabels W2 W2.heap.size (.slice mo made.length mc) made → Calls Tryz.prog (deedNo r.kind) #[ruleV r (.slice so r.sources.length sc), .slice mo made.length mc, .string (bs src)] W2 (DeedPost W2 (.slice mo made.length mc) made (deedR r made src))) := hide fun hs W2 hgw2 hrd => HDeed0 W2 src hs hgw2 hrd
        rw [HDD.out] at HD2 HRt HDeed
        clear HDeed0 HRt0
        by_cases h2000 : 2000 < src.length
        · have h2000' : (2000 : Int) < src.length := by omega
          rw [if_pos h2000] at HD2
          clear h2000
          go_wp2_with fail
          refine HSrc.out.mono ?_
          rintro e w4 ⟨rfl, hg4⟩
          go_wp2
          simp [bodyPost, results, Tryz.results13, go_sem]
          exact ⟨HGW.out.trans hg4, ApplyPost.none HD2.out.symm⟩
        · have h2000' : ¬ (2000 : Int) < src.length := by omega
          rw [if_neg h2000] at HD2
          have HDeed1 := hide (HDeed.out (by omega))
          have h6 : deedNo r.kind = 60 ∨ deedNo r.kind = 61 ∨ deedNo r.kind = 63 ∨ deedNo r.kind = 64 ∨ deedNo r.kind = 65 ∨ deedNo r.kind = 66 ∨ deedNo r.kind = 69 := by
            have : r.kind = 1 ∨ r.kind = 2 ∨ r.kind = 3 ∨ r.kind = 4 ∨ r.kind = 5 ∨ r.kind = 6 ∨ r.kind = 7 := by omega
            rcases this with h | h | h | h | h | h | h <;> rw [h] <;> decide
          clear h2000 HDeed
          obtain ⟨m1, st, er⟩ := d
          simp only at HD2 HRt
          go_wp2_with fail
          refine HSrc.out.mono ?_
          rintro e w4 ⟨rfl, hg4⟩
          have HG4 : Hid (Grow w w4) := hide (HGW.out.trans hg4)
          have HG34 : Hid (Grow w3 w4) := hide (HGW3.out.trans hg4)
          have HO4 := hide (own_grow HOW.out hg4)
          have hrun := look_deed (k := r.kind) (owns_grow HMAP.out HG34.out) ⟨hk1, hk7⟩
          have HDeed2 := hide (HDeed1.out w4 HG4.out (reads_ownLabels HO4.out))
          obtain ⟨b0, b1, b2, b3, b4, b5, b6⟩ := seven_cells (hg4.get HW.out)
          clear hg4 eW c0 c1 c2 c3 c4 c5 c6 d0 d1 d2 d3 d4 d5 d6 HDeed1 HSrc
          rcases h6 with hN | hN | hN | hN | hN | hN | hN
          all_goals
            rw [hN] at hrun HDeed2
            clear hN
            go_wp2_with fail
            refine HDeed2.out.mono ?_
            rintro e w5 ⟨hg5, mo5, n5, mc5, rfl, hst⟩
            simp only at hst
            have HG5 : Hid (Grow w w5) := hide (HG4.out.trans hg5)
            have HG35 : Hid (Grow w3 w5) := hide (HG34.out.trans hg5)
            by_cases her : er = 0
            · have her' : ((er : Int) != 0) = false := by simp [her]
              have hs0 := hst her
              have HR5 := hide (HRt.out her)
              have hown5 : ownLabels w5 w.heap.size (.slice mo5 n5 mc5) m1 := by
                rcases hs0 with ⟨e1, e2⟩ | ho
                · rw [e1, e2]
                  exact own_grow HO4.out hg5
                · exact own_le ho HG4.out.size
              have HO5 := hide hown5
              obtain ⟨ao5, ac5, hsh⟩ := own_shape hown5
              simp only [Value.slice.injEq] at hsh
              obtain ⟨-, rfl, -⟩ := hsh
              cases st with
              | false =>
                rw [if_pos (.inr rfl)] at HD2
                clear her hs0 hst hown5 hg5 hrun
                go_wp2
                simp [bodyPost, results, Tryz.results13, go_sem]
                exact ⟨HG5.out, ApplyPost.none HD2.out.symm⟩
              | true =>
                rw [if_neg (by rintro (h | h); exact h her; cases h)] at HD2
                clear her hs0 hst hown5 hg5 hrun
                go_wp2
                go_roundw
                case rel => exact ⟨k + 1, m1, mo5, mc5, by omega, by go_num, rfl, HO5, HR5, HD2, HG35⟩
                case measure => simp [intOf]; omega
            · have her' : ((er : Int) != 0) = true := by simp; exact her
              rw [if_pos (.inl her)] at HD2
              clear her hst hg5 hrun
              go_wp2
              simp [bodyPost, results, Tryz.results13, go_sem]
              exact ⟨HG5.out, ApplyPost.none HD2.out.symm⟩
      · have hR : R = (made, true, 0) := by
          rw [← HD.out, List.drop_eq_nil_of_le (by omega)]
          rfl
        have HRE := hide hR
        clear HD hR HR1
        go_wp2
        simp [bodyPost, results, Tryz.results13, go_sem]
        exact ⟨HGw.out, ApplyPost.some HRE.out HO.out⟩
  · have hA' : ((A : Int) != 0) = true := by simp; exact hA
    have hR : R = ([], false, A) := by rw [← HR1.out, if_pos hA]
    have HRE := hide hR
    clear hA HR1 hR
    go_enter Tryz.func13, Tryz.ntmps13
    go_wp2_with fail
    refine HCA.out.mono ?_
    rintro e w1 ⟨rfl, hg1⟩
    go_wp2
    simp [bodyPost, results, Tryz.results13, go_sem]
    exact ⟨hg1, ApplyPost.none HRE.out⟩
end Go.Proofs.YtndpjdmfkhjiiaaGreatDoor.Rl
