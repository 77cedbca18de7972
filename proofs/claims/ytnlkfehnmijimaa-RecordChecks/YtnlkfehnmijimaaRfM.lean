/- record: the document's own packing of points, of records. -/
import Derived.Laws.OwnMore
import Derived.Test.YtnlkfehnmijimaaProg
import Derived.Test.YtnlkfehnmijimaaKit
import Derived.Test.YtnlkfehnmijimaaSpec
import Derived.Test.YtnlkfehnmijimaaReg
import Derived.Test.YtnlkfehnmijimaaWNum
import Derived.Test.YtnlkfehnmijimaaLRow
import Derived.Test.YtnlkfehnmijimaaRcA
import Derived.Test.YtnlkfehnmijimaaRcE
import Derived.Test.YtnlkfehnmijimaaRcX
import Derived.Test.YtnlkfehnmijimaaRcM
import Derived.Test.YtnlkfehnmijimaaRcN
import Derived.Test.YtnlkfehnmijimaaRcR
import Derived.Test.YtnlkfehnmijimaaRcW
import Derived.Test.YtnlkfehnmijimaaRfL
import Derived.BigQuiet
set_option linter.unusedVariables false
set_option linter.unusedSimpArgs false
namespace Go.Proofs.Ytnlkfehnmijimaa.Rc
open Go.RowKit Lb
attribute [local go_sem] bs_size bs_toList bs_append bs_get bs_extract

theorem pointErr_zero' {x : Pnt} (h : pointErr x = 0) : (1 ≤ x.1 ∧ x.1 ≤ 1000000) ∧ -9007199254740991 ≤ x.2.1 ∧ x.2.1 ≤ 9007199254740991 := by
  unfold pointErr at h
  by_cases h1 : numErr x.1 = 0
  · rw [if_neg (by omega)] at h
    constructor
    · unfold numErr at h1
      by_cases h3 : 1 ≤ x.1 ∧ x.1 ≤ 1000000
      · exact h3
      · rw [if_neg h3] at h1; cases h1
    · unfold timeErr at h
      by_cases h3 : -9007199254740991 ≤ x.2.1 ∧ x.2.1 ≤ 9007199254740991
      · exact h3
      · rw [if_neg h3] at h; cases h
  · rw [if_pos h1] at h
    exact absurd h h1
theorem wordB_length (n : Nat) : (wordB n).length = 8 := rfl

set_option maxRecDepth 20000 in
set_option maxHeartbeats 8000000 in
theorem packOf2_any (w : World) (vr vp : Value) (ps : List Pnt) (hp : readsPoints w w.heap.size vp ps) (hr : ∃ po pl pc, vr = .slice po pl pc) (hn : ps.length ≤ 200) (hok : ∀ x ∈ ps, pointErr x = 0) (hb : ∀ x ∈ ps, x.2.2 < 18446744073709551616) :
    Calls Try.prog 9 #[.agg #[.int .i64 2, vr, vp]] w fun e w' => e = .returned (.string (bs (2 :: (numB ps.length ++ pointsB ps)))) ∧ Grow w w' := by
  have HP := hide hp
  have HOK := hide hok
  have HB := hide hb
  have hnl := numB_length ps.length
  obtain ⟨ro, rc, rfl, _⟩ := hp
  obtain ⟨po, pl, pc, rfl⟩ := hr
  obtain ⟨W, eW, gW, hW⟩ := laid_at w #[.int .i64 2, .slice po pl pc, .slice ro ps.length rc] 25
  have HW := hide hW
  have HG := hide gW
  obtain ⟨c0, c1, c2⟩ := three_of hW
  have hlW := gW.size
  have g1 : Grow W (W.alloc (.cells #[.int .u8 2] 5)) := (Grow.refl _).alloc _
  obtain ⟨d0, d1, d2⟩ := three_of (g1.get hW)
  have hcv := run_oneByte (P := Try.prog) W Try.underlying45 Try.underlying5 Try.underlying9 5 2 2 rfl
  have HS0 := hide (small_any ps.length (W.alloc (.cells #[.int .u8 2] 5)) (by omega))
  have HG1 := hide g1
  clear hok hW gW g1 hb
  go_enter Try.func9, Try.ntmps9
  go_wp2_with fail
  refine HS0.out.mono ?_
  rintro e w1 ⟨rfl, hg1⟩
  have HG2 := hide (HG1.out.trans hg1)
  clear hg1 HS0 hcv c0 c1 c2 d0 d1 d2
  go_wp2
  obtain ⟨pre, HPRE⟩ : ∃ pre, Hid (2 :: numB ps.length = pre) := ⟨_, hide rfl⟩
  have hprel : pre.length ≤ 11 := by rw [← HPRE.out, List.length_cons]; omega
  rw [HPRE.out]
  go_loopw [3, 7, 8, 9] (fun s i _ _ wr => ∃ k : Nat, k ≤ ps.length ∧ i = .int .i64 k ∧ s = .string (bs (pre ++ pointsB (ps.take k))) ∧ Hid (Grow W wr)) (fun _ i _ _ _ => ps.length - (intOf i).toNat)
  case atStart => exact ⟨0, by omega, rfl, by simp [pointsB], HG2⟩
  case round =>
    obtain ⟨k, hk, rfl, rfl, HGR⟩ := hrel
    obtain ⟨cb0, cb1, cb2⟩ := three_of (HGR.out.get HW.out)
    have hl1 := pointsB_len (ps.take k)
    have hl2 : (ps.take k).length ≤ 200 := by rw [List.length_take]; omega
    have hlen : (pre ++ pointsB (ps.take k)).length ≤ 700000 := by rw [List.length_append]; omega
    obtain ⟨S, HSV⟩ : ∃ S, Hid (pre ++ pointsB (ps.take k) = S) := ⟨_, hide rfl⟩
    rw [HSV.out] at hlen ⊢
    clear hl1 hl2
    by_cases hlt : k < ps.length
    · have hlti : (k : Int) < (ps.length : Int) := by omega
      obtain ⟨rb, rof, rfl, hrB, cr0, cr1, cr2⟩ : ∃ b' o, ro = some ⟨b', o, none⟩ ∧ b' < w.heap.size ∧ wr.cell? ⟨b', o + k * 3, none⟩ = some (.int .i64 ps[k].1) ∧ wr.cell? ⟨b', o + k * 3 + 1, none⟩ = some (.int .i64 ps[k].2.1) ∧ wr.cell? ⟨b', o + k * 3 + 2, none⟩ = some (.int .u64 (ps[k].2.2 : Nat)) := by
        obtain ⟨ao', cp', e, h⟩ := HP.out.keep (HG.out.trans HGR.out)
        cases e
        exact h k hlt
      have hxe := HOK.out _ (List.getElem_mem hlt)
      have hxb := HB.out _ (List.getElem_mem hlt)
      have HTK := hide (pointsB_take hlt)
      obtain ⟨x, HX⟩ : ∃ x : Pnt, Hid (ps[k] = x) := ⟨_, hide rfl⟩
      rw [HX.out] at cr0 cr1 cr2 hxe hxb HTK
      obtain ⟨x1, tt, bn⟩ := x
      obtain ⟨⟨hx1, hx2⟩, hx3, hx4⟩ := pointErr_zero' hxe
      simp only at hx1 hx2 hx3 hx4 hxb cr0 cr1 cr2
      have HBN := hide hxb
      obtain ⟨rn, hrn⟩ : ∃ rn : Nat, x1 = (rn : Int) := ⟨x1.toNat, by omega⟩
      subst hrn
      obtain ⟨tn, HTN⟩ : ∃ tn, Hid (timeN tt = tn) := ⟨_, hide rfl⟩
      have HPB : Hid (pointB (((rn : Nat) : Int), tt, bn) = numB rn ++ (numB tn ++ wordR bn 8)) := hide (by unfold pointB; rw [Int.toNat_natCast, HTN.out])
      have hrn6 : rn ≤ 1000000 := by omega
      have hn1 := numB_length rn
      have hn2 := numB_length tn
      have hba : (wr.alloc (.cells #[.int .i64 rn, .int .i64 tt, .int .u64 bn] 57)).heap[wr.heap.size]? = some (.cells #[.int .i64 rn, .int .i64 tt, .int .u64 bn] 57 (0, 0)) := heap_alloc_new _ _
      have HBA := hide hba
      have HGA : Hid (Grow wr (wr.alloc (.cells #[.int .i64 rn, .int .i64 tt, .int .u64 bn] 57))) := hide ((Grow.refl _).alloc _)
      obtain ⟨xa0, xa1, xa2⟩ := three_of hba
      have hw0 : IntKind.i64.wrap (2 * tt) = 2 * tt := by rw [IntKind.wrap_i64]; omega
      clear hxe hxb hba hx1 hx2
      by_cases hneg : tt < 0
      · have htn : (tn : Int) = -2 * tt - 1 := by rw [← HTN.out]; unfold timeN; rw [if_pos hneg]; omega
        have hw1 : IntKind.i64.wrap (-2 * tt) = -2 * tt := by rw [IntKind.wrap_i64]; omega
        have hw2 : IntKind.i64.wrap (-2 * tt - 1) = (tn : Int) := by rw [IntKind.wrap_i64]; omega
        have htl : tn < 9223372036854775808 := by omega
        clear htn hx3 hx4
        go_wp2
        refine wp_region_free 12 128 mixedR rfl (by decide +kernel) Grow (fun _ _ _ => Grow.trans) (Grow.refl _)
          (fun i v _ => match i with
            | 0 => v = .string (bs S)
            | 1 => v = .pointer (some ⟨wr.heap.size, 0, none⟩)
            | 2 => v = .int .i64 rn
            | 3 => v = .string (bs (numB rn))
            | 4 => v = .int .i64 tn
            | 5 => v = .string (bs (numB tn))
            | 6 => v = .string (bs (numB rn ++ numB tn))
            | 7 => v = .pointer (some ⟨wr.heap.size, 2, none⟩)
            | 8 => v = .int .u64 bn
            | 9 => v = .string (bs (wordB bn))
            | 10 => v = .string (bs ((numB rn ++ numB tn) ++ wordB bn))
            | _ => v = .string (bs (S ++ ((numB rn ++ numB tn) ++ wordB bn))))
          (fun i v w w' h hg => h) (fun _ _ => False) (fun _ _ _ _ h => h.elim) (fun i hi o ho a w1 hG hoff hdep => ?_) (fun vals w1 hG hvals => ?_)
        · obtain ⟨x0, x1, x2⟩ := three_of (below_block hG.undrew HBA.out (by simp))
          match i, hi with
          | 0, _ =>
            obtain rfl := Option.some.inj ho
            have o3 := hoff 3 (by decide +kernel)
            simp at o3
            simp [opYields, go_sem, o3]
            exact Grow.refl _
          | 1, _ =>
            obtain rfl := Option.some.inj ho
            have o8 := hoff 8 (by decide +kernel)
            simp at o8
            simp [opYields, go_sem, o8]
            exact Grow.refl _
          | 2, _ =>
            obtain rfl := Option.some.inj ho
            have d1 := hdep 1 (by decide +kernel)
            simp [slotOf, dstOf] at d1
            simp [opYields, go_sem, d1, x0]
            exact Grow.refl _
          | 3, _ =>
            obtain rfl := Option.some.inj ho
            have d2 := hdep 2 (by decide +kernel)
            simp [slotOf, dstOf] at d2
            simp [opYields, go_sem, d2]
            refine (small_any rn w1 (by omega)).mono ?_
            rintro e w2 ⟨rfl, hb⟩
            exact ⟨hb, rfl⟩
          | 4, _ =>
            obtain rfl := Option.some.inj ho
            have o9 := hoff 9 (by decide +kernel)
            simp at o9
            simp [opYields, go_sem, o9]
            exact Grow.refl _
          | 5, _ =>
            obtain rfl := Option.some.inj ho
            have d4 := hdep 4 (by decide +kernel)
            simp [slotOf, dstOf] at d4
            simp [opYields, go_sem, d4]
            refine (small_any tn w1 (by omega)).mono ?_
            rintro e w2 ⟨rfl, hb⟩
            exact ⟨hb, rfl⟩
          | 6, _ =>
            obtain rfl := Option.some.inj ho
            have d3 := hdep 3 (by decide +kernel)
            simp [slotOf, dstOf] at d3
            have d5 := hdep 5 (by decide +kernel)
            simp [slotOf, dstOf] at d5
            simp [opYields, go_sem, d3, d5]
            rw [if_neg (by omega)]
            exact ⟨Grow.refl _, rfl⟩
          | 7, _ =>
            obtain rfl := Option.some.inj ho
            have o8 := hoff 8 (by decide +kernel)
            simp at o8
            simp [opYields, go_sem, o8]
            exact Grow.refl _
          | 8, _ =>
            obtain rfl := Option.some.inj ho
            have d7 := hdep 7 (by decide +kernel)
            simp [slotOf, dstOf] at d7
            simp [opYields, go_sem, d7, x2]
            exact Grow.refl _
          | 9, _ =>
            obtain rfl := Option.some.inj ho
            have d8 := hdep 8 (by decide +kernel)
            simp [slotOf, dstOf] at d8
            simp [opYields, go_sem, d8]
            refine (word_any bn w1 HBN.out).mono ?_
            rintro e w2 ⟨rfl, hb⟩
            exact ⟨hb, rfl⟩
          | 10, _ =>
            obtain rfl := Option.some.inj ho
            have d6 := hdep 6 (by decide +kernel)
            simp [slotOf, dstOf] at d6
            have d9 := hdep 9 (by decide +kernel)
            simp [slotOf, dstOf] at d9
            simp [opYields, go_sem, d6, d9]
            rw [if_neg (by rw [wordB_length]; omega)]
            exact ⟨Grow.refl _, by simp⟩
          | 11, _ =>
            obtain rfl := Option.some.inj ho
            have d0 := hdep 0 (by decide +kernel)
            simp [slotOf, dstOf] at d0
            have d10 := hdep 10 (by decide +kernel)
            simp [slotOf, dstOf] at d10
            simp [opYields, go_sem, d0, d10]
            rw [if_neg (by rw [wordB_length]; omega)]
            exact ⟨Grow.refl _, by simp⟩
          | k + 12, h => exact absurd h (by omega)
        · have v11 := hvals 11 (by omega)
          simp only at v11
          have HGC := hide (HGR.out.trans (HGA.out.trans hG.undrew))
          have HNX : Hid (pre ++ pointsB (ps.take (k + 1)) = S ++ ((numB rn ++ numB tn) ++ wordB bn)) := hide (by rw [HTK.out, ← HSV.out, HPB.out, wordR_is]; simp)
          clear hvals hG
          rw [← HNX.out] at v11
          obtain ⟨S3, HS3⟩ : ∃ S3, Hid (pre ++ pointsB (ps.take (k + 1)) = S3) := ⟨_, hide rfl⟩
          rw [HS3.out] at v11
          simp [over, dstOf, Act.put, v11]
          go_wp2
          go_roundw
          case rel => exact ⟨k + 1, by omega, by go_num, by rw [HS3.out], HGC⟩
          case measure => simp [intOf]; omega
      · have htn : (tn : Int) = 2 * tt := by rw [← HTN.out]; unfold timeN; rw [if_neg hneg]; omega
        have hw2 : 2 * tt = (tn : Int) := htn.symm
        have hw3 : IntKind.i64.wrap (tn : Int) = (tn : Int) := by rw [IntKind.wrap_i64]; omega
        have htl : tn < 9223372036854775808 := by omega
        clear htn hx3 hx4 hw0
        go_wp2
        refine wp_region_free 12 128 mixedR rfl (by decide +kernel) Grow (fun _ _ _ => Grow.trans) (Grow.refl _)
          (fun i v _ => match i with
            | 0 => v = .string (bs S)
            | 1 => v = .pointer (some ⟨wr.heap.size, 0, none⟩)
            | 2 => v = .int .i64 rn
            | 3 => v = .string (bs (numB rn))
            | 4 => v = .int .i64 tn
            | 5 => v = .string (bs (numB tn))
            | 6 => v = .string (bs (numB rn ++ numB tn))
            | 7 => v = .pointer (some ⟨wr.heap.size, 2, none⟩)
            | 8 => v = .int .u64 bn
            | 9 => v = .string (bs (wordB bn))
            | 10 => v = .string (bs ((numB rn ++ numB tn) ++ wordB bn))
            | _ => v = .string (bs (S ++ ((numB rn ++ numB tn) ++ wordB bn))))
          (fun i v w w' h hg => h) (fun _ _ => False) (fun _ _ _ _ h => h.elim) (fun i hi o ho a w1 hG hoff hdep => ?_) (fun vals w1 hG hvals => ?_)
        · obtain ⟨x0, x1, x2⟩ := three_of (below_block hG.undrew HBA.out (by simp))
          match i, hi with
          | 0, _ =>
            obtain rfl := Option.some.inj ho
            have o3 := hoff 3 (by decide +kernel)
            simp at o3
            simp [opYields, go_sem, o3]
            exact Grow.refl _
          | 1, _ =>
            obtain rfl := Option.some.inj ho
            have o8 := hoff 8 (by decide +kernel)
            simp at o8
            simp [opYields, go_sem, o8]
            exact Grow.refl _
          | 2, _ =>
            obtain rfl := Option.some.inj ho
            have d1 := hdep 1 (by decide +kernel)
            simp [slotOf, dstOf] at d1
            simp [opYields, go_sem, d1, x0]
            exact Grow.refl _
          | 3, _ =>
            obtain rfl := Option.some.inj ho
            have d2 := hdep 2 (by decide +kernel)
            simp [slotOf, dstOf] at d2
            simp [opYields, go_sem, d2]
            refine (small_any rn w1 (by omega)).mono ?_
            rintro e w2 ⟨rfl, hb⟩
            exact ⟨hb, rfl⟩
          | 4, _ =>
            obtain rfl := Option.some.inj ho
            have o9 := hoff 9 (by decide +kernel)
            simp at o9
            simp [opYields, go_sem, o9]
            exact Grow.refl _
          | 5, _ =>
            obtain rfl := Option.some.inj ho
            have d4 := hdep 4 (by decide +kernel)
            simp [slotOf, dstOf] at d4
            simp [opYields, go_sem, d4]
            refine (small_any tn w1 (by omega)).mono ?_
            rintro e w2 ⟨rfl, hb⟩
            exact ⟨hb, rfl⟩
          | 6, _ =>
            obtain rfl := Option.some.inj ho
            have d3 := hdep 3 (by decide +kernel)
            simp [slotOf, dstOf] at d3
            have d5 := hdep 5 (by decide +kernel)
            simp [slotOf, dstOf] at d5
            simp [opYields, go_sem, d3, d5]
            rw [if_neg (by omega)]
            exact ⟨Grow.refl _, rfl⟩
          | 7, _ =>
            obtain rfl := Option.some.inj ho
            have o8 := hoff 8 (by decide +kernel)
            simp at o8
            simp [opYields, go_sem, o8]
            exact Grow.refl _
          | 8, _ =>
            obtain rfl := Option.some.inj ho
            have d7 := hdep 7 (by decide +kernel)
            simp [slotOf, dstOf] at d7
            simp [opYields, go_sem, d7, x2]
            exact Grow.refl _
          | 9, _ =>
            obtain rfl := Option.some.inj ho
            have d8 := hdep 8 (by decide +kernel)
            simp [slotOf, dstOf] at d8
            simp [opYields, go_sem, d8]
            refine (word_any bn w1 HBN.out).mono ?_
            rintro e w2 ⟨rfl, hb⟩
            exact ⟨hb, rfl⟩
          | 10, _ =>
            obtain rfl := Option.some.inj ho
            have d6 := hdep 6 (by decide +kernel)
            simp [slotOf, dstOf] at d6
            have d9 := hdep 9 (by decide +kernel)
            simp [slotOf, dstOf] at d9
            simp [opYields, go_sem, d6, d9]
            rw [if_neg (by rw [wordB_length]; omega)]
            exact ⟨Grow.refl _, by simp⟩
          | 11, _ =>
            obtain rfl := Option.some.inj ho
            have d0 := hdep 0 (by decide +kernel)
            simp [slotOf, dstOf] at d0
            have d10 := hdep 10 (by decide +kernel)
            simp [slotOf, dstOf] at d10
            simp [opYields, go_sem, d0, d10]
            rw [if_neg (by rw [wordB_length]; omega)]
            exact ⟨Grow.refl _, by simp⟩
          | k + 12, h => exact absurd h (by omega)
        · have v11 := hvals 11 (by omega)
          simp only at v11
          have HGC := hide (HGR.out.trans (HGA.out.trans hG.undrew))
          have HNX : Hid (pre ++ pointsB (ps.take (k + 1)) = S ++ ((numB rn ++ numB tn) ++ wordB bn)) := hide (by rw [HTK.out, ← HSV.out, HPB.out, wordR_is]; simp)
          clear hvals hG
          rw [← HNX.out] at v11
          obtain ⟨S3, HS3⟩ : ∃ S3, Hid (pre ++ pointsB (ps.take (k + 1)) = S3) := ⟨_, hide rfl⟩
          rw [HS3.out] at v11
          simp [over, dstOf, Act.put, v11]
          go_wp2
          go_roundw
          case rel => exact ⟨k + 1, by omega, by go_num, by rw [HS3.out], HGC⟩
          case measure => simp [intOf]; omega
    · obtain rfl : k = ps.length := by omega
      have HE : Hid (S = 2 :: (numB ps.length ++ pointsB ps)) := hide (by rw [← HSV.out, List.take_length, ← HPRE.out]; rfl)
      go_wp2
      go_ret
      exact ⟨by rw [HE.out]; rfl, HG.out.trans HGR.out⟩
theorem packOf_any (w : World) (vr vp : Value) (r : Rcd) (hr : readsRefs w w.heap.size vr r.refs) (hp : readsPoints w w.heap.size vp r.points) (hok : okRec r) (h0 : recErr r = 0) :
    Calls Try.prog 9 #[.agg #[.int .i64 r.kind, vr, vp]] w fun e w' => e = .returned (.string (bs (packB r))) ∧ Grow w w' := by
  obtain ⟨hk, hrl, hpl, hro, hpo⟩ := recErr_zero h0
  have hsr : ∃ po pl pc, vr = .slice po pl pc := by obtain ⟨a, c, h, _⟩ := hr; exact ⟨a, _, c, h⟩
  have hsp : ∃ po pl pc, vp = .slice po pl pc := by obtain ⟨a, c, h, _⟩ := hp; exact ⟨a, _, c, h⟩
  obtain ⟨kind, rs, ps⟩ := r
  simp only at hk hr hp hrl hpl hro hpo ⊢
  rcases hk with rfl | rfl
  · refine (packOf1_any w vr vp rs hr hsp hrl hro).mono fun e w' h => ⟨?_, h.2⟩
    rw [h.1]; rfl
  · refine (packOf2_any w vr vp ps hp hsr hpl hpo (fun x hx => (hok.2.2.2.2 x hx).2.2.2.2)).mono fun e w' h => ⟨?_, h.2⟩
    rw [h.1]; rfl
end Go.Proofs.Ytnlkfehnmijimaa.Rc
