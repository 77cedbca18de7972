/- record: the document's own packing. -/
import Derived.Laws.OwnMore
import Derived.Test.YtnlkfehnmijimaaProg
import Derived.Test.YtnlkfehnmijimaaKit
import Derived.Test.YtnlkfehnmijimaaSpec
import Derived.Test.YtnlkfehnmijimaaReg
import Derived.Test.YtnlkfehnmijimaaWNum
import Derived.Test.YtnlkfehnmijimaaLRow
import Derived.Test.YtnlkfehnmijimaaRcA
import Derived.Test.YtnlkfehnmijimaaRcE
import Derived.Test.YtnlkfehnmijimaaRcX
import Derived.Test.YtnlkfehnmijimaaRcM
import Derived.Test.YtnlkfehnmijimaaRcN
import Derived.Test.YtnlkfehnmijimaaRcR
import Derived.Test.YtnlkfehnmijimaaRcW
import Derived.BigQuiet
set_option linter.unusedVariables false
set_option linter.unusedSimpArgs false
namespace Go.Proofs.Ytnlkfehnmijimaa.Rc
open Go.RowKit Lb
attribute [local go_sem] bs_size bs_toList bs_append bs_get bs_extract

set_option maxRecDepth 20000 in
set_option maxHeartbeats 1000000 in
theorem word_any (n : Nat) (w : World) (hn : n < 18446744073709551616) :
    Calls Try.prog 25 #[.int .u64 n] w fun e w' => e = .returned (.string (bs (wordB n))) ∧ Grow w w' := by
  obtain ⟨i0, hi, hz0, hz1, hz2⟩ := info_parts Try.info5
  have HN := hide hn
  clear hn
  go_enter Try.func25, Try.ntmps25
  go_wp2
  go_loopw [0, 3, 4] (fun n0 v i wr => ∃ (k n' : Nat) (done : List UInt8), k ≤ 8 ∧ done.length = k ∧ i = .int .i64 k ∧ Hid (wordB n = done ++ wordF (8 - k) n' ∧ n' ≤ n) ∧ n0 = .int .u64 n' ∧ wr.ownsRow w.heap.size 5 1 v k (bytesV done) ∧ Below w.heap.size w wr) (fun _ _ i _ => 8 - (intOf i).toNat)
  case atStart => exact ⟨0, n, [], by omega, rfl, rfl, ⟨rfl, Nat.le_refl _⟩, rfl, World.ownsRow_nil _ _ _ _, Below.refl _ _⟩
  case round =>
    obtain ⟨k, n', done, hk, hdl, rfl, H, rfl, hown, hb⟩ := hrel
    have hsz := hb.size
    by_cases hlt : k < 8
    · have hq : IntKind.u64.wrap ((n' : Int) / 256) = ((n' / 256 : Nat) : Int) := by
        have h1 := H.out.2
        have h2 := HN.out
        rw [wrap_u64_small _ (by omega) (by omega)]; omega
      have hdl' := hide hdl
      clear hdl
      go_wp2_with (at_builtin; refine wpList_append_own _ rfl _ _ 45 rfl w.heap.size 5 i0 (.int .u8 0) 1 1 Try.underlying45 hi hz0 hz1 hz2 rfl (by decide) _ k (bytesV done) rfl (hown.alloc _) ⟨wr.heap.size, 0, none⟩ 1 1 (bytesV [UInt8.ofNat n']) rfl rfl (bcell _ _ _ _ (by simp)) (bytesV_oneCell _) (by unfold maxLen; omega) (by omega) (by simp; omega) ?_; intro v' w1 hown' hgrow _; rw [← bytesV_append] at hown')
      go_roundw
      case rel => exact ⟨k + 1, n' / 256, done ++ [UInt8.ofNat n'], by omega, by simp [hdl'.out], by go_num, ⟨by rw [H.out.1, show 8 - k = (8 - (k + 1)) + 1 from by omega]; simp [wordF], by have := H.out.2; omega⟩, by go_num, hown', (hb.alloc hsz _).grown hgrow (by simp; omega) (fun j hj => (hown.lt j hj).1)⟩
      case measure => simp [intOf]; omega
    · obtain rfl : k = 8 := by omega
      have hcv := run_bytesStr (P := Try.prog) Try.underlying45 Try.underlying5 Try.underlying9 (l := done) (by rw [hdl]; exact hown)
      go_wp2
      go_ret
      exact ⟨by rw [H.out.1]; simp [wordF], hb⟩
theorem ofNat_mod (n : Nat) : UInt8.ofNat n = UInt8.ofNat (n % 256) := by
  rw [← UInt8.toNat_inj, UInt8.toNat_ofNat', UInt8.toNat_ofNat']
  omega
theorem wordR_is (n : Nat) : wordB n = wordR n 8 := by
  unfold wordB wordR
  simp only [wordF, List.range_succ, List.range_zero, List.map_append, List.map_nil, List.map_cons, List.nil_append, List.cons_append, byteAt]
  rw [ofNat_mod n, ofNat_mod (n / 256), ofNat_mod (n / 256 / 256), ofNat_mod (n / 256 / 256 / 256), ofNat_mod (n / 256 / 256 / 256 / 256), ofNat_mod (n / 256 / 256 / 256 / 256 / 256), ofNat_mod (n / 256 / 256 / 256 / 256 / 256 / 256), ofNat_mod (n / 256 / 256 / 256 / 256 / 256 / 256 / 256)]
  simp [Nat.div_div_eq_div_mul]
set_option maxHeartbeats 1000000 in
theorem small_any (n : Nat) (w : World) (hn : n < 9223372036854775808) : Calls Try.prog 24 #[.int .i64 n] w fun e w' => e = .returned (.string (bs (numB n))) ∧ Grow w w' := by
  have HN := hide (numberOf_any n w (by omega))
  have hw : IntKind.u64.wrap (n : Int) = n := by rw [IntKind.wrap_u64]; omega
  go_enter Try.func24, Try.ntmps24
  go_wp2_with fail
  refine HN.out.mono ?_
  rintro e w1 ⟨rfl, hb⟩
  go_wp2
  go_ret
  exact ⟨rfl, hb⟩

set_option maxRecDepth 20000 in
set_option maxHeartbeats 8000000 in
theorem packOf1_any (w : World) (vr vp : Value) (rs : List RefL) (hr : readsRefs w w.heap.size vr rs) (hp : ∃ po pl pc, vp = .slice po pl pc) (hn : rs.length ≤ 200) (hok : ∀ x ∈ rs, refErr x = 0) :
    Calls Try.prog 9 #[.agg #[.int .i64 1, vr, vp]] w fun e w' => e = .returned (.string (bs (1 :: (numB rs.length ++ refsB rs)))) ∧ Grow w w' := by
  have HR := hide hr
  have HOK := hide hok
  have hnl := numB_length rs.length
  obtain ⟨ro, rc, rfl, _⟩ := hr
  obtain ⟨po, pl, pc, rfl⟩ := hp
  obtain ⟨W, eW, gW, hW⟩ := laid_at w #[.int .i64 1, .slice ro rs.length rc, .slice po pl pc] 25
  have HW := hide hW
  have HG := hide gW
  obtain ⟨c0, c1, c2⟩ := three_of hW
  have hlW := gW.size
  have g1 : Grow W (W.alloc (.cells #[.int .u8 1] 5)) := (Grow.refl _).alloc _
  obtain ⟨d0, d1, d2⟩ := three_of (g1.get hW)
  have hcv := run_oneByte (P := Try.prog) W Try.underlying45 Try.underlying5 Try.underlying9 5 1 1 rfl
  have HS0 := hide (small_any rs.length (W.alloc (.cells #[.int .u8 1] 5)) (by omega))
  have HG1 := hide g1
  clear hok hW gW g1
  go_enter Try.func9, Try.ntmps9
  go_wp2_with fail
  refine HS0.out.mono ?_
  rintro e w1 ⟨rfl, hg1⟩
  have HG2 := hide (HG1.out.trans hg1)
  clear hg1 HS0 hcv c0 c1 c2 d0 d1 d2
  go_wp2
  obtain ⟨pre, HPRE⟩ : ∃ pre, Hid (1 :: numB rs.length = pre) := ⟨_, hide rfl⟩
  have hprel : pre.length ≤ 11 := by rw [← HPRE.out, List.length_cons]; omega
  rw [HPRE.out]
  go_loopw [3, 4, 5, 6] (fun s i _ _ wr => ∃ k : Nat, k ≤ rs.length ∧ i = .int .i64 k ∧ s = .string (bs (pre ++ refsB (rs.take k))) ∧ Hid (Grow W wr)) (fun _ i _ _ _ => rs.length - (intOf i).toNat)
  case atStart => exact ⟨0, by omega, rfl, by simp [refsB], HG2⟩
  case round =>
    obtain ⟨k, hk, rfl, rfl, HGR⟩ := hrel
    obtain ⟨cb0, cb1, cb2⟩ := three_of (HGR.out.get HW.out)
    have hl1 := refsB_len (l := rs.take k) (fun x hx => HOK.out x (List.mem_of_mem_take hx))
    have hl2 : (rs.take k).length ≤ 200 := by rw [List.length_take]; omega
    have hlen : (pre ++ refsB (rs.take k)).length ≤ 700000 := by rw [List.length_append]; omega
    obtain ⟨S, HSV⟩ : ∃ S, Hid (pre ++ refsB (rs.take k) = S) := ⟨_, hide rfl⟩
    rw [HSV.out] at hlen ⊢
    clear hl1 hl2
    by_cases hlt : k < rs.length
    · have hlti : (k : Int) < (rs.length : Int) := by omega
      obtain ⟨rb, rof, vl, rfl, hrB, hls, cr0, cr1⟩ : ∃ b' o vl, ro = some ⟨b', o, none⟩ ∧ b' < w.heap.size ∧ readsLabels wr w.heap.size vl rs[k].2 ∧ wr.cell? ⟨b', o + k * 2, none⟩ = some (.int .i64 rs[k].1) ∧ wr.cell? ⟨b', o + k * 2 + 1, none⟩ = some vl := by
        obtain ⟨ao', cp', e, h⟩ := HR.out.keep (HG.out.trans HGR.out)
        cases e
        exact h k hlt
      have hxe := HOK.out _ (List.getElem_mem hlt)
      have HTK := hide (refsB_take hlt)
      obtain ⟨x, HX⟩ : ∃ x : RefL, Hid (rs[k] = x) := ⟨_, hide rfl⟩
      rw [HX.out] at hls cr0 hxe HTK
      obtain ⟨⟨hx1, hx2⟩, hx3, hxc⟩ := refErr_zero hxe
      obtain ⟨hx20, hxs⟩ := check_small hxc
      have HXS := hide hxs
      obtain ⟨rn, hrn⟩ : ∃ rn : Nat, x.1 = (rn : Int) := ⟨x.1.toNat, by omega⟩
      have HRB : Hid (refB x = numB rn ++ (numB x.2.length ++ labsB x.2)) := hide (by unfold refB; rw [hrn, Int.toNat_natCast])
      rw [hrn] at cr0
      have hrn6 : rn ≤ 1000000 := by omega
      obtain ⟨ls, hlseq⟩ : ∃ ls, x.2 = ls := ⟨_, rfl⟩
      rw [hlseq] at hls HRB hx3 hx20 HXS
      have HLS := hide hls
      obtain ⟨lo, lc, rfl⟩ := readsLabels_len hls
      have hn1 := numB_length rn
      have hn2 := numB_length ls.length
      clear hls hxe hxc hx1 hx2 hrn hlseq hxs
      obtain ⟨wa, ea, ga, ba⟩ := laid_at wr #[.int .i64 rn, .slice lo ls.length lc] 53
      have hba : (wr.alloc (.cells #[.int .i64 rn, .slice lo ls.length lc] 53)).heap[wr.heap.size]? = some (.cells #[.int .i64 rn, .slice lo ls.length lc] 53 (0, 0)) := heap_alloc_new _ _
      have HBA := hide hba
      have HGA : Hid (Grow wr (wr.alloc (.cells #[.int .i64 rn, .slice lo ls.length lc] 53))) := hide ((Grow.refl _).alloc _)
      clear hba ea ga ba wa
      go_wp2
      refine wp_region_free 10 128 mixedR rfl (by decide +kernel) Grow (fun _ _ _ => Grow.trans) (Grow.refl _)
        (fun i v _ => match i with
          | 0 => v = .string (bs S)
          | 1 => v = .pointer (some ⟨wr.heap.size, 0, none⟩)
          | 2 => v = .int .i64 rn
          | 3 => v = .string (bs (numB rn))
          | 4 => v = .pointer (some ⟨wr.heap.size, 1, none⟩)
          | 5 => v = .slice lo ls.length lc
          | 6 => v = .int .i64 ls.length
          | 7 => v = .string (bs (numB ls.length))
          | 8 => v = .string (bs (numB rn ++ numB ls.length))
          | _ => v = .string (bs (S ++ (numB rn ++ numB ls.length))))
        (fun i v w w' h hg => h) (fun _ _ => False) (fun _ _ _ _ h => h.elim) (fun i hi o ho a w1 hG hoff hdep => ?_) (fun vals w1 hG hvals => ?_)
      · obtain ⟨x0, x1⟩ := two_of (below_block hG.undrew HBA.out (by simp))
        match i, hi with
        | 0, _ =>
          obtain rfl := Option.some.inj ho
          have o3 := hoff 3 (by decide +kernel)
          simp at o3
          simp [opYields, go_sem, o3]
          exact Grow.refl _
        | 1, _ =>
          obtain rfl := Option.some.inj ho
          have o5 := hoff 5 (by decide +kernel)
          simp at o5
          simp [opYields, go_sem, o5]
          exact Grow.refl _
        | 2, _ =>
          obtain rfl := Option.some.inj ho
          have d1 := hdep 1 (by decide +kernel)
          simp [slotOf, dstOf] at d1
          simp [opYields, go_sem, d1, x0]
          exact Grow.refl _
        | 3, _ =>
          obtain rfl := Option.some.inj ho
          have d2 := hdep 2 (by decide +kernel)
          simp [slotOf, dstOf] at d2
          simp [opYields, go_sem, d2]
          refine (small_any rn w1 (by omega)).mono ?_
          rintro e w2 ⟨rfl, hb⟩
          exact ⟨hb, rfl⟩
        | 4, _ =>
          obtain rfl := Option.some.inj ho
          have o5 := hoff 5 (by decide +kernel)
          simp at o5
          simp [opYields, go_sem, o5]
          exact Grow.refl _
        | 5, _ =>
          obtain rfl := Option.some.inj ho
          have d4 := hdep 4 (by decide +kernel)
          simp [slotOf, dstOf] at d4
          simp [opYields, go_sem, d4, x1]
          exact Grow.refl _
        | 6, _ =>
          obtain rfl := Option.some.inj ho
          have d5 := hdep 5 (by decide +kernel)
          simp [slotOf, dstOf] at d5
          simp [opYields, go_sem, d5]
          exact Grow.refl _
        | 7, _ =>
          obtain rfl := Option.some.inj ho
          have d6 := hdep 6 (by decide +kernel)
          simp [slotOf, dstOf] at d6
          simp [opYields, go_sem, d6]
          refine (small_any ls.length w1 (by omega)).mono ?_
          rintro e w2 ⟨rfl, hb⟩
          exact ⟨hb, rfl⟩
        | 8, _ =>
          obtain rfl := Option.some.inj ho
          have d3 := hdep 3 (by decide +kernel)
          simp [slotOf, dstOf] at d3
          have d7 := hdep 7 (by decide +kernel)
          simp [slotOf, dstOf] at d7
          simp [opYields, go_sem, d3, d7]
          rw [if_neg (by omega)]
          exact ⟨Grow.refl _, rfl⟩
        | 9, _ =>
          obtain rfl := Option.some.inj ho
          have d0 := hdep 0 (by decide +kernel)
          simp [slotOf, dstOf] at d0
          have d8 := hdep 8 (by decide +kernel)
          simp [slotOf, dstOf] at d8
          simp [opYields, go_sem, d0, d8]
          rw [if_neg (by omega)]
          exact ⟨Grow.refl _, rfl⟩
      · have v9 := hvals 9 (by omega)
        simp only at v9
        have HGB := hide hG.undrew
        clear hvals hG
        simp [over, dstOf, Act.put, v9]
        obtain ⟨S1, HS1⟩ : ∃ S1, Hid (S ++ (numB rn ++ numB ls.length) = S1) := ⟨_, hide rfl⟩
        have hS1l : S1.length ≤ 700020 := by rw [← HS1.out, List.length_append, List.length_append]; omega
        rw [HS1.out]
        go_wp2
        go_loopw [3, 6] (fun s i wi => ∃ j : Nat, j ≤ ls.length ∧ i = .int .i64 j ∧ s = .string (bs (S1 ++ labsB (ls.take j))) ∧ Hid (Grow (wr.alloc (.cells #[.int .i64 rn, .slice lo ls.length lc] 53)) wi)) (fun _ i _ => ls.length - (intOf i).toNat)
        case atStart => exact ⟨0, by omega, rfl, by simp [labsB], HGB⟩
        case round =>
          obtain ⟨j, hj, rfl, rfl, HGI⟩ := hrel
          rename World => wi
          obtain ⟨xa0, xa1⟩ := two_of (HGI.out.get HBA.out)
          have hb1 := labsB_len (l := ls.take j) (fun x hx => HXS.out x (List.mem_of_mem_take hx))
          have hb2 : (ls.take j).length ≤ 20 := by rw [List.length_take]; omega
          have hb3 : (S1 ++ labsB (ls.take j)).length ≤ 710000 := by rw [List.length_append]; omega
          obtain ⟨S2, HS2⟩ : ∃ S2, Hid (S1 ++ labsB (ls.take j) = S2) := ⟨_, hide rfl⟩
          rw [HS2.out] at hb3 ⊢
          clear hb1 hb2
          by_cases hjlt : j < ls.length
          · have hjlti : (j : Int) < (ls.length : Int) := by omega
            obtain ⟨lb, lof, rfl, hlB, e0, e1⟩ : ∃ b' o, lo = some ⟨b', o, none⟩ ∧ b' < w.heap.size ∧ wi.cell? ⟨b', o + j * 2, none⟩ = some (.string (bs ls[j].1)) ∧ wi.cell? ⟨b', o + j * 2 + 1, none⟩ = some (.string (bs ls[j].2)) := by
              obtain ⟨ao', cp', e, h⟩ := readsLabels_below HLS.out (Below.mono (HGA.out.trans HGI.out) (by have := HGR.out.size; omega))
              cases e
              exact h j hjlt
            have HLT := hide (labsB_take hjlt)
            have hym := HXS.out _ (List.getElem_mem hjlt)
            obtain ⟨nm, vl, HY⟩ : ∃ nm vl, Hid (ls[j] = (nm, vl)) := ⟨_, _, hide rfl⟩
            rw [HY.out] at e0 e1 HLT hym
            simp only at e0 e1 hym
            have hm1 := numB_length nm.length
            have hm2 := numB_length vl.length
            have hE0 := hide e0
            have hE1 := hide e1
            clear e0 e1
            go_wp2
            refine wp_region_free 33 128 mixedR rfl (by decide +kernel) Grow (fun _ _ _ => Grow.trans) (Grow.refl _)
              (fun i v _ => match i with
                | 0 => v = .string (bs S2)
                | 1 => v = .pointer (some ⟨wr.heap.size, 1, none⟩)
                | 2 => v = .slice (some ⟨lb, lof, none⟩) ls.length lc
                | 3 => v = .int .i64 j
                | 4 => v = .pointer (some ⟨lb, lof + j * 2, none⟩)
                | 5 => v = .pointer (some ⟨lb, lof + j * 2, none⟩)
                | 6 => v = .string (bs nm)
                | 7 => v = .int .i64 nm.length
                | 8 => v = .string (bs (numB nm.length))
                | 9 => v = .pointer (some ⟨wr.heap.size, 1, none⟩)
                | 10 => v = .slice (some ⟨lb, lof, none⟩) ls.length lc
                | 11 => v = .int .i64 j
                | 12 => v = .pointer (some ⟨lb, lof + j * 2, none⟩)
                | 13 => v = .pointer (some ⟨lb, lof + j * 2, none⟩)
                | 14 => v = .string (bs nm)
                | 15 => v = .string (bs (numB nm.length ++ nm))
                | 16 => v = .pointer (some ⟨wr.heap.size, 1, none⟩)
                | 17 => v = .slice (some ⟨lb, lof, none⟩) ls.length lc
                | 18 => v = .int .i64 j
                | 19 => v = .pointer (some ⟨lb, lof + j * 2, none⟩)
                | 20 => v = .pointer (some ⟨lb, lof + j * 2 + 1, none⟩)
                | 21 => v = .string (bs vl)
                | 22 => v = .int .i64 vl.length
                | 23 => v = .string (bs (numB vl.length))
                | 24 => v = .string (bs ((numB nm.length ++ nm) ++ numB vl.length))
                | 25 => v = .pointer (some ⟨wr.heap.size, 1, none⟩)
                | 26 => v = .slice (some ⟨lb, lof, none⟩) ls.length lc
                | 27 => v = .int .i64 j
                | 28 => v = .pointer (some ⟨lb, lof + j * 2, none⟩)
                | 29 => v = .pointer (some ⟨lb, lof + j * 2 + 1, none⟩)
                | 30 => v = .string (bs vl)
                | 31 => v = .string (bs (((numB nm.length ++ nm) ++ numB vl.length) ++ vl))
                | _ => v = .string (bs (S2 ++ (((numB nm.length ++ nm) ++ numB vl.length) ++ vl))))
              (fun i v w w' h hg => h) (fun _ _ => False) (fun _ _ _ _ h => h.elim) (fun i hi o ho a w1 hG hoff hdep => ?_) (fun vals w1 hG hvals => ?_)
            · obtain ⟨x0, x1⟩ := two_of (below_block hG.undrew (HGI.out.get HBA.out) (lt_of_block (HGI.out.get HBA.out)))
              have lbw : lb < wi.heap.size := by have := HGR.out.size; have := HGA.out.size; have := HGI.out.size; omega
              have f0 := (hG.undrew.cell (p := ⟨lb, lof + j * 2, none⟩) lbw).trans hE0.out
              have f1 := (hG.undrew.cell (p := ⟨lb, lof + j * 2 + 1, none⟩) lbw).trans hE1.out
              match i, hi with
              | 0, _ =>
                obtain rfl := Option.some.inj ho
                have o3 := hoff 3 (by decide +kernel)
                simp at o3
                simp [opYields, go_sem, o3]
                exact Grow.refl _
              | 1, _ =>
                obtain rfl := Option.some.inj ho
                have o5 := hoff 5 (by decide +kernel)
                simp at o5
                simp [opYields, go_sem, o5]
                exact Grow.refl _
              | 2, _ =>
                obtain rfl := Option.some.inj ho
                have d1 := hdep 1 (by decide +kernel)
                simp [slotOf, dstOf] at d1
                simp [opYields, go_sem, d1, x1]
                exact Grow.refl _
              | 3, _ =>
                obtain rfl := Option.some.inj ho
                have o6 := hoff 6 (by decide +kernel)
                simp at o6
                simp [opYields, go_sem, o6]
                exact Grow.refl _
              | 4, _ =>
                obtain rfl := Option.some.inj ho
                have d2 := hdep 2 (by decide +kernel)
                simp [slotOf, dstOf] at d2
                have d3 := hdep 3 (by decide +kernel)
                simp [slotOf, dstOf] at d3
                simp [opYields, go_sem, d2, d3, hjlt]
                exact Grow.refl _
              | 5, _ =>
                obtain rfl := Option.some.inj ho
                have d4 := hdep 4 (by decide +kernel)
                simp [slotOf, dstOf] at d4
                simp [opYields, go_sem, d4]
                exact Grow.refl _
              | 6, _ =>
                obtain rfl := Option.some.inj ho
                have d5 := hdep 5 (by decide +kernel)
                simp [slotOf, dstOf] at d5
                simp [opYields, go_sem, d5, f0]
                exact Grow.refl _
              | 7, _ =>
                obtain rfl := Option.some.inj ho
                have d6 := hdep 6 (by decide +kernel)
                simp [slotOf, dstOf] at d6
                simp [opYields, go_sem, d6]
                exact Grow.refl _
              | 8, _ =>
                obtain rfl := Option.some.inj ho
                have d7 := hdep 7 (by decide +kernel)
                simp [slotOf, dstOf] at d7
                simp [opYields, go_sem, d7]
                refine (small_any nm.length w1 (by omega)).mono ?_
                rintro e w2 ⟨rfl, hb⟩
                exact ⟨hb, rfl⟩
              | 9, _ =>
                obtain rfl := Option.some.inj ho
                have o5 := hoff 5 (by decide +kernel)
                simp at o5
                simp [opYields, go_sem, o5]
                exact Grow.refl _
              | 10, _ =>
                obtain rfl := Option.some.inj ho
                have d9 := hdep 9 (by decide +kernel)
                simp [slotOf, dstOf] at d9
                simp [opYields, go_sem, d9, x1]
                exact Grow.refl _
              | 11, _ =>
                obtain rfl := Option.some.inj ho
                have o6 := hoff 6 (by decide +kernel)
                simp at o6
                simp [opYields, go_sem, o6]
                exact Grow.refl _
              | 12, _ =>
                obtain rfl := Option.some.inj ho
                have d10 := hdep 10 (by decide +kernel)
                simp [slotOf, dstOf] at d10
                have d11 := hdep 11 (by decide +kernel)
                simp [slotOf, dstOf] at d11
                simp [opYields, go_sem, d10, d11, hjlt]
                exact Grow.refl _
              | 13, _ =>
                obtain rfl := Option.some.inj ho
                have d12 := hdep 12 (by decide +kernel)
                simp [slotOf, dstOf] at d12
                simp [opYields, go_sem, d12]
                exact Grow.refl _
              | 14, _ =>
                obtain rfl := Option.some.inj ho
                have d13 := hdep 13 (by decide +kernel)
                simp [slotOf, dstOf] at d13
                simp [opYields, go_sem, d13, f0]
                exact Grow.refl _
              | 15, _ =>
                obtain rfl := Option.some.inj ho
                have d8 := hdep 8 (by decide +kernel)
                simp [slotOf, dstOf] at d8
                have d14 := hdep 14 (by decide +kernel)
                simp [slotOf, dstOf] at d14
                simp [opYields, go_sem, d8, d14]
                rw [if_neg (by omega)]
                exact ⟨Grow.refl _, rfl⟩
              | 16, _ =>
                obtain rfl := Option.some.inj ho
                have o5 := hoff 5 (by decide +kernel)
                simp at o5
                simp [opYields, go_sem, o5]
                exact Grow.refl _
              | 17, _ =>
                obtain rfl := Option.some.inj ho
                have d16 := hdep 16 (by decide +kernel)
                simp [slotOf, dstOf] at d16
                simp [opYields, go_sem, d16, x1]
                exact Grow.refl _
              | 18, _ =>
                obtain rfl := Option.some.inj ho
                have o6 := hoff 6 (by decide +kernel)
                simp at o6
                simp [opYields, go_sem, o6]
                exact Grow.refl _
              | 19, _ =>
                obtain rfl := Option.some.inj ho
                have d17 := hdep 17 (by decide +kernel)
                simp [slotOf, dstOf] at d17
                have d18 := hdep 18 (by decide +kernel)
                simp [slotOf, dstOf] at d18
                simp [opYields, go_sem, d17, d18, hjlt]
                exact Grow.refl _
              | 20, _ =>
                obtain rfl := Option.some.inj ho
                have d19 := hdep 19 (by decide +kernel)
                simp [slotOf, dstOf] at d19
                simp [opYields, go_sem, d19]
                exact Grow.refl _
              | 21, _ =>
                obtain rfl := Option.some.inj ho
                have d20 := hdep 20 (by decide +kernel)
                simp [slotOf, dstOf] at d20
                simp [opYields, go_sem, d20, f1]
                exact Grow.refl _
              | 22, _ =>
                obtain rfl := Option.some.inj ho
                have d21 := hdep 21 (by decide +kernel)
                simp [slotOf, dstOf] at d21
                simp [opYields, go_sem, d21]
                exact Grow.refl _
              | 23, _ =>
                obtain rfl := Option.some.inj ho
                have d22 := hdep 22 (by decide +kernel)
                simp [slotOf, dstOf] at d22
                simp [opYields, go_sem, d22]
                refine (small_any vl.length w1 (by omega)).mono ?_
                rintro e w2 ⟨rfl, hb⟩
                exact ⟨hb, rfl⟩
              | 24, _ =>
                obtain rfl := Option.some.inj ho
                have d15 := hdep 15 (by decide +kernel)
                simp [slotOf, dstOf] at d15
                have d23 := hdep 23 (by decide +kernel)
                simp [slotOf, dstOf] at d23
                simp [opYields, go_sem, d15, d23]
                rw [if_neg (by omega)]
                exact ⟨Grow.refl _, by simp⟩
              | 25, _ =>
                obtain rfl := Option.some.inj ho
                have o5 := hoff 5 (by decide +kernel)
                simp at o5
                simp [opYields, go_sem, o5]
                exact Grow.refl _
              | 26, _ =>
                obtain rfl := Option.some.inj ho
                have d25 := hdep 25 (by decide +kernel)
                simp [slotOf, dstOf] at d25
                simp [opYields, go_sem, d25, x1]
                exact Grow.refl _
              | 27, _ =>
                obtain rfl := Option.some.inj ho
                have o6 := hoff 6 (by decide +kernel)
                simp at o6
                simp [opYields, go_sem, o6]
                exact Grow.refl _
              | 28, _ =>
                obtain rfl := Option.some.inj ho
                have d26 := hdep 26 (by decide +kernel)
                simp [slotOf, dstOf] at d26
                have d27 := hdep 27 (by decide +kernel)
                simp [slotOf, dstOf] at d27
                simp [opYields, go_sem, d26, d27, hjlt]
                exact Grow.refl _
              | 29, _ =>
                obtain rfl := Option.some.inj ho
                have d28 := hdep 28 (by decide +kernel)
                simp [slotOf, dstOf] at d28
                simp [opYields, go_sem, d28]
                exact Grow.refl _
              | 30, _ =>
                obtain rfl := Option.some.inj ho
                have d29 := hdep 29 (by decide +kernel)
                simp [slotOf, dstOf] at d29
                simp [opYields, go_sem, d29, f1]
                exact Grow.refl _
              | 31, _ =>
                obtain rfl := Option.some.inj ho
                have d24 := hdep 24 (by decide +kernel)
                simp [slotOf, dstOf] at d24
                have d30 := hdep 30 (by decide +kernel)
                simp [slotOf, dstOf] at d30
                simp [opYields, go_sem, d24, d30]
                rw [if_neg (by omega)]
                exact ⟨Grow.refl _, by simp⟩
              | 32, _ =>
                obtain rfl := Option.some.inj ho
                have d0 := hdep 0 (by decide +kernel)
                simp [slotOf, dstOf] at d0
                have d31 := hdep 31 (by decide +kernel)
                simp [slotOf, dstOf] at d31
                simp [opYields, go_sem, d0, d31]
                rw [if_neg (by omega)]
                exact ⟨Grow.refl _, by simp⟩
              | k + 33, h => exact absurd h (by omega)
            · have v32 := hvals 32 (by omega)
              simp only at v32
              have HGC := hide (HGI.out.trans hG.undrew)
              have HNX : Hid (S1 ++ labsB (ls.take (j + 1)) = S2 ++ (((numB nm.length ++ nm) ++ numB vl.length) ++ vl)) := hide (by rw [HLT.out, ← HS2.out]; simp [labB, textB])
              clear hvals hG
              rw [← HNX.out] at v32
              obtain ⟨S3, HS3⟩ : ∃ S3, Hid (S1 ++ labsB (ls.take (j + 1)) = S3) := ⟨_, hide rfl⟩
              rw [HS3.out] at v32
              simp [over, dstOf, Act.put, v32]
              go_wp2
              go_roundw
              case rel => exact ⟨j + 1, by omega, by go_num, by rw [HS3.out], HGC⟩
              case measure => simp [intOf]; omega
          · obtain rfl : j = ls.length := by omega
            have HNX : Hid (pre ++ refsB (rs.take (k + 1)) = S2) := hide (by rw [HTK.out, HRB.out, ← HS2.out, ← HS1.out, ← HSV.out, List.take_length]; simp)
            go_wp2
            go_roundw
            case rel => exact ⟨k + 1, by omega, by go_num, by rw [HNX.out], hide (HGR.out.trans (HGA.out.trans HGI.out))⟩
            case measure => simp [intOf]; omega
    · obtain rfl : k = rs.length := by omega
      have HE : Hid (S = 1 :: (numB rs.length ++ refsB rs)) := hide (by rw [← HSV.out, List.take_length, ← HPRE.out]; rfl)
      go_wp2
      go_ret
      exact ⟨by rw [HE.out]; rfl, HG.out.trans HGR.out⟩
end Go.Proofs.Ytnlkfehnmijimaa.Rc
