/- record: the writer of points, of a record. -/
import Derived.Laws.OwnMore
import Derived.Test.YtnlkfehnmijimaaProg
import Derived.Test.YtnlkfehnmijimaaKit
import Derived.Test.YtnlkfehnmijimaaSpec
import Derived.Test.YtnlkfehnmijimaaReg
import Derived.Test.YtnlkfehnmijimaaReg2
import Derived.Test.YtnlkfehnmijimaaLRow
import Derived.Test.YtnlkfehnmijimaaRcA
import Derived.Test.YtnlkfehnmijimaaRcW
import Derived.Test.YtnlkfehnmijimaaRcX
import Derived.Test.YtnlkfehnmijimaaRcE
import Derived.Test.YtnlkfehnmijimaaRcM
import Derived.Test.YtnlkfehnmijimaaRcN
import Derived.BigQuiet
set_option linter.unusedVariables false
set_option linter.unusedSimpArgs false
namespace Go.Proofs.Ytnlkfehnmijimaa.Rc
open Go.RowKit Lb
attribute [local go_sem] bs_size bs_toList bs_append bs_get bs_extract

theorem pointErr_zero {p : Pnt} (h : pointErr p = 0) : (1 ≤ p.1 ∧ p.1 ≤ 1000000) ∧ timeErr p.2.1 = 0 := by
  unfold pointErr at h
  by_cases h1 : numErr p.1 = 0
  · rw [if_neg (by omega)] at h
    refine ⟨?_, h⟩
    unfold numErr at h1
    by_cases h3 : 1 ≤ p.1 ∧ p.1 ≤ 1000000
    · exact h3
    · rw [if_neg h3] at h1; cases h1
  · rw [if_pos h1] at h
    exact absurd h h1

set_option maxRecDepth 20000 in
set_option maxHeartbeats 8000000 in
theorem points_w (w : World) (A B b : Nat) (v : Value) (l : List UInt8) (ps : List Pnt) (hA : A ≤ B) (hAb : A ≤ b) (hh : holdsW w B b l) (hl : l.length ≤ 1000) (hr : readsPoints w A v ps) (hn : ps.length ≤ 200) (hok : ∀ x ∈ ps, pointErr x = 0) (hbits : ∀ x ∈ ps, x.2.2 < 18446744073709551616) :
    Calls Try.prog 40 #[.pointer (some ⟨b, 0, none⟩), v] w (wrote B b l (numB ps.length ++ pointsB ps) w) := by
  have HNUM := hide (number_w w B b ps.length l hh (by omega) (by omega))
  have HR := hide hr
  have HOK := hide hok
  have HBI := hide hbits
  have hnl := numB_length ps.length
  obtain ⟨ao, cp, rfl, _⟩ := hr
  clear hh hok hbits
  go_enter Try.func40, Try.ntmps40
  go_wp2_with fail
  refine HNUM.out.mono ?_
  rintro e w1 ⟨hk1, rfl, hh1⟩
  have HK1 := hide hk1
  have HH1 := hide hh1
  clear hk1 hh1 HNUM
  go_wp2
  go_loopw [12] (fun iv wr => ∃ k : Nat, k ≤ ps.length ∧ iv = .int .i64 k ∧ Hid (KeptX B b w wr) ∧ Hid (holdsW wr B b (l ++ (numB ps.length ++ pointsB (ps.take k))))) (fun iv _ => ps.length - (intOf iv).toNat)
  case atStart => exact ⟨0, by omega, rfl, HK1, hide (by simpa [pointsB] using HH1.out)⟩
  case round =>
    obtain ⟨k, hk, rfl, HK, HH⟩ := hrel
    by_cases hlt : k < ps.length
    · have hlti : (k : Int) < (ps.length : Int) := by omega
      obtain ⟨rb, ro, rfl, hrB, c00, c10, c20⟩ : ∃ b' o, ao = some ⟨b', o, none⟩ ∧ b' < A ∧ w.cell? ⟨b', o + k * 3, none⟩ = some (.int .i64 ps[k].1) ∧ w.cell? ⟨b', o + k * 3 + 1, none⟩ = some (.int .i64 ps[k].2.1) ∧ w.cell? ⟨b', o + k * 3 + 2, none⟩ = some (.int .u64 ps[k].2.2) := by
        obtain ⟨ao', cp', e, h⟩ := HR.out
        cases e
        exact h k hlt
      have hbe := HK.out.below hA hAb
      have c0 := (hbe.cell (p := ⟨rb, ro + k * 3, none⟩) hrB).trans c00
      have c1 := (hbe.cell (p := ⟨rb, ro + k * 3 + 1, none⟩) hrB).trans c10
      have c2 := (hbe.cell (p := ⟨rb, ro + k * 3 + 2, none⟩) hrB).trans c20
      clear c00 c10 c20 hbe
      have hxe := HOK.out _ (List.getElem_mem hlt)
      have hxb := HBI.out _ (List.getElem_mem hlt)
      have HTK := hide (pointsB_take hlt)
      have hbig : (l ++ (numB ps.length ++ pointsB (ps.take k))).length ≤ 700000 := by
        have h1 := pointsB_len (ps.take k)
        have h2 : (ps.take k).length ≤ 200 := by rw [List.length_take]; omega
        rw [List.length_append, List.length_append]
        omega
      obtain ⟨x, HX⟩ : ∃ x : Pnt, Hid (ps[k] = x) := ⟨_, hide rfl⟩
      rw [HX.out] at c0 c1 c2 hxe hxb HTK
      obtain ⟨⟨hx1, hx2⟩, hxt⟩ := pointErr_zero hxe
      obtain ⟨x0, x1, x2⟩ := x
      simp only at c0 c1 c2 hx1 hx2 hxt hxb
      obtain ⟨rn, rfl⟩ : ∃ rn : Nat, x0 = (rn : Int) := ⟨x0.toNat, by omega⟩
      have HRB : Hid (pointB ((rn : Int), x1, x2) = numB rn ++ (numB (timeN x1) ++ wordR x2 8)) := hide (by unfold pointB; simp only [Int.toNat_natCast])
      obtain ⟨l1, HL1⟩ : ∃ l1, Hid (l ++ (numB ps.length ++ pointsB (ps.take k)) = l1) := ⟨_, hide rfl⟩
      rw [HL1.out] at HH hbig
      obtain ⟨W, eW, gW, hW⟩ := laid_at wr #[.int .i64 rn, .int .i64 x1, .int .u64 x2] 57
      obtain ⟨xb, hxb⟩ : ∃ b', wr.heap.size = b' := ⟨_, rfl⟩
      rw [hxb] at hW
      have HKW : Hid (KeptX B b w W) := hide (HK.out.trans (keptX_grow gW (holdsW_size HH.out).1))
      have hxne : xb ≠ b := by have := (holdsW_size HH.out).2; omega
      have HHW := hide (holdsW_below HH.out gW (Nat.le_refl _))
      have HW := hide hW
      obtain ⟨d0, d1, d2⟩ := three_of hW
      have HN1 := hide (number_w W B b rn l1 HHW.out (by omega) (by omega))
      clear gW hW hxe
      go_wp2_with fail
      refine HN1.out.mono ?_
      rintro e w2 ⟨hk2, rfl, hh2⟩
      have HK2 := hide (HKW.out.trans hk2)
      have HB2 := hide (hk2.typed xb _ _ _ hxne HW.out (by decide))
      obtain ⟨d0, d1, d2⟩ := three_of HB2.out
      have HN2 := hide (time_w w2 B b x1 (l1 ++ numB rn) hh2 (by have := numB_length rn; rw [List.length_append]; omega) hxt)
      clear hk2 hh2 HN1 eW
      go_wp2_with fail
      refine HN2.out.mono ?_
      rintro e w3 ⟨hk3, rfl, hh3⟩
      have HK3 := hide (HK2.out.trans hk3)
      have HB3 := hide (hk3.typed xb _ _ _ hxne HB2.out (by decide))
      obtain ⟨d0, d1, d2⟩ := three_of HB3.out
      have HN3 := hide (eight_w w3 B b x2 (l1 ++ numB rn ++ numB (timeN x1)) hh3 (by have := numB_length rn; have := numB_length (timeN x1); rw [List.length_append, List.length_append]; omega) (by omega))
      clear hk3 hh3 HN2
      go_wp2_with fail
      refine HN3.out.mono ?_
      rintro e w4 ⟨hk4, rfl, hh4⟩
      have HK4 := hide (HK3.out.trans hk4)
      have HH4 : Hid (holdsW w4 B b (l ++ (numB ps.length ++ pointsB (ps.take (k + 1))))) := hide (by
        rw [HTK.out, HRB.out, ← List.append_assoc (numB ps.length), ← List.append_assoc l, HL1.out]
        simpa [List.append_assoc] using hh4)
      clear hk4 hh4 HN3 d0 d1 d2
      go_wp2
      go_roundw
      case rel => exact ⟨k + 1, by omega, by go_num, HK4, HH4⟩
      case measure => simp [intOf]; omega
    · obtain rfl : k = ps.length := by omega
      rw [List.take_length] at HH
      go_wp2
      go_end0
      exact ⟨HK.out, rfl, HH.out⟩

set_option maxRecDepth 20000 in
set_option maxHeartbeats 8000000 in
theorem record_w (w : World) (A B b : Nat) (vr vp : Value) (r : Rcd) (hA : A ≤ B) (hAb : A ≤ b) (hh : holdsW w B b []) (hr : readsRefs w A vr r.refs) (hp : readsPoints w A vp r.points) (h0 : recErr r = 0) (hbits : ∀ x ∈ r.points, x.2.2 < 18446744073709551616) :
    Calls Try.prog 20 #[.pointer (some ⟨b, 0, none⟩), .agg #[.int .i64 r.kind, vr, vp]] w (wrote B b [] (packB r) w) := by
  obtain ⟨hk12, hr200, hp200, hre, hpe⟩ := recErr_zero h0
  have HRR := hide hr
  have HPP := hide hp
  have HRE := hide hre
  have HPE := hide hpe
  have HBI := hide hbits
  obtain ⟨ro, rc, rfl, _⟩ := hr
  obtain ⟨po, pc, rfl, _⟩ := hp
  obtain ⟨kn, hkn⟩ : ∃ kn : Nat, r.kind = (kn : Int) := ⟨r.kind.toNat, by omega⟩
  have hkn2 : kn = 1 ∨ kn = 2 := by omega
  obtain ⟨c, HC⟩ : ∃ c, Hid (UInt8.ofNat kn = c) := ⟨_, hide rfl⟩
  have hcn : (kn : Int) = (c.toNat : Int) := by rw [← HC.out]; rcases hkn2 with rfl | rfl <;> rfl
  have HCN := hide hcn
  have HPK : Hid (packB r = [c] ++ (if kn = 1 then numB r.refs.length ++ refsB r.refs else numB r.points.length ++ pointsB r.points)) := hide (by
    unfold packB
    rw [hkn, Int.toNat_natCast, HC.out]
    rcases hkn2 with rfl | rfl
    · simp
    · simp)
  rw [hkn]
  obtain ⟨V, eV, gV, hV⟩ := laid_at w #[.int .i64 kn, .slice ro r.refs.length rc, .slice po r.points.length pc] 25
  obtain ⟨xb, hxb⟩ : ∃ b', w.heap.size = b' := ⟨_, rfl⟩
  rw [hxb] at hV
  have hsz := holdsW_size hh
  have hxne : xb ≠ b := by omega
  have HHV := hide (holdsW_below hh gV (Nat.le_refl _))
  have HKV : Hid (KeptX B b w V) := hide (keptX_grow gV hsz.1)
  obtain ⟨hB, v, hb, ho⟩ := HHV.out
  obtain ⟨ao, cp, rfl⟩ := own_shape ho
  have HB := hide hb
  have HOW := hide ho
  have HVB := hide hV
  clear hcn hkn hb ho gV hV hh h0 hk12
  simp only [List.length_nil] at *
  go_enter Try.func20, Try.ntmps20
  go_wp2
  refine wp_region_state 12 27 mixedR rfl (by decide +kernel) (fun L vals w' => byteJ V B b [] c (.slice ao 0 cp) (L 8) (vals 8) (L 9) (vals 9) w')
    (fun L vals h => ?_)
    (fun i v => match i with
      | 0 => v = .pointer (some ⟨b, 0, none⟩)
      | 1 => v = .pointer (some ⟨b, 0, none⟩)
      | 2 => v = .pointer (some ⟨b, 0, none⟩)
      | 3 => v = .pointer (some ⟨b, 0, none⟩)
      | 4 => v = .slice ao 0 cp
      | 5 => v = .pointer (some ⟨xb, 0, none⟩)
      | 6 => v = .int .i64 kn
      | 7 => v = .int .u8 (c.toNat : Int)
      | 8 => True
      | 9 => ∃ ao' cp', v = .slice ao' 1 cp'
      | 10 => v = .pointer (some ⟨b, 0, none⟩)
      | _ => v = .pointer (some ⟨b, 0, none⟩))
    (fun _ _ => False) (fun _ _ _ _ h => h.elim) (fun i hi o ho a w2 L vals hLi hLc hLe hJ hoff hval hdep => ?_) (fun vals w2 L hL hJ hvals => ?_)
  · simp only [h]
    exact ⟨⟨rfl, rfl, rfl, Nat.le_refl _, fun _ _ _ => rfl, fun _ _ _ _ _ h _ => h⟩, hB, HB.out, fun _ => HOW.out, (fun h => by cases h), (fun h => by cases h)⟩
  · obtain ⟨hk, hB2, hblk, hown, hown1, hown2⟩ := id hJ
    obtain ⟨c0, z0⟩ := one_cell hblk
    obtain ⟨d0, d1, d2⟩ := three_of (hk.typed xb _ _ _ hxne HVB.out (by decide))
    match i, hi with
    | 0, _ =>
      obtain rfl := Option.some.inj ho
      have o0 := hoff 0 (by decide +kernel)
      simp at o0
      simp [opYields, go_sem, o0]
      exact hJ
    | 1, _ =>
      obtain rfl := Option.some.inj ho
      have o0 := hoff 0 (by decide +kernel)
      simp at o0
      simp [opYields, go_sem, o0]
      exact hJ
    | 2, _ =>
      obtain rfl := Option.some.inj ho
      have d1 := hdep 1 (by decide +kernel)
      simp [slotOf, dstOf] at d1
      simp [opYields, go_sem, d1]
      exact hJ
    | 3, _ =>
      obtain rfl := Option.some.inj ho
      have d2 := hdep 2 (by decide +kernel)
      simp [slotOf, dstOf] at d2
      simp [opYields, go_sem, d2]
      exact hJ
    | 4, _ =>
      obtain rfl := Option.some.inj ho
      have d3 := hdep 3 (by decide +kernel)
      simp [slotOf, dstOf] at d3
      simp [opYields, go_sem, d3, c0]
      exact hJ
    | 5, _ =>
      obtain rfl := Option.some.inj ho
      have o3 := hoff 3 (by decide +kernel)
      simp at o3
      simp [opYields, go_sem, o3]
      exact hJ
    | 6, _ =>
      obtain rfl := Option.some.inj ho
      have d5 := hdep 5 (by decide +kernel)
      simp [slotOf, dstOf] at d5
      simp [opYields, go_sem, d5, d0]
      exact hJ
    | 7, _ =>
      obtain rfl := Option.some.inj ho
      have d6 := hdep 6 (by decide +kernel)
      simp [slotOf, dstOf] at d6
      simp [opYields, go_sem, d6]
      exact ⟨hJ, by rw [← HCN.out]; rcases hkn2 with rfl | rfl <;> rfl⟩
    | 8, _ =>
      have h9 : L 9 = false := by
        cases h : L 9 with
        | false => rfl
        | true => have := hLc 9 h 8 (by decide +kernel); rw [hLi] at this; cases this
      obtain rfl := Option.some.inj ho
      have d7 := hdep 7 (by decide +kernel)
      simp [slotOf, dstOf] at d7
      rw [hLi, h9] at hJ
      simp [opYields, go_sem, d7, h9]
      exact hJ.lay rfl _
    | 9, _ =>
      have h8 := hLe 8 (by decide +kernel)
      obtain rfl := Option.some.inj ho
      have d4 := hdep 4 (by decide +kernel)
      have d8 := hval 8 (by decide +kernel)
      simp [slotOf, dstOf] at d4 d8
      rw [hLi, h8] at hJ
      obtain ⟨ao', cp', w3, hrun, hJ3⟩ := byteJ.append (l := []) hJ (by simp) 45
      refine yields_append rfl (.tmp 8) (.tmp 12) _ _ rfl (v1 := .slice ao 0 cp) (v2 := vals 8) (by simpa [Act.eval] using d4) (by simpa [Act.eval] using d8) hrun ?_
      simp only [h8]
      exact ⟨hJ3 _, ao', cp', rfl⟩
    | 10, _ =>
      obtain rfl := Option.some.inj ho
      have d0 := hdep 0 (by decide +kernel)
      simp [slotOf, dstOf] at d0
      simp [opYields, go_sem, d0]
      exact hJ
    | 11, _ =>
      obtain rfl := Option.some.inj ho
      have d10 := hdep 10 (by decide +kernel)
      simp [slotOf, dstOf] at d10
      simp [opYields, go_sem, d10]
      exact hJ
    | k + 12, h => exact absurd h (by omega)
  · have h8 := hL 8 (by omega)
    have h9 := hL 9 (by omega)
    rw [h8, h9] at hJ
    obtain ⟨ao', cp', v9⟩ := hvals 9 (by omega)
    have v11 := hvals 11 (by omega)
    simp only at v11
    have hP := hJ.put
    obtain ⟨hk, hB2, hblk, _, _, hown2⟩ := id hJ
    rw [v9] at hP
    have HP := hide hP
    clear hvals hP hJ hown2
    obtain ⟨c0, z0⟩ := one_cell hblk
    have HVP := hide (HP.out.1.typed xb _ _ _ hxne HVB.out (by decide))
    have HKP := hide (HKV.out.trans HP.out.1)
    have HRP := hide (HRR.out.keep (HKP.out.below hA hAb))
    have HPP2 := hide (HPP.out.keep (HKP.out.below hA hAb))
    simp [over, dstOf, Act.put, v9, v11]
    obtain ⟨Y, HY⟩ : ∃ Y, Hid (Y = w2.setCell ⟨b, 0, none⟩ (.slice ao' 1 cp')) := ⟨_, hide rfl⟩
    have hYset := HY.out.symm
    rw [hYset] at HVP HKP HRP HPP2 HP
    obtain ⟨d0, d1, d2⟩ := three_of HVP.out
    have HHP := hide HP.out.2.2
    simp only [List.nil_append] at HHP
    rcases hkn2 with rfl | rfl
    · have HW1 := hide (refs_w Y A B b _ [c] r.refs hA hAb HHP.out (by simp) HRP.out (by omega) HRE.out)
      rw [if_pos rfl] at HPK
      go_wp2_with fail
      refine HW1.out.mono ?_
      rintro e w5 ⟨hk5, rfl, hh5⟩
      go_wp2
      go_end0
      exact ⟨HKP.out.trans hk5, rfl, by rw [HPK.out]; exact hh5⟩
    · have HW1 := hide (points_w Y A B b _ [c] r.points hA hAb HHP.out (by simp) HPP2.out (by omega) HPE.out HBI.out)
      rw [if_neg (by decide)] at HPK
      go_wp2_with fail
      refine HW1.out.mono ?_
      rintro e w5 ⟨hk5, rfl, hh5⟩
      go_wp2
      go_end0
      exact ⟨HKP.out.trans hk5, rfl, by rw [HPK.out]; exact hh5⟩
end Go.Proofs.Ytnlkfehnmijimaa.Rc
