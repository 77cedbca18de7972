/- take: Check of a store. -/
import Derived.Laws.OwnMore
import Derived.Test.YtmdakfmecfcbhaaGreatProg
import Derived.Test.YtmdakfmecfcbhaaGreatKit
import Derived.Test.YtmdakfmecfcbhaaGreatReg
import Derived.Test.YtmdakfmecfcbhaaGreatLSpec
import Derived.Test.YtmdakfmecfcbhaaGreatLRow
import Derived.Test.YtmdakfmecfcbhaaGreatLChk
import Derived.Test.YtmdakfmecfcbhaaGreatLTwi
import Derived.Test.YtmdakfmecfcbhaaGreatLCmp
import Derived.Test.YtmdakfmecfcbhaaGreatTkA
import Derived.Test.YtmdakfmecfcbhaaGreatTkB
import Derived.BigQuiet
set_option linter.unusedVariables false
set_option linter.unusedSimpArgs false
namespace Go.Proofs.YtmdakfmecfcbhaaGreat.Tk
open Go.RowKit Lb
attribute [local go_sem] bs_size bs_toList bs_append bs_get bs_extract

theorem riseS_yes {l : List Ser} (h : ∀ j (hj : j + 1 < l.length), ordB l[j].1 l[j + 1].1 < 0) : riseS l = true :=
  adj_iff.2 fun i hi => decide_eq_true (h i hi)
theorem riseS_no {l : List Ser} {j : Nat} (hj : j + 1 < l.length) (h : ¬ ordB l[j].1 l[j + 1].1 < 0) : riseS l = false := by
  cases hr : riseS l with
  | false => rfl
  | true => exact absurd (of_decide_eq_true (adj_iff.1 hr j hj)) h
set_option maxRecDepth 20000 in
set_option maxHeartbeats 2000000 in
theorem riseSer_any (w : World) (v : Value) (l : List Ser) (hv : readsSer w w.heap.size v l) (hl : l.length ≤ 500) (hr : ∀ x ∈ l, checkB x.1 = 0) :
    Calls Tryz.prog 24 #[v] w fun e w' => e = .returned (.bool (riseS l)) ∧ Grow w w' := by
  obtain ⟨ao, cp, rfl, -, hcells⟩ := id hv
  have HV := hide hv
  have HR := hide hr
  clear hv hr
  go_enter Tryz.func24, Tryz.ntmps24
  go_wp2
  go_loopw [3] (fun iv wr => ∃ k : Nat, 1 ≤ k ∧ k ≤ l.length + 1 ∧ iv = .int .i64 k ∧ Hid (Grow w wr) ∧ Hid (∀ j (hj : j + 1 < l.length), j + 1 < k → ordB l[j].1 l[j + 1].1 < 0)) (fun iv _ => l.length + 1 - (intOf iv).toNat)
  case atStart => exact ⟨1, by omega, by omega, rfl, hide (Grow.refl _), hide (fun j hj h => by omega)⟩
  case round =>
    obtain ⟨k, hk1n, hkk, rfl, HG, HD⟩ := hrel
    by_cases hlt : k < l.length
    · have hlti : (k : Int) < (l.length : Int) := by omega
      obtain ⟨rb, rf, xa, ya, rfl, hrB, ha, -, a0, -⟩ := hcells (k - 1) (by omega)
      obtain ⟨rb', rf', xb, yb, e, _, hb, -, b0, -⟩ := hcells k hlt
      cases e
      have HA := hide ha
      have HB := hide hb
      have HA0 := hide a0
      have HB0 := hide b0
      have hk1 : (1 : Int) ≤ (k : Int) := by omega
      have hk3 : ((k : Int) - 1) < (l.length : Int) := by omega
      have hk4 : (0 : Int) ≤ (k : Int) - 1 := by omega
      have hk5 : ((k : Int) - 1).toNat = k - 1 := by omega
      obtain ⟨O, HO⟩ : ∃ O, Hid (ordB (l[k - 1]'(by omega)).1 l[k].1 = O) := ⟨_, hide rfl⟩
      have HCM : Hid (∀ W', Grow wr W' → Calls Tryz.prog 53 #[xa, xb] W' fun e w' => e = .returned (.int .i64 O) ∧ Grow W' w') := hide fun W' g => by
        have gw := HG.out.trans g
        have := tcmp_any W' xa xb _ _ (readsLabels_mono (readsLabels_below HA.out gw) gw.size) (readsLabels_mono (readsLabels_below HB.out gw) gw.size) (HR.out _ (List.getElem_mem (by omega))) (HR.out _ (List.getElem_mem hlt))
        rw [HO.out] at this
        exact this
      obtain ⟨xo, xc, hxa⟩ := readsLabels_len ha
      obtain ⟨yo, yc, hxb⟩ := readsLabels_len hb
      obtain ⟨F, HF⟩ : ∃ F, Hid (decide (0 ≤ O) = F) := ⟨_, hide rfl⟩
      generalize (l[k - 1]'(by omega)).1.length = n1 at hxa
      generalize l[k].1.length = n2 at hxb
      clear ha hb a0 b0 hcells
      go_wp2
      refine wp_region_free 13 23 mixedT rfl (by decide +kernel) Grow (fun _ _ _ => Grow.trans) (Grow.refl _)
        (fun i v _ => match i with
          | 0 => v = .slice (some ⟨rb, rf, none⟩) l.length cp
          | 1 => v = .int .i64 k
          | 2 => v = .int .i64 ((k : Int) - 1)
          | 3 => v = .pointer (some ⟨rb, rf + (k - 1) * 2, none⟩)
          | 4 => v = .pointer (some ⟨rb, rf + (k - 1) * 2, none⟩)
          | 5 => v = xa
          | 6 => v = .slice (some ⟨rb, rf, none⟩) l.length cp
          | 7 => v = .int .i64 k
          | 8 => v = .pointer (some ⟨rb, rf + k * 2, none⟩)
          | 9 => v = .pointer (some ⟨rb, rf + k * 2, none⟩)
          | 10 => v = xb
          | 11 => v = .int .i64 O
          | _ => v = .bool F)
        (fun i v w w' h hg => h) (fun _ _ => False) (fun _ _ _ _ h => h.elim) (fun i hi o ho a w2 hG hoff hdep => ?_) (fun vals w2 hG hvals => ?_)
      · have hb5 : Grow wr w2 := hG.undrew
        have hg5 : Grow w w2 := HG.out.trans hb5
        have c0 := (hg5.cell (p := ⟨rb, rf + (k - 1) * 2, none⟩) hrB).trans HA0.out
        have c1 := (hg5.cell (p := ⟨rb, rf + k * 2, none⟩) hrB).trans HB0.out
        subst hxa hxb
        have hlti2 := hlti
        match i, hi with
        | 0, _ =>
          obtain rfl := Option.some.inj ho
          have o0 := hoff 0 (by decide +kernel)
          simp at o0
          simp [opYields, go_sem, o0]
          exact Grow.refl _
        | 1, _ =>
          obtain rfl := Option.some.inj ho
          have o3 := hoff 3 (by decide +kernel)
          simp at o3
          simp [opYields, go_sem, o3]
          exact Grow.refl _
        | 2, _ =>
          obtain rfl := Option.some.inj ho
          have d1 := hdep 1 (by decide +kernel)
          simp [slotOf, dstOf] at d1
          simp [opYields, go_sem, d1]
          exact ⟨Grow.refl _, by first|omega|(rw [IntKind.wrap_i64]; omega)⟩
        | 3, _ =>
          obtain rfl := Option.some.inj ho
          have d0 := hdep 0 (by decide +kernel)
          simp [slotOf, dstOf] at d0
          have d2 := hdep 2 (by decide +kernel)
          simp [slotOf, dstOf] at d2
          simp [opYields, go_sem, d0, d2, hk3, hk4, hk5, hk1]
          exact Grow.refl _
        | 4, _ =>
          obtain rfl := Option.some.inj ho
          have d3 := hdep 3 (by decide +kernel)
          simp [slotOf, dstOf] at d3
          simp [opYields, go_sem, d3]
          exact Grow.refl _
        | 5, _ =>
          obtain rfl := Option.some.inj ho
          have d4 := hdep 4 (by decide +kernel)
          simp [slotOf, dstOf] at d4
          simp [opYields, go_sem, d4, c0]
          exact Grow.refl _
        | 6, _ =>
          obtain rfl := Option.some.inj ho
          have o0 := hoff 0 (by decide +kernel)
          simp at o0
          simp [opYields, go_sem, o0]
          exact Grow.refl _
        | 7, _ =>
          obtain rfl := Option.some.inj ho
          have o3 := hoff 3 (by decide +kernel)
          simp at o3
          simp [opYields, go_sem, o3]
          exact Grow.refl _
        | 8, _ =>
          obtain rfl := Option.some.inj ho
          have d6 := hdep 6 (by decide +kernel)
          simp [slotOf, dstOf] at d6
          have d7 := hdep 7 (by decide +kernel)
          simp [slotOf, dstOf] at d7
          simp [opYields, go_sem, d6, d7, hlti, hlt]
          exact Grow.refl _
        | 9, _ =>
          obtain rfl := Option.some.inj ho
          have d8 := hdep 8 (by decide +kernel)
          simp [slotOf, dstOf] at d8
          simp [opYields, go_sem, d8]
          exact Grow.refl _
        | 10, _ =>
          obtain rfl := Option.some.inj ho
          have d9 := hdep 9 (by decide +kernel)
          simp [slotOf, dstOf] at d9
          simp [opYields, go_sem, d9, c1]
          exact Grow.refl _
        | 11, _ =>
          obtain rfl := Option.some.inj ho
          have d5 := hdep 5 (by decide +kernel)
          simp [slotOf, dstOf] at d5
          have d10 := hdep 10 (by decide +kernel)
          simp [slotOf, dstOf] at d10
          simp [opYields, go_sem, d5, d10]
          refine (HCM.out w2 hb5).mono ?_
          rintro e w3 ⟨rfl, hb⟩
          exact ⟨hb, rfl⟩
        | 12, _ =>
          obtain rfl := Option.some.inj ho
          have d11 := hdep 11 (by decide +kernel)
          simp [slotOf, dstOf] at d11
          simp [opYields, go_sem, d11]
          exact ⟨Grow.refl _, HF.out⟩
        | k + 13, h => exact absurd h (by omega)
      · have v12 := hvals 12 (by omega)
        simp only at v12
        have HG6 : Hid (Grow w w2) := hide (HG.out.trans hG.undrew)
        clear hvals hG
        simp [over, dstOf, Act.put, v12]
        cases F with
        | true =>
          have h0 := of_decide_eq_true HF.out
          have hfalse : riseS l = false := by
            refine riseS_no (j := k - 1) (by omega) ?_
            have e : l[k - 1 + 1]'(by omega) = l[k] := by congr 1; omega
            simp only [e]
            rw [HO.out]
            omega
          have HFA := hide hfalse
          clear h0 hfalse
          go_wp2
          go_ret
          exact ⟨ret_bool (by rw [HFA.out]), HG6.out⟩
        | false =>
          have h0 := of_decide_eq_false HF.out
          have H0 : Hid (O < 0) := hide (by omega)
          clear h0
          go_wp2
          go_roundw
          case rel => exact ⟨k + 1, by omega, by omega, by go_num, HG6, hide (fun j hj hjk => by
            by_cases e : j + 1 = k
            · subst e
              have := HO.out
              simp only [Nat.add_sub_cancel] at this
              rw [this]
              exact H0.out
            · exact HD.out j hj (by omega))⟩
          case measure => simp [intOf]; omega
    · have HRS : Hid (riseS l = true) := hide (riseS_yes fun j hj => HD.out j hj (by omega))
      go_wp2
      go_ret
      exact ⟨ret_bool (by rw [HRS.out]), HG.out⟩
theorem serErr_labels {x : Ser} (h : serErr x = 0) : checkB x.1 = 0 ∧ 0 < x.2.length ∧ (∀ p ∈ x.2, timeB p.1 = true) ∧ riseT x.2 = true := by
  unfold serErr at h
  by_cases h0 : checkB x.1 = 0
  · rw [if_neg (by omega)] at h
    by_cases h1 : x.2.length = 0 ∨ x.2.any (fun p => !timeB p.1) = true
    · rw [if_pos h1] at h; cases h
    · rw [if_neg h1] at h
      refine ⟨h0, ?_, fun p hp => ?_, ?_⟩
      · rcases Nat.eq_zero_or_pos x.2.length with e | e
        · exact absurd (.inl e) h1
        · exact e
      · cases ht : timeB p.1 with
        | true => rfl
        | false => exact absurd (.inr (List.any_eq_true.2 ⟨p, hp, by rw [ht]; rfl⟩)) h1
      · cases hr : riseT x.2 with
        | true => rfl
        | false => rw [hr] at h; simp at h
  · rw [if_pos h0] at h; exact absurd h h0
set_option maxRecDepth 20000 in
set_option maxHeartbeats 2000000 in
theorem tcheck_any (w : World) (v : Value) (l : List Ser) (hv : readsSer w w.heap.size v l) (hok : okStore l) :
    Calls Tryz.prog 9 #[v] w fun e w' => e = .returned (.int .i64 (storeErr l)) ∧ Grow w w' := by
  obtain ⟨E, HE⟩ : ∃ E, Hid (storeErr l = E) := ⟨_, hide rfl⟩
  rw [HE.out]
  have HE1 : Hid ((if manyB l = true then 2 else if firstE serErr l ≠ 0 then firstE serErr l else if riseS l = true then 0 else 4) = E) := HE
  clear HE
  obtain ⟨hl, hx⟩ := hok
  have HX := hide hx
  have HTM := hide (tooMany_any w v l hv hl)
  obtain ⟨M, HM⟩ : ∃ M, Hid (manyB l = M) := ⟨_, hide rfl⟩
  rw [HM.out] at HTM HE1
  obtain ⟨ao, cp, hvv, -, hcells⟩ := id hv
  subst hvv
  have HV := hide hv
  clear hv hx
  go_enter Tryz.func9, Tryz.ntmps9
  go_wp2_with fail
  refine HTM.out.mono ?_
  rintro e w1 ⟨rfl, hg1⟩
  have HG1 : Hid (Grow w w1) := hide hg1
  clear hg1 HTM
  cases M with
  | true =>
    rw [if_pos rfl] at HE1
    go_wp2
    go_ret
    exact ⟨ret_int (by rw [← HE1.out]; rfl), HG1.out⟩
  | false =>
    rw [if_neg (by simp)] at HE1
    have hl5 : l.length ≤ 500 := by
      have := HM.out
      unfold manyB at this
      simp only [Bool.or_eq_false_iff, decide_eq_false_iff_not] at this
      omega
    go_wp2
    go_loopw [10] (fun iv wr => ∃ k : Nat, k ≤ l.length ∧ iv = .int .i64 k ∧ Hid (Grow w wr) ∧ Hid (∀ j (hj : j < l.length), j < k → serErr l[j] = 0)) (fun iv _ => l.length - (intOf iv).toNat)
    case atStart => exact ⟨0, by omega, rfl, HG1, hide (fun j hj h => by omega)⟩
    case round =>
      obtain ⟨k, hkk, rfl, HGr, HD⟩ := hrel
      by_cases hlt : k < l.length
      · have hlti : (k : Int) < (l.length : Int) := by omega
        obtain ⟨rb, rf, xa, ya, rfl, hrB, ha, hs, a0, a1⟩ := hcells k hlt
        have c0 := (HGr.out.cell (p := ⟨rb, rf + k * 2, none⟩) hrB).trans a0
        have c1 := (HGr.out.cell (p := ⟨rb, rf + k * 2 + 1, none⟩) hrB).trans a1
        obtain ⟨xo, xc, hxa⟩ := readsLabels_len ha
        obtain ⟨yo, yc, hya, -⟩ := readsSam_len hs
        obtain ⟨V, eV, gV, hV⟩ := laid_at wr #[xa, ya] 41
        have hgV : Grow w V := HGr.out.trans gV
        have HCK := hide (checkSer_any V xa ya l[k] (readsLabels_mono (readsLabels_below ha hgV) hgV.size) ((hs.keep hgV).more hgV.size) (HX.out _ (List.getElem_mem hlt)))
        obtain ⟨P, HP⟩ : ∃ P, Hid (serErr l[k] = P) := ⟨_, hide rfl⟩
        rw [HP.out] at HCK
        obtain ⟨d0, d1⟩ := two_cells hV
        have HVV := hide hV
        have HGV := hide hgV
        have HEK : Hid (P ≠ 0 → P = E) := hide fun hne => by
          have h1 := firstE_at (f := serErr) hlt HD.out (by rw [HP.out]; exact hne)
          rw [HP.out] at h1
          rw [← HE1.out, h1, if_pos hne]
        subst hxa hya
        generalize l[k].1.length = n1 at *
        generalize l[k].2.length = n2 at *
        clear ha hs a0 a1 hcells gV hV hgV
        go_wp2_with fail
        refine HCK.out.mono ?_
        rintro e w3 ⟨rfl, hg3⟩
        have HG3 : Hid (Grow w w3) := hide (HGV.out.trans hg3)
        clear hg3 HCK c0 c1 d0 d1 eV
        by_cases hP : P = 0
        · have hz : ((P : Int) != 0) = false := by simp [hP]
          have HP0 := hide hP
          clear hP
          go_wp2
          go_roundw
          case rel => exact ⟨k + 1, by omega, by go_num, HG3, hide (fun j hj hjk => by
            by_cases e : j = k
            · subst e; rw [HP.out]; exact HP0.out
            · exact HD.out j hj (by omega))⟩
          case measure => simp [intOf]; omega
        · have hz : ((P : Int) != 0) = true := by simp; exact hP
          have HE2 := hide (HEK.out hP)
          clear hP
          go_wp2
          go_ret
          exact ⟨ret_int (by rw [← HE2.out]), HG3.out⟩
      · obtain rfl : k = l.length := by omega
        have h0 : ∀ j (hj : j < l.length), serErr l[j] = 0 := fun j hj => HD.out j hj hj
        rw [if_neg (by have := firstE_zero (f := serErr) h0; omega)] at HE1
        have HRI := hide (riseSer_any wr (.slice ao l.length cp) l ((HV.out.keep HGr.out).more HGr.out.size) hl5 (fun x hx => by
          obtain ⟨i, hi, rfl⟩ := List.getElem_of_mem hx
          exact (serErr_labels (h0 i hi)).1))
        obtain ⟨R, HR⟩ : ∃ R, Hid (riseS l = R) := ⟨_, hide rfl⟩
        rw [HR.out] at HRI HE1
        clear h0 hcells
        go_wp2_with fail
        refine HRI.out.mono ?_
        rintro e w3 ⟨rfl, hg3⟩
        have HG3 : Hid (Grow w w3) := hide (HGr.out.trans hg3)
        clear hg3 HRI
        cases R with
        | true =>
          rw [if_pos rfl] at HE1
          go_wp2
          go_ret
          exact ⟨ret_int (by rw [← HE1.out]; rfl), HG3.out⟩
        | false =>
          rw [if_neg (by simp)] at HE1
          go_wp2
          go_ret
          exact ⟨ret_int (by rw [← HE1.out]; rfl), HG3.out⟩
end Go.Proofs.YtmdakfmecfcbhaaGreat.Tk
