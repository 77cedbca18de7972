/- take: the reference's CheckStore. -/
import Derived.Laws.OwnMore
import Derived.Test.YtmdakfmecfcbhaaGreatProg
import Derived.Test.YtmdakfmecfcbhaaGreatKit
import Derived.Test.YtmdakfmecfcbhaaGreatReg
import Derived.Test.YtmdakfmecfcbhaaGreatLSpec
import Derived.Test.YtmdakfmecfcbhaaGreatLRow
import Derived.Test.YtmdakfmecfcbhaaGreatLRefA
import Derived.Test.YtmdakfmecfcbhaaGreatLRefB
import Derived.Test.YtmdakfmecfcbhaaGreatTkA
import Derived.Test.YtmdakfmecfcbhaaGreatTkB
import Derived.Test.YtmdakfmecfcbhaaGreatTkC
import Derived.BigQuiet
set_option linter.unusedVariables false
set_option linter.unusedSimpArgs false
namespace Go.Proofs.YtmdakfmecfcbhaaGreat.Tk
open Go.RowKit Lb
attribute [local go_sem] bs_size bs_toList bs_append bs_get bs_extract

theorem rIsTime_any (n : Int) (w : World) : Calls Tryz.prog 26 #[.int .i64 n] w fun e w' => e = .returned (.bool (timeB n)) ∧ w' = w := by
  unfold timeB
  by_cases h1 : -9007199254740991 ≤ n
  · rw [decide_eq_true h1]
    go_enter Tryz.func26, Tryz.ntmps26
    go_wp2
    go_ret
    exact ⟨ret_bool (by simp), rfl⟩
  · rw [decide_eq_false h1]
    have h2 := decide_eq_false h1
    go_enter Tryz.func26, Tryz.ntmps26
    go_wp2
    go_ret
    exact ⟨ret_bool (by simp), rfl⟩
set_option maxRecDepth 20000 in
set_option maxHeartbeats 1000000 in
theorem rGreat_any (w : World) (v : Value) (l : List Ser) (hv : readsSer w w.heap.size v l) (hl : l.length ≤ 9223372036854775807) :
    Calls Tryz.prog 25 #[v] w fun e w' => e = .returned (.bool (manyB l)) ∧ w' = w := by
  obtain ⟨ao, cp, rfl, -, hcells⟩ := hv
  go_enter Tryz.func25, Tryz.ntmps25
  go_wp2
  go_loop [3] (fun iv => ∃ k : Nat, k ≤ l.length ∧ iv = .int .i64 k ∧ Hid (∀ j (hj : j < l.length), j < k → muchB l[j] = false)) (fun iv => l.length - (intOf iv).toNat)
  case atStart => exact ⟨0, by omega, rfl, hide (fun j hj h => by omega)⟩
  case round =>
    obtain ⟨k, hk, rfl, HN⟩ := hrel
    by_cases hlt : k < l.length
    · have hlti : (k : Int) < (l.length : Int) := by omega
      obtain ⟨b, o, x, y, rfl, hb, hx, hy, c0, c1⟩ := hcells k hlt
      obtain ⟨yo, yc, hyy, -⟩ := readsSam_len hy
      obtain ⟨xo, xc, hxx⟩ := readsLabels_len hx
      subst hxx hyy
      obtain ⟨F, HF⟩ : ∃ F, Hid (muchB l[k] = F) := ⟨_, hide rfl⟩
      have HF1 : Hid (decide (5000 < l[k].2.length) = F) := HF
      generalize l[k].2.length = n2 at c1 HF1
      clear hx hy hcells
      cases F with
      | true =>
        have h5 : (5000 : Int) < (n2 : Int) := by have := of_decide_eq_true HF1.out; omega
        have HM : Hid (manyB l = true) := hide (by unfold manyB; rw [List.any_eq_true.2 ⟨_, List.getElem_mem hlt, HF.out⟩, Bool.or_true])
        go_wp2
        go_ret
        exact ⟨ret_bool (by rw [HM.out]), rfl⟩
      | false =>
        have h5 : ¬ (5000 : Int) < (n2 : Int) := by have := of_decide_eq_false HF1.out; omega
        go_wp2
        go_round
        case rel => exact ⟨k + 1, by omega, by go_num, hide (fun j hj h => by
          by_cases e : j = k
          · subst e; exact HF.out
          · exact HN.out j hj (by omega))⟩
        case measure => simp [intOf]; omega
    · obtain rfl : k = l.length := by omega
      have HA : Hid (l.any muchB = false) := hide (by
        rw [List.any_eq_false]
        intro x hx
        obtain ⟨i, hi, rfl⟩ := List.getElem_of_mem hx
        simpa using HN.out i hi hi)
      by_cases h5 : 500 < l.length
      · have h5i : (500 : Int) < (l.length : Int) := by omega
        have HM : Hid (manyB l = true) := hide (by unfold manyB; rw [decide_eq_true h5]; rfl)
        go_wp2
        go_ret
        exact ⟨ret_bool (by rw [HM.out]), rfl⟩
      · have h5i : ¬ (500 : Int) < (l.length : Int) := by omega
        have HM : Hid (manyB l = false) := hide (by unfold manyB; rw [decide_eq_false h5, HA.out]; rfl)
        go_wp2
        go_ret
        exact ⟨ret_bool (by rw [HM.out]), rfl⟩
theorem serErr_three {x : Ser} (h0 : checkB x.1 = 0) (h : x.2.length = 0 ∨ ∃ p ∈ x.2, timeB p.1 = false) : serErr x = 3 := by
  unfold serErr
  rw [if_neg (by omega), if_pos]
  rcases h with h | ⟨p, hp, ht⟩
  · exact .inl h
  · exact .inr (List.any_eq_true.2 ⟨p, hp, by rw [ht]; rfl⟩)
theorem serErr_rise {x : Ser} (h0 : checkB x.1 = 0) (h1 : x.2.length ≠ 0) (h2 : ∀ p ∈ x.2, timeB p.1 = true) : serErr x = if riseT x.2 = true then 0 else 4 := by
  unfold serErr
  rw [if_neg (by omega), if_neg]
  rintro (h | h)
  · exact h1 h
  · obtain ⟨p, hp, ht⟩ := List.any_eq_true.1 h
    rw [h2 p hp] at ht
    cases ht
set_option maxRecDepth 20000 in
set_option maxHeartbeats 4000000 in
theorem rStore_any (w : World) (v : Value) (l : List Ser) (hv : readsSer w w.heap.size v l) (hok : okStore l) :
    Calls Tryz.prog 10 #[v] w fun e w' => e = .returned (.int .i64 (storeErr l)) ∧ Grow w w' := by
  obtain ⟨E, HE⟩ : ∃ E, Hid (storeErr l = E) := ⟨_, hide rfl⟩
  rw [HE.out]
  have HE1 : Hid ((if manyB l = true then 2 else if firstE serErr l ≠ 0 then firstE serErr l else if riseS l = true then 0 else 4) = E) := HE
  clear HE
  obtain ⟨hl, hx⟩ := hok
  have HX := hide hx
  have HTM := hide (rGreat_any w v l hv hl)
  obtain ⟨M, HM⟩ : ∃ M, Hid (manyB l = M) := ⟨_, hide rfl⟩
  rw [HM.out] at HTM HE1
  obtain ⟨ao, cp, hvv, -, hcells⟩ := id hv
  subst hvv
  have HV := hide hv
  clear hv hx
  go_enter Tryz.func10, Tryz.ntmps10
  go_wp2_with fail
  refine HTM.out.mono ?_
  rintro e w1 ⟨rfl, rfl⟩
  clear HTM
  cases M with
  | true =>
    rw [if_pos rfl] at HE1
    go_wp2
    go_ret
    exact ⟨ret_int (by rw [← HE1.out]; rfl), Grow.refl _⟩
  | false =>
    rw [if_neg (by simp)] at HE1
    have hl5 : l.length ≤ 500 := by
      have := HM.out
      unfold manyB at this
      simp only [Bool.or_eq_false_iff, decide_eq_false_iff_not] at this
      omega
    go_wp2
    go_loopw [3] (fun iv wr => ∃ k : Nat, k ≤ l.length ∧ iv = .int .i64 k ∧ Hid (Grow w1 wr) ∧ Hid (∀ j (hj : j < l.length), j < k → serErr l[j] = 0)) (fun iv _ => l.length - (intOf iv).toNat)
    case atStart => exact ⟨0, by omega, rfl, hide (Grow.refl _), hide (fun j hj h => by omega)⟩
    case round =>
      obtain ⟨k, hkk, rfl, HGr, HD⟩ := hrel
      by_cases hlt : k < l.length
      · have hlti : (k : Int) < (l.length : Int) := by omega
        obtain ⟨rb, rf, xa, ya, rfl, hrB, ha, hs, a0, a1⟩ := hcells k hlt
        have c0 := (HGr.out.cell (p := ⟨rb, rf + k * 2, none⟩) hrB).trans a0
        have c1 := (HGr.out.cell (p := ⟨rb, rf + k * 2 + 1, none⟩) hrB).trans a1
        have HA1 := hide a1
        have hokx := HX.out _ (List.getElem_mem hlt)
        have HEK : Hid (serErr l[k] ≠ 0 → serErr l[k] = E) := hide fun hne => by
          have h1 := firstE_at (f := serErr) hlt HD.out hne
          rw [← HE1.out, h1, if_pos hne]
        have HXE : Hid (∀ P, serErr l[k] = P → P = 0 → ∀ j (hj : j < l.length), j < k + 1 → serErr l[j] = 0) := hide fun P h1 h2 j hj hjk => by
          by_cases e : j = k
          · subst e; rw [h1, h2]
          · exact HD.out j hj (by omega)
        obtain ⟨x, HXK⟩ : ∃ x : Ser, Hid (l[k] = x) := ⟨_, hide rfl⟩
        rw [HXK.out] at ha hs hokx HEK HXE
        obtain ⟨xo, xc, hxa⟩ := readsLabels_len ha
        obtain ⟨yo, yc, hya, -⟩ := readsSam_len hs
        have HCL := hide (rCheckLabels_any wr xa x.1 (readsLabels_mono (readsLabels_below ha HGr.out) HGr.out.size) hokx.1.1 hokx.1.2)
        obtain ⟨C, HC⟩ : ∃ C, Hid (checkB x.1 = C) := ⟨_, hide rfl⟩
        rw [HC.out] at HCL
        obtain ⟨m, HM2⟩ : ∃ m, Hid (x.2.length = m) := ⟨_, hide rfl⟩
        have hm7 : m ≤ 9223372036854775807 := by rw [← HM2.out]; exact hokx.2.1
        rw [HM2.out] at hya
        have HS := hide hs
        subst hxa hya
        generalize x.1.length = n1 at *
        clear ha hs a0 a1 hokx
        go_wp2_with fail
        refine HCL.out.mono ?_
        rintro e w3 ⟨rfl, q, hq⟩
        have HG3 : Hid (Grow w1 w3) := hide (HGr.out.trans (by rw [hq]; exact grow_drew _ _))
        clear hq HCL c0 c1
        have c1 := (HG3.out.cell (p := ⟨rb, rf + k * 2 + 1, none⟩) hrB).trans HA1.out
        by_cases hC : C = 0
        · have hz : ((C : Int) != 0) = false := by simp [hC]
          have HC0 : Hid (checkB x.1 = 0) := hide (HC.out.trans hC)
          clear hC
          by_cases hm0 : m = 0
          · have hm1 : ((m : Int) == 0) = true := by simp [hm0]
            have hE := serErr_three HC0.out (.inl (HM2.out.trans hm0))
            have HE3 := hide (HEK.out (by rw [hE]; decide))
            rw [hE] at HE3
            clear hE hm0
            go_wp2
            go_ret
            exact ⟨ret_int (by rw [← HE3.out]; rfl), HG3.out⟩
          · have hm1 : ((m : Int) == 0) = false := by rw [beq_eq_false_iff_ne]; omega
            go_wp2
            go_loopw [5] (fun jv wr => ∃ j : Nat, j ≤ m ∧ jv = .int .i64 j ∧ Hid (Grow w1 wr) ∧ Hid (∀ i (hi : i < x.2.length), i < j → timeB x.2[i].1 = true)) (fun jv _ => m - (intOf jv).toNat)
            case atStart => exact ⟨0, by omega, rfl, HG3, hide (fun i hi h => by omega)⟩
            case round =>
              clear c1
              obtain ⟨j, hjm, rfl, HGq, HT⟩ := hrel
              have c1 := (HGq.out.cell (p := ⟨rb, rf + k * 2 + 1, none⟩) hrB).trans HA1.out
              by_cases hj : j < m
              · have hji : (j : Int) < (m : Int) := by omega
                have hjx : j < x.2.length := by rw [HM2.out]; exact hj
                obtain ⟨sb, sf, hyo, d0⟩ : ∃ b' o, yo = some ⟨b', o, none⟩ ∧ wr.cell? ⟨b', o + j * 2, none⟩ = some (.int .i64 (x.2[j]'hjx).1) := by
                  obtain ⟨ao', cp', e, _, h⟩ := HS.out.keep HGq.out
                  cases e
                  obtain ⟨b', o, e, hB, q, _⟩ := h j hjx
                  exact ⟨b', o, e, q⟩
                subst hyo
                obtain ⟨t, HTT⟩ : ∃ t, Hid ((x.2[j]'hjx).1 = t) := ⟨_, hide rfl⟩
                have HIT := hide (rIsTime_any t wr)
                rw [HTT.out] at d0
                obtain ⟨B, HB⟩ : ∃ B, Hid (timeB t = B) := ⟨_, hide rfl⟩
                rw [HB.out] at HIT
                have HTB : Hid (timeB (x.2[j]'hjx).1 = B) := hide (by rw [HTT.out]; exact HB.out)

                cases B with
                | true =>
                  go_wp2_with fail
                  refine HIT.out.mono ?_
                  rintro e w4 ⟨rfl, rfl⟩
                  go_wp2
                  go_roundw
                  case rel => exact ⟨j + 1, by omega, by go_num, HGq, hide (fun i hi hij => by
                    by_cases e : i = j
                    · subst e; exact HTB.out
                    · exact HT.out i hi (by omega))⟩
                  case measure => simp [intOf]; omega
                | false =>
                  have hE := serErr_three HC0.out (.inr ⟨_, List.getElem_mem _, HTB.out⟩)
                  have HE3 := hide (HEK.out (by rw [hE]; decide))
                  rw [hE] at HE3
                  clear hE
                  go_wp2_with fail
                  refine HIT.out.mono ?_
                  rintro e w4 ⟨rfl, rfl⟩
                  go_wp2
                  go_ret
                  exact ⟨ret_int (by rw [← HE3.out]; rfl), HGq.out⟩
              · obtain rfl : j = m := by omega
                have HR : Hid (serErr x = if riseT x.2 = true then 0 else 4) := hide (serErr_rise HC0.out (by rw [HM2.out]; exact hm0) fun p hp => by
                  obtain ⟨i, hi, rfl⟩ := List.getElem_of_mem hp
                  exact HT.out i hi (by rw [← HM2.out]; exact hi))
                clear HT
                go_wp2
                go_loopw [6] (fun jv wr => ∃ i : Nat, 1 ≤ i ∧ i ≤ j + 1 ∧ jv = .int .i64 i ∧ Hid (Grow w1 wr) ∧ Hid (∀ q (hq : q < x.2.length), q < i → laterB (x.2.take q) x.2[q].1 = true)) (fun jv _ => j + 1 - (intOf jv).toNat)
                case atStart => exact ⟨1, by omega, by omega, rfl, HGq, hide (fun q hq h => by
                  obtain rfl : q = 0 := by omega
                  simp [laterB])⟩
                case round =>
                  clear c1
                  obtain ⟨i, hi1, hij, rfl, HGi, HL⟩ := hrel
                  have c1 := (HGi.out.cell (p := ⟨rb, rf + k * 2 + 1, none⟩) hrB).trans HA1.out
                  by_cases hi : i < j
                  · have hii : (i : Int) < (j : Int) := by omega
                    have hix : i < x.2.length := by rw [HM2.out]; exact hi
                    obtain ⟨sb, sf, hyo, d0, d1⟩ : ∃ b' o, yo = some ⟨b', o, none⟩ ∧ wr.cell? ⟨b', o + i * 2, none⟩ = some (.int .i64 (x.2[i]'hix).1) ∧ wr.cell? ⟨b', o + (i - 1) * 2, none⟩ = some (.int .i64 (x.2[i - 1]'(by omega)).1) := by
                      obtain ⟨ao', cp', e, _, h⟩ := HS.out.keep HGi.out
                      cases e
                      obtain ⟨b', o, e, hB, q, _⟩ := h i hix
                      obtain ⟨b2, o2, e2, hB, q2, _⟩ := h (i - 1) (by omega)
                      rw [e] at e2
                      cases e2
                      exact ⟨b', o, e, q, q2⟩
                    subst hyo
                    obtain ⟨t, HTT⟩ : ∃ t, Hid ((x.2[i]'hix).1 = t) := ⟨_, hide rfl⟩
                    obtain ⟨t0, HT0⟩ : ∃ t, Hid ((x.2[i - 1]'(by omega)).1 = t) := ⟨_, hide rfl⟩
                    rw [HTT.out] at d0
                    rw [HT0.out] at d1
                    have HLA : Hid (laterB (x.2.take i) (x.2[i]'hix).1 = decide (t0 < t)) := hide (by
                      rw [later_take hix, if_neg (by omega), HTT.out, HT0.out])
                    have hk1 : (1 : Int) ≤ (i : Int) := by omega
                    have hk3 : ((i : Int) - 1) < (j : Int) := by omega
                    have hk4 : (0 : Int) ≤ (i : Int) - 1 := by omega
                    have hk5 : ((i : Int) - 1).toNat = i - 1 := by omega
                    cases hB : decide (t ≤ t0) with
                    | true =>
                      have hle := of_decide_eq_true hB
                      have hno : riseT x.2 = false := riseT_no hix (by rw [HLA.out]; exact decide_eq_false (by omega))
                      rw [hno, if_neg (by simp)] at HR
                      have HE3 := hide (HEK.out (by rw [HR.out]; decide))
                      rw [HR.out] at HE3
                      clear hno hle
                      go_wp2
                      go_quiet (fail)
                      go_wp2
                      go_ret
                      exact ⟨ret_int (by rw [← HE3.out]; rfl), HGi.out.trans (grow_drew _ _)⟩
                    | false =>
                      have hle := of_decide_eq_false hB
                      have HLT : Hid (laterB (x.2.take i) (x.2[i]'hix).1 = true) := hide (by rw [HLA.out]; exact decide_eq_true (by omega))
                      clear hle
                      go_wp2
                      go_quiet (fail)
                      go_wp2
                      go_roundw
                      case rel => exact ⟨i + 1, by omega, by omega, by go_num, hide (HGi.out.trans (grow_drew _ _)), hide (fun q hq hqi => by
                        by_cases e : q = i
                        · subst e; exact HLT.out
                        · exact HL.out q hq (by omega))⟩
                      case measure => simp [intOf]; omega
                  · have HS0 : Hid (serErr x = 0) := hide (by
                      rw [HR.out, if_pos]
                      exact riseT_yes fun q hq => HL.out q hq (by have := HM2.out; omega))
                    go_wp2
                    go_roundw
                    case rel => exact ⟨k + 1, by omega, by go_num, HGi, hide (HXE.out _ HS0.out rfl)⟩
                    case measure => simp [intOf]; omega
        · have hz : ((C : Int) != 0) = true := by simp; exact hC
          have hE : serErr x = C := by unfold serErr; rw [if_pos (by rw [HC.out]; exact hC), HC.out]
          have HE3 := hide (HEK.out (by rw [hE]; exact hC))
          rw [hE] at HE3
          clear hE hC
          go_wp2
          go_ret
          exact ⟨ret_int (by rw [← HE3.out]), HG3.out⟩
      · obtain rfl : k = l.length := by omega
        have h0 : ∀ j (hj : j < l.length), serErr l[j] = 0 := fun j hj => HD.out j hj hj
        rw [if_neg (by have := firstE_zero (f := serErr) h0; omega)] at HE1
        have HLR : Hid (∀ i (hi : i < l.length), checkB l[i].1 = 0) := hide fun i hi => (serErr_labels (h0 i hi)).1
        clear h0
        go_wp2
        go_loopw [7] (fun jv wr => ∃ i : Nat, 1 ≤ i ∧ i ≤ l.length + 1 ∧ jv = .int .i64 i ∧ Hid (Grow w1 wr) ∧ Hid (∀ j (hj : j + 1 < l.length), j + 1 < i → ordB l[j].1 l[j + 1].1 < 0)) (fun jv _ => l.length + 1 - (intOf jv).toNat)
        case atStart => exact ⟨1, by omega, by omega, rfl, HGr, hide (fun j hj h => by omega)⟩
        case round =>
          obtain ⟨i, hi1, hil, rfl, HGi, HO⟩ := hrel
          by_cases hi : i < l.length
          · have hii : (i : Int) < (l.length : Int) := by omega
            obtain ⟨rb, rf, xa, ya, rfl, hrB, ha, -, a0, -⟩ := hcells (i - 1) (by omega)
            obtain ⟨rb', rf', xb, yb, e, _, hb, -, b0, -⟩ := hcells i hi
            cases e
            have c0 := (HGi.out.cell (p := ⟨rb, rf + (i - 1) * 2, none⟩) hrB).trans a0
            have c1 := (HGi.out.cell (p := ⟨rb, rf + i * 2, none⟩) hrB).trans b0
            have HA := hide ha
            have HB := hide hb
            obtain ⟨O, HOO⟩ : ∃ O, Hid (ordB (l[i - 1]'(by omega)).1 l[i].1 = O) := ⟨_, hide rfl⟩
            have HRO : Hid (∀ q, Calls Tryz.prog 27 #[xa, xb] (wr.drewN q) fun e w' => e = .returned (.int .i64 O) ∧ ∃ n, w' = (wr.drewN q).drewN n) := hide fun q => by
              have gw : Grow w1 (wr.drewN q) := HGi.out.trans (grow_drew _ _)
              have := rOrder_any (wr.drewN q) xa xb _ _ (readsLabels_mono (readsLabels_below HA.out gw) gw.size) (readsLabels_mono (readsLabels_below HB.out gw) gw.size) (right_lens (HLR.out (i - 1) (by omega))).1 (right_lens (HLR.out i hi)).1
              rw [HOO.out] at this
              exact this
            obtain ⟨xo, xc, hxa⟩ := readsLabels_len ha
            obtain ⟨yo, yc, hxb⟩ := readsLabels_len hb
            generalize (l[i - 1]'(by omega)).1.length = n1 at hxa
            generalize l[i].1.length = n2 at hxb
            subst hxa hxb
            have hk1 : (1 : Int) ≤ (i : Int) := by omega
            have hk3 : ((i : Int) - 1) < (l.length : Int) := by omega
            have hk4 : (0 : Int) ≤ (i : Int) - 1 := by omega
            have hk5 : ((i : Int) - 1).toNat = i - 1 := by omega
            clear ha hb a0 b0 hcells
            cases hF : decide (0 ≤ O) with
            | true =>
              have h0 := of_decide_eq_true hF
              have hfalse : riseS l = false := by
                refine riseS_no (j := i - 1) (by omega) ?_
                have e : l[i - 1 + 1]'(by omega) = l[i] := by congr 1; omega
                simp only [e]
                rw [HOO.out]
                omega
              rw [hfalse, if_neg (by simp)] at HE1
              clear h0 hfalse
              go_wp2
              go_quiet ((go_at_call 27; exact Calls.quiet_of (HRO.out _)))
              go_wp2
              go_ret
              exact ⟨ret_int (by rw [← HE1.out]; rfl), HGi.out.trans (grow_drew _ _)⟩
            | false =>
              have h0 := of_decide_eq_false hF
              have H0 : Hid (O < 0) := hide (by omega)
              clear h0
              go_wp2
              go_quiet ((go_at_call 27; exact Calls.quiet_of (HRO.out _)))
              go_wp2
              go_roundw
              case rel => exact ⟨i + 1, by omega, by omega, by go_num, hide (HGi.out.trans (grow_drew _ _)), hide (fun j hj hji => by
                by_cases e : j + 1 = i
                · subst e
                  have := HOO.out
                  simp only [Nat.add_sub_cancel] at this
                  rw [this]
                  exact H0.out
                · exact HO.out j hj (by omega))⟩
              case measure => simp [intOf]; omega
          · have hyes : riseS l = true := riseS_yes fun j hj => HO.out j hj (by omega)
            rw [if_pos hyes] at HE1
            clear hyes
            go_wp2
            go_ret
            exact ⟨ret_int (by rw [← HE1.out]; rfl), HGi.out⟩
end Go.Proofs.YtmdakfmecfcbhaaGreat.Tk
