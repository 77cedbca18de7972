/- record: the document's own check of what is known. -/
import Derived.Laws.OwnMore
import Derived.Test.YtnlkfehnmijimaaProg
import Derived.Test.YtnlkfehnmijimaaKit
import Derived.Test.YtnlkfehnmijimaaSpec
import Derived.Test.YtnlkfehnmijimaaReg
import Derived.Test.YtnlkfehnmijimaaLRow
import Derived.Test.YtnlkfehnmijimaaLRefA
import Derived.Test.YtnlkfehnmijimaaLRefB
import Derived.Test.YtnlkfehnmijimaaRcA
import Derived.Test.YtnlkfehnmijimaaRcM
import Derived.Test.YtnlkfehnmijimaaRcN
import Derived.Test.YtnlkfehnmijimaaRcP
import Derived.Test.YtnlkfehnmijimaaRcQ
import Derived.Test.YtnlkfehnmijimaaRcR
import Derived.Test.YtnlkfehnmijimaaRcZ
import Derived.Test.YtnlkfehnmijimaaRfK
import Derived.Test.YtnlkfehnmijimaaRgA
import Derived.Test.YtnlkfehnmijimaaRgC
import Derived.BigQuiet
set_option linter.unusedVariables false
set_option linter.unusedSimpArgs false
namespace Go.Proofs.Ytnlkfehnmijimaa.Rc
open Go.RowKit Lb
attribute [local go_sem] bs_size bs_toList bs_append bs_get bs_extract

set_option maxRecDepth 20000 in
set_option maxHeartbeats 4000000 in
theorem rCheckKnown_any (w : World) (vr vl vh : Value) (k : Knw) (hv : readsKnw w w.heap.size vr vl vh k) (hok : okKnw k) :
    Calls Try.prog 16 #[.agg #[vr, vl, vh]] w fun e w' => e = .returned (.int .i64 (knwErr k)) ∧ Grow w w' := by
  obtain ⟨E, HE⟩ : ∃ E, Hid (knwErr k = E) := ⟨_, hide rfl⟩
  have HE1 : Hid ((if k.lasts.length ≠ k.refs.length ∨ k.has.length ≠ k.refs.length then 1
    else if 1000 < k.refs.length then 2
    else if firstErr k k.refs.length ≠ 0 then firstErr k k.refs.length
    else if dupB k.refs = true then 6 else 0) = E) := HE
  rw [HE.out]
  clear HE
  obtain ⟨rs, ls, hs⟩ := k
  obtain ⟨hr, hl, hh⟩ := hv
  obtain ⟨n1, n2, n3, hro, hto⟩ := hok
  simp only at HE1 hr hl hh n1 n2 n3 hro hto
  obtain ⟨ro, rc, hvr, _⟩ := id hr
  subst hvr
  obtain ⟨lo, lc, hvl, _⟩ := id hl
  subst hvl
  obtain ⟨ho, hc, hvh, _⟩ := id hh
  subst hvh
  obtain ⟨W, eW, gW, hW⟩ := laid_at w #[.slice ro rs.length rc, .slice lo ls.length lc, .slice ho hs.length hc] 41
  obtain ⟨c0, c1, c2⟩ := three_of hW
  have HG := hide gW
  have HW := hide hW
  have HR := hide hr
  have HL := hide hl
  have HH := hide hh
  have HRO := hide hro
  have HTO := hide hto
  clear gW hW hr hl hh hro hto
  by_cases hA : ls.length ≠ rs.length
  · as_aux_lemma =>
      rw [if_pos (.inl hA)] at HE1
      have hA1 : ((ls.length : Int) != (rs.length : Int)) = true := by simp; omega
      clear hA
      go_enter Try.func16, Try.ntmps16
      go_wp2
      go_ret
      exact ⟨ret_int (by rw [← HE1.out]; rfl), HG.out⟩
  · by_cases hB : hs.length ≠ rs.length
    · as_aux_lemma =>
        rw [if_pos (.inr hB)] at HE1
        have hA1 : ((ls.length : Int) != (rs.length : Int)) = false := by simp; omega
        have hB1 : ((hs.length : Int) != (rs.length : Int)) = true := by simp; omega
        clear hA hB
        go_enter Try.func16, Try.ntmps16
        go_wp2
        go_ret
        exact ⟨ret_int (by rw [← HE1.out]; rfl), HG.out⟩
    · rw [if_neg (by omega)] at HE1
      have hln : ls.length = rs.length := by omega
      have hhn : hs.length = rs.length := by omega
      have hA1 : ((ls.length : Int) != (rs.length : Int)) = false := by simp; omega
      have hB1 : ((hs.length : Int) != (rs.length : Int)) = false := by simp; omega
      clear hA hB
      by_cases hM : 1000 < rs.length
      · as_aux_lemma =>
          rw [if_pos hM] at HE1
          have hM1 : decide ((1000 : Int) < (rs.length : Int)) = true := decide_eq_true (by omega)
          clear hM hln hhn
          go_enter Try.func16, Try.ntmps16
          go_wp2
          go_ret
          exact ⟨ret_int (by rw [← HE1.out]; rfl), HG.out⟩
      · rw [if_neg (by omega)] at HE1
        have hM1 : decide ((1000 : Int) < (rs.length : Int)) = false := decide_eq_false (by omega)
        have HLN := hide hln
        have HHN := hide hhn
        have hM3 : rs.length ≤ 1000 := by omega
        clear hM hln hhn
        go_enter Try.func16, Try.ntmps16
        go_wp2
        go_loopw [4, 5] (fun iv ev wr => ∃ k : Nat, k ≤ rs.length ∧ iv = .int .i64 k ∧ Hid (Grow W wr) ∧ Hid (∀ j, j < k → oneErr ⟨rs, ls, hs⟩ j = 0)) (fun iv _ _ => rs.length - (intOf iv).toNat)
        case atStart => exact ⟨0, by omega, rfl, hide (Grow.refl _), hide (fun j h => by omega)⟩
        case round =>
          clear c0 c1 c2
          obtain ⟨k, hkk, rfl, HGr, HD⟩ := hrel
          have HGwr : Hid (Grow w wr) := hide (HG.out.trans HGr.out)
          by_cases hlt : k < rs.length
          · have hlti : (k : Int) < (rs.length : Int) := by omega
            have hk6 : k - 1 < rs.length := Nat.lt_of_le_of_lt (Nat.sub_le _ _) hlt
            have hlk : k < ls.length := by rw [HLN.out]; exact hlt
            have hhk : k < hs.length := by rw [HHN.out]; exact hlt
            have hltl : (k : Int) < (ls.length : Int) := by omega
            have hlth : (k : Int) < (hs.length : Int) := by omega
            obtain ⟨rb, rf, vl, rfl, hrB, hls, c0, c1⟩ : ∃ b' o vl, ro = some ⟨b', o, none⟩ ∧ b' < w.heap.size ∧ readsLabels wr w.heap.size vl rs[k].2 ∧ wr.cell? ⟨b', o + k * 2, none⟩ = some (.int .i64 rs[k].1) ∧ wr.cell? ⟨b', o + k * 2 + 1, none⟩ = some vl := by
              obtain ⟨ao', cp', e, h⟩ := HR.out.keep HGwr.out
              cases e
              exact h k hlt
            obtain ⟨tb, tf, rfl, htB, t0⟩ : ∃ b' o, lo = some ⟨b', o, none⟩ ∧ b' < w.heap.size ∧ w.cell? ⟨b', o + k, none⟩ = some (.int .i64 ls[k]) := by
              obtain ⟨ao', cp', e, h⟩ := HL.out
              cases e
              exact h k hlk
            obtain ⟨bb, bf, rfl, hbB, f0⟩ : ∃ b' o, ho = some ⟨b', o, none⟩ ∧ b' < w.heap.size ∧ w.cell? ⟨b', o + k, none⟩ = some (.bool hs[k]) := by
              obtain ⟨ao', cp', e, h⟩ := HH.out
              cases e
              exact h k hhk
            have hok := HRO.out _ (List.getElem_mem hlt)
            have h1E := oneErr_is hlt HLN.out HHN.out
            obtain ⟨x, HX⟩ : ∃ x : RefL, Hid (rs[k] = x) := ⟨_, hide rfl⟩
            obtain ⟨t, HT⟩ : ∃ t : Int, Hid (ls[k] = t) := ⟨_, hide rfl⟩
            obtain ⟨b, HB⟩ : ∃ b : Bool, Hid (hs[k] = b) := ⟨_, hide rfl⟩
            have HO1 : Hid (oneErr ⟨rs, ls, hs⟩ k = if refErr x ≠ 0 then refErr x else if timeErr t ≠ 0 then 3 else if b = false ∧ t ≠ 0 then 1 else if 0 < k ∧ x.1 ≤ (rs[k - 1]'hk6).1 then 4 else 0) := hide (by rw [h1E, HX.out, HT.out, HB.out])
            have HEK : Hid (oneErr ⟨rs, ls, hs⟩ k ≠ 0 → oneErr ⟨rs, ls, hs⟩ k = E) := hide fun hne => by
              have := firstErr_at (n := rs.length) hlt HD.out hne
              rw [← HE1.out, if_pos (by rw [this]; exact hne), this]
            have hto := HTO.out _ (List.getElem_mem hlk)
            rw [HX.out] at hls hok
            rw [HT.out] at t0 hto
            rw [HB.out] at f0
            have HT0 : Hid (∀ W, Grow w W → W.cell? ⟨tb, tf + k, none⟩ = some (.int .i64 t)) := hide fun W g => (g.cell (p := ⟨tb, _, none⟩) htB).trans t0
            have HB0 : Hid (∀ W, Grow w W → W.cell? ⟨bb, bf + k, none⟩ = some (.bool b)) := hide fun W g => (g.cell (p := ⟨bb, _, none⟩) hbB).trans f0
            obtain ⟨xo, xc, rfl⟩ := readsLabels_len hls
            have HR0 : Hid (∀ W, Grow w W → W.cell? ⟨rb, rf + k * 2, none⟩ = some (.int .i64 x.1)) := hide fun W g => by
              obtain ⟨ao', cp', e, h⟩ := HR.out.keep g
              cases e
              obtain ⟨_, _, _, he, _, _, e0, _⟩ := h k hlt
              cases he
              rw [← HX.out]
              exact e0
            rw [HX.out] at c0
            have HC := hide (rCheckRef_any wr x (.slice xo x.2.length xc) (readsLabels_mono hls HGwr.out.size) hok)
            obtain ⟨P, HPE⟩ : ∃ P, Hid (refErr x = P) := ⟨_, hide rfl⟩
            rw [HPE.out] at HC HO1
            have HIT := hide (isTime_any t)
            obtain ⟨b0, b1, b2⟩ := three_of (HGr.out.get HW.out)
            clear hls hok h1E t0 f0
            go_wp2_with fail
            refine HC.out.mono ?_
            rintro e w5 ⟨rfl, hg5⟩
            have HG5 : Hid (Grow W w5) := hide (HGr.out.trans hg5)
            have HGw5 : Hid (Grow w w5) := hide (HG.out.trans HG5.out)
            clear hg5 HC b0 b1 b2 c0 c1
            obtain ⟨b0, b1, b2⟩ := three_of (HG5.out.get HW.out)
            have t0 := HT0.out w5 HGw5.out
            have f0 := HB0.out w5 HGw5.out
            have r0 := HR0.out w5 HGw5.out
            by_cases hP : P = 0
            · rw [if_neg (by omega)] at HO1
              have hP1 : ((P : Int) != 0) = false := by simp [hP]
              clear hP
              rcases timeErr_or t with hT | hT
              · rw [if_neg (by omega)] at HO1
                rw [hT, decide_eq_true rfl] at HIT
                clear hT
                by_cases hbt : b = false ∧ t ≠ 0
                · as_aux_lemma =>
                    rw [if_pos hbt] at HO1
                    obtain ⟨hb, ht⟩ := hbt
                    subst hb
                    have htn : (t != 0) = true := by simp; exact ht
                    have hEK := HEK.out (by rw [HO1.out]; decide)
                    rw [HO1.out] at hEK
                    have HE2 := hide hEK
                    clear ht hEK
                    go_wp2_with fail
                    refine (HIT.out w5).mono ?_
                    rintro e w5 ⟨rfl, hw6⟩
                    subst hw6
                    go_wp2
                    go_ret
                    exact ⟨ret_int (by rw [← HE2.out]; rfl), HGw5.out⟩
                · rw [if_neg hbt] at HO1
                  have hb2 : b = true ∨ (b = false ∧ t = 0) := by
                    cases b with
                    | true => exact .inl rfl
                    | false =>
                      by_cases ht : t = 0
                      · exact .inr ⟨rfl, ht⟩
                      · exact absurd ⟨rfl, ht⟩ hbt
                  clear hbt
                  rcases hb2 with rfl | ⟨rfl, rfl⟩
                  all_goals as_aux_lemma =>
                    go_wp2_with fail
                    refine (HIT.out w5).mono ?_
                    rintro e w5 ⟨rfl, hw6⟩
                    subst hw6
                    by_cases hk0 : 0 < k
                    · obtain ⟨e0, hk3, hk4, hk5⟩ : w5.cell? ⟨rb, rf + (k - 1) * 2, none⟩ = some (.int .i64 (rs[k - 1]'hk6).1) ∧ ((k : Int) - 1) < rs.length ∧ (0 : Int) ≤ (k : Int) - 1 ∧ ((k : Int) - 1).toNat = k - 1 := by
                        obtain ⟨ao', cp', e, h⟩ := HR.out.keep HGw5.out
                        cases e
                        obtain ⟨_, _, _, he, _, _, e0, _⟩ := h (k - 1) (by omega)
                        cases he
                        exact ⟨e0, by omega, by omega, by omega⟩
                      obtain ⟨y, HY⟩ : ∃ y : Int, Hid ((rs[k - 1]'hk6).1 = y) := ⟨_, hide rfl⟩
                      rw [HY.out] at e0 HO1
                      have hkd : decide (0 < k) = true := decide_eq_true hk0
                      by_cases hge : x.1 ≤ y
                      · rw [if_pos ⟨hk0, hge⟩] at HO1
                        have hEK := HEK.out (by rw [HO1.out]; decide)
                        rw [HO1.out] at hEK
                        have HE2 := hide hEK
                        have hged : decide (x.1 ≤ y) = true := decide_eq_true hge
                        clear hEK hk0 hge
                        go_wp2
                        go_quiet (fail)
                        go_wp2
                        go_ret
                        exact ⟨ret_int (by rw [← HE2.out]; rfl), HGw5.out.trans (grow_drewR _ _)⟩
                      · rw [if_neg (fun h => hge h.2)] at HO1
                        have hged : decide (x.1 ≤ y) = false := decide_eq_false hge
                        clear hk0 hge
                        go_wp2
                        go_quiet (fail)
                        go_wp2
                        go_roundw
                        case rel => exact ⟨k + 1, by omega, by go_num, hide (HG5.out.trans (grow_drewR _ _)), hide (fun j hj => by
                          by_cases e : j = k
                          · subst e; exact HO1.out
                          · exact HD.out j (by omega))⟩
                        case measure => simp [intOf]; omega
                    · rw [if_neg (fun h => hk0 h.1)] at HO1
                      have hkd : decide (0 < k) = false := decide_eq_false hk0
                      clear hk0
                      go_wp2
                      go_quiet (fail)
                      go_wp2
                      go_roundw
                      case rel => exact ⟨k + 1, by omega, by go_num, hide (HG5.out.trans (grow_drewR _ _)), hide (fun j hj => by
                        by_cases e : j = k
                        · subst e; exact HO1.out
                        · exact HD.out j (by omega))⟩
                      case measure => simp [intOf]; omega
              · rw [if_pos (by omega)] at HO1
                rw [hT, decide_eq_false (by decide)] at HIT
                have hEK := HEK.out (by rw [HO1.out]; decide)
                rw [HO1.out] at hEK
                have HE2 := hide hEK
                clear hT hEK
                go_wp2_with fail
                refine (HIT.out w5).mono ?_
                rintro e w5 ⟨rfl, hw6⟩
                subst hw6
                go_wp2
                go_ret
                exact ⟨ret_int (by rw [← HE2.out]; rfl), HGw5.out⟩
            · rw [if_pos hP] at HO1
              have hP1 : ((P : Int) != 0) = true := by simp; exact hP
              have hEK := HEK.out (by rw [HO1.out]; exact hP)
              rw [HO1.out] at hEK
              have HE2 := hide hEK
              clear hP hEK
              go_wp2
              go_ret
              exact ⟨ret_int (by rw [← HE2.out]), HGw5.out⟩
          · obtain rfl : k = rs.length := by omega
            have hF := firstErr_none HD.out
            rw [if_neg (by omega)] at HE1
            have HZ : Hid (∀ j (hj : j < rs.length), refErr rs[j] = 0) := hide fun j hj => by
              have := oneErr_ref (HD.out j hj)
              simpa [hj] using this
            clear HD hF
            obtain ⟨c0, c1, c2⟩ := three_of (HGr.out.get HW.out)
            go_wp2
            go_loopw [6, 7] (fun iv ev wr => ∃ k : Nat, k ≤ rs.length ∧ iv = .int .i64 k ∧ Hid (Grow W wr) ∧ Hid (∀ i j (hi : i < rs.length) (hj : j < rs.length), i < j → j < k → rs[i].2 ≠ rs[j].2)) (fun iv _ _ => rs.length - (intOf iv).toNat)
            case atStart => exact ⟨0, by omega, rfl, HGr, hide (fun _ _ _ _ _ h => by omega)⟩
            case round =>
              clear c0 c1 c2 HGr HGwr
              obtain ⟨k, hkk, rfl, HGr, HD⟩ := hrel
              by_cases hlt : k < rs.length
              · have hlti : (k : Int) < (rs.length : Int) := by omega
                go_wp2
                go_loopw [7] (fun jv wr => ∃ j : Nat, j ≤ k ∧ jv = .int .i64 j ∧ Hid (Grow W wr) ∧ Hid (∀ i (hi : i < rs.length), i < j → rs[i].2 ≠ rs[k].2)) (fun jv _ => k - (intOf jv).toNat)
                case atStart => exact ⟨0, by omega, rfl, HGr, hide (fun _ _ h => by omega)⟩
                case round =>
                  clear HGr
                  obtain ⟨j, hjk, rfl, HGr, HDJ⟩ := hrel
                  have HGwr : Hid (Grow w wr) := hide (HG.out.trans HGr.out)
                  by_cases hjl : j < k
                  · have hjli : (j : Int) < (k : Int) := by omega
                    have hjn : (j : Int) < (rs.length : Int) := by omega
                    have hjn2 : j < rs.length := by omega
                    obtain ⟨b0, b1, b2⟩ := three_of (HGr.out.get HW.out)
                    obtain ⟨rb, rf, vk, vj, rfl, hk1, hk2, hj1, hj2⟩ : ∃ b' o vk vj, ro = some ⟨b', o, none⟩ ∧ readsLabels wr w.heap.size vk rs[k].2 ∧ wr.cell? ⟨b', o + k * 2 + 1, none⟩ = some vk ∧ readsLabels wr w.heap.size vj rs[j].2 ∧ wr.cell? ⟨b', o + j * 2 + 1, none⟩ = some vj := by
                      obtain ⟨ao', cp', e, h⟩ := HR.out.keep HGwr.out
                      cases e
                      obtain ⟨b', o, vk, he, _, q1, _, q2⟩ := h k hlt
                      obtain ⟨_, _, vj, he2, _, q3, _, q4⟩ := h j hjn2
                      cases he
                      cases he2
                      exact ⟨b', o, vk, vj, rfl, q1, q2, q3, q4⟩
                    obtain ⟨_, _, hck⟩ := refErr_zero (HZ.out k hlt)
                    have hl20 := (check_small hck).1
                    obtain ⟨_, _, hcj⟩ := refErr_zero (HZ.out j hjn2)
                    have hj20 := (check_small hcj).1
                    have HSL : Hid (∀ q, Calls Try.prog 33 #[vk, vj] (wr.drewN q) fun e w' => e = .returned (.bool (decide (rs[k].2 = rs[j].2))) ∧ ∃ n, w' = (wr.drewN q).drewN n) := hide fun q => sameLabels_any _ vk vj _ _ (readsLabels_mono hk1 HGwr.out.size) (readsLabels_mono hj1 HGwr.out.size) (by omega) (by omega)
                    obtain ⟨ko, kc, rfl⟩ := readsLabels_len hk1
                    obtain ⟨jo, jc, rfl⟩ := readsLabels_len hj1
                    by_cases heq : rs[k].2 = rs[j].2
                    · have hdu := dupB_true hjn2 hlt hjl heq.symm
                      rw [if_pos hdu] at HE1
                      rw [decide_eq_true heq] at HSL
                      clear hdu heq hk1 hj1 hck hcj
                      go_wp2
                      go_quiet ((go_at_call 33; exact Calls.quiet_of (HSL.out _)))
                      go_wp2
                      go_ret
                      exact ⟨ret_int (by rw [← HE1.out]; rfl), HGwr.out.trans (grow_drewR _ _)⟩
                    · rw [decide_eq_false heq] at HSL
                      have HNE := hide heq
                      clear heq hk1 hj1 hck hcj
                      go_wp2
                      go_quiet ((go_at_call 33; exact Calls.quiet_of (HSL.out _)))
                      go_wp2
                      go_roundw
                      case rel => exact ⟨j + 1, by omega, by go_num, hide (HGr.out.trans (grow_drewR _ _)), hide (fun i hi h => by
                        by_cases e : i = j
                        · subst e; exact fun h => HNE.out h.symm
                        · exact HDJ.out i hi (by omega))⟩
                      case measure => simp [intOf]; omega
                  · obtain rfl : j = k := by omega
                    go_wp2
                    go_roundw
                    case rel => exact ⟨j + 1, by omega, by go_num, HGr, hide (fun i j' hi hj' hij hjk => by
                      by_cases e : j' = j
                      · subst e; exact HDJ.out i hi hij
                      · exact HD.out i j' hi hj' hij (by omega))⟩
                    case measure => simp [intOf]; omega
              · have hdu : dupB rs = false := dupB_false.2 fun i j hi hj hij => HD.out i j hi hj hij (by omega)
                rw [if_neg (by rw [hdu]; simp)] at HE1
                clear hdu
                go_wp2
                go_ret
                exact ⟨ret_int (by rw [← HE1.out]; rfl), HG.out.trans HGr.out⟩
end Go.Proofs.Ytnlkfehnmijimaa.Rc
