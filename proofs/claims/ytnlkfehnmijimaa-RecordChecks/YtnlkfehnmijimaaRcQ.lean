/- record: the check of a record. -/
import Derived.Laws.OwnMore
import Derived.Test.YtnlkfehnmijimaaProg
import Derived.Test.YtnlkfehnmijimaaKit
import Derived.Test.YtnlkfehnmijimaaSpec
import Derived.Test.YtnlkfehnmijimaaReg
import Derived.Test.YtnlkfehnmijimaaLRow
import Derived.Test.YtnlkfehnmijimaaRcA
import Derived.Test.YtnlkfehnmijimaaRcM
import Derived.Test.YtnlkfehnmijimaaRcN
import Derived.Test.YtnlkfehnmijimaaRcP
import Derived.BigQuiet
set_option linter.unusedVariables false
set_option linter.unusedSimpArgs false
namespace Go.Proofs.Ytnlkfehnmijimaa.Rc
open Go.RowKit Lb
attribute [local go_sem] bs_size bs_toList bs_append bs_get bs_extract

theorem grow_drewR (w : World) (n : Nat) : Grow w (w.drewN n) := ⟨rfl, rfl, rfl, Nat.le_refl _, fun _ _ => rfl⟩
theorem below_cells {w w' : World} {A : Nat} {v : Value} {l : List RefL} (h : readsRefs w A v l) (g : Grow w w') (hA : A ≤ w.heap.size) : readsRefs w' A v l := h.keep (Below.mono g hA)

set_option maxRecDepth 20000 in
set_option maxHeartbeats 16000000 in
theorem checkRecord_any (w : World) (vr vp : Value) (r : Rcd) (hr : readsRefs w w.heap.size vr r.refs) (hp : readsPoints w w.heap.size vp r.points) (hk : -9223372036854775808 ≤ r.kind ∧ r.kind ≤ 9223372036854775807) (hrl : r.refs.length ≤ 9223372036854775807) (hpl : r.points.length ≤ 9223372036854775807)
    (hro : ∀ x ∈ r.refs, okRef x) (hpo : ∀ x ∈ r.points, okPnt x) :
    Calls Try.prog 19 #[.agg #[.int .i64 r.kind, vr, vp]] w fun e w' => e = outc (recErr r) ∧ Grow w w' := by
  obtain ⟨E, HE⟩ : ∃ E, Hid (recErr r = E) := ⟨_, hide rfl⟩
  have HE1 : Hid ((if r.kind ≠ 1 ∧ r.kind ≠ 2 then 7
    else if (r.kind = 1 ∧ 0 < r.points.length) ∨ (r.kind = 2 ∧ 0 < r.refs.length) then 1
    else if 200 < r.refs.length ∨ 200 < r.points.length then 2
    else if refsErr r.refs ≠ 0 then refsErr r.refs else pointsErr r.points) = E) := HE
  rw [HE.out]
  clear HE
  obtain ⟨kind, rs, ps⟩ := r
  simp only at HE1 hr hp hk hrl hpl hro hpo
  obtain ⟨ro, rc, hvr, _⟩ := id hr
  subst hvr
  obtain ⟨po, pc, hvp, _⟩ := id hp
  subst hvp
  obtain ⟨W, eW, gW, hW⟩ := laid_at w #[.int .i64 kind, .slice ro rs.length rc, .slice po ps.length pc] 25
  obtain ⟨c0, c1, c2⟩ := three_of hW
  have HG := hide gW
  have HW := hide hW
  have HR := hide hr
  have HP := hide hp
  have HRO := hide hro
  have HPO := hide hpo
  clear gW hW hr hp hro hpo
  by_cases hk12 : kind ≠ 1 ∧ kind ≠ 2
  · rw [if_pos hk12] at HE1
    obtain ⟨hk1, hk2⟩ := hk12
    have hb1 : (kind == 1) = false := by simp; exact hk1
    have hb2 : (kind == 2) = false := by simp; exact hk2
    clear hk1 hk2
    go_enter Try.func19, Try.ntmps19
    go_wp2
    go_quiet (fail)
    go_wp2_with fail
    refine (refuse_any true 7 _ (by decide)).mono ?_
    rintro e w2 ⟨rfl, hw2⟩
    rw [if_pos rfl, outc_no (by decide)]
    exact ⟨rfl, by rw [← HE1.out, outc_no (by decide)], HG.out.trans (by rw [hw2]; exact grow_drewR _ _)⟩
  · rw [if_neg hk12] at HE1
    have hk3 : kind = 1 ∨ kind = 2 := by omega
    clear hk12 hk
    rcases hk3 with rfl | rfl
    · as_aux_lemma =>
        have hAi0 : 0 ≤ (ps.length : Int) := by omega
        by_cases hA : 0 < ps.length
        · rw [if_pos (.inl ⟨rfl, hA⟩)] at HE1
          have hAd : decide (0 < ps.length) = true := decide_eq_true hA
          clear hA hAi0
          go_enter Try.func19, Try.ntmps19
          go_wp2
          go_quiet (fail)
          go_wp2_with fail
          refine (refuse_any false 7 _ (by decide)).mono ?_
          rintro e w2 ⟨rfl, hw2⟩
          rw [if_neg (by simp), outc_ok]
          have HG2 : Hid (Grow W w2) := hide (by rw [hw2]; exact grow_drewR _ _)
          clear hw2
          obtain ⟨c0, c1, c2⟩ := three_of (HG2.out.get HW.out)
          go_wp2_with fail
          refine (refuse_any true 1 _ (by decide)).mono ?_
          rintro e w3 ⟨rfl, hw3⟩
          rw [if_pos rfl, outc_no (by decide)]
          exact ⟨rfl, by rw [← HE1.out, outc_no (by decide)], HG.out.trans (by rw [hw3]; exact HG2.out)⟩
        · rw [if_neg (by omega)] at HE1
          have hAd : decide (0 < ps.length) = false := decide_eq_false hA
          have hA2 : decide ((200 : Int) < (ps.length : Int)) = false := decide_eq_false (by omega)
          by_cases hB : 200 < rs.length
          · rw [if_pos (.inl hB)] at HE1
            have hBi : decide ((200 : Int) < (rs.length : Int)) = true := decide_eq_true (by omega)
            clear hA hB hAi0
            go_enter Try.func19, Try.ntmps19
            go_wp2
            go_quiet (fail)
            go_wp2_with fail
            refine (refuse_any false 7 _ (by decide)).mono ?_
            rintro e w2 ⟨rfl, hw2⟩
            rw [if_neg (by simp), outc_ok]
            have HG2 : Hid (Grow W w2) := hide (by rw [hw2]; exact grow_drewR _ _)
            clear hw2
            obtain ⟨c0, c1, c2⟩ := three_of (HG2.out.get HW.out)
            go_wp2_with fail
            refine (refuse_any false 1 _ (by decide)).mono ?_
            rintro e w3 ⟨rfl, hw3⟩
            rw [if_neg (by simp), outc_ok]
            have HG3 : Hid (Grow W w3) := hide (by rw [hw3]; exact HG2.out)
            clear hw3
            obtain ⟨c0, c1, c2⟩ := three_of (HG3.out.get HW.out)
            go_wp2_with fail
            refine (refuse_any true 2 _ (by decide)).mono ?_
            rintro e w4 ⟨rfl, hw4⟩
            rw [if_pos rfl, outc_no (by decide)]
            exact ⟨rfl, by rw [← HE1.out, outc_no (by decide)], HG.out.trans (by rw [hw4]; exact HG3.out)⟩
          · rw [if_neg (by omega)] at HE1
            have hBi : decide ((200 : Int) < (rs.length : Int)) = false := decide_eq_false (by omega)
            clear hA hB hAi0
            go_enter Try.func19, Try.ntmps19
            go_wp2
            go_quiet (fail)
            go_wp2_with fail
            refine (refuse_any false 7 _ (by decide)).mono ?_
            rintro e w2 ⟨rfl, hw2⟩
            rw [if_neg (by simp), outc_ok]
            have HG2 : Hid (Grow W w2) := hide (by rw [hw2]; exact grow_drewR _ _)
            clear hw2
            obtain ⟨c0, c1, c2⟩ := three_of (HG2.out.get HW.out)
            go_wp2_with fail
            refine (refuse_any false 1 _ (by decide)).mono ?_
            rintro e w3 ⟨rfl, hw3⟩
            rw [if_neg (by simp), outc_ok]
            have HG3 : Hid (Grow W w3) := hide (by rw [hw3]; exact HG2.out)
            clear hw3
            obtain ⟨c0, c1, c2⟩ := three_of (HG3.out.get HW.out)
            go_wp2_with fail
            refine (refuse_any false 2 _ (by decide)).mono ?_
            rintro e w4 ⟨rfl, hw4⟩
            rw [if_neg (by simp), outc_ok]
            have HG4 : Hid (Grow W w4) := hide (by rw [hw4]; exact HG3.out)
            clear hw4
            obtain ⟨c0, c1, c2⟩ := three_of (HG4.out.get HW.out)
            have HGW : Hid (Grow w w4) := hide (HG.out.trans HG4.out)
            obtain ⟨F, HF⟩ : ∃ F, Hid (refsErr rs = F) := ⟨_, hide rfl⟩
            rw [HF.out] at HE1
            clear eW
            go_wp2
            go_loopw [52] (fun iv wr => ∃ k : Nat, k ≤ rs.length ∧ iv = .int .i64 k ∧ Hid (Grow w4 wr) ∧ Hid (∀ j (hj : j < rs.length), j < k → refErr rs[j] = 0)) (fun iv _ => rs.length - (intOf iv).toNat)
            case atStart => exact ⟨0, by omega, rfl, hide (Grow.refl _), hide (fun j _ h => by omega)⟩
            case round =>
              clear c0 c1 c2
              obtain ⟨k, hkk, rfl, HGr, HD⟩ := hrel
              have HGwr : Hid (Grow w wr) := hide (HGW.out.trans HGr.out)
              by_cases hlt : k < rs.length
              · have hlti : (k : Int) < (rs.length : Int) := by omega
                obtain ⟨rb, rf, vl, rfl, hrB, hls, c0, c1⟩ : ∃ b' o vl, ro = some ⟨b', o, none⟩ ∧ b' < w.heap.size ∧ readsLabels wr w.heap.size vl rs[k].2 ∧ wr.cell? ⟨b', o + k * 2, none⟩ = some (.int .i64 rs[k].1) ∧ wr.cell? ⟨b', o + k * 2 + 1, none⟩ = some vl := by
                  obtain ⟨ao', cp', e, h⟩ := HR.out.keep HGwr.out
                  cases e
                  exact h k hlt
                have hok := HRO.out _ (List.getElem_mem hlt)
                have hat := refsErr_at hlt HD.out
                obtain ⟨x, HX⟩ : ∃ x : RefL, Hid (rs[k] = x) := ⟨_, hide rfl⟩
                rw [HX.out] at hls c0 hok hat
                rw [HF.out] at hat
                obtain ⟨xo, xc, rfl⟩ := readsLabels_len hls
                obtain ⟨V, eV, gV, hV⟩ := laid_at wr #[.int .i64 x.1, .slice xo x.2.length xc] 53
                obtain ⟨d0, d1⟩ := two_of hV
                have HCR := hide (checkRef_any V x (.slice xo x.2.length xc) (readsLabels_mono (readsLabels_below hls (Below.mono gV HGwr.out.size)) (by have := gV.size; have := HGwr.out.size; omega)) hok)
                have HGV : Hid (Grow w4 V) := hide (HGr.out.trans gV)
                have HAT := hide hat
                obtain ⟨P, HPE⟩ : ∃ P, Hid (refErr x = P) := ⟨_, hide rfl⟩
                rw [HPE.out] at HCR HAT
                clear gV hV hls hok hat
                go_wp2_with fail
                refine HCR.out.mono ?_
                rintro e w5 ⟨rfl, hg5⟩
                have HG5 : Hid (Grow w4 w5) := hide (HGV.out.trans hg5)
                clear hg5 HCR eV d0 d1
                by_cases hP : P = 0
                · rw [hP, outc_ok]
                  have HD2 : Hid (∀ j (hj : j < rs.length), j < k + 1 → refErr rs[j] = 0) := hide (fun j hj h => by
                    by_cases e : j = k
                    · subst e; rw [HX.out, HPE.out]; exact hP
                    · exact HD.out j hj (by omega))
                  clear hP
                  go_wp2
                  go_roundw
                  case rel => exact ⟨k + 1, by omega, by go_num, HG5, HD2⟩
                  case measure => simp [intOf]; omega
                · rw [outc_no hP]
                  have hF := HAT.out hP
                  rw [if_pos (by rw [hF]; exact hP)] at HE1
                  exact ⟨rfl, by rw [← HE1.out, hF, outc_no hP], HGW.out.trans HG5.out⟩
              · obtain rfl : k = rs.length := by omega
                have hF : F = 0 := by rw [← HF.out]; exact refsErr_all fun j hj => HD.out j hj hj
                rw [if_neg (by omega)] at HE1
                obtain ⟨c0, c1, c2⟩ := three_of ((HG4.out.trans HGr.out).get HW.out)
                clear HD HF hF
                go_wp2
                go_loopw [62] (fun iv wr => ∃ k : Nat, k ≤ ps.length ∧ iv = .int .i64 k ∧ Hid (Grow w4 wr) ∧ Hid (∀ j (hj : j < ps.length), j < k → pointErr ps[j] = 0)) (fun iv _ => ps.length - (intOf iv).toNat)
                case atStart => exact ⟨0, by omega, rfl, HGr, hide (fun j _ h => by omega)⟩
                case round =>
                  clear c0 c1 c2 HGr HGwr
                  obtain ⟨k, hkk, rfl, HGr, HD⟩ := hrel
                  have HGwr : Hid (Grow w wr) := hide (HGW.out.trans HGr.out)
                  by_cases hlt : k < ps.length
                  · have hlti : (k : Int) < (ps.length : Int) := by omega
                    obtain ⟨rb, rf, rfl, hrB, c0, c1, c2⟩ : ∃ b' o, po = some ⟨b', o, none⟩ ∧ b' < w.heap.size ∧ wr.cell? ⟨b', o + k * 3, none⟩ = some (.int .i64 ps[k].1) ∧ wr.cell? ⟨b', o + k * 3 + 1, none⟩ = some (.int .i64 ps[k].2.1) ∧ wr.cell? ⟨b', o + k * 3 + 2, none⟩ = some (.int .u64 ps[k].2.2) := by
                      obtain ⟨ao', cp', e, h⟩ := HP.out.keep HGwr.out
                      cases e
                      exact h k hlt
                    have hat := pointsErr_at hlt HD.out
                    obtain ⟨x, HX⟩ : ∃ x : Pnt, Hid (ps[k] = x) := ⟨_, hide rfl⟩
                    rw [HX.out] at c0 c1 c2 hat
                    obtain ⟨x0, x1, x2⟩ := x
                    simp only at c0 c1 c2
                    obtain ⟨V, eV, gV, hV⟩ := laid_at wr #[.int .i64 x0, .int .i64 x1, .int .u64 x2] 57
                    obtain ⟨d0, d1, d2⟩ := three_of hV
                    have HGV : Hid (Grow w4 V) := hide (HGr.out.trans gV)
                    have HAT := hide hat
                    have HPX : Hid (pointErr (x0, x1, x2) = if numErr x0 ≠ 0 then numErr x0 else timeErr x1) := hide rfl
                    clear gV hV hat
                    go_wp2_with fail
                    refine (checkNumber_any x0 V).mono ?_
                    rintro e w5 ⟨rfl, hw5⟩
                    subst hw5
                    by_cases hN : numErr x0 = 0
                    · rw [hN, outc_ok]
                      rw [if_neg (by omega)] at HPX
                      clear hN
                      go_wp2_with fail
                      refine (checkTime_any x1 w5).mono ?_
                      rintro e w6 ⟨rfl, hw6⟩
                      subst hw6
                      by_cases hT : timeErr x1 = 0
                      · rw [hT, outc_ok]
                        have HD2 : Hid (∀ j (hj : j < ps.length), j < k + 1 → pointErr ps[j] = 0) := hide (fun j hj h => by
                          by_cases e : j = k
                          · subst e; rw [HX.out, HPX.out]; exact hT
                          · exact HD.out j hj (by omega))
                        clear hT eV d0 d1 d2
                        go_wp2
                        go_roundw
                        case rel => exact ⟨k + 1, by omega, by go_num, HGV, HD2⟩
                        case measure => simp [intOf]; omega
                      · rw [outc_no hT]
                        have hF := HAT.out (by rw [HPX.out]; exact hT)
                        exact ⟨rfl, by rw [← HE1.out, hF, HPX.out, outc_no hT], HGW.out.trans HGV.out⟩
                    · rw [outc_no hN]
                      rw [if_pos hN] at HPX
                      have hF := HAT.out (by rw [HPX.out]; exact hN)
                      exact ⟨rfl, by rw [← HE1.out, hF, HPX.out, outc_no hN], HGW.out.trans HGV.out⟩
                  · have hF : E = 0 := by rw [← HE1.out]; exact pointsErr_all fun j hj => HD.out j hj (by omega)
                    go_wp2
                    go_end0
                    exact ⟨by rw [hF]; rfl, HGwr.out⟩
    · as_aux_lemma =>
        have hAi0 : 0 ≤ (rs.length : Int) := by omega
        by_cases hA : 0 < rs.length
        · rw [if_pos (.inr ⟨rfl, hA⟩)] at HE1
          have hAd : decide (0 < rs.length) = true := decide_eq_true hA
          clear hA hAi0
          go_enter Try.func19, Try.ntmps19
          go_wp2
          go_quiet (fail)
          go_wp2_with fail
          refine (refuse_any false 7 _ (by decide)).mono ?_
          rintro e w2 ⟨rfl, hw2⟩
          rw [if_neg (by simp), outc_ok]
          have HG2 : Hid (Grow W w2) := hide (by rw [hw2]; exact grow_drewR _ _)
          clear hw2
          obtain ⟨c0, c1, c2⟩ := three_of (HG2.out.get HW.out)
          go_wp2_with fail
          refine (refuse_any true 1 _ (by decide)).mono ?_
          rintro e w3 ⟨rfl, hw3⟩
          rw [if_pos rfl, outc_no (by decide)]
          exact ⟨rfl, by rw [← HE1.out, outc_no (by decide)], HG.out.trans (by rw [hw3]; exact HG2.out)⟩
        · rw [if_neg (by omega)] at HE1
          have hAd : decide (0 < rs.length) = false := decide_eq_false hA
          have hA2 : decide ((200 : Int) < (rs.length : Int)) = false := decide_eq_false (by omega)
          by_cases hB : 200 < ps.length
          · rw [if_pos (.inr hB)] at HE1
            have hBi : decide ((200 : Int) < (ps.length : Int)) = true := decide_eq_true (by omega)
            clear hA hB hAi0
            go_enter Try.func19, Try.ntmps19
            go_wp2
            go_quiet (fail)
            go_wp2_with fail
            refine (refuse_any false 7 _ (by decide)).mono ?_
            rintro e w2 ⟨rfl, hw2⟩
            rw [if_neg (by simp), outc_ok]
            have HG2 : Hid (Grow W w2) := hide (by rw [hw2]; exact grow_drewR _ _)
            clear hw2
            obtain ⟨c0, c1, c2⟩ := three_of (HG2.out.get HW.out)
            go_wp2_with fail
            refine (refuse_any false 1 _ (by decide)).mono ?_
            rintro e w3 ⟨rfl, hw3⟩
            rw [if_neg (by simp), outc_ok]
            have HG3 : Hid (Grow W w3) := hide (by rw [hw3]; exact HG2.out)
            clear hw3
            obtain ⟨c0, c1, c2⟩ := three_of (HG3.out.get HW.out)
            go_wp2_with fail
            refine (refuse_any true 2 _ (by decide)).mono ?_
            rintro e w4 ⟨rfl, hw4⟩
            rw [if_pos rfl, outc_no (by decide)]
            exact ⟨rfl, by rw [← HE1.out, outc_no (by decide)], HG.out.trans (by rw [hw4]; exact HG3.out)⟩
          · rw [if_neg (by omega)] at HE1
            have hBi : decide ((200 : Int) < (ps.length : Int)) = false := decide_eq_false (by omega)
            clear hA hB hAi0
            go_enter Try.func19, Try.ntmps19
            go_wp2
            go_quiet (fail)
            go_wp2_with fail
            refine (refuse_any false 7 _ (by decide)).mono ?_
            rintro e w2 ⟨rfl, hw2⟩
            rw [if_neg (by simp), outc_ok]
            have HG2 : Hid (Grow W w2) := hide (by rw [hw2]; exact grow_drewR _ _)
            clear hw2
            obtain ⟨c0, c1, c2⟩ := three_of (HG2.out.get HW.out)
            go_wp2_with fail
            refine (refuse_any false 1 _ (by decide)).mono ?_
            rintro e w3 ⟨rfl, hw3⟩
            rw [if_neg (by simp), outc_ok]
            have HG3 : Hid (Grow W w3) := hide (by rw [hw3]; exact HG2.out)
            clear hw3
            obtain ⟨c0, c1, c2⟩ := three_of (HG3.out.get HW.out)
            go_wp2_with fail
            refine (refuse_any false 2 _ (by decide)).mono ?_
            rintro e w4 ⟨rfl, hw4⟩
            rw [if_neg (by simp), outc_ok]
            have HG4 : Hid (Grow W w4) := hide (by rw [hw4]; exact HG3.out)
            clear hw4
            obtain ⟨c0, c1, c2⟩ := three_of (HG4.out.get HW.out)
            have HGW : Hid (Grow w w4) := hide (HG.out.trans HG4.out)
            obtain ⟨F, HF⟩ : ∃ F, Hid (refsErr rs = F) := ⟨_, hide rfl⟩
            rw [HF.out] at HE1
            clear eW
            go_wp2
            go_loopw [52] (fun iv wr => ∃ k : Nat, k ≤ rs.length ∧ iv = .int .i64 k ∧ Hid (Grow w4 wr) ∧ Hid (∀ j (hj : j < rs.length), j < k → refErr rs[j] = 0)) (fun iv _ => rs.length - (intOf iv).toNat)
            case atStart => exact ⟨0, by omega, rfl, hide (Grow.refl _), hide (fun j _ h => by omega)⟩
            case round =>
              clear c0 c1 c2
              obtain ⟨k, hkk, rfl, HGr, HD⟩ := hrel
              have HGwr : Hid (Grow w wr) := hide (HGW.out.trans HGr.out)
              by_cases hlt : k < rs.length
              · have hlti : (k : Int) < (rs.length : Int) := by omega
                obtain ⟨rb, rf, vl, rfl, hrB, hls, c0, c1⟩ : ∃ b' o vl, ro = some ⟨b', o, none⟩ ∧ b' < w.heap.size ∧ readsLabels wr w.heap.size vl rs[k].2 ∧ wr.cell? ⟨b', o + k * 2, none⟩ = some (.int .i64 rs[k].1) ∧ wr.cell? ⟨b', o + k * 2 + 1, none⟩ = some vl := by
                  obtain ⟨ao', cp', e, h⟩ := HR.out.keep HGwr.out
                  cases e
                  exact h k hlt
                have hok := HRO.out _ (List.getElem_mem hlt)
                have hat := refsErr_at hlt HD.out
                obtain ⟨x, HX⟩ : ∃ x : RefL, Hid (rs[k] = x) := ⟨_, hide rfl⟩
                rw [HX.out] at hls c0 hok hat
                rw [HF.out] at hat
                obtain ⟨xo, xc, rfl⟩ := readsLabels_len hls
                obtain ⟨V, eV, gV, hV⟩ := laid_at wr #[.int .i64 x.1, .slice xo x.2.length xc] 53
                obtain ⟨d0, d1⟩ := two_of hV
                have HCR := hide (checkRef_any V x (.slice xo x.2.length xc) (readsLabels_mono (readsLabels_below hls (Below.mono gV HGwr.out.size)) (by have := gV.size; have := HGwr.out.size; omega)) hok)
                have HGV : Hid (Grow w4 V) := hide (HGr.out.trans gV)
                have HAT := hide hat
                obtain ⟨P, HPE⟩ : ∃ P, Hid (refErr x = P) := ⟨_, hide rfl⟩
                rw [HPE.out] at HCR HAT
                clear gV hV hls hok hat
                go_wp2_with fail
                refine HCR.out.mono ?_
                rintro e w5 ⟨rfl, hg5⟩
                have HG5 : Hid (Grow w4 w5) := hide (HGV.out.trans hg5)
                clear hg5 HCR eV d0 d1
                by_cases hP : P = 0
                · rw [hP, outc_ok]
                  have HD2 : Hid (∀ j (hj : j < rs.length), j < k + 1 → refErr rs[j] = 0) := hide (fun j hj h => by
                    by_cases e : j = k
                    · subst e; rw [HX.out, HPE.out]; exact hP
                    · exact HD.out j hj (by omega))
                  clear hP
                  go_wp2
                  go_roundw
                  case rel => exact ⟨k + 1, by omega, by go_num, HG5, HD2⟩
                  case measure => simp [intOf]; omega
                · rw [outc_no hP]
                  have hF := HAT.out hP
                  rw [if_pos (by rw [hF]; exact hP)] at HE1
                  exact ⟨rfl, by rw [← HE1.out, hF, outc_no hP], HGW.out.trans HG5.out⟩
              · obtain rfl : k = rs.length := by omega
                have hF : F = 0 := by rw [← HF.out]; exact refsErr_all fun j hj => HD.out j hj hj
                rw [if_neg (by omega)] at HE1
                obtain ⟨c0, c1, c2⟩ := three_of ((HG4.out.trans HGr.out).get HW.out)
                clear HD HF hF
                go_wp2
                go_loopw [62] (fun iv wr => ∃ k : Nat, k ≤ ps.length ∧ iv = .int .i64 k ∧ Hid (Grow w4 wr) ∧ Hid (∀ j (hj : j < ps.length), j < k → pointErr ps[j] = 0)) (fun iv _ => ps.length - (intOf iv).toNat)
                case atStart => exact ⟨0, by omega, rfl, HGr, hide (fun j _ h => by omega)⟩
                case round =>
                  clear c0 c1 c2 HGr HGwr
                  obtain ⟨k, hkk, rfl, HGr, HD⟩ := hrel
                  have HGwr : Hid (Grow w wr) := hide (HGW.out.trans HGr.out)
                  by_cases hlt : k < ps.length
                  · have hlti : (k : Int) < (ps.length : Int) := by omega
                    obtain ⟨rb, rf, rfl, hrB, c0, c1, c2⟩ : ∃ b' o, po = some ⟨b', o, none⟩ ∧ b' < w.heap.size ∧ wr.cell? ⟨b', o + k * 3, none⟩ = some (.int .i64 ps[k].1) ∧ wr.cell? ⟨b', o + k * 3 + 1, none⟩ = some (.int .i64 ps[k].2.1) ∧ wr.cell? ⟨b', o + k * 3 + 2, none⟩ = some (.int .u64 ps[k].2.2) := by
                      obtain ⟨ao', cp', e, h⟩ := HP.out.keep HGwr.out
                      cases e
                      exact h k hlt
                    have hat := pointsErr_at hlt HD.out
                    obtain ⟨x, HX⟩ : ∃ x : Pnt, Hid (ps[k] = x) := ⟨_, hide rfl⟩
                    rw [HX.out] at c0 c1 c2 hat
                    obtain ⟨x0, x1, x2⟩ := x
                    simp only at c0 c1 c2
                    obtain ⟨V, eV, gV, hV⟩ := laid_at wr #[.int .i64 x0, .int .i64 x1, .int .u64 x2] 57
                    obtain ⟨d0, d1, d2⟩ := three_of hV
                    have HGV : Hid (Grow w4 V) := hide (HGr.out.trans gV)
                    have HAT := hide hat
                    have HPX : Hid (pointErr (x0, x1, x2) = if numErr x0 ≠ 0 then numErr x0 else timeErr x1) := hide rfl
                    clear gV hV hat
                    go_wp2_with fail
                    refine (checkNumber_any x0 V).mono ?_
                    rintro e w5 ⟨rfl, hw5⟩
                    subst hw5
                    by_cases hN : numErr x0 = 0
                    · rw [hN, outc_ok]
                      rw [if_neg (by omega)] at HPX
                      clear hN
                      go_wp2_with fail
                      refine (checkTime_any x1 w5).mono ?_
                      rintro e w6 ⟨rfl, hw6⟩
                      subst hw6
                      by_cases hT : timeErr x1 = 0
                      · rw [hT, outc_ok]
                        have HD2 : Hid (∀ j (hj : j < ps.length), j < k + 1 → pointErr ps[j] = 0) := hide (fun j hj h => by
                          by_cases e : j = k
                          · subst e; rw [HX.out, HPX.out]; exact hT
                          · exact HD.out j hj (by omega))
                        clear hT eV d0 d1 d2
                        go_wp2
                        go_roundw
                        case rel => exact ⟨k + 1, by omega, by go_num, HGV, HD2⟩
                        case measure => simp [intOf]; omega
                      · rw [outc_no hT]
                        have hF := HAT.out (by rw [HPX.out]; exact hT)
                        exact ⟨rfl, by rw [← HE1.out, hF, HPX.out, outc_no hT], HGW.out.trans HGV.out⟩
                    · rw [outc_no hN]
                      rw [if_pos hN] at HPX
                      have hF := HAT.out (by rw [HPX.out]; exact hN)
                      exact ⟨rfl, by rw [← HE1.out, hF, HPX.out, outc_no hN], HGW.out.trans HGV.out⟩
                  · have hF : E = 0 := by rw [← HE1.out]; exact pointsErr_all fun j hj => HD.out j hj (by omega)
                    go_wp2
                    go_end0
                    exact ⟨by rw [hF]; rfl, HGwr.out⟩
end Go.Proofs.Ytnlkfehnmijimaa.Rc
