/- 5 texts in one. -/
import Derived.Laws.OwnMore
import Derived.Test.YtkaeogldielkfaaGreatProg
import Derived.Test.YtkaeogldielkfaaGreatKabe2b5f
import Derived.Test.YtkaeogldielkfaaGreatKa96aaab
import Derived.Test.YtkaeogldielkfaaGreatKa7e3600
import Derived.Test.YtkaeogldielkfaaGreatKde4a8e2
import Derived.Test.YtkaeogldielkfaaGreatK7731767
import Derived.Test.YtkaeogldielkfaaGreatKd1f2bd3
import Derived.BigQuiet
import Derived.Test.YtkaeogldielkfaaGreatK382d20d
set_option linter.unusedVariables false
set_option linter.unusedSimpArgs false
namespace Go.Proofs.YtkaeogldielkfaaGreat.Rc
open Go.RowKit Lb
attribute [local go_sem] bs_size bs_toList bs_append bs_get bs_extract
set_option maxRecDepth 20000 in
set_option maxHeartbeats 4000000 in
theorem checkRef_any (w : World) (x : RefL) (vl : Value) (hv : readsLabels w w.heap.size vl x.2) (hx : okRef x) :
    Calls Tryz.prog 49 #[.agg #[.int .i64 x.1, vl]] w fun e w' => e = outc (refErr x) ∧ Grow w w' := by
  obtain ⟨E, HE⟩ : ∃ E, Hid (refErr x = E) := ⟨_, hide rfl⟩
  have HE1 : Hid ((if numErr x.1 ≠ 0 then numErr x.1 else if x.2.length = 0 then 1 else checkB x.2) = E) := HE
  rw [HE.out]
  clear HE
  obtain ⟨x1, ls⟩ := x
  obtain ⟨h0, h1, hl, hin⟩ := hx
  simp only at HE1 hv h0 h1 hl hin
  obtain ⟨lo, lc, rfl⟩ := readsLabels_len hv
  obtain ⟨W, eW, gW, hW⟩ := laid_at w #[.int .i64 x1, .slice lo ls.length lc] 59
  obtain ⟨c0, c1⟩ := two_of hW
  have HG := hide gW
  have HCK := hide (check_any W (.slice lo ls.length lc) ls (readsLabels_mono (readsLabels_below hv gW) gW.size) hl hin)
  generalize checkB ls = ce at HE1 HCK
  clear gW hW hv hin
  go_enter Tryz.func49, Tryz.ntmps49
  go_wp2_with fail
  refine (checkNumber_any x1 W).mono ?_
  rintro e w1 ⟨rfl, hw1⟩
  subst hw1
  by_cases hn : numErr x1 = 0
  · rw [if_neg (by omega)] at HE1
    rw [hn, outc_ok]
    clear hn
    by_cases hz : ls.length = 0
    · rw [if_pos hz] at HE1
      have hzi : ((ls.length : Int) == 0) = true := by simp [hz]
      have hE : Hid (1 = E) := HE1
      clear hz
      go_wp2_with fail
      refine (refuse_any true 1 w1 (by decide)).mono ?_
      rintro e w2 ⟨rfl, hw2⟩
      subst hw2
      rw [if_pos rfl, outc_no (by decide)]
      exact ⟨rfl, by rw [← hE.out, outc_no (by decide)], HG.out⟩
    · rw [if_neg hz] at HE1
      have hzi : ((ls.length : Int) == 0) = false := by rw [beq_eq_false_iff_ne]; omega
      clear hz
      go_wp2_with fail
      refine (refuse_any false 1 w1 (by decide)).mono ?_
      rintro e w2 ⟨rfl, hw2⟩
      subst hw2
      rw [if_neg (by simp), outc_ok]
      go_wp2_with fail
      refine HCK.out.mono ?_
      rintro e w3 ⟨rfl, hg3⟩
      have HG3 : Hid (Grow w w3) := hide (HG.out.trans hg3)
      clear hg3 eW c0 c1
      by_cases hc : ce = 0
      · have hci : ((ce : Int) != 0) = false := by simp [hc]
        have hE : Hid (0 = E) := hide (by rw [← HE1.out, hc])
        have hcz : (ce : Int) = ((ce : Nat) : Int) := rfl
        clear hc
        go_wp2_with fail
        refine (refuse_any false ce w3 (by intro h; cases h)).mono ?_
        rintro e w4 ⟨rfl, hw4⟩
        subst hw4
        rw [if_neg (by simp), outc_ok]
        go_wp2
        go_end0
        exact ⟨by rw [← hE.out]; rfl, HG3.out⟩
      · have hci : ((ce : Int) != 0) = true := by simp; exact hc
        have HC0 := hide hc
        clear hc
        go_wp2_with fail
        refine (refuse_any true ce w3 (fun _ => HC0.out)).mono ?_
        rintro e w4 ⟨rfl, hw4⟩
        subst hw4
        rw [if_pos rfl, outc_no HC0.out]
        exact ⟨rfl, by rw [← HE1.out, outc_no HC0.out], HG3.out⟩
  · rw [if_pos hn] at HE1
    rw [outc_no hn]
    exact ⟨rfl, by rw [← HE1.out, outc_no hn], HG.out⟩
theorem refsErr_at {l : List RefL} {k : Nat} (hk : k < l.length) (h : ∀ j (hj : j < l.length), j < k → refErr l[j] = 0) (hf : refErr l[k] ≠ 0) : refsErr l = refErr l[k] := by
  induction l generalizing k with
  | nil => simp at hk
  | cons x l ih =>
    cases k with
    | zero => show (if refErr x ≠ 0 then refErr x else refsErr l) = _; exact if_pos hf
    | succ k =>
      have h0 : refErr x = 0 := h 0 (by simp) (by omega)
      show (if refErr x ≠ 0 then refErr x else refsErr l) = _
      rw [if_neg (by omega)]
      exact ih (by simpa using hk) (fun j hj hjk => h (j + 1) (by simpa using hj) (by omega)) hf
theorem refsErr_all {l : List RefL} (h : ∀ j (hj : j < l.length), refErr l[j] = 0) : refsErr l = 0 := by
  induction l with
  | nil => rfl
  | cons x l ih =>
    have h0 : refErr x = 0 := h 0 (by simp)
    show (if refErr x ≠ 0 then refErr x else refsErr l) = _
    rw [if_neg (by omega)]
    exact ih fun j hj => h (j + 1) (by simpa using hj)
theorem pointsErr_at {l : List Pnt} {k : Nat} (hk : k < l.length) (h : ∀ j (hj : j < l.length), j < k → pointErr l[j] = 0) (hf : pointErr l[k] ≠ 0) : pointsErr l = pointErr l[k] := by
  induction l generalizing k with
  | nil => simp at hk
  | cons x l ih =>
    cases k with
    | zero => show (if pointErr x ≠ 0 then pointErr x else pointsErr l) = _; exact if_pos hf
    | succ k =>
      have h0 : pointErr x = 0 := h 0 (by simp) (by omega)
      show (if pointErr x ≠ 0 then pointErr x else pointsErr l) = _
      rw [if_neg (by omega)]
      exact ih (by simpa using hk) (fun j hj hjk => h (j + 1) (by simpa using hj) (by omega)) hf
theorem pointsErr_all {l : List Pnt} (h : ∀ j (hj : j < l.length), pointErr l[j] = 0) : pointsErr l = 0 := by
  induction l with
  | nil => rfl
  | cons x l ih =>
    have h0 : pointErr x = 0 := h 0 (by simp)
    show (if pointErr x ≠ 0 then pointErr x else pointsErr l) = _
    rw [if_neg (by omega)]
    exact ih fun j hj => h (j + 1) (by simpa using hj)
theorem grow_drewR (w : World) (n : Nat) : Grow w (w.drewN n) := ⟨rfl, rfl, rfl, Nat.le_refl _, fun _ _ => rfl⟩
set_option maxRecDepth 20000 in
set_option maxHeartbeats 16000000 in
theorem checkRecord_any (w : World) (vr vp : Value) (r : Rcd) (hr : readsRefs w w.heap.size vr r.refs) (hp : readsPoints w w.heap.size vp r.points) (hk : -9223372036854775808 ≤ r.kind ∧ r.kind ≤ 9223372036854775807) (hrl : r.refs.length ≤ 9223372036854775807) (hpl : r.points.length ≤ 9223372036854775807)
    (hro : ∀ x ∈ r.refs, okRef x) (hpo : ∀ x ∈ r.points, okPnt x) :
    Calls Tryz.prog 24 #[.agg #[.int .i64 r.kind, vr, vp]] w fun e w' => e = outc (recErr r) ∧ Grow w w' := by
  obtain ⟨E, HE⟩ : ∃ E, Hid (recErr r = E) := ⟨_, hide rfl⟩
  have HE1 : Hid ((if r.kind ≠ 1 ∧ r.kind ≠ 2 then 7
    else if (r.kind = 1 ∧ 0 < r.points.length) ∨ (r.kind = 2 ∧ 0 < r.refs.length) then 1
    else if 200 < r.refs.length ∨ 200 < r.points.length then 2
    else if refsErr r.refs ≠ 0 then refsErr r.refs else pointsErr r.points) = E) := HE
  rw [HE.out]
  clear HE
  obtain ⟨kind, rs, ps⟩ := r
  simp only at HE1 hr hp hk hrl hpl hro hpo
  obtain ⟨ro, rc, hvr, _⟩ := id hr
  subst hvr
  obtain ⟨po, pc, hvp, _⟩ := id hp
  subst hvp
  obtain ⟨W, eW, gW, hW⟩ := laid_at w #[.int .i64 kind, .slice ro rs.length rc, .slice po ps.length pc] 29
  obtain ⟨c0, c1, c2⟩ := three_of hW
  have HG := hide gW
  have HW := hide hW
  have HR := hide hr
  have HP := hide hp
  have HRO := hide hro
  have HPO := hide hpo
  clear gW hW hr hp hro hpo
  by_cases hk12 : kind ≠ 1 ∧ kind ≠ 2
  · rw [if_pos hk12] at HE1
    obtain ⟨hk1, hk2⟩ := hk12
    have hb1 : (kind == 1) = false := by simp; exact hk1
    have hb2 : (kind == 2) = false := by simp; exact hk2
    clear hk1 hk2
    go_enter Tryz.func24, Tryz.ntmps24
    go_wp2
    go_quiet (fail)
    go_wp2_with fail
    refine (refuse_any true 7 _ (by decide)).mono ?_
    rintro e w2 ⟨rfl, hw2⟩
    rw [if_pos rfl, outc_no (by decide)]
    exact ⟨rfl, by rw [← HE1.out, outc_no (by decide)], HG.out.trans (by rw [hw2]; exact grow_drewR _ _)⟩
  · rw [if_neg hk12] at HE1
    have hk3 : kind = 1 ∨ kind = 2 := by omega
    clear hk12 hk
    rcases hk3 with rfl | rfl
    · as_aux_lemma =>
        have hAi0 : 0 ≤ (ps.length : Int) := by omega
        by_cases hA : 0 < ps.length
        · rw [if_pos (.inl ⟨rfl, hA⟩)] at HE1
          have hAd : decide (0 < ps.length) = true := decide_eq_true hA
          clear hA hAi0
          go_enter Tryz.func24, Tryz.ntmps24
          go_wp2
          go_quiet (fail)
          go_wp2_with fail
          refine (refuse_any false 7 _ (by decide)).mono ?_
          rintro e w2 ⟨rfl, hw2⟩
          rw [if_neg (by simp), outc_ok]
          have HG2 : Hid (Grow W w2) := hide (by rw [hw2]; exact grow_drewR _ _)
          clear hw2
          obtain ⟨c0, c1, c2⟩ := three_of (HG2.out.get HW.out)
          go_wp2_with fail
          refine (refuse_any true 1 _ (by decide)).mono ?_
          rintro e w3 ⟨rfl, hw3⟩
          rw [if_pos rfl, outc_no (by decide)]
          exact ⟨rfl, by rw [← HE1.out, outc_no (by decide)], HG.out.trans (by rw [hw3]; exact HG2.out)⟩
        · rw [if_neg (by omega)] at HE1
          have hAd : decide (0 < ps.length) = false := decide_eq_false hA
          have hA2 : decide ((200 : Int) < (ps.length : Int)) = false := decide_eq_false (by omega)
          by_cases hB : 200 < rs.length
          · rw [if_pos (.inl hB)] at HE1
            have hBi : decide ((200 : Int) < (rs.length : Int)) = true := decide_eq_true (by omega)
            clear hA hB hAi0
            go_enter Tryz.func24, Tryz.ntmps24
            go_wp2
            go_quiet (fail)
            go_wp2_with fail
            refine (refuse_any false 7 _ (by decide)).mono ?_
            rintro e w2 ⟨rfl, hw2⟩
            rw [if_neg (by simp), outc_ok]
            have HG2 : Hid (Grow W w2) := hide (by rw [hw2]; exact grow_drewR _ _)
            clear hw2
            obtain ⟨c0, c1, c2⟩ := three_of (HG2.out.get HW.out)
            go_wp2_with fail
            refine (refuse_any false 1 _ (by decide)).mono ?_
            rintro e w3 ⟨rfl, hw3⟩
            rw [if_neg (by simp), outc_ok]
            have HG3 : Hid (Grow W w3) := hide (by rw [hw3]; exact HG2.out)
            clear hw3
            obtain ⟨c0, c1, c2⟩ := three_of (HG3.out.get HW.out)
            go_wp2_with fail
            refine (refuse_any true 2 _ (by decide)).mono ?_
            rintro e w4 ⟨rfl, hw4⟩
            rw [if_pos rfl, outc_no (by decide)]
            exact ⟨rfl, by rw [← HE1.out, outc_no (by decide)], HG.out.trans (by rw [hw4]; exact HG3.out)⟩
          · rw [if_neg (by omega)] at HE1
            have hBi : decide ((200 : Int) < (rs.length : Int)) = false := decide_eq_false (by omega)
            clear hA hB hAi0
            go_enter Tryz.func24, Tryz.ntmps24
            go_wp2
            go_quiet (fail)
            go_wp2_with fail
            refine (refuse_any false 7 _ (by decide)).mono ?_
            rintro e w2 ⟨rfl, hw2⟩
            rw [if_neg (by simp), outc_ok]
            have HG2 : Hid (Grow W w2) := hide (by rw [hw2]; exact grow_drewR _ _)
            clear hw2
            obtain ⟨c0, c1, c2⟩ := three_of (HG2.out.get HW.out)
            go_wp2_with fail
            refine (refuse_any false 1 _ (by decide)).mono ?_
            rintro e w3 ⟨rfl, hw3⟩
            rw [if_neg (by simp), outc_ok]
            have HG3 : Hid (Grow W w3) := hide (by rw [hw3]; exact HG2.out)
            clear hw3
            obtain ⟨c0, c1, c2⟩ := three_of (HG3.out.get HW.out)
            go_wp2_with fail
            refine (refuse_any false 2 _ (by decide)).mono ?_
            rintro e w4 ⟨rfl, hw4⟩
            rw [if_neg (by simp), outc_ok]
            have HG4 : Hid (Grow W w4) := hide (by rw [hw4]; exact HG3.out)
            clear hw4
            obtain ⟨c0, c1, c2⟩ := three_of (HG4.out.get HW.out)
            have HGW : Hid (Grow w w4) := hide (HG.out.trans HG4.out)
            obtain ⟨F, HF⟩ : ∃ F, Hid (refsErr rs = F) := ⟨_, hide rfl⟩
            rw [HF.out] at HE1
            clear eW
            go_wp2
            go_loopw [52] (fun iv wr => ∃ k : Nat, k ≤ rs.length ∧ iv = .int .i64 k ∧ Hid (Grow w4 wr) ∧ Hid (∀ j (hj : j < rs.length), j < k → refErr rs[j] = 0)) (fun iv _ => rs.length - (intOf iv).toNat)
            case atStart => exact ⟨0, by omega, rfl, hide (Grow.refl _), hide (fun j _ h => by omega)⟩
            case round =>
              clear c0 c1 c2
              obtain ⟨k, hkk, rfl, HGr, HD⟩ := hrel
              have HGwr : Hid (Grow w wr) := hide (HGW.out.trans HGr.out)
              by_cases hlt : k < rs.length
              · have hlti : (k : Int) < (rs.length : Int) := by omega
                obtain ⟨rb, rf, vl, rfl, hrB, hls, c0, c1⟩ : ∃ b' o vl, ro = some ⟨b', o, none⟩ ∧ b' < w.heap.size ∧ readsLabels wr w.heap.size vl rs[k].2 ∧ wr.cell? ⟨b', o + k * 2, none⟩ = some (.int .i64 rs[k].1) ∧ wr.cell? ⟨b', o + k * 2 + 1, none⟩ = some vl := by
                  obtain ⟨ao', cp', e, h⟩ := HR.out.keep HGwr.out
                  cases e
                  exact h k hlt
                have hok := HRO.out _ (List.getElem_mem hlt)
                have hat := refsErr_at hlt HD.out
                obtain ⟨x, HX⟩ : ∃ x : RefL, Hid (rs[k] = x) := ⟨_, hide rfl⟩
                rw [HX.out] at hls c0 hok hat
                rw [HF.out] at hat
                obtain ⟨xo, xc, rfl⟩ := readsLabels_len hls
                obtain ⟨V, eV, gV, hV⟩ := laid_at wr #[.int .i64 x.1, .slice xo x.2.length xc] 59
                obtain ⟨d0, d1⟩ := two_of hV
                have HCR := hide (checkRef_any V x (.slice xo x.2.length xc) (readsLabels_mono (readsLabels_below hls (Below.mono gV HGwr.out.size)) (by have := gV.size; have := HGwr.out.size; omega)) hok)
                have HGV : Hid (Grow w4 V) := hide (HGr.out.trans gV)
                have HAT := hide hat
                obtain ⟨P, HPE⟩ : ∃ P, Hid (refErr x = P) := ⟨_, hide rfl⟩
                rw [HPE.out] at HCR HAT
                clear gV hV hls hok hat
                go_wp2_with fail
                refine HCR.out.mono ?_
                rintro e w5 ⟨rfl, hg5⟩
                have HG5 : Hid (Grow w4 w5) := hide (HGV.out.trans hg5)
                clear hg5 HCR eV d0 d1
                by_cases hP : P = 0
                · rw [hP, outc_ok]
                  have HD2 : Hid (∀ j (hj : j < rs.length), j < k + 1 → refErr rs[j] = 0) := hide (fun j hj h => by
                    by_cases e : j = k
                    · subst e; rw [HX.out, HPE.out]; exact hP
                    · exact HD.out j hj (by omega))
                  clear hP
                  go_wp2
                  go_roundw
                  case rel => exact ⟨k + 1, by omega, by go_num, HG5, HD2⟩
                  case measure => simp [intOf]; omega
                · rw [outc_no hP]
                  have hF := HAT.out hP
                  rw [if_pos (by rw [hF]; exact hP)] at HE1
                  exact ⟨rfl, by rw [← HE1.out, hF, outc_no hP], HGW.out.trans HG5.out⟩
              · obtain rfl : k = rs.length := by omega
                have hF : F = 0 := by rw [← HF.out]; exact refsErr_all fun j hj => HD.out j hj hj
                rw [if_neg (by omega)] at HE1
                obtain ⟨c0, c1, c2⟩ := three_of ((HG4.out.trans HGr.out).get HW.out)
                clear HD HF hF
                go_wp2
                go_loopw [62] (fun iv wr => ∃ k : Nat, k ≤ ps.length ∧ iv = .int .i64 k ∧ Hid (Grow w4 wr) ∧ Hid (∀ j (hj : j < ps.length), j < k → pointErr ps[j] = 0)) (fun iv _ => ps.length - (intOf iv).toNat)
                case atStart => exact ⟨0, by omega, rfl, HGr, hide (fun j _ h => by omega)⟩
                case round =>
                  clear c0 c1 c2 HGr HGwr
                  obtain ⟨k, hkk, rfl, HGr, HD⟩ := hrel
                  have HGwr : Hid (Grow w wr) := hide (HGW.out.trans HGr.out)
                  by_cases hlt : k < ps.length
                  · have hlti : (k : Int) < (ps.length : Int) := by omega
                    obtain ⟨rb, rf, rfl, hrB, c0, c1, c2⟩ : ∃ b' o, po = some ⟨b', o, none⟩ ∧ b' < w.heap.size ∧ wr.cell? ⟨b', o + k * 3, none⟩ = some (.int .i64 ps[k].1) ∧ wr.cell? ⟨b', o + k * 3 + 1, none⟩ = some (.int .i64 ps[k].2.1) ∧ wr.cell? ⟨b', o + k * 3 + 2, none⟩ = some (.int .u64 ps[k].2.2) := by
                      obtain ⟨ao', cp', e, h⟩ := HP.out.keep HGwr.out
                      cases e
                      exact h k hlt
                    have hat := pointsErr_at hlt HD.out
                    obtain ⟨x, HX⟩ : ∃ x : Pnt, Hid (ps[k] = x) := ⟨_, hide rfl⟩
                    rw [HX.out] at c0 c1 c2 hat
                    obtain ⟨x0, x1, x2⟩ := x
                    simp only at c0 c1 c2
                    obtain ⟨V, eV, gV, hV⟩ := laid_at wr #[.int .i64 x0, .int .i64 x1, .int .u64 x2] 64
                    obtain ⟨d0, d1, d2⟩ := three_of hV
                    have HGV : Hid (Grow w4 V) := hide (HGr.out.trans gV)
                    have HAT := hide hat
                    have HPX : Hid (pointErr (x0, x1, x2) = if numErr x0 ≠ 0 then numErr x0 else timeErr x1) := hide rfl
                    clear gV hV hat
                    go_wp2_with fail
                    refine (checkNumber_any x0 V).mono ?_
                    rintro e w5 ⟨rfl, hw5⟩
                    subst hw5
                    by_cases hN : numErr x0 = 0
                    · rw [hN, outc_ok]
                      rw [if_neg (by omega)] at HPX
                      clear hN
                      go_wp2_with fail
                      refine (checkTime_any x1 w5).mono ?_
                      rintro e w6 ⟨rfl, hw6⟩
                      subst hw6
                      by_cases hT : timeErr x1 = 0
                      · rw [hT, outc_ok]
                        have HD2 : Hid (∀ j (hj : j < ps.length), j < k + 1 → pointErr ps[j] = 0) := hide (fun j hj h => by
                          by_cases e : j = k
                          · subst e; rw [HX.out, HPX.out]; exact hT
                          · exact HD.out j hj (by omega))
                        clear hT eV d0 d1 d2
                        go_wp2
                        go_roundw
                        case rel => exact ⟨k + 1, by omega, by go_num, HGV, HD2⟩
                        case measure => simp [intOf]; omega
                      · rw [outc_no hT]
                        have hF := HAT.out (by rw [HPX.out]; exact hT)
                        exact ⟨rfl, by rw [← HE1.out, hF, HPX.out, outc_no hT], HGW.out.trans HGV.out⟩
                    · rw [outc_no hN]
                      rw [if_pos hN] at HPX
                      have hF := HAT.out (by rw [HPX.out]; exact hN)
                      exact ⟨rfl, by rw [← HE1.out, hF, HPX.out, outc_no hN], HGW.out.trans HGV.out⟩
                  · have hF : E = 0 := by rw [← HE1.out]; exact pointsErr_all fun j hj => HD.out j hj (by omega)
                    go_wp2
                    go_end0
                    exact ⟨by rw [hF]; rfl, HGwr.out⟩
    · as_aux_lemma =>
        have hAi0 : 0 ≤ (rs.length : Int) := by omega
        by_cases hA : 0 < rs.length
        · rw [if_pos (.inr ⟨rfl, hA⟩)] at HE1
          have hAd : decide (0 < rs.length) = true := decide_eq_true hA
          clear hA hAi0
          go_enter Tryz.func24, Tryz.ntmps24
          go_wp2
          go_quiet (fail)
          go_wp2_with fail
          refine (refuse_any false 7 _ (by decide)).mono ?_
          rintro e w2 ⟨rfl, hw2⟩
          rw [if_neg (by simp), outc_ok]
          have HG2 : Hid (Grow W w2) := hide (by rw [hw2]; exact grow_drewR _ _)
          clear hw2
          obtain ⟨c0, c1, c2⟩ := three_of (HG2.out.get HW.out)
          go_wp2_with fail
          refine (refuse_any true 1 _ (by decide)).mono ?_
          rintro e w3 ⟨rfl, hw3⟩
          rw [if_pos rfl, outc_no (by decide)]
          exact ⟨rfl, by rw [← HE1.out, outc_no (by decide)], HG.out.trans (by rw [hw3]; exact HG2.out)⟩
        · rw [if_neg (by omega)] at HE1
          have hAd : decide (0 < rs.length) = false := decide_eq_false hA
          have hA2 : decide ((200 : Int) < (rs.length : Int)) = false := decide_eq_false (by omega)
          by_cases hB : 200 < ps.length
          · rw [if_pos (.inr hB)] at HE1
            have hBi : decide ((200 : Int) < (ps.length : Int)) = true := decide_eq_true (by omega)
            clear hA hB hAi0
            go_enter Tryz.func24, Tryz.ntmps24
            go_wp2
            go_quiet (fail)
            go_wp2_with fail
            refine (refuse_any false 7 _ (by decide)).mono ?_
            rintro e w2 ⟨rfl, hw2⟩
            rw [if_neg (by simp), outc_ok]
            have HG2 : Hid (Grow W w2) := hide (by rw [hw2]; exact grow_drewR _ _)
            clear hw2
            obtain ⟨c0, c1, c2⟩ := three_of (HG2.out.get HW.out)
            go_wp2_with fail
            refine (refuse_any false 1 _ (by decide)).mono ?_
            rintro e w3 ⟨rfl, hw3⟩
            rw [if_neg (by simp), outc_ok]
            have HG3 : Hid (Grow W w3) := hide (by rw [hw3]; exact HG2.out)
            clear hw3
            obtain ⟨c0, c1, c2⟩ := three_of (HG3.out.get HW.out)
            go_wp2_with fail
            refine (refuse_any true 2 _ (by decide)).mono ?_
            rintro e w4 ⟨rfl, hw4⟩
            rw [if_pos rfl, outc_no (by decide)]
            exact ⟨rfl, by rw [← HE1.out, outc_no (by decide)], HG.out.trans (by rw [hw4]; exact HG3.out)⟩
          · rw [if_neg (by omega)] at HE1
            have hBi : decide ((200 : Int) < (ps.length : Int)) = false := decide_eq_false (by omega)
            clear hA hB hAi0
            go_enter Tryz.func24, Tryz.ntmps24
            go_wp2
            go_quiet (fail)
            go_wp2_with fail
            refine (refuse_any false 7 _ (by decide)).mono ?_
            rintro e w2 ⟨rfl, hw2⟩
            rw [if_neg (by simp), outc_ok]
            have HG2 : Hid (Grow W w2) := hide (by rw [hw2]; exact grow_drewR _ _)
            clear hw2
            obtain ⟨c0, c1, c2⟩ := three_of (HG2.out.get HW.out)
            go_wp2_with fail
            refine (refuse_any false 1 _ (by decide)).mono ?_
            rintro e w3 ⟨rfl, hw3⟩
            rw [if_neg (by simp), outc_ok]
            have HG3 : Hid (Grow W w3) := hide (by rw [hw3]; exact HG2.out)
            clear hw3
            obtain ⟨c0, c1, c2⟩ := three_of (HG3.out.get HW.out)
            go_wp2_with fail
            refine (refuse_any false 2 _ (by decide)).mono ?_
            rintro e w4 ⟨rfl, hw4⟩
            rw [if_neg (by simp), outc_ok]
            have HG4 : Hid (Grow W w4) := hide (by rw [hw4]; exact HG3.out)
            clear hw4
            obtain ⟨c0, c1, c2⟩ := three_of (HG4.out.get HW.out)
            have HGW : Hid (Grow w w4) := hide (HG.out.trans HG4.out)
            obtain ⟨F, HF⟩ : ∃ F, Hid (refsErr rs = F) := ⟨_, hide rfl⟩
            rw [HF.out] at HE1
            clear eW
            go_wp2
            go_loopw [52] (fun iv wr => ∃ k : Nat, k ≤ rs.length ∧ iv = .int .i64 k ∧ Hid (Grow w4 wr) ∧ Hid (∀ j (hj : j < rs.length), j < k → refErr rs[j] = 0)) (fun iv _ => rs.length - (intOf iv).toNat)
            case atStart => exact ⟨0, by omega, rfl, hide (Grow.refl _), hide (fun j _ h => by omega)⟩
            case round =>
              clear c0 c1 c2
              obtain ⟨k, hkk, rfl, HGr, HD⟩ := hrel
              have HGwr : Hid (Grow w wr) := hide (HGW.out.trans HGr.out)
              by_cases hlt : k < rs.length
              · have hlti : (k : Int) < (rs.length : Int) := by omega
                obtain ⟨rb, rf, vl, rfl, hrB, hls, c0, c1⟩ : ∃ b' o vl, ro = some ⟨b', o, none⟩ ∧ b' < w.heap.size ∧ readsLabels wr w.heap.size vl rs[k].2 ∧ wr.cell? ⟨b', o + k * 2, none⟩ = some (.int .i64 rs[k].1) ∧ wr.cell? ⟨b', o + k * 2 + 1, none⟩ = some vl := by
                  obtain ⟨ao', cp', e, h⟩ := HR.out.keep HGwr.out
                  cases e
                  exact h k hlt
                have hok := HRO.out _ (List.getElem_mem hlt)
                have hat := refsErr_at hlt HD.out
                obtain ⟨x, HX⟩ : ∃ x : RefL, Hid (rs[k] = x) := ⟨_, hide rfl⟩
                rw [HX.out] at hls c0 hok hat
                rw [HF.out] at hat
                obtain ⟨xo, xc, rfl⟩ := readsLabels_len hls
                obtain ⟨V, eV, gV, hV⟩ := laid_at wr #[.int .i64 x.1, .slice xo x.2.length xc] 59
                obtain ⟨d0, d1⟩ := two_of hV
                have HCR := hide (checkRef_any V x (.slice xo x.2.length xc) (readsLabels_mono (readsLabels_below hls (Below.mono gV HGwr.out.size)) (by have := gV.size; have := HGwr.out.size; omega)) hok)
                have HGV : Hid (Grow w4 V) := hide (HGr.out.trans gV)
                have HAT := hide hat
                obtain ⟨P, HPE⟩ : ∃ P, Hid (refErr x = P) := ⟨_, hide rfl⟩
                rw [HPE.out] at HCR HAT
                clear gV hV hls hok hat
                go_wp2_with fail
                refine HCR.out.mono ?_
                rintro e w5 ⟨rfl, hg5⟩
                have HG5 : Hid (Grow w4 w5) := hide (HGV.out.trans hg5)
                clear hg5 HCR eV d0 d1
                by_cases hP : P = 0
                · rw [hP, outc_ok]
                  have HD2 : Hid (∀ j (hj : j < rs.length), j < k + 1 → refErr rs[j] = 0) := hide (fun j hj h => by
                    by_cases e : j = k
                    · subst e; rw [HX.out, HPE.out]; exact hP
                    · exact HD.out j hj (by omega))
                  clear hP
                  go_wp2
                  go_roundw
                  case rel => exact ⟨k + 1, by omega, by go_num, HG5, HD2⟩
                  case measure => simp [intOf]; omega
                · rw [outc_no hP]
                  have hF := HAT.out hP
                  rw [if_pos (by rw [hF]; exact hP)] at HE1
                  exact ⟨rfl, by rw [← HE1.out, hF, outc_no hP], HGW.out.trans HG5.out⟩
              · obtain rfl : k = rs.length := by omega
                have hF : F = 0 := by rw [← HF.out]; exact refsErr_all fun j hj => HD.out j hj hj
                rw [if_neg (by omega)] at HE1
                obtain ⟨c0, c1, c2⟩ := three_of ((HG4.out.trans HGr.out).get HW.out)
                clear HD HF hF
                go_wp2
                go_loopw [62] (fun iv wr => ∃ k : Nat, k ≤ ps.length ∧ iv = .int .i64 k ∧ Hid (Grow w4 wr) ∧ Hid (∀ j (hj : j < ps.length), j < k → pointErr ps[j] = 0)) (fun iv _ => ps.length - (intOf iv).toNat)
                case atStart => exact ⟨0, by omega, rfl, HGr, hide (fun j _ h => by omega)⟩
                case round =>
                  clear c0 c1 c2 HGr HGwr
                  obtain ⟨k, hkk, rfl, HGr, HD⟩ := hrel
                  have HGwr : Hid (Grow w wr) := hide (HGW.out.trans HGr.out)
                  by_cases hlt : k < ps.length
                  · have hlti : (k : Int) < (ps.length : Int) := by omega
                    obtain ⟨rb, rf, rfl, hrB, c0, c1, c2⟩ : ∃ b' o, po = some ⟨b', o, none⟩ ∧ b' < w.heap.size ∧ wr.cell? ⟨b', o + k * 3, none⟩ = some (.int .i64 ps[k].1) ∧ wr.cell? ⟨b', o + k * 3 + 1, none⟩ = some (.int .i64 ps[k].2.1) ∧ wr.cell? ⟨b', o + k * 3 + 2, none⟩ = some (.int .u64 ps[k].2.2) := by
                      obtain ⟨ao', cp', e, h⟩ := HP.out.keep HGwr.out
                      cases e
                      exact h k hlt
                    have hat := pointsErr_at hlt HD.out
                    obtain ⟨x, HX⟩ : ∃ x : Pnt, Hid (ps[k] = x) := ⟨_, hide rfl⟩
                    rw [HX.out] at c0 c1 c2 hat
                    obtain ⟨x0, x1, x2⟩ := x
                    simp only at c0 c1 c2
                    obtain ⟨V, eV, gV, hV⟩ := laid_at wr #[.int .i64 x0, .int .i64 x1, .int .u64 x2] 64
                    obtain ⟨d0, d1, d2⟩ := three_of hV
                    have HGV : Hid (Grow w4 V) := hide (HGr.out.trans gV)
                    have HAT := hide hat
                    have HPX : Hid (pointErr (x0, x1, x2) = if numErr x0 ≠ 0 then numErr x0 else timeErr x1) := hide rfl
                    clear gV hV hat
                    go_wp2_with fail
                    refine (checkNumber_any x0 V).mono ?_
                    rintro e w5 ⟨rfl, hw5⟩
                    subst hw5
                    by_cases hN : numErr x0 = 0
                    · rw [hN, outc_ok]
                      rw [if_neg (by omega)] at HPX
                      clear hN
                      go_wp2_with fail
                      refine (checkTime_any x1 w5).mono ?_
                      rintro e w6 ⟨rfl, hw6⟩
                      subst hw6
                      by_cases hT : timeErr x1 = 0
                      · rw [hT, outc_ok]
                        have HD2 : Hid (∀ j (hj : j < ps.length), j < k + 1 → pointErr ps[j] = 0) := hide (fun j hj h => by
                          by_cases e : j = k
                          · subst e; rw [HX.out, HPX.out]; exact hT
                          · exact HD.out j hj (by omega))
                        clear hT eV d0 d1 d2
                        go_wp2
                        go_roundw
                        case rel => exact ⟨k + 1, by omega, by go_num, HGV, HD2⟩
                        case measure => simp [intOf]; omega
                      · rw [outc_no hT]
                        have hF := HAT.out (by rw [HPX.out]; exact hT)
                        exact ⟨rfl, by rw [← HE1.out, hF, HPX.out, outc_no hT], HGW.out.trans HGV.out⟩
                    · rw [outc_no hN]
                      rw [if_pos hN] at HPX
                      have hF := HAT.out (by rw [HPX.out]; exact hN)
                      exact ⟨rfl, by rw [← HE1.out, hF, HPX.out, outc_no hN], HGW.out.trans HGV.out⟩
                  · have hF : E = 0 := by rw [← HE1.out]; exact pointsErr_all fun j hj => HD.out j hj (by omega)
                    go_wp2
                    go_end0
                    exact ⟨by rw [hF]; rfl, HGwr.out⟩
/-- Records that a machine has. -/
def okRec (r : Rcd) : Prop := (-9223372036854775808 ≤ r.kind ∧ r.kind ≤ 9223372036854775807) ∧ r.refs.length ≤ 9223372036854775807 ∧ r.points.length ≤ 9223372036854775807 ∧ (∀ x ∈ r.refs, okRef x) ∧ ∀ x ∈ r.points, okPnt x
set_option maxRecDepth 20000 in
set_option maxHeartbeats 4000000 in
theorem pack1_any (w : World) (A rb wb : Nat) (vr vp : Value) (r : Rcd) (hrb : w.heap[rb]? = some (.cells #[.int .i64 r.kind, vr, vp] 29 (0, 0))) (hne : rb ≠ wb) (hAw : A ≤ wb) (hA : A ≤ w.heap.size) (hh : holdsW w w.heap.size wb []) (hr : readsRefs w A vr r.refs) (hp : readsPoints w A vp r.points) (hok : okRec r) :
    Calls Tryz.prog 43 #[.pointer (some ⟨rb, 0, none⟩), .pointer (some ⟨wb, 0, none⟩)] w (worked fun E w' => E = recErr r ∧ KeptX w.heap.size wb w w' ∧ (E = 0 → holdsW w' w.heap.size wb (packB r))) := by
  obtain ⟨h1, h2, h3, h4, h5⟩ := hok
  have HCR := hide (checkRecord_any w vr vp r (hr.more hA) (hp.more hA) h1 h2 h3 h4 h5)
  have HB5 : Hid (∀ x ∈ r.points, x.2.2 < 18446744073709551616) := hide fun x hx => (h5 x hx).2.2.2.2
  have HRB := hide hrb
  have HH := hide hh
  have HR := hide hr
  have HP := hide hp
  obtain ⟨ro, rc, rfl, _⟩ := hr
  obtain ⟨po, pc, rfl, _⟩ := hp
  obtain ⟨c0, c1, c2⟩ := three_of hrb
  have hrlt := lt_of_block hrb
  clear hrb hh h1 h2 h3 h4 h5
  go_enter Tryz.func43, Tryz.ntmps43
  go_wp2_with fail
  refine HCR.out.mono ?_
  rintro e w1 ⟨rfl, hg1⟩
  have HG1 := hide hg1
  have HRB1 := hide (hg1.get HRB.out)
  clear hg1 HCR c0 c1 c2
  by_cases h0 : recErr r = 0
  · rw [h0, outc_ok]
    obtain ⟨c0, c1, c2⟩ := three_of HRB1.out
    have HW := hide (record_w w1 A w.heap.size wb _ _ r hA hAw (by
      have h := holdsW_below HH.out HG1.out (Nat.le_refl _)
      exact h) (HR.out.keep (Below.mono HG1.out hA)) (HP.out.keep (Below.mono HG1.out hA)) h0 HB5.out)
    have H0 := hide h0
    clear h0
    go_wp2_with fail
    refine HW.out.mono ?_
    rintro e w2 ⟨hk2, rfl, hh2⟩
    go_wp2
    go_end0
    refine ⟨0, rfl, H0.out.symm, (keptX_grow HG1.out (Nat.le_refl _)).trans hk2, fun _ => ?_⟩
    simpa using hh2
  · rw [outc_no h0]
    refine ⟨rfl, recErr r, (outc_no h0).symm, rfl, keptX_grow HG1.out (Nat.le_refl _), fun h => absurd h h0⟩
theorem holdsW_setCell {w : World} {B b c : Nat} {l : List UInt8} (h : holdsW w B b l) (hne : c ≠ b) {x : Value} {t : TypeId} (hc : w.heap[c]? = some (.cells #[x] t (0, 0))) (ht : 5 ≠ t) (u : Value) : holdsW (w.setCell ⟨c, 0, none⟩ u) B b l := by
  obtain ⟨h0, v, h1, h2⟩ := h
  exact ⟨by simpa [World.setCell] using h0, v, (Below.heap_setCell _ _ _ _ (Ne.symm hne)).trans h1, ownsRow_setCell_other h2 (own_apart h2 hc ht) _⟩
def packT (r : Rcd) : List UInt8 := if recErr r = 0 then packB r else []
set_option maxRecDepth 20000 in
set_option maxHeartbeats 4000000 in
theorem pack_any (w : World) (vr vp : Value) (r : Rcd) (hr : readsRefs w w.heap.size vr r.refs) (hp : readsPoints w w.heap.size vp r.points) (hok : okRec r) :
    Calls Tryz.prog 17 #[.agg #[.int .i64 r.kind, vr, vp]] w fun e w' => e = .returned (.tuple #[.string (bs (packT r)), .int .i64 (recErr r)]) ∧ Grow w w' := by
  have hcf : ∀ (args : Array Value) (w : World), (callFunc 43 args).run Tryz.prog w = .ok (.enter 43 args) w := fun args w => by simp [go_sem]
  obtain ⟨V1, e1, g1, b1⟩ := laid_at w #[.int .i64 r.kind, vr, vp] 29
  obtain ⟨V2, e2, g2, b2⟩ := laid_at V1 #[.slice none 0 0] 79
  obtain ⟨V3, e3, g3, b3⟩ := laid_at V2 #[.int .i64 0] 30
  have s1 : V1.heap.size = w.heap.size + 1 := by rw [← e1]; simp
  have s2 : V2.heap.size = w.heap.size + 2 := by rw [← e2]; simp [s1]
  have s3 : V3.heap.size = w.heap.size + 3 := by rw [← e3]; simp [s2]
  have b1' := (g2.trans g3).get b1
  have b2' := g3.get b2
  rw [s1] at b2'
  rw [s2] at b3
  have h03 : Grow w V3 := g1.trans (g2.trans g3)
  have HW := hide (pack1_any V3 w.heap.size w.heap.size (w.heap.size + 1) vr vp r b1' (by omega) (by omega) (by omega) ⟨Nat.le_refl _, _, b2', World.ownsRow_nil _ _ _ _⟩ (hr.keep h03) (hp.keep h03) hok)
  have HB3 := hide b3
  have H03 := hide h03
  have E1 := hide e1
  have E2 := hide e2
  have E3 := hide e3
  obtain ⟨ro, rc, hvr, _⟩ := hr
  obtain ⟨po, pc, hvp, _⟩ := hp
  have HAT := hide (attempt_any V2 43 #[.pointer (some ⟨w.heap.size, 0, none⟩), .pointer (some ⟨w.heap.size + 1, 0, none⟩)] (fun E w' => E = recErr r ∧ KeptX V3.heap.size (w.heap.size + 1) V3 w' ∧ (E = 0 → holdsW w' V3.heap.size (w.heap.size + 1) (packB r))) hcf (by
    rw [E3.out]
    refine HW.out.mono ?_
    rintro e w' ⟨E, he, h1, h2, h3⟩
    exact ⟨E, he, ⟨h1, h2, h3⟩, by rw [s2]; exact h2.get HB3.out (by omega) (by omega)⟩))
  clear b1 b2 b1' b2' b3 h03 HW g1 g2 g3 e1 e2 e3 hok
  subst hvr hvp
  have e1 := E1.out
  have e2 := E2.out
  go_enter Tryz.func17, Tryz.ntmps17
  go_wp2_with fail
  refine HAT.out.mono ?_
  rintro e w2 ⟨E, w1, rfl, ⟨rfl, hk, hh⟩, hw2⟩
  have hb2 : Grow w w2 := by
    rw [hw2, s2]
    exact Below.setCell (Below.trans H03.out (hk.below (by omega) (by omega))) (by show w.heap.size ≤ w.heap.size + 2; omega) _
  have HG2 := hide hb2
  have hg := hk.get HB3.out (by omega) (by omega)
  by_cases h : recErr r = 0
  · have hW2 : holdsW w2 V3.heap.size (w.heap.size + 1) (packB r) := by
      rw [hw2, s2]
      exact holdsW_setCell (hh h) (c := w.heap.size + 2) (by omega) hg (by decide) _
    have HT : Hid (packT r = packB r) := hide (by unfold packT; rw [if_pos h])
    have H0 := hide h
    rw [h]
    obtain ⟨_, v, hv, hown⟩ := hW2
    have hcell := cell_of_one hv
    have hcv := run_bytesStr (P := Tryz.prog) Tryz.underlying77 Tryz.underlying5 Tryz.underlying9 hown
    obtain ⟨ao, cp, rfl⟩ := own_shape hown
    clear hw2 h hh hg hk hb2 HAT
    go_wp2
    go_ret2
    exact ⟨by rw [HT.out, H0.out]; rfl, HG2.out⟩
  · have hne : ((recErr r : Nat) : Int) ≠ 0 := by omega
    have hnb : (((recErr r : Nat) : Int) != 0) = true := by simp; exact h
    have HT : Hid (packT r = []) := hide (by unfold packT; rw [if_neg h])
    clear hw2 h hh hg hk hb2 HAT hne
    go_wp2
    go_ret2
    exact ⟨by rw [HT.out]; rfl, HG2.out⟩
theorem pointErr_zero' {x : Pnt} (h : pointErr x = 0) : (1 ≤ x.1 ∧ x.1 ≤ 1000000) ∧ -9007199254740991 ≤ x.2.1 ∧ x.2.1 ≤ 9007199254740991 := by
  unfold pointErr at h
  by_cases h1 : numErr x.1 = 0
  · rw [if_neg (by omega)] at h
    constructor
    · unfold numErr at h1
      by_cases h3 : 1 ≤ x.1 ∧ x.1 ≤ 1000000
      · exact h3
      · rw [if_neg h3] at h1; cases h1
    · unfold timeErr at h
      by_cases h3 : -9007199254740991 ≤ x.2.1 ∧ x.2.1 ≤ 9007199254740991
      · exact h3
      · rw [if_neg h3] at h; cases h
  · rw [if_pos h1] at h
    exact absurd h h1
theorem numErr_or (n : Int) : numErr n = 0 ∨ numErr n = 3 := by unfold numErr; split <;> simp
theorem timeErr_or (n : Int) : timeErr n = 0 ∨ timeErr n = 3 := by unfold timeErr; split <;> simp
set_option maxRecDepth 20000 in
set_option maxHeartbeats 8000000 in
theorem rCheckRecord_any (w : World) (vr vp : Value) (r : Rcd) (hr : readsRefs w w.heap.size vr r.refs) (hp : readsPoints w w.heap.size vp r.points) (hok : okRec r) :
    Calls Tryz.prog 9 #[.agg #[.int .i64 r.kind, vr, vp]] w fun e w' => e = .returned (.int .i64 (recErr r)) ∧ Grow w w' := by
  obtain ⟨E, HE⟩ : ∃ E, Hid (recErr r = E) := ⟨_, hide rfl⟩
  have HE1 : Hid ((if r.kind ≠ 1 ∧ r.kind ≠ 2 then 7
    else if (r.kind = 1 ∧ 0 < r.points.length) ∨ (r.kind = 2 ∧ 0 < r.refs.length) then 1
    else if 200 < r.refs.length ∨ 200 < r.points.length then 2
    else if refsErr r.refs ≠ 0 then refsErr r.refs else pointsErr r.points) = E) := HE
  rw [HE.out]
  clear HE
  obtain ⟨kind, rs, ps⟩ := r
  obtain ⟨hk, hrl, hpl, hro, hpo⟩ := hok
  simp only at HE1 hr hp hk hrl hpl hro hpo ⊢
  have HRO := hide hro
  have HPO := hide hpo
  have HR := hide hr
  have HP := hide hp
  obtain ⟨ro, rc, rfl, _⟩ := hr
  obtain ⟨po, pc, rfl, _⟩ := hp
  obtain ⟨W, eW, gW, hW⟩ := laid_at w #[.int .i64 kind, .slice ro rs.length rc, .slice po ps.length pc] 29
  have HW := hide hW
  have HG := hide gW
  obtain ⟨c0, c1, c2⟩ := three_of hW
  have hRW : Hid (readsRefs W w.heap.size (.slice ro rs.length rc) rs) := hide (HR.out.keep gW)
  have hPW : Hid (readsPoints W w.heap.size (.slice po ps.length pc) ps) := hide (HP.out.keep gW)
  have hlW := gW.size
  clear hW gW hro hpo HR HP
  by_cases hk12 : kind ≠ 1 ∧ kind ≠ 2
  · rw [if_pos hk12] at HE1
    have h1 : (kind != 1) = true := by simp; exact hk12.1
    have h2 : (kind != 2) = true := by simp; exact hk12.2
    clear hk12
    go_enter Tryz.func9, Tryz.ntmps9
    go_wp2
    go_ret
    exact ⟨ret_int (by rw [← HE1.out]; rfl), HG.out⟩
  · rw [if_neg hk12] at HE1
    have hk3 : kind = 1 ∨ kind = 2 := by omega
    clear hk12 hk
    rcases hk3 with rfl | rfl
    · as_aux_lemma =>
        by_cases hA : 0 < ps.length
        · rw [if_pos (.inl ⟨rfl, hA⟩)] at HE1
          have hAd : decide (0 < ps.length) = true := decide_eq_true hA
          clear hA
          go_enter Tryz.func9, Tryz.ntmps9
          go_wp2
          go_ret
          exact ⟨ret_int (by rw [← HE1.out]; rfl), HG.out⟩
        · rw [if_neg (by omega)] at HE1
          have hAd : decide (0 < ps.length) = false := decide_eq_false hA
          have hA2 : decide ((200 : Int) < (ps.length : Int)) = false := decide_eq_false (by omega)
          by_cases hB : 200 < rs.length
          · rw [if_pos (.inl hB)] at HE1
            have hBi : decide ((200 : Int) < (rs.length : Int)) = true := decide_eq_true (by omega)
            clear hA hB
            go_enter Tryz.func9, Tryz.ntmps9
            go_wp2
            go_ret
            exact ⟨ret_int (by rw [← HE1.out]; rfl), HG.out⟩
          · rw [if_neg (by omega)] at HE1
            have hBi : decide ((200 : Int) < (rs.length : Int)) = false := decide_eq_false (by omega)
            have HL : Hid (ps = []) := hide (List.length_eq_zero_iff.1 (by omega))
            clear hA hB
            go_enter Tryz.func9, Tryz.ntmps9
            go_wp2
            go_loopw [3, 4] (fun iv ev wr => ∃ k : Nat, k ≤ rs.length ∧ iv = .int .i64 k ∧ Hid (Grow W wr) ∧ Hid (∀ j (hj : j < rs.length), j < k → refErr rs[j] = 0)) (fun iv _ _ => rs.length - (intOf iv).toNat)
            case atStart => exact ⟨0, by omega, rfl, hide (Grow.refl _), hide (fun j hj h => by omega)⟩
            case round =>
              obtain ⟨k, hk, rfl, HGR, HAL⟩ := hrel
              obtain ⟨cb0, cb1, cb2⟩ := three_of (HGR.out.get HW.out)
              by_cases hlt : k < rs.length
              · have hlti : (k : Int) < (rs.length : Int) := by omega
                obtain ⟨rb, rof, vl, rfl, hrB, hls, cr0, cr1⟩ : ∃ b' o vl, ro = some ⟨b', o, none⟩ ∧ b' < w.heap.size ∧ readsLabels wr w.heap.size vl rs[k].2 ∧ wr.cell? ⟨b', o + k * 2, none⟩ = some (.int .i64 rs[k].1) ∧ wr.cell? ⟨b', o + k * 2 + 1, none⟩ = some vl := by
                  obtain ⟨ao', cp', e, h⟩ := hRW.out.keep (Below.mono HGR.out (by omega))
                  cases e
                  exact h k hlt
                have hok := HRO.out _ (List.getElem_mem hlt)
                have HC := hide (rCheckRef_any wr rs[k] vl (readsLabels_mono hls (by have := HGR.out.size; omega)) hok)
                obtain ⟨lo, lc, rfl⟩ := readsLabels_len hls
                obtain ⟨x1, hx1⟩ : ∃ x1, rs[k].1 = x1 := ⟨_, rfl⟩
                obtain ⟨ce, HCE⟩ : ∃ ce, Hid (refErr rs[k] = ce) := ⟨_, hide rfl⟩
                obtain ⟨ln, hln⟩ : ∃ ln, rs[k].2.length = ln := ⟨_, rfl⟩
                rw [HCE.out, hx1, hln] at HC
                rw [hx1] at cr0
                rw [hln] at cr1
                clear hls hok hx1 hln
                go_wp2_with fail
                refine HC.out.mono ?_
                rintro e w3 ⟨rfl, hg3⟩
                have HG3 := hide (HGR.out.trans hg3)
                clear hg3 HC
                by_cases hce : ce = 0
                · have hci : ((ce : Int) != 0) = false := by simp [hce]
                  have HZ := hide (HCE.out.trans hce)
                  clear hce
                  go_wp2
                  go_roundw
                  case rel => exact ⟨k + 1, by omega, by go_num, HG3, hide (fun j hj h => by
                    rcases Nat.lt_or_ge j k with h' | h'
                    · exact HAL.out j hj h'
                    · obtain rfl : j = k := by omega
                      exact HZ.out)⟩
                  case measure => simp [intOf]; omega
                · have hci : ((ce : Int) != 0) = true := by simp; exact hce
                  have hat := refsErr_at hlt (fun j hj h => HAL.out j hj h) (by rw [HCE.out]; exact hce)
                  have HEE : Hid (ce = E) := hide (by rw [← HE1.out, if_pos (by rw [hat, HCE.out]; exact hce), hat, HCE.out])
                  clear hce hat
                  go_wp2
                  go_ret
                  exact ⟨ret_int (by rw [HEE.out]), HG.out.trans HG3.out⟩
              · obtain rfl : k = rs.length := by omega
                have hall := refsErr_all (fun j hj => HAL.out j hj hj)
                have HEE : Hid (0 = E) := hide (by rw [← HE1.out, if_neg (by rw [hall]; simp), HL.out]; rfl)
                clear hall
                go_wp2
                go_loopw [5] (fun iv w5 => iv = .int .i64 0 ∧ Hid (Grow W w5)) (fun _ _ => 0)
                case atStart => exact ⟨rfl, HGR⟩
                case round =>
                  obtain ⟨rfl, HG5⟩ := hrel
                  obtain ⟨cb0, cb1, cb2⟩ := three_of (HG5.out.get HW.out)
                  go_wp2
                  go_ret
                  exact ⟨ret_int (by rw [← HEE.out]; rfl), HG.out.trans HG5.out⟩
    · as_aux_lemma =>
        by_cases hA : 0 < rs.length
        · rw [if_pos (.inr ⟨rfl, hA⟩)] at HE1
          have hAd : decide (0 < rs.length) = true := decide_eq_true hA
          clear hA
          go_enter Tryz.func9, Tryz.ntmps9
          go_wp2
          go_ret
          exact ⟨ret_int (by rw [← HE1.out]; rfl), HG.out⟩
        · rw [if_neg (by omega)] at HE1
          have hAd : decide (0 < rs.length) = false := decide_eq_false hA
          have hA2 : decide ((200 : Int) < (rs.length : Int)) = false := decide_eq_false (by omega)
          by_cases hB : 200 < ps.length
          · rw [if_pos (.inr hB)] at HE1
            have hBi : decide ((200 : Int) < (ps.length : Int)) = true := decide_eq_true (by omega)
            clear hA hB
            go_enter Tryz.func9, Tryz.ntmps9
            go_wp2
            go_ret
            exact ⟨ret_int (by rw [← HE1.out]; rfl), HG.out⟩
          · rw [if_neg (by omega)] at HE1
            have hBi : decide ((200 : Int) < (ps.length : Int)) = false := decide_eq_false (by omega)
            have HL : Hid (rs = []) := hide (List.length_eq_zero_iff.1 (by omega))
            have HE2 : Hid (pointsErr ps = E) := hide (by rw [← HE1.out, HL.out, if_neg (by simp [refsErr])])
            clear hA hB HE1
            go_enter Tryz.func9, Tryz.ntmps9
            go_wp2
            go_loopw [3, 4] (fun iv ev w5 => iv = .int .i64 0 ∧ Hid (Grow W w5)) (fun _ _ _ => 0)
            case atStart => exact ⟨rfl, hide (Grow.refl _)⟩
            case round =>
              rename World => w4
              obtain ⟨rfl, HG4⟩ := hrel
              obtain ⟨cb0, cb1, cb2⟩ := three_of (HG4.out.get HW.out)
              go_wp2
              go_loopw [5] (fun iv wr => ∃ k : Nat, k ≤ ps.length ∧ iv = .int .i64 k ∧ Hid (Grow W wr) ∧ Hid (∀ j (hj : j < ps.length), j < k → pointErr ps[j] = 0)) (fun iv _ => ps.length - (intOf iv).toNat)
              case atStart => exact ⟨0, by omega, rfl, HG4, hide (fun j hj h => by omega)⟩
              case round =>
                obtain ⟨k, hk, rfl, HGR, HAL⟩ := hrel
                obtain ⟨ca0, ca1, ca2⟩ := three_of (HGR.out.get HW.out)
                by_cases hlt : k < ps.length
                · have hlti : (k : Int) < (ps.length : Int) := by omega
                  obtain ⟨rb, rof, rfl, hrB, cr0, cr1, cr2⟩ : ∃ b' o, po = some ⟨b', o, none⟩ ∧ b' < w.heap.size ∧ wr.cell? ⟨b', o + k * 3, none⟩ = some (.int .i64 ps[k].1) ∧ wr.cell? ⟨b', o + k * 3 + 1, none⟩ = some (.int .i64 ps[k].2.1) ∧ wr.cell? ⟨b', o + k * 3 + 2, none⟩ = some (.int .u64 (ps[k].2.2 : Nat)) := by
                    obtain ⟨ao', cp', e, h⟩ := hPW.out.keep (Below.mono HGR.out (by omega))
                    cases e
                    exact h k hlt
                  obtain ⟨x, hx⟩ : ∃ x, ps[k] = x := ⟨_, rfl⟩
                  rw [hx] at cr0 cr1 cr2
                  have HX := hide hx
                  have HI := hide (isRef_any x.1)
                  have HT := hide (isTime_any x.2.1)
                  clear hx
                  rcases numErr_or x.1 with hn | hn
                  · rw [hn, decide_eq_true rfl] at HI
                    rcases timeErr_or x.2.1 with ht | ht
                    · rw [ht, decide_eq_true rfl] at HT
                      have HZ : Hid (pointErr ps[k] = 0) := hide (by rw [HX.out]; unfold pointErr; rw [if_neg (by omega), ht])
                      clear hn ht
                      go_wp2_with fail
                      refine (HI.out _).mono ?_
                      rintro e w5 ⟨rfl, hw5⟩
                      subst hw5
                      go_wp2_with fail
                      refine (HT.out _).mono ?_
                      rintro e w6 ⟨rfl, hw6⟩
                      subst hw6
                      go_wp2
                      go_roundw
                      case rel => exact ⟨k + 1, by omega, by go_num, HGR, hide (fun j hj h => by
                        rcases Nat.lt_or_ge j k with h' | h'
                        · exact HAL.out j hj h'
                        · obtain rfl : j = k := by omega
                          exact HZ.out)⟩
                      case measure => simp [intOf]; omega
                    · rw [ht, decide_eq_false (by decide)] at HT
                      have hz : pointErr ps[k] = 3 := by rw [HX.out]; unfold pointErr; rw [if_neg (by omega), ht]
                      have HEE : Hid (3 = E) := hide (by rw [← HE2.out, pointsErr_at hlt (fun j hj h => HAL.out j hj h) (by rw [hz]; decide), hz])
                      clear hn ht hz
                      go_wp2_with fail
                      refine (HI.out _).mono ?_
                      rintro e w5 ⟨rfl, hw5⟩
                      subst hw5
                      go_wp2_with fail
                      refine (HT.out _).mono ?_
                      rintro e w6 ⟨rfl, hw6⟩
                      subst hw6
                      go_wp2
                      go_ret
                      exact ⟨ret_int (by rw [← HEE.out]; rfl), HG.out.trans HGR.out⟩
                  · rw [hn, decide_eq_false (by decide)] at HI
                    have hz : pointErr ps[k] = 3 := by rw [HX.out]; unfold pointErr; rw [if_pos (by omega), hn]
                    have HEE : Hid (3 = E) := hide (by rw [← HE2.out, pointsErr_at hlt (fun j hj h => HAL.out j hj h) (by rw [hz]; decide), hz])
                    clear hn hz
                    go_wp2_with fail
                    refine (HI.out _).mono ?_
                    rintro e w5 ⟨rfl, hw5⟩
                    subst hw5
                    go_wp2
                    go_ret
                    exact ⟨ret_int (by rw [← HEE.out]; rfl), HG.out.trans HGR.out⟩
                · obtain rfl : k = ps.length := by omega
                  have HEE : Hid (0 = E) := hide (by rw [← HE2.out, pointsErr_all (fun j hj => HAL.out j hj hj)])
                  go_wp2
                  go_ret
                  exact ⟨ret_int (by rw [← HEE.out]; rfl), HG.out.trans HGR.out⟩
end Go.Proofs.YtkaeogldielkfaaGreat.Rc
