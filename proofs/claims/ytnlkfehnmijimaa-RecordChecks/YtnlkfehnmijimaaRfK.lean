/- record: the document's own check of records. -/
import Derived.Laws.OwnMore
import Derived.Test.YtnlkfehnmijimaaProg
import Derived.Test.YtnlkfehnmijimaaKit
import Derived.Test.YtnlkfehnmijimaaSpec
import Derived.Test.YtnlkfehnmijimaaReg
import Derived.Test.YtnlkfehnmijimaaLRow
import Derived.Test.YtnlkfehnmijimaaLRefA
import Derived.Test.YtnlkfehnmijimaaRcA
import Derived.Test.YtnlkfehnmijimaaRcM
import Derived.Test.YtnlkfehnmijimaaRcN
import Derived.Test.YtnlkfehnmijimaaRcP
import Derived.Test.YtnlkfehnmijimaaRcR
import Derived.Test.YtnlkfehnmijimaaRcZ
import Derived.BigQuiet
set_option linter.unusedVariables false
set_option linter.unusedSimpArgs false
namespace Go.Proofs.Ytnlkfehnmijimaa.Rc
open Go.RowKit Lb
attribute [local go_sem] bs_size bs_toList bs_append bs_get bs_extract

theorem numErr_or (n : Int) : numErr n = 0 ∨ numErr n = 3 := by unfold numErr; split <;> simp
theorem timeErr_or (n : Int) : timeErr n = 0 ∨ timeErr n = 3 := by unfold timeErr; split <;> simp
theorem pointErr_or (p : Pnt) : pointErr p = 0 ∨ pointErr p = 3 := by
  unfold pointErr
  rcases numErr_or p.1 with h | h
  · rw [if_neg (by omega)]; exact timeErr_or _
  · rw [if_pos (by omega)]; exact .inr h
set_option maxRecDepth 20000 in
set_option maxHeartbeats 8000000 in
theorem rCheckRecord_any (w : World) (vr vp : Value) (r : Rcd) (hr : readsRefs w w.heap.size vr r.refs) (hp : readsPoints w w.heap.size vp r.points) (hok : okRec r) :
    Calls Try.prog 8 #[.agg #[.int .i64 r.kind, vr, vp]] w fun e w' => e = .returned (.int .i64 (recErr r)) ∧ Grow w w' := by
  obtain ⟨E, HE⟩ : ∃ E, Hid (recErr r = E) := ⟨_, hide rfl⟩
  have HE1 : Hid ((if r.kind ≠ 1 ∧ r.kind ≠ 2 then 7
    else if (r.kind = 1 ∧ 0 < r.points.length) ∨ (r.kind = 2 ∧ 0 < r.refs.length) then 1
    else if 200 < r.refs.length ∨ 200 < r.points.length then 2
    else if refsErr r.refs ≠ 0 then refsErr r.refs else pointsErr r.points) = E) := HE
  rw [HE.out]
  clear HE
  obtain ⟨kind, rs, ps⟩ := r
  obtain ⟨hk, hrl, hpl, hro, hpo⟩ := hok
  simp only at HE1 hr hp hk hrl hpl hro hpo ⊢
  have HRO := hide hro
  have HPO := hide hpo
  have HR := hide hr
  have HP := hide hp
  obtain ⟨ro, rc, rfl, _⟩ := hr
  obtain ⟨po, pc, rfl, _⟩ := hp
  obtain ⟨W, eW, gW, hW⟩ := laid_at w #[.int .i64 kind, .slice ro rs.length rc, .slice po ps.length pc] 25
  have HW := hide hW
  have HG := hide gW
  obtain ⟨c0, c1, c2⟩ := three_of hW
  have hRW : Hid (readsRefs W w.heap.size (.slice ro rs.length rc) rs) := hide (HR.out.keep gW)
  have hPW : Hid (readsPoints W w.heap.size (.slice po ps.length pc) ps) := hide (HP.out.keep gW)
  have hlW := gW.size
  clear hW gW hro hpo HR HP
  by_cases hk12 : kind ≠ 1 ∧ kind ≠ 2
  · rw [if_pos hk12] at HE1
    have h1 : (kind != 1) = true := by simp; exact hk12.1
    have h2 : (kind != 2) = true := by simp; exact hk12.2
    clear hk12
    go_enter Try.func8, Try.ntmps8
    go_wp2
    go_ret
    exact ⟨ret_int (by rw [← HE1.out]; rfl), HG.out⟩
  · rw [if_neg hk12] at HE1
    have hk3 : kind = 1 ∨ kind = 2 := by omega
    clear hk12 hk
    rcases hk3 with rfl | rfl
    · as_aux_lemma =>
        by_cases hA : 0 < ps.length
        · rw [if_pos (.inl ⟨rfl, hA⟩)] at HE1
          have hAd : decide (0 < ps.length) = true := decide_eq_true hA
          clear hA
          go_enter Try.func8, Try.ntmps8
          go_wp2
          go_ret
          exact ⟨ret_int (by rw [← HE1.out]; rfl), HG.out⟩
        · rw [if_neg (by omega)] at HE1
          have hAd : decide (0 < ps.length) = false := decide_eq_false hA
          have hA2 : decide ((200 : Int) < (ps.length : Int)) = false := decide_eq_false (by omega)
          by_cases hB : 200 < rs.length
          · rw [if_pos (.inl hB)] at HE1
            have hBi : decide ((200 : Int) < (rs.length : Int)) = true := decide_eq_true (by omega)
            clear hA hB
            go_enter Try.func8, Try.ntmps8
            go_wp2
            go_ret
            exact ⟨ret_int (by rw [← HE1.out]; rfl), HG.out⟩
          · rw [if_neg (by omega)] at HE1
            have hBi : decide ((200 : Int) < (rs.length : Int)) = false := decide_eq_false (by omega)
            have HL : Hid (ps = []) := hide (List.length_eq_zero_iff.1 (by omega))
            clear hA hB
            go_enter Try.func8, Try.ntmps8
            go_wp2
            go_loopw [3, 4] (fun iv ev wr => ∃ k : Nat, k ≤ rs.length ∧ iv = .int .i64 k ∧ Hid (Grow W wr) ∧ Hid (∀ j (hj : j < rs.length), j < k → refErr rs[j] = 0)) (fun iv _ _ => rs.length - (intOf iv).toNat)
            case atStart => exact ⟨0, by omega, rfl, hide (Grow.refl _), hide (fun j hj h => by omega)⟩
            case round =>
              obtain ⟨k, hk, rfl, HGR, HAL⟩ := hrel
              obtain ⟨cb0, cb1, cb2⟩ := three_of (HGR.out.get HW.out)
              by_cases hlt : k < rs.length
              · have hlti : (k : Int) < (rs.length : Int) := by omega
                obtain ⟨rb, rof, vl, rfl, hrB, hls, cr0, cr1⟩ : ∃ b' o vl, ro = some ⟨b', o, none⟩ ∧ b' < w.heap.size ∧ readsLabels wr w.heap.size vl rs[k].2 ∧ wr.cell? ⟨b', o + k * 2, none⟩ = some (.int .i64 rs[k].1) ∧ wr.cell? ⟨b', o + k * 2 + 1, none⟩ = some vl := by
                  obtain ⟨ao', cp', e, h⟩ := hRW.out.keep (Below.mono HGR.out (by omega))
                  cases e
                  exact h k hlt
                have hok := HRO.out _ (List.getElem_mem hlt)
                have HC := hide (rCheckRef_any wr rs[k] vl (readsLabels_mono hls (by have := HGR.out.size; omega)) hok)
                obtain ⟨lo, lc, rfl⟩ := readsLabels_len hls
                obtain ⟨x1, hx1⟩ : ∃ x1, rs[k].1 = x1 := ⟨_, rfl⟩
                obtain ⟨ce, HCE⟩ : ∃ ce, Hid (refErr rs[k] = ce) := ⟨_, hide rfl⟩
                obtain ⟨ln, hln⟩ : ∃ ln, rs[k].2.length = ln := ⟨_, rfl⟩
                rw [HCE.out, hx1, hln] at HC
                rw [hx1] at cr0
                rw [hln] at cr1
                clear hls hok hx1 hln
                go_wp2_with fail
                refine HC.out.mono ?_
                rintro e w3 ⟨rfl, hg3⟩
                have HG3 := hide (HGR.out.trans hg3)
                clear hg3 HC
                by_cases hce : ce = 0
                · have hci : ((ce : Int) != 0) = false := by simp [hce]
                  have HZ := hide (HCE.out.trans hce)
                  clear hce
                  go_wp2
                  go_roundw
                  case rel => exact ⟨k + 1, by omega, by go_num, HG3, hide (fun j hj h => by
                    rcases Nat.lt_or_ge j k with h' | h'
                    · exact HAL.out j hj h'
                    · obtain rfl : j = k := by omega
                      exact HZ.out)⟩
                  case measure => simp [intOf]; omega
                · have hci : ((ce : Int) != 0) = true := by simp; exact hce
                  have hat := refsErr_at hlt (fun j hj h => HAL.out j hj h) (by rw [HCE.out]; exact hce)
                  have HEE : Hid (ce = E) := hide (by rw [← HE1.out, if_pos (by rw [hat, HCE.out]; exact hce), hat, HCE.out])
                  clear hce hat
                  go_wp2
                  go_ret
                  exact ⟨ret_int (by rw [HEE.out]), HG.out.trans HG3.out⟩
              · obtain rfl : k = rs.length := by omega
                have hall := refsErr_all (fun j hj => HAL.out j hj hj)
                have HEE : Hid (0 = E) := hide (by rw [← HE1.out, if_neg (by rw [hall]; simp), HL.out]; rfl)
                clear hall
                go_wp2
                go_loopw [5] (fun iv w5 => iv = .int .i64 0 ∧ Hid (Grow W w5)) (fun _ _ => 0)
                case atStart => exact ⟨rfl, HGR⟩
                case round =>
                  obtain ⟨rfl, HG5⟩ := hrel
                  obtain ⟨cb0, cb1, cb2⟩ := three_of (HG5.out.get HW.out)
                  go_wp2
                  go_ret
                  exact ⟨ret_int (by rw [← HEE.out]; rfl), HG.out.trans HG5.out⟩
    · as_aux_lemma =>
        by_cases hA : 0 < rs.length
        · rw [if_pos (.inr ⟨rfl, hA⟩)] at HE1
          have hAd : decide (0 < rs.length) = true := decide_eq_true hA
          clear hA
          go_enter Try.func8, Try.ntmps8
          go_wp2
          go_ret
          exact ⟨ret_int (by rw [← HE1.out]; rfl), HG.out⟩
        · rw [if_neg (by omega)] at HE1
          have hAd : decide (0 < rs.length) = false := decide_eq_false hA
          have hA2 : decide ((200 : Int) < (rs.length : Int)) = false := decide_eq_false (by omega)
          by_cases hB : 200 < ps.length
          · rw [if_pos (.inr hB)] at HE1
            have hBi : decide ((200 : Int) < (ps.length : Int)) = true := decide_eq_true (by omega)
            clear hA hB
            go_enter Try.func8, Try.ntmps8
            go_wp2
            go_ret
            exact ⟨ret_int (by rw [← HE1.out]; rfl), HG.out⟩
          · rw [if_neg (by omega)] at HE1
            have hBi : decide ((200 : Int) < (ps.length : Int)) = false := decide_eq_false (by omega)
            have HL : Hid (rs = []) := hide (List.length_eq_zero_iff.1 (by omega))
            have HE2 : Hid (pointsErr ps = E) := hide (by rw [← HE1.out, HL.out, if_neg (by simp [refsErr])])
            clear hA hB HE1
            go_enter Try.func8, Try.ntmps8
            go_wp2
            go_loopw [3, 4] (fun iv ev w5 => iv = .int .i64 0 ∧ Hid (Grow W w5)) (fun _ _ _ => 0)
            case atStart => exact ⟨rfl, hide (Grow.refl _)⟩
            case round =>
              rename World => w4
              obtain ⟨rfl, HG4⟩ := hrel
              obtain ⟨cb0, cb1, cb2⟩ := three_of (HG4.out.get HW.out)
              go_wp2
              go_loopw [5] (fun iv wr => ∃ k : Nat, k ≤ ps.length ∧ iv = .int .i64 k ∧ Hid (Grow W wr) ∧ Hid (∀ j (hj : j < ps.length), j < k → pointErr ps[j] = 0)) (fun iv _ => ps.length - (intOf iv).toNat)
              case atStart => exact ⟨0, by omega, rfl, HG4, hide (fun j hj h => by omega)⟩
              case round =>
                obtain ⟨k, hk, rfl, HGR, HAL⟩ := hrel
                obtain ⟨ca0, ca1, ca2⟩ := three_of (HGR.out.get HW.out)
                by_cases hlt : k < ps.length
                · have hlti : (k : Int) < (ps.length : Int) := by omega
                  obtain ⟨rb, rof, rfl, hrB, cr0, cr1, cr2⟩ : ∃ b' o, po = some ⟨b', o, none⟩ ∧ b' < w.heap.size ∧ wr.cell? ⟨b', o + k * 3, none⟩ = some (.int .i64 ps[k].1) ∧ wr.cell? ⟨b', o + k * 3 + 1, none⟩ = some (.int .i64 ps[k].2.1) ∧ wr.cell? ⟨b', o + k * 3 + 2, none⟩ = some (.int .u64 (ps[k].2.2 : Nat)) := by
                    obtain ⟨ao', cp', e, h⟩ := hPW.out.keep (Below.mono HGR.out (by omega))
                    cases e
                    exact h k hlt
                  obtain ⟨x, hx⟩ : ∃ x, ps[k] = x := ⟨_, rfl⟩
                  rw [hx] at cr0 cr1 cr2
                  have HX := hide hx
                  have HI := hide (isRef_any x.1)
                  have HT := hide (isTime_any x.2.1)
                  clear hx
                  rcases numErr_or x.1 with hn | hn
                  · rw [hn, decide_eq_true rfl] at HI
                    rcases timeErr_or x.2.1 with ht | ht
                    · rw [ht, decide_eq_true rfl] at HT
                      have HZ : Hid (pointErr ps[k] = 0) := hide (by rw [HX.out]; unfold pointErr; rw [if_neg (by omega), ht])
                      clear hn ht
                      go_wp2_with fail
                      refine (HI.out _).mono ?_
                      rintro e w5 ⟨rfl, hw5⟩
                      subst hw5
                      go_wp2_with fail
                      refine (HT.out _).mono ?_
                      rintro e w6 ⟨rfl, hw6⟩
                      subst hw6
                      go_wp2
                      go_roundw
                      case rel => exact ⟨k + 1, by omega, by go_num, HGR, hide (fun j hj h => by
                        rcases Nat.lt_or_ge j k with h' | h'
                        · exact HAL.out j hj h'
                        · obtain rfl : j = k := by omega
                          exact HZ.out)⟩
                      case measure => simp [intOf]; omega
                    · rw [ht, decide_eq_false (by decide)] at HT
                      have hz : pointErr ps[k] = 3 := by rw [HX.out]; unfold pointErr; rw [if_neg (by omega), ht]
                      have HEE : Hid (3 = E) := hide (by rw [← HE2.out, pointsErr_at hlt (fun j hj h => HAL.out j hj h) (by rw [hz]; decide), hz])
                      clear hn ht hz
                      go_wp2_with fail
                      refine (HI.out _).mono ?_
                      rintro e w5 ⟨rfl, hw5⟩
                      subst hw5
                      go_wp2_with fail
                      refine (HT.out _).mono ?_
                      rintro e w6 ⟨rfl, hw6⟩
                      subst hw6
                      go_wp2
                      go_ret
                      exact ⟨ret_int (by rw [← HEE.out]; rfl), HG.out.trans HGR.out⟩
                  · rw [hn, decide_eq_false (by decide)] at HI
                    have hz : pointErr ps[k] = 3 := by rw [HX.out]; unfold pointErr; rw [if_pos (by omega), hn]
                    have HEE : Hid (3 = E) := hide (by rw [← HE2.out, pointsErr_at hlt (fun j hj h => HAL.out j hj h) (by rw [hz]; decide), hz])
                    clear hn hz
                    go_wp2_with fail
                    refine (HI.out _).mono ?_
                    rintro e w5 ⟨rfl, hw5⟩
                    subst hw5
                    go_wp2
                    go_ret
                    exact ⟨ret_int (by rw [← HEE.out]; rfl), HG.out.trans HGR.out⟩
                · obtain rfl : k = ps.length := by omega
                  have HEE : Hid (0 = E) := hide (by rw [← HE2.out, pointsErr_all (fun j hj => HAL.out j hj hj)])
                  go_wp2
                  go_ret
                  exact ⟨ret_int (by rw [← HEE.out]; rfl), HG.out.trans HGR.out⟩
end Go.Proofs.Ytnlkfehnmijimaa.Rc
