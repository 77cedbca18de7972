/- 2 texts in one. -/
import Derived.Laws.OwnMore
import Derived.Test.YtndpjdmfkhjiiaaGreatDoorProg
import Derived.Test.YtndpjdmfkhjiiaaGreatDoorK06d19db
import Derived.Test.YtndpjdmfkhjiiaaGreatDoorKe772336
import Derived.Test.YtndpjdmfkhjiiaaGreatDoorKab34d13
import Derived.Test.YtndpjdmfkhjiiaaGreatDoorKb2b9ece
import Derived.Test.YtndpjdmfkhjiiaaGreatDoorKc76daa3
import Derived.Test.YtndpjdmfkhjiiaaGreatDoorK5d56f90
import Derived.Test.YtndpjdmfkhjiiaaGreatDoorK7b71bcd
import Derived.Test.YtndpjdmfkhjiiaaGreatDoorKb1922dc
import Derived.Test.YtndpjdmfkhjiiaaGreatDoorKca9d0f8
import Derived.Test.YtndpjdmfkhjiiaaGreatDoorK4fd5eb5
import Derived.BigFrame
import Derived.BigQuiet
set_option linter.unusedVariables false
set_option linter.unusedSimpArgs false
namespace Go.Proofs.YtndpjdmfkhjiiaaGreatDoor.Rl
open Go.RowKit Lb
attribute [local go_sem] bs_size bs_toList bs_append bs_get bs_extract
def OfPost (R : List Lab × Bool × Nat) (e : Ending) (w' : World) : Prop := ∃ mo n mc, e = .returned (.tuple #[.slice mo n mc, .bool R.2.1, .int .i64 R.2.2]) ∧ readsLabels w' w'.heap.size (.slice mo n mc) R.1
theorem reads_none (w : World) (B : Nat) : readsLabels w B (.slice none 0 0) [] := ⟨none, 0, rfl, fun i h => absurd h (by simp)⟩
theorem OfPost.none {R : List Lab × Bool × Nat} {n : Nat} {w : World} (h : R = ([], false, n)) : OfPost R (.returned (.tuple #[.slice none 0 0, .bool false, .int .i64 n])) w := by
 subst h
 exact ⟨_, _, _, rfl, reads_none _ _⟩
theorem OfPost.some {n : Nat} {R : List Lab × Bool × Nat} {mo : Option Addr} {mc : Nat} {l : List Lab} {w : World} (h : R = (l, true, 0)) (ho : readsLabels w w.heap.size (.slice mo n mc) l) : OfPost R (.returned (.tuple #[.slice mo n mc, .bool true, .int .i64 0])) w := by
 subst h
 exact ⟨_, _, _, rfl, ho⟩
theorem reads_up {w w' : World} {v : Value} {l : List Lab} (h : readsLabels w w.heap.size v l) (hg : Grow w w') : readsLabels w' w'.heap.size v l := readsLabels_mono (readsLabels_below h hg) hg.size
theorem seven_kind {w : World} {b : Nat} {r : Rul} {v : Value} {t : TypeId} {k : Int} (hk : r.kind = k) (h : w.heap[b]? = some (.cells #[.int .i64 r.kind, v, .string (bs r.between), .string (bs r.mask), .int .i64 r.modulus, .string (bs r.target), .string (bs r.repl)] t (0, 0))) :
  w.cell? ⟨b, 0, none⟩ = some (.int .i64 k) ∧ w.cell? ⟨b, 4, none⟩ = some (.int .i64 r.modulus) ∧ w.cell? ⟨b, 5, none⟩ = some (.string (bs r.target)) ∧ w.cell? ⟨b, 6, none⟩ = some (.string (bs r.repl)) := by
 subst hk
 obtain ⟨c0, c1, c2, c3, c4, c5, c6⟩ := seven_cells h
 exact ⟨c0, c4, c5, c6⟩
def OneS (s : List UInt8) (v : Value) (w : World) : Prop := ∃ b, v = .slice (some ⟨b, 0, none⟩) 1 1 ∧ readsLabels w w.heap.size (.slice (some ⟨b, 0, none⟩) 1 1) [([120], s)]
theorem OneS.up {s : List UInt8} {v : Value} {w w' : World} (h : OneS s v w) (hg : Grow w w') : OneS s v w' := by
 obtain ⟨b, e, h⟩ := h
 exact ⟨b, e, reads_up h hg⟩
theorem one_laid (w : World) (s : List UInt8) : OneS s (.slice (some ⟨w.heap.size, 0, none⟩) 1 1) (w.alloc (.cells #[.string { data := #[120] }, .string (bs s)] 39)) := ⟨_, rfl, one_reads w [120] s⟩
theorem wrap_i64_sm (x : Int) (h0 : 0 ≤ x) (h : x < 9223372036854775808) : IntKind.i64.wrap x = x := by
 unfold IntKind.wrap; simp [IntKind.bits, IntKind.signed]; omega
set_option maxRecDepth 20000 in
set_option maxHeartbeats 64000000 in
theorem applyOf_any (w : World) (va vr : Value) (ls : List Lab) (rs : List Rul) (ha : readsLabels w w.heap.size va ls) (hlen : ls.length ≤ 9223372036854775807) (hin : lensOk ls) (hr : readsRules w w.heap.size vr rs) (hrl : rs.length ≤ 9223372036854775807) (hok : okRs rs) :
  Calls Tryz.prog 14 #[va, vr] w fun e w' => Grow w w' ∧ OfPost (applyB ls rs) e w' := by
 obtain ⟨R, HR⟩ : ∃ R, Hid (applyB ls rs = R) := ⟨_, hide rfl⟩
 rw [HR.out]
 have HR1 : Hid ((if allErr ls rs ≠ 0 then ([], false, allErr ls rs) else ruleGo rs ls) = R) := HR
 have HCL := hide (rCheckLabels_any w va ls ha hlen hin)
 obtain ⟨lo, lc, hva⟩ := readsLabels_len ha
 subst hva
 have HA := hide ha
 have HRR := hide hr
 have HOK := hide hok
 obtain ⟨ro, rc, hvr, _⟩ := hr
 subst hvr
 clear ha hin hok HR
 obtain ⟨A, HAE⟩ : ∃ A, Hid (allErr ls rs = A) := ⟨_, hide rfl⟩
 rw [HAE.out] at HR1
 by_cases h30 : 30 < rs.length
 ·
  have h30' : (30 : Int) < rs.length := by omega
  have hR : R = ([], false, 2) := by
   have : A = 2 := by rw [← HAE.out]; unfold allErr; rw [if_pos h30]
   rw [← HR1.out, this]; rfl
  have HRE := hide hR
  clear hR HR1 HAE HCL
  go_enter Tryz.func14, Tryz.ntmps14
  go_wp2
  simp [bodyPost, results, Tryz.results14, go_sem]
  exact ⟨Grow.refl _, OfPost.none HRE.out⟩
 have h30' : ¬ (30 : Int) < rs.length := by omega
 obtain ⟨F, HF⟩ : ∃ F : Nat, Hid (checkB ls = F) := ⟨_, hide rfl⟩
 have HAE1 : Hid ((if F ≠ 0 then F else rulesErr rs) = A) := hide (by rw [← HAE.out, ← HF.out]; unfold allErr; rw [if_neg h30])
 rw [HF.out] at HCL
 go_enter Tryz.func14, Tryz.ntmps14
 go_wp2_with fail
 refine HCL.out.mono ?_
 rintro e w1 ⟨rfl, n1, hw1⟩
 have HG1 : Hid (Grow w w1) := hide (by rw [hw1]; exact grow_drewN _ _)
 clear hw1 HCL h30
 go_wp2
 go_loopw [7, 8] (fun ev i wr => ∃ (k E : Nat), k ≤ rs.length ∧ i = .int .i64 k ∧ ev = .int .i64 E ∧ Hid (Grow w wr) ∧ Hid (E = if F ≠ 0 then F else rulesErr (rs.take k))) (fun _ i _ => rs.length - (intOf i).toNat)
 case atStart => exact ⟨0, F, by omega, rfl, rfl, HG1, hide (by by_cases h : F = 0 <;> simp [h, rulesErr])⟩
 case round =>
  obtain ⟨k, E, hk, rfl, rfl, HG, HEQ⟩ := hrel
  by_cases hE : E = 0
  ·
   have hF0 : F = 0 ∧ rulesErr (rs.take k) = 0 := by
    have h := HEQ.out
    rw [hE] at h
    by_cases hf : F = 0
    ·
     rw [if_neg (by omega)] at h; exact ⟨hf, h.symm⟩
    ·
     rw [if_pos hf] at h; exact absurd h.symm hf
   have HF0 := hide hF0
   clear hF0
   subst hE
   by_cases hlt : k < rs.length
   ·
    obtain ⟨ao', cp', hv', hcells⟩ := HRR.out.keep HG.out
    cases hv'
    obtain ⟨lb, lo', vs, rfl, hlB, hst, d0, d1, d2, d3, d4, d5, d6⟩ := hcells k hlt
    clear hcells
    obtain ⟨hok, hwf⟩ := HOK.out _ (List.getElem_mem hlt)
    obtain ⟨r, HX⟩ : ∃ r : Rul, Hid (rs[k] = r) := ⟨_, hide rfl⟩
    rw [HX.out] at d0 d2 d3 d4 d5 d6 hst hok hwf
    obtain ⟨so, sc, evs, _⟩ := id hst
    subst evs
    have HCR := hide (rCheckRule_any wr r (.slice so r.sources.length sc) (hst.more HG.out.size) hok)
    have HNX : Hid (ruleErr r = if F ≠ 0 then F else rulesErr (rs.take (k + 1))) := hide (by
     rw [if_neg (by rw [HF0.out.1]; simp), List.take_succ_eq_append_getElem hlt, rulesErr_snoc, HF0.out.2, HX.out]
     rfl)
    generalize ruleErr r = P at HCR HNX
    clear hst hok hwf
    go_wp2_with fail
    refine HCR.out.mono ?_
    rintro e w2 ⟨rfl, hg2⟩
    have HG2 : Hid (Grow w w2) := hide (HG.out.trans hg2)
    clear hg2
    go_wp2
    go_roundw
    case rel => exact ⟨k + 1, P, by omega, by go_num, rfl, HG2, HNX⟩
    case measure => simp [intOf]; omega
   ·
    obtain rfl : k = rs.length := by omega
    have h0 : A = 0 := by rw [← HAE1.out, if_neg (by rw [HF0.out.1]; simp), ← HF0.out.2, List.take_length]
    obtain ⟨hr30, hc, hrr⟩ := allErr_zero (HAE.out.trans h0)
    rw [if_neg (by omega)] at HR1
    have HC := hide hc
    have HRT := hide hrr
    have HML := hide (reads_up HA.out HG.out)
    clear hc hrr h0 HAE HAE1 HEQ HF0 HF
    rw [show ((0 : Nat) : Int) = 0 from rfl]
    go_wp2
    go_loopw [0, 9] (fun lv i wr => ∃ (k : Nat) (made : List Lab) (mo : Option Addr) (mc : Nat), k ≤ rs.length ∧ i = .int .i64 k ∧ lv = .slice mo made.length mc ∧ Hid (readsLabels wr wr.heap.size lv made) ∧ Hid (checkB made = 0) ∧ Hid (ruleGo (rs.drop k) made = R) ∧ Hid (Grow w wr)) (fun _ i _ => rs.length - (intOf i).toNat)
    case atStart => exact ⟨0, ls, lo, lc, by omega, rfl, rfl, HML, HC, HR1, HG⟩
    case round =>
     clear HML HC HG
     obtain ⟨k, made, mo, mc, hk, rfl, rfl, HM, HCM, HD, HG⟩ := hrel
     by_cases hlt : k < rs.length
     ·
      obtain ⟨ro', rc', hv', hcells⟩ := HRR.out.keep HG.out
      simp only [Value.slice.injEq] at hv'
      obtain ⟨rfl, -, rfl⟩ := hv'
      obtain ⟨rb, rf, vs, rfl, hlB, hst, d0, d1, d2, d3, d4, d5, d6⟩ := hcells k hlt
      clear hcells
      have hmem := List.getElem_mem hlt
      obtain ⟨hokr, _⟩ := HOK.out _ hmem
      have hrr := HRT.out _ hmem
      have hdrop : ruleGo (rs.drop k) made = ruleGo (rs[k] :: rs.drop (k + 1)) made := by rw [List.drop_eq_getElem_cons hlt]
      obtain ⟨r, HX⟩ : ∃ r : Rul, Hid (rs[k] = r) := ⟨_, hide rfl⟩
      rw [HX.out] at d0 d2 d3 d4 d5 d6 hst hokr hrr hdrop
      obtain ⟨so, sc, evs, _⟩ := id hst
      subst evs
      obtain ⟨W, eW, gW, sW, hW⟩ := laid_rule wr (.int .i64 r.kind) (.slice so r.sources.length sc) (.string (bs r.between)) (.string (bs r.mask)) (.int .i64 r.modulus) (.string (bs r.target)) (.string (bs r.repl)) 24
      obtain ⟨wb, hwb⟩ : ∃ b, wr.heap.size = b := ⟨_, rfl⟩
      rw [hwb] at hW
      have HWB := hide hwb
      have HGW : Hid (Grow w W) := hide (HG.out.trans gW)
      have HMW := hide (reads_up HM.out gW)
      have HSW := hide ((hst.more HG.out.size).keep gW |>.more gW.size)
      obtain ⟨hk1, hk7, hpe, hke⟩ := rule_right hrr
      obtain ⟨hs20, hb100, hrp, htg, T, g, hm⟩ := parts_right hpe
      have HNMS := hide (parts_names hpe)
      have HSRL := hide (srcP_len (r := r) (ls := made) HCM.out hb100)
      have HMO := hide fun W2 => maskOf_any W2 r.mask hokr.2.2.2.1
      have hg9 := (maskIs_ok hm).2.2.1
      unfold maskPost at HMO
      simp only [hm] at HMO
      have HMI := hide hm
      have HKE := hide hke
      have HW := hide hW
      have HDR := hide hdrop
      rw [HDR.out] at HD
      clear hdrop HDR gW hW hst hokr hrr hpe hmem hm hke hwb
      obtain ⟨src, HSRC⟩ : ∃ src, Hid (sourceB r made = src) := ⟨_, hide rfl⟩
      have HSA : Hid (srcP r made r.sources.length = src) := hide ((srcP_all HCM.out HNMS.out).trans HSRC.out)
      have h20 := (right_small HCM.out).1
      go_wp2
      rw [HWB.out]
      go_loopw [11, 12] (fun sv jv wr => ∃ (j : Nat) (s0 : List UInt8), j ≤ r.sources.length ∧ jv = .int .i64 j ∧ sv = .string (bs s0) ∧ Hid (srcP r made j = s0) ∧ Hid (Grow W wr)) (fun _ jv _ => r.sources.length - (intOf jv).toNat)
      case atStart => exact ⟨0, [], by omega, rfl, rfl, hide (srcP_zero r made), hide (Grow.refl _)⟩
      case round =>
       clear eW d0 d1 d2 d3 d4 d5 d6
       obtain ⟨j, s0, hj, rfl, rfl, HS0, HG2⟩ := hrel
       obtain ⟨c0, c1, c2, c3, c4, c5, c6⟩ := seven_cells (HG2.out.get HW.out)
       have hs0l := HSRL.out j hj
       rw [HS0.out] at hs0l
       by_cases hjlt : j < r.sources.length
       ·
        obtain ⟨sb, sf, rfl, hsB, e0⟩ : ∃ b o, so = some ⟨b, o, none⟩ ∧ b < W.heap.size ∧ wr.cell? ⟨b, o + j, none⟩ = some (.string (bs r.sources[j])) := by
         obtain ⟨ao, cp, e, h⟩ := HSW.out.keep HG2.out
         cases e
         exact h j hjlt
        have HST := hide (srcP_step (ls := made) hjlt)
        rw [HS0.out] at HST
        have HV := hide (rValueOf_any wr _ made r.sources[j] (reads_up HMW.out HG2.out) (by omega))
        generalize r.sources[j] = nm at e0 HST HV
        have hvl : (valueB made nm).length ≤ 100 := valueB_le fun x hx => ((eachErr_zero.1 (checkB_zero.1 HCM.out).1).2 x hx).2.2
        generalize valueB made nm = vv at HST HV hvl
        by_cases h0 : 0 < j
        ·
         rw [if_pos h0, List.append_assoc] at HST
         have h0' : (0 : Int) < (j : Int) := by omega
         go_wp2_with fail
         refine HV.out.mono ?_
         rintro e w3 ⟨rfl, n3, hw3⟩
         have HG3 : Hid (Grow W w3) := hide (HG2.out.trans (by rw [hw3]; exact grow_drewN _ _))
         clear hw3 HV
         go_wp2
         go_roundw
         case rel => exact ⟨j + 1, _, by omega, by go_num, rfl, HST, HG3⟩
         case measure => simp [intOf]; omega
        ·
         rw [if_neg h0] at HST
         have h0' : ¬ (0 : Int) < (j : Int) := by omega
         go_wp2_with fail
         refine HV.out.mono ?_
         rintro e w3 ⟨rfl, n3, hw3⟩
         have HG3 : Hid (Grow W w3) := hide (HG2.out.trans (by rw [hw3]; exact grow_drewN _ _))
         clear hw3 HV
         go_wp2
         go_roundw
         case rel => exact ⟨j + 1, _, by omega, by go_num, rfl, HST, HG3⟩
         case measure => simp [intOf]; omega
       ·
        obtain rfl : j = r.sources.length := by omega
        obtain rfl : s0 = src := HS0.out.symm.trans HSA.out
        clear HSA HS0 HSRL HSW hjlt hs0l
        by_cases h2000 : 2000 < s0.length
        ·
         have h2000' : (2000 : Int) < (s0.length : Int) := by omega
         have hR : R = ([], false, 2) := by rw [← HD.out, ruleGo, HSRC.out, if_pos h2000]
         have HRE := hide hR
         clear hR HR1 HD h2000
         go_wp2
         simp [bodyPost, results, Tryz.results14, go_sem]
         exact ⟨HGW.out.trans HG2.out, OfPost.none HRE.out⟩
        ·
         have h2000' : ¬ (2000 : Int) < (s0.length : Int) := by omega
         have hs2 : s0.length ≤ 2000 := by omega
         clear h2000
         have HMX := hide (HMO.out wr)
         clear HMO
         go_wp2_with fail
         refine HMX.out.mono ?_
         rintro e w3 ⟨hg3, v3, k3, ys3, rfl, ho3, hc3⟩
         obtain ⟨o3, cp3, rfl⟩ := own_shape ho3
         have gV : Grow w3 (w3.alloc (.cells #[.int .i64 0, .int .i64 0] 65)) := (Grow.refl _).alloc _
         obtain ⟨V, eV⟩ : ∃ V, V = w3.alloc (.cells #[.int .i64 0, .int .i64 0] 65) := ⟨_, rfl⟩
         have HEV := hide eV
         rw [← eV] at gV
         have HGV : Hid (Grow W V) := hide ((HG2.out.trans hg3).trans gV)
         have HOV := hide (own_le (B' := 0) (own_grow ho3 gV) (Nat.zero_le _))
         have HCV := hide (hc3.any.grow gV)
         have HFIT := hide fun (W2 : World) (hg : Grow V W2) (t : List UInt8) (ht : t.length ≤ 2000) => fit_any HMI.out W2 _ k3 ys3 t ht (own_grow HOV.out hg) (HCV.out.grow hg)
         have HFX := hide (HFIT.out V (Grow.refl _) s0 hs2)
         clear hg3 ho3 hc3 gV eV c0 c1 c2 c4 c5 c6 HMX HOV HCV
         go_wp2_with fail
         rw [← HEV.out]
         refine HFX.out.mono ?_
         rintro e w4 ⟨hg4, fo, fn, fc, rfl, htk⟩
         have HG4 : Hid (Grow W w4) := hide (HGV.out.trans hg4)
         have HV4 := hide hg4
         have HTK := hide htk
         have HM4 := hide (reads_up HMW.out HG4.out)
         have HGw : Hid (Grow w w4) := hide (HGW.out.trans HG4.out)
         clear hg4 HEV htk HFX HG2 c3 HMW
         have h7 : r.kind = 1 ∨ r.kind = 2 ∨ r.kind = 3 ∨ r.kind = 4 ∨ r.kind = 5 ∨ r.kind = 6 ∨ r.kind = 7 := by omega
         clear hk1 hk7
         rcases h7 with hkd | hkd | hkd | hkd | hkd | hkd | hkd
         ·
          as_aux_lemma =>
           obtain ⟨hn, htb⟩ : nameB r.target = true ∧ tmB r.repl = true := by
            have h := HKE.out
            unfold kindErr at h
            rw [if_pos hkd] at h
            by_cases hx : nameB r.target = true ∧ tmB r.repl = true
            ·
             exact hx
            ·
             rw [if_neg hx] at h; cases h
           obtain ⟨tm, htm⟩ : ∃ tm, tmAt r.repl 0 = some tm := Option.isSome_iff_exists.1 htb
           obtain ⟨c0, c4, c5, c6⟩ := seven_kind hkd (HG4.out.get HW.out)
           have HTM := hide htm
           have HN := hide hn
           clear hn htb htm
           cases hw : wayOf T s0 with
           | none =>
            have HSt : Hid (Step (rs.drop (k + 1)) r made made) := hide (step1_none hkd HMI.out hw HSRC.out hs2 HCM.out)
            have hlk : likeR T s0 = false := by unfold likeR; rw [hw]; rfl
            rw [hlk]
            clear hw hlk hkd
            have hm20 : ¬ 20 < (made).length := by omega
            have hm20' : ¬ (20 : Int) < ((made).length : Int) := by omega
            have HD2 : Hid (ruleGo (rs.drop (k + 1)) (made) = R) := hide (by rw [← HD.out, HSt.out.1, if_neg hm20])
            have HCM2 := hide (HSt.out.2 (by omega))
            clear hm20 HD HR1 HSt
            go_wp2
            go_roundw
            case rel => exact ⟨k + 1, made, mo, mc, by omega, by go_num, rfl, hide HM4.out, HCM2, HD2, hide (HGw.out)⟩
            case measure => simp [intOf]; omega
           | some l =>
            have HSt0 : Hid (Step (rs.drop (k + 1)) r made (putB made r.target ((valsT s0 (tookL s0 l g) tm).take 100))) := hide (step1_some hkd HMI.out HTM.out HN.out hw HSRC.out hs2 HCM.out)
            have hlk : likeR T s0 = true := by unfold likeR; rw [hw]; rfl
            have hrd := HTK.out l hw
            have HEX := hide (expandR_any w4 r.repl s0 (tookL s0 l g) _ tm HTM.out hrp hs2 (by rw [tookL_len]; exact hg9) (fun s hs => by have := tookL_small s hs; omega) hrd)
            rw [hlk]
            clear hw hlk hkd hrd HTK
            have hvl : ((valsT s0 (tookL s0 l g) tm).take 100).length ≤ 100 := by simp only [List.length_take]; omega
            generalize (valsT s0 (tookL s0 l g) tm).take 100 = value at HSt0 HEX hvl
            go_wp2_with fail
            refine HEX.out.mono ?_
            rintro e w5 ⟨hg5, n5, rfl⟩
            have HG5 : Hid (Grow w w5) := hide (HGw.out.trans hg5)
            obtain ⟨-, -, c5, -⟩ := seven_kind (k := r.kind) rfl ((HG4.out.trans hg5).get HW.out)
            have HPT := hide (rPut_any w5 _ made r.target value (reads_up HM4.out hg5) (by omega))
            clear hg5 HEX
            go_wp2_with fail
            refine HPT.out.mono ?_
            rintro e w6 ⟨v6, rfl, ho6, hb6⟩
            obtain ⟨po, pc, rfl⟩ := own_shape ho6
            have HG6 : Hid (Grow w w6) := hide (HG5.out.trans hb6)
            have HRD6 := hide (reads_ownLabels ho6)
            clear hb6 ho6 HPT
            obtain ⟨m, HMM⟩ : ∃ m, Hid (putB made r.target value = m) := ⟨_, hide rfl⟩
            rw [HMM.out] at HSt0 HRD6
            have HSt := HSt0
            clear HSt0
            rw [HMM.out]
            by_cases hm20 : 20 < (m).length
            ·
             have hm20' : (20 : Int) < ((m).length : Int) := by omega
             have hR : R = ([], false, 2) := by rw [← HD.out, HSt.out.1, if_pos hm20]
             have HRE := hide hR
             clear hm20 hR HD HR1 HSt
             go_wp2
             simp [bodyPost, results, Tryz.results14, go_sem]
             exact ⟨HG6.out, OfPost.none HRE.out⟩
            ·
             have hm20' : ¬ (20 : Int) < ((m).length : Int) := by omega
             have HD2 : Hid (ruleGo (rs.drop (k + 1)) (m) = R) := hide (by rw [← HD.out, HSt.out.1, if_neg hm20])
             have HCM2 := hide (HSt.out.2 (by omega))
             clear hm20 HD HR1 HSt
             go_wp2
             go_roundw
             case rel => exact ⟨k + 1, m, po, pc, by omega, by go_num, rfl, hide HRD6.out, HCM2, HD2, hide (HG6.out)⟩
             case measure => simp [intOf]; omega
         ·
          as_aux_lemma =>
           obtain ⟨c0, c4, c5, c6⟩ := seven_kind hkd (HG4.out.get HW.out)
           cases hlk : likeR T s0 with
           | true =>
            have HSt : Hid (Step (rs.drop (k + 1)) r made made) := hide (step2_on hkd HMI.out hlk HSRC.out hs2 HCM.out)
            clear hlk hkd HTK
            have hm20 : ¬ 20 < (made).length := by omega
            have hm20' : ¬ (20 : Int) < ((made).length : Int) := by omega
            have HD2 : Hid (ruleGo (rs.drop (k + 1)) (made) = R) := hide (by rw [← HD.out, HSt.out.1, if_neg hm20])
            have HCM2 := hide (HSt.out.2 (by omega))
            clear hm20 HD HR1 HSt
            go_wp2
            go_roundw
            case rel => exact ⟨k + 1, made, mo, mc, by omega, by go_num, rfl, hide HM4.out, HCM2, HD2, hide (HGw.out)⟩
            case measure => simp [intOf]; omega
           | false =>
            have HOF : Hid (ruleGo (r :: rs.drop (k + 1)) made = ([], false, 0)) := hide (step2_off hkd HMI.out hlk HSRC.out hs2)
            clear hlk hkd HTK
            have hR : R = ([], false, 0) := by rw [← HD.out, HOF.out]
            have HRE := hide hR
            clear hR HD HR1 HOF
            go_wp2
            simp [bodyPost, results, Tryz.results14, go_sem]
            exact ⟨HGw.out, OfPost.none HRE.out⟩
         ·
          as_aux_lemma =>
           obtain ⟨c0, c4, c5, c6⟩ := seven_kind hkd (HG4.out.get HW.out)
           cases hlk : likeR T s0 with
           | false =>
            have HSt : Hid (Step (rs.drop (k + 1)) r made made) := hide (step3_on hkd HMI.out hlk HSRC.out hs2 HCM.out)
            clear hlk hkd HTK
            have hm20 : ¬ 20 < (made).length := by omega
            have hm20' : ¬ (20 : Int) < ((made).length : Int) := by omega
            have HD2 : Hid (ruleGo (rs.drop (k + 1)) (made) = R) := hide (by rw [← HD.out, HSt.out.1, if_neg hm20])
            have HCM2 := hide (HSt.out.2 (by omega))
            clear hm20 HD HR1 HSt
            go_wp2
            go_roundw
            case rel => exact ⟨k + 1, made, mo, mc, by omega, by go_num, rfl, hide HM4.out, HCM2, HD2, hide (HGw.out)⟩
            case measure => simp [intOf]; omega
           | true =>
            have HOF : Hid (ruleGo (r :: rs.drop (k + 1)) made = ([], false, 0)) := hide (step3_off hkd HMI.out hlk HSRC.out hs2)
            clear hlk hkd HTK
            have hR : R = ([], false, 0) := by rw [← HD.out, HOF.out]
            have HRE := hide hR
            clear hR HD HR1 HOF
            go_wp2
            simp [bodyPost, results, Tryz.results14, go_sem]
            exact ⟨HGw.out, OfPost.none HRE.out⟩
         ·
          as_aux_lemma =>
           obtain ⟨hn, hm1, hm2⟩ : nameB r.target = true ∧ 1 ≤ r.modulus ∧ r.modulus ≤ 1000000 := by
            have h := HKE.out
            unfold kindErr at h
            rw [if_neg (by omega), if_pos hkd] at h
            by_cases hx : nameB r.target = true
            ·
             rw [if_pos hx] at h
             by_cases hy : r.modulus < 1 ∨ 1000000 < r.modulus
             ·
              rw [if_pos hy] at h; cases h
             ·
              exact ⟨hx, by omega, by omega⟩
            ·
             rw [if_neg hx] at h; cases h
           have HSt0 : Hid (Step (rs.drop (k + 1)) r made (putB made r.target (shareT r s0))) := hide (step4 hkd HMI.out hn hm1 hm2 HSRC.out hs2 HCM.out)
           obtain ⟨c0, c4, c5, c6⟩ := seven_kind hkd (HG4.out.get HW.out)
           obtain ⟨M, hM⟩ : ∃ M : Nat, r.modulus = (M : Int) := ⟨r.modulus.toNat, by omega⟩
           obtain ⟨S, HS⟩ : ∃ S, Hid ((if s0 = [] then 0 else sumB [([120], s0.take 100)]) = S) := ⟨_, hide rfl⟩
           have HSL : Hid (S < 18446744073709551616) := hide (by
            rw [← HS.out]
            split
            ·
             omega
            ·
             exact sumB_lt _)
           obtain ⟨n, HNN⟩ : ∃ n, Hid (shareN r s0 = n) := ⟨_, hide rfl⟩
           have HNS : Hid (S % M = n) := hide (by rw [← HNN.out, ← HS.out]; unfold shareN; rw [hM, Int.toNat_natCast])
           have hn6 : n < 1000000 := by
            have := Nat.mod_lt S (show M > 0 by omega)
            rw [HNS.out] at this
            omega
           have HN3 : Hid (n < 65536 ^ 3) := hide (by omega)
           have HN2 : Hid (n < 10000 ^ 2) := hide (by omega)
           have hsh : shareT r s0 = Lib.decDigits n := by unfold shareT; rw [HNN.out]
           have hMb : M ≤ 1000000 := by omega
           have HPT0 := fun (W6 : World) (hg : Grow W W6) (h : readsLabels W6 W6.heap.size (.slice mo made.length mc) made) => rPut_any W6 (.slice mo made.length mc) made r.target (Lib.decDigits n) h (by omega)
           obtain ⟨m, HMM⟩ : ∃ m, Hid (putB made r.target (Lib.decDigits n) = m) := ⟨_, hide rfl⟩
           rw [hsh, HMM.out] at HSt0
           have HSt := HSt0
           rw [HMM.out] at HPT0
           have HPT : Hid (∀ W6, Grow w4 W6 → Calls Tryz.prog 41 #[.slice mo made.length mc, .string (bs r.target), .string (bs (Lib.decDigits n))] W6 fun e w' => Grow W6 w' ∧ ∃ ao cp, e = .returned (.slice ao m.length cp) ∧ ownLabels w' 0 (.slice ao m.length cp) m) := hide (fun W6 hg => by
            refine (HPT0 W6 (HG4.out.trans hg) (reads_up HM4.out hg)).mono ?_
            rintro e w' ⟨v', rfl, ho, hb⟩
            obtain ⟨ao, cp, rfl⟩ := own_shape ho
            exact ⟨hb, ao, cp, rfl, own_le ho (Nat.zero_le _)⟩)
           clear HSt0 HPT0 hsh hn HTK HFIT HMI hkd
           by_cases he : s0 = []
           ·
            have hn0 : (0 : Int) = (n : Int) := by
             have := HNS.out
             rw [← HS.out, if_pos he, Nat.zero_mod] at this
             omega
            have HN0 := hide hn0
            subst he
            have HGW5 : Hid (Grow W w4) := HG4
            clear hn0 hM
            go_wp2
            refine wp_region_free 8 229 Tryz.mixed2 rfl (by decide +kernel) Grow (fun _ _ _ => Grow.trans) (Grow.refl _)
             (fun i v w' => match i with
              | 0 => v = .slice mo made.length mc
              | 1 => v = .pointer (some ⟨wb, 5, none⟩)
              | 2 => v = .string (bs r.target)
              | 3 => v = .int .u64 (n : Nat)
              | 4 => v = .int .i64 (n : Nat)
              | 5 => ownLim w' 0 v (limbs n)
              | 6 => v = .string (bs (Lib.decDigits n))
              | _ => OneL 0 m v w')
             (fun i v w1 w2 h hg => by
              match i, h with
              | 0, h => exact h
              | 1, h => exact h
              | 2, h => exact h
              | 3, h => exact h
              | 4, h => exact h
              | 5, h => exact own_grow h hg
              | 6, h => exact h
              | k + 7, ⟨ao, n, cp, e, ho⟩ => exact ⟨ao, n, cp, e, own_grow ho hg⟩) (fun _ _ => False) (fun _ _ _ _ h => h.elim) (fun i hi o ho a2 w6 hG hoff hdep => ?_) (fun vals w6 hG hvals => ?_)
            ·
             have hg6 : Grow w4 w6 := hG.undrew
             obtain ⟨-, -, c5, -⟩ := seven_kind (k := r.kind) rfl ((HGW5.out.trans hg6).get HW.out)
             match i, hi with
             | 0, _ =>
              obtain rfl := Option.some.inj ho
              have o0 := hoff 0 (by decide +kernel)
              simp at o0
              simp [opYields, go_sem, o0]
              exact Grow.refl _
             | 1, _ =>
              obtain rfl := Option.some.inj ho
              have o10 := hoff 10 (by decide +kernel)
              simp at o10
              simp [opYields, go_sem, o10]
              exact Grow.refl _
             | 2, _ =>
              obtain rfl := Option.some.inj ho
              have d1 := hdep 1 (by decide +kernel)
              simp [slotOf, dstOf] at d1
              simp [opYields, go_sem, d1, c5]
              exact Grow.refl _
             | 3, _ =>
              obtain rfl := Option.some.inj ho
              have o21 := hoff 21 (by decide +kernel)
              simp at o21
              simp [opYields, go_sem, o21]
              exact ⟨Grow.refl _, HN0.out⟩
             | 4, _ =>
              obtain rfl := Option.some.inj ho
              have d3 := hdep 3 (by decide +kernel)
              simp [slotOf, dstOf] at d3
              simp [opYields, go_sem, d3]
              exact ⟨Grow.refl _, wrap_i64_sm _ (by omega) (by omega)⟩
             | 5, _ =>
              obtain rfl := Option.some.inj ho
              have d4 := hdep 4 (by decide +kernel)
              simp [slotOf, dstOf] at d4
              simp [opYields, go_sem, d4]
              refine (from_any w6 n HN3.out).mono ?_
              rintro e w7 ⟨hg7, v7, rfl, ho7⟩
              exact ⟨hg7, own_le ho7 (Nat.zero_le _)⟩
             | 6, _ =>
              obtain rfl := Option.some.inj ho
              have d5 := hdep 5 (by decide +kernel)
              simp [slotOf, dstOf] at d5
              simp [opYields, go_sem]
              refine (decimals_any w6 n 2 HN2.out (by decide) (by decide) _ (own_readsLim d5) (fun m hm => Nat.le_trans (limbs_len 3 m (Nat.lt_of_le_of_lt hm HN3.out)) (by decide))).mono ?_
              rintro e w7 ⟨hg7, rfl⟩
              exact ⟨hg7, rfl⟩
             | 7, _ =>
              obtain rfl := Option.some.inj ho
              have d0 := hdep 0 (by decide +kernel)
              simp [slotOf, dstOf] at d0
              have d2 := hdep 2 (by decide +kernel)
              simp [slotOf, dstOf] at d2
              have d6 := hdep 6 (by decide +kernel)
              simp [slotOf, dstOf] at d6
              simp [opYields, go_sem, d0, d2, d6]
              refine (HPT.out w6 hg6).mono ?_
              rintro e w7 ⟨hg7, ao, cp, rfl, ho7⟩
              exact ⟨hg7, ao, _, cp, rfl, ho7⟩
             | k + 8, h => exact absurd h (by omega)
            ·
             obtain ⟨po, pn, pc, v7, ho7⟩ := hvals 7 (by omega)
             clear hvals
             have hg6 : Grow w4 w6 := hG.undrew
             have HG6 : Hid (Grow w w6) := hide (HGW.out.trans (HGW5.out.trans hg6))
             have HRD6 := hide (reads_ownLabels ho7)
             obtain ⟨_, _, esh⟩ := own_shape ho7
             simp only [Value.slice.injEq] at esh
             obtain ⟨-, rfl, -⟩ := esh
             clear hg6 hG ho7
             simp [over, dstOf, Act.put, v7]
             by_cases hm20 : 20 < (m).length
             ·
              have hm20' : (20 : Int) < ((m).length : Int) := by omega
              have hR : R = ([], false, 2) := by rw [← HD.out, HSt.out.1, if_pos hm20]
              have HRE := hide hR
              clear hm20 hR HD HR1 HSt
              go_wp2
              simp [bodyPost, results, Tryz.results14, go_sem]
              exact ⟨HG6.out, OfPost.none HRE.out⟩
             ·
              have hm20' : ¬ (20 : Int) < ((m).length : Int) := by omega
              have HD2 : Hid (ruleGo (rs.drop (k + 1)) (m) = R) := hide (by rw [← HD.out, HSt.out.1, if_neg hm20])
              have HCM2 := hide (HSt.out.2 (by omega))
              clear hm20 HD HR1 HSt
              go_wp2
              go_roundw
              case rel => exact ⟨k + 1, m, po, pc, by omega, by go_num, rfl, hide HRD6.out, HCM2, HD2, hide (HG6.out)⟩
              case measure => simp [intOf]; omega
           ·
            have hemp : s0.isEmpty = false := by cases s0 with | nil => exact absurd rfl he | cons => rfl
            have HS' : Hid (sumB [([120], s0.take 100)] = S) := hide (by rw [← HS.out, if_neg he])
            have HM0 : Hid (¬ M = 0) := hide (by omega)
            rw [hM] at c4
            have HC4 := fun (W5 : World) (hg : Grow w4 W5) => hM ▸ (seven_kind (k := r.kind) rfl ((HG4.out.trans hg).get HW.out)).2.1
            have HC4' : Hid (∀ W5 : World, Grow w4 W5 → W5.cell? ⟨wb, 4, none⟩ = some (.int .i64 M)) := hide (fun W5 hg => by have h := (seven_kind (k := r.kind) rfl ((HG4.out.trans hg).get HW.out)).2.1; rwa [hM] at h)
            clear he HC4 hM
            go_wp2
            refine wp_region_free 9 229 Tryz.mixed2 rfl (by decide +kernel) Grow (fun _ _ _ => Grow.trans) (Grow.refl _)
             (fun i v w' => match i with
              | 0 => v = .string (bs s0)
              | 1 => v = .string (bs (s0.take 100))
              | 2 => v = .agg #[.string { data := #[120] }, .string (bs (s0.take 100))]
              | 3 => OneS (s0.take 100) v w'
              | 4 => v = .int .u64 (S : Nat)
              | 5 => v = .pointer (some ⟨wb, 4, none⟩)
              | 6 => v = .int .i64 M
              | 7 => v = .int .u64 M
              | _ => v = .int .u64 (n : Nat))
             (fun i v w1 w2 h hg => by
              match i, h with
              | 0, h => exact h
              | 1, h => exact h
              | 2, h => exact h
              | 3, h => exact OneS.up h hg
              | 4, h => exact h
              | 5, h => exact h
              | 6, h => exact h
              | 7, h => exact h
              | k + 8, h => exact h) (fun _ _ => False) (fun _ _ _ _ h => h.elim) (fun i hi o ho a2 w5 hG hoff hdep => ?_) (fun vals w5 hG hvals => ?_)
            ·
             have hg5 : Grow w4 w5 := hG.undrew
             have c4 := HC4'.out w5 hg5
             match i, hi with
             | 0, _ =>
              obtain rfl := Option.some.inj ho
              have o11 := hoff 11 (by decide +kernel)
              simp at o11
              simp [opYields, go_sem, o11]
              exact Grow.refl _
             | 1, _ =>
              obtain rfl := Option.some.inj ho
              have d0 := hdep 0 (by decide +kernel)
              simp [slotOf, dstOf] at d0
              simp [opYields, go_sem, d0]
              refine (rCut_any s0 100 w5 (by omega) (by decide)).mono ?_
              rintro e w6 ⟨rfl, rfl⟩
              exact ⟨Grow.refl _, rfl⟩
             | 2, _ =>
              obtain rfl := Option.some.inj ho
              have d1 := hdep 1 (by decide +kernel)
              simp [slotOf, dstOf] at d1
              simp [opYields, go_sem, d1]
              exact Grow.refl _
             | 3, _ =>
              obtain rfl := Option.some.inj ho
              have d2 := hdep 2 (by decide +kernel)
              simp [slotOf, dstOf] at d2
              simp [opYields, go_sem, d2]
              exact ⟨(Grow.refl _).alloc _, one_laid w5 (s0.take 100)⟩
             | 4, _ =>
              obtain rfl := Option.some.inj ho
              have d3 := hdep 3 (by decide +kernel)
              simp [slotOf, dstOf] at d3
              obtain ⟨b3, e3, h3⟩ := d3
              simp [opYields, go_sem, e3]
              refine (rSumOf_any w5 _ _ h3 (by simp) (fun x hx => by obtain rfl := List.mem_singleton.1 hx; exact ⟨by simp, by simp only [List.length_take]; omega⟩)).mono ?_
              rintro e w6 ⟨rfl, hg6⟩
              rw [HS'.out]
              exact ⟨hg6, rfl⟩
             | 5, _ =>
              obtain rfl := Option.some.inj ho
              have o10 := hoff 10 (by decide +kernel)
              simp at o10
              simp [opYields, go_sem, o10]
              exact Grow.refl _
             | 6, _ =>
              obtain rfl := Option.some.inj ho
              have d5 := hdep 5 (by decide +kernel)
              simp [slotOf, dstOf] at d5
              simp [opYields, go_sem, d5, c4]
              exact Grow.refl _
             | 7, _ =>
              obtain rfl := Option.some.inj ho
              have d6 := hdep 6 (by decide +kernel)
              simp [slotOf, dstOf] at d6
              simp [opYields, go_sem, d6]
              exact ⟨Grow.refl _, wrap_u64_sm _ (by omega) (by omega)⟩
             | 8, _ =>
              obtain rfl := Option.some.inj ho
              have d4 := hdep 4 (by decide +kernel)
              simp [slotOf, dstOf] at d4
              have d7 := hdep 7 (by decide +kernel)
              simp [slotOf, dstOf] at d7
              simp [opYields, go_sem, d4, d7, HM0.out]
              exact ⟨Grow.refl _, by rw [← HNS.out]; exact Int.tmod_eq_emod_of_nonneg (by omega)⟩
             | k + 9, h => exact absurd h (by omega)
            ·
             have v8 := hvals 8 (by omega)
             simp only at v8
             clear hvals
             have hg5 : Grow w4 w5 := hG.undrew
             have HGW5 : Hid (Grow W w5) := hide (HG4.out.trans hg5)
             have HPT5 := hide fun W6 (hg : Grow w5 W6) => HPT.out W6 (hg5.trans hg)
             clear hg5 hG HPT
             have HPT := HPT5
             simp [over, dstOf, Act.put, v8]
             go_wp2
             refine wp_region_free 8 229 Tryz.mixed2 rfl (by decide +kernel) Grow (fun _ _ _ => Grow.trans) (Grow.refl _)
              (fun i v w' => match i with
               | 0 => v = .slice mo made.length mc
               | 1 => v = .pointer (some ⟨wb, 5, none⟩)
               | 2 => v = .string (bs r.target)
               | 3 => v = .int .u64 (n : Nat)
               | 4 => v = .int .i64 (n : Nat)
               | 5 => ownLim w' 0 v (limbs n)
               | 6 => v = .string (bs (Lib.decDigits n))
               | _ => OneL 0 m v w')
              (fun i v w1 w2 h hg => by
               match i, h with
               | 0, h => exact h
               | 1, h => exact h
               | 2, h => exact h
               | 3, h => exact h
               | 4, h => exact h
               | 5, h => exact own_grow h hg
               | 6, h => exact h
               | k + 7, ⟨ao, n, cp, e, ho⟩ => exact ⟨ao, n, cp, e, own_grow ho hg⟩) (fun _ _ => False) (fun _ _ _ _ h => h.elim) (fun i hi o ho a2 w6 hG hoff hdep => ?_) (fun vals w6 hG hvals => ?_)
             ·
              have hg6 : Grow w5 w6 := hG.undrew
              obtain ⟨-, -, c5, -⟩ := seven_kind (k := r.kind) rfl ((HGW5.out.trans hg6).get HW.out)
              match i, hi with
              | 0, _ =>
               obtain rfl := Option.some.inj ho
               have o0 := hoff 0 (by decide +kernel)
               simp at o0
               simp [opYields, go_sem, o0]
               exact Grow.refl _
              | 1, _ =>
               obtain rfl := Option.some.inj ho
               have o10 := hoff 10 (by decide +kernel)
               simp at o10
               simp [opYields, go_sem, o10]
               exact Grow.refl _
              | 2, _ =>
               obtain rfl := Option.some.inj ho
               have d1 := hdep 1 (by decide +kernel)
               simp [slotOf, dstOf] at d1
               simp [opYields, go_sem, d1, c5]
               exact Grow.refl _
              | 3, _ =>
               obtain rfl := Option.some.inj ho
               have o21 := hoff 21 (by decide +kernel)
               simp at o21
               simp [opYields, go_sem, o21]
               exact Grow.refl _
              | 4, _ =>
               obtain rfl := Option.some.inj ho
               have d3 := hdep 3 (by decide +kernel)
               simp [slotOf, dstOf] at d3
               simp [opYields, go_sem, d3]
               exact ⟨Grow.refl _, wrap_i64_sm _ (by omega) (by omega)⟩
              | 5, _ =>
               obtain rfl := Option.some.inj ho
               have d4 := hdep 4 (by decide +kernel)
               simp [slotOf, dstOf] at d4
               simp [opYields, go_sem, d4]
               refine (from_any w6 n HN3.out).mono ?_
               rintro e w7 ⟨hg7, v7, rfl, ho7⟩
               exact ⟨hg7, own_le ho7 (Nat.zero_le _)⟩
              | 6, _ =>
               obtain rfl := Option.some.inj ho
               have d5 := hdep 5 (by decide +kernel)
               simp [slotOf, dstOf] at d5
               simp [opYields, go_sem]
               refine (decimals_any w6 n 2 HN2.out (by decide) (by decide) _ (own_readsLim d5) (fun m hm => Nat.le_trans (limbs_len 3 m (Nat.lt_of_le_of_lt hm HN3.out)) (by decide))).mono ?_
               rintro e w7 ⟨hg7, rfl⟩
               exact ⟨hg7, rfl⟩
              | 7, _ =>
               obtain rfl := Option.some.inj ho
               have d0 := hdep 0 (by decide +kernel)
               simp [slotOf, dstOf] at d0
               have d2 := hdep 2 (by decide +kernel)
               simp [slotOf, dstOf] at d2
               have d6 := hdep 6 (by decide +kernel)
               simp [slotOf, dstOf] at d6
               simp [opYields, go_sem, d0, d2, d6]
               refine (HPT.out w6 hg6).mono ?_
               rintro e w7 ⟨hg7, ao, cp, rfl, ho7⟩
               exact ⟨hg7, ao, _, cp, rfl, ho7⟩
              | k + 8, h => exact absurd h (by omega)
             ·
              obtain ⟨po, pn, pc, v7, ho7⟩ := hvals 7 (by omega)
              clear hvals
              have hg6 : Grow w5 w6 := hG.undrew
              have HG6 : Hid (Grow w w6) := hide (HGW.out.trans (HGW5.out.trans hg6))
              have HRD6 := hide (reads_ownLabels ho7)
              obtain ⟨_, _, esh⟩ := own_shape ho7
              simp only [Value.slice.injEq] at esh
              obtain ⟨-, rfl, -⟩ := esh
              clear hg6 hG ho7
              simp [over, dstOf, Act.put, v7]
              by_cases hm20 : 20 < (m).length
              ·
               have hm20' : (20 : Int) < ((m).length : Int) := by omega
               have hR : R = ([], false, 2) := by rw [← HD.out, HSt.out.1, if_pos hm20]
               have HRE := hide hR
               clear hm20 hR HD HR1 HSt
               go_wp2
               simp [bodyPost, results, Tryz.results14, go_sem]
               exact ⟨HG6.out, OfPost.none HRE.out⟩
              ·
               have hm20' : ¬ (20 : Int) < ((m).length : Int) := by omega
               have HD2 : Hid (ruleGo (rs.drop (k + 1)) (m) = R) := hide (by rw [← HD.out, HSt.out.1, if_neg hm20])
               have HCM2 := hide (HSt.out.2 (by omega))
               clear hm20 HD HR1 HSt
               go_wp2
               go_roundw
               case rel => exact ⟨k + 1, m, po, pc, by omega, by go_num, rfl, hide HRD6.out, HCM2, HD2, hide (HG6.out)⟩
               case measure => simp [intOf]; omega
         ·
          as_aux_lemma =>
           have htb : tmB r.repl = true := by
            have h := HKE.out
            unfold kindErr at h
            rw [if_neg (by omega), if_neg (by omega), if_pos hkd] at h
            by_cases hx : tmB r.repl = true
            ·
             exact hx
            ·
             rw [if_neg hx] at h; cases h
           obtain ⟨tm, htm⟩ : ∃ tm, tmAt r.repl 0 = some tm := Option.isSome_iff_exists.1 htb
           have HTM := hide htm
           obtain ⟨f, HF⟩ : ∃ f, Hid (nameC T g tm = f) := ⟨_, hide rfl⟩
           have HSt0 : Hid (Step (rs.drop (k + 1)) r made (putsGo (nameC T g tm) made made)) := hide (step5 hkd HMI.out htm HSRC.out hs2 HCM.out)
           rw [HF.out] at HSt0
           have HFN : Hid (∀ n, f n = (wayOf T n).map fun l => (valsT n (tookL n l g) tm).take 100) := hide (fun n => by rw [← HF.out]; rfl)
           have HSM := hide (right_small HCM.out).2
           obtain ⟨c0, c4, c5, c6⟩ := seven_kind hkd (HG4.out.get HW.out)
           clear htb htm HTK hkd HF
           go_wp2
           go_loopw [18, 22] (fun nv jv wr => ∃ (j : Nat) (nx : List Lab) (no : Option Addr) (nc : Nat), j ≤ made.length ∧ jv = .int .i64 j ∧ nv = .slice no nx.length nc ∧ Hid (readsLabels wr wr.heap.size nv nx) ∧ Hid (putsGo f made (made.take j) = nx) ∧ nx.length ≤ 20 + j ∧ Hid (Grow w4 wr)) (fun _ jv _ => made.length - (intOf jv).toNat)
           case atStart => exact ⟨0, made, mo, mc, by omega, rfl, rfl, HM4, hide rfl, by omega, hide (Grow.refl _)⟩
           case round =>
            clear c0 c4 c5 c6
            obtain ⟨j, nx, no, nc, hj, rfl, rfl, HNX, HPG, hnl, HGr⟩ := hrel
            have HGWr : Hid (Grow W wr) := hide (HG4.out.trans HGr.out)
            have HGwr : Hid (Grow w wr) := hide (HGw.out.trans HGr.out)
            by_cases hjlt : j < made.length
            ·
             obtain ⟨lb, lf, rfl, hlB, e0, e1⟩ : ∃ b o, mo = some ⟨b, o, none⟩ ∧ b < w4.heap.size ∧ w4.cell? ⟨b, o + j * 2, none⟩ = some (.string (bs made[j].1)) ∧ w4.cell? ⟨b, o + j * 2 + 1, none⟩ = some (.string (bs made[j].2)) := by
              obtain ⟨ao, cp, e, h⟩ := HM4.out
              cases e
              exact h j hjlt
             have d0 := (HGr.out.cell (p := ⟨lb, lf + j * 2, none⟩) hlB).trans e0
             have d1 := (HGr.out.cell (p := ⟨lb, lf + j * 2 + 1, none⟩) hlB).trans e1
             have hx40 := HSM.out _ (List.getElem_mem hjlt)
             have HPT1 := hide (putsGo_take (f := f) (made := made) hjlt)
             rw [HPG.out] at HPT1
             obtain ⟨x, HX2⟩ : ∃ x : Lab, Hid (made[j] = x) := ⟨_, hide rfl⟩
             rw [HX2.out] at d0 d1 hx40 HPT1 e0 e1
             have E0 := hide e0
             have E1 := hide e1
             have HFX := hide (HFIT.out wr (HV4.out.trans HGr.out) x.1 (by omega))
             unfold FitPost at HFX
             have HFX1 := HFN.out x.1
             clear e0 e1
             cases hw : wayOf T x.1 with
             | none =>
              have hlk : likeR T x.1 = false := by unfold likeR; rw [hw]; rfl
              rw [hlk] at HFX
              rw [hw] at HFX1
              rw [show f x.1 = none from HFX1] at HPT1
              clear hw hlk HFX1
              go_wp2_with fail
              refine HFX.out.mono ?_
              rintro e w5 ⟨hg5, go5, gn5, gc5, rfl, -⟩
              have HG5 : Hid (Grow w4 w5) := hide (HGr.out.trans hg5)
              have HNX5 := hide (reads_up HNX.out hg5)
              clear hg5 HFX
              go_wp2
              go_roundw
              case rel => exact ⟨j + 1, nx, no, nc, by omega, by go_num, rfl, HNX5, HPT1, by omega, HG5⟩
              case measure => simp [intOf]; omega
             | some l =>
              have hlk : likeR T x.1 = true := by unfold likeR; rw [hw]; rfl
              rw [hlk] at HFX
              rw [hw] at HFX1
              rw [show f x.1 = some ((valsT x.1 (tookL x.1 l g) tm).take 100) from HFX1] at HPT1
              have HW2 := hide hw
              clear hw hlk HFX1
              go_wp2_with fail
              refine HFX.out.mono ?_
              rintro e w5 ⟨hg5, go5, gn5, gc5, rfl, htk5⟩
              have hrd5 := htk5 l HW2.out
              have HG5 : Hid (Grow w4 w5) := hide (HGr.out.trans hg5)
              have HNX5 := hide (reads_up HNX.out hg5)
              have HEX : Hid (∀ W6, Grow w5 W6 → Calls Tryz.prog 40 #[.string (bs r.repl), .string (bs x.1), .slice go5 gn5 gc5, .int .i64 100] W6 fun e w' => Grow W6 w' ∧ ∃ n : Int, e = .returned (.tuple #[.string (bs ((valsT x.1 (tookL x.1 l g) tm).take 100)), .int .i64 n])) := hide (fun W6 hg => expandR_any W6 r.repl x.1 (tookL x.1 l g) _ tm HTM.out hrp (by omega) (by rw [tookL_len]; exact hg9) (fun s hs => by have := tookL_small s hs; omega) ((hrd5.keep hg).more hg.size))
              have hvl : ((valsT x.1 (tookL x.1 l g) tm).take 100).length ≤ 100 := by simp only [List.length_take]; omega
              generalize (valsT x.1 (tookL x.1 l g) tm).take 100 = name at HPT1 HEX hvl
              clear hg5 HFX htk5 hrd5 d0 d1
              go_wp2
              refine wp_region_free 13 229 Tryz.mixed2 rfl (by decide +kernel) Grow (fun _ _ _ => Grow.trans) (Grow.refl _)
               (fun i v w' => match i with
                | 0 => v = .pointer (some ⟨wb, 6, none⟩)
                | 1 => v = .string (bs r.repl)
                | 2 => v = .slice (some ⟨lb, lf, none⟩) made.length mc
                | 3 => v = .int .i64 j
                | 4 => v = .pointer (some ⟨lb, lf + j * 2, none⟩)
                | 5 => v = .pointer (some ⟨lb, lf + j * 2, none⟩)
                | 6 => v = .string (bs x.1)
                | 7 => v = .slice go5 gn5 gc5
                | 8 => ∃ n : Int, v = .tuple #[.string (bs name), .int .i64 n]
                | 9 => ∃ n : Int, v = .tuple #[.string (bs name), .int .i64 n]
                | 10 => v = .string (bs name)
                | 11 => ∃ n : Int, v = .int .i64 n
                | _ => v = .string (bs name))
               (fun i v w1 w2 h hg => h) (fun _ _ => False) (fun _ _ _ _ h => h.elim) (fun i hi o ho a2 w6 hG hoff hdep => ?_) (fun vals w6 hG hvals => ?_)
              ·
               have hg6 : Grow w5 w6 := hG.undrew
               obtain ⟨-, -, -, c6⟩ := seven_kind (k := r.kind) rfl ((HG4.out.trans (HG5.out.trans hg6)).get HW.out)
               have d0 := ((HG5.out.trans hg6).cell (p := ⟨lb, lf + j * 2, none⟩) hlB).trans E0.out
               have hjl : (j : Int) < (made.length : Int) := by omega
               match i, hi with
               | 0, _ =>
                obtain rfl := Option.some.inj ho
                have o10 := hoff 10 (by decide +kernel)
                simp at o10
                simp [opYields, go_sem, o10]
                exact Grow.refl _
               | 1, _ =>
                obtain rfl := Option.some.inj ho
                have d0 := hdep 0 (by decide +kernel)
                simp [slotOf, dstOf] at d0
                simp [opYields, go_sem, d0, c6]
                exact Grow.refl _
               | 2, _ =>
                obtain rfl := Option.some.inj ho
                have o0 := hoff 0 (by decide +kernel)
                simp at o0
                simp [opYields, go_sem, o0]
                exact Grow.refl _
               | 3, _ =>
                obtain rfl := Option.some.inj ho
                have o22 := hoff 22 (by decide +kernel)
                simp at o22
                simp [opYields, go_sem, o22]
                exact Grow.refl _
               | 4, _ =>
                obtain rfl := Option.some.inj ho
                have d2 := hdep 2 (by decide +kernel)
                simp [slotOf, dstOf] at d2
                have d3 := hdep 3 (by decide +kernel)
                simp [slotOf, dstOf] at d3
                simp [opYields, go_sem, d2, d3, hjl, Addr.add]
                exact Grow.refl _
               | 5, _ =>
                obtain rfl := Option.some.inj ho
                have d4 := hdep 4 (by decide +kernel)
                simp [slotOf, dstOf] at d4
                simp [opYields, go_sem, d4]
                exact Grow.refl _
               | 6, _ =>
                obtain rfl := Option.some.inj ho
                have d5 := hdep 5 (by decide +kernel)
                simp [slotOf, dstOf] at d5
                simp [opYields, go_sem, d5, d0]
                exact Grow.refl _
               | 7, _ =>
                obtain rfl := Option.some.inj ho
                have o24 := hoff 24 (by decide +kernel)
                simp at o24
                simp [opYields, go_sem, o24]
                exact Grow.refl _
               | 8, _ =>
                obtain rfl := Option.some.inj ho
                have d1 := hdep 1 (by decide +kernel)
                simp [slotOf, dstOf] at d1
                have d6 := hdep 6 (by decide +kernel)
                simp [slotOf, dstOf] at d6
                have d7 := hdep 7 (by decide +kernel)
                simp [slotOf, dstOf] at d7
                simp [opYields, go_sem, d1, d6, d7]
                refine (HEX.out w6 hg6).mono ?_
                rintro e w7 ⟨hg7, n7, rfl⟩
                exact ⟨hg7, n7, rfl⟩
               | 9, _ =>
                obtain rfl := Option.some.inj ho
                have d8 := hdep 8 (by decide +kernel)
                simp [slotOf, dstOf] at d8
                obtain ⟨n8, e8⟩ := d8
                simp [opYields, go_sem, e8]
                exact Grow.refl _
               | 10, _ =>
                obtain rfl := Option.some.inj ho
                have d9 := hdep 9 (by decide +kernel)
                simp [slotOf, dstOf] at d9
                obtain ⟨n9, e9⟩ := d9
                simp [opYields, go_sem, e9]
                exact Grow.refl _
               | 11, _ =>
                obtain rfl := Option.some.inj ho
                have d9 := hdep 9 (by decide +kernel)
                simp [slotOf, dstOf] at d9
                obtain ⟨n9, e9⟩ := d9
                simp [opYields, go_sem, e9]
                exact Grow.refl _
               | 12, _ =>
                obtain rfl := Option.some.inj ho
                have d10 := hdep 10 (by decide +kernel)
                simp [slotOf, dstOf] at d10
                simp [opYields, go_sem, d10]
                exact Grow.refl _
               | k + 13, h => exact absurd h (by omega)
              ·
               obtain ⟨n11, v11⟩ := hvals 11 (by omega)
               have v12 := hvals 12 (by omega)
               simp only at v12
               clear hvals
               have hg6 : Grow w5 w6 := hG.undrew
               have HG6 : Hid (Grow w4 w6) := hide (HG5.out.trans hg6)
               have HNX6 := hide (reads_up HNX5.out hg6)
               have d1 := ((HG5.out.trans hg6).cell (p := ⟨lb, lf + j * 2 + 1, none⟩) hlB).trans E1.out
               clear hg6 hG
               simp [over, dstOf, Act.put, v11, v12]
               cases hnb : nameB name with
               | false =>
                have HNB := hide hnb
                rw [if_neg (by rw [HNB.out]; simp)] at HPT1
                clear hnb
                go_wp2_with (go_at_call 32; refine (rIsName_any name _ (by unfold maxLen; omega)).mono ?_; rintro e w' ⟨rfl, rfl⟩; rw [HNB.out])
                go_roundw
                case rel => exact ⟨j + 1, nx, no, nc, by omega, by go_num, rfl, HNX6, HPT1, by omega, HG6⟩
                case measure => simp [intOf]; omega
               | true =>
                have HNB := hide hnb
                rw [if_pos HNB.out] at HPT1
                clear hnb
                have HPU := hide (rPut_any w6 _ nx name x.2 HNX6.out (by omega))
                have hpl := putB_le nx name x.2
                obtain ⟨m2, HM2⟩ : ∃ m2, Hid (putB nx name x.2 = m2) := ⟨_, hide rfl⟩
                rw [HM2.out] at HPU HPT1 hpl
                go_wp2_with (first
                 | (go_at_call 32; refine (rIsName_any name _ (by unfold maxLen; omega)).mono ?_; rintro e w' ⟨rfl, rfl⟩; rw [HNB.out])
                 | (go_at_call 41; refine HPU.out.mono ?_; rintro e w7 ⟨v7, rfl, ho7, hb7⟩; obtain ⟨po, pc, rfl⟩ := own_shape ho7; have HG7 : Hid (Grow w4 w7) := hide (HG6.out.trans hb7); have HRD7 := hide (reads_ownLabels ho7); clear hb7 ho7))
                go_roundw
                case rel => exact ⟨j + 1, m2, po, pc, by omega, by go_num, rfl, HRD7, HPT1, by omega, HG7⟩
                case measure => simp [intOf]; omega
            ·
             obtain rfl : j = made.length := by omega
             rw [List.take_length] at HPG
             rw [HPG.out] at HSt0
             have HSt := HSt0
             clear HSt0
             by_cases hm20 : 20 < (nx).length
             ·
              have hm20' : (20 : Int) < ((nx).length : Int) := by omega
              have hR : R = ([], false, 2) := by rw [← HD.out, HSt.out.1, if_pos hm20]
              have HRE := hide hR
              clear hm20 hR HD HR1 HSt
              go_wp2
              simp [bodyPost, results, Tryz.results14, go_sem]
              exact ⟨HGwr.out, OfPost.none HRE.out⟩
             ·
              have hm20' : ¬ (20 : Int) < ((nx).length : Int) := by omega
              have HD2 : Hid (ruleGo (rs.drop (k + 1)) (nx) = R) := hide (by rw [← HD.out, HSt.out.1, if_neg hm20])
              have HCM2 := hide (HSt.out.2 (by omega))
              clear hm20 HD HR1 HSt
              go_wp2
              go_roundw
              case rel => exact ⟨k + 1, nx, no, nc, by omega, by go_num, rfl, hide HNX.out, HCM2, HD2, hide (HGwr.out)⟩
              case measure => simp [intOf]; omega
         ·
          as_aux_lemma =>
           obtain ⟨p, HP⟩ : ∃ p : Lab → Bool, Hid ((fun x : Lab => !likeR T x.1) = p) := ⟨_, hide rfl⟩
           have HSt0 : Hid (Step (rs.drop (k + 1)) r made (made.filter (fun x : Lab => !likeR T x.1))) := hide (step6 hkd HMI.out HSRC.out hs2 HCM.out)
           rw [HP.out] at HSt0
           have HPX : Hid (∀ x, p x = !likeR T x.1) := hide (fun x => by rw [← HP.out])
           have HSM := hide (right_small HCM.out).2
           obtain ⟨i0, hi0, hz0, hz1, hz2⟩ := info_parts Tryz.infoL
           obtain ⟨c0, c4, c5, c6⟩ := seven_kind hkd (HG4.out.get HW.out)
           have HKD := hide hkd
           clear HTK hkd HP
           go_wp2
           go_loopw [18, 27] (fun nv jv wr => ∃ (j : Nat) (nx : List Lab) (no : Option Addr) (nc : Nat), j ≤ made.length ∧ jv = .int .i64 j ∧ nv = .slice no nx.length nc ∧ Hid (ownLabels wr w4.heap.size nv nx) ∧ Hid ((made.take j).filter p = nx) ∧ nx.length ≤ j ∧ Hid (Grow w4 wr)) (fun _ jv _ => made.length - (intOf jv).toNat)
           case atStart => exact ⟨0, [], none, 0, by omega, rfl, rfl, hide (World.ownsRow_nil _ _ _ _), hide rfl, by simp, hide (Grow.refl _)⟩
           case round =>
            clear c0 c4 c5 c6
            obtain ⟨j, nx, no, nc, hj, rfl, rfl, HNX, HPG, hnl, HGr⟩ := hrel
            have HGwr : Hid (Grow w wr) := hide (HGw.out.trans HGr.out)
            by_cases hjlt : j < made.length
            ·
             obtain ⟨lb, lf, rfl, hlB, e0, e1⟩ : ∃ b o, mo = some ⟨b, o, none⟩ ∧ b < w4.heap.size ∧ w4.cell? ⟨b, o + j * 2, none⟩ = some (.string (bs made[j].1)) ∧ w4.cell? ⟨b, o + j * 2 + 1, none⟩ = some (.string (bs made[j].2)) := by
              obtain ⟨ao, cp, e, h⟩ := HM4.out
              cases e
              exact h j hjlt
             have d0 := (HGr.out.cell (p := ⟨lb, lf + j * 2, none⟩) hlB).trans e0
             have hx40 := HSM.out _ (List.getElem_mem hjlt)
             have HFT := hide (filter_take (p := p) hjlt)
             rw [HPG.out] at HFT
             obtain ⟨x, HX2⟩ : ∃ x : Lab, Hid (made[j] = x) := ⟨_, hide rfl⟩
             rw [HX2.out] at d0 hx40 HFT e0 e1
             rw [HPX.out x] at HFT
             have HFX := hide (HFIT.out wr (HV4.out.trans HGr.out) x.1 (by omega))
             unfold FitPost at HFX
             have E0 := hide e0
             have E1 := hide e1
             clear e0 e1
             cases hlk : likeR T x.1 with
             | true =>
              rw [hlk] at HFX HFT
              simp only [Bool.not_true, Bool.false_eq_true, if_false, List.append_nil] at HFT
              clear hlk
              go_wp2_with fail
              refine HFX.out.mono ?_
              rintro e w5 ⟨hg5, go5, gn5, gc5, rfl, -⟩
              have HG5 : Hid (Grow w4 w5) := hide (HGr.out.trans hg5)
              have HNX5 := hide (own_grow HNX.out hg5)
              obtain ⟨c0, -, -, -⟩ := seven_kind HKD.out ((HG4.out.trans HG5.out).get HW.out)
              clear hg5 HFX
              go_wp2
              go_roundw
              case rel => exact ⟨j + 1, nx, no, nc, by omega, by go_num, rfl, HNX5, HFT, by omega, HG5⟩
              case measure => simp [intOf]; omega
             | false =>
              rw [hlk] at HFX HFT
              simp only [Bool.not_false, if_true] at HFT
              clear hlk
              go_wp2_with fail
              refine HFX.out.mono ?_
              rintro e w5 ⟨hg5, go5, gn5, gc5, rfl, -⟩
              have HG5 : Hid (Grow w4 w5) := hide (HGr.out.trans hg5)
              have HNX5 := hide (own_grow HNX.out hg5)
              obtain ⟨c0, -, -, -⟩ := seven_kind HKD.out ((HG4.out.trans HG5.out).get HW.out)
              have d0 := (HG5.out.cell (p := ⟨lb, lf + j * 2, none⟩) hlB).trans E0.out
              have d1 := (HG5.out.cell (p := ⟨lb, lf + j * 2 + 1, none⟩) hlB).trans E1.out
              have HNews := hide (news_new w5 x)
              have h5s := HG5.out.size
              clear hg5 HFX
              go_wp2_with (at_builtin; refine wpList_append_own _ rfl _ _ 29 rfl w4.heap.size 39 i0 _ 2 32 Tryz.underlying29 hi0 hz0 hz1 hz2 zeroLab (by omega) _ nx.length (labCells nx) rfl (HNX5.out.alloc _) ⟨w5.heap.size, 0, none⟩ 1 1 (labCells [x]) rfl (labCells_length [x]) HNews.out (labCells_one [x]) (by unfold maxLen; omega) (by omega) (by simp; omega) ?_; intro v' w6 hown' hgrow _)
              have hb6 : Grow w4 (w5.alloc (.cells #[.string (bs x.1), .string (bs x.2)] 39)) := Grow.alloc HG5.out _
              have hgr6 : Grow w4 w6 := Below.grown hb6 hgrow (by simp; omega) (fun j hj => (HNX5.out.lt j hj).1)
              have hown6 : ownLabels w6 w4.heap.size v' (nx ++ [x]) := by
               unfold ownLabels
               rw [List.length_append, labCells_append]
               exact hown'
              obtain ⟨qo, qc, hq⟩ := own_shape hown6
              go_roundw
              case rel => exact ⟨j + 1, nx ++ [x], qo, qc, by omega, by go_num, hq, hide hown6, HFT, by simp; omega, hide hgr6⟩
              case measure => simp [intOf]; omega
            ·
             obtain rfl : j = made.length := by omega
             rw [List.take_length] at HPG
             rw [HPG.out] at HSt0
             have HSt := HSt0
             have HRD := hide (reads_ownLabels HNX.out)
             clear HSt0
             have hm20 : ¬ 20 < (nx).length := by omega
             have hm20' : ¬ (20 : Int) < ((nx).length : Int) := by omega
             have HD2 : Hid (ruleGo (rs.drop (k + 1)) (nx) = R) := hide (by rw [← HD.out, HSt.out.1, if_neg hm20])
             have HCM2 := hide (HSt.out.2 (by omega))
             clear hm20 HD HR1 HSt
             go_wp2
             go_roundw
             case rel => exact ⟨k + 1, nx, no, nc, by omega, by go_num, rfl, hide HRD.out, HCM2, HD2, hide (HGwr.out)⟩
             case measure => simp [intOf]; omega
         ·
          as_aux_lemma =>
           obtain ⟨p, HP⟩ : ∃ p : Lab → Bool, Hid ((fun x : Lab => likeR T x.1) = p) := ⟨_, hide rfl⟩
           have HSt0 : Hid (Step (rs.drop (k + 1)) r made (made.filter (fun x : Lab => likeR T x.1))) := hide (step7 hkd HMI.out HSRC.out hs2 HCM.out)
           rw [HP.out] at HSt0
           have HPX : Hid (∀ x, p x = likeR T x.1) := hide (fun x => by rw [← HP.out])
           have HSM := hide (right_small HCM.out).2
           obtain ⟨i0, hi0, hz0, hz1, hz2⟩ := info_parts Tryz.infoL
           obtain ⟨c0, c4, c5, c6⟩ := seven_kind hkd (HG4.out.get HW.out)
           have HKD := hide hkd
           clear HTK hkd HP
           go_wp2
           go_loopw [18, 27] (fun nv jv wr => ∃ (j : Nat) (nx : List Lab) (no : Option Addr) (nc : Nat), j ≤ made.length ∧ jv = .int .i64 j ∧ nv = .slice no nx.length nc ∧ Hid (ownLabels wr w4.heap.size nv nx) ∧ Hid ((made.take j).filter p = nx) ∧ nx.length ≤ j ∧ Hid (Grow w4 wr)) (fun _ jv _ => made.length - (intOf jv).toNat)
           case atStart => exact ⟨0, [], none, 0, by omega, rfl, rfl, hide (World.ownsRow_nil _ _ _ _), hide rfl, by simp, hide (Grow.refl _)⟩
           case round =>
            clear c0 c4 c5 c6
            obtain ⟨j, nx, no, nc, hj, rfl, rfl, HNX, HPG, hnl, HGr⟩ := hrel
            have HGwr : Hid (Grow w wr) := hide (HGw.out.trans HGr.out)
            by_cases hjlt : j < made.length
            ·
             obtain ⟨lb, lf, rfl, hlB, e0, e1⟩ : ∃ b o, mo = some ⟨b, o, none⟩ ∧ b < w4.heap.size ∧ w4.cell? ⟨b, o + j * 2, none⟩ = some (.string (bs made[j].1)) ∧ w4.cell? ⟨b, o + j * 2 + 1, none⟩ = some (.string (bs made[j].2)) := by
              obtain ⟨ao, cp, e, h⟩ := HM4.out
              cases e
              exact h j hjlt
             have d0 := (HGr.out.cell (p := ⟨lb, lf + j * 2, none⟩) hlB).trans e0
             have hx40 := HSM.out _ (List.getElem_mem hjlt)
             have HFT := hide (filter_take (p := p) hjlt)
             rw [HPG.out] at HFT
             obtain ⟨x, HX2⟩ : ∃ x : Lab, Hid (made[j] = x) := ⟨_, hide rfl⟩
             rw [HX2.out] at d0 hx40 HFT e0 e1
             rw [HPX.out x] at HFT
             have HFX := hide (HFIT.out wr (HV4.out.trans HGr.out) x.1 (by omega))
             unfold FitPost at HFX
             have E0 := hide e0
             have E1 := hide e1
             clear e0 e1
             cases hlk : likeR T x.1 with
             | false =>
              rw [hlk] at HFX HFT
              simp only [Bool.false_eq_true, if_false, List.append_nil] at HFT
              clear hlk
              go_wp2_with fail
              refine HFX.out.mono ?_
              rintro e w5 ⟨hg5, go5, gn5, gc5, rfl, -⟩
              have HG5 : Hid (Grow w4 w5) := hide (HGr.out.trans hg5)
              have HNX5 := hide (own_grow HNX.out hg5)
              obtain ⟨c0, -, -, -⟩ := seven_kind HKD.out ((HG4.out.trans HG5.out).get HW.out)
              clear hg5 HFX
              go_wp2
              go_roundw
              case rel => exact ⟨j + 1, nx, no, nc, by omega, by go_num, rfl, HNX5, HFT, by omega, HG5⟩
              case measure => simp [intOf]; omega
             | true =>
              rw [hlk] at HFX HFT
              simp only [if_true] at HFT
              clear hlk
              go_wp2_with fail
              refine HFX.out.mono ?_
              rintro e w5 ⟨hg5, go5, gn5, gc5, rfl, -⟩
              have HG5 : Hid (Grow w4 w5) := hide (HGr.out.trans hg5)
              have HNX5 := hide (own_grow HNX.out hg5)
              obtain ⟨c0, -, -, -⟩ := seven_kind HKD.out ((HG4.out.trans HG5.out).get HW.out)
              have d0 := (HG5.out.cell (p := ⟨lb, lf + j * 2, none⟩) hlB).trans E0.out
              have d1 := (HG5.out.cell (p := ⟨lb, lf + j * 2 + 1, none⟩) hlB).trans E1.out
              have HNews := hide (news_new w5 x)
              have h5s := HG5.out.size
              clear hg5 HFX
              go_wp2_with (at_builtin; refine wpList_append_own _ rfl _ _ 29 rfl w4.heap.size 39 i0 _ 2 32 Tryz.underlying29 hi0 hz0 hz1 hz2 zeroLab (by omega) _ nx.length (labCells nx) rfl (HNX5.out.alloc _) ⟨w5.heap.size, 0, none⟩ 1 1 (labCells [x]) rfl (labCells_length [x]) HNews.out (labCells_one [x]) (by unfold maxLen; omega) (by omega) (by simp; omega) ?_; intro v' w6 hown' hgrow _)
              have hb6 : Grow w4 (w5.alloc (.cells #[.string (bs x.1), .string (bs x.2)] 39)) := Grow.alloc HG5.out _
              have hgr6 : Grow w4 w6 := Below.grown hb6 hgrow (by simp; omega) (fun j hj => (HNX5.out.lt j hj).1)
              have hown6 : ownLabels w6 w4.heap.size v' (nx ++ [x]) := by
               unfold ownLabels
               rw [List.length_append, labCells_append]
               exact hown'
              obtain ⟨qo, qc, hq⟩ := own_shape hown6
              go_roundw
              case rel => exact ⟨j + 1, nx ++ [x], qo, qc, by omega, by go_num, hq, hide hown6, HFT, by simp; omega, hide hgr6⟩
              case measure => simp [intOf]; omega
            ·
             obtain rfl : j = made.length := by omega
             rw [List.take_length] at HPG
             rw [HPG.out] at HSt0
             have HSt := HSt0
             have HRD := hide (reads_ownLabels HNX.out)
             clear HSt0
             have hm20 : ¬ 20 < (nx).length := by omega
             have hm20' : ¬ (20 : Int) < ((nx).length : Int) := by omega
             have HD2 : Hid (ruleGo (rs.drop (k + 1)) (nx) = R) := hide (by rw [← HD.out, HSt.out.1, if_neg hm20])
             have HCM2 := hide (HSt.out.2 (by omega))
             clear hm20 HD HR1 HSt
             go_wp2
             go_roundw
             case rel => exact ⟨k + 1, nx, no, nc, by omega, by go_num, rfl, hide HRD.out, HCM2, HD2, hide (HGwr.out)⟩
             case measure => simp [intOf]; omega
     ·
      have hR : R = (made, true, 0) := by
       rw [← HD.out, List.drop_eq_nil_of_le (by omega)]
       rfl
      have HRE := hide hR
      clear HD hR HR1
      go_wp2
      simp [bodyPost, results, Tryz.results14, go_sem]
      exact ⟨HG.out, OfPost.some HRE.out HM.out⟩
  ·
   have hE' : ((E : Int) == 0) = false := by simp; exact hE
   have hE2 : ((E : Int) != 0) = true := by simp; exact hE
   have hAE : A = E := by
    rw [← HAE1.out]
    have h := HEQ.out
    by_cases hf : F = 0
    ·
     rw [if_neg (by omega)] at h ⊢
     have := rulesErr_app (rs.take k) (rs.drop k) (by omega)
     rw [List.take_append_drop] at this
     omega
    ·
     rw [if_pos hf] at h ⊢
     omega
   have hR : R = ([], false, E) := by rw [← HR1.out, hAE, if_pos hE]
   have HRE := hide hR
   clear hE HR1 hR hAE HAE HAE1 HEQ HF
   by_cases hlt : k < rs.length
   ·
    go_wp2
    simp [bodyPost, results, Tryz.results14, go_sem]
    exact ⟨HG.out, OfPost.none HRE.out⟩
   ·
    go_wp2
    simp [bodyPost, results, Tryz.results14, go_sem]
    exact ⟨HG.out, OfPost.none HRE.out⟩
theorem apply_small (ls : List Lab) (rs : List Rul) : (applyB ls rs).1.length ≤ 20 := by
 rcases apply_shape ls rs with ⟨n, _, h⟩ | ⟨h0, h1, h | ⟨l, h⟩⟩
 ·
  rw [h]; simp
 ·
  rw [h]; simp
 ·
  rw [h.1]
  exact (right_small h.2).1
set_option maxRecDepth 20000 in
set_option maxHeartbeats 8000000 in
theorem relabelApplies_any (w : World) (htab : tabOk w) (va : Value) (ls : List Lab) (ha : readsLabels w w.heap.size va ls) (hlen : ls.length ≤ 9223372036854775807) (hin : ∀ y ∈ ls, y.1.length ≤ 9223372036854775807 ∧ y.2.length ≤ 9223372036854775807)
  (vr : Value) (rs : List Rul) (hr : readsRules w w.heap.size vr rs) (hrl : rs.length ≤ 9223372036854775807) (hok : okRs rs) :
  Calls Tryz.prog 4 #[va, vr] w fun e w' => e = .returned (.bool true) ∧ Grow w w' := by
 have HAP := hide (apply_any w va vr ls rs ha hlen hin hr hrl hok htab)
 have HOF : Hid (∀ W, Grow w W → Calls Tryz.prog 14 #[va, vr] W fun e w' => Grow W w' ∧ OfPost (applyB ls rs) e w') := hide fun W hg => applyOf_any W va vr ls rs (reads_up ha hg) hlen hin ((hr.keep hg).more hg.size) hrl hok
 have HTAB := hide htab
 have HSM := hide (apply_small ls rs)
 obtain ⟨lo, lc, hva⟩ := readsLabels_len ha
 subst hva
 obtain ⟨ro, rc, hvr, _⟩ := hr
 subst hvr
 obtain ⟨⟨m, st, er⟩, HR⟩ : ∃ R, Hid (applyB ls rs = R) := ⟨_, hide rfl⟩
 rw [HR.out] at HAP HOF HSM
 unfold ApplyPost at HAP
 unfold OfPost at HOF
 simp only at HAP HOF
 clear ha hin hok htab HR
 go_enter Tryz.func4, Tryz.ntmps4
 go_wp2_with fail
 refine HAP.out.mono ?_
 rintro e w1 ⟨hg1, mo, n, mc, rfl, hown⟩
 have HG1 := hide hg1
 have HM1 := hide (reads_ownLabels hown)
 clear hg1 hown HAP
 go_wp2_with fail
 refine (HOF.out w1 HG1.out).mono ?_
 rintro e w2 ⟨hg2, no, k, nc, rfl, hrd⟩
 have HG2 : Hid (Grow w w2) := hide (HG1.out.trans hg2)
 have HM2 := hide (reads_up HM1.out hg2)
 have HN2 := hide hrd
 clear hg2 hrd HOF
 have h20 := HSM.out
 go_wp2_with (first
  | (go_at_call 10; refine (relabelBegun_any w2 (tab_grow HTAB.out HG2.out)).mono ?_; rintro e w3 ⟨rfl, hg3⟩; have HG3 : Hid (Grow w2 w3) := hide hg3; clear hg3)
  | (go_at_call 15; refine (sameLabels_any w3 _ _ m m (reads_up HM2.out HG3.out) (reads_up HN2.out HG3.out) (by omega) (by omega)).mono ?_; rintro e w4 ⟨rfl, n4, hw4⟩))
 go_ret
 exact ⟨ret_bool (by simp), HG2.out.trans (HG3.out.trans (grow_drewN _ _))⟩
end Go.Proofs.YtndpjdmfkhjiiaaGreatDoor.Rl
