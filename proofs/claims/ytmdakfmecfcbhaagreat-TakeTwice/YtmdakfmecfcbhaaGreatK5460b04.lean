/- 1 texts in one. -/
import Derived.Laws.OwnMore
import Derived.Test.YtmdakfmecfcbhaaGreatProg
import Derived.Test.YtmdakfmecfcbhaaGreatK7e06493
import Derived.Test.YtmdakfmecfcbhaaGreatK85cc7d6
import Derived.Test.YtmdakfmecfcbhaaGreatK6ada7ca
import Derived.Test.YtmdakfmecfcbhaaGreatKcd6d4df
import Derived.Test.YtmdakfmecfcbhaaGreatKe26850f
import Derived.Test.YtmdakfmecfcbhaaGreatK0fc28a6
import Derived.Test.YtmdakfmecfcbhaaGreatK81db387
import Derived.Test.YtmdakfmecfcbhaaGreatK3e23582
import Derived.Test.YtmdakfmecfcbhaaGreatK14d8a0b
import Derived.Test.YtmdakfmecfcbhaaGreatKf7a2202
import Derived.Test.YtmdakfmecfcbhaaGreatKc7cc8d4
import Derived.Test.YtmdakfmecfcbhaaGreatKbe49eb6
import Derived.Test.YtmdakfmecfcbhaaGreatK0150916
import Derived.Test.YtmdakfmecfcbhaaGreatK1440184
import Derived.Test.YtmdakfmecfcbhaaGreatKa708f3e
import Derived.Test.YtmdakfmecfcbhaaGreatK5e097d6
import Derived.BigQuiet
set_option linter.unusedVariables false
set_option linter.unusedSimpArgs false
namespace Go.Proofs.YtmdakfmecfcbhaaGreat.Tk
open Go.RowKit
attribute [local go_sem] bs_size bs_toList bs_append bs_get bs_extract
theorem timesB_at {x : List Ser} (h : timesB x = true) : ∀ y ∈ x, ∀ p ∈ y.2, timeB p.1 = true := fun y hy p hp => by
  unfold timesB at h
  have := List.all_eq_true.1 (List.all_eq_true.1 h y hy) p hp
  unfold timeB
  exact this
/-- What was taken once: it passes Check, is not taken again, and holds what was there. -/
theorem twice_facts {l ls : List Ser} {s : List UInt8} (h0 : storeErr l = 0) (hok : okStore l) (hoki : okStore ls) (ht : timesB ls = true) (hs : sentOf s = none ∨ sentOf s = some ls) (he : (tellT l s).1 = 0) :
    storeErr (tellT l s).2.2 = 0 ∧ okStore (tellT l s).2.2 ∧ tellT (tellT l s).2.2 s = tellT l s ∧ front l (tellT l s).2.2 := by
  rcases hs with hs | hs
  · rw [tell_none h0 hs]
    exact ⟨h0, hok, tell_none h0 hs, front.refl l⟩
  · cases hm : manyB (takeAll l ls) with
    | true => rw [tell_many h0 hs hm] at he; cases he
    | false =>
      rw [tell_some h0 hs hm]
      obtain ⟨x1, x2, _⟩ := sentOf_some hs
      obtain ⟨f1, f2, f3, f4⟩ := takeAll_fit ls x2 (store_fit h0)
      have hpos := takeAll_pos ls (l := l) (fun s hs => (serErr_labels ((store_right h0).2.2.1 s hs)).2.1)
      have hgood := takeAll_good ls (l := l) (fun y hy p hp => ⟨timesB_at ht y hy p hp, (hoki.2 y hy).2.2 p hp⟩) (store_good h0 hok)
      have hst : storeErr (takeAll l ls) = 0 := store_yes hm (fun s hs => ⟨f3 s hs, hpos s hs⟩) hgood f4
      have hid : takeAll (takeAll l ls) ls = takeAll l ls := takeAll_id f4 ls (cov_taken ls l)
      refine ⟨hst, ⟨by show (takeAll l ls).length ≤ _; omega, fun y hy => ?_⟩, ?_, takeAll_front ls l⟩
      · obtain ⟨k1, k2⟩ := right_lens (f3 y hy)
        exact ⟨⟨by omega, k2⟩, by have := f2 y hy; omega, fun p hp => ((hgood y hy).1 p hp).2⟩
      · show tellT (takeAll l ls) s = _
        rw [tell_some hst hs (by rw [hid]; exact hm), hid]
/-- What Get answers of it. -/
theorem got_front {w : World} {l A : List Ser} {i : Nat} (hi : i < l.length) (hA : storeErr A = 0) (hf : front l A) {GE : Int} {gv : Value} (h : gotB w A l[i].1 GE gv) : GE = 0 ∧ ∃ ss : List Sam, readsSam w w.heap.size gv ss ∧ l[i].2 <+: ss ∧ ss.length ≤ 5000 := by
  obtain ⟨u, hu, hu1, hu2⟩ := hf l[i] (List.getElem_mem hi)
  rcases h with ⟨_, _, h3⟩ | ⟨h1, j, hj, h2, h3⟩
  · exact absurd hu1 (h3 u hu)
  · obtain ⟨k, hk, rfl⟩ := List.getElem_of_mem hu
    obtain rfl := one_place (store_right hA).2.2.2 hk hj hu1 h2
    exact ⟨h1, _, h3, hu2, (store_right hA).2.1 _ (List.getElem_mem hk)⟩
theorem sent_written {ls : List Ser} (hoki : okStore ls) (h0 : writeErr ls = 0) {E : List UInt8} (hE : Packs (writeTxt ls) E) : timesB ls = true ∧ (sentOf (numB (writeTxt ls).length ++ E) = none ∨ sentOf (numB (writeTxt ls).length ++ E) = some ls) := by
  have hsh := written_short hoki h0
  have hU := packs_unpack hE hsh 20000 (by omega) (by omega)
  have hR := readErr_series ls h0 (store_bits hoki)
  have hT : writeTxt ls = seriesB ls := by simp [writeTxt, h0]
  refine ⟨(readErr_none hR.2 hR.1).2.1, ?_⟩
  unfold sentOf
  rw [hU, hT, if_neg (by simp), if_neg (by simpa using hR.2), hR.1]
  simp only
  split
  · exact .inr rfl
  · exact .inl rfl
set_option maxRecDepth 20000 in
set_option maxHeartbeats 1000000 in
theorem takeTwice_any (w : World) (v : Value) (l : List Ser) (hv : readsSer w w.heap.size v l) (hok : okStore l) (vi : Value) (ls : List Ser) (hvi : readsSer w w.heap.size vi ls) (hoki : okStore ls) :
    Calls Tryz.prog 7 #[v, vi] w fun e w' => e = .returned (.bool true) ∧ Grow w w' := by
  have HV := hide hv
  have HOK := hide hok
  have HOKI := hide hoki
  have HWR : Hid (∀ W, Grow w W → Calls Tryz.prog 16 #[vi] W fun e w' => e = .returned (.tuple #[.string (bs (writeTxt ls)), .int .i64 (writeErr ls)]) ∧ Grow W w') := hide fun W g => write_any W vi ls ((hvi.keep g).more g.size).wires (store_bits hoki) (store_lens hoki)
  obtain ⟨WE, HWE⟩ : ∃ WE, Hid (writeErr ls = WE) := ⟨_, hide rfl⟩
  obtain ⟨WT, HWT⟩ : ∃ WT, Hid (writeTxt ls = WT) := ⟨_, hide rfl⟩
  rw [HWE.out, HWT.out] at HWR
  obtain ⟨vo, vc, hvv, _, hcells⟩ := id hv
  obtain ⟨io, ic, hii⟩ := hvi.shape
  have HCELLS := hide hcells
  subst hvv hii
  clear hv hvi hok hoki hcells
  go_enter Tryz.func7, Tryz.ntmps7
  go_wp2_with fail
  refine (takeBegun_any w).mono ?_
  rintro e w1 ⟨rfl, hg1⟩
  have HG1 : Hid (Grow w w1) := hide hg1
  clear hg1
  go_wp2_with fail
  refine (wireBegun_any w1).mono ?_
  rintro e w2 ⟨rfl, hg2⟩
  have HG2 : Hid (Grow w w2) := hide (HG1.out.trans hg2)
  clear hg2
  go_wp2_with fail
  refine (pressBegun_any w2).mono ?_
  rintro e w3 ⟨rfl, hg3⟩
  have HG3 : Hid (Grow w w3) := hide (HG2.out.trans hg3)
  have H3 := hide (HWR.out w3 HG3.out)
  clear hg3
  go_wp2_with fail
  refine H3.out.mono ?_
  rintro e w4 ⟨rfl, hg4⟩
  have HG4 : Hid (Grow w w4) := hide (HG3.out.trans hg4)
  clear hg4 H3
  by_cases hW : WE = 0
  · have hz : (WE != 0) = false := by simp [hW]
    have hsh : WT.length ≤ 20000 := by rw [← HWT.out]; exact written_short HOKI.out (HWE.out.trans hW)
    have HW0 := hide hW
    clear hW
    go_wp2_with fail
    refine (pack_any w4 WT (by omega)).mono ?_
    rintro e w5 ⟨hg5, (⟨_, E, hE, rfl⟩ | ⟨h, _⟩)⟩
    · have HG5 : Hid (Grow w w5) := hide (HG4.out.trans hg5)
      have hl := packs_len hE hsh
      have HSENT := hide (sent_written HOKI.out (HWE.out.trans HW0.out) (E := E) (by rw [HWT.out]; exact hE))
      rw [HWT.out] at HSENT
      obtain ⟨t, HT⟩ : ∃ t, Hid (numB WT.length ++ E = t) := ⟨_, hide rfl⟩
      rw [HT.out] at hl HSENT ⊢
      have ht47 : t.length ≤ 140737488355328 := by omega
      obtain ⟨A, HAE⟩ : ∃ A, Hid ((tellT l t).2.2 = A) := ⟨_, hide rfl⟩
      obtain ⟨C, HCE⟩ : ∃ C, Hid ((tellT l t).2.1 = C) := ⟨_, hide rfl⟩
      obtain ⟨EE, HEE⟩ : ∃ E, Hid ((tellT l t).1 = E) := ⟨_, hide rfl⟩
      have H5 := take2_any w5 (.slice vo l.length vc) l t ((HV.out.keep HG5.out).more HG5.out.size) HOK.out ht47
      rw [HAE.out, HCE.out, HEE.out] at H5
      replace H5 := hide H5
      clear hE hg5
      go_wp2_with fail
      refine H5.out.mono ?_
      rintro e w6 ⟨v1, rfl, hg6, hr1⟩
      obtain ⟨uo, uc, hu⟩ := hr1.shape
      subst hu
      have HG6 : Hid (Grow w w6) := hide (HG5.out.trans hg6)
      have HR1 := hide hr1
      clear hg6 hr1 H5
      by_cases hE0 : EE = 0
      · have hz2 : ((EE : Int) != 0) = false := by simp [hE0]
        have h0 : storeErr l = 0 := by
          by_cases h : storeErr l = 0
          · exact h
          · have h2 := HEE.out
            rw [tell_bad h] at h2
            exact absurd (h2.trans hE0) h
        obtain ⟨t1, t2, t3, t4⟩ := twice_facts (s := t) h0 HOK.out HOKI.out HSENT.out.1 HSENT.out.2 (HEE.out.trans hE0)
        obtain ⟨b1, b2⟩ := tell_bound l t
        have H6 := take2_any w6 (.slice uo A.length uc) A t HR1.out (by rw [← HAE.out]; exact t2) ht47
        rw [HAE.out] at t1 t2 t3 t4 b1 b2
        rw [t3, HAE.out, HCE.out, HEE.out] at H6
        replace H6 := hide H6
        have HT1 := hide t1
        have HT2 := hide t2
        have HT4 := hide t4
        have HS0 := hide h0
        have HSS : Hid (∀ W va vb, readsSer W W.heap.size va A → readsSer W W.heap.size vb A → Calls Tryz.prog 13 #[va, vb] W fun e w' => e = .returned (.bool true) ∧ Grow W w') := hide fun W va vb h1 h2 => by
          refine (sameSeries_yes W W.heap.size va vb A h1.wires h2.wires b1 b2).mono ?_
          rintro e w' ⟨h, n, rfl⟩
          exact ⟨h, grow_drew _ _⟩
        have hl5 : l.length ≤ 500 := (store_right h0).1
        clear t1 t2 t3 t4 h0 b2 hE0
        go_wp2_with fail
        refine H6.out.mono ?_
        rintro e w7 ⟨v2, rfl, hg7, hr2⟩
        obtain ⟨xo, xc, hx⟩ := hr2.shape
        subst hx
        have HG67 : Hid (Grow w6 w7) := hide hg7
        have H7 := hide (HSS.out w7 _ _ ((HR1.out.keep hg7).more hg7.size) hr2)
        have hcc : ((C : Int) != (C : Int)) = false := by simp
        clear hg7 hr2 H6
        go_wp2_with fail
        refine H7.out.mono ?_
        rintro e w8 ⟨rfl, hg8⟩
        have HG68 : Hid (Grow w6 w8) := hide (HG67.out.trans hg8)
        have H8 := tcheck_any w8 (.slice uo A.length uc) A ((HR1.out.keep HG68.out).more HG68.out.size) HT2.out
        rw [HT1.out] at H8
        replace H8 := hide H8
        clear hg8 H7
        go_wp2_with fail
        refine H8.out.mono ?_
        rintro e w9 ⟨rfl, hg9⟩
        have HG69 : Hid (Grow w6 w9) := hide (HG68.out.trans hg9)
        clear hg9 H8
        go_wp2
        go_loopw [13] (fun iv wr => ∃ i : Nat, i ≤ l.length ∧ iv = .int .i64 i ∧ Hid (Grow w6 wr)) (fun iv _ => l.length - (intOf iv).toNat)
        case atStart => exact ⟨0, by omega, rfl, HG69⟩
        case round =>
          obtain ⟨i, hi, rfl, HGr⟩ := hrel
          have HGw : Hid (Grow w wr) := hide (HG6.out.trans HGr.out)
          by_cases hlt : i < l.length
          · have hlti : (i : Int) < (l.length : Int) := by omega
            obtain ⟨rb, rf, xa, ya, rfl, hrB, ha, hss, a0, a1⟩ := HCELLS.out i hlt
            have c0 := (HGw.out.cell (p := ⟨rb, rf + i * 2, none⟩) hrB).trans a0
            have HA1 := hide a1
            have HSS2 := hide hss
            have hcl := (serErr_labels ((store_right HS0.out).2.2.1 _ (List.getElem_mem hlt))).1
            have HG := tget2_any wr (.slice uo A.length uc) xa A l[i].1 ((HR1.out.keep HGr.out).more HGr.out.size) HT2.out (readsLabels_mono (readsLabels_below (show readsLabels w w.heap.size xa l[i].1 from ha) HGw.out) HGw.out.size) (by have := (right_lens hcl).1; omega) (right_lens hcl).2
            have HCL := hide hcl
            replace HG := hide HG
            obtain ⟨lo, lc, hlv⟩ := readsLabels_len ha
            obtain ⟨yo, yc, hyv, -⟩ := readsSam_len hss
            subst hlv hyv
            obtain ⟨n2, hn2⟩ : ∃ n2, l[i].2.length = n2 := ⟨_, rfl⟩
            have HN2 := hide hn2
            rw [hn2] at HA1 HSS2
            clear ha hss a0 a1 hcl hn2
            go_wp2_with fail
            refine HG.out.mono ?_
            rintro e w10 ⟨hg10, ⟨h1, rfl⟩ | ⟨h1, h2, rfl⟩ | ⟨h1, h2, GE, gv, rfl, hgot⟩⟩
            · exact absurd HT1.out h1
            · exact absurd HCL.out h2
            · obtain ⟨rfl, ss, hrs, hpre, hss5⟩ := got_front hlt HT1.out HT4.out hgot
              obtain ⟨go, gc, hgv, hgc⟩ := readsSam_len hrs
              subst hgv
              have hle : n2 ≤ ss.length := by rw [← HN2.out]; exact hpre.length_le
              have htk : ss.take n2 = l[i].2 := by rw [← HN2.out]; exact (List.prefix_iff_eq_take.1 hpre).symm
              have hrt := hrs.take hle
              rw [htk] at hrt
              have HG10 : Hid (Grow w6 w10) := hide (HGr.out.trans hg10)
              have HGw10 : Hid (Grow w w10) := hide (HGw.out.trans hg10)
              have HSA : Hid (∀ q, Calls Tryz.prog 21 #[.slice go n2 gc, .slice yo n2 yc] (w10.drewN q) fun e w' => e = .returned (.bool true) ∧ ∃ n, w' = (w10.drewN q).drewN n) := hide fun q => by
                have gw : Grow w10 (w10.drewN q) := grow_drew _ _
                exact sameSamples_yes (w10.drewN q) (w10.drewN q).heap.size _ _ l[i].2 ((hrt.keep gw).more gw.size).wire ((HSS2.out.keep (HGw10.out.trans gw)).more (HGw10.out.trans gw).size).wire (by rw [HN2.out]; omega)
              have c1 := (HGw10.out.cell (p := ⟨rb, rf + i * 2 + 1, none⟩) hrB).trans HA1.out
              have hnl : ¬ ((ss.length : Int) < (n2 : Int)) := by omega
              have hnd : decide ((ss.length : Int) < (n2 : Int)) = false := decide_eq_false hnl
              have hgc2 : n2 ≤ gc := by omega
              have hgc3 : (n2 : Int) ≤ (gc : Int) := by omega
              clear hgot hrs hpre hrt htk hg10 HG c0
              go_wp2
              go_quiet ((go_at_call 21; exact Calls.quiet_of (HSA.out _)))
              have HGq : Hid (Grow w6 (w10.drewN nq)) := hide (HG10.out.trans (grow_drew _ _))
              go_wp2
              go_roundw
              case rel => exact ⟨i + 1, by omega, by go_num, HGq⟩
              case measure => simp [intOf]; omega
          · obtain rfl : i = l.length := by omega
            have hnl : ¬ ((l.length : Int) < (l.length : Int)) := by omega
            go_wp2
            go_ret
            exact ⟨ret_bool (by simp), HGw.out⟩
      · have hz2 : ((EE : Int) != 0) = true := by simp; exact hE0
        clear hE0
        go_wp2
        go_ret
        exact ⟨ret_bool (by simp), HG6.out⟩
    · omega
  · have hz : (WE != 0) = true := by simpa using hW
    clear hW
    go_wp2
    go_ret
    exact ⟨ret_bool (by simp), HG4.out⟩
end Go.Proofs.YtmdakfmecfcbhaaGreat.Tk
