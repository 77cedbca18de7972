/- 1 texts in one. -/
import Derived.Laws.OwnMore
import Derived.Shelf.RegionOpenPlain
import Derived.Test.YtmdakfmecfcbhaaGreatProg
import Derived.Test.YtmdakfmecfcbhaaGreatK7e06493
import Derived.Test.YtmdakfmecfcbhaaGreatK85cc7d6
import Derived.Test.YtmdakfmecfcbhaaGreatK6ada7ca
import Derived.Test.YtmdakfmecfcbhaaGreatK2303fdd
import Derived.Test.YtmdakfmecfcbhaaGreatK0d2d33e
import Derived.Test.YtmdakfmecfcbhaaGreatK3d240a0
import Derived.Test.YtmdakfmecfcbhaaGreatKb38b00d
import Derived.Test.YtmdakfmecfcbhaaGreatKe26850f
import Derived.Test.YtmdakfmecfcbhaaGreatK3e23582
import Derived.Test.YtmdakfmecfcbhaaGreatK14d8a0b
import Derived.Test.YtmdakfmecfcbhaaGreatKf7a2202
import Derived.Test.YtmdakfmecfcbhaaGreatKbe49eb6
import Derived.Test.YtmdakfmecfcbhaaGreatK62f8920
import Derived.Test.YtmdakfmecfcbhaaGreatK1440184
import Derived.Test.YtmdakfmecfcbhaaGreatK699e614
import Derived.BigQuiet
set_option linter.unusedVariables false
set_option linter.unusedSimpArgs false
namespace Go.Proofs.YtmdakfmecfcbhaaGreat.Tk
open Go.RowKit
attribute [local go_sem] bs_size bs_toList bs_append bs_get bs_extract
/-! ### mathematics -/
theorem addS_pos {ss : List Sam} (p : Sam) (h : 0 < ss.length) : 0 < (addS ss p).length := by
  unfold addS
  split
  · simp
  · exact h
theorem keepP_pos {x : List Lb.Lab} {p : Sam} : ∀ {l : List Ser}, (∀ s ∈ l, 0 < s.2.length) → ∀ s ∈ keepP l x p, 0 < s.2.length
  | [], _, s, h => by
    simp only [keepP, List.mem_singleton] at h
    subst h
    simp
  | t :: l, hl, s, h => by
    rw [keepP] at h
    split at h
    · rcases List.mem_cons.1 h with rfl | h
      · exact hl _ (by simp)
      · exact keepP_pos (fun u hu => hl u (List.mem_cons_of_mem _ hu)) s h
    · split at h
      · rcases List.mem_cons.1 h with rfl | h
        · exact addS_pos p (hl _ (by simp))
        · exact hl s (List.mem_cons_of_mem _ h)
      · rcases List.mem_cons.1 h with rfl | h
        · simp
        · exact hl s h
theorem keepAll_pos {x : List Lb.Lab} : ∀ (ps : List Sam) {l : List Ser}, (∀ s ∈ l, 0 < s.2.length) → ∀ s ∈ keepAll l x ps, 0 < s.2.length
  | [], l, h => h
  | p :: ps, l, h => keepAll_pos ps (l := keepP l x p) (keepP_pos h)
theorem takeAll_pos : ∀ (x : List Ser) {l : List Ser}, (∀ s ∈ l, 0 < s.2.length) → ∀ s ∈ takeAll l x, 0 < s.2.length
  | [], l, h => h
  | y :: x, l, h => takeAll_pos x (l := keepAll l y.1 y.2) (keepAll_pos y.2 h)
theorem mid_ok {l x : List Ser} (h : storeErr l = 0) (hx : x.length ≤ 200) (hy : ∀ y ∈ x, Lb.checkB y.1 = 0 ∧ y.2.length ≤ 200) {i k : Nat} (hi : i < x.length) (hk : k ≤ x[i].2.length) :
    (keepAll (takeAll l (x.take i)) x[i].1 (x[i].2.take k)).length ≤ 100000 ∧ ∀ s ∈ keepAll (takeAll l (x.take i)) x[i].1 (x[i].2.take k), Lb.checkB s.1 = 0 ∧ 0 < s.2.length ∧ s.2.length ≤ 60000 := by
  have h1 := takeAll_fit (x.take i) (fun y hyy => hy y (List.mem_of_mem_take hyy)) (store_fit h)
  have h2 := keepAll_fit (hy _ (List.getElem_mem hi)).1 (x[i].2.take k) h1
  have h3 : ∀ s ∈ l, 0 < s.2.length := fun s hs => (serErr_labels ((store_right h).2.2.1 s hs)).2.1
  have h4 := keepAll_pos (x := x[i].1) (x[i].2.take k) (takeAll_pos (x.take i) h3)
  have e1 : (x.take i).length ≤ 200 := by rw [List.length_take]; omega
  have e2 : (x[i].2.take k).length ≤ 200 := by have := (hy _ (List.getElem_mem hi)).2; rw [List.length_take]; omega
  obtain ⟨f1, f2, f3, _⟩ := h2
  exact ⟨by omega, fun s hs => ⟨f3 s hs, h4 s hs, by have := f2 s hs; omega⟩⟩
theorem end_ok {l x : List Ser} (h : storeErr l = 0) (hx : x.length ≤ 200) (hy : ∀ y ∈ x, Lb.checkB y.1 = 0 ∧ y.2.length ≤ 200) : (takeAll l x).length ≤ 100000 := by
  have h1 := takeAll_fit x hy (store_fit h)
  have := h1.1
  omega
theorem keepAll_snoc (l : List Ser) (x : List Lb.Lab) (ps : List Sam) {k : Nat} (h : k < ps.length) : keepAll l x (ps.take (k + 1)) = keepP (keepAll l x (ps.take k)) x ps[k] := by
  unfold keepAll
  rw [List.take_succ_eq_append_getElem h, List.foldl_append]
  rfl
theorem rdS.shape {w : World} {B : Nat} {v : Value} {qs : List Pt} (h : rdS w B v qs) : ∃ ao cp, v = .slice ao qs.length cp := by
  rcases h.1 with ⟨rfl, rfl⟩ | ⟨a', cp, rfl, _⟩
  · exact ⟨none, 0, rfl⟩
  · exact ⟨_, _, rfl⟩
theorem wireSam {w : World} {B : Nat} {v : Value} {l : List Sam} (h : readsSamples w B v l) : ∃ ao cp, v = .slice ao l.length cp ∧ ∀ i (hi : i < l.length), ∃ b o, ao = some ⟨b, o, none⟩ ∧ b < B ∧ w.cell? ⟨b, o + i * 2, none⟩ = some (.int .i64 l[i].1) ∧ w.cell? ⟨b, o + i * 2 + 1, none⟩ = some (.int .u64 (l[i].2 : Nat)) := h
set_option maxRecDepth 20000 in
set_option maxHeartbeats 2000000 in
theorem rTakeOf_any (w : World) (v : Value) (qs : List Pt) (l : List Ser) (s : List UInt8) (hv : rdS w w.heap.size v qs) (hl : qs.map (·.1) = l) (h0 : storeErr l = 0) (hs : s.length ≤ 140737488355328) :
    Calls Tryz.prog 12 #[v, .string (bs s)] w fun e w' => Grow w w' ∧ ((sentOf s = none ∧ e = .returned (.tuple #[v, .int .i64 400, .int .i64 0])) ∨
      (∃ x, sentOf s = some x ∧ ((manyB (takeAll l x) = true ∧ e = .returned (.tuple #[.slice none 0 0, .int .i64 0, .int .i64 2])) ∨ (manyB (takeAll l x) = false ∧ ∃ v' ps, e = .returned (.tuple #[v', .int .i64 200, .int .i64 0]) ∧ rdS w' w'.heap.size v' ps ∧ ps.map (·.1) = takeAll l x)))) := by
  have HU := hide (unpackOf_any w s 20000 hs (by decide) (by decide))
  obtain ⟨U, HUE⟩ : ∃ U, Hid ((unpackB s 20000).1 = U) := ⟨_, hide rfl⟩
  obtain ⟨T, HTE⟩ : ∃ T, Hid ((unpackB s 20000).2 = T) := ⟨_, hide rfl⟩
  rw [HUE.out, HTE.out] at HU
  obtain ⟨SO, HSO⟩ : ∃ SO, Hid (sentOf s = SO) := ⟨_, hide rfl⟩
  have HS1 : Hid ((if U ≠ 0 then none else if readErr T ≠ 0 then none else match allRead T with | none => none | some x => if mayB x = true then some x else none) = SO) := by
    rw [← HUE.out, ← HTE.out]; exact HSO
  rw [HSO.out]
  have HV := hide hv
  have HL := hide hl
  have HST := hide h0
  obtain ⟨vo, vc, hvv⟩ := hv.shape
  subst hvv
  clear hv hl h0
  go_enter Tryz.func12, Tryz.ntmps12
  go_wp2_with fail
  refine HU.out.mono ?_
  rintro e w1 ⟨rfl, hg1⟩
  have HG1 : Hid (Grow w w1) := hide hg1
  clear hg1 HU
  by_cases hU : U = 0
  · have hz : (U != 0) = false := by simp [hU]
    rw [if_neg (by simpa using hU)] at HS1
    clear hU
    have HR := hide (readOf_any w1 T (by have := unpack_short s; rw [HTE.out] at this; omega))
    go_wp2_with fail
    refine HR.out.mono ?_
    rintro e w2 ⟨hg2, (⟨hr, x, v, hx, rfl, hown⟩ | ⟨hne, rfl⟩)⟩
    · have HG2 : Hid (Grow w w2) := hide (HG1.out.trans hg2)
      rw [if_neg (by simpa using hr), hx] at HS1
      have HS2 : Hid ((if mayB x = true then some x else none) = SO) := HS1
      have HOWN := hide hown
      obtain ⟨vs, hvl, hrow, hall⟩ := id hown
      obtain ⟨vo2, vc2, hvv⟩ := own_shape hrow
      subst hvv
      have hrd := reads_ownSeries hown
      obtain ⟨ao, cp, hv2, hcells⟩ := hrd
      have hx20 : x.length ≤ 200 := by
        obtain ⟨hc, _, _⟩ := readErr_none hr hx
        unfold countsB at hc
        simp only [Bool.and_eq_true, decide_eq_true_eq] at hc
        exact hc.1
      have HLF : Hid (∀ y ∈ x, y.1.length ≤ 20 ∧ Lb.lensOk y.1) := hide (fun y hy => by
        obtain ⟨hc, _, _⟩ := readErr_none hr hx
        unfold countsB at hc
        simp only [Bool.and_eq_true, decide_eq_true_eq, List.all_eq_true] at hc
        obtain ⟨q1, q2, q3⟩ := hc.2 y hy
        exact ⟨q1, fun z hz => by have := q3 z hz; omega⟩)
      simp only [Value.slice.injEq] at hv2
      obtain ⟨rfl, _, rfl⟩ := hv2
      have HCELLS := hide hcells
      clear hg2 HR hr hx hown hvl hrow hall HS1
      go_wp2
      go_loopw [10] (fun iv wr => ∃ k : Nat, k ≤ x.length ∧ iv = .int .i64 k ∧ Hid (∀ j (hj : j < x.length), j < k → x[j].1.length ≠ 0 ∧ Lb.checkB x[j].1 = 0) ∧ Hid (Grow w2 wr)) (fun iv _ => x.length - (intOf iv).toNat)
      case atStart => exact ⟨0, by omega, rfl, hide (fun j hj h => by omega), hide (Grow.refl _)⟩
      case round =>
        obtain ⟨k, hk, rfl, HD, HGr⟩ := hrel
        have HGw : Hid (Grow w wr) := hide (HG2.out.trans HGr.out)
        by_cases hlt : k < x.length
        · have hlti : (k : Int) < (x.length : Int) := by omega
          obtain ⟨rb, rf, xa, ya, rfl, hrB, a0, a1, ha, hss⟩ := hcells k hlt
          have c0 := (HGr.out.cell (p := ⟨rb, rf + k * 2, none⟩) hrB).trans a0
          have hfl := HLF.out _ (List.getElem_mem hlt)
          have HCK := Lb.rCheckLabels_any wr xa x[k].1 (Lb.readsLabels_mono (Lb.readsLabels_below (show Lb.readsLabels w2 w2.heap.size xa x[k].1 from ha) HGr.out) HGr.out.size) (by omega) hfl.2
          obtain ⟨C, HC⟩ : ∃ C, Hid (Lb.checkB x[k].1 = C) := ⟨_, hide rfl⟩
          rw [HC.out] at HCK
          replace HCK := hide HCK
          obtain ⟨xo, xc, hxa⟩ := readsLabels_len ha
          obtain ⟨n1, hn1⟩ : ∃ n1, x[k].1.length = n1 := ⟨_, rfl⟩
          have HN1 := hide hn1
          rw [hn1] at hxa
          subst hxa
          clear ha hss a0 a1 hfl hn1 hcells HCELLS
          by_cases h0 : n1 = 0
          · have hz0 : ((n1 : Int) == 0) = true := by simp [h0]
            have hbad := mayB_no hlt (fun h => h.1 (HN1.out.trans h0))
            rw [if_neg (by rw [hbad]; simp)] at HS2
            clear hbad h0
            go_wp2
            go_ret3
            exact ⟨HGw.out, .inl ⟨HS2.out.symm, rfl⟩⟩
          · have hz0 : ((n1 : Int) == 0) = false := by rw [beq_eq_false_iff_ne]; omega
            have HZ := hide h0
            clear h0
            go_wp2_with fail
            refine HCK.out.mono ?_
            rintro e w3 ⟨rfl, nn, hnn⟩
            have HG3 : Hid (Grow w2 w3) := hide (HGr.out.trans (by rw [hnn]; exact grow_drew _ _))
            clear hnn HCK c0
            by_cases hC : C = 0
            · have hzc : ((C : Int) != 0) = false := by simp [hC]
              have HC0 := hide hC
              clear hC
              go_wp2
              go_roundw
              case rel => exact ⟨k + 1, by omega, by go_num, hide (fun j hj hjk => by
                by_cases e : j = k
                · subst e; exact ⟨by rw [HN1.out]; exact HZ.out, HC.out.trans HC0.out⟩
                · exact HD.out j hj (by omega)), HG3⟩
              case measure => simp [intOf]; omega
            · have hzc : ((C : Int) != 0) = true := by simp; exact hC
              have hbad := mayB_no hlt (fun h => hC (by rw [← HC.out]; exact h.2))
              rw [if_neg (by rw [hbad]; simp)] at HS2
              clear hbad hC
              go_wp2
              go_ret3
              exact ⟨HG2.out.trans HG3.out, .inl ⟨HS2.out.symm, rfl⟩⟩
        · obtain rfl : k = x.length := by omega
          have hyes := mayB_yes (fun j hj => HD.out j hj hj)
          rw [if_pos hyes] at HS2
          have HSX : Hid (sentOf s = some x) := hide (HSO.out.trans HS2.out.symm)
          have HY : Hid (∀ y ∈ x, Lb.checkB y.1 = 0 ∧ y.2.length ≤ 200) := hide (sentOf_some HSX.out).2.1
          have hnl : ¬ ((x.length : Int) < (x.length : Int)) := by omega
          clear hyes hcells
          go_wp2
          go_loopw [11, 12] (fun ov iv wr' => ∃ (i : Nat) (ps : List Pt), i ≤ x.length ∧ iv = .int .i64 i ∧ Hid (rdS wr' wr'.heap.size ov ps) ∧ Hid (ps.map (·.1) = takeAll l (x.take i)) ∧ Hid (Grow w2 wr')) (fun _ iv _ => x.length - (intOf iv).toNat)
          case atStart => exact ⟨0, qs, by omega, rfl, hide ((HV.out.keep HGw.out).more HGw.out.size), hide HL.out, HGr⟩
          case round =>
            obtain ⟨i, ps, hi, rfl, HRD, HPS, HGo⟩ := hrel
            obtain ⟨so, sc, hsv⟩ := HRD.out.shape
            subst hsv
            by_cases hlt : i < x.length
            · have hlti : (i : Int) < (x.length : Int) := by omega
              obtain ⟨rb, rf, xa, ya, rfl, hrB, a0, a1, ha, hss⟩ := HCELLS.out i hlt
              obtain ⟨yo, yc, hyv, hyc⟩ := wireSam hss
              obtain ⟨xo, xc, hxa⟩ := readsLabels_len ha
              subst hyv hxa
              have HA : Hid (Lb.readsLabels w2 w2.heap.size (.slice xo x[i].1.length xc) x[i].1) := hide ha
              have HA0 := hide a0
              have HA1 := hide a1
              have HYC := hide hyc
              obtain ⟨n2, hn2⟩ : ∃ n2, x[i].2.length = n2 := ⟨_, rfl⟩
              obtain ⟨n1, hn1⟩ : ∃ n1, x[i].1.length = n1 := ⟨_, rfl⟩
              rw [hn2] at HA1
              rw [hn1] at HA0 HA
              have HN2 := hide hn2
              have hn2b : n2 ≤ 200 := by rw [← hn2]; exact (HY.out _ (List.getElem_mem hlt)).2
              clear ha hss a0 a1 hyc hn2 hn1
              go_wp2
              go_loopw [11, 13] (fun ov kv wr' => ∃ (k : Nat) (ps : List Pt), k ≤ n2 ∧ kv = .int .i64 k ∧ Hid (rdS wr' wr'.heap.size ov ps) ∧ Hid (ps.map (·.1) = keepAll (takeAll l (x.take i)) x[i].1 (x[i].2.take k)) ∧ Hid (Grow w2 wr')) (fun _ kv _ => n2 - (intOf kv).toNat)
              case atStart => exact ⟨0, ps, by omega, rfl, HRD, hide (by rw [HPS.out]; rfl), HGo⟩
              case round =>
                obtain ⟨k, ps2, hk, rfl, HRD2, HPS2, HGo2⟩ := hrel
                obtain ⟨so2, sc2, hsv2⟩ := HRD2.out.shape
                subst hsv2
                have c1 := (HGo2.out.cell (p := ⟨rb, rf + i * 2 + 1, none⟩) hrB).trans HA1.out
                by_cases hk2 : k < n2
                · have hki : (k : Int) < (n2 : Int) := by omega
                  have hkx : k < x[i].2.length := by rw [HN2.out]; exact hk2
                  have c0 := (HGo2.out.cell (p := ⟨rb, rf + i * 2, none⟩) hrB).trans HA0.out
                  obtain ⟨yb, yf, rfl, hyB, s0, s1⟩ := HYC.out k hkx
                  have t0 := (HGo2.out.cell (p := ⟨yb, yf + k * 2, none⟩) hyB).trans s0
                  have t1 := (HGo2.out.cell (p := ⟨yb, yf + k * 2 + 1, none⟩) hyB).trans s1
                  obtain ⟨m1, m2⟩ := mid_ok HST.out hx20 HY.out hlt (Nat.le_of_lt hkx)
                  rw [← HPS2.out] at m1 m2
                  have HK : ∀ W, Grow wr W → _ := fun W g => rKeep_any W (.slice so2 ps2.length sc2) (.slice xo n1 xc) ps2 x[i].1 (x[i].2[k]).1 (x[i].2[k]).2 ((HRD2.out.keep g).more g.size) (Lb.readsLabels_mono (Lb.readsLabels_below HA.out (HGo2.out.trans g)) (HGo2.out.trans g).size) (by rw [List.length_map] at m1; exact m1) (fun q hq => m2 q.1 (List.mem_map.2 ⟨q, hq, rfl⟩)) (HY.out _ (List.getElem_mem hlt)).1
                  have HKS := hide (keepAll_snoc (takeAll l (x.take i)) x[i].1 x[i].2 hkx)
                  rw [HPS2.out, show ((x[i].2[k]).1, (x[i].2[k]).2) = x[i].2[k] from rfl, ← HKS.out] at HK
                  replace HK := hide HK
                  generalize (x[i].2[k]).1 = t at *
                  generalize (x[i].2[k]).2 = b at *
                  have mixed : Tryz.prog.follows .mixedOrders = true := by kernel_rfl
                  have HS0 := hide s0
                  have HS1' := hide s1
                  clear s0 s1 m1 m2 t0 t1 c0
                  go_wp2
                  clear c1
                  refine wp_region_free 15 88 mixed rfl (by decide +kernel) Grow (fun _ _ _ => Grow.trans) (Grow.refl _)
                    (fun j v w' => match j with
                      | 0 => v = .slice so2 ps2.length sc2
                      | 1 => v = .slice (some ⟨rb, rf, none⟩) x.length vc2
                      | 2 => v = .int .i64 i
                      | 3 => v = .pointer (some ⟨rb, rf + i * 2, none⟩)
                      | 4 => v = .pointer (some ⟨rb, rf + i * 2, none⟩)
                      | 5 => v = .slice xo n1 xc
                      | 6 => v = .slice (some ⟨rb, rf, none⟩) x.length vc2
                      | 7 => v = .int .i64 i
                      | 8 => v = .pointer (some ⟨rb, rf + i * 2, none⟩)
                      | 9 => v = .pointer (some ⟨rb, rf + i * 2 + 1, none⟩)
                      | 10 => v = .slice (some ⟨yb, yf, none⟩) n2 yc
                      | 11 => v = .int .i64 k
                      | 12 => v = .pointer (some ⟨yb, yf + k * 2, none⟩)
                      | 13 => v = .agg #[.int .i64 t, .int .u64 (b : Nat)]
                      | _ => ∃ qs', rdS w' w'.heap.size v qs' ∧ qs'.map (·.1) = keepAll (takeAll l (x.take i)) x[i].1 (x[i].2.take (k + 1)))
                    (fun j v w' w'' h hg => by
                      match j, h with
                      | 0, h => exact h
                      | 1, h => exact h
                      | 2, h => exact h
                      | 3, h => exact h
                      | 4, h => exact h
                      | 5, h => exact h
                      | 6, h => exact h
                      | 7, h => exact h
                      | 8, h => exact h
                      | 9, h => exact h
                      | 10, h => exact h
                      | 11, h => exact h
                      | 12, h => exact h
                      | 13, h => exact h
                      | j + 14, ⟨qs', h1, h2⟩ => exact ⟨qs', (h1.keep hg).more hg.size, h2⟩)
                    (fun _ _ => False) (fun _ _ _ _ h => h.elim) (fun j hj o ho a w4 hG hoff hdep => ?_) (fun vals w4 hG hvals => ?_)
                  · have hgw : Grow wr w4 := hG.undrew
                    have e0 := ((HGo2.out.trans hgw).cell (p := ⟨rb, rf + i * 2, none⟩) hrB).trans HA0.out
                    have e1 := ((HGo2.out.trans hgw).cell (p := ⟨rb, rf + i * 2 + 1, none⟩) hrB).trans HA1.out
                    have e2 := ((HGo2.out.trans hgw).cell (p := ⟨yb, yf + k * 2, none⟩) hyB).trans HS0.out
                    have e3 := ((HGo2.out.trans hgw).cell (p := ⟨yb, yf + k * 2 + 1, none⟩) hyB).trans HS1'.out
                    match j, hj with
                    | 0, _ =>
                      obtain rfl := Option.some.inj ho
                      have o11 := hoff 11 (by decide +kernel)
                      simp at o11
                      simp [opYields, go_sem, o11]
                      exact Grow.refl _
                    | 1, _ =>
                      obtain rfl := Option.some.inj ho
                      have o9 := hoff 9 (by decide +kernel)
                      simp at o9
                      simp [opYields, go_sem, o9]
                      exact Grow.refl _
                    | 2, _ =>
                      obtain rfl := Option.some.inj ho
                      have o12 := hoff 12 (by decide +kernel)
                      simp at o12
                      simp [opYields, go_sem, o12]
                      exact Grow.refl _
                    | 3, _ =>
                      obtain rfl := Option.some.inj ho
                      have d1 := hdep 1 (by decide +kernel)
                      simp [slotOf, dstOf] at d1
                      have d2 := hdep 2 (by decide +kernel)
                      simp [slotOf, dstOf] at d2
                      simp [opYields, go_sem, d1, d2, hlti]
                      exact Grow.refl _
                    | 4, _ =>
                      obtain rfl := Option.some.inj ho
                      have d3 := hdep 3 (by decide +kernel)
                      simp [slotOf, dstOf] at d3
                      simp [opYields, go_sem, d3]
                      exact Grow.refl _
                    | 5, _ =>
                      obtain rfl := Option.some.inj ho
                      have d4 := hdep 4 (by decide +kernel)
                      simp [slotOf, dstOf] at d4
                      simp [opYields, go_sem, d4, e0]
                      exact Grow.refl _
                    | 6, _ =>
                      obtain rfl := Option.some.inj ho
                      have o9 := hoff 9 (by decide +kernel)
                      simp at o9
                      simp [opYields, go_sem, o9]
                      exact Grow.refl _
                    | 7, _ =>
                      obtain rfl := Option.some.inj ho
                      have o12 := hoff 12 (by decide +kernel)
                      simp at o12
                      simp [opYields, go_sem, o12]
                      exact Grow.refl _
                    | 8, _ =>
                      obtain rfl := Option.some.inj ho
                      have d6 := hdep 6 (by decide +kernel)
                      simp [slotOf, dstOf] at d6
                      have d7 := hdep 7 (by decide +kernel)
                      simp [slotOf, dstOf] at d7
                      simp [opYields, go_sem, d6, d7, hlti]
                      exact Grow.refl _
                    | 9, _ =>
                      obtain rfl := Option.some.inj ho
                      have d8 := hdep 8 (by decide +kernel)
                      simp [slotOf, dstOf] at d8
                      simp [opYields, go_sem, d8]
                      exact Grow.refl _
                    | 10, _ =>
                      obtain rfl := Option.some.inj ho
                      have d9 := hdep 9 (by decide +kernel)
                      simp [slotOf, dstOf] at d9
                      simp [opYields, go_sem, d9, e1]
                      exact Grow.refl _
                    | 11, _ =>
                      obtain rfl := Option.some.inj ho
                      have o13 := hoff 13 (by decide +kernel)
                      simp at o13
                      simp [opYields, go_sem, o13]
                      exact Grow.refl _
                    | 12, _ =>
                      obtain rfl := Option.some.inj ho
                      have d10 := hdep 10 (by decide +kernel)
                      simp [slotOf, dstOf] at d10
                      have d11 := hdep 11 (by decide +kernel)
                      simp [slotOf, dstOf] at d11
                      simp [opYields, go_sem, d10, d11, hki]
                      exact Grow.refl _
                    | 13, _ =>
                      obtain rfl := Option.some.inj ho
                      have d12 := hdep 12 (by decide +kernel)
                      simp [slotOf, dstOf] at d12
                      simp [opYields, go_sem, d12, e2, e3]
                      exact Grow.refl _
                    | 14, _ =>
                      obtain rfl := Option.some.inj ho
                      have d0 := hdep 0 (by decide +kernel)
                      simp [slotOf, dstOf] at d0
                      have d5 := hdep 5 (by decide +kernel)
                      simp [slotOf, dstOf] at d5
                      have d13 := hdep 13 (by decide +kernel)
                      simp [slotOf, dstOf] at d13
                      simp [opYields, go_sem, d0, d5, d13]
                      refine (HK.out w4 hgw).mono ?_
                      rintro e w5 ⟨v', qs', rfl, h1, h2, h3⟩
                      exact ⟨h3, qs', h1, h2⟩
                    | j + 15, h => exact absurd h (by omega)
                  · obtain ⟨qs', h1, h2⟩ := hvals 14 (by omega)
                    obtain ⟨v14, hv14⟩ : ∃ v, vals 14 = v := ⟨_, rfl⟩
                    rw [hv14] at h1
                    obtain ⟨so3, sc3, hsv3⟩ := h1.shape
                    rw [hsv3] at h1 hv14
                    have H1 := hide h1
                    have H2 := hide h2
                    have HG4 : Hid (Grow w2 w4) := hide (HGo2.out.trans hG.undrew)
                    clear h1 h2 hvals hG hsv3
                    simp [over, dstOf, Act.put, hv14]
                    go_wp2
                    go_roundw
                    case rel => exact ⟨k + 1, qs', by omega, by go_num, H1, H2, HG4⟩
                    case measure => simp [intOf]; omega
                · obtain rfl : k = n2 := by omega
                  have hnk : ¬ ((k : Int) < (k : Int)) := by omega
                  have HNEXT : Hid (ps2.map (·.1) = takeAll l (x.take (i + 1))) := hide (by rw [HPS2.out, takeAll_snoc l x hlt, show x[i].2.take k = x[i].2 from List.take_of_length_le (by rw [HN2.out]; exact Nat.le_refl _)])
                  go_wp2
                  go_roundw
                  case rel => exact ⟨i + 1, ps2, by omega, by go_num, HRD2, HNEXT, HGo2⟩
                  case measure => simp [intOf]; omega
            · obtain rfl : i = x.length := by omega
              rw [List.take_length] at HPS
              have hlq : ps.length ≤ 100000 := by
                have := end_ok HST.out hx20 HY.out
                rw [← HPS.out, List.length_map] at this
                exact this
              have HTM := rGreat_any wr (.slice so ps.length sc) (ps.map (·.1)) HRD.out.reads (by rw [List.length_map]; omega)
              rw [HPS.out] at HTM
              obtain ⟨MB, HMB⟩ : ∃ MB, Hid (manyB (takeAll l x) = MB) := ⟨_, hide rfl⟩
              rw [HMB.out] at HTM
              replace HTM := hide HTM
              have HGe : Hid (Grow w wr) := hide (HG2.out.trans HGo.out)
              go_wp2_with fail
              refine HTM.out.mono ?_
              rintro e w5 ⟨rfl, rfl⟩
              cases MB with
              | true =>
                go_wp2
                go_ret3
                exact ⟨HGe.out, .inr ⟨x, HS2.out.symm, .inl ⟨HMB.out, rfl⟩⟩⟩
              | false =>
                go_wp2
                go_ret3
                exact ⟨HGe.out, .inr ⟨x, HS2.out.symm, .inr ⟨HMB.out, _, ps, rfl, HRD.out, HPS.out⟩⟩⟩
    · rw [if_pos hne] at HS1
      have HG2 : Hid (Grow w w2) := hide (HG1.out.trans hg2)
      have hnz : (readErr T != 0) = true := by simpa using hne
      clear hg2 HR hne
      go_wp2
      go_ret3
      exact ⟨HG2.out, .inl ⟨HS1.out.symm, rfl⟩⟩
  · have hz : (U != 0) = true := by simpa using hU
    rw [if_pos hU] at HS1
    clear hU
    go_wp2
    go_ret3
    exact ⟨HG1.out, .inl ⟨HS1.out.symm, rfl⟩⟩
end Go.Proofs.YtmdakfmecfcbhaaGreat.Tk
