/- 1 texts in one. -/
import Derived.Laws.OwnMore
import Derived.Test.YtkaeogldielkfaaGreatProg
import Derived.Test.YtkaeogldielkfaaGreatK5674b3b
import Derived.Test.YtkaeogldielkfaaGreatK7aebb14
import Derived.Test.YtkaeogldielkfaaGreatKe92268d
import Derived.Test.YtkaeogldielkfaaGreatKb13b050
import Derived.Test.YtkaeogldielkfaaGreatK9055bc8
import Derived.Test.YtkaeogldielkfaaGreatKe6b8975
import Derived.Test.YtkaeogldielkfaaGreatK8de6aec
import Derived.Test.YtkaeogldielkfaaGreatK410f598
import Derived.Test.YtkaeogldielkfaaGreatK115dd2e
import Derived.Test.YtkaeogldielkfaaGreatK349d951
import Derived.BigQuiet
set_option linter.unusedVariables false
set_option linter.unusedSimpArgs false
namespace Go.Proofs.YtkaeogldielkfaaGreat.Rc
open Go.RowKit Lb
attribute [local go_sem] bs_size bs_toList bs_append bs_get bs_extract
set_option maxRecDepth 20000 in
set_option maxHeartbeats 4000000 in
theorem learn_any (w : World) (B : Nat) (F : Nat → Prop) (b : Nat) (K : List Kp) (vr vp : Value) (r : Rcd) (hm : memJ w B F b K) (hF : ∀ k, w.heap.size ≤ k → F k) (hFB : ∀ k, F k → B ≤ k) (hBw : B ≤ w.heap.size) (hd : Dist K) (hr : rightM K) (hsr : SR B w vr r.refs) (hsp : SP B w vp r.points) (hre : recErr r = 0) (hKl : K.length ≤ 1000) :
    Calls Tryz.prog 26 #[.pointer (some ⟨b, 0, none⟩), .agg #[.int .i64 r.kind, vr, vp]] w fun e w' => e = outc (learnR K r).1 ∧ memJ w' B F b (learnR K r).2 ∧ KeptR F w w' := by
  obtain ⟨hk, hl1, hl2, he1, he2⟩ := recErr_zero hre
  obtain ⟨W, eW, gW, hW⟩ := laid_at w #[.int .i64 r.kind, vr, vp] 29
  have hs := gW.size
  have HS := hide (series_any W B F b K vr r.refs (hm.grow gW) (fun k h => hF k (by omega)) hFB (by omega) hd hr (hsr.keep (KeptR.grow gW)) he1 hl1 hKl)
  have HP := hide (samples_any W B F b K vp r.points (hm.grow gW) hFB (by omega) hd (hsp.keep (KeptR.grow gW)) he2 hl2 hKl)
  have HKW : Hid (KeptR F w W) := hide (KeptR.grow gW)
  obtain ⟨c0, c1, c2⟩ := three_of hW
  obtain ⟨E, HE⟩ : ∃ E, Hid (learnR K r = E) := ⟨_, hide rfl⟩
  rw [HE.out]
  obtain ⟨ro, rc, hvr, _⟩ := id hsr
  obtain ⟨po, pc, hvp, _⟩ := id hsp
  subst hvr hvp
  clear hm hF hFB hd hr hsr hsp hre he1 he2 hW gW hs
  by_cases h1 : r.kind = 1
  · have hE1 : learnS K r.refs = E := by rw [← HE.out]; unfold learnR; rw [if_pos h1]
    have hki : (r.kind == 1) = true := by simp [h1]
    rw [hE1] at HS
    clear HE HP h1 hk hE1
    go_enter Tryz.func26, Tryz.ntmps26
    go_wp2_with fail
    refine HS.out.mono ?_
    rintro e w1 ⟨rfl, hm1, hk1⟩
    have HM1 := hide hm1
    have HK1 := hide (HKW.out.trans hk1)
    clear hm1 hk1 HS
    by_cases h0 : E.1 = 0
    · have HZ := hide h0
      rw [h0, outc_ok]
      clear h0
      go_wp2
      go_end0
      exact ⟨by rw [HZ.out, outc_ok], HM1.out, HK1.out⟩
    · rw [outc_no h0]
      exact ⟨rfl, by rw [outc_no h0], HM1.out, HK1.out⟩
  · have hE1 : learnP K r.points = E := by rw [← HE.out]; unfold learnR; rw [if_neg h1]
    have hki : (r.kind == 1) = false := by simp [h1]
    rw [hE1] at HP
    clear HE HS h1 hk hE1
    go_enter Tryz.func26, Tryz.ntmps26
    go_wp2_with fail
    refine HP.out.mono ?_
    rintro e w1 ⟨rfl, hm1, hk1⟩
    have HM1 := hide hm1
    have HK1 := hide (HKW.out.trans hk1)
    clear hm1 hk1 HP
    by_cases h0 : E.1 = 0
    · have HZ := hide h0
      rw [h0, outc_ok]
      clear h0
      go_wp2
      go_end0
      exact ⟨by rw [HZ.out, outc_ok], HM1.out, HK1.out⟩
    · rw [outc_no h0]
      exact ⟨rfl, by rw [outc_no h0], HM1.out, HK1.out⟩
/-! ### what is known, one by one -/
def kpAt (k : Knw) (i : Nat) : Kp := (k.refs.getD i (0, []), k.lasts.getD i 0, k.has.getD i false)
def kpsOf (k : Knw) (n : Nat) : List Kp := (List.range n).map (kpAt k)
theorem kpsOf_succ (k : Knw) (n : Nat) : kpsOf k (n + 1) = kpsOf k n ++ [kpAt k n] := by unfold kpsOf; rw [List.range_succ, List.map_append]; rfl
theorem kpsOf_length (k : Knw) (n : Nat) : (kpsOf k n).length = n := by unfold kpsOf; simp
theorem knwErr_zero {k : Knw} (h : knwErr k = 0) : k.lasts.length = k.refs.length ∧ k.has.length = k.refs.length ∧ k.refs.length ≤ 1000 ∧ (∀ i, i < k.refs.length → oneErr k i = 0) ∧ dupB k.refs = false := by
  unfold knwErr at h
  split at h
  · cases h
  · rename_i h1
    split at h
    · cases h
    · rename_i h2
      split at h
      · rename_i h3; exact absurd h h3
      · rename_i h3
        split at h
        · cases h
        · rename_i h4
          exact ⟨by omega, by omega, by omega, oneErr_of (by omega), by simpa using h4⟩
theorem oneErr_rise {k : Knw} {i : Nat} (h : oneErr k i = 0) (hi : 0 < i) : (k.refs.getD (i - 1) (0, [])).1 < (k.refs.getD i (0, [])).1 := by
  unfold oneErr at h
  split at h
  · rename_i h0; exact absurd h h0
  · split at h
    · cases h
    · split at h
      · cases h
      · split at h
        · cases h
        · rename_i h4
          by_cases hc : (k.refs.getD i (0, [])).1 ≤ (k.refs.getD (i - 1) (0, [])).1
          · exact absurd ⟨hi, hc⟩ h4
          · omega
theorem refs_rise {k : Knw} (h : knwErr k = 0) : ∀ j i, i < j → j < k.refs.length → (k.refs.getD i (0, [])).1 < (k.refs.getD j (0, [])).1
  | 0, i, hi, _ => by omega
  | j + 1, i, hi, hj => by
    have h1 := oneErr_rise ((knwErr_zero h).2.2.2.1 (j + 1) hj) (by omega)
    rw [Nat.add_sub_cancel] at h1
    by_cases e : i = j
    · subst e; exact h1
    · have := refs_rise h j i (by omega) (by omega)
      omega
theorem kpsOf_mem {k : Knw} {n : Nat} {y : Kp} (h : y ∈ kpsOf k n) : ∃ i, i < n ∧ y = kpAt k i := by
  obtain ⟨i, hi, rfl⟩ := List.mem_map.1 h
  exact ⟨i, List.mem_range.1 hi, rfl⟩
theorem kps_right {k : Knw} (h : knwErr k = 0) {n : Nat} (hn : n ≤ k.refs.length) : rightM (kpsOf k n) := fun y hy => by
  obtain ⟨i, hi, rfl⟩ := kpsOf_mem hy
  exact oneErr_ref ((knwErr_zero h).2.2.2.1 i (by omega))
theorem kps_new {k : Knw} (h : knwErr k = 0) {n : Nat} (hn : n < k.refs.length) : knowsR (kpsOf k n) (kpAt k n).1 = 0 := knowsR_of fun y hy => by
  obtain ⟨i, hi, rfl⟩ := kpsOf_mem hy
  refine ⟨fun e => ?_, fun e => ?_⟩
  · have := refs_rise h n i hi hn
    have e' : (k.refs.getD i (0, [])).1 = (k.refs.getD n (0, [])).1 := e
    omega
  · have e' : (k.refs.getD i (0, [])).2 = (k.refs.getD n (0, [])).2 := e
    have hil : i < k.refs.length := by omega
    have g1 : k.refs.getD i (0, []) = k.refs[i] := by simp [hil]
    have g2 : k.refs.getD n (0, []) = k.refs[n] := by simp [hn]
    rw [g1, g2] at e'
    exact dupB_false.1 (knwErr_zero h).2.2.2.2 i n hil hn hi e'
theorem kps_dist {k : Knw} (h : knwErr k = 0) : ∀ {n : Nat}, n ≤ k.refs.length → Dist (kpsOf k n)
  | 0, _ => Dist.nil
  | n + 1, hn => by
    rw [kpsOf_succ]
    exact (kps_dist h (by omega)).snoc (kps_new h (by omega))
set_option maxRecDepth 20000 in
set_option maxHeartbeats 16000000 in
theorem recall_any (w : World) (B : Nat) (F : Nat → Prop) (b : Nat) (vr vl vh : Value) (k : Knw) (hm : memJ w B F b []) (hF : ∀ k, w.heap.size ≤ k → F k) (hFB : ∀ k, F k → B ≤ k) (hBw : B ≤ w.heap.size) (hv : readsKnw w B vr vl vh k) (hke : knwErr k = 0) :
    Calls Tryz.prog 25 #[.pointer (some ⟨b, 0, none⟩), .agg #[vr, vl, vh]] w fun e w' => e = .returned (.tuple #[]) ∧ memJ w' B F b (kpsOf k k.refs.length) ∧ KeptR F w w' := by
  obtain ⟨hl1, hl2, hl3, _, _⟩ := knwErr_zero hke
  obtain ⟨W, eW, gW, hW⟩ := laid_at w #[vr, vl, vh] 26
  have HKW : Hid (KeptR F w W) := hide (KeptR.grow gW)
  have HMW := hide (hm.grow gW)
  have hs := gW.size
  have HW := hide hW
  have HV := hide hv
  have HKE := hide hke
  have HF := hide hF
  have HFB := hide hFB
  obtain ⟨hvr, hvl, hvh⟩ := hv
  obtain ⟨ro, rc, e1, _⟩ := id hvr
  obtain ⟨lo, lc, e2, _⟩ := id hvl
  obtain ⟨ho, hc, e3, _⟩ := id hvh
  subst e1 e2 e3
  obtain ⟨c0, c1, c2⟩ := three_of hW
  have HL1 := hide hl1
  have HL2 := hide hl2
  clear hm hF hFB hvr hvl hvh hW gW hke hl1 hl2
  go_enter Tryz.func25, Tryz.ntmps25
  go_wp2
  go_loopw [9] (fun iv wr => ∃ n : Nat, n ≤ k.refs.length ∧ iv = .int .i64 n ∧ Hid (memJ wr B F b (kpsOf k n)) ∧ Hid (KeptR F W wr)) (fun iv _ => k.refs.length - (intOf iv).toNat)
  case atStart => exact ⟨0, by omega, rfl, HMW, hide (KeptR.refl _ _)⟩
  case round =>
    obtain ⟨n, hn, rfl, HMJ, HKR⟩ := hrel
    rename World => wr
    clear c0 c1 c2
    have HBL : Hid (Below B w wr) := hide ((HKW.out.trans HKR.out).below HFB.out hBw)
    by_cases hlt : n < k.refs.length
    · have hlti : (n : Int) < (k.refs.length : Int) := by omega
      have hnl : n < k.lasts.length := by rw [HL1.out]; exact hlt
      have hnh : n < k.has.length := by rw [HL2.out]; exact hlt
      have hnli : (n : Int) < (k.lasts.length : Int) := by omega
      have hnhi : (n : Int) < (k.has.length : Int) := by omega
      obtain ⟨q1, q2, q3⟩ := HV.out.keep HBL.out
      obtain ⟨rb, rf, vl, rfl, hrB, hls, c0, c1⟩ : ∃ b' o vl, ro = some ⟨b', o, none⟩ ∧ b' < B ∧ readsLabels wr B vl k.refs[n].2 ∧ wr.cell? ⟨b', o + n * 2, none⟩ = some (.int .i64 k.refs[n].1) ∧ wr.cell? ⟨b', o + n * 2 + 1, none⟩ = some vl := by
        obtain ⟨ao', cp', e, h⟩ := q1
        cases e
        exact h n hlt
      obtain ⟨tb, tf, rfl, htB, t0⟩ : ∃ b' o, lo = some ⟨b', o, none⟩ ∧ b' < B ∧ wr.cell? ⟨b', o + n, none⟩ = some (.int .i64 k.lasts[n]) := by
        obtain ⟨ao', cp', e, h⟩ := q2
        cases e
        exact h n hnl
      obtain ⟨bb, bf, rfl, hbB, b0⟩ : ∃ b' o, ho = some ⟨b', o, none⟩ ∧ b' < B ∧ wr.cell? ⟨b', o + n, none⟩ = some (.bool k.has[n]) := by
        obtain ⟨ao', cp', e, h⟩ := q3
        cases e
        exact h n hnh
      have hka : kpAt k n = (k.refs[n], k.lasts[n], k.has[n]) := by unfold kpAt; simp [hlt, hnl, hnh]
      have hnew := kps_new HKE.out hlt
      have hdis := kps_dist HKE.out (n := n) (by omega)
      have hrig := kps_right HKE.out (n := n) (by omega)
      have hre : refErr (kpAt k n).1 = 0 := oneErr_ref ((knwErr_zero HKE.out).2.2.2.1 n hlt)
      obtain ⟨x, HX⟩ : ∃ x : RefL, Hid (k.refs[n] = x) := ⟨_, hide rfl⟩
      obtain ⟨t, HT⟩ : ∃ x : Int, Hid (k.lasts[n] = x) := ⟨_, hide rfl⟩
      obtain ⟨s, HS⟩ : ∃ x : Bool, Hid (k.has[n] = x) := ⟨_, hide rfl⟩
      rw [HX.out, HT.out, HS.out] at hka
      rw [hka] at hnew hre
      rw [HX.out] at hls c0
      rw [HT.out] at t0
      rw [HS.out] at b0
      have hsB := HBL.out.size
      obtain ⟨V, eV, gV, hV⟩ := laid_at wr #[.int .i64 x.1, vl] 59
      have HV2 := hide hV
      have HKV : Hid (KeptR F W V) := hide (HKR.out.trans (KeptR.grow gV))
      have HAD := hide (fun W2 (g : Grow V W2) => add_any W2 B F b (kpsOf k n) (x, t, s) vl (HMJ.out.grow (gV.trans g)) (fun k h => HF.out k (by have := g.size; have := gV.size; omega)) HFB.out (by have := g.size; have := gV.size; omega) hre hnew hdis hrig ((SL.of_reads hls (by omega)).keep (KeptR.grow (gV.trans g))) (by rw [kpsOf_length]; omega))
      have HKS : Hid (kpsOf k (n + 1) = kpsOf k n ++ [(x, t, s)]) := hide (by rw [kpsOf_succ, hka])
      have HT0 : Hid (∀ W2, Grow V W2 → W2.cell? ⟨tb, tf + n, none⟩ = some (.int .i64 t)) := hide fun W2 g => ((gV.trans g).cell (p := ⟨tb, _, none⟩) (show tb < wr.heap.size by omega)).trans t0
      have HB0 : Hid (∀ W2, Grow V W2 → W2.cell? ⟨bb, bf + n, none⟩ = some (.bool s)) := hide fun W2 g => ((gV.trans g).cell (p := ⟨bb, _, none⟩) (show bb < wr.heap.size by omega)).trans b0
      have HWV : Hid (V.heap[w.heap.size]? = some (.cells #[.slice (some ⟨rb, rf, none⟩) k.refs.length rc, .slice (some ⟨tb, tf, none⟩) k.lasts.length lc, .slice (some ⟨bb, bf, none⟩) k.has.length hc] 26 (0, 0))) := hide (HKV.out.typed _ _ _ _ HW.out (by decide) (by decide) (by decide))
      obtain ⟨xo, xc, hvl⟩ := readsLabels_len hls
      subst hvl
      obtain ⟨d0, d1⟩ := two_of hV
      clear hV gV hls hnew hdis hrig hre hka q1 q2 q3 t0 b0
      go_wp2
      clear c0 c1 eV d0 d1
      refine wp_region_free 13 29 mixedR rfl (by decide +kernel) Grow (fun _ _ _ => Grow.trans) (Grow.refl _)
        (fun i' v _ => match i' with
          | 0 => v = .pointer (some ⟨b, 0, none⟩)
          | 1 => v = .agg #[.int .i64 x.1, .slice xo x.2.length xc]
          | 2 => v = .pointer (some ⟨w.heap.size, 1, none⟩)
          | 3 => v = .slice (some ⟨tb, tf, none⟩) k.lasts.length lc
          | 4 => v = .int .i64 n
          | 5 => v = .pointer (some ⟨tb, tf + n, none⟩)
          | 6 => v = .int .i64 t
          | 7 => v = .pointer (some ⟨w.heap.size, 2, none⟩)
          | 8 => v = .slice (some ⟨bb, bf, none⟩) k.has.length hc
          | 9 => v = .int .i64 n
          | 10 => v = .pointer (some ⟨bb, bf + n, none⟩)
          | 11 => v = .bool s
          | _ => v = .agg #[.int .i64 x.1, .slice xo x.2.length xc, .int .i64 t, .bool s])
        (fun i v w w' h hg => h) (fun _ _ => False) (fun _ _ _ _ h => h.elim) (fun i' hi o ho a w3 hG hoff hdep => ?_) (fun vals w3 hG hvals => ?_)
      · have hg2 : Grow V w3 := hG.undrew
        obtain ⟨c0, c1, c2⟩ := three_of (hg2.get HWV.out)
        obtain ⟨d0, d1⟩ := two_of (hg2.get HV2.out)
        have t0 := HT0.out w3 hg2
        have b0 := HB0.out w3 hg2
        match i', hi with
        | 0, _ =>
          obtain rfl := Option.some.inj ho
          have o0 := hoff 0 (by decide +kernel)
          simp at o0
          simp [opYields, go_sem, o0]
          exact Grow.refl _
        | 1, _ =>
          obtain rfl := Option.some.inj ho
          have o5 := hoff 5 (by decide +kernel)
          simp at o5
          simp [opYields, go_sem, o5, d0, d1]
          exact Grow.refl _
        | 2, _ =>
          obtain rfl := Option.some.inj ho
          have o3 := hoff 3 (by decide +kernel)
          simp at o3
          simp [opYields, go_sem, o3]
          exact Grow.refl _
        | 3, _ =>
          obtain rfl := Option.some.inj ho
          have d2 := hdep 2 (by decide +kernel)
          simp [slotOf, dstOf] at d2
          simp [opYields, go_sem, d2, c1]
          exact Grow.refl _
        | 4, _ =>
          obtain rfl := Option.some.inj ho
          have o4 := hoff 4 (by decide +kernel)
          simp at o4
          simp [opYields, go_sem, o4]
          exact Grow.refl _
        | 5, _ =>
          obtain rfl := Option.some.inj ho
          have d3 := hdep 3 (by decide +kernel)
          simp [slotOf, dstOf] at d3
          have d4 := hdep 4 (by decide +kernel)
          simp [slotOf, dstOf] at d4
          simp [opYields, go_sem, d3, d4, hnli]
          exact Grow.refl _
        | 6, _ =>
          obtain rfl := Option.some.inj ho
          have d5 := hdep 5 (by decide +kernel)
          simp [slotOf, dstOf] at d5
          simp [opYields, go_sem, d5, t0]
          exact Grow.refl _
        | 7, _ =>
          obtain rfl := Option.some.inj ho
          have o3 := hoff 3 (by decide +kernel)
          simp at o3
          simp [opYields, go_sem, o3]
          exact Grow.refl _
        | 8, _ =>
          obtain rfl := Option.some.inj ho
          have d7 := hdep 7 (by decide +kernel)
          simp [slotOf, dstOf] at d7
          simp [opYields, go_sem, d7, c2]
          exact Grow.refl _
        | 9, _ =>
          obtain rfl := Option.some.inj ho
          have o4 := hoff 4 (by decide +kernel)
          simp at o4
          simp [opYields, go_sem, o4]
          exact Grow.refl _
        | 10, _ =>
          obtain rfl := Option.some.inj ho
          have d8 := hdep 8 (by decide +kernel)
          simp [slotOf, dstOf] at d8
          have d9 := hdep 9 (by decide +kernel)
          simp [slotOf, dstOf] at d9
          simp [opYields, go_sem, d8, d9, hnhi]
          exact Grow.refl _
        | 11, _ =>
          obtain rfl := Option.some.inj ho
          have d10 := hdep 10 (by decide +kernel)
          simp [slotOf, dstOf] at d10
          simp [opYields, go_sem, d10, b0]
          exact Grow.refl _
        | 12, _ =>
          obtain rfl := Option.some.inj ho
          have d1 := hdep 1 (by decide +kernel)
          simp [slotOf, dstOf] at d1
          have d6 := hdep 6 (by decide +kernel)
          simp [slotOf, dstOf] at d6
          have d11 := hdep 11 (by decide +kernel)
          simp [slotOf, dstOf] at d11
          simp [opYields, go_sem, d1, d6, d11]
          exact Grow.refl _
        | k + 13, h => exact absurd h (by omega)
      · have v0 := hvals 0 (by omega)
        have v12 := hvals 12 (by omega)
        simp only at v0 v12
        have HG3 : Hid (Grow V w3) := hide hG.undrew
        clear hvals hG
        simp [over, dstOf, Act.put, v0, v12]
        clear v0 v12
        have HAD3 := hide (HAD.out w3 HG3.out)
        clear HAD
        go_wp2_with fail
        refine HAD3.out.mono ?_
        rintro e w7 ⟨rfl, hm7, hk7⟩
        have HM7 : Hid (memJ w7 B F b (kpsOf k (n + 1))) := hide (by rw [HKS.out]; exact hm7)
        have HK7 : Hid (KeptR F W w7) := hide ((HKV.out.trans (KeptR.grow HG3.out)).trans hk7)
        clear hm7 hk7 HAD3
        go_wp2
        go_roundw
        case rel => exact ⟨n + 1, by omega, by go_num, HM7, HK7⟩
        case measure => simp [intOf]; omega
    · obtain rfl : n = k.refs.length := by omega
      go_wp2
      go_end0
      exact ⟨rfl, HMJ.out, HKW.out.trans HKR.out⟩
end Go.Proofs.YtkaeogldielkfaaGreat.Rc
