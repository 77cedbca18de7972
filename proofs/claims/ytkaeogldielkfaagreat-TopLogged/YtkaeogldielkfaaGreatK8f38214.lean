/- 1 texts in one. -/
import Derived.Laws.OwnMore
import Derived.Test.YtkaeogldielkfaaGreatProg
import Derived.Test.YtkaeogldielkfaaGreatK5674b3b
import Derived.Test.YtkaeogldielkfaaGreatK7aebb14
import Derived.Test.YtkaeogldielkfaaGreatKe92268d
import Derived.Test.YtkaeogldielkfaaGreatKb13b050
import Derived.Test.YtkaeogldielkfaaGreatK9055bc8
import Derived.Test.YtkaeogldielkfaaGreatK6cc5fd4
import Derived.Test.YtkaeogldielkfaaGreatKaaaa94b
import Derived.Test.YtkaeogldielkfaaGreatKe6b8975
import Derived.Test.YtkaeogldielkfaaGreatK8de6aec
import Derived.Test.YtkaeogldielkfaaGreatK410f598
import Derived.Test.YtkaeogldielkfaaGreatK349d951
import Derived.Test.YtkaeogldielkfaaGreatKce332e4
import Derived.Test.YtkaeogldielkfaaGreatK493c4c1
import Derived.BigQuiet
set_option linter.unusedVariables false
set_option linter.unusedSimpArgs false
namespace Go.Proofs.YtkaeogldielkfaaGreat.Rc
open Go.RowKit Lb
attribute [local go_sem] bs_size bs_toList bs_append bs_get bs_extract
/-- What is kept, by number. -/
def sortK (K : List Kp) : List Kp := K.mergeSort fun a b => decide (a.1.1 ≤ b.1.1)
theorem sortK_perm (K : List Kp) : (sortK K).Perm K := List.mergeSort_perm _ _
theorem sortK_rise (K : List Kp) : (sortK K).Pairwise fun a b => a.1.1 ≤ b.1.1 := by
  have h := List.pairwise_mergeSort (le := fun a b : Kp => decide (a.1.1 ≤ b.1.1)) (fun a b c h1 h2 => by
    simp only [decide_eq_true_eq] at *; omega) (fun a b => by
    simp only [Bool.or_eq_true, decide_eq_true_eq]; omega) K
  exact h.imp fun h => by simpa using h
theorem Dist.mem_eq {K : List Kp} (hd : Dist K) {a b : Kp} (ha : a ∈ K) (hb : b ∈ K) (h : a.1.1 = b.1.1) : a = b := by
  obtain ⟨i, hi, rfl⟩ := List.getElem_of_mem ha
  obtain ⟨j, hj, rfl⟩ := List.getElem_of_mem hb
  have := hd.numEq hi hj h
  subst this
  rfl
theorem sortK_uniq {K D : List Kp} (hd : Dist K) (hp : D.Perm K) (hr : D.Pairwise fun a b => a.1.1 ≤ b.1.1) : D = sortK K := by
  refine (hp.trans (sortK_perm K).symm).eq_of_pairwise (le := fun a b => a.1.1 ≤ b.1.1) (fun a b ha hb h1 h2 => ?_) hr (sortK_rise K)
  exact hd.mem_eq (hp.mem_iff.1 ha) ((sortK_perm K).mem_iff.1 hb) (by omega)
/-- What Learn answers. -/
def learnE (k : Knw) (r : Rcd) : Nat := if knwErr k ≠ 0 then knwErr k else if recErr r ≠ 0 then recErr r else (learnR (kpsOf k k.refs.length) r).1
def learnK (k : Knw) (r : Rcd) : List Kp := (learnR (kpsOf k k.refs.length) r).2
def noKnw : Knw := ⟨[], [], []⟩
def learnAns (k : Knw) (r : Rcd) : Knw := if learnE k r = 0 then knwOf (sortK (learnK k r)) else noKnw
theorem learnE_zero {k : Knw} {r : Rcd} (h : learnE k r = 0) : knwErr k = 0 ∧ recErr r = 0 ∧ learnR (kpsOf k k.refs.length) r = (0, learnK k r) := by
  unfold learnE at h
  split at h
  · rename_i h1; exact absurd h h1
  · rename_i h1
    split at h
    · rename_i h2; exact absurd h h2
    · rename_i h2
      exact ⟨by omega, by omega, Prod.ext h rfl⟩
theorem learnE_knw {k : Knw} {r : Rcd} (h : knwErr k ≠ 0) : learnE k r = knwErr k := by unfold learnE; rw [if_pos h]
theorem learnE_rec {k : Knw} {r : Rcd} (h : knwErr k = 0) (h2 : recErr r ≠ 0) : learnE k r = recErr r := by unfold learnE; rw [if_neg (by omega), if_pos h2]
theorem learnE_all {k : Knw} {r : Rcd} (h : knwErr k = 0) (h2 : recErr r = 0) : learnE k r = (learnR (kpsOf k k.refs.length) r).1 := by unfold learnE; rw [if_neg (by omega), if_neg (by omega)]
def readsRcd (w : World) (B : Nat) (vr vp : Value) (r : Rcd) : Prop := readsRefs w B vr r.refs ∧ readsPoints w B vp r.points
theorem readsRcd.keep {w w' : World} {B : Nat} {vr vp : Value} {r : Rcd} (h : readsRcd w B vr vp r) (g : Below B w w') : readsRcd w' B vr vp r := ⟨h.1.keep g, h.2.keep g⟩
theorem readsRcd.more {w : World} {B B' : Nat} {vr vp : Value} {r : Rcd} (h : readsRcd w B vr vp r) (hB : B ≤ B') : readsRcd w B' vr vp r := ⟨h.1.more hB, h.2.more hB⟩
set_option maxRecDepth 20000 in
set_option maxHeartbeats 8000000 in
theorem learn1_any (w : World) (B : Nat) (F : Nat → Prop) (b kb rb pb : Nat) (vr vl vh ur up : Value) (k : Knw) (r : Rcd) (hkb : w.heap[kb]? = some (.cells #[vr, vl, vh] 26 (0, 0))) (hrb : w.heap[rb]? = some (.cells #[.int .i64 r.kind, ur, up] 29 (0, 0))) (hpb : w.heap[pb]? = some (.cells #[.pointer (some ⟨b, 0, none⟩)] 50 (0, 0)))
    (hm : memJ w B F b []) (hF : ∀ k, w.heap.size ≤ k → F k) (hFB : ∀ k, F k → B ≤ k) (hBw : B ≤ w.heap.size) (hk : readsKnw w B vr vl vh k) (hok : okKnw k) (hr : readsRcd w B ur up r) (hor : okRec r) :
    Calls Tryz.prog 22 #[.pointer (some ⟨kb, 0, none⟩), .pointer (some ⟨rb, 0, none⟩), .pointer (some ⟨pb, 0, none⟩)] w (worked fun E w' => E = learnE k r ∧ (E = 0 → memJ w' B F b (learnK k r)) ∧ KeptR F w w') := by
  have HCK := hide (checkKnown_any w vr vl vh k (hk.more hBw) hok)
  have HCR := hide (fun W (g : Grow w W) => checkRecord_any W ur up r ((hr.1.keep (Below.mono g hBw)).more (Nat.le_trans hBw g.size)) ((hr.2.keep (Below.mono g hBw)).more (Nat.le_trans hBw g.size)) hor.1 hor.2.1 hor.2.2.1 hor.2.2.2.1 hor.2.2.2.2)
  have HRC := hide (fun W (g : Grow w W) (h : knwErr k = 0) => recall_any W B F b vr vl vh k (hm.grow g) (fun k h => hF k (Nat.le_trans g.size h)) hFB (Nat.le_trans hBw g.size) (hk.keep (Below.mono g hBw)) h)
  have HKB := hide hkb
  have HRB := hide hrb
  have HPB := hide hpb
  have HF := hide hF
  have HFB := hide hFB
  have HRR := hide hr
  obtain ⟨⟨ro, rc, rfl, _⟩, ⟨lo, lc, rfl, _⟩, ⟨ho, hc, rfl, _⟩⟩ := hk
  obtain ⟨⟨uo, uc, rfl, _⟩, ⟨po, pc, rfl, _⟩⟩ := hr
  obtain ⟨c0, c1, c2⟩ := three_of hkb
  obtain ⟨P1, HP1⟩ : ∃ E, Hid (knwErr k = E) := ⟨_, hide rfl⟩
  rw [HP1.out] at HCK
  clear hkb hrb hpb hm hF hFB hok hor
  go_enter Tryz.func22, Tryz.ntmps22
  go_wp2_with fail
  refine HCK.out.mono ?_
  rintro e w1 ⟨rfl, hg1⟩
  have HG1 := hide hg1
  clear hg1 HCK c0 c1 c2
  by_cases h0 : P1 = 0
  · have HK0 : Hid (knwErr k = 0) := hide (by rw [HP1.out]; exact h0)
    rw [h0, outc_ok]
    clear h0 HP1
    obtain ⟨r0, r1, r2⟩ := three_of (HG1.out.get HRB.out)
    have HCR1 := hide (HCR.out w1 HG1.out)
    obtain ⟨P2, HP2⟩ : ∃ E, Hid (recErr r = E) := ⟨_, hide rfl⟩
    rw [HP2.out] at HCR1
    clear HCR
    go_wp2_with fail
    refine HCR1.out.mono ?_
    rintro e w2 ⟨rfl, hg2⟩
    have HG2 := hide (HG1.out.trans hg2)
    clear hg2 HCR1 r0 r1 r2
    by_cases h0 : P2 = 0
    · have HR0 : Hid (recErr r = 0) := hide (by rw [HP2.out]; exact h0)
      rw [h0, outc_ok]
      clear h0 HP2
      obtain ⟨c0, c1, c2⟩ := three_of (HG2.out.get HKB.out)
      have p0 := cell_of_one (HG2.out.get HPB.out)
      have HRC2 := hide (HRC.out w2 HG2.out HK0.out)
      clear HRC
      go_wp2_with fail
      refine HRC2.out.mono ?_
      rintro e w3 ⟨rfl, hm3, hk3⟩
      have HM3 := hide hm3
      have HK3 : Hid (KeptR F w w3) := hide ((KeptR.grow HG2.out).trans hk3)
      have hl3 := (knwErr_zero HK0.out).2.2.1
      have hs3 := HK3.out.size
      have HLN := hide (learn_any w3 B F b (kpsOf k k.refs.length) (.slice uo r.refs.length uc) (.slice po r.points.length pc) r hm3 (fun k h => HF.out k (by omega)) HFB.out (by omega) (kps_dist HK0.out (Nat.le_refl _)) (kps_right HK0.out (Nat.le_refl _))
        ((SR.of_reads HRR.out.1 hBw).keep (HK3.out.mono HFB.out)) ((SP.of_reads HRR.out.2 hBw).keep (HK3.out.mono HFB.out)) HR0.out (by rw [kpsOf_length]; exact hl3))
      have HLE : Hid (learnE k r = (learnR (kpsOf k k.refs.length) r).1) := hide (learnE_all HK0.out HR0.out)
      have HLK : Hid ((learnR (kpsOf k k.refs.length) r).2 = learnK k r) := hide rfl
      rw [HLK.out] at HLN
      rw [← HLE.out] at HLN
      obtain ⟨r0, r1, r2⟩ := three_of (HK3.out.typed _ _ _ _ HRB.out (by decide) (by decide) (by decide))
      have p0' := cell_of_one (HK3.out.typed _ _ _ _ HPB.out (by decide) (by decide) (by decide))
      clear hm3 hk3 HRC2 c0 c1 c2 p0 HLE HLK HM3 hs3 hl3
      go_wp2_with fail
      refine HLN.out.mono ?_
      rintro e w4 ⟨rfl, hm4, hk4⟩
      have HM4 := hide hm4
      have HK4 : Hid (KeptR F w w4) := hide (HK3.out.trans hk4)
      clear hm4 hk4 HLN r0 r1 r2 p0'
      obtain ⟨E, HE⟩ : ∃ E, Hid (learnE k r = E) := ⟨_, hide rfl⟩
      rw [HE.out]
      by_cases h0 : E = 0
      · have HZ := hide h0
        rw [h0, outc_ok]
        clear h0
        go_wp2
        go_end0
        exact ⟨0, outc_ok.symm, by rw [HE.out, HZ.out], fun _ => HM4.out, HK4.out⟩
      · rw [outc_no h0]
        exact ⟨rfl, E, (outc_no h0).symm, HE.out.symm, fun h => absurd h h0, HK4.out⟩
    · have HE : Hid (learnE k r = P2) := hide (by rw [learnE_rec HK0.out (by rw [HP2.out]; exact h0), HP2.out])
      rw [outc_no h0]
      exact ⟨rfl, P2, (outc_no h0).symm, HE.out.symm, fun h => absurd h h0, KeptR.grow HG2.out⟩
  · have HE : Hid (learnE k r = P1) := hide (by rw [learnE_knw (by rw [HP1.out]; exact h0), HP1.out])
    rw [outc_no h0]
    exact ⟨rfl, P1, (outc_no h0).symm, HE.out.symm, fun h => absurd h h0, KeptR.grow HG1.out⟩
theorem learn_dist {k : Knw} {r : Rcd} (h : learnE k r = 0) : Dist (learnK k r) ∧ rightM (learnK k r) ∧ (learnK k r).length ≤ 1000 := by
  obtain ⟨h1, h2, h3⟩ := learnE_zero h
  obtain ⟨h4, h5⟩ := learnR_right h3 (kps_dist h1 (Nat.le_refl _)) (kps_right h1 (Nat.le_refl _)) (recErr_zero h2).2.2.2.1
  exact ⟨h4, h5, learnR_len h3 (by rw [kpsOf_length]; exact (knwErr_zero h1).2.2.1)⟩
set_option maxRecDepth 20000 in
set_option maxHeartbeats 8000000 in
theorem Learn_any (w : World) (vr vl vh ur up : Value) (k : Knw) (r : Rcd) (hk : readsKnw w w.heap.size vr vl vh k) (hok : okKnw k) (hr : readsRcd w w.heap.size ur up r) (hor : okRec r) :
    Calls Tryz.prog 7 #[.agg #[vr, vl, vh], .agg #[.int .i64 r.kind, ur, up]] w fun e w' => ∃ xr xl xh, e = .returned (.tuple #[.agg #[xr, xl, xh], .int .i64 (learnE k r)]) ∧ ownKnw w' w.heap.size xr xl xh (learnAns k r) ∧ Grow w w' := by
  have hcf : ∀ (args : Array Value) (w : World), (callFunc 22 args).run Tryz.prog w = .ok (.enter 22 args) w := fun args w => by simp [go_sem]
  have hmf : ∀ (fn : Fn) (first cap : Array Value) (w : World), (Instr.makeFunc fn first cap).run Tryz.prog w = .ok (.func fn first cap) w := fun _ _ _ _ => rfl
  obtain ⟨V1, e1, g1, b1⟩ := laid_at w #[vr, vl, vh] 26
  obtain ⟨V2, e2, g2, b2⟩ := laid_at V1 #[.int .i64 r.kind, ur, up] 29
  obtain ⟨V3, e3, g3, b3⟩ := laid_at V2 #[.slice none 0 0, .slice none 0 0, .slice none 0 0] 26
  have s1 : V1.heap.size = w.heap.size + 1 := by rw [← e1]; simp
  have s2 : V2.heap.size = w.heap.size + 2 := by rw [← e2]; simp [s1]
  have s3 : V3.heap.size = w.heap.size + 3 := by rw [← e3]; simp [s2]
  have HV1 : Hid (w.heap.size < V1.heap.size) := hide (by omega)
  have HV2 : Hid (V1.heap.size < V2.heap.size) := hide (by omega)
  have HV3 : Hid (V2.heap.size < V3.heap.size) := hide (by omega)
  have HKB := hide (g3.get (g2.get b1))
  have HRB := hide (g3.get b2)
  have HRES := hide b3
  have HG3 := hide ((g1.trans g2).trans g3)
  have HK := hide hk
  have HR := hide hr
  have HOK := hide hok
  have HOR := hide hor
  have HS3 := hide s3
  obtain ⟨⟨ro, rc, rfl, _⟩, ⟨lo, lc, rfl, _⟩, ⟨ho, hc, rfl, _⟩⟩ := hk
  obtain ⟨⟨uo, uc, rfl, _⟩, ⟨po, pc, rfl, _⟩⟩ := hr
  clear g1 g2 g3 b1 b2 b3 s1 s2 s3 hok hor
  go_enter Tryz.func7, Tryz.ntmps7
  go_wp2_with fail
  refine (newMemory_any V3 w.heap.size (fun k => V3.heap.size ≤ k) (fun k h => h)).mono ?_
  rintro e w4 ⟨b, rfl, hg4, hm4, hbN⟩
  obtain ⟨V5, e5, g5, b5⟩ := laid_at w4 #[.pointer (some ⟨b, 0, none⟩)] 50
  obtain ⟨V6, e6, g6, b6⟩ := laid_at V5 #[.int .i64 0] 30
  have s5 : V5.heap.size = w4.heap.size + 1 := by rw [← e5]; simp
  have s6 : V6.heap.size = V5.heap.size + 1 := by rw [← e6]; simp
  have hs4 := hg4.size
  have hG4 : Grow V3 V6 := (hg4.trans g5).trans g6
  have hgw : Grow w V6 := HG3.out.trans hG4
  have h1 := HV1.out
  have h2 := HV2.out
  have h3 := HV3.out
  have HL1 := hide (learn1_any V6 w.heap.size (fun k => V3.heap.size ≤ k ∧ k ≠ V5.heap.size) b w.heap.size V1.heap.size w4.heap.size _ _ _ _ _ k r (hG4.get HKB.out) (hG4.get HRB.out) (g6.get b5)
    ((hm4.mono (fun k hk hl => ⟨hk, by omega⟩)).grow (g5.trans g6)) (fun k h => ⟨by omega, by omega⟩) (fun k h => by omega) (by omega) (HK.out.keep hgw) HOK.out (HR.out.keep hgw) HOR.out)
  have HB6 := hide b6
  have E6 := hide e6
  have HAT := hide (attempt_any V5 22 #[.pointer (some ⟨w.heap.size, 0, none⟩), .pointer (some ⟨V1.heap.size, 0, none⟩), .pointer (some ⟨w4.heap.size, 0, none⟩)] (fun E w' => E = learnE k r ∧ (E = 0 → memJ w' w.heap.size (fun k => V3.heap.size ≤ k ∧ k ≠ V5.heap.size) b (learnK k r)) ∧ KeptR (fun k => V3.heap.size ≤ k ∧ k ≠ V5.heap.size) V6 w') hcf (by
    rw [E6.out]
    refine HL1.out.mono ?_
    rintro e w' ⟨E, he, h1, h2, h3⟩
    exact ⟨E, he, ⟨h1, h2, h3⟩, (h3.block _ (lt_of_block HB6.out) (fun h => h.2 rfl)).trans HB6.out⟩))
  have HGW := hide hgw
  have HP6 := hide (g6.get b5)
  have HR6 := hide (hG4.get HRES.out)
  have HS5 : Hid (V5.heap.size = w4.heap.size + 1 ∧ V6.heap.size = V5.heap.size + 1 ∧ V3.heap.size ≤ w4.heap.size) := hide ⟨s5, s6, hs4⟩
  clear s5 s6 hs4 hg4 hm4 hbN g5 g6 b5 b6 e6 hG4 hgw HL1 h1 h2 h3
  go_wp2_with fail
  refine HAT.out.mono ?_
  rintro e w2 ⟨E, w1, rfl, ⟨hE, hm1, hk1⟩, hw2⟩
  obtain ⟨q1, q2, q3⟩ := HS5.out
  have h1 := HV1.out
  have h2 := HV2.out
  have h3 := HV3.out
  have hsz := hk1.size
  have hoth : ∀ q, q ≠ V5.heap.size → w2.heap[q]? = w1.heap[q]? := fun q hq => by rw [hw2]; exact Below.heap_setCell _ _ _ _ hq
  have hp2 : w2.heap[w4.heap.size]? = some (.cells #[.pointer (some ⟨b, 0, none⟩)] 50 (0, 0)) := (hoth _ (by omega)).trans (hk1.typed _ _ _ _ HP6.out (by decide) (by decide) (by decide))
  have hr2 : w2.heap[V2.heap.size]? = some (.cells #[.slice none 0 0, .slice none 0 0, .slice none 0 0] 26 (0, 0)) := (hoth _ (by omega)).trans (hk1.typed _ _ _ _ HR6.out (by decide) (by decide) (by decide))
  have hg2 : Grow w w2 := by
    rw [hw2]
    exact (Below.trans HGW.out (hk1.below (fun k h => by omega) (by omega))).setCell (p := ⟨V5.heap.size, 0, none⟩) (by show w.heap.size ≤ V5.heap.size; omega) _
  have hs2 : w1.heap.size = w2.heap.size := by rw [hw2]; simp [World.setCell]
  have HM2 : Hid (E = 0 → memJ w2 w.heap.size (fun k => V3.heap.size ≤ k ∧ k ≠ V5.heap.size) b (learnK k r)) := hide fun h0 => by
    refine (hm1 h0).keep (fun q hq _ => hoth q hq.2) ?_
    rw [hw2]
    have h6 : w1.heap[V5.heap.size]? = some (.cells #[.int .i64 0] 30 (0, 0)) := (hk1.block _ (by omega) (fun h => h.2 rfl)).trans HB6.out
    exact KeptR.setMem h6 (.inr (.inr rfl)) (by omega) _
  have HG2 := hide hg2
  have HP2 := hide hp2
  have HR2 := hide hr2
  have HE := hide hE
  have hwle : w.heap.size ≤ V2.heap.size := by omega
  clear hw2 hk1 hm1 hoth hsz q1 q2 q3 h1 h2 h3 HAT hE e3 e5 hg2 hs2 hp2 hr2 HS5 HGW HP6 HR6 E6 HB6
  obtain ⟨cr0, cr1, cr2⟩ := three_of HR2.out
  have z0 : w2.frozen? ⟨V2.heap.size, 0, none⟩ = false := by simp [World.frozen?, HR2.out]
  have z1 : w2.frozen? ⟨V2.heap.size, 1, none⟩ = false := by simp [World.frozen?, HR2.out]
  have z2 : w2.frozen? ⟨V2.heap.size, 2, none⟩ = false := by simp [World.frozen?, HR2.out]
  by_cases hm : E = 0
  · have HZ : Hid (learnE k r = 0) := hide (by rw [← HE.out, hm])
    obtain ⟨hd, hri, hln⟩ := learn_dist HZ.out
    have HKN := hide (known_any w2 w.heap.size _ b (learnK k r) (HM2.out hm) hri hln)
    have HD := hide hd
    have hz : E = 0 := hm
    subst hz
    have p0 := cell_of_one HP2.out
    clear hm hd hri hln HM2 HP2 cr0 cr1 cr2 z0 z1 z2
    go_wp2_with fail
    refine HKN.out.mono ?_
    rintro e w3 ⟨xr, xl, xh, D, rfl, hpe, hpw, hok3, hg3⟩
    have hr3 := hg3.get HR2.out
    have HR3 := hide hr3
    have HDS : Hid (D = sortK (learnK k r)) := hide (sortK_uniq HD.out hpe hpw)
    have HO3 := hide hok3
    have HG3 := hide (HG2.out.trans hg3)
    have HL23 := hide HG2.out.size
    obtain ⟨xro, xrc, hx1⟩ := ownRefs_shape hok3.r
    obtain ⟨xlo, xlc, hx2⟩ := own_shape hok3.l
    obtain ⟨xho, xhc, hx3⟩ := own_shape hok3.h
    subst hx1 hx2 hx3
    obtain ⟨cr0, cr1, cr2⟩ := three_of hr3
    have z0 : w3.frozen? ⟨V2.heap.size, 0, none⟩ = false := by simp [World.frozen?, hr3]
    have z1 : w3.frozen? ⟨V2.heap.size, 1, none⟩ = false := by simp [World.frozen?, hr3]
    have z2 : w3.frozen? ⟨V2.heap.size, 2, none⟩ = false := by simp [World.frozen?, hr3]
    clear hpe hpw hok3 hg3 hr3 HKN p0
    go_wp2
    have hF := set3 (set3 (set3 HR3.out 0 (.slice xro (knwOf D).refs.length xrc)) 1 (.slice xlo (knwOf D).lasts.length xlc)) 2 (.slice xho (knwOf D).has.length xhc)
    obtain ⟨f0, f1, f2⟩ := three_of hF
    have hans : learnAns k r = knwOf D := by unfold learnAns; rw [if_pos HZ.out, HDS.out]
    refine bodyPost_ret (v := .tuple #[.agg #[.slice xro (knwOf D).refs.length xrc, .slice xlo (knwOf D).lasts.length xlc, .slice xho (knwOf D).has.length xhc], .int .i64 0]) (by simp [results, Tryz.results7, go_sem, f0, f1, f2]) rfl ?_
    refine ⟨_, _, _, by rw [HZ.out]; rfl, ?_, Below.setCell (Below.setCell (Below.setCell HG3.out hwle _) hwle _) hwle _⟩
    rw [hans]
    have hset : ∀ {f size n : Nat} {u : Value} {xs : List Value}, f ≠ 26 → w3.ownsRow w2.heap.size f size u n xs → (((w3.setCell ⟨V2.heap.size, 0, none⟩ (.slice xro (knwOf D).refs.length xrc)).setCell ⟨V2.heap.size, 1, none⟩ (.slice xlo (knwOf D).lasts.length xlc)).setCell ⟨V2.heap.size, 2, none⟩ (.slice xho (knwOf D).has.length xhc)).ownsRow w.heap.size f size u n xs := fun g hh => by
      have h0 := own_le hh HL23.out
      have h1 := ownsRow_setCell_other (a := ⟨V2.heap.size, 0, none⟩) h0 (own_apart h0 HR3.out g) (.slice xro (knwOf D).refs.length xrc)
      have h2 := ownsRow_setCell_other (a := ⟨V2.heap.size, 1, none⟩) h1 (own_apart h1 (set3 HR3.out 0 _) g) (.slice xlo (knwOf D).lasts.length xlc)
      exact ownsRow_setCell_other (a := ⟨V2.heap.size, 2, none⟩) h2 (own_apart h2 (set3 (set3 HR3.out 0 _) 1 _) g) _
    obtain ⟨⟨ps, p1, p2, p3⟩, hl, hh⟩ := HO3.out
    exact ⟨⟨ps, p1, hset (by decide) p2, fun j p x hp hx => ⟨(p3 j p x hp hx).1, hset (by decide) (p3 j p x hp hx).2⟩⟩, hset (by decide) hl, hset (by decide) hh⟩
  · have hne : ((E : Int) != 0) = true := by simp; exact hm
    have HN : Hid (learnE k r ≠ 0) := hide (by rw [← HE.out]; exact hm)
    clear hm HM2
    go_wp2
    have hF := set3 (set3 (set3 HR2.out 0 (.slice none 0 0)) 1 (.slice none 0 0)) 2 (.slice none 0 0)
    obtain ⟨f0, f1, f2⟩ := three_of hF
    have hans : learnAns k r = noKnw := by unfold learnAns; rw [if_neg HN.out]
    refine bodyPost_ret (v := .tuple #[.agg #[.slice none 0 0, .slice none 0 0, .slice none 0 0], .int .i64 E]) (by simp [results, Tryz.results7, go_sem, f0, f1, f2]) rfl ?_
    refine ⟨_, _, _, by rw [HE.out], ?_, Below.setCell (Below.setCell (Below.setCell HG2.out hwle _) hwle _) hwle _⟩
    rw [hans]
    exact ⟨ownRefs_nil _ _, World.ownsRow_nil _ _ _ _, World.ownsRow_nil _ _ _ _⟩
end Go.Proofs.YtkaeogldielkfaaGreat.Rc
