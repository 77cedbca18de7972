/- 4 texts in one. -/
import Derived.Laws.OwnMore
import Derived.Test.YtkaeogldielkfaaGreatProg
import Derived.Test.YtkaeogldielkfaaGreatKabe2b5f
import Derived.Test.YtkaeogldielkfaaGreatKa96aaab
import Derived.Test.YtkaeogldielkfaaGreatKa7e3600
import Derived.Test.YtkaeogldielkfaaGreatK7731767
import Derived.Test.YtkaeogldielkfaaGreatKd1f2bd3
import Derived.Test.YtkaeogldielkfaaGreatK6683a6f
import Derived.Test.YtkaeogldielkfaaGreatKa48e839
import Derived.Test.YtkaeogldielkfaaGreatKf01485e
import Derived.Test.YtkaeogldielkfaaGreatKfb00f3c
import Derived.Test.YtkaeogldielkfaaGreatK943a67d
import Derived.Test.YtkaeogldielkfaaGreatK6ad0561
import Derived.Test.YtkaeogldielkfaaGreatKe69cccc
import Derived.Test.YtkaeogldielkfaaGreatK8333cf2
import Derived.Test.YtkaeogldielkfaaGreatK2c59bb8
import Derived.Test.YtkaeogldielkfaaGreatK1e38180
import Derived.BigQuiet
import Derived.Test.YtkaeogldielkfaaGreatK2180bdf
import Derived.Test.YtkaeogldielkfaaGreatKc40ae49
import Derived.Lib.AppendZeros
import Derived.Lib.AppendStr
import Derived.Test.YtkaeogldielkfaaGreatKd42f439
set_option linter.unusedVariables false
set_option linter.unusedSimpArgs false
namespace Go.Proofs.YtkaeogldielkfaaGreat.Rc
open Go.RowKit Lb Lg
attribute [local go_sem] bs_size bs_toList bs_append bs_get bs_extract
/-- One record of a log is learnt: an error, and what is known then. -/
def textE (K : List Kp) (t : List UInt8) : Nat := match unpO t with | none => 1 | some r => (learnR K r).1
def textK (K : List Kp) (t : List UInt8) : List Kp := match unpO t with | none => K | some r => (learnR K r).2
/-- What is known of a log's records, and how many of them are learnt. -/
def replK : List Kp → List (List UInt8) → List Kp
  | K, [] => K
  | K, t :: l => if textE K t = 0 then replK (textK K t) l else K
def replN : List Kp → List (List UInt8) → Nat
  | K, [] => 0
  | K, t :: l => if textE K t = 0 then replN (textK K t) l + 1 else 0
/-- A record that is unpacked is right. -/
theorem unpO_right {t : List UInt8} {r : Rcd} (h : unpO t = some r) : recErr r = 0 := (unpO_some h).1
theorem SR.of_own {B Z : Nat} {w : World} {v : Value} {l : List RefL} (h : ownRefs w Z v l) : SR B w v l := by
  obtain ⟨ps, hl, ho, hall⟩ := h
  obtain ⟨ao, cp, e⟩ := own_shape ho
  refine ⟨ao, cp, e, fun i hi => ?_⟩
  rcases id ho.2 with ⟨_, h0⟩ | ⟨g, cap, cur, r1, r2, r3, r4⟩
  · omega
  · rw [e] at r1
    obtain ⟨rfl, rfl⟩ : ao = some ⟨g, 0, none⟩ ∧ cp = cap := by simpa using r1
    have hip : i < ps.length := by omega
    obtain ⟨h1, h2⟩ := hall i ps[i] l[i] (List.getElem?_eq_getElem hip) (List.getElem?_eq_getElem hi)
    have hc := World.ownsRow.cells ho (g := g) (by rw [e]; rfl)
    obtain ⟨k0, k1⟩ := refCells_at ps i hip
    have c0 := hc _ _ k0
    have c1 := hc _ _ k1
    rw [Addr.add_lit] at c0 c1
    rw [h1] at c0
    refine ⟨g, 0, ps[i].2, rfl, SL.of_own h2, fun w' kk => ?_⟩
    have hb := kk.typed _ _ _ _ r3 (by decide) (by decide) (by decide)
    exact ⟨(World.cell?_of_block (hb.trans r3.symm)).trans (by simpa using c0), (World.cell?_of_block (hb.trans r3.symm)).trans (by simpa using c1)⟩
theorem SP.of_own {B Z : Nat} {w : World} {v : Value} {l : List Pnt} (h : ownPoints w Z v l) : SP B w v l := by
  obtain ⟨ao, cp, e⟩ := own_shape h
  refine ⟨ao, cp, e, fun i hi => ?_⟩
  obtain ⟨ao', cp', e', hh⟩ := reads_ownPoints h
  rcases id h.2 with ⟨_, h0⟩ | ⟨g, cap, cur, r1, r2, r3, r4⟩
  · omega
  · rw [e] at r1 e'
    obtain ⟨rfl, rfl⟩ : ao = some ⟨g, 0, none⟩ ∧ cp = cap := by simpa using r1
    obtain ⟨rfl, rfl⟩ : some ⟨g, 0, none⟩ = ao' ∧ cp = cp' := by simpa using e'
    obtain ⟨b, o, e2, hb, c0, c1, c2⟩ := hh i hi
    simp at e2
    obtain ⟨rfl, rfl⟩ := e2
    refine ⟨g, 0, rfl, fun w' kk => ?_⟩
    have hb := kk.typed _ _ _ _ r3 (by decide) (by decide) (by decide)
    exact ⟨(World.cell?_of_block (hb.trans r3.symm)).trans c0, (World.cell?_of_block (hb.trans r3.symm)).trans c1, (World.cell?_of_block (hb.trans r3.symm)).trans c2⟩
def gaveA (w : World) (ch : List PanicEntry) (w2 : World) : Prop := (∃ E : Nat, E ≠ 0 ∧ Ending.panicked ch = gaveUp E) ∧ Below w.heap.size w w2
set_option maxRecDepth 20000 in
set_option maxHeartbeats 8000000 in
theorem replay1_any (w : World) (B : Nat) (F : Nat → Prop) (b pb sb : Nat) (K : List Kp) (t : List UInt8) (hpb : w.heap[pb]? = some (.cells #[.pointer (some ⟨b, 0, none⟩)] 50 (0, 0))) (hsb : w.heap[sb]? = some (.cells #[.string (bs t)] 9 (0, 0)))
    (hm : memJ w B F b K) (hF : ∀ k, w.heap.size ≤ k → F k) (hFB : ∀ k, F k → B ≤ k) (hBw : B ≤ w.heap.size) (hd : Dist K) (hr : rightM K) (hl : K.length ≤ 1000) (ht : t.length ≤ 140737488355328) :
    Calls Tryz.prog 36 #[.pointer (some ⟨pb, 0, none⟩), .pointer (some ⟨sb, 0, none⟩)] w (worked fun E w' => (E = 0 ↔ textE K t = 0) ∧ (E = 0 → memJ w' B F b (textK K t)) ∧ (E ≠ 0 → memJ w' B F b K) ∧ KeptR F w w') := by
  have p0 := cell_of_one hpb
  have q0 := cell_of_one hsb
  have HPB := hide hpb
  have HSB := hide hsb
  have HM := hide hm
  have HF := hide hF
  have HFB := hide hFB
  have HU := hide (fun W => unpacked_any W t ht)
  cases hu : unpO t with
  | none =>
    rw [hu] at HU
    have HTE : Hid (textE K t ≠ 0) := hide (by unfold textE; rw [hu]; simp)
    clear hu hpb hsb hm hF hFB p0 q0
    go_enter Tryz.func36, Tryz.ntmps36
    go_wp2
    refine wp_region_free 3 6 mixedR rfl (by decide +kernel) Grow (fun _ _ _ => Grow.trans) (Grow.refl _)
      (fun i v _ => match i with
        | 0 => v = .pointer (some ⟨b, 0, none⟩)
        | 1 => v = .string (bs t)
        | _ => False)
      (fun i v w w' h hg => h) (gaveA w) (fun ch a w2 hd hq => ?_) (fun i hi o ho a w2 hG hoff hdep => ?_) (fun vals w2 hG hvals => ?_)
    · obtain ⟨⟨E, hE, hq1⟩, hq2⟩ := hq
      simp only [Ending.panicked.injEq] at hq1
      subst hq1
      exact ⟨hd, E, (outc_no hE).symm, ⟨fun h => absurd h hE, fun h => absurd h HTE.out⟩, fun h => absurd h hE, fun _ => HM.out.grow hq2, KeptR.grow hq2⟩
    · have hg2 : Grow w w2 := hG.undrew
      have p0 := cell_of_one (hg2.get HPB.out)
      have q0 := cell_of_one (hg2.get HSB.out)
      match i, hi with
      | 0, _ =>
        obtain rfl := Option.some.inj ho
        have o0 := hoff 0 (by decide +kernel)
        simp at o0
        simp [opYields, go_sem, o0, p0]
        exact Grow.refl _
      | 1, _ =>
        obtain rfl := Option.some.inj ho
        have o1 := hoff 1 (by decide +kernel)
        simp at o1
        simp [opYields, go_sem, o1, q0]
        exact Grow.refl _
      | 2, _ =>
        obtain rfl := Option.some.inj ho
        have d1 := hdep 1 (by decide +kernel)
        simp [slotOf, dstOf] at d1
        simp [opYields, go_sem, d1]
        refine (HU.out w2).mono ?_
        rintro e w3 ⟨hb, E, hE, rfl⟩
        exact ⟨⟨E, hE, rfl⟩, hg2.trans hb⟩
      | k + 3, h => exact absurd h (by omega)
    · exact absurd (hvals 2 (by omega)) (by simp)
  | some r =>
    rw [hu] at HU
    have HTE : Hid (textE K t = (learnR K r).1) := hide (by unfold textE; rw [hu])
    have HTK : Hid (textK K t = (learnR K r).2) := hide (by unfold textK; rw [hu])
    have HRE := hide (unpO_right hu)
    have HLN := hide (fun (W : World) (vr vp : Value) (g : Grow w W) (h1 : SR B W vr r.refs) (h2 : SP B W vp r.points) => learn_any W B F b K vr vp r (hm.grow g) (fun k h => hF k (Nat.le_trans g.size h)) hFB (Nat.le_trans hBw g.size) hd hr h1 h2 HRE.out hl)
    clear hu hpb hsb hm hF hFB p0 q0 hd hr
    go_enter Tryz.func36, Tryz.ntmps36
    go_wp2
    refine wp_region_free 3 6 mixedR rfl (by decide +kernel) Grow (fun _ _ _ => Grow.trans) (Grow.refl _)
      (fun i v W => match i with
        | 0 => v = .pointer (some ⟨b, 0, none⟩)
        | 1 => v = .string (bs t)
        | _ => ∃ vr vp, v = .agg #[.int .i64 r.kind, vr, vp] ∧ SR B W vr r.refs ∧ SP B W vp r.points)
      (fun i v w1 w2 h hg => by
        match i, h with
        | 0, h => exact h
        | 1, h => exact h
        | k + 2, h =>
          obtain ⟨vr, vp, e, h1, h2⟩ := h
          exact ⟨vr, vp, e, h1.keep (KeptR.grow hg), h2.keep (KeptR.grow hg)⟩) (fun _ _ => False) (fun _ _ _ _ h => h.elim) (fun i hi o ho a w2 hG hoff hdep => ?_) (fun vals w2 hG hvals => ?_)
    · have hg2 : Grow w w2 := hG.undrew
      have p0 := cell_of_one (hg2.get HPB.out)
      have q0 := cell_of_one (hg2.get HSB.out)
      match i, hi with
      | 0, _ =>
        obtain rfl := Option.some.inj ho
        have o0 := hoff 0 (by decide +kernel)
        simp at o0
        simp [opYields, go_sem, o0, p0]
        exact Grow.refl _
      | 1, _ =>
        obtain rfl := Option.some.inj ho
        have o1 := hoff 1 (by decide +kernel)
        simp at o1
        simp [opYields, go_sem, o1, q0]
        exact Grow.refl _
      | 2, _ =>
        obtain rfl := Option.some.inj ho
        have d1 := hdep 1 (by decide +kernel)
        simp [slotOf, dstOf] at d1
        simp [opYields, go_sem, d1]
        refine (HU.out w2).mono ?_
        rintro e w3 ⟨hb, vr, vp, rfl, ho1, ho2⟩
        exact ⟨hb, vr, vp, rfl, SR.of_own ho1, SP.of_own ho2⟩
      | k + 3, h => exact absurd h (by omega)
    · have v0 := hvals 0 (by omega)
      have v2 := hvals 2 (by omega)
      simp only at v0 v2
      obtain ⟨vr, vp, v2, h1, h2⟩ := v2
      have hg2 : Grow w w2 := hG.undrew
      have HL2 := hide (HLN.out w2 vr vp hg2 h1 h2)
      have HG2 := hide hg2
      clear hvals hG h1 h2 hg2 HLN
      simp [over, dstOf, Act.put, v0, v2]
      clear v0 v2
      go_wp2_with fail
      refine HL2.out.mono ?_
      rintro e w3 ⟨rfl, hm3, hk3⟩
      have HM3 := hide hm3
      have HK3 : Hid (KeptR F w w3) := hide ((KeptR.grow HG2.out).trans hk3)
      clear hm3 hk3 HL2
      obtain ⟨E, HE⟩ : ∃ E, Hid ((learnR K r).1 = E) := ⟨_, hide rfl⟩
      rw [HE.out]
      by_cases h0 : E = 0
      · have HZ := hide h0
        rw [h0, outc_ok]
        clear h0
        go_wp2
        go_end0
        exact ⟨0, outc_ok.symm, ⟨fun _ => by rw [HTE.out, HE.out, HZ.out], fun _ => rfl⟩, fun _ => by rw [HTK.out]; exact HM3.out, fun h => absurd rfl h, HK3.out⟩
      · rw [outc_no h0]
        have hno : (learnR K r).2 = K := learnR_no (e := E) (by rw [← HE.out]) h0
        exact ⟨rfl, E, (outc_no h0).symm, ⟨fun h => absurd h h0, fun h => absurd (by rw [HTE.out, HE.out] at h; exact h) h0⟩, fun h => absurd h h0, fun _ => by rw [← hno]; exact HM3.out, HK3.out⟩
set_option maxRecDepth 20000 in
set_option maxHeartbeats 4000000 in
theorem endOf1_any (w : World) (sb nb : Nat) (s : List UInt8) (n i : Nat) (hsb : w.heap[sb]? = some (.cells #[.string (bs s)] 9 (0, 0))) (hnb : w.heap[nb]? = some (.cells #[.int .i64 n] 3 (0, 0))) (hs : s.length ≤ 100000000) (hn : n ≤ (entA s 0).length) (hi : i < s.length) :
    Calls Tryz.prog 71 #[.int .i64 i, .pointer (some ⟨sb, 0, none⟩), .pointer (some ⟨nb, 0, none⟩)] w fun e w' => e = .returned (.bool (decide (endF 0 ((entA s 0).take n) ≤ i))) ∧ Grow w w' := by
  have p0 := cell_of_one hsb
  have q0 := cell_of_one hnb
  have HNB := hide hnb
  have hcnt := entA_count (c := i) hn (by omega)
  have HR := hide (logRead_any (s.take i) w (by rw [List.length_take]; omega))
  obtain ⟨m, HM⟩ : ∃ m, Hid ((entA (s.take i) 0).length = m) := ⟨_, hide rfl⟩
  obtain ⟨e, HE⟩ : ∃ e, Hid (endF 0 ((entA s 0).take n) = e) := ⟨_, hide rfl⟩
  rw [HM.out, HE.out] at hcnt
  rw [HE.out]
  have hdd : decide (e ≤ i) = decide ((n : Int) ≤ (m : Int)) := by rw [decide_eq_decide]; omega
  have hil : (i : Int) ≤ (s.length : Int) := by omega
  have HDD := hide hdd
  clear hsb hnb hcnt hn hdd
  go_enter Tryz.func71, Tryz.ntmps71
  go_wp2_with fail
  refine HR.out.mono ?_
  rintro x w2 ⟨v, rfl, ho, hg⟩
  obtain ⟨vo, vc, hv⟩ := own_shape ho
  subst hv
  have hlen : ((entA (s.take i) 0).map (·.1)).length = m := by rw [List.length_map]; exact HM.out
  rw [hlen]
  have q0' := cell_of_one ((show Grow w w2 from hg).get HNB.out)
  have HG := hide hg
  clear ho hg HR p0 q0 hlen
  go_wp2
  go_ret
  exact ⟨by rw [HDD.out]; simp, HG.out⟩
set_option maxRecDepth 20000 in
set_option maxHeartbeats 4000000 in
theorem endOf_any (w : World) (s : List UInt8) (n : Nat) (hs : s.length ≤ 100000000) (hn : n ≤ (entA s 0).length) :
    Calls Tryz.prog 38 #[.string (bs s), .int .i64 n] w fun e w' => e = .returned (.int .i64 (endF 0 ((entA s 0).take n))) ∧ Grow w w' := by
  have hmf : ∀ (fn : Fn) (first cap : Array Value) (w : World), (Instr.makeFunc fn first cap).run Tryz.prog w = .ok (.func fn first cap) w := fun _ _ _ _ => rfl
  obtain ⟨V1, e1, g1, b1⟩ := laid_at w #[.string (bs s)] 9
  obtain ⟨V2, e2, g2, b2⟩ := laid_at V1 #[.int .i64 n] 3
  have hle := (endF_take (X := entA s 0) (l := s) n rfl).2 (Nat.zero_le _)
  have HSR := hide (search_any V2 #[.pointer (some ⟨w.heap.size, 0, none⟩), .pointer (some ⟨V1.heap.size, 0, none⟩)] s.length (endF 0 ((entA s 0).take n)) hs hle (fun W i g hi => endOf1_any W w.heap.size V1.heap.size s n i (g.get (g2.get b1)) (g.get b2) hs hn hi))
  have p0 := cell_of_one (g2.get b1)
  obtain ⟨e, HE⟩ : ∃ e, Hid (endF 0 ((entA s 0).take n) = e) := ⟨_, hide rfl⟩
  rw [HE.out] at HSR ⊢
  have HG := hide (g1.trans g2)
  clear g1 g2 b1 b2 hle hn HE
  go_enter Tryz.func38, Tryz.ntmps38
  go_wp2_with fail
  refine HSR.out.mono ?_
  rintro x w3 ⟨rfl, hg⟩
  have HG3 := hide (HG.out.trans hg)
  clear hg HSR
  go_wp2
  go_ret
  exact ⟨rfl, HG3.out⟩
/-! ### Replay -/
theorem textE_zero {K : List Kp} {t : List UInt8} (h : textE K t = 0) : ∃ r, unpO t = some r ∧ learnR K r = (0, textK K t) := by
  unfold textE at h
  unfold textK
  cases hu : unpO t with
  | none => rw [hu] at h; cases h
  | some r => rw [hu] at h; exact ⟨r, rfl, Prod.ext h rfl⟩
theorem textK_right {K : List Kp} {t : List UInt8} (h : textE K t = 0) (hd : Dist K) (hr : rightM K) (hl : K.length ≤ 1000) : Dist (textK K t) ∧ rightM (textK K t) ∧ (textK K t).length ≤ 1000 := by
  obtain ⟨r, hu, hL⟩ := textE_zero h
  obtain ⟨h1, h2⟩ := learnR_right hL hd hr (recErr_zero (unpO_right hu)).2.2.2.1
  exact ⟨h1, h2, learnR_len hL hl⟩
/-- What is known of a log, and how many bytes of it are learnt. -/
def replA (s : List UInt8) : List Kp := replK [] ((entA s 0).map (·.1))
def replE (s : List UInt8) : Nat := endF 0 ((entA s 0).take (replN [] ((entA s 0).map (·.1))))
theorem replK_right : ∀ {l : List (List UInt8)} {K : List Kp}, Dist K → rightM K → K.length ≤ 1000 → Dist (replK K l) ∧ rightM (replK K l) ∧ (replK K l).length ≤ 1000
  | [], K, h1, h2, h3 => ⟨h1, h2, h3⟩
  | t :: l, K, h1, h2, h3 => by
    unfold replK
    split
    · rename_i h
      obtain ⟨a, b, c⟩ := textK_right h h1 h2 h3
      exact replK_right (l := l) a b c
    · exact ⟨h1, h2, h3⟩
theorem replK_none {K : List Kp} {t : List UInt8} {l : List (List UInt8)} (h : textE K t ≠ 0) : replK K (t :: l) = K ∧ replN K (t :: l) = 0 := by
  unfold replK replN
  rw [if_neg h, if_neg h]
  exact ⟨rfl, rfl⟩
theorem replK_some {K : List Kp} {t : List UInt8} {l : List (List UInt8)} (h : textE K t = 0) : replK K (t :: l) = replK (textK K t) l ∧ replN K (t :: l) = replN (textK K t) l + 1 := by
  rw [replK, replN, if_pos h, if_pos h]
  exact ⟨rfl, rfl⟩
theorem entA_short : ∀ {X : List (List UInt8 × Nat)} {l : List UInt8} {p : Nat}, entA l p = X → ∀ x ∈ X, x.1.length ≤ l.length
  | [], l, p, h, x, hx => by simp at hx
  | (r, e) :: X, l, p, h, x, hx => by
    obtain ⟨h1, h2⟩ := entA_cons h
    have h3 := recA_end h1
    rcases List.mem_cons.1 hx with rfl | hx
    · show r.length ≤ l.length; omega
    · exact entA_short h2 x hx
theorem reads_ownStrsK {w : World} {B : Nat} {v : Value} {l : List (List UInt8)} (h : ownStrs w B v l) {i : Nat} (hi : i < l.length) : ∃ g cap, v = .slice (some ⟨g, 0, none⟩) l.length cap ∧ B ≤ g ∧ w.cell? ⟨g, i, none⟩ = some (.string (bs l[i])) ∧ ∃ c, w.heap[g]? = some (.cells c 9 (0, 0)) := by
  rcases id h.2 with ⟨_, h0⟩ | ⟨g, cap, cur, r1, r2, r3, r4⟩
  · omega
  · have hc := World.ownsRow.cells h (g := g) (by rw [r1]; rfl) i (.string (bs l[i])) (by simp [strsV, hi])
    rw [Addr.add_lit] at hc
    exact ⟨g, cap, r1, r2, by simpa using hc, _, r3⟩
/-- What Replay answers: rows of the call's own, and the cell that names them. -/
theorem ownKnw.set {w : World} {Z rb : Nat} {xr xl xh : Value} {k : Knw} {c : Array Value} (h : ownKnw w Z xr xl xh k) (hb : w.heap[rb]? = some (.cells c 26 (0, 0))) (i : Nat) (u : Value) : ownKnw (w.setCell ⟨rb, i, none⟩ u) Z xr xl xh k := by
  obtain ⟨⟨ps, p1, p2, p3⟩, hl, hh⟩ := h
  have hs : ∀ {f size n : Nat} {v : Value} {xs : List Value}, f ≠ 26 → w.ownsRow Z f size v n xs → (w.setCell ⟨rb, i, none⟩ u).ownsRow Z f size v n xs := fun g h0 => ownsRow_setCell_other (a := ⟨rb, i, none⟩) h0 (own_apart h0 hb g) _
  exact ⟨⟨ps, p1, hs (by decide) p2, fun j p x hp hx => ⟨(p3 j p x hp hx).1, hs (by decide) (p3 j p x hp hx).2⟩⟩, hs (by decide) hl, hs (by decide) hh⟩
theorem ownKnw.le {w : World} {Z Z' : Nat} {xr xl xh : Value} {k : Knw} (h : ownKnw w Z xr xl xh k) (hZ : Z' ≤ Z) : ownKnw w Z' xr xl xh k := ⟨ownRefs_le h.r hZ, own_le h.l hZ, own_le h.h hZ⟩
theorem ownKnw.grow {w w' : World} {Z : Nat} {xr xl xh : Value} {k : Knw} (h : ownKnw w Z xr xl xh k) (g : Grow w w') : ownKnw w' Z xr xl xh k := ⟨ownRefs_stay h.r fun q _ hq => g.block q hq, own_grow h.l g, own_grow h.h g⟩
set_option maxRecDepth 20000 in
set_option maxHeartbeats 16000000 in
theorem Replay_any (w : World) (s : List UInt8) (hs : s.length ≤ 100000000) :
    Calls Tryz.prog 13 #[.string (bs s)] w fun e w' => ∃ xr xl xh, e = .returned (.tuple #[.agg #[xr, xl, xh], .int .i64 (replE s)]) ∧ ownKnw w' w.heap.size xr xl xh (knwOf (sortK (replA s))) ∧ Grow w w' := by
  have hcf : ∀ (args : Array Value) (w : World), (callFunc 36 args).run Tryz.prog w = .ok (.enter 36 args) w := fun args w => by simp [go_sem]
  have hmf : ∀ (fn : Fn) (first cap : Array Value) (w : World), (Instr.makeFunc fn first cap).run Tryz.prog w = .ok (.func fn first cap) w := fun _ _ _ _ => rfl
  obtain ⟨X, HX⟩ : ∃ X, Hid (entA s 0 = X) := ⟨_, hide rfl⟩
  have hxs := entA_short HX.out
  have HRA : Hid (replA s = replK [] (X.map (·.1))) := hide (by unfold replA; rw [HX.out])
  have HREn : Hid (replE s = endF 0 (X.take (replN [] (X.map (·.1))))) := hide (by unfold replE; rw [HX.out])
  obtain ⟨L, HL⟩ : ∃ L, Hid (X.map (·.1) = L) := ⟨_, hide rfl⟩
  have HLX : Hid (L.length = X.length) := hide (by rw [← HL.out, List.length_map])
  have HSH : Hid (∀ t ∈ L, t.length ≤ 140737488355328) := hide fun t ht => by
    rw [← HL.out] at ht
    obtain ⟨x, hx, rfl⟩ := List.mem_map.1 ht
    have := hxs x hx
    omega
  have hLl : L.length ≤ 100000000 := by
    have h1 := ents_len HX.out
    have h2 := (endF_ge HX.out).2 (Nat.zero_le _)
    rw [HLX.out]; omega
  rw [HL.out] at HRA HREn
  have HRD := hide (fun W => logRead_any s W hs)
  have HEO := hide (fun W n (hn : n ≤ X.length) => endOf_any W s n hs (by rw [HX.out]; exact hn))
  rw [HX.out] at HRD HEO
  rw [HL.out] at HRD
  obtain ⟨V1, e1, g1, b1⟩ := laid_at w #[.slice none 0 0, .slice none 0 0, .slice none 0 0] 26
  have s1 : V1.heap.size = w.heap.size + 1 := by rw [← e1]; simp
  have HB1 := hide b1
  have HG1 := hide g1
  have HS1 : Hid (V1.heap.size = w.heap.size + 1) := hide s1
  clear g1 b1 hxs s1
  go_enter Tryz.func13, Tryz.ntmps13
  go_wp2_with fail
  refine (newMemory_any V1 w.heap.size (fun k => V1.heap.size ≤ k) (fun k h => h)).mono ?_
  rintro e w4 ⟨b, rfl, hg4, hm4, hbN⟩
  obtain ⟨V5, e5, g5, b5⟩ := laid_at w4 #[.pointer (some ⟨b, 0, none⟩)] 50
  have HM5 := hide (hm4.grow g5)
  have HP5 := hide b5
  have HG5 : Hid (Grow V1 V5) := hide (hg4.trans g5)
  clear g5 b5 hm4 hg4 hbN e1
  go_wp2_with fail
  refine (HRD.out V5).mono ?_
  rintro e w6 ⟨v6, rfl, ho6, hg6⟩
  obtain ⟨vo, vc, hv6⟩ := own_shape ho6
  subst hv6
  have HO6 := hide ho6
  have HM6 := hide (HM5.out.grow hg6)
  have HP6 := hide ((show Grow V5 w6 from hg6).get HP5.out)
  have HG6 : Hid (Grow V1 w6) := hide (HG5.out.trans hg6)
  clear ho6 hg6 HM5 HP5 HG5 HRD e5
  go_wp2
  go_loopw [18] (fun iv wr => ∃ (k : Nat) (K : List Kp), k ≤ L.length ∧ iv = .int .i64 k ∧ Hid (memJ wr w.heap.size (fun k => V1.heap.size ≤ k) b K) ∧ Hid (KeptR (fun k => V1.heap.size ≤ k) w6 wr) ∧ Hid (Dist K ∧ rightM K ∧ K.length ≤ 1000) ∧ Hid (replK [] L = replK K (L.drop k)) ∧ Hid (replN [] L = k + replN K (L.drop k))) (fun iv _ => L.length - (intOf iv).toNat)
  case atStart => exact ⟨0, [], by omega, rfl, HM6, hide (KeptR.refl _ _), hide ⟨Dist.nil, fun y hy => by simp at hy, by simp⟩, hide rfl, hide (by simp)⟩
  case round =>
    obtain ⟨k, K, hk, rfl, HMJ, HKR, HDR, HRK, HRN⟩ := hrel
    rename World => wr
    have HPr := hide (HKR.out.typed _ _ _ _ HP6.out (by decide) (by decide) (by decide))
    have HRr : Hid (wr.heap[w.heap.size]? = some (.cells #[.slice none 0 0, .slice none 0 0, .slice none 0 0] 26 (0, 0))) := hide ((HKR.out.block _ (lt_of_block (HG6.out.get HB1.out)) (fun (h : V1.heap.size ≤ w.heap.size) => by have := HS1.out; omega)).trans (HG6.out.get HB1.out))
    have HGr : Hid (Grow w wr) := hide (Below.trans (HG1.out.trans HG6.out) (HKR.out.below (fun k (h : V1.heap.size ≤ k) => by have := HS1.out; omega) (HG1.out.trans HG6.out).size))
    by_cases hlt : k < L.length
    · have hlti : (k : Int) < (L.length : Int) := by omega
      obtain ⟨g, cap, hge, hgB, q0, c, hgc⟩ := reads_ownStrsK HO6.out hlt
      obtain ⟨rfl, rfl⟩ : vo = some ⟨g, 0, none⟩ ∧ vc = cap := by simpa using hge
      have q0r : wr.cell? ⟨g, k, none⟩ = some (.string (bs L[k])) := (World.cell?_of_block ((HKR.out.typed _ _ _ _ hgc (by decide) (by decide) (by decide)).trans hgc.symm)).trans q0
      have hdr : L.drop k = L[k] :: L.drop (k + 1) := List.drop_eq_getElem_cons hlt
      have htl := HSH.out _ (List.getElem_mem hlt)
      obtain ⟨t, HT⟩ : ∃ t, Hid (L[k] = t) := ⟨_, hide rfl⟩
      rw [HT.out] at q0r hdr htl
      have HDRP := hide hdr
      obtain ⟨V7, e7, g7, b7⟩ := laid_at wr #[.string (bs t)] 9
      obtain ⟨V8, e8, g8, b8⟩ := laid_at V7 #[.int .i64 0] 30
      have s7 : V7.heap.size = wr.heap.size + 1 := by rw [← e7]; simp
      have s8 : V8.heap.size = V7.heap.size + 1 := by rw [← e8]; simp
      have hw1 : V1.heap.size ≤ wr.heap.size := Nat.le_trans HG6.out.size HKR.out.size
      have hs1 := HS1.out
      have HL1 := hide (replay1_any V8 w.heap.size (fun k => V1.heap.size ≤ k ∧ k ≠ V7.heap.size) b w4.heap.size wr.heap.size K t (g8.get (g7.get HPr.out)) (g8.get b7)
        ((HMJ.out.mono (fun k hk hl => ⟨hk, by omega⟩)).grow (g7.trans g8)) (fun k h => ⟨by omega, by omega⟩) (fun k h => by omega) (by omega) HDR.out.1 HDR.out.2.1 HDR.out.2.2 htl)
      have HB8 := hide b8
      have E8 := hide e8
      have HAT := hide (attempt_any V7 36 #[.pointer (some ⟨w4.heap.size, 0, none⟩), .pointer (some ⟨wr.heap.size, 0, none⟩)] (fun E w' => (E = 0 ↔ textE K t = 0) ∧ (E = 0 → memJ w' w.heap.size (fun k => V1.heap.size ≤ k ∧ k ≠ V7.heap.size) b (textK K t)) ∧ (E ≠ 0 → memJ w' w.heap.size (fun k => V1.heap.size ≤ k ∧ k ≠ V7.heap.size) b K) ∧ KeptR (fun k => V1.heap.size ≤ k ∧ k ≠ V7.heap.size) V8 w') hcf (by
        rw [E8.out]
        refine HL1.out.mono ?_
        rintro e w' ⟨E, he, h1, h2, h3, h4⟩
        exact ⟨E, he, ⟨h1, h2, h3, h4⟩, (h4.block _ (lt_of_block HB8.out) (fun h => h.2 rfl)).trans HB8.out⟩))
      have HG8 := hide (g7.trans g8)
      have HS8 : Hid (V7.heap.size = wr.heap.size + 1 ∧ V8.heap.size = V7.heap.size + 1 ∧ V1.heap.size ≤ wr.heap.size) := hide ⟨s7, s8, hw1⟩
      clear g7 g8 b7 b8 e8 s7 s8 hw1 hs1 HL1 hge hgc q0 hdr htl
      go_wp2_with fail
      refine HAT.out.mono ?_
      rintro e w2 ⟨E, w1, rfl, ⟨hE, hm1, hm0, hk1⟩, hw2⟩
      obtain ⟨z1, z2, z3⟩ := HS8.out
      have hsz := hk1.size
      have hoth : ∀ q, q ≠ V7.heap.size → w2.heap[q]? = w1.heap[q]? := fun q hq => by rw [hw2]; exact Below.heap_setCell _ _ _ _ hq
      have h6 : w1.heap[V7.heap.size]? = some (.cells #[.int .i64 0] 30 (0, 0)) := (hk1.block _ (by omega) (fun h => h.2 rfl)).trans HB8.out
      have hset : ∀ F : Nat → Prop, F V7.heap.size → KeptR F w1 w2 := fun F hF => by rw [hw2]; exact KeptR.setMem h6 (.inr (.inr rfl)) hF _
      have hmem : ∀ M : List Kp, memJ w1 w.heap.size (fun k => V1.heap.size ≤ k ∧ k ≠ V7.heap.size) b M → memJ w2 w.heap.size (fun k => V1.heap.size ≤ k) b M := fun M hM =>
        (hM.keep (fun q hq _ => hoth q hq.2) (hset _ (by have := HS1.out; omega))).mono fun k hk _ => hk.1
      have HK2 : Hid (KeptR (fun k => V1.heap.size ≤ k) w6 w2) := hide (((HKR.out.trans (KeptR.grow HG8.out)).trans (hk1.mono fun k hk => hk.1)).trans (hset _ (by show V1.heap.size ≤ V7.heap.size; omega)))
      have HME : Hid (E = 0 → memJ w2 w.heap.size (fun k => V1.heap.size ≤ k) b (textK K t)) := hide fun h => hmem _ (hm1 h)
      have HMN : Hid (E ≠ 0 → memJ w2 w.heap.size (fun k => V1.heap.size ≤ k) b K) := hide fun h => hmem _ (hm0 h)
      have HE := hide hE
      clear hw2 hk1 hm1 hm0 hoth hsz z1 z2 z3 h6 hset hmem HAT hE e7 HS8 q0r HG8 E8 HB8
      by_cases h0 : E = 0
      · have HTE : Hid (textE K t = 0) := hide (HE.out.1 h0)
        have hz : E = 0 := h0
        subst hz
        obtain ⟨ha, hb, hc⟩ := textK_right HTE.out HDR.out.1 HDR.out.2.1 HDR.out.2.2
        have HDR2 : Hid (Dist (textK K t) ∧ rightM (textK K t) ∧ (textK K t).length ≤ 1000) := hide ⟨ha, hb, hc⟩
        have HM2 := hide (HME.out rfl)
        obtain ⟨hr1, hr2⟩ := replK_some (l := L.drop (k + 1)) HTE.out
        have HRK2 : Hid (replK [] L = replK (textK K t) (L.drop (k + 1))) := hide (by rw [HRK.out, HDRP.out, hr1])
        have HRN2 : Hid (replN [] L = (k + 1) + replN (textK K t) (L.drop (k + 1))) := hide (by rw [HRN.out, HDRP.out, hr2]; omega)
        clear h0 ha hb hc hr1 hr2 HME HMN
        go_wp2
        go_roundw
        case rel => exact ⟨k + 1, textK K t, by omega, by go_num, HM2, HK2, HDR2, HRK2, HRN2⟩
        case measure => simp [intOf]; omega
      · have hne : ((E : Int) != 0) = true := by simp; exact h0
        have HTE : Hid (textE K t ≠ 0) := hide fun h => h0 (HE.out.2 h)
        obtain ⟨hr1, hr2⟩ := replK_none (l := L.drop (k + 1)) HTE.out
        have HA1 : Hid (replA s = K) := hide (by rw [HRA.out, HRK.out, HDRP.out, hr1])
        have HA2 : Hid (replE s = endF 0 (X.take k)) := hide (by rw [HREn.out, HRN.out, HDRP.out, hr2, Nat.add_zero])
        have p0 := cell_of_one (HK2.out.typed _ _ _ _ HP6.out (by decide) (by decide) (by decide))
        have HR2 : Hid (w2.heap[w.heap.size]? = some (.cells #[.slice none 0 0, .slice none 0 0, .slice none 0 0] 26 (0, 0))) := hide ((HK2.out.block _ (lt_of_block (HG6.out.get HB1.out)) (fun (h : V1.heap.size ≤ w.heap.size) => by have := HS1.out; omega)).trans (HG6.out.get HB1.out))
        have HG2 : Hid (Grow w w2) := hide (Below.trans (HG1.out.trans HG6.out) (HK2.out.below (fun k (h : V1.heap.size ≤ k) => by have := HS1.out; omega) (HG1.out.trans HG6.out).size))
        have HKN := hide (known_any w2 w.heap.size _ b K (HMN.out h0) HDR.out.2.1 HDR.out.2.2)
        have hkX : k ≤ X.length := by have := HLX.out; omega
        have HEO2 := hide (fun W => HEO.out W k hkX)
        have HD := hide HDR.out.1
        clear h0 hr1 hr2 HME HMN HEO HKR HMJ HRK HRN hkX
        go_wp2_with fail
        refine HKN.out.mono ?_
        rintro e w3 ⟨xr, xl, xh, D, rfl, hpe, hpw, hok3, hg3⟩
        have HDS : Hid (D = sortK K) := hide (sortK_uniq HD.out hpe hpw)
        have HO3 := hide (hok3.le HG2.out.size)
        have HG3 := hide (HG2.out.trans hg3)
        have HR3 := hide (hg3.get HR2.out)
        obtain ⟨xro, xrc, hx1⟩ := ownRefs_shape hok3.r
        obtain ⟨xlo, xlc, hx2⟩ := own_shape hok3.l
        obtain ⟨xho, xhc, hx3⟩ := own_shape hok3.h
        subst hx1 hx2 hx3
        clear hpe hpw hok3 hg3 HKN p0
        go_wp2_with fail
        refine (HEO2.out w3).mono ?_
        rintro e w5 ⟨rfl, hg5⟩
        have HO5 := hide (HO3.out.grow hg5)
        have HG5 := hide (HG3.out.trans hg5)
        have hr5 := (show Grow w3 w5 from hg5).get HR3.out
        have HR5 := hide hr5
        obtain ⟨cr0, cr1, cr2⟩ := three_of hr5
        have z0 : w5.frozen? ⟨w.heap.size, 0, none⟩ = false := by simp [World.frozen?, hr5]
        have z1 : w5.frozen? ⟨w.heap.size, 1, none⟩ = false := by simp [World.frozen?, hr5]
        have z2 : w5.frozen? ⟨w.heap.size, 2, none⟩ = false := by simp [World.frozen?, hr5]
        clear hg5 hr5 HEO2 HG3 HO3
        obtain ⟨EE, HEE⟩ : ∃ EE, Hid (endF 0 (X.take k) = EE) := ⟨_, hide rfl⟩
        rw [HEE.out] at HA2 ⊢
        go_wp2
        have hF := set3 (set3 (set3 HR5.out 0 (.slice xro (knwOf D).refs.length xrc)) 1 (.slice xlo (knwOf D).lasts.length xlc)) 2 (.slice xho (knwOf D).has.length xhc)
        obtain ⟨f0, f1, f2⟩ := three_of hF
        refine bodyPost_ret (v := .tuple #[.agg #[.slice xro (knwOf D).refs.length xrc, .slice xlo (knwOf D).lasts.length xlc, .slice xho (knwOf D).has.length xhc], .int .i64 EE]) (by simp [results, Tryz.results13, go_sem, f0, f1, f2]) rfl ?_
        refine ⟨_, _, _, by rw [HA2.out], ?_, Below.setCell (Below.setCell (Below.setCell HG5.out (Nat.le_refl _) _) (Nat.le_refl _) _) (Nat.le_refl _) _⟩
        rw [HA1.out, ← HDS.out]
        exact ((HO5.out.set HR5.out 0 _).set (set3 HR5.out 0 _) 1 _).set (set3 (set3 HR5.out 0 _) 1 _) 2 _
    · obtain rfl : k = L.length := by omega
      have HA1 : Hid (replA s = K) := hide (by rw [HRA.out, HRK.out, List.drop_of_length_le (Nat.le_refl _)]; rfl)
      have HA2 : Hid (replE s = lastE X) := hide (by
        rw [HREn.out, HRN.out, List.drop_of_length_le (Nat.le_refl _)]
        show endF 0 (X.take (L.length + 0)) = _
        rw [Nat.add_zero, HLX.out, List.take_of_length_le (Nat.le_refl _), lastE_endF])
      have p0 := cell_of_one HPr.out
      have HKN := hide (known_any wr w.heap.size _ b K HMJ.out HDR.out.2.1 HDR.out.2.2)
      have HD := hide HDR.out.1
      clear HRK HRN HKR HMJ HEO
      go_wp2_with fail
      refine HKN.out.mono ?_
      rintro e w3 ⟨xr, xl, xh, D, rfl, hpe, hpw, hok3, hg3⟩
      have HDS : Hid (D = sortK K) := hide (sortK_uniq HD.out hpe hpw)
      have HO3 := hide (hok3.le HGr.out.size)
      have HG3 := hide (HGr.out.trans hg3)
      have hr3 := (show Grow wr w3 from hg3).get HRr.out
      have HR3 := hide hr3
      obtain ⟨xro, xrc, hx1⟩ := ownRefs_shape hok3.r
      obtain ⟨xlo, xlc, hx2⟩ := own_shape hok3.l
      obtain ⟨xho, xhc, hx3⟩ := own_shape hok3.h
      subst hx1 hx2 hx3
      obtain ⟨cr0, cr1, cr2⟩ := three_of hr3
      have z0 : w3.frozen? ⟨w.heap.size, 0, none⟩ = false := by simp [World.frozen?, hr3]
      have z1 : w3.frozen? ⟨w.heap.size, 1, none⟩ = false := by simp [World.frozen?, hr3]
      have z2 : w3.frozen? ⟨w.heap.size, 2, none⟩ = false := by simp [World.frozen?, hr3]
      clear hpe hpw hok3 hg3 HKN p0 hr3
      obtain ⟨EE, HEE⟩ : ∃ EE, Hid (lastE X = EE) := ⟨_, hide rfl⟩
      rw [HEE.out] at HA2 ⊢
      go_wp2
      have hF := set3 (set3 (set3 HR3.out 0 (.slice xro (knwOf D).refs.length xrc)) 1 (.slice xlo (knwOf D).lasts.length xlc)) 2 (.slice xho (knwOf D).has.length xhc)
      obtain ⟨f0, f1, f2⟩ := three_of hF
      refine bodyPost_ret (v := .tuple #[.agg #[.slice xro (knwOf D).refs.length xrc, .slice xlo (knwOf D).lasts.length xlc, .slice xho (knwOf D).has.length xhc], .int .i64 EE]) (by simp [results, Tryz.results13, go_sem, f0, f1, f2]) rfl ?_
      refine ⟨_, _, _, by rw [HA2.out], ?_, Below.setCell (Below.setCell (Below.setCell HG3.out (Nat.le_refl _) _) (Nat.le_refl _) _) (Nat.le_refl _) _⟩
      rw [HA1.out, ← HDS.out]
      exact ((HO3.out.set HR3.out 0 _).set (set3 HR3.out 0 _) 1 _).set (set3 (set3 HR3.out 0 _) 1 _) 2 _
end Go.Proofs.YtkaeogldielkfaaGreat.Rc
namespace Go.Proofs.YtkaeogldielkfaaGreat.Rc
open Go.RowKit Lb Lg
/-! ### what is learnt doesn't hang on the order -/
theorem knowsR_perm {S M : List Kp} (h : S.Perm M) (x : RefL) : knowsR S x = knowsR M x := by
  unfold knowsR
  have h1 : x ∈ S.map (·.1) ↔ x ∈ M.map (·.1) := (h.map _).mem_iff
  have h2 : (∃ y ∈ S, y.1.1 = x.1 ∨ y.1.2 = x.2) ↔ ∃ y ∈ M, y.1.1 = x.1 ∨ y.1.2 = x.2 :=
    ⟨fun ⟨y, hy, e⟩ => ⟨y, h.mem_iff.1 hy, e⟩, fun ⟨y, hy, e⟩ => ⟨y, h.mem_iff.2 hy, e⟩⟩
  simp only [h1, h2]
theorem seriesGo_perm {S M : List Kp} (h : S.Perm M) : ∀ (l : List RefL) (C : List Kp), seriesGo S C l = seriesGo M C l
  | [], C => rfl
  | x :: l, C => by
    rw [seriesGo, seriesGo, knowsR_perm h, seriesGo_perm h l C, seriesGo_perm h l (C ++ [(x, 0, false)])]
theorem updP_perm {S M : List Kp} (h : S.Perm M) (p : Pnt) : (updP S p).Perm (updP M p) := h.map _
theorem upds_perm : ∀ (ps : List Pnt) {S M : List Kp}, S.Perm M → (ps.foldl updP S).Perm (ps.foldl updP M)
  | [], S, M, h => h
  | p :: ps, S, M, h => upds_perm ps (updP_perm h p)
theorem learnR_perm {S M : List Kp} (h : S.Perm M) (r : Rcd) : (learnR S r).1 = (learnR M r).1 ∧ (learnR S r).2.Perm (learnR M r).2 := by
  unfold learnR
  split
  · unfold learnS
    rw [seriesGo_perm h]
    cases seriesGo M [] r.refs with
    | none => exact ⟨rfl, h⟩
    | some C =>
      simp only [h.length_eq]
      split
      · exact ⟨rfl, h⟩
      · exact ⟨rfl, h.append_right C⟩
  · unfold learnP
    have h1 : (∃ p ∈ r.points, p.1 ∉ S.map (·.1.1)) ↔ ∃ p ∈ r.points, p.1 ∉ M.map (·.1.1) := by
      have h2 : ∀ n : Int, n ∈ S.map (·.1.1) ↔ n ∈ M.map (·.1.1) := fun n => (h.map _).mem_iff
      simp only [h2]
    simp only [h1]
    split
    · exact ⟨rfl, h⟩
    · exact ⟨rfl, upds_perm r.points h⟩
/-! ### the law's walk: what is learnt, what is logged -/
/-- Memories that may be. -/
structure okM (M : List Kp) : Prop where
  dist : Dist M
  right : rightM M
  len : M.length ≤ 1000
  times : okT M
theorem okM.nil : okM [] := ⟨Dist.nil, fun y hy => by simp at hy, by simp, fun y hy => by simp at hy⟩
theorem okM.sort {M : List Kp} (h : okM M) : okM (sortK M) := by
  have hp := sortK_perm M
  exact ⟨⟨((hp.map (·.1.1)).nodup_iff).2 h.dist.num, ((hp.map (·.1.2)).nodup_iff).2 h.dist.lab⟩, fun y hy => h.right y (hp.mem_iff.1 hy), by rw [hp.length_eq]; exact h.len, fun y hy => h.times y (hp.mem_iff.1 hy)⟩
/-- What is known of a memory. -/
def knwM (M : List Kp) : Knw := knwOf (sortK M)
theorem knwM_right {M : List Kp} (h : okM M) : knwErr (knwM M) = 0 := knwOf_right h.sort.dist h.sort.right (sortK_rise M) h.sort.times h.sort.len
theorem knwM_kps (M : List Kp) : kpsOf (knwM M) (knwM M).refs.length = sortK M := by
  have : (knwM M).refs.length = (sortK M).length := by simp [knwM, knwOf]
  rw [this]
  exact kps_knwOf _
theorem knwM_learn {M : List Kp} {r : Rcd} (h : okM M) (hr : recErr r = 0) : learnE (knwM M) r = (learnR M r).1 := by
  rw [learnE_all (knwM_right h) hr, knwM_kps]
  exact (learnR_perm (sortK_perm M) r).1
theorem knwM_next {M : List Kp} {r : Rcd} (h : okM M) (he : learnE (knwM M) r = 0) : learnAns (knwM M) r = knwM (learnR M r).2 ∧ okM (learnR M r).2 ∧ (learnR M r).1 = 0 := by
  obtain ⟨h1, h2, h3⟩ := learnE_zero he
  obtain ⟨hd, hri, hln⟩ := learn_dist he
  have ht := learn_okT he
  have hp : (learnK (knwM M) r).Perm (learnR M r).2 := by
    unfold learnK
    rw [knwM_kps]
    exact (learnR_perm (sortK_perm M) r).2
  have hd2 : Dist (learnR M r).2 := ⟨((hp.map (·.1.1)).nodup_iff).1 hd.num, ((hp.map (·.1.2)).nodup_iff).1 hd.lab⟩
  refine ⟨?_, ⟨hd2, fun y hy => hri y (hp.mem_iff.2 hy), by rw [← hp.length_eq]; exact hln, fun y hy => ht y (hp.mem_iff.2 hy)⟩, ?_⟩
  · unfold learnAns
    rw [if_pos he]
    show _ = knwOf (sortK (learnR M r).2)
    rw [← sortK_uniq hd2 ((sortK_perm _).trans hp) (sortK_rise _)]
  · rw [← knwM_learn h h2]; exact he
/-- The records that were taken, packed, and the memory that they made, one by one. -/
structure Went (M : List Kp) (T : List (List UInt8)) : Prop where
  rep : replK [] T = M ∧ replN [] T = T.length
  ok : okM M
theorem replK_snoc : ∀ {T : List (List UInt8)} {K : List Kp} {t : List UInt8}, replN K T = T.length → textE (replK K T) t = 0 → replK K (T ++ [t]) = textK (replK K T) t ∧ replN K (T ++ [t]) = T.length + 1
  | [], K, t, h, he => by
    obtain ⟨h1, h2⟩ := replK_some (l := []) he
    exact ⟨h1, h2⟩
  | u :: T, K, t, h, he => by
    by_cases hu : textE K u = 0
    · obtain ⟨h1, h2⟩ := replK_some (l := T) hu
      obtain ⟨h3, h4⟩ := replK_some (l := T ++ [t]) hu
      rw [h2, List.length_cons] at h
      rw [h1] at he ⊢
      obtain ⟨h5, h6⟩ := replK_snoc (T := T) (by omega) he
      rw [List.cons_append, h3, h4, h5, h6]
      exact ⟨rfl, rfl⟩
    · obtain ⟨h1, h2⟩ := replK_none (l := T) hu
      rw [h2, List.length_cons] at h
      omega
theorem Went.nil : Went [] [] := ⟨⟨rfl, rfl⟩, okM.nil⟩
theorem Went.step {M : List Kp} {T : List (List UInt8)} {r : Rcd} (h : Went M T) (hor : okRec r) (he : learnE (knwM M) r = 0) : Went (learnR M r).2 (T ++ [packB r]) ∧ knwM (learnR M r).2 = learnAns (knwM M) r := by
  obtain ⟨h1, h2, h3⟩ := knwM_next h.ok he
  have hr := (learnE_zero he).2.1
  have hu : unpO (packB r) = some r := unpO_pack hr (fun x hx => (hor.2.2.2.2 x hx).2.2.2.2)
  have hte : textE M (packB r) = 0 := by unfold textE; rw [hu]; exact h3
  have htk : textK M (packB r) = (learnR M r).2 := by unfold textK; rw [hu]
  obtain ⟨r1, r2⟩ := h.rep
  have := replK_snoc (t := packB r) r2 (by rw [r1]; exact hte)
  rw [r1, htk] at this
  exact ⟨⟨⟨this.1, by rw [this.2, List.length_append]; rfl⟩, h2⟩, h1.symm⟩
/-- The memories on the way. -/
theorem Went.take : ∀ {T : List (List UInt8)} {M : List Kp}, Went M T → ∀ q, q ≤ T.length → Went (replK [] (T.take q)) (T.take q) := by
  intro T M h q hq
  have key : ∀ (l : List (List UInt8)) (K : List Kp) (q : Nat), replN K l = l.length → q ≤ l.length → replN K (l.take q) = q := by
    intro l
    induction l with
    | nil => intro K q h hq; simp at hq; subst hq; rfl
    | cons t l ih =>
      intro K q h hq
      cases q with
      | zero => rfl
      | succ q =>
        by_cases ht : textE K t = 0
        · obtain ⟨h1, h2⟩ := replK_some (l := l) ht
          obtain ⟨h3, h4⟩ := replK_some (l := l.take q) ht
          rw [h2, List.length_cons] at h
          rw [List.take_succ_cons, h4, ih (textK K t) q (by omega) (by simpa using hq)]
        · obtain ⟨h1, h2⟩ := replK_none (l := l) ht
          rw [h2, List.length_cons] at h
          omega
  have keyM : ∀ (l : List (List UInt8)) (K : List Kp), okM K → okM (replK K l) := by
    intro l
    induction l with
    | nil => intro K h; exact h
    | cons t l ih =>
      intro K h
      by_cases ht : textE K t = 0
      · obtain ⟨h1, _⟩ := replK_some (l := l) ht
        rw [h1]
        refine ih _ ?_
        obtain ⟨r, hu, hL⟩ := textE_zero ht
        have hre := unpO_right hu
        have he : learnE (knwM K) r = 0 := by rw [knwM_learn h hre, hL]
        have := (knwM_next h he).2.1
        rw [hL] at this
        exact this
      · obtain ⟨h1, _⟩ := replK_none (l := l) ht
        rw [h1]
        exact h
  exact ⟨⟨rfl, by rw [key T [] q h.rep.2 hq, List.length_take]; omega⟩, keyM _ _ okM.nil⟩
abbrev riseK (D : List Kp) : Prop := D.Pairwise fun a b => a.1.1 ≤ b.1.1
/-- How many stand ahead of a number. -/
def aheadK (D : List Kp) (n : Int) : Nat := (D.takeWhile fun y => decide (y.1.1 < n)).length
theorem aheadK_le : ∀ (D : List Kp) (n : Int), aheadK D n ≤ D.length
  | [], n => by simp [aheadK]
  | y :: D, n => by
    have := aheadK_le D n
    unfold aheadK at this ⊢
    rw [List.takeWhile_cons]
    split <;> simp <;> omega
theorem aheadK_lt : ∀ (D : List Kp) (n : Int) (j : Nat) (h : j < aheadK D n), ∃ hj : j < D.length, D[j].1.1 < n
  | [], n, j, h => by simp [aheadK] at h
  | y :: D, n, j, h => by
    unfold aheadK at h
    rw [List.takeWhile_cons] at h
    split at h
    · rename_i hy
      cases j with
      | zero => exact ⟨by simp, by simpa using hy⟩
      | succ j =>
        obtain ⟨h1, h2⟩ := aheadK_lt D n j (by unfold aheadK; simpa using h)
        exact ⟨by simpa using h1, by simpa using h2⟩
    · simp at h
theorem aheadK_stop : ∀ (D : List Kp) (n : Int) (h : aheadK D n < D.length), ¬ D[aheadK D n].1.1 < n
  | [], n, h => by simp at h
  | y :: D, n, h => by
    by_cases hy : y.1.1 < n
    · have e : aheadK (y :: D) n = aheadK D n + 1 := by unfold aheadK; rw [List.takeWhile_cons, if_pos (by simpa using hy)]; simp
      have := aheadK_stop D n (by rw [e] at h; simpa using h)
      simpa [e] using this
    · have e : aheadK (y :: D) n = 0 := by unfold aheadK; rw [List.takeWhile_cons, if_neg (by simpa using hy)]; rfl
      simpa [e] using hy
/-- A place is that one, if all ahead of it are less and it is not. -/
theorem aheadK_uniq (D : List Kp) (n : Int) (i : Nat) (hi : i ≤ D.length) (h1 : ∀ j (hj : j < i), D[j].1.1 < n) (h2 : ∀ h : i < D.length, ¬ D[i].1.1 < n) : aheadK D n = i := by
  rcases Nat.lt_trichotomy (aheadK D n) i with h | h | h
  · exact absurd (h1 _ h) (aheadK_stop D n (by omega))
  · exact h
  · obtain ⟨hj, h3⟩ := aheadK_lt D n i h
    exact absurd h3 (h2 hj)
/-- One more, in its place. -/
def insK (x : Kp) (D : List Kp) : List Kp := D.take (aheadK D x.1.1) ++ x :: D.drop (aheadK D x.1.1)
theorem insK_perm (x : Kp) (D : List Kp) : (insK x D).Perm (D ++ [x]) := by
  unfold insK
  have h1 : (D.take (aheadK D x.1.1) ++ x :: D.drop (aheadK D x.1.1)).Perm (x :: (D.take (aheadK D x.1.1) ++ D.drop (aheadK D x.1.1))) := List.perm_middle
  rw [List.take_append_drop] at h1
  exact h1.trans (List.perm_append_singleton x D).symm
theorem insK_rise {x : Kp} {D : List Kp} (h : riseK D) : riseK (insK x D) := by
  unfold insK riseK
  have hd : ∀ y ∈ D.drop (aheadK D x.1.1), x.1.1 ≤ y.1.1 := fun y hy => by
    obtain ⟨j, hj, rfl⟩ := List.getElem_of_mem hy
    rw [List.length_drop] at hj
    have hs := aheadK_stop D x.1.1 (by omega)
    rw [List.getElem_drop]
    by_cases e : j = 0
    · subst e; simpa using hs
    · have := (List.pairwise_iff_getElem.1 h) (aheadK D x.1.1) (aheadK D x.1.1 + j) (by omega) (by omega) (by omega)
      omega
  have ht : ∀ y ∈ D.take (aheadK D x.1.1), y.1.1 < x.1.1 := fun y hy => by
    obtain ⟨j, hj, rfl⟩ := List.getElem_of_mem hy
    rw [List.length_take] at hj
    obtain ⟨_, h2⟩ := aheadK_lt D x.1.1 j (by omega)
    rw [List.getElem_take]
    exact h2
  rw [List.pairwise_append]
  refine ⟨h.take, List.pairwise_cons.2 ⟨hd, h.drop⟩, fun a ha b hb => ?_⟩
  have h1 := ht a ha
  rcases List.mem_cons.1 hb with rfl | hb
  · omega
  · have := hd b hb
    omega
def refStep (D : List Kp) (x : RefL) : Option (List Kp) := if knowsR D x = 1 then some D else if knowsR D x = 2 then none else if D.length = 1000 then none else some (insK (x, 0, false) D)
def refsGo : List Kp → List RefL → Option (List Kp)
  | D, [] => some D
  | D, x :: l => (refStep D x).bind fun D' => refsGo D' l
def pntStep (D : List Kp) (p : Pnt) : Option (List Kp) := if p.1 ∈ D.map (·.1.1) then some (updP D p) else none
def pntsGo : List Kp → List Pnt → Option (List Kp)
  | D, [] => some D
  | D, p :: l => (pntStep D p).bind fun D' => pntsGo D' l
def learnOfR (D : List Kp) (r : Rcd) : Option (List Kp) := (refsGo D r.refs).bind fun D' => pntsGo D' r.points
theorem knows_app {M C : List Kp} {x : RefL} (h : Dist (M ++ C)) : knowsR (M ++ C) x = if knowsR M x = 2 then 2 else if knowsR M x = 1 then 1 else knowsR C x := by
  by_cases h1 : x ∈ M.map (·.1)
  · have e1 : knowsR M x = 1 := knowsR_mem.2 h1
    have e2 : knowsR (M ++ C) x = 1 := knowsR_mem.2 (by rw [List.map_append]; exact List.mem_append_left _ h1)
    rw [e1, e2]; rfl
  · have n1 : knowsR M x ≠ 1 := fun e => h1 (knowsR_mem.1 e)
    by_cases h2 : ∃ y ∈ M, y.1.1 = x.1 ∨ y.1.2 = x.2
    · have e1 : knowsR M x = 2 := by unfold knowsR; rw [if_neg h1, if_pos h2]
      rw [e1, if_pos rfl]
      obtain ⟨y, hy, hyx⟩ := h2
      unfold knowsR
      rw [if_neg, if_pos ⟨y, List.mem_append_left _ hy, hyx⟩]
      intro hm
      rw [List.map_append] at hm
      rcases List.mem_append.1 hm with hm | hm
      · exact h1 hm
      · obtain ⟨z, hz, e⟩ := List.mem_map.1 hm
        have hn := h.num
        have hl := h.lab
        rw [List.map_append, List.nodup_append] at hn hl
        rcases hyx with e2 | e2
        · exact hn.2.2 _ (List.mem_map.2 ⟨y, hy, rfl⟩) _ (List.mem_map.2 ⟨z, hz, rfl⟩) (by rw [e2, ← e])
        · exact hl.2.2 _ (List.mem_map.2 ⟨y, hy, rfl⟩) _ (List.mem_map.2 ⟨z, hz, rfl⟩) (by rw [e2, ← e])
    · have e1 : knowsR M x = 0 := by unfold knowsR; rw [if_neg h1, if_neg h2]
      rw [e1, if_neg (by decide), if_neg (by decide)]
      unfold knowsR
      have a1 : x ∈ (M ++ C).map (·.1) ↔ x ∈ C.map (·.1) := by
        rw [List.map_append, List.mem_append]
        exact ⟨fun h => h.resolve_left h1, .inr⟩
      have a2 : (∃ y ∈ M ++ C, y.1.1 = x.1 ∨ y.1.2 = x.2) ↔ ∃ y ∈ C, y.1.1 = x.1 ∨ y.1.2 = x.2 := by
        constructor
        · rintro ⟨y, hy, e⟩
          rcases List.mem_append.1 hy with hy | hy
          · exact absurd ⟨y, hy, e⟩ h2
          · exact ⟨y, hy, e⟩
        · rintro ⟨y, hy, e⟩
          exact ⟨y, List.mem_append_right _ hy, e⟩
      simp only [a1, a2]
theorem seriesGo_more {M : List Kp} : ∀ {l : List RefL} {C C' : List Kp}, seriesGo M C l = some C' → C.length ≤ C'.length
  | [], C, C', h => by obtain rfl : C = C' := by simpa [seriesGo] using h
                       exact Nat.le_refl _
  | x :: l, C, C', h => by
    unfold seriesGo at h
    split at h
    · cases h
    · split at h
      · exact seriesGo_more h
      · split at h
        · cases h
        · split at h
          · exact seriesGo_more h
          · have := seriesGo_more h
            rw [List.length_append, List.length_singleton] at this
            omega
/-- Series, one by one into a sorted row. -/
theorem refsGo_eq {M : List Kp} : ∀ (l : List RefL) (C D : List Kp), D.Perm (M ++ C) → Came M C → M.length + C.length ≤ 1000 → (∀ x ∈ l, refErr x = 0) →
    (seriesGo M C l = none → refsGo D l = none) ∧ (∀ C', seriesGo M C l = some C' → (1000 < M.length + C'.length → refsGo D l = none) ∧ (M.length + C'.length ≤ 1000 → ∃ D', refsGo D l = some D' ∧ D'.Perm (M ++ C')))
  | [], C, D, hp, hc, hl, hx => by
    refine ⟨fun h => by simp [seriesGo] at h, fun C' h => ?_⟩
    obtain rfl : C = C' := by simpa [seriesGo] using h
    exact ⟨fun h => by omega, fun _ => ⟨D, rfl, hp⟩⟩
  | x :: l, C, D, hp, hc, hl, hx => by
    have hk : knowsR D x = if knowsR M x = 2 then 2 else if knowsR M x = 1 then 1 else knowsR C x := (knowsR_perm hp x).trans (knows_app hc.dist)
    have hxl := fun y hy => hx y (List.mem_cons_of_mem _ hy)
    have same : knowsR D x = 1 → refsGo D (x :: l) = refsGo D l := fun e => by show (refStep D x).bind _ = _; unfold refStep; rw [if_pos e]; rfl
    have bad : knowsR D x = 2 → refsGo D (x :: l) = none := fun e => by show (refStep D x).bind _ = _; unfold refStep; rw [if_neg (by omega), if_pos e]; rfl
    unfold seriesGo
    by_cases m2 : knowsR M x = 2
    · rw [if_pos m2] at hk ⊢
      exact ⟨fun _ => bad hk, fun C' h => by cases h⟩
    · rw [if_neg m2] at hk ⊢
      by_cases m1 : knowsR M x = 1
      · rw [if_pos m1] at hk ⊢
        rw [same hk]
        exact refsGo_eq l C D hp hc hl hxl
      · rw [if_neg m1] at hk ⊢
        by_cases c2 : knowsR C x = 2
        · rw [if_pos c2]
          exact ⟨fun _ => bad (by rw [hk, c2]), fun C' h => by cases h⟩
        · rw [if_neg c2]
          by_cases c1 : knowsR C x = 1
          · rw [if_pos c1, same (by rw [hk, c1])]
            exact refsGo_eq l C D hp hc hl hxl
          · rw [if_neg c1]
            have m0 : knowsR M x = 0 := (knowsR_lt M x).elim id fun e => e.elim (fun e => absurd e m1) fun e => absurd e m2
            have c0 : knowsR C x = 0 := (knowsR_lt C x).elim id fun e => e.elim (fun e => absurd e c1) fun e => absurd e c2
            rw [c0] at hk
            have hDl : D.length = M.length + C.length := by rw [hp.length_eq, List.length_append]
            by_cases hfull : D.length = 1000
            · have hno : refsGo D (x :: l) = none := by show (refStep D x).bind _ = _; unfold refStep; rw [if_neg (by omega), if_neg (by omega), if_pos hfull]; rfl
              refine ⟨fun _ => hno, fun C' h => ⟨fun _ => hno, fun h2 => ?_⟩⟩
              have := seriesGo_more h
              rw [List.length_append, List.length_singleton] at this
              omega
            · have hgo : refsGo D (x :: l) = refsGo (insK (x, 0, false) D) l := by show (refStep D x).bind _ = _; unfold refStep; rw [if_neg (by omega), if_neg (by omega), if_neg hfull]; rfl
              rw [hgo]
              exact refsGo_eq l (C ++ [(x, 0, false)]) _ ((insK_perm _ D).trans (by rw [← List.append_assoc]; exact hp.append_right _)) (hc.step m0 c0 (hx x (by simp))) (by rw [List.length_append, List.length_singleton]; omega) hxl
theorem refsGo_rise : ∀ (l : List RefL) (D D' : List Kp), riseK D → refsGo D l = some D' → riseK D'
  | [], D, D', h, he => by obtain rfl : D = D' := by simpa [refsGo] using he
                           exact h
  | x :: l, D, D', h, he => by
    unfold refsGo at he
    cases hs : refStep D x with
    | none => rw [hs] at he; cases he
    | some E =>
      rw [hs] at he
      refine refsGo_rise l E D' ?_ he
      unfold refStep at hs
      split at hs
      · cases hs; exact h
      · split at hs
        · cases hs
        · split at hs
          · cases hs
          · cases hs; exact insK_rise h
theorem pntsGo_eq : ∀ (l : List Pnt) (D : List Kp), pntsGo D l = if ∃ p ∈ l, p.1 ∉ D.map (·.1.1) then none else some (l.foldl updP D)
  | [], D => by simp [pntsGo]
  | p :: l, D => by
    have hr : (updP D p).map (·.1.1) = D.map (·.1.1) := by
      have := congrArg (List.map (·.1)) (updP_refs D p)
      rw [List.map_map, List.map_map] at this
      exact this
    unfold pntsGo pntStep
    by_cases h : p.1 ∈ D.map (·.1.1)
    · rw [if_pos h]
      show pntsGo (updP D p) l = _
      rw [pntsGo_eq l (updP D p), hr]
      have e : (∃ q ∈ p :: l, q.1 ∉ D.map (·.1.1)) ↔ ∃ q ∈ l, q.1 ∉ D.map (·.1.1) := by
        constructor
        · rintro ⟨q, hq, hn⟩
          rcases List.mem_cons.1 hq with rfl | hq
          · exact absurd h hn
          · exact ⟨q, hq, hn⟩
        · rintro ⟨q, hq, hn⟩
          exact ⟨q, List.mem_cons_of_mem _ hq, hn⟩
      simp only [e, List.foldl_cons]
    · rw [if_neg h, if_pos ⟨p, by simp, h⟩]
      rfl
theorem updP_rise {D : List Kp} (h : riseK D) (ps : List Pnt) : riseK (ps.foldl updP D) := by
  have e : (ps.foldl updP D).map (·.1.1) = D.map (·.1.1) := by
    have := congrArg (List.map (·.1)) (updAll_refs ps D)
    rw [List.map_map, List.map_map] at this
    exact this
  have h1 : (D.map (·.1.1)).Pairwise (· ≤ ·) := List.pairwise_map.2 h
  rw [← e] at h1
  exact List.pairwise_map.1 h1
theorem recErr_form {r : Rcd} (h : recErr r = 0) : (r.kind = 1 ∧ r.points = []) ∨ (r.kind = 2 ∧ r.refs = []) := by
  have hk := (recErr_zero h).1
  unfold recErr at h
  by_cases h1 : r.kind ≠ 1 ∧ r.kind ≠ 2
  · rw [if_pos h1] at h; cases h
  · rw [if_neg h1] at h
    by_cases h2 : (r.kind = 1 ∧ 0 < r.points.length) ∨ (r.kind = 2 ∧ 0 < r.refs.length)
    · rw [if_pos h2] at h; cases h
    · rcases hk with e | e
      · refine .inl ⟨e, List.eq_nil_of_length_eq_zero (Nat.eq_zero_of_not_pos fun hp => h2 (.inl ⟨e, hp⟩))⟩
      · refine .inr ⟨e, List.eq_nil_of_length_eq_zero (Nat.eq_zero_of_not_pos fun hp => h2 (.inr ⟨e, hp⟩))⟩
/-- The document's learning comes to Learn's. -/
theorem learnOfR_eq {M : List Kp} {r : Rcd} (h : okM M) (hr : recErr r = 0) :
    ((learnR M r).1 = 0 → learnOfR (sortK M) r = some (sortK (learnR M r).2)) ∧ ((learnR M r).1 ≠ 0 → learnOfR (sortK M) r = none) := by
  obtain ⟨hk, hrl, hpl, hro, hpo⟩ := recErr_zero hr
  have hform := recErr_form hr
  have hp := sortK_perm M
  have hs : riseK (sortK M) := sortK_rise M
  have hd2 : ∀ e M', learnR M r = (e, M') → Dist M' := fun e M' he => (learnR_right he h.dist h.right hro).1
  unfold learnOfR
  rcases hform with ⟨h1, h2⟩ | ⟨h1, h2⟩
  · have hL : learnR M r = learnS M r.refs := by unfold learnR; rw [if_pos h1]
    have hd : Dist (learnR M r).2 := hd2 (learnR M r).1 (learnR M r).2 rfl
    obtain ⟨g1, g2⟩ := refsGo_eq (M := M) r.refs [] (sortK M) (by simpa using hp) ⟨by simpa using h.dist, by simpa using h.right⟩ (by simpa using h.len) hro
    rw [hL] at hd ⊢
    rw [h2]
    unfold learnS at hd ⊢
    cases hg : seriesGo M [] r.refs with
    | none =>
      rw [g1 hg]
      exact ⟨fun e => (by cases e), fun _ => rfl⟩
    | some C =>
      rw [hg] at hd
      simp only at hd ⊢
      obtain ⟨k1, k2⟩ := g2 C hg
      split
      · rename_i hc
        rw [k1 hc]
        exact ⟨fun e => (by cases e), fun _ => rfl⟩
      · rename_i hc
        obtain ⟨D', e1, e2⟩ := k2 (by omega)
        rw [if_neg hc] at hd
        rw [e1]
        refine ⟨fun _ => ?_, fun e => absurd rfl e⟩
        show some D' = _
        rw [sortK_uniq hd e2 (refsGo_rise _ _ _ hs e1)]
  · have hL : learnR M r = learnP M r.points := by unfold learnR; rw [if_neg (by omega)]
    have hd : Dist (learnR M r).2 := hd2 (learnR M r).1 (learnR M r).2 rfl
    rw [hL] at hd ⊢
    rw [h2]
    show (_ → pntsGo (sortK M) r.points = _) ∧ (_ → pntsGo (sortK M) r.points = _)
    rw [pntsGo_eq]
    unfold learnP at hd ⊢
    have e : (∃ p ∈ r.points, p.1 ∉ (sortK M).map (·.1.1)) ↔ ∃ p ∈ r.points, p.1 ∉ M.map (·.1.1) := by
      have h2 : ∀ n : Int, n ∈ (sortK M).map (·.1.1) ↔ n ∈ M.map (·.1.1) := fun n => (hp.map _).mem_iff
      simp only [h2]
    simp only [e]
    split
    · exact ⟨fun e => (by cases e), fun _ => rfl⟩
    · rename_i hc
      rw [if_neg hc] at hd
      refine ⟨fun _ => ?_, fun e => absurd rfl e⟩
      rw [sortK_uniq hd (upds_perm r.points hp) (updP_rise hs r.points)]
end Go.Proofs.YtkaeogldielkfaaGreat.Rc
