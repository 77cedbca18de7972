/- 1 texts in one. -/
import Derived.Laws.OwnMore
import Derived.Laws.AppendOwnNone
import Derived.Deep.AppendLies
import Derived.Maps.AppendAt
import Derived.Deep.Cut
import Derived.Deep.CutRange
import Derived.Deep.DeepCutAuto
import Derived.Deep.CutBlock
import Derived.Deep.LoopGhost
import Derived.Test.YtdlmgkncneifaaaGreatProg
import Derived.Test.YtdlmgkncneifaaaGreatK77c7527
import Derived.Test.YtdlmgkncneifaaaGreatKa9a7a6f
import Derived.Test.YtdlmgkncneifaaaGreatK261a29d
import Derived.Test.YtdlmgkncneifaaaGreatK53a69b0
import Derived.Test.YtdlmgkncneifaaaGreatK101b007
import Derived.Test.YtdlmgkncneifaaaGreatKda5cde6
import Derived.Test.YtdlmgkncneifaaaGreatK2b0d28e
import Derived.Test.YtdlmgkncneifaaaGreatK2d0e62a
import Derived.Test.YtdlmgkncneifaaaGreatK5d24356
import Derived.BigQuiet
set_option linter.unusedVariables false
set_option linter.unusedSimpArgs false
namespace Go.Proofs.YtdlmgkncneifaaaGreat.Fd
open Go.RowKit Lb
attribute [local go_sem] bs_size bs_toList bs_append bs_get bs_extract
/-- The form of a row that is handed over. -/
def shT (v : Value) (n : Nat) : Prop := v = .slice none 0 0 ∨ ∃ ad cp, v = .slice (some ad) n cp
/-- Values of a row's targets. -/
theorem reads_vals {w : World} {B : Nat} {v : Value} {l : List Tgt} (h : readsTgts w B v l) : ∃ ps : List TP, tgts ps = l ∧ (∀ p ∈ ps, readsLabels w B p.2 p.1) ∧ ∀ ad n cp, v = .slice (some ad) n cp → ∀ j u, (vals ps)[j]? = some u → w.cell? (ad.add j) = some u := by
  obtain ⟨ao, cp, hv, _, h⟩ := h
  obtain ⟨ps, hl, hp⟩ := Lb.list_of (n := l.length) (p := fun i (p : TP) => ∃ hi : i < l.length, p.1 = l[i] ∧ readsLabels w B p.2 p.1 ∧ ∃ b o, ao = some ⟨b, o, none⟩ ∧ w.cell? ⟨b, o + i, none⟩ = some p.2) (fun i hi => by
    obtain ⟨b, o, x, e, _, hx, c0⟩ := h i hi
    exact ⟨(l[i], x), hi, rfl, hx, b, o, e, c0⟩)
  refine ⟨ps, ?_, fun p hpm => ?_, fun ad n cp' e j u hu => ?_⟩
  · refine List.ext_getElem (by rw [tgts_length, hl]) fun i h1 h2 => ?_
    rw [tgts_length] at h1
    obtain ⟨_, e, _⟩ := hp i h1
    simpa [tgts] using e
  · obtain ⟨i, hi, rfl⟩ := List.getElem_of_mem hpm
    obtain ⟨_, _, h1, _⟩ := hp i hi
    exact h1
  · unfold vals at hu
    rw [List.getElem?_map] at hu
    obtain ⟨q, hq, rfl⟩ := Option.map_eq_some_iff.1 hu
    obtain ⟨hj, rfl⟩ := List.getElem?_eq_some_iff.1 hq
    obtain ⟨_, _, _, b, o, e2, c0⟩ := hp j hj
    rw [hv] at e
    simp only [Value.slice.injEq] at e
    obtain ⟨e3, _⟩ := e
    rw [e2] at e3
    obtain rfl := Option.some.inj e3
    rw [Addr.add_lit]
    exact c0
theorem read_back {w : World} {B : Nat} {ps : List TP} (h : ∀ p ∈ ps, readsLabels w B p.2 p.1) {W : World} (g : Below B w W) (hs : B ≤ W.heap.size) : ∀ p ∈ ps, readsLabels W W.heap.size p.2 p.1 := fun p hp => readsLabels_mono (readsLabels_below (h p hp) g) hs
theorem keep_cell {w W : World} {a : Addr} {u : Value} (g : Grow w W) (h : w.cell? a = some u) : W.cell? a = some u := (World.cell?_of_block (w := w) (g.block a.block (World.block_lt_of_cell? w a h))).trans h
theorem tgts_mem {ps : List TP} {p : TP} (h : p ∈ ps) : p.1 ∈ tgts ps := List.mem_map.2 ⟨p, h, rfl⟩
theorem sameTgts_same (w : World) (va vb : Value) (a : List Tgt) (ha : readsTgts w w.heap.size va a) (hb : readsTgts w w.heap.size vb a) (la : a.length ≤ 1000000) (hal : ∀ x ∈ a, x.length ≤ 20) :
    Calls Tryz.prog 8 #[va, vb] w fun e w' => e = .returned (.bool true) ∧ Grow w w' := by
  have := sameTgts_any w va vb a a ha hb la (fun x hx => by have := hal x hx; omega) (fun x hx => by have := hal x hx; omega)
  rwa [decide_eq_true (Eq.refl a)] at this
set_option maxRecDepth 20000 in
set_option maxHeartbeats 8000000 in
theorem findDiffs_any (w : World) (va : Value) (a : List Tgt) (ha : readsTgts w w.heap.size va a) (la : a.length ≤ 1048576) (oa : okTgts a) (sa : shT va a.length) (vb : Value) (b : List Tgt) (hb : readsTgts w w.heap.size vb b) (lb : b.length ≤ 1048576) (ob : okTgts b) (sb : shT vb b.length) :
    Calls Tryz.prog 4 #[va, vb] w fun e w' => e = .returned (.bool true) ∧ Grow w w' := by
  obtain ⟨i0, hi0, hz0, hz1, hz2⟩ := info_parts infoTgt
  have S1 := hide (diff_any w va vb a b ha hb oa ob)
  obtain ⟨ao, ac, hva⟩ := ha.shape
  obtain ⟨bo, bc, hvb⟩ := hb.shape
  have HA := hide ha
  have HB := hide hb
  have HOA := hide oa
  have HOB := hide ob
  have HSA := hide sa
  have HSB := hide sb
  clear ha hb oa ob sa sb
  subst hva hvb
  have hcf : ∀ (args : Array Value) (w : World), (callFunc 12 args).run Tryz.prog w = .ok (.enter 12 args) w := enters_of Tryz.func12 (by kernel_rfl) rfl
  obtain ⟨E, HE⟩ : ∃ E, Hid (listsErr [a, b] = E) := ⟨_, hide rfl⟩
  go_enter Tryz.func4, Tryz.ntmps4
  go_wp2_with fail
  refine S1.out.mono ?_
  rintro e w1 ⟨hg1, v1, v2, v3, d, rfl, r1, r2, r3, hd0⟩
  have HG1 := hide hg1
  have HR1 := hide r1
  have HR2 := hide r2
  have HR3 := hide r3
  have HD0 := hide hd0
  obtain ⟨q1, q2, hv1⟩ := r1.shape
  obtain ⟨q3, q4, hv2⟩ := r2.shape
  obtain ⟨q5, q6, hv3⟩ := r3.shape
  clear hg1 r1 r2 r3 hd0 S1
  subst hv1 hv2 hv3
  -- both rows behind one another
  obtain ⟨pa0, hpa, hla, hca⟩ := reads_vals HA.out
  obtain ⟨pb0, hpb, hlb, hcb⟩ := reads_vals HB.out
  have HPA := hide hpa
  have HPB := hide hpb
  have HLA := hide hla
  have HLB := hide hlb
  have hla1 : pa0.length = a.length := by rw [← hpa, tgts_length]
  have hlb1 : pb0.length = b.length := by rw [← hpb, tgts_length]
  obtain ⟨X0, eX0, hX0, bX0⟩ := laid1 w1 #[] 36
  have hE0 : X0.ownsRow w1.heap.size 36 1 (.slice (some ⟨w1.heap.size, 0, none⟩) 0 0) 0 [] := ⟨rfl, .inr ⟨w1.heap.size, 0, #[], rfl, Nat.le_refl _, bX0, Nat.le_refl _, Nat.zero_le _, rfl, rfl⟩⟩
  obtain ⟨M, HM⟩ : ∃ M : Nat, Hid ((if 100 < a.length ∨ 100 < b.length then 2 else 0) = M) := ⟨_, hide rfl⟩
  clear hpa hpb hla hlb
  go_upto_region 3 with fail
  go_cut [35] (fun s35 wx => s35 = .bool (decide (100 < a.length ∨ 100 < b.length)) ∧ w1 = wx)
  case first =>
    by_cases m1 : 100 < a.length
    · have m1d : decide ((100 : Int) < (a.length : Int)) = true := decide_eq_true (by omega)
      go_wp2
      go_meet
      exact ⟨congrArg Value.bool (decide_eq_true (p := 100 < a.length ∨ 100 < b.length) (.inl m1)).symm, rfl⟩
    · have m1d : decide ((100 : Int) < (a.length : Int)) = false := decide_eq_false (by omega)
      by_cases m2 : 100 < b.length
      · have m2d : decide ((100 : Int) < (b.length : Int)) = true := decide_eq_true (by omega)
        go_wp2
        go_meet
        exact ⟨congrArg Value.bool (decide_eq_true (p := 100 < a.length ∨ 100 < b.length) (.inr m2)).symm, rfl⟩
      · have m2d : decide ((100 : Int) < (b.length : Int)) = false := decide_eq_false (by omega)
        go_wp2
        go_meet
        exact ⟨congrArg Value.bool (decide_eq_false (p := 100 < a.length ∨ 100 < b.length) (by omega)).symm, rfl⟩
  case rest =>
  obtain ⟨rfl, rfl⟩ := hcut
  go_upto_if 35 with fail
  go_cut [9] (fun s9 wx => s9 = .int .i64 M ∧ w1 = wx)
  case first =>
    by_cases m : 100 < a.length ∨ 100 < b.length
    · have md : decide (100 < a.length ∨ 100 < b.length) = true := decide_eq_true m
      have hM : M = 2 := by rw [← HM.out, if_pos m]
      subst hM
      go_wp2
      go_meet
      exact ⟨rfl, rfl⟩
    · have md : decide (100 < a.length ∨ 100 < b.length) = false := decide_eq_false m
      have hM : M = 0 := by rw [← HM.out, if_neg m]
      subst hM
      go_wp2
      go_meet
      exact ⟨rfl, rfl⟩
  case rest =>
  obtain ⟨rfl, rfl⟩ := hcut
  have gX0' : Grow w1 X0 := hX0
  have gXw : Grow w X0 := HG1.out.trans gX0'
  have hs0 : w1.heap.size ≤ X0.heap.size := gX0'.size
  go_upto_region 5 with fail
  go_cut [10] (fun s10 wx => Grow w1 wx ∧ rowT wx w1.heap.size s10 (pa0 ++ pb0))
  case first =>
    rcases HSA.out with h1 | ⟨ad, cp1, h1⟩
    · rcases HSB.out with h2 | ⟨bd, cp2, h2⟩
      · skip
        simp only [Value.slice.injEq] at h1
        obtain ⟨rfl, hz1', rfl⟩ := h1
        have hpa0 : pa0 = [] := List.eq_nil_of_length_eq_zero (by omega)
        have hx1 : Value.slice none a.length 0 = .slice none 0 0 := by rw [hz1']
        have HX1 := hide hx1
        have HPA0 := hide hpa0
        clear hx1 hz1' hpa0
        simp only [Value.slice.injEq] at h2
        obtain ⟨rfl, hz2', rfl⟩ := h2
        have hpb0 : pb0 = [] := List.eq_nil_of_length_eq_zero (by omega)
        have hx2 : Value.slice none b.length 0 = .slice none 0 0 := by rw [hz2']
        have HX2 := hide hx2
        have HPB0 := hide hpb0
        clear hx2 hz2' hpb0
        go_wp2_with (first | (at_builtin; refine wpList_append_own_none rfl _ _ 22 rfl w1.heap.size 36 i0 1 Tryz.underlying22 hi0 (.slice (some ⟨w1.heap.size, 0, none⟩) 0 0) 0 [] rfl hE0 HX1.out ?_) | (at_builtin; refine wpList_append_own_none rfl _ _ 22 rfl w1.heap.size 36 i0 1 Tryz.underlying22 hi0 (.slice (some ⟨w1.heap.size, 0, none⟩) 0 0) 0 [] rfl hE0 HX2.out ?_))
        go_meet
        refine ⟨gX0', ?_⟩
        rw [HPA0.out, HPB0.out]
        exact hE0
      · skip
        simp only [Value.slice.injEq] at h1
        obtain ⟨rfl, hz1', rfl⟩ := h1
        have hpa0 : pa0 = [] := List.eq_nil_of_length_eq_zero (by omega)
        have hx1 : Value.slice none a.length 0 = .slice none 0 0 := by rw [hz1']
        have HX1 := hide hx1
        have HPA0 := hide hpa0
        clear hx1 hz1' hpa0
        simp only [Value.slice.injEq, true_and] at h2
        obtain ⟨rfl, rfl⟩ := h2
        go_wp2_with (first | (at_builtin; refine wpList_append_own_none rfl _ _ 22 rfl w1.heap.size 36 i0 1 Tryz.underlying22 hi0 (.slice (some ⟨w1.heap.size, 0, none⟩) 0 0) 0 [] rfl hE0 HX1.out ?_) | (at_builtin; refine wpList_append_own_at _ rfl _ _ 22 rfl w1.heap.size 36 i0 _ 1 24 Tryz.underlying22 hi0 hz0 hz1 hz2 rfl (by decide) (.slice (some ⟨w1.heap.size, 0, none⟩) 0 0) 0 [] rfl hE0 bd b.length bc (vals pb0) rfl (by rw [vals_length, hlb1, Nat.mul_one]) (fun j u hj => keep_cell gXw (hcb bd _ _ rfl j u hj)) (one_vals HLB.out) (by unfold maxLen; omega) (by omega) hs0 ?_; intro v5 w5 hown5 hg5 _ _; obtain ⟨vo5, vc5, hv5⟩ := own_shape hown5; subst hv5; have HW5 := hide hown5; have HG5 := hide hg5; clear hown5 hg5))
        go_meet
        refine ⟨Below.trans gX0' ((Below.refl _ _).grown HG5.out hs0 (fun k hk => (hE0.lt k hk).1)), ?_⟩
        unfold rowT
        rw [List.length_append, vals_append, hla1, hlb1]
        have h5 := HW5.out
        have hz : a.length = 0 := by rw [← hla1, HPA0.out]; rfl
        rw [HPA0.out, hz]
        simpa [vals] using h5
    · rcases HSB.out with h2 | ⟨bd, cp2, h2⟩
      · skip
        simp only [Value.slice.injEq, true_and] at h1
        obtain ⟨rfl, rfl⟩ := h1
        have hn1 : ∀ j u, (vals pa0)[j]? = some u → X0.cell? (ad.add j) = some u := fun j u hj => keep_cell (HG1.out.trans gX0') (hca ad _ _ rfl j u hj)
        simp only [Value.slice.injEq] at h2
        obtain ⟨rfl, hz2', rfl⟩ := h2
        have hpb0 : pb0 = [] := List.eq_nil_of_length_eq_zero (by omega)
        have hx2 : Value.slice none b.length 0 = .slice none 0 0 := by rw [hz2']
        have HX2 := hide hx2
        have HPB0 := hide hpb0
        clear hx2 hz2' hpb0
        go_wp2_with (first | (at_builtin; refine wpList_append_own_at _ rfl _ _ 22 rfl w1.heap.size 36 i0 _ 1 24 Tryz.underlying22 hi0 hz0 hz1 hz2 rfl (by decide) (.slice (some ⟨w1.heap.size, 0, none⟩) 0 0) 0 [] rfl hE0 ad a.length ac (vals pa0) rfl (by rw [vals_length, hla1, Nat.mul_one]) hn1 (one_vals HLA.out) (by unfold maxLen; omega) (by omega) hs0 ?_; intro v4 w4 hown4 hg4 _ _; rw [Nat.zero_add, List.nil_append] at hown4; obtain ⟨vo4, vc4, hv4⟩ := own_shape hown4; subst hv4; have HW4 := hide hown4; have HG4 := hide hg4; clear hown4 hg4) | (at_builtin; refine wpList_append_own_none rfl _ _ 22 rfl w1.heap.size 36 i0 1 Tryz.underlying22 hi0 (.slice vo4 a.length vc4) a.length (vals pa0) rfl HW4.out HX2.out ?_))
        go_meet
        refine ⟨(Below.trans gX0' ((Below.refl _ _).grown HG4.out hs0 (fun k hk => (hE0.lt k hk).1))), ?_⟩
        unfold rowT
        rw [HPB0.out] 
        simpa [vals, hla1] using HW4.out
      · skip
        simp only [Value.slice.injEq, true_and] at h1
        obtain ⟨rfl, rfl⟩ := h1
        have hn1 : ∀ j u, (vals pa0)[j]? = some u → X0.cell? (ad.add j) = some u := fun j u hj => keep_cell (HG1.out.trans gX0') (hca ad _ _ rfl j u hj)
        simp only [Value.slice.injEq, true_and] at h2
        obtain ⟨rfl, rfl⟩ := h2
        go_wp2_with (first | (at_builtin; refine wpList_append_own_at _ rfl _ _ 22 rfl w1.heap.size 36 i0 _ 1 24 Tryz.underlying22 hi0 hz0 hz1 hz2 rfl (by decide) (.slice (some ⟨w1.heap.size, 0, none⟩) 0 0) 0 [] rfl hE0 ad a.length ac (vals pa0) rfl (by rw [vals_length, hla1, Nat.mul_one]) hn1 (one_vals HLA.out) (by unfold maxLen; omega) (by omega) hs0 ?_; intro v4 w4 hown4 hg4 _ _; rw [Nat.zero_add, List.nil_append] at hown4; obtain ⟨vo4, vc4, hv4⟩ := own_shape hown4; subst hv4; have HW4 := hide hown4; have HG4 := hide hg4; clear hown4 hg4) | (at_builtin; refine wpList_append_own_at _ rfl _ _ 22 rfl w1.heap.size 36 i0 _ 1 24 Tryz.underlying22 hi0 hz0 hz1 hz2 rfl (by decide) (.slice vo4 a.length vc4) a.length (vals pa0) rfl HW4.out bd b.length bc (vals pb0) rfl (by rw [vals_length, hlb1, Nat.mul_one]) (fun j u hj => keep_cell (HG1.out.trans (Below.trans gX0' ((Below.refl _ _).grown HG4.out hs0 (fun k hk => (hE0.lt k hk).1)))) (hcb bd _ _ rfl j u hj)) (one_vals HLB.out) (by unfold maxLen; omega) (by omega) (Nat.le_trans hs0 HG4.out.size) ?_; intro v5 w5 hown5 hg5 _ _; obtain ⟨vo5, vc5, hv5⟩ := own_shape hown5; subst hv5; have HW5 := hide hown5; have HG5 := hide hg5; clear hown5 hg5))
        go_meet
        refine ⟨Below.trans (Below.trans gX0' ((Below.refl _ _).grown HG4.out hs0 (fun k hk => (hE0.lt k hk).1))) ((Below.refl _ _).grown HG5.out (Nat.le_trans hs0 HG4.out.size) (fun k hk => (HW4.out.lt k hk).1)), ?_⟩
        unfold rowT
        rw [List.length_append, vals_append, hla1, hlb1]
        simpa using HW5.out
  case rest =>
  obtain ⟨hgc, hrc⟩ := hcut
  have HGC1 := hide hgc
  have HGC : Hid (Grow w wc) := hide (HG1.out.trans hgc)
  have HRC := hide hrc
  obtain ⟨co, cc, hc10⟩ := own_shape hrc
  clear hgc hrc
  subst hc10
  have hlab : (pa0 ++ pb0).length ≤ 2097152 := by rw [List.length_append, hla1, hlb1]; omega
  have HTB : Hid (tgts (pa0 ++ pb0) = a ++ b) := hide (by rw [tgts_append, HPA.out, HPB.out])
  have HLAB : Hid (∀ p ∈ pa0 ++ pb0, readsLabels w w.heap.size p.2 p.1) := hide fun p hp => by
    rcases List.mem_append.1 hp with hp | hp
    · exact HLA.out p hp
    · exact HLB.out p hp
  have HLK : Hid (∀ p ∈ pa0 ++ pb0, okTgt p.1) := hide fun p hp => by
    have h1 : p.1 ∈ a ++ b := by rw [← HTB.out]; exact tgts_mem hp
    rcases List.mem_append.1 h1 with h | h
    · exact HOA.out.2 _ h
    · exact HOB.out.2 _ h
  have HEV : Hid (E = if M = 0 then firstT (a ++ b) else M) := hide (by
    rw [← HE.out, listsErr_pair, ← HM.out]
    by_cases hm : 100 < a.length ∨ 100 < b.length
    · simp [hm]
    · simp [hm])
  have HM2 : Hid (M = 0 ∨ M = 2) := hide (by rw [← HM.out]; by_cases hm : 100 < a.length ∨ 100 < b.length <;> simp [hm])
  obtain ⟨pab, HAB⟩ : ∃ pab, Hid (pa0 ++ pb0 = pab) := ⟨_, hide rfl⟩
  rw [HAB.out] at HRC hlab HTB HLAB HLK ⊢
  go_upto_block 0 with fail
  go_cut [9] (fun s9 wx => s9 = .int .i64 E ∧ Grow wc wx)
  case first =>
    go_wp2_with fail
    go_loopw [11, 9] (fun iv ev wr => ∃ (i W9 : Nat), i ≤ pab.length ∧ iv = .int .i64 i ∧ ev = .int .i64 W9 ∧ Hid (W9 ≠ 0 → E = W9) ∧ Hid (W9 = 0 → M = 0 ∧ ∀ j (hj : j < pab.length), j < i → checkB pab[j].1 = 0) ∧ Hid (Grow wc wr)) (fun iv _ _ => pab.length - (intOf iv).toNat)
    case atStart => exact ⟨0, M, by omega, rfl, rfl, hide (fun h => by rw [HEV.out, if_neg h]), hide (fun h => ⟨h, fun j hj h => by omega⟩), hide (Grow.refl _)⟩
    case round =>
      obtain ⟨i, W9, hi, rfl, rfl, HN0, HN1, HGr⟩ := hrel
      by_cases hw9 : W9 = 0
      · obtain ⟨hM0, hall⟩ := HN1.out hw9
        have HALL := hide hall
        have HM0 := hide hM0
        subst hw9
        clear hM0 hall
        by_cases hlt : i < pab.length
        · have hlti : (i : Int) < (pab.length : Int) := by omega
          have hltd : decide (i < pab.length) = true := decide_eq_true hlt
          obtain ⟨g, cap, hv0, hcap, hgB, hgl, c0⟩ := HRC.out.cell hlt
          simp only [Value.slice.injEq, true_and] at hv0
          obtain ⟨rfl, rfl⟩ := hv0
          have e0 := (HGr.out.cell (p := ⟨g, i, none⟩) hgl).trans c0
          have hp := HLAB.out _ (List.getElem_mem hlt)
          have hgw : Grow w wr := HGC.out.trans HGr.out
          obtain ⟨C, HC⟩ : ∃ C, Hid (checkB pab[i].1 = C) := ⟨_, hide rfl⟩
          have hok := HLK.out _ (List.getElem_mem hlt)
          have hcl := rCheckLabels_any wr pab[i].2 pab[i].1 (readsLabels_mono (readsLabels_below hp hgw) hgw.size) hok.1 hok.2
          rw [HC.out] at hcl
          have HCL := hide hcl
          obtain ⟨pv, hpv⟩ : ∃ pv, pab[i].2 = pv := ⟨_, rfl⟩
          obtain ⟨po, pc, hpo⟩ := readsLabels_len hp
          rw [hpv] at e0 hpo HCL
          generalize pab[i].1.length = np at hpo
          subst hpo
          clear c0 hp hok hcl hpv hgw
          go_wp2_with fail
          refine HCL.out.mono ?_
          rintro e w3 ⟨rfl, n, rfl⟩
          have HG3 : Hid (Grow wc (wr.drewN n)) := hide (HGr.out.trans (growF_drew _ _))
          go_wp2
          go_roundw
          case rel => exact ⟨i + 1, C, by omega, by go_num, by go_num, hide (fun h => by
              rw [HEV.out, if_pos HM0.out, ← HC.out, ← HTB.out]
              have := firstT_at (l := tgts pab) (k := i) (by rw [tgts_length]; exact hlt) (fun j hj hji => by have := HALL.out j (by rw [tgts_length] at hj; exact hj) hji; simpa [tgts] using this) (by have hh : checkB pab[i].1 ≠ 0 := (by rw [HC.out]; exact h); simpa [tgts] using hh)
              rw [this]; simp [tgts]), hide (fun h => ⟨HM0.out, fun j hj hji => by
              by_cases e : j = i
              · subst e; rw [HC.out]; exact h
              · exact HALL.out j hj (by omega)⟩), HG3⟩
          case measure => simp [intOf]; omega
        · have hlti : ¬ (i : Int) < (pab.length : Int) := by omega
          have hltd : decide (i < pab.length) = false := decide_eq_false hlt
          have hE0 : E = 0 := by
            rw [HEV.out, if_pos HM0.out, ← HTB.out]
            exact firstT_zero fun j hj => by have := HALL.out j (by rw [tgts_length] at hj; exact hj) (by rw [tgts_length] at hj; omega); simpa [tgts] using this
          subst hE0
          go_wp2
          go_meet
          exact ⟨rfl, HGr.out⟩
      · have hE := HN0.out hw9
        have hwi : ((W9 : Int) == 0) = false := by simp only [beq_eq_false_iff_ne, ne_eq]; omega
        subst hE
        by_cases hlt : i < pab.length
        · have hltd : decide (i < pab.length) = true := decide_eq_true hlt
          go_wp2
          go_meet
          exact ⟨rfl, HGr.out⟩
        · have hltd : decide (i < pab.length) = false := decide_eq_false hlt
          go_wp2
          go_meet
          exact ⟨rfl, HGr.out⟩
  case rest =>
  obtain ⟨rfl, hgd⟩ := hcut
  have HGD : Hid (Grow w wc) := hide (HGC.out.trans hgd)
  have HGD1 : Hid (Grow w1 wc) := hide (HGC1.out.trans hgd)
  clear hgd
  by_cases h0 : E = 0
  · obtain ⟨l1, l2, k1, k2⟩ := listsErr_two_zero (HE.out.trans h0)
    have HDE : Hid (diffErr a b = if a.Nodup ∧ b.Nodup then 0 else 6) := hide (by unfold diffErr; rw [if_pos (HE.out.trans h0)])
    have HK1 := hide k1
    have HK2 := hide k2
    subst h0
    have hS2 := sortedTgts_any wc (.slice ao a.length ac) a ((HA.out.keep HGD.out).more HGD.out.size) l1 k1
    clear k1 k2
    by_cases n1 : a.Nodup
    · rw [if_pos n1] at hS2
      have S2 := hide hS2
      have N1 := hide n1
      clear hS2 n1
      go_wp2_with fail
      refine S2.out.mono ?_
      rintro e w4 ⟨hg4, oa, rfl, hs⟩
      obtain ⟨pa, hra, hia, hlpa⟩ := hs N1.out
      have HG4 : Hid (Grow w w4) := hide (HGD.out.trans hg4)
      have HG45 : Hid (Grow wc w4) := hide hg4
      have HRA := hide hra
      have HIA := hide hia
      have HLPA := hide hlpa
      have S3 := sortedTgts_any w4 (.slice bo b.length bc) b ((HB.out.keep HG4.out).more HG4.out.size) l2 HK2.out
      obtain ⟨oa1, oa2, hoa⟩ := own_shape hra
      have HPAL : Hid (pa.length = a.length) := hide (by rw [← tgts_length, hia.1.length_eq])
      clear hs hra hia hlpa hg4 S2
      subst hoa
      by_cases n2 : b.Nodup
      · rw [if_pos n2] at S3
        have S3 := hide S3
        have N2 := hide n2
        have HDE0 : Hid (diffErr a b = 0) := hide (by rw [HDE.out, if_pos ⟨N1.out, n2⟩])
        clear n2
        go_wp2_with fail
        refine S3.out.mono ?_
        rintro e w5 ⟨hg5, ob, rfl, hs⟩
        obtain ⟨pb, hrb, hib, hlpb⟩ := hs N2.out
        have HG5 : Hid (Grow w w5) := hide (HG4.out.trans hg5)
        have HG55 : Hid (Grow w4 w5) := hide hg5
        have HRA5 := hide (own_growF2 HRA.out hg5)
        have HLPA5 : Hid (∀ p ∈ pa, readsLabels w5 w5.heap.size p.2 p.1) := hide (read_back HLPA.out (HG45.out.trans hg5) (HG45.out.trans hg5).size)
        have HLPB5 : Hid (∀ p ∈ pb, readsLabels w5 w5.heap.size p.2 p.1) := hide (read_back hlpb hg5 hg5.size)
        have HRB5 := hide hrb
        have HIB := hide hib
        obtain ⟨ob1, ob2, hob⟩ := own_shape hrb
        have HPBL : Hid (pb.length = b.length) := hide (by rw [← tgts_length, hib.1.length_eq])
        have SB := hide (findBegun_any w5)
        clear hs hrb hib hlpb hg5 S3 HRA HLPA
        subst hob
        -- what comes
        have hd0 := HD0.out
        rw [if_pos HDE0.out] at hd0
        obtain ⟨qa, qb, i1, i2, hd⟩ := hd0
        obtain rfl := sorted_uniq i1 HIA.out
        obtain rfl := sorted_uniq i2 HIB.out
        rw [part_filter (sorted_strict HIA.out N1.out) (sorted_strict HIB.out N2.out)] at hd
        have HDD := hide hd
        clear i1 i2 hd
        rw [HDE0.out]
        go_wp2_with fail
        refine SB.out.mono ?_
        rintro e w6 ⟨rfl, hg6⟩
        have HG6 : Hid (Grow w w6) := hide (HG5.out.trans hg6)
        have HG56 : Hid (Grow w4 w6) := hide (HG55.out.trans hg6)
        have HRA6 : Hid (rowT w6 wc.heap.size (.slice oa1 pa.length oa2) pa) := hide (own_growF2 HRA5.out hg6)
        have HRB6 : Hid (rowT w6 w4.heap.size (.slice ob1 pb.length ob2) pb) := hide (own_growF2 HRB5.out hg6)
        have HLPA6 : Hid (∀ p ∈ pa, readsLabels w6 w6.heap.size p.2 p.1) := hide (read_back HLPA5.out hg6 hg6.size)
        have HLPB6 : Hid (∀ p ∈ pb, readsLabels w6 w6.heap.size p.2 p.1) := hide (read_back HLPB5.out hg6 hg6.size)
        have HTPA : Hid (readsTgts w6 w6.heap.size (.slice oa1 pa.length oa2) (tgts pa)) := hide (HRA6.out.reads HLPA6.out)
        have HTPB : Hid (readsTgts w6 w6.heap.size (.slice ob1 pb.length ob2) (tgts pb)) := hide (HRB6.out.reads HLPB6.out)
        have hka : ∀ x ∈ tgts pa, x.length ≤ 20 := fun x hx => (lens_right (HK1.out x (HIA.out.1.mem_iff.1 hx))).1
        have hkb : ∀ x ∈ tgts pb, x.length ≤ 20 := fun x hx => (lens_right (HK2.out x (HIB.out.1.mem_iff.1 hx))).1
        have HKA := hide hka
        have HKB := hide hkb
        have la1 : pa.length ≤ 100 := by have := HPAL.out; omega
        have lb1 : pb.length ≤ 100 := by have := HPBL.out; omega
        clear hg6 SB HRA5 HRB5 HLPA5 HLPB5 hka hkb
        go_upto_block 2 with fail
        go_cut [15, 16] (fun vg vs wx => ∃ pg pst, Grow w6 wx ∧ rowT wx w6.heap.size vg pg ∧ rowT wx w6.heap.size vs pst ∧ tgts pg = (tgts pa).filter (fun x => !decide (x ∈ tgts pb)) ∧ tgts pst = (tgts pa).filter (fun x => decide (x ∈ tgts pb)) ∧ (∀ p ∈ pg, p ∈ pa) ∧ (∀ p ∈ pst, p ∈ pa) ∧ pg.length ≤ 100 ∧ pst.length ≤ 100)
        case first =>
         go_wp2_with fail
         go_loopw [15, 16, 18] (fun vg vs iv wr => ∃ (i : Nat) (pg pst : List TP), i ≤ pa.length ∧ iv = .int .i64 i ∧ Hid (rowT wr w6.heap.size vg pg) ∧ Hid (rowT wr w6.heap.size vs pst) ∧ Hid (apartV vg vs) ∧ Hid (tgts pg = ((tgts pa).take i).filter (fun x => !decide (x ∈ tgts pb))) ∧ Hid (tgts pst = ((tgts pa).take i).filter (fun x => decide (x ∈ tgts pb))) ∧ Hid ((∀ p ∈ pg, p ∈ pa) ∧ ∀ p ∈ pst, p ∈ pa) ∧ pg.length ≤ i ∧ pst.length ≤ i ∧ Hid (Grow w6 wr)) (fun _ _ iv _ => pa.length - (intOf iv).toNat)
         case atStart => exact ⟨0, [], [], by omega, rfl, hide (World.ownsRow_nil _ _ _ _), hide (World.ownsRow_nil _ _ _ _), hide apartV.nil, hide rfl, hide rfl, hide ⟨fun p h => absurd h (by simp), fun p h => absurd h (by simp)⟩, by simp, by simp, hide (Grow.refl _)⟩
         case round =>
          obtain ⟨i, pg, pst, hi, rfl, HRG, HRS, HAP, HTG, HTS, HIN, lg, ls, HGr⟩ := hrel
          obtain ⟨vg1, vg2, hvg⟩ := own_shape HRG.out
          obtain ⟨vs1, vs2, hvs⟩ := own_shape HRS.out
          subst hvg hvs
          rename World => wl
          by_cases hlt : i < pa.length
          · have hlti : (i : Int) < (pa.length : Int) := by omega
            obtain ⟨g, cap, hv0, hcap, hgB, hgl, c0⟩ := HRA6.out.cell hlt
            simp only [Value.slice.injEq, true_and] at hv0
            obtain ⟨rfl, rfl⟩ := hv0
            have e0 := (HGr.out.cell (p := ⟨g, i, none⟩) hgl).trans c0
            have hpm := List.getElem_mem hlt
            have hpl := HLPA6.out _ hpm
            obtain ⟨FF, HFF⟩ : ∃ FF, Hid (decide (pa[i].1 ∈ tgts pb) = FF) := ⟨_, hide rfl⟩
            have hhas := has_any wl (.slice ob1 pb.length ob2) pa[i].2 (tgts pb) pa[i].1 ((HTPB.out.keep HGr.out).more HGr.out.size) (readsLabels_mono (readsLabels_below hpl HGr.out) HGr.out.size) (by rw [tgts_length]; omega) (fun y hy => by have := HKB.out y hy; omega) (by have := HKA.out _ (tgts_mem hpm); omega)
            rw [HFF.out] at hhas
            have HHAS := hide hhas
            obtain ⟨p, HP⟩ : ∃ p, Hid (pa[i] = p) := ⟨_, hide rfl⟩
            rw [HP.out] at e0 hpm hpl HHAS HFF
            obtain ⟨po, pc, hpo⟩ := readsLabels_len hpl
            have hone : ∀ u ∈ [p.2], u.oneCell' = true := by intro u hu; rw [List.mem_singleton] at hu; rw [hu, hpo]; rfl
            have HONE := hide hone
            have HPM := hide hpm
            have HE0 := hide e0
            have HPO := hide hpo
            have htk : (tgts pa).take (i + 1) = (tgts pa).take i ++ [p.1] := by
              have h1 : i < (tgts pa).length := by rw [tgts_length]; exact hlt
              rw [List.take_succ_eq_append_getElem h1]
              congr 1
              simp [tgts, HP.out]
            have HTK := hide htk
            obtain ⟨pv, hpv⟩ : ∃ pv, p.2 = pv := ⟨_, rfl⟩
            have HPV := hide hpv
            rw [hpv] at e0 hpo HHAS
            generalize p.1.length = np at hpo
            subst hpo
            clear c0 hpm hpl hhas hone hpv htk
            cases FF with
            | true =>
              go_wp2_with fail
              refine HHAS.out.mono ?_
              rintro e w7 ⟨rfl, hg7⟩
              have HG7 : Hid (Grow wl w7) := hide hg7
              have e7 := (hg7.cell (p := ⟨g, i, none⟩) (Nat.lt_of_lt_of_le hgl HGr.out.size)).trans e0
              have hs7 : w6.heap.size ≤ w7.heap.size := Nat.le_trans HGr.out.size hg7.size
              clear hg7 e0
              go_wp2_with (at_builtin; refine wpList_append_own_at _ rfl _ _ 22 rfl w6.heap.size 36 i0 _ 1 24 Tryz.underlying22 hi0 hz0 hz1 hz2 rfl (by decide) (.slice vs1 pst.length vs2) pst.length (vals pst) rfl (own_growF2 HRS.out (HG7.out.alloc _)) ⟨w7.heap.size, 0, none⟩ 1 1 [.slice po np pc] rfl rfl (cell_one_new _ _ _) (by have := HONE.out; rw [HPV.out] at this; exact this) (by unfold maxLen; omega) (by omega) (by simp; omega) ?_; intro v8 w8 hown8 hgrow8 _ hat8)
              obtain ⟨o8, c8, hv8⟩ := own_shape hown8
              have HW8 : Hid (rowT w8 w6.heap.size v8 (pst ++ [p])) := hide (by unfold rowT; rw [List.length_append, vals_append, vals_one, HPV.out]; exact hown8)
              have HRG8 : Hid (rowT w8 w6.heap.size (.slice vg1 pg.length vg2) pg) := hide (rowT.grown (own_growF2 HRG.out (HG7.out.alloc (.cells #[.slice po np pc] 36))) hgrow8 HAP.out)
              have HAP8 : Hid (apartV (.slice vg1 pg.length vg2) v8) := hide (apartV.moved (own_growF2 HRG.out (HG7.out.alloc (.cells #[.slice po np pc] 36))) HAP.out (Nat.le_refl _) hat8)
              have HG8 : Hid (Grow w6 w8) := hide (Below.trans (HGr.out.trans (HG7.out.alloc (.cells #[.slice po np pc] 36))) ((Below.refl _ _).grown hgrow8 (by simp; omega) (fun k hk => (HRS.out.lt k hk).1)))
              clear hown8 hgrow8 hat8 e7
              subst hv8
              go_wp2
              go_roundw
              case rel => exact ⟨i + 1, pg, pst ++ [p], by omega, by go_num, HRG8, HW8, HAP8, hide (by rw [HTK.out, List.filter_append, ← HTG.out]; simp [of_decide_eq_true HFF.out]), hide (by rw [HTK.out, List.filter_append, ← HTS.out, tgts_append, show [p.1].filter (fun x => decide (x ∈ tgts pb)) = [p.1] by simp [of_decide_eq_true HFF.out]]; rfl), hide ⟨HIN.out.1, fun q hq => by
                rcases List.mem_append.1 hq with hq | hq
                · exact HIN.out.2 q hq
                · rw [List.mem_singleton] at hq; subst hq; exact HPM.out⟩, by omega, by simp; omega, HG8⟩
              case measure => simp [intOf]; omega
            | false =>
              go_wp2_with fail
              refine HHAS.out.mono ?_
              rintro e w7 ⟨rfl, hg7⟩
              have HG7 : Hid (Grow wl w7) := hide hg7
              have e7 := (hg7.cell (p := ⟨g, i, none⟩) (Nat.lt_of_lt_of_le hgl HGr.out.size)).trans e0
              have hs7 : w6.heap.size ≤ w7.heap.size := Nat.le_trans HGr.out.size hg7.size
              clear hg7 e0
              go_wp2_with (at_builtin; refine wpList_append_own_at _ rfl _ _ 22 rfl w6.heap.size 36 i0 _ 1 24 Tryz.underlying22 hi0 hz0 hz1 hz2 rfl (by decide) (.slice vg1 pg.length vg2) pg.length (vals pg) rfl (own_growF2 HRG.out (HG7.out.alloc _)) ⟨w7.heap.size, 0, none⟩ 1 1 [.slice po np pc] rfl rfl (cell_one_new _ _ _) (by have := HONE.out; rw [HPV.out] at this; exact this) (by unfold maxLen; omega) (by omega) (by simp; omega) ?_; intro v8 w8 hown8 hgrow8 _ hat8)
              obtain ⟨o8, c8, hv8⟩ := own_shape hown8
              have HW8 : Hid (rowT w8 w6.heap.size v8 (pg ++ [p])) := hide (by unfold rowT; rw [List.length_append, vals_append, vals_one, HPV.out]; exact hown8)
              have HRS8 : Hid (rowT w8 w6.heap.size (.slice vs1 pst.length vs2) pst) := hide (rowT.grown (own_growF2 HRS.out (HG7.out.alloc (.cells #[.slice po np pc] 36))) hgrow8 HAP.out.symm)
              have HAP8 : Hid (apartV v8 (.slice vs1 pst.length vs2)) := hide ((apartV.moved (own_growF2 HRS.out (HG7.out.alloc (.cells #[.slice po np pc] 36))) HAP.out.symm (Nat.le_refl _) hat8).symm)
              have HG8 : Hid (Grow w6 w8) := hide (Below.trans (HGr.out.trans (HG7.out.alloc (.cells #[.slice po np pc] 36))) ((Below.refl _ _).grown hgrow8 (by simp; omega) (fun k hk => (HRG.out.lt k hk).1)))
              clear hown8 hgrow8 hat8 e7
              subst hv8
              go_wp2
              go_roundw
              case rel => exact ⟨i + 1, pg ++ [p], pst, by omega, by go_num, HW8, HRS8, HAP8, hide (by rw [HTK.out, List.filter_append, ← HTG.out, tgts_append, show [p.1].filter (fun x => !decide (x ∈ tgts pb)) = [p.1] by simp [of_decide_eq_false HFF.out]]; rfl), hide (by rw [HTK.out, List.filter_append, ← HTS.out]; simp [of_decide_eq_false HFF.out]), hide ⟨fun q hq => by
                rcases List.mem_append.1 hq with hq | hq
                · exact HIN.out.1 q hq
                · rw [List.mem_singleton] at hq; subst hq; exact HPM.out, HIN.out.2⟩, by simp; omega, by omega, HG8⟩
              case measure => simp [intOf]; omega
          · obtain rfl : i = pa.length := by omega
            have hnl : ¬ ((pa.length : Int) < (pa.length : Int)) := by omega
            rw [← tgts_length pa, List.take_length] at HTG HTS
            go_wp2
            go_meet
            exact ⟨pg, pst, HGr.out, HRG.out, HRS.out, HTG.out, HTS.out, HIN.out.1, HIN.out.2, by omega, by omega⟩
        case rest =>
        obtain ⟨pg, pst, hg7, hrg, hrs, htg, hts, hin1, hin2, hlg, hls⟩ := hcut
        have HG7 : Hid (Grow w6 wc) := hide hg7
        have HRG := hide hrg
        have HRS := hide hrs
        have HTG := hide htg
        have HTS := hide hts
        have HIN1 := hide hin1
        have HIN2 := hide hin2
        obtain ⟨vg1, vg2, hvg⟩ := own_shape hrg
        obtain ⟨vs1, vs2, hvs⟩ := own_shape hrs
        subst hvg hvs
        rename World => w7
        clear hg7 hrg hrs htg hts hin1 hin2
        go_upto_block 4 with fail
        go_cut [17] (fun vc wx => ∃ pc, Grow w7 wx ∧ rowT wx w7.heap.size vc pc ∧ tgts pc = (tgts pb).filter (fun x => !decide (x ∈ tgts pa)) ∧ (∀ p ∈ pc, p ∈ pb) ∧ pc.length ≤ 100)
        case first =>
         go_wp2_with fail
         go_loopw [17, 19] (fun vc iv wr => ∃ (i : Nat) (pc : List TP), i ≤ pb.length ∧ iv = .int .i64 i ∧ Hid (rowT wr w7.heap.size vc pc) ∧ Hid (tgts pc = ((tgts pb).take i).filter (fun x => !decide (x ∈ tgts pa))) ∧ Hid (∀ p ∈ pc, p ∈ pb) ∧ pc.length ≤ i ∧ Hid (Grow w7 wr)) (fun _ iv _ => pb.length - (intOf iv).toNat)
         case atStart => exact ⟨0, [], by omega, rfl, hide (World.ownsRow_nil _ _ _ _), hide rfl, hide (fun p h => absurd h (by simp)), by simp, hide (Grow.refl _)⟩
         case round =>
          obtain ⟨i, pc, hi, rfl, HRC7, HTC, HIN, lc, HGr⟩ := hrel
          obtain ⟨vc1, vc2, hvc⟩ := own_shape HRC7.out
          subst hvc
          rename World => wl
          have HGl : Hid (Grow w6 wl) := hide (HG7.out.trans HGr.out)
          by_cases hlt : i < pb.length
          · have hlti : (i : Int) < (pb.length : Int) := by omega
            obtain ⟨g, cap, hv0, hcap, hgB, hgl, c0⟩ := HRB6.out.cell hlt
            simp only [Value.slice.injEq, true_and] at hv0
            obtain ⟨rfl, rfl⟩ := hv0
            have e0 := (HGl.out.cell (p := ⟨g, i, none⟩) hgl).trans c0
            have hpm := List.getElem_mem hlt
            have hpl := HLPB6.out _ hpm
            obtain ⟨FF, HFF⟩ : ∃ FF, Hid (decide (pb[i].1 ∈ tgts pa) = FF) := ⟨_, hide rfl⟩
            have hhas := has_any wl (.slice oa1 pa.length oa2) pb[i].2 (tgts pa) pb[i].1 ((HTPA.out.keep HGl.out).more HGl.out.size) (readsLabels_mono (readsLabels_below hpl HGl.out) HGl.out.size) (by rw [tgts_length]; omega) (fun y hy => by have := HKA.out y hy; omega) (by have := HKB.out _ (tgts_mem hpm); omega)
            rw [HFF.out] at hhas
            have HHAS := hide hhas
            obtain ⟨p, HP⟩ : ∃ p, Hid (pb[i] = p) := ⟨_, hide rfl⟩
            rw [HP.out] at e0 hpm hpl HHAS HFF
            obtain ⟨po, pq, hpo⟩ := readsLabels_len hpl
            have hone : ∀ u ∈ [p.2], u.oneCell' = true := by intro u hu; rw [List.mem_singleton] at hu; rw [hu, hpo]; rfl
            have HONE := hide hone
            have HPM := hide hpm
            have HPO := hide hpo
            have htk : (tgts pb).take (i + 1) = (tgts pb).take i ++ [p.1] := by
              have h1 : i < (tgts pb).length := by rw [tgts_length]; exact hlt
              rw [List.take_succ_eq_append_getElem h1]
              congr 1
              simp [tgts, HP.out]
            have HTK := hide htk
            obtain ⟨pv, hpv⟩ : ∃ pv, p.2 = pv := ⟨_, rfl⟩
            have HPV := hide hpv
            rw [hpv] at e0 hpo HHAS
            generalize p.1.length = np at hpo
            subst hpo
            clear c0 hpm hpl hhas hone hpv htk
            cases FF with
            | true =>
              go_wp2_with fail
              refine HHAS.out.mono ?_
              rintro e w8 ⟨rfl, hg8⟩
              have HG8 : Hid (Grow w7 w8) := hide (HGr.out.trans hg8)
              have HRC8 := hide (own_growF2 HRC7.out hg8)
              clear hg8 e0
              go_wp2
              go_roundw
              case rel => exact ⟨i + 1, pc, by omega, by go_num, HRC8, hide (by rw [HTK.out, List.filter_append, ← HTC.out, show [p.1].filter (fun x => !decide (x ∈ tgts pa)) = [] by simp [of_decide_eq_true HFF.out], List.append_nil]), HIN, by omega, HG8⟩
              case measure => simp [intOf]; omega
            | false =>
              go_wp2_with fail
              refine HHAS.out.mono ?_
              rintro e w8 ⟨rfl, hg8⟩
              have HG8 : Hid (Grow wl w8) := hide hg8
              have e8 := (hg8.cell (p := ⟨g, i, none⟩) (Nat.lt_of_lt_of_le hgl HGl.out.size)).trans e0
              have hs8 : w7.heap.size ≤ w8.heap.size := Nat.le_trans HGr.out.size hg8.size
              clear hg8 e0
              go_wp2_with (at_builtin; refine wpList_append_own_at _ rfl _ _ 22 rfl w7.heap.size 36 i0 _ 1 24 Tryz.underlying22 hi0 hz0 hz1 hz2 rfl (by decide) (.slice vc1 pc.length vc2) pc.length (vals pc) rfl (own_growF2 HRC7.out (HG8.out.alloc _)) ⟨w8.heap.size, 0, none⟩ 1 1 [.slice po np pq] rfl rfl (cell_one_new _ _ _) (by have := HONE.out; rw [HPV.out] at this; exact this) (by unfold maxLen; omega) (by omega) (by simp; omega) ?_; intro v9 w9 hown9 hgrow9 _ hat9)
              obtain ⟨o9, c9, hv9⟩ := own_shape hown9
              have HW9 : Hid (rowT w9 w7.heap.size v9 (pc ++ [p])) := hide (by unfold rowT; rw [List.length_append, vals_append, vals_one, HPV.out]; exact hown9)
              have HG9 : Hid (Grow w7 w9) := hide (Below.trans (HGr.out.trans (HG8.out.alloc (.cells #[.slice po np pq] 36))) ((Below.refl _ _).grown hgrow9 (by simp; omega) (fun k hk => (HRC7.out.lt k hk).1)))
              clear hown9 hgrow9 hat9 e8
              subst hv9
              go_wp2
              go_roundw
              case rel => exact ⟨i + 1, pc ++ [p], by omega, by go_num, HW9, hide (by rw [HTK.out, List.filter_append, ← HTC.out, tgts_append, show [p.1].filter (fun x => !decide (x ∈ tgts pa)) = [p.1] by simp [of_decide_eq_false HFF.out]]; rfl), hide (fun q hq => by
                rcases List.mem_append.1 hq with hq | hq
                · exact HIN.out q hq
                · rw [List.mem_singleton] at hq; subst hq; exact HPM.out), by simp; omega, HG9⟩
              case measure => simp [intOf]; omega
          · obtain rfl : i = pb.length := by omega
            have hnl : ¬ ((pb.length : Int) < (pb.length : Int)) := by omega
            rw [← tgts_length pb, List.take_length] at HTC
            go_wp2
            go_meet
            exact ⟨pc, HGr.out, HRC7.out, HTC.out, HIN.out, by omega⟩
        case rest =>
        obtain ⟨pc, hg8, hrc, htc, hin3, hlc⟩ := hcut
        have HG8 : Hid (Grow w7 wc) := hide hg8
        obtain ⟨vc1, vc2, hvc⟩ := own_shape hrc
        subst hvc
        rename World => w8
        have HG68 : Hid (Grow w6 w8) := hide (HG7.out.trans hg8)
        have HG18 : Hid (Grow w1 w8) := hide (((HGD1.out.trans HG45.out).trans (HG56.out)).trans HG68.out)
        have HGw8 : Hid (Grow w w8) := hide (HG6.out.trans HG68.out)
        have hpa8 : ∀ p ∈ pa, readsLabels w8 w8.heap.size p.2 p.1 := read_back HLPA6.out HG68.out HG68.out.size
        have hpb8 : ∀ p ∈ pb, readsLabels w8 w8.heap.size p.2 p.1 := read_back HLPB6.out HG68.out HG68.out.size
        have RG := hide (rowT.reads (own_growF2 HRG.out hg8) (fun p hp => hpa8 p (HIN1.out p hp)))
        have RS := hide (rowT.reads (own_growF2 HRS.out hg8) (fun p hp => hpa8 p (HIN2.out p hp)))
        have RC := hide (rowT.reads hrc (fun p hp => hpb8 p (hin3 p hp)))
        have HTC := hide htc
        have hdd := HDD.out
        have t1 : d.1 = tgts pg := by rw [hdd, HTG.out]
        have t2 : d.2.1 = tgts pst := by rw [hdd, HTS.out]
        have t3 : d.2.2 = tgts pc := by rw [hdd, HTC.out]
        have R1 := HR1.out
        have R2 := HR2.out
        have R3 := HR3.out
        rw [t1, tgts_length] at R1
        rw [t2, tgts_length] at R2
        rw [t3, tgts_length] at R3
        have R1 := (R1.keep HG18.out).more HG18.out.size
        have R2 := (R2.keep HG18.out).more HG18.out.size
        have R3 := (R3.keep HG18.out).more HG18.out.size
        have HR1 := hide R1
        have HR2 := hide R2
        have HR3 := hide R3
        have hx1 : ∀ x ∈ tgts pg, x.length ≤ 20 := fun x hx => by
          rw [HTG.out] at hx
          exact HKA.out x (List.mem_filter.1 hx).1
        have hx2 : ∀ x ∈ tgts pst, x.length ≤ 20 := fun x hx => by
          rw [HTS.out] at hx
          exact HKA.out x (List.mem_filter.1 hx).1
        have hx3 : ∀ x ∈ tgts pc, x.length ≤ 20 := fun x hx => by
          rw [HTC.out] at hx
          exact HKB.out x (List.mem_filter.1 hx).1
        have HX1 := hide hx1
        have HX2 := hide hx2
        have HX3 := hide hx3
        have S1 := hide (sameTgts_same w8 _ _ _ R1 RG.out (by rw [tgts_length]; omega) HX1.out)
        rw [t1, t2, t3, tgts_length, tgts_length, tgts_length]
        clear hg8 hrc htc hin3 hpa8 hpb8 hdd t1 t2 t3 R1 R2 R3 hx1 hx2 hx3
        go_wp2_with fail
        refine S1.out.mono ?_
        rintro e w9 ⟨rfl, hg9⟩
        have HG9 : Hid (Grow w8 w9) := hide hg9
        have S2 := hide (sameTgts_same w9 _ _ _ ((HR2.out.keep hg9).more hg9.size) ((RS.out.keep hg9).more hg9.size) (by rw [tgts_length]; omega) HX2.out)
        clear hg9 S1
        go_wp2_with fail
        refine S2.out.mono ?_
        rintro e w10 ⟨rfl, hg10⟩
        have HG10 : Hid (Grow w8 w10) := hide (HG9.out.trans hg10)
        have S3 := hide (sameTgts_same w10 _ _ _ ((HR3.out.keep HG10.out).more HG10.out.size) ((RC.out.keep HG10.out).more HG10.out.size) (by rw [tgts_length]; omega) HX3.out)
        clear hg10 S2
        go_wp2_with fail
        refine S3.out.mono ?_
        rintro e w11 ⟨rfl, hg11⟩
        have HG11 : Hid (Grow w w11) := hide ((HGw8.out.trans HG10.out).trans hg11)
        clear hg11 S3
        go_wp2
        go_ret
        exact ⟨rfl, HG11.out⟩
      · -- the second row is no set
        rw [if_neg n2] at S3
        have S3 := hide S3
        have HEQ : Hid (diffErr a b = 6) := hide (by rw [HDE.out, if_neg (fun h => n2 h.2)])
        have HF0 : Hid ((6 : Nat) ≠ 0) := hide (by decide)
        clear n2
        go_wp2_with fail
        refine S3.out.mono ?_
        rintro e w5 ⟨hg5, ob, rfl, -⟩
        have HG5 : Hid (Grow w w5) := hide (HG4.out.trans hg5)
        clear hg5 S3
        -- something is wrong: nothing comes
        have hd0 := HD0.out
        rw [if_neg (by rw [HEQ.out]; exact HF0.out)] at hd0
        have e1 : d.1.length = 0 := by rw [hd0]; rfl
        have e2 : d.2.1.length = 0 := by rw [hd0]; rfl
        have e3 : d.2.2.length = 0 := by rw [hd0]; rfl
        rw [e1, e2, e3]
        have SB := hide (findBegun_any w5)
        rw [HEQ.out]
        have hne0 : (((6 : Nat) : Int) != 0) = true := by first | (simp; done) | (simp; exact HF0.out)
        clear hd0 e1 e2 e3
        go_wp2_with fail
        refine SB.out.mono ?_
        rintro e w8 ⟨rfl, hg8⟩
        have HG8 : Hid (Grow w w8) := hide (HG5.out.trans hg8)
        have SB2 := hide (findBegun_any w8)
        clear hg8 SB
        go_wp2_with fail
        refine SB2.out.mono ?_
        rintro e w9 ⟨rfl, hg9⟩
        have HG9 : Hid (Grow w w9) := hide (HG8.out.trans hg9)
        clear hg9 SB2
        go_wp2
        go_ret
        exact ⟨rfl, HG9.out⟩
    · rw [if_neg n1] at hS2
      have S2 := hide hS2
      have HEQ : Hid (diffErr a b = 6) := hide (by rw [HDE.out, if_neg (fun h => n1 h.1)])
      have HF0 : Hid ((6 : Nat) ≠ 0) := hide (by decide)
      clear hS2 n1
      go_wp2_with fail
      refine S2.out.mono ?_
      rintro e w4 ⟨hg4, oa, rfl, -⟩
      have HG4 : Hid (Grow w w4) := hide (HGD.out.trans hg4)
      clear hg4 S2
      -- something is wrong: nothing comes
      have hd0 := HD0.out
      rw [if_neg (by rw [HEQ.out]; exact HF0.out)] at hd0
      have e1 : d.1.length = 0 := by rw [hd0]; rfl
      have e2 : d.2.1.length = 0 := by rw [hd0]; rfl
      have e3 : d.2.2.length = 0 := by rw [hd0]; rfl
      rw [e1, e2, e3]
      have SB := hide (findBegun_any w4)
      rw [HEQ.out]
      have hne0 : (((6 : Nat) : Int) != 0) = true := by first | (simp; done) | (simp; exact HF0.out)
      clear hd0 e1 e2 e3
      go_wp2_with fail
      refine SB.out.mono ?_
      rintro e w8 ⟨rfl, hg8⟩
      have HG8 : Hid (Grow w w8) := hide (HG4.out.trans hg8)
      have SB2 := hide (findBegun_any w8)
      clear hg8 SB
      go_wp2_with fail
      refine SB2.out.mono ?_
      rintro e w9 ⟨rfl, hg9⟩
      have HG9 : Hid (Grow w w9) := hide (HG8.out.trans hg9)
      clear hg9 SB2
      go_wp2
      go_ret
      exact ⟨rfl, HG9.out⟩
  · have HEQ : Hid (diffErr a b = E) := hide (by unfold diffErr; rw [if_neg (by rw [HE.out]; exact h0), HE.out])
    have HF0 : Hid (E ≠ 0) := hide h0
    have hE1 : ((E : Int) == 0) = false := by simp; exact h0
    -- something is wrong: nothing comes
    have hd0 := HD0.out
    rw [if_neg (by rw [HEQ.out]; exact HF0.out)] at hd0
    have e1 : d.1.length = 0 := by rw [hd0]; rfl
    have e2 : d.2.1.length = 0 := by rw [hd0]; rfl
    have e3 : d.2.2.length = 0 := by rw [hd0]; rfl
    rw [e1, e2, e3]
    have SB := hide (findBegun_any wc)
    rw [HEQ.out]
    have hne0 : ((E : Int) != 0) = true := by first | (simp; done) | (simp; exact HF0.out)
    clear hd0 e1 e2 e3
    go_wp2_with fail
    refine SB.out.mono ?_
    rintro e w8 ⟨rfl, hg8⟩
    have HG8 : Hid (Grow w w8) := hide (HGD.out.trans hg8)
    have SB2 := hide (findBegun_any w8)
    clear hg8 SB
    go_wp2_with fail
    refine SB2.out.mono ?_
    rintro e w9 ⟨rfl, hg9⟩
    have HG9 : Hid (Grow w w9) := hide (HG8.out.trans hg9)
    clear hg9 SB2
    go_wp2
    go_ret
    exact ⟨rfl, HG9.out⟩
end Go.Proofs.YtdlmgkncneifaaaGreat.Fd
