/- 2 texts in one. -/
import Derived.Laws.OwnMore
import Derived.Deep.AppendLies
import Derived.Test.YtmdakfmecfcbhaaGreatProg
import Derived.Test.YtmdakfmecfcbhaaGreatK7e06493
import Derived.Test.YtmdakfmecfcbhaaGreatK85cc7d6
import Derived.Test.YtmdakfmecfcbhaaGreatK6ada7ca
import Derived.Test.YtmdakfmecfcbhaaGreatK3f74fce
import Derived.Test.YtmdakfmecfcbhaaGreatK14d8a0b
import Derived.Test.YtmdakfmecfcbhaaGreatKf7a2202
import Derived.Test.YtmdakfmecfcbhaaGreatKbe49eb6
import Derived.Test.YtmdakfmecfcbhaaGreatK0be3e27
import Derived.BigQuiet
import Derived.Maps.AppendAt
import Derived.Shelf.RegionOpenPlain
set_option linter.unusedVariables false
set_option linter.unusedSimpArgs false
namespace Go.Proofs.YtmdakfmecfcbhaaGreat.Tk
open Go.RowKit Lb
attribute [local go_sem] bs_size bs_toList bs_append bs_get bs_extract
/-- A series of a store, and the values of its labels and of its samples. -/
abbrev Pt := Ser × Value × Value
def serC : List Pt → List Value
  | [] => []
  | p :: l => p.2.1 :: p.2.2 :: serC l
theorem serC_length (l : List Pt) : (serC l).length = l.length * 2 := by
  induction l with
  | nil => rfl
  | cons x l ih => show (serC l).length + 1 + 1 = _; rw [ih, List.length_cons]; omega
theorem serC_append (l r : List Pt) : serC (l ++ r) = serC l ++ serC r := by
  induction l with
  | nil => rfl
  | cons x l ih => show _ :: _ :: serC (l ++ r) = _; rw [ih]; rfl
theorem serC_at : ∀ (l : List Pt) (i : Nat) (h : i < l.length), (serC l)[i * 2]? = some l[i].2.1 ∧ (serC l)[i * 2 + 1]? = some l[i].2.2
  | [], i, h => absurd h (by simp)
  | p :: l, 0, h => ⟨rfl, rfl⟩
  | p :: l, i + 1, h => by
    have := serC_at l i (by simpa using h)
    have e0 : (i + 1) * 2 = i * 2 + 2 := by omega
    have e1 : (i + 1) * 2 + 1 = i * 2 + 1 + 2 := by omega
    rw [e1, e0]
    exact this
theorem serC_take (l : List Pt) (i : Nat) : (serC l).take (i * 2) = serC (l.take i) := by
  induction l generalizing i with
  | nil => simp [serC]
  | cons x l ih =>
    cases i with
    | zero => rfl
    | succ i =>
      have : (i + 1) * 2 = i * 2 + 1 + 1 := by omega
      rw [this]
      show x.2.1 :: x.2.2 :: (serC l).take (i * 2) = _
      rw [ih]; rfl
theorem serC_drop (l : List Pt) (i : Nat) : (serC l).drop (i * 2) = serC (l.drop i) := by
  induction l generalizing i with
  | nil => simp [serC]
  | cons x l ih =>
    cases i with
    | zero => rfl
    | succ i =>
      have : (i + 1) * 2 = i * 2 + 1 + 1 := by omega
      rw [this]
      show (serC l).drop (i * 2) = _
      rw [ih]; rfl
/-- No two of the samples' rows lie in one block. -/
def apartS (l : List Pt) : Prop := l.Pairwise (fun p q => ∀ g, p.2.2.ownBlock = some g → q.2.2.ownBlock ≠ some g)
/-- A store that a call owns, its labels and samples, too. -/
def ownStore (w : World) (B : Nat) (v : Value) (ps : List Pt) : Prop := w.ownsRow B 41 2 v ps.length (serC ps) ∧ (∀ p ∈ ps, ownLabels w B p.2.1 p.1.1 ∧ ownSam w B p.2.2 p.1.2) ∧ apartS ps
theorem tOwn_grown {w w' : World} {base e size n : Nat} {v : Value} {xs : List Value} {row : Option Nat} (h : w.ownsRow base e size v n xs) (hg : w.grownBy w' row) (hne : ∀ g, v.ownBlock = some g → row ≠ some g) : w'.ownsRow base e size v n xs := by
  obtain ⟨h3, h4⟩ := h
  refine ⟨h3, ?_⟩
  rcases h4 with h4 | ⟨g, cap, cur, r1, r2, r3, r4⟩
  · exact .inl h4
  · exact .inr ⟨g, cap, cur, r1, r2, grown_block hg r3 (hne g (by rw [r1]; rfl)), r4⟩
/-- Rows of other elements lie elsewhere. -/
theorem own_other {w : World} {b1 b2 e1 e2 s1 s2 n1 n2 : Nat} {v1 v2 : Value} {x1 x2 : List Value} (h1 : w.ownsRow b1 e1 s1 v1 n1 x1) (h2 : w.ownsRow b2 e2 s2 v2 n2 x2) (hne : e1 ≠ e2) : ∀ g, v1.ownBlock = some g → v2.ownBlock ≠ some g := by
  intro g hg
  rcases h1.2 with ⟨rfl, _⟩ | ⟨g', cap, cur, rfl, _, r3, _⟩
  · cases hg
  · obtain rfl : g' = g := by simpa [Value.ownBlock] using hg
    exact own_apart h2 r3 (fun e => hne e.symm)
theorem own_one {w : World} {base e size n : Nat} {v : Value} {xs : List Value} (h : w.ownsRow base e size v n xs) : v.oneCell' = true := by
  obtain ⟨ao, cp, rfl⟩ := own_shape h
  rfl
theorem ownStore.grow {w w' : World} {B : Nat} {v : Value} {ps : List Pt} (h : ownStore w B v ps) (g : Grow w w') : ownStore w' B v ps := ⟨own_growT h.1 g, fun p hp => ⟨own_growT (h.2.1 p hp).1 g, own_growT (h.2.1 p hp).2 g⟩, h.2.2⟩
theorem ownStore.le {w : World} {B B' : Nat} {v : Value} {ps : List Pt} (h : ownStore w B v ps) (hb : B' ≤ B) : ownStore w B' v ps := ⟨own_leT h.1 hb, fun p hp => ⟨own_leT (h.2.1 p hp).1 hb, own_leT (h.2.1 p hp).2 hb⟩, h.2.2⟩
theorem ownStore.one {w : World} {B : Nat} {v : Value} {ps : List Pt} (h : ownStore w B v ps) : ∀ u ∈ serC ps, u.oneCell' = true := by
  have key : ∀ l : List Pt, (∀ p ∈ l, p.2.1.oneCell' = true ∧ p.2.2.oneCell' = true) → ∀ u ∈ serC l, u.oneCell' = true := by
    intro l
    induction l with
    | nil => intro _ u hu; simp [serC] at hu
    | cons p l ih =>
      intro hp u hu
      rcases List.mem_cons.1 hu with rfl | hu
      · exact (hp p (by simp)).1
      rcases List.mem_cons.1 hu with rfl | hu
      · exact (hp p (by simp)).2
      exact ih (fun q hq => hp q (List.mem_cons_of_mem _ hq)) u hu
  exact key ps fun p hp => ⟨own_one (h.2.1 p hp).1, own_one (h.2.1 p hp).2⟩
theorem ownStore.reads {w : World} {B : Nat} {v : Value} {ps : List Pt} (h : ownStore w B v ps) : readsSer w w.heap.size v (ps.map (·.1)) := by
  rcases h.1.2 with ⟨hv, h0⟩ | ⟨g, cap, cur, hv, h1, h2, h3⟩
  · refine ⟨none, 0, by rw [hv, List.length_map, h0], by rw [List.length_map]; omega, fun i hi => ?_⟩
    rw [List.length_map] at hi
    omega
  · refine ⟨some ⟨g, 0, none⟩, cap, by rw [hv, List.length_map], by rw [List.length_map]; exact h3.1, fun i hi => ?_⟩
    rw [List.length_map] at hi
    have hc := World.ownsRow.cells h.1 (g := g) (by rw [hv]; rfl)
    obtain ⟨q0, q1⟩ := serC_at ps i hi
    have r0 := hc _ _ q0
    have r1 := hc _ _ q1
    rw [Addr.add_lit] at r0 r1
    obtain ⟨hl, hs⟩ := h.2.1 ps[i] (List.getElem_mem hi)
    refine ⟨g, 0, ps[i].2.1, ps[i].2.2, rfl, lt_of_block h2, by simpa using reads_ownLabels hl, by simpa using hs.reads, by simpa using r0, by simpa using r1⟩
/-- Labels that are right are their own copy. -/
theorem make_own {ls : List Lab} (h : checkB ls = 0) : makeErr ls = 0 ∧ makeAns ls = ls := by
  obtain ⟨h1, h2, h3⟩ : eachErr 1 ls = 0 ∧ twiceB ls = false ∧ riseB ls = true := by
    unfold checkB at h
    split at h
    · rename_i h1
      split at h
      · rename_i h2
        split at h
        · rename_i h3; exact ⟨h1, h2, h3⟩
        · cases h
      · cases h
    · rename_i h1; exact absurd h h1
  obtain ⟨hl, hx⟩ := eachErr_zero.1 h1
  have h0 : makeErr ls = 0 := by
    unfold makeErr
    rw [if_pos (eachErr_zero.2 ⟨hl, fun x hm => by have := hx x hm; exact ⟨this.1, by omega, this.2.2⟩⟩), if_pos h2]
  refine ⟨h0, ?_⟩
  rw [makeAns_ok h0]
  refine (makeL_uniq h2 (rise_iff.2 h3) fun y => ⟨fun hy => ⟨hy, fun e => ?_⟩, fun hy => hy.1⟩).symm
  have := (hx y hy).2.1
  rw [e] at this
  simp at this
set_option maxRecDepth 20000 in
set_option maxHeartbeats 2000000 in
theorem tcopied_any (w : World) (v : Value) (l : List Ser) (hv : readsSer w w.heap.size v l) (hlen : l.length ≤ 1000) (hok : ∀ s ∈ l, checkB s.1 = 0 ∧ 0 < s.2.length ∧ s.2.length ≤ 1000000) :
    Calls Tryz.prog 28 #[v] w fun e w' => ∃ v' ps, e = .returned v' ∧ ownStore w' w.heap.size v' ps ∧ ps.map (·.1) = l ∧ Grow w w' := by
  obtain ⟨i0, hi0, hz0, hz1, hz2⟩ := info_parts infoSer2
  obtain ⟨ao, cp, hvv, -, hcells⟩ := id hv
  subst hvv
  have HV := hide hv
  have HOK := hide hok
  clear hv hok
  go_enter Tryz.func28, Tryz.ntmps28
  go_wp2
  go_loopw [3, 10] (fun sv iv wr => ∃ (k : Nat) (ps : List Pt), k ≤ l.length ∧ iv = .int .i64 k ∧ Hid (ownStore wr w.heap.size sv ps) ∧ Hid (ps.map (·.1) = l.take k) ∧ Hid (Grow w wr)) (fun _ iv _ => l.length - (intOf iv).toNat)
  case atStart => exact ⟨0, [], by omega, rfl, hide ⟨World.ownsRow_nil _ _ _ _, fun p hp => by simp at hp, List.Pairwise.nil⟩, hide rfl, hide (Grow.refl _)⟩
  case round =>
    obtain ⟨k, ps, hkk, rfl, HOW, HPS, HGr⟩ := hrel
    obtain ⟨so, sc, hsv⟩ := own_shape HOW.out.1
    subst hsv
    have hpl : ps.length = k := by
      have := congrArg List.length HPS.out
      simp at this
      omega
    by_cases hlt : k < l.length
    · have hlti : (k : Int) < (l.length : Int) := by omega
      obtain ⟨rb, rf, xa, ya, rfl, hrB, ha, hs, a0, a1⟩ := hcells k hlt
      have c0 := (HGr.out.cell (p := ⟨rb, rf + k * 2, none⟩) hrB).trans a0
      have c1 := (HGr.out.cell (p := ⟨rb, rf + k * 2 + 1, none⟩) hrB).trans a1
      obtain ⟨x, HX⟩ : ∃ x : Ser, Hid (l[k] = x) := ⟨_, hide rfl⟩
      have hokx := HOK.out _ (List.getElem_mem hlt)
      rw [HX.out] at ha hs hokx
      obtain ⟨xo, xc, hxa⟩ := readsLabels_len ha
      obtain ⟨yo, yc, hya, -⟩ := readsSam_len hs
      obtain ⟨V, eV, gV, hV⟩ := laid_at wr #[xa, ya] 41
      have hgV : Grow w V := HGr.out.trans gV
      obtain ⟨hlx, hix⟩ := right_lens hokx.1
      obtain ⟨hm0, hm1⟩ := make_own hokx.1
      have HMK := make_any V xa x.1 (readsLabels_mono (readsLabels_below ha hgV) hgV.size) (by omega) hix
      rw [hm0, hm1] at HMK
      replace HMK := hide HMK
      have HS : Hid (readsSam w w.heap.size ya x.2) := hide hs
      have HVV := hide hV
      have HGV := hide hgV
      have HgV := hide gV
      have HPO := hide hokx.2
      obtain ⟨d0, d1⟩ := two_cells hV
      subst hxa hya
      generalize hn1 : x.1.length = n1 at *
      generalize hn2 : x.2.length = n2 at *
      clear ha hs a0 a1 hcells gV hV hgV hokx hlx hix hm0 hm1
      go_wp2_with fail
      refine HMK.out.mono ?_
      rintro e w5 ⟨mv, rfl, hml, hg5⟩
      obtain ⟨mo, mc, hmv⟩ := own_shape hml
      rw [hn1] at hmv
      subst hmv
      have HML := hide hml
      have HG5 : Hid (Grow V w5) := hide hg5
      have HCL := hide (cloneSam_any w5 (.slice yo n2 yc) x.2 ((HS.out.keep (HGV.out.trans hg5)).more (HGV.out.trans hg5).size) (by have := HPO.out.1; omega) (by have := HPO.out.2; omega))
      clear hml hg5 HMK d0 d1 c0 c1 eV
      obtain ⟨d0, d1⟩ := two_cells (HG5.out.get HVV.out)
      go_wp2_with fail
      refine HCL.out.mono ?_
      rintro e w6 ⟨cv, rfl, hcl, hg6⟩
      obtain ⟨co, cc, hcv⟩ := own_shape hcl
      rw [hn2] at hcv
      subst hcv
      have HCO := hide hcl
      have HG6 : Hid (Grow w5 w6) := hide hg6
      clear hcl hg6 HCL d0 d1
      obtain ⟨W7, e7, g7, b7⟩ := laid_at w6 #[.slice mo n1 mc, .slice co n2 cc] 41
      have hgr7 : Grow wr W7 := (HgV.out.trans HG5.out).trans (HG6.out.trans g7)
      have HO7 : Hid (ownStore W7 w.heap.size (.slice so ps.length sc) ps) := hide (HOW.out.grow hgr7)
      have hVs : wr.heap.size ≤ V.heap.size := HgV.out.size
      have hws : w.heap.size ≤ wr.heap.size := HGr.out.size
      have HL7 : Hid (ownLabels W7 w.heap.size (.slice mo n1 mc) x.1) := hide (own_leT (own_growT HML.out (HG6.out.trans g7)) (by omega))
      have HC7 : Hid (ownSam W7 w.heap.size (.slice co n2 cc) x.2) := hide (own_leT (own_growT HCO.out g7) (by have := HG5.out.size; omega))
      have HCB : Hid (∀ g, (Value.slice co n2 cc).ownBlock = some g → w5.heap.size ≤ g) := hide fun g hg => (HCO.out.lt g hg).1
      have HR7 : Hid (W7.ownsRow w.heap.size 41 2 (.slice so k sc) k (serC ps)) := hide (by have := HO7.out.1; rw [hpl] at this; exact this)
      have HB7 := hide b7
      have HBW : Hid (Below w.heap.size w W7) := hide (HGr.out.trans hgr7)
      have hs7 : w.heap.size ≤ W7.heap.size := HBW.out.size
      have HW5 : Hid (wr.heap.size ≤ w5.heap.size) := hide (by have := HG5.out.size; omega)
      clear g7 b7 hgr7
      go_wp2_with (at_builtin; go_loud (refine wpList_append_own _ rfl _ _ 22 rfl w.heap.size 41 i0 _ 2 48 Tryz.underlying22 hi0 hz0 hz1 hz2 rfl (by decide) _ k (serC ps) rfl HR7.out ⟨w6.heap.size, 0, none⟩ 1 1 [.slice mo n1 mc, .slice co n2 cc] rfl rfl (World.news_of_block HB7.out) (by simp [Value.oneCell']) (by unfold maxLen; omega) (by omega) hs7 ?_))
      intro v' w8 hown' hgrow _
      have hbel : Below w.heap.size W7 w8 := (Below.refl _ _).grown hgrow hs7 (fun q hq => (HR7.out.lt q hq).1)
      have HB8 : Hid (Below w.heap.size w w8) := hide (HBW.out.trans hbel)
      have HN8 : Hid (ownStore w8 w.heap.size v' (ps ++ [(x, .slice mo n1 mc, .slice co n2 cc)])) := hide (by
        refine ⟨?_, fun p hp => ?_, ?_⟩
        · rw [List.length_append, hpl, serC_append]
          exact hown'
        · rcases List.mem_append.1 hp with hp | hp
          · obtain ⟨q1, q2⟩ := HO7.out.2.1 p hp
            exact ⟨tOwn_grown q1 hgrow (fun g hg => (own_other q1 HR7.out (by decide) g hg)), tOwn_grown q2 hgrow (fun g hg => (own_other q2 HR7.out (by decide) g hg))⟩
          · simp only [List.mem_singleton] at hp
            subst hp
            exact ⟨tOwn_grown HL7.out hgrow (fun g hg => (own_other HL7.out HR7.out (by decide) g hg)), tOwn_grown HC7.out hgrow (fun g hg => (own_other HC7.out HR7.out (by decide) g hg))⟩
        · unfold apartS
          rw [List.pairwise_append]
          refine ⟨HOW.out.2.2, List.pairwise_singleton _ _, fun p hp q hq g hg hg2 => ?_⟩
          simp only [List.mem_singleton] at hq
          subst hq
          have h1 := ((HOW.out.2.1 p hp).2.lt g hg).2
          have h2 := HCB.out g hg2
          have := HW5.out
          omega)
      clear hown' hgrow hbel
      go_wp2
      go_roundw
      case rel =>
        refine ⟨k + 1, _, by omega, by go_num, HN8, hide ?_, HB8⟩
        rw [List.map_append, HPS.out, List.take_succ_eq_append_getElem hlt, HX.out]
        rfl
      case measure => simp [intOf]; omega
    · obtain rfl : k = l.length := by omega
      go_wp2
      go_ret
      exact ⟨_, ps, rfl, HOW.out, by rw [HPS.out, List.take_length], HGr.out⟩
end Go.Proofs.YtmdakfmecfcbhaaGreat.Tk
namespace Go.Proofs.YtmdakfmecfcbhaaGreat.Tk
open Go.RowKit Go.Shelf Lb
attribute [local go_sem] bs_size bs_toList bs_append bs_get bs_extract
/-- What lies below a block, or between two, stays. -/
structure KeptM (B M N : Nat) (w w' : World) : Prop where
  below : Below B w w'
  mid : ∀ k, M ≤ k → k < N → w'.heap[k]? = w.heap[k]?
theorem KeptM.refl (B M N : Nat) (w : World) : KeptM B M N w w := ⟨Below.refl _ _, fun _ _ _ => rfl⟩
theorem KeptM.trans {B M N : Nat} {a b c : World} (h : KeptM B M N a b) (k : KeptM B M N b c) : KeptM B M N a c := ⟨Below.trans h.below k.below, fun q h1 h2 => (k.mid q h1 h2).trans (h.mid q h1 h2)⟩
theorem KeptM.grow {B M N : Nat} {w w' : World} (g : Grow w w') (hB : B ≤ w.heap.size) (hN : N ≤ w.heap.size) : KeptM B M N w w' := ⟨Below.mono g hB, fun k h1 h2 => g.block k (by omega)⟩
/-- A value whose block does not lie between the two. -/
def freeB (M N : Nat) (v : Value) : Prop := ∀ g, v.ownBlock = some g → g < M ∨ N ≤ g
theorem KeptM.grown {B M N : Nat} {w w' : World} {v : Value} (g : w.grownBy w' v.ownBlock) (hB : B ≤ w.heap.size) (hN : N ≤ w.heap.size) (hf : freeB M N v) (hr : ∀ k, v.ownBlock = some k → B ≤ k) : KeptM B M N w w' :=
  ⟨(Below.refl _ _).grown g hB hr, fun k h1 h2 => g.block k (by omega) (fun e => by rcases hf k e.symm with h | h <;> omega)⟩
def freeS (M N : Nat) (v : Value) (ps : List Pt) : Prop := freeB M N v ∧ ∀ p ∈ ps, freeB M N p.2.2
theorem step_app_at {P : Program} {ops : Array Oper} {o : Oper} {a : Act} {w : World} {K : Act → World → Prop} {Q : Exit → Act → World → Prop} {E : Prop}
    (hgd : o.guard = none) (s x : Operand) (t : TypeId) (ho : o.op = Op.call { callee := Callee.builtin Builtin.append, args := #[s, x], argTypes := #[t, t] })
    (base : Nat) (e : TypeId) (i : TypeInfo) (z : Value) (size bytes : Nat) (ht : P.underlying t = some (.slice e)) (hi : P.info? e = some i) (hz : i.zero = some z)
    (hsize : i.size = size) (hby : i.bytes = bytes) (hzs : z.cells.size = size) (hsz : 0 < size)
    (v : Value) (n : Nat) (xs : List Value) (hs : a.eval s = v) (hown : w.ownsRow base e size v n xs)
    (ad : Addr) (m c : Nat) (news : List Value) (hx : a.eval x = .slice (some ad) m c) (hl : news.length = m * size) (hnews : ∀ j u, news[j]? = some u → w.cell? (ad.add j) = some u) (h1 : ∀ u ∈ news, u.oneCell' = true)
    (h63 : n + m ≤ maxLen) (hbytes : (n + m) * bytes ≤ 140737488355328) (hbase : base ≤ w.heap.size)
    (hK : ∀ v' w', w'.ownsRow base e size v' (n + m) (xs ++ news) → w.grownBy w' v.ownBlock → (v'.ownBlock = v.ownBlock ∨ v'.ownBlock = some w.heap.size) → K (a.put o.dst v') w') :
    if Region.wanted o (yielded ops a.tmps) = true then Oper.wp P o a w K Q else E := by
  have hw : Region.wanted o (yielded ops a.tmps) = true := by simp [Region.wanted, hgd]
  rw [if_pos hw]
  obtain ⟨v', w', hr, h2, h3, _, h5⟩ := run_append_own_at (P := P) w base t o.type e i z size bytes ht hi hz hsize hby hzs hsz v n xs hown ad m c news hl hnews h1 h63 hbytes hbase
  unfold Oper.wp
  simp [execOp, ho, resolve, invoke, builtin, hs, hx, hr, Result.andThen]
  exact hK v' w' h2 h3 h5
theorem ownStore.split {w : World} {B : Nat} {v : Value} {A Bq : List Pt} {q : Pt} (h : ownStore w B v (A ++ q :: Bq)) : ownLabels w B q.2.1 q.1.1 ∧ ownSam w B q.2.2 q.1.2 := h.2.1 q (by simp)
/-- A row of the store has a block of its own when something is in it. -/
theorem ownStore.cell {w : World} {B : Nat} {v : Value} {A Bq : List Pt} {q : Pt} (h : ownStore w B v (A ++ q :: Bq)) : ∃ g cap cur, v = .slice (some ⟨g, 0, none⟩) (A.length + (Bq.length + 1)) cap ∧ B ≤ g ∧ w.heap[g]? = some (.cells cur 41 (0, 0)) ∧ A.length + (Bq.length + 1) ≤ cap ∧ cap ≤ maxLen ∧ cur.size = cap * 2 ∧ cur.toList.take ((A.length + (Bq.length + 1)) * 2) = serC (A ++ q :: Bq) ∧ w.cell? ⟨g, A.length * 2 + 1, none⟩ = some q.2.2 := by
  have hl : (A ++ q :: Bq).length = A.length + (Bq.length + 1) := by rw [List.length_append, List.length_cons]
  rcases h.1.2 with ⟨_, h0⟩ | ⟨g, cap, cur, r1, r2, r3, r4, r5, r6, r7⟩
  · rw [hl] at h0; omega
  · rw [hl] at r1 r4 r7
    refine ⟨g, cap, cur, r1, r2, r3, r4, r5, r6, r7, ?_⟩
    have hc := World.ownsRow.cells h.1 (g := g) (by rw [r1]; rfl)
    obtain ⟨_, q1⟩ := serC_at (A ++ q :: Bq) A.length (by rw [hl]; omega)
    have := hc _ _ q1
    rw [Addr.add_lit] at this
    simpa using this
/-- The samples of one series grow: its own row, then the cell that names it. -/
theorem ownStore.put {w w1 : World} {B g cap : Nat} {v : Value} {A Bq : List Pt} {l : List Lab} {ss ss' : List Sam} {lv sv sv' : Value} (h : ownStore w B v (A ++ ((l, ss), lv, sv) :: Bq)) (hv : v = .slice (some ⟨g, 0, none⟩) (A.length + (Bq.length + 1)) cap) (hg : w.grownBy w1 sv.ownBlock) (h1 : ownSam w1 B sv' ss') (hat : sv'.ownBlock = sv.ownBlock ∨ ∃ b, sv'.ownBlock = some b ∧ w.heap.size ≤ b) : ownStore (w1.setCell ⟨g, A.length * 2 + 1, none⟩ sv') B v (A ++ ((l, ss'), lv, sv') :: Bq) := by
  have hl : ∀ q : Pt, (A ++ q :: Bq).length = A.length + (Bq.length + 1) := fun q => by rw [List.length_append, List.length_cons]
  obtain ⟨g', cap', cur, hv', hgB, hgc, hnc, hcm, hcs, hct, _⟩ := h.cell
  rw [hv] at hv'
  obtain ⟨rfl, rfl⟩ : g = g' ∧ cap = cap' := by simpa using hv'
  have hsv : ownSam w B sv ss := h.split.2
  have hgs : sv.ownBlock ≠ some g := fun e => own_other hsv h.1 (by decide) g e (by rw [hv]; rfl)
  have hg1 : w1.heap[g]? = some (.cells cur 41 (0, 0)) := grown_block hg hgc hgs
  have hgs' : sv'.ownBlock ≠ some g := by
    rcases hat with e | ⟨b, e, hb⟩
    · rw [e]; exact hgs
    · rw [e]; intro e2; have := lt_of_block hgc; simp at e2; omega
  have hset : ∀ {e size n : Nat} {u : Value} {xs : List Value}, w1.ownsRow B e size u n xs → u.ownBlock ≠ some g → (w1.setCell ⟨g, A.length * 2 + 1, none⟩ sv').ownsRow B e size u n xs := fun hr hn => ownsRow_setCell_other hr hn _
  refine ⟨⟨?_, .inr ⟨g, cap, cur.setIfInBounds (A.length * 2 + 1) sv', ?_, hgB, ?_, ?_, hcm, by simpa using hcs, ?_⟩⟩, fun p hp => ?_, ?_⟩
  · rw [serC_length]
  · rw [hl]; exact hv
  · show (w1.setCell ⟨g, A.length * 2 + 1, none⟩ sv').heap[g]? = _
    simp only [World.setCell, Array.getElem?_modify, hg1, if_true, Option.map_some]
    rfl
  · rw [hl]; exact hnc
  · rw [hl, Array.toList_setIfInBounds, List.take_set, hct, serC_append, serC_append]
    have e : (serC A).length = A.length * 2 := serC_length A
    rw [List.set_append_right _ _ (by omega), e, show A.length * 2 + 1 - A.length * 2 = 1 by omega]
    rfl
  · have hold : ∀ p ∈ A ++ Bq, p ∈ A ++ ((l, ss), lv, sv) :: Bq := fun p hp => by
      rcases List.mem_append.1 hp with hp | hp
      · exact List.mem_append_left _ hp
      · exact List.mem_append_right _ (List.mem_cons_of_mem _ hp)
    have hrest : ∀ p ∈ A ++ Bq, ownLabels (w1.setCell ⟨g, A.length * 2 + 1, none⟩ sv') B p.2.1 p.1.1 ∧ ownSam (w1.setCell ⟨g, A.length * 2 + 1, none⟩ sv') B p.2.2 p.1.2 := fun p hp => by
      obtain ⟨q1, q2⟩ := h.2.1 p (hold p hp)
      have n1 : p.2.1.ownBlock ≠ some g := fun e => own_other q1 h.1 (by decide) g e (by rw [hv]; rfl)
      have n2 : p.2.2.ownBlock ≠ some g := fun e => own_other q2 h.1 (by decide) g e (by rw [hv]; rfl)
      have ap : ∀ b, p.2.2.ownBlock = some b → sv.ownBlock ≠ some b := by
        have h3 := h.2.2
        unfold apartS at h3
        rw [List.pairwise_append, List.pairwise_cons] at h3
        obtain ⟨_, ⟨h4, _⟩, h5⟩ := h3
        rcases List.mem_append.1 hp with hp | hp
        · exact fun b e => h5 p hp ((l, ss), lv, sv) (by simp) b e
        · exact fun b e e2 => h4 p hp b e2 e
      exact ⟨hset (tOwn_grown q1 hg (fun b e => own_other q1 hsv (by decide) b e)) n1, hset (tOwn_grown q2 hg ap) n2⟩
    rcases List.mem_append.1 hp with hp | hp
    · exact hrest p (List.mem_append_left _ hp)
    · rcases List.mem_cons.1 hp with rfl | hp
      · have q1 := h.split.1
        have n1 : lv.ownBlock ≠ some g := fun e => own_other q1 h.1 (by decide) g e (by rw [hv]; rfl)
        exact ⟨hset (tOwn_grown q1 hg (fun b e => own_other q1 hsv (by decide) b e)) n1, hset h1 hgs'⟩
      · exact hrest p (List.mem_append_right _ hp)
  · have h3 := h.2.2
    unfold apartS at h3 ⊢
    rw [List.pairwise_append, List.pairwise_cons] at h3 ⊢
    obtain ⟨h6, ⟨h4, h7⟩, h5⟩ := h3
    have far : ∀ p ∈ A ++ Bq, ∀ b, p.2.2.ownBlock = some b → w.heap.size ≤ b → False := fun p hp b e hb => by
      have hp' : p ∈ A ++ ((l, ss), lv, sv) :: Bq := by
        rcases List.mem_append.1 hp with hp | hp
        · exact List.mem_append_left _ hp
        · exact List.mem_append_right _ (List.mem_cons_of_mem _ hp)
      have := ((h.2.1 p hp').2.lt b e).2
      omega
    refine ⟨h6, ⟨fun p hp b e e2 => ?_, h7⟩, fun p hp q hq b e => ?_⟩
    · rcases hat with e3 | ⟨b', e3, hb⟩
      · exact h4 p hp b (by rw [← e3]; exact e) e2
      · rw [e3] at e
        obtain rfl : b' = b := by simpa using e
        exact far p (List.mem_append_right _ hp) b' e2 hb
    · rcases List.mem_cons.1 hq with rfl | hq
      · rcases hat with e3 | ⟨b', e3, hb⟩
        · show sv'.ownBlock ≠ some b
          rw [e3]
          exact h5 p hp ((l, ss), lv, sv) (by simp) b e
        · show sv'.ownBlock ≠ some b
          rw [e3]
          intro e4
          obtain rfl : b' = b := by simpa using e4
          exact far p (List.mem_append_left _ hp) b' e hb
      · exact h5 p hp q (List.mem_cons_of_mem _ hq) b e
end Go.Proofs.YtmdakfmecfcbhaaGreat.Tk
