/- 2 texts in one. -/
import Derived.Laws.OwnMore
import Derived.Test.YtkaeogldielkfaaGreatProg
import Derived.Test.YtkaeogldielkfaaGreatK0755ea5
import Derived.Test.YtkaeogldielkfaaGreatK1cde199
import Derived.Test.YtkaeogldielkfaaGreatK27654cb
import Derived.Test.YtkaeogldielkfaaGreatK3c7d114
import Derived.Test.YtkaeogldielkfaaGreatK5804e26
import Derived.Test.YtkaeogldielkfaaGreatK87eb233
import Derived.Test.YtkaeogldielkfaaGreatK3b2be08
import Derived.Test.YtkaeogldielkfaaGreatK946d219
import Derived.Test.YtkaeogldielkfaaGreatKbcce139
import Derived.Maps.Own
import Derived.Maps.OwnOps
import Derived.Maps.OwnSet
import Derived.Maps.Views
import Derived.BigQuiet
set_option linter.unusedVariables false
set_option linter.unusedSimpArgs false
namespace Go.Proofs.YtkaeogldielkfaaGreat.Rc
open Go.RowKit Go.Maps Lb
open Go.WideMaps (keyOf_string_mk)
attribute [local go_sem] bs_size bs_toList bs_append bs_get bs_extract
/-- Points that can be read, whatever becomes of rows and memories from block B on. -/
def SP (B : Nat) (w : World) (v : Value) (l : List Pnt) : Prop :=
  ∃ ao cp, v = .slice ao l.length cp ∧ ∀ i (h : i < l.length), ∃ b o, ao = some ⟨b, o, none⟩ ∧ ∀ w', KeptR (fun k => B ≤ k) w w' → w'.cell? ⟨b, o + i * 3, none⟩ = some (.int .i64 l[i].1) ∧ w'.cell? ⟨b, o + i * 3 + 1, none⟩ = some (.int .i64 l[i].2.1) ∧ w'.cell? ⟨b, o + i * 3 + 2, none⟩ = some (.int .u64 l[i].2.2)
theorem SP.keep {B : Nat} {w w' : World} {v : Value} {l : List Pnt} (h : SP B w v l) (k : KeptR (fun k => B ≤ k) w w') : SP B w' v l := by
  obtain ⟨ao, cp, hv, h⟩ := h
  refine ⟨ao, cp, hv, fun i hi => ?_⟩
  obtain ⟨b, o, e, h2⟩ := h i hi
  exact ⟨b, o, e, fun w2 k2 => h2 w2 (k.trans k2)⟩
theorem SP.of_reads {B : Nat} {w : World} {v : Value} {l : List Pnt} (h : readsPoints w B v l) (hB : B ≤ w.heap.size) : SP B w v l := by
  obtain ⟨ao, cp, hv, h⟩ := h
  refine ⟨ao, cp, hv, fun i hi => ?_⟩
  obtain ⟨b, o, e, hb, c0, c1, c2⟩ := h i hi
  exact ⟨b, o, e, fun w2 k2 => ⟨((k2.below (fun k hk => hk) hB).cell (p := ⟨b, _, none⟩) hb).trans c0, ((k2.below (fun k hk => hk) hB).cell (p := ⟨b, _, none⟩) hb).trans c1, ((k2.below (fun k hk => hk) hB).cell (p := ⟨b, _, none⟩) hb).trans c2⟩⟩
theorem idxNum_refs {K K' : List Kp} (h : K'.map (·.1) = K.map (·.1)) (n : Int) : idxNum K' n = idxNum K n := by
  have e : ∀ M : List Kp, idxNum M n = (M.map (·.1)).findIdx? (fun y => y.1 == n) := fun M => by unfold idxNum; rw [List.findIdx?_map]; rfl
  rw [e, e, h]
theorem idxTxt_refs {K K' : List Kp} (h : K'.map (·.1) = K.map (·.1)) (T : List UInt8) : idxTxt K' T = idxTxt K T := by
  have e : ∀ M : List Kp, idxTxt M T = (M.map (·.1)).findIdx? (fun y => textAns y.2 == T) := fun M => by unfold idxTxt; rw [List.findIdx?_map]; rfl
  rw [e, e, h]
theorem updP_at {K : List Kp} {p : Pnt} {i : Nat} (hd : Dist K) (h : idxNum K p.1 = some i) : ∃ hi : i < K.length, updP K p = if K[i].2.2 = false ∨ K[i].2.1 < p.2.1 then K.set i (K[i].1, p.2.1, true) else K := by
  obtain ⟨hi, hn⟩ := idxNum_some h
  refine ⟨hi, ?_⟩
  have hne : ∀ j (hj : j < K.length), j ≠ i → K[j].1.1 ≠ p.1 := fun j hj hji e => hji (hd.numEq hj hi (by rw [e, hn]))
  by_cases hc : K[i].2.2 = false ∨ K[i].2.1 < p.2.1
  · rw [if_pos hc]
    apply List.ext_getElem
    · unfold updP; simp
    · intro j h1 h2
      have hj : j < K.length := by unfold updP at h1; simpa using h1
      have e1 : (updP K p)[j] = if K[j].1.1 = p.1 ∧ (K[j].2.2 = false ∨ K[j].2.1 < p.2.1) then (K[j].1, p.2.1, true) else K[j] := by simp [updP]
      rw [e1]
      by_cases hji : j = i
      · subst hji
        rw [if_pos ⟨hn, hc⟩]
        simp
      · rw [if_neg fun x => hne j hj hji x.1, List.getElem_set_ne (by omega)]
  · rw [if_neg hc]
    apply List.ext_getElem
    · unfold updP; simp
    · intro j h1 h2
      have e1 : (updP K p)[j] = if K[j].1.1 = p.1 ∧ (K[j].2.2 = false ∨ K[j].2.1 < p.2.1) then (K[j].1, p.2.1, true) else K[j] := by simp [updP]
      rw [e1]
      by_cases hji : j = i
      · subst hji
        rw [if_neg fun x => hc x.2]
      · rw [if_neg fun x => hne j h2 hji x.1]
theorem memP.refs {w : World} {B : Nat} {F : Nat → Prop} {b : Nat} {K : List Kp} {v : Value} {mb tb : Nat} {ps : List KV} {D1 D2 : DataW Unit} (h : memP w B F b K v mb tb ps D1 D2) : (∀ n, has D1 (.int .i64 n) = (idxNum K n).isSome) := fun n => (h.d1.2 n).1
theorem kepC_set2 : ∀ (l : List KV) (i : Nat) (h : i < l.length) (t : Int), ((kepC l).set (i * 4 + 2) (.int .i64 t)).set (i * 4 + 3) (.bool true) = kepC (l.set i ((l[i].1.1, t, true), l[i].2))
  | [], i, h, t => by simp at h
  | x :: l, 0, h, t => by simp [kepC]
  | x :: l, i + 1, h, t => by
    have ih := kepC_set2 l i (by simpa using h) t
    have e2 : (i + 1) * 4 + 2 = (i * 4 + 2) + 4 := by omega
    have e3 : (i + 1) * 4 + 3 = (i * 4 + 3) + 4 := by omega
    rw [e2, e3]
    simp only [kepC, List.set_cons_succ, List.getElem_cons_succ]
    rw [ih]
/-- The last time of one turns. -/
theorem memP.upd {w : World} {B : Nat} {F : Nat → Prop} {b : Nat} {K : List Kp} {v : Value} {mb tb : Nat} {ps : List KV} {D1 D2 : DataW Unit} (h : memP w B F b K v mb tb ps D1 D2) (hFB : ∀ k, F k → B ≤ k) {i g cap : Nat} (hi : i < K.length) (hv : v = .slice (some ⟨g, 0, none⟩) K.length cap) (t : Int) :
    memJ ((w.setCell ⟨g, i * 4 + 2, none⟩ (.int .i64 t)).setCell ⟨g, i * 4 + 3, none⟩ (.bool true)) B F b (K.set i (K[i].1, t, true)) ∧ KeptR F w ((w.setCell ⟨g, i * 4 + 2, none⟩ (.int .i64 t)).setCell ⟨g, i * 4 + 3, none⟩ (.bool true)) := by
  have hrow := h.row
  have hg : F g := h.fv g (by rw [hv]; rfl)
  obtain ⟨cap', cur, hgB, hcell, h4, h5, h6, h7, hce⟩ : ∃ (cap' : Nat) (cur : Array Value), B ≤ g ∧ w.heap[g]? = some (.cells cur 96 (0, 0)) ∧ K.length ≤ cap' ∧ cap' ≤ maxLen ∧ cur.size = cap' * 4 ∧ cur.toList.take (K.length * 4) = kepC ps ∧ cap' = cap := by
    rcases id hrow.2 with ⟨hn, h0⟩ | ⟨g', cap', cur, r1, r2, r3, r4, r5, r6, r7⟩
    · omega
    · rw [hv] at r1
      obtain ⟨rfl, rfl⟩ : g = g' ∧ cap = cap' := by simpa using r1
      exact ⟨cap, cur, r2, r3, r4, r5, r6, r7, rfl⟩
  subst hce
  have s1 := setAt (i := i * 4 + 2) hcell (.int .i64 t)
  have s2 := setAt (i := i * 4 + 3) s1 (.bool true)
  have k1 : KeptR F w (w.setCell ⟨g, i * 4 + 2, none⟩ (.int .i64 t)) := KeptR.setMem hcell (.inl rfl) hg _
  have k2 : KeptR F (w.setCell ⟨g, i * 4 + 2, none⟩ (.int .i64 t)) ((w.setCell ⟨g, i * 4 + 2, none⟩ (.int .i64 t)).setCell ⟨g, i * 4 + 3, none⟩ (.bool true)) := KeptR.setMem s1 (.inl rfl) hg _
  have hk := k1.trans k2
  have hoth : ∀ k, k ≠ g → ((w.setCell ⟨g, i * 4 + 2, none⟩ (.int .i64 t)).setCell ⟨g, i * 4 + 3, none⟩ (.bool true)).heap[k]? = w.heap[k]? := fun k hne => by
    rw [Below.heap_setCell _ _ _ _ hne, Below.heap_setCell _ _ _ _ hne]
  obtain ⟨es1, ck1, hmb, _⟩ := id h.m1
  obtain ⟨es2, ck2, htb, _⟩ := id h.m2
  have hpl : ps.length = K.length := by rw [← h.kept, List.length_map]
  have hbg : b ≠ g := fun e => by have := h.at'; rw [e, hcell] at this; simp at this
  have hmg : mb ≠ g := fun e => by rw [e, hcell] at hmb; cases hmb
  have htg : tb ≠ g := fun e => by rw [e, hcell] at htb; cases htb
  have hkp : K[i].1 = ps[i].1.1 := by
    have : K[i] = ps[i].1 := by simp [← h.kept]
    rw [this]
  have hrf : (K.set i (K[i].1, t, true)).map (·.1) = K.map (·.1) := by
    apply List.ext_getElem
    · simp
    · intro j h1 h2
      simp only [List.getElem_map]
      by_cases e : j = i
      · subst e; simp
      · rw [List.getElem_set_ne (by omega)]
  refine ⟨⟨v, mb, tb, ps.set i ((ps[i].1.1, t, true), ps[i].2), D1, D2, ?_, (hoth b hbg).trans h.at', ?_, ?_, ?_, h.ne, h.fb, h.f1, h.f2, h.fv, ?_, ?_, fun p hp => ?_, by simpa using h.len⟩, hk⟩
  · rw [List.map_set, h.kept, hkp]
  · rw [List.length_set]
    refine ⟨?_, .inr ⟨g, cap', _, hv, hgB, s2, h4, h5, by simpa using h6, ?_⟩⟩
    · have := hrow.1
      rw [kepC_length] at this ⊢
      simpa using this
    · rw [Array.toList_setIfInBounds, Array.toList_setIfInBounds, List.take_set, List.take_set, h7, kepC_set2 ps i (by omega)]
  · rw [List.length_set]
    obtain ⟨es, ck, hb, r⟩ := h.m1
    exact ⟨es, ck, (hoth mb hmg).trans hb, r⟩
  · rw [List.length_set]
    obtain ⟨es, ck, hb, r⟩ := h.m2
    exact ⟨es, ck, (hoth tb htg).trans hb, r⟩
  · exact ⟨h.d1.1, fun n => by rw [idxNum_refs hrf]; exact h.d1.2 n⟩
  · exact ⟨h.d2.1, fun n => by rw [idxTxt_refs hrf]; exact h.d2.2 n⟩
  · rcases List.mem_or_eq_of_mem_set hp with hp | hp
    · exact (h.labs p hp).keep (hk.mono hFB)
    · subst hp
      exact (h.labs ps[i] (List.getElem_mem (by omega))).keep (hk.mono hFB)
set_option maxRecDepth 20000 in
set_option maxHeartbeats 16000000 in
theorem samples_any (w : World) (B : Nat) (F : Nat → Prop) (b : Nat) (K : List Kp) (v : Value) (rs : List Pnt) (hm : memJ w B F b K) (hFB : ∀ k, F k → B ≤ k) (hBw : B ≤ w.heap.size) (hd : Dist K) (hs : SP B w v rs) (hrr : ∀ x ∈ rs, pointErr x = 0) (hl : rs.length ≤ 200) (hKl : K.length ≤ 1000) :
    Calls Tryz.prog 55 #[.pointer (some ⟨b, 0, none⟩), v] w fun e w' => e = outc (learnP K rs).1 ∧ memJ w' B F b (learnP K rs).2 ∧ KeptR F w w' := by
  obtain ⟨E, HE⟩ : ∃ E, Hid (learnP K rs = E) := ⟨_, hide rfl⟩
  rw [HE.out]
  obtain ⟨ao, cp, hvv, _⟩ := id hs
  subst hvv
  have HM := hide hm
  have HS := hide hs
  have HRR := hide hrr
  have HD := hide hd
  have HFB := hide hFB
  have hpt : ∀ x ∈ rs, (1 ≤ x.1 ∧ x.1 ≤ 1000000) ∧ -9007199254740991 ≤ x.2.1 ∧ x.2.1 ≤ 9007199254740991 := fun x hx => by
    have h := hrr x hx
    unfold pointErr at h
    split at h
    · rename_i h0; exact absurd h h0
    · rename_i h0
      unfold numErr at h0
      unfold timeErr at h
      refine ⟨?_, ?_⟩
      · by_cases c : 1 ≤ x.1 ∧ x.1 ≤ 1000000
        · exact c
        · rw [if_neg c] at h0; exact absurd (by decide) h0
      · by_cases c : -9007199254740991 ≤ x.2.1 ∧ x.2.1 ≤ 9007199254740991
        · exact c
        · rw [if_neg c] at h; cases h
  have HPT := hide hpt
  clear hm hs hrr hd hFB hpt
  go_enter Tryz.func55, Tryz.ntmps55
  go_wp2
  go_loopw [13] (fun iv wr => ∃ (k : Nat), k ≤ rs.length ∧ iv = .int .i64 k ∧ Hid (Grow w wr) ∧ Hid (∀ j (hj : j < rs.length), j < k → (idxNum K rs[j].1).isSome = true)) (fun iv _ => rs.length - (intOf iv).toNat)
  case atStart => exact ⟨0, by omega, rfl, hide (Grow.refl _), hide fun j hj h => by omega⟩
  case round =>
    obtain ⟨k, hk, rfl, HGr, HIX⟩ := hrel
    by_cases hlt : k < rs.length
    · have hlti : (k : Int) < (rs.length : Int) := by omega
      obtain ⟨rb, rf, rfl, hcell⟩ : ∃ b' o, ao = some ⟨b', o, none⟩ ∧ ∀ w', KeptR (fun k => B ≤ k) wr w' → w'.cell? ⟨b', o + k * 3, none⟩ = some (.int .i64 rs[k].1) ∧ w'.cell? ⟨b', o + k * 3 + 1, none⟩ = some (.int .i64 rs[k].2.1) ∧ w'.cell? ⟨b', o + k * 3 + 2, none⟩ = some (.int .u64 rs[k].2.2) := by
        obtain ⟨ao', cp', e, h⟩ := HS.out.keep (KeptR.grow HGr.out)
        cases e
        exact h k hlt
      have hpx := (HPT.out _ (List.getElem_mem hlt)).1
      obtain ⟨x, HX⟩ : ∃ x : Pnt, Hid (rs[k] = x) := ⟨_, hide rfl⟩
      rw [HX.out] at hcell hpx
      obtain ⟨c0, c1, c2⟩ := hcell wr (KeptR.refl _ _)
      obtain ⟨V, eV, gV, hV⟩ := laid_at wr #[.int .i64 x.1, .int .i64 x.2.1, .int .u64 x.2.2] 64
      have HV := hide hV
      have HGV : Hid (Grow w V) := hide (HGr.out.trans gV)
      obtain ⟨v1, mb, tb, ps, D1, D2, P1⟩ := HM.out.grow HGV.out
      obtain ⟨vo1, vc1, hv1⟩ := own_shape P1.row
      subst hv1
      have hwf : (Lit.int .i64 x.1).wf = true := WalkArith.wf_i64 (by omega)
      have hkey1 : keyOf Tryz.prog 3 (.int .i64 x.1) = some (.int .i64 x.1) := keyOf_int_mk Tryz.underlying3 hwf
      obtain ⟨i, HI⟩ : ∃ i : Nat, Hid ((idxNum K x.1).getD 0 = i) := ⟨_, hide rfl⟩
      obtain ⟨t1, HB1⟩ : ∃ t1, Hid ((idxNum K x.1).isSome = t1) := ⟨_, hide rfl⟩
      have hd1 := P1.d1.2 x.1
      have hm1 := P1.m1
      rw [HI.out, HB1.out] at hd1
      have HL1 : Hid (∀ w2, Grow V w2 → (Instr.lookup 84 (.map (some mb)) (.int .i64 x.1) true).run Tryz.prog w2 = .ok (.tuple #[.int .i64 i, .bool t1]) w2) := hide fun w2 g => by
        obtain ⟨v, ps, hrun, hv⟩ := World.ownsMap.look_ok (hm1.kept (grownG g) (by simp)) Tryz.keyInt Tryz.underlying84 (Tryz.zeroInt w2) (plainElem_int Tryz.underlying3 (by decide)) hkey1
        obtain ⟨c, rfl, hc, _⟩ := plainElem_int_inv Tryz.underlying3 hv
        have h3 := congrArg Prod.fst hc
        rw [hd1.2] at h3
        rw [hd1.1] at hrun
        simp at h3
        rw [h3]
        exact hrun
      have HAT := hide P1.at'
      clear hV gV hcell P1 hd1 hm1 hkey1 hwf hpx
      go_wp2
      clear c0 c1 c2 eV
      refine wp_region_free 12 72 mixedR rfl (by decide +kernel) Grow (fun _ _ _ => Grow.trans) (Grow.refl _)
        (fun i' v _ => match i' with
          | 0 => v = .pointer (some ⟨b, 0, none⟩)
          | 1 => v = .pointer (some ⟨b, 0, none⟩)
          | 2 => v = .pointer (some ⟨b, 1, none⟩)
          | 3 => v = .map (some mb)
          | 4 => v = .pointer (some ⟨wr.heap.size, 0, none⟩)
          | 5 => v = .int .i64 x.1
          | 6 => v = .tuple #[.int .i64 i, .bool t1]
          | 7 => v = .tuple #[.int .i64 i, .bool t1]
          | 8 => v = .int .i64 i
          | 9 => v = .bool t1
          | 10 => v = .int .i64 i
          | _ => v = .bool t1)
        (fun i v w w' h hg => h) (fun _ _ => False) (fun _ _ _ _ h => h.elim) (fun i' hi o ho a w2 hG hoff hdep => ?_) (fun vals w2 hG hvals => ?_)
      · have hg2 : Grow V w2 := hG.undrew
        obtain ⟨c0, c1, c2⟩ := three_of (hg2.get HAT.out)
        obtain ⟨d0, d1, d2⟩ := three_of (hg2.get HV.out)
        have hrun := HL1.out w2 hg2
        match i', hi with
        | 0, _ =>
          obtain rfl := Option.some.inj ho
          have o0 := hoff 0 (by decide +kernel)
          simp at o0
          simp [opYields, go_sem, o0]
          exact Grow.refl _
        | 1, _ =>
          obtain rfl := Option.some.inj ho
          have d0 := hdep 0 (by decide +kernel)
          simp [slotOf, dstOf] at d0
          simp [opYields, go_sem, d0]
          exact Grow.refl _
        | 2, _ =>
          obtain rfl := Option.some.inj ho
          have d1 := hdep 1 (by decide +kernel)
          simp [slotOf, dstOf] at d1
          simp [opYields, go_sem, d1]
          exact Grow.refl _
        | 3, _ =>
          obtain rfl := Option.some.inj ho
          have d2 := hdep 2 (by decide +kernel)
          simp [slotOf, dstOf] at d2
          simp [opYields, go_sem, d2, c1]
          exact Grow.refl _
        | 4, _ =>
          obtain rfl := Option.some.inj ho
          have o5 := hoff 5 (by decide +kernel)
          simp at o5
          simp [opYields, go_sem, o5]
          exact Grow.refl _
        | 5, _ =>
          obtain rfl := Option.some.inj ho
          have d4 := hdep 4 (by decide +kernel)
          simp [slotOf, dstOf] at d4
          simp [opYields, go_sem, d4, d0]
          exact Grow.refl _
        | 6, _ =>
          obtain rfl := Option.some.inj ho
          have d3 := hdep 3 (by decide +kernel)
          simp [slotOf, dstOf] at d3
          have d5 := hdep 5 (by decide +kernel)
          simp [slotOf, dstOf] at d5
          simp [opYields, go_sem, d3, d5, hrun]
          exact Grow.refl _
        | 7, _ =>
          obtain rfl := Option.some.inj ho
          have d6 := hdep 6 (by decide +kernel)
          simp [slotOf, dstOf] at d6
          simp [opYields, go_sem, d6]
          exact Grow.refl _
        | 8, _ =>
          obtain rfl := Option.some.inj ho
          have d7 := hdep 7 (by decide +kernel)
          simp [slotOf, dstOf] at d7
          simp [opYields, go_sem, d7]
          exact Grow.refl _
        | 9, _ =>
          obtain rfl := Option.some.inj ho
          have d7 := hdep 7 (by decide +kernel)
          simp [slotOf, dstOf] at d7
          simp [opYields, go_sem, d7]
          exact Grow.refl _
        | 10, _ =>
          obtain rfl := Option.some.inj ho
          have d8 := hdep 8 (by decide +kernel)
          simp [slotOf, dstOf] at d8
          simp [opYields, go_sem, d8]
          exact Grow.refl _
        | 11, _ =>
          obtain rfl := Option.some.inj ho
          have d9 := hdep 9 (by decide +kernel)
          simp [slotOf, dstOf] at d9
          simp [opYields, go_sem, d9]
          exact Grow.refl _
        | k + 12, h => exact absurd h (by omega)
      · have v10 := hvals 10 (by omega)
        have v11 := hvals 11 (by omega)
        simp only at v10 v11
        have HG2 : Hid (Grow w w2) := hide (HGV.out.trans hG.undrew)
        clear hvals hG
        simp [over, dstOf, Act.put, v10, v11]
        clear v10 v11
        cases t1 with
        | true =>
          go_wp2_with fail
          refine (refuse_no 5 w2).mono ?_
          rintro e w2 ⟨rfl, hw3⟩
          subst hw3
          go_wp2
          go_roundw
          case rel => exact ⟨k + 1, by omega, by go_num, HG2, hide fun j hj h => by
            by_cases e : j = k
            · subst e; rw [HX.out]; exact HB1.out
            · exact HIX.out j hj (by omega)⟩
          case measure => simp [intOf]; omega
        | false =>
          have HEE : Hid ((5, K) = E) := hide (by
            rw [← HE.out]
            unfold learnP
            rw [if_pos]
            refine ⟨x, by rw [← HX.out]; exact List.getElem_mem hlt, fun hx => ?_⟩
            obtain ⟨y, hy, e⟩ := List.mem_map.1 hx
            have hn : idxNum K x.1 = none := by
              cases h : idxNum K x.1 with
              | none => rfl
              | some q => have := HB1.out; rw [h] at this; cases this
            exact idxNum_none hn y hy e)
          go_wp2_with fail
          refine (refuse_any true 5 w2 (by decide)).mono ?_
          rintro e w4 ⟨rfl, hw4⟩
          rw [if_pos rfl, outc_no (by decide)]
          exact ⟨rfl, by rw [← HEE.out]; rfl, by rw [hw4, ← HEE.out]; exact HM.out.grow HG2.out, by rw [hw4]; exact KeptR.grow HG2.out⟩
    · obtain rfl : k = rs.length := by omega
      have HAL : Hid (∀ x ∈ rs, (idxNum K x.1).isSome = true) := hide fun x hx => by
        obtain ⟨j, hj, rfl⟩ := List.getElem_of_mem hx
        exact HIX.out j hj hj
      have HEE : Hid ((0, rs.foldl updP K) = E) := hide (by
        rw [← HE.out]
        unfold learnP
        rw [if_neg]
        rintro ⟨x, hx, hn⟩
        have := HAL.out x hx
        cases h : idxNum K x.1 with
        | none => rw [h] at this; cases this
        | some q =>
          obtain ⟨hq, e⟩ := idxNum_some h
          exact hn (List.mem_map.2 ⟨K[q], List.getElem_mem hq, e⟩))
      clear HE HIX
      go_wp2
      go_loopw [33] (fun iv w2 => ∃ k : Nat, k ≤ rs.length ∧ iv = .int .i64 k ∧ Hid (memJ w2 B F b ((rs.take k).foldl updP K)) ∧ Hid (KeptR F wr w2)) (fun iv _ => rs.length - (intOf iv).toNat)
      case atStart => exact ⟨0, by omega, rfl, hide (HM.out.grow HGr.out), hide (KeptR.refl _ _)⟩
      case round =>
        obtain ⟨k, hk, rfl, HMJ, HKR⟩ := hrel
        rename World => w2
        by_cases hlt : k < rs.length
        · have hlti : (k : Int) < (rs.length : Int) := by omega
          obtain ⟨rb, rf, rfl, hcell⟩ : ∃ b' o, ao = some ⟨b', o, none⟩ ∧ ∀ w', KeptR (fun k => B ≤ k) w2 w' → w'.cell? ⟨b', o + k * 3, none⟩ = some (.int .i64 rs[k].1) ∧ w'.cell? ⟨b', o + k * 3 + 1, none⟩ = some (.int .i64 rs[k].2.1) ∧ w'.cell? ⟨b', o + k * 3 + 2, none⟩ = some (.int .u64 rs[k].2.2) := by
            obtain ⟨ao', cp', e, h⟩ := HS.out.keep ((KeptR.grow HGr.out).trans (HKR.out.mono HFB.out))
            cases e
            exact h k hlt
          have hpx := HPT.out _ (List.getElem_mem hlt)
          have hal := HAL.out _ (List.getElem_mem hlt)
          have htk : (rs.take (k + 1)).foldl updP K = updP ((rs.take k).foldl updP K) rs[k] := by rw [List.take_succ_eq_append_getElem hlt, List.foldl_append]; rfl
          have hrf := updAll_refs (rs.take k) K
          obtain ⟨M, HMM⟩ : ∃ M, Hid ((rs.take k).foldl updP K = M) := ⟨_, hide rfl⟩
          rw [HMM.out] at HMJ htk hrf
          obtain ⟨x, HX⟩ : ∃ x : Pnt, Hid (rs[k] = x) := ⟨_, hide rfl⟩
          rw [HX.out] at hcell hpx hal htk
          rw [← idxNum_refs hrf] at hal
          have hML : M.length = K.length := by have := congrArg List.length hrf; simpa using this
          obtain ⟨q, hq⟩ : ∃ q, idxNum M x.1 = some q := by
            cases h : idxNum M x.1 with
            | none => rw [h] at hal; cases hal
            | some q => exact ⟨q, rfl⟩
          obtain ⟨hqM, hup⟩ := updP_at (HD.out.refs hrf) hq
          rw [hup] at htk
          obtain ⟨c0, c1, c2⟩ := hcell w2 (KeptR.refl _ _)
          obtain ⟨V, eV, gV, hV⟩ := laid_at w2 #[.int .i64 x.1, .int .i64 x.2.1, .int .u64 x.2.2] 64
          have HV := hide hV
          have HKV : Hid (KeptR F wr V) := hide (HKR.out.trans (KeptR.grow gV))
          obtain ⟨v1, mb, tb, ps, D1, D2, P1⟩ := HMJ.out.grow gV
          obtain ⟨g, cap, lv, hve, hFg, hBg, hgs, _, _, q2, q3, _, hfz⟩ := P1.cells hqM
          subst hve
          have hwf : (Lit.int .i64 x.1).wf = true := WalkArith.wf_i64 (by omega)
          have hkey1 : keyOf Tryz.prog 3 (.int .i64 x.1) = some (.int .i64 x.1) := keyOf_int_mk Tryz.underlying3 hwf
          have hd1 := P1.d1.2 x.1
          have hm1 := P1.m1
          rw [hq] at hd1
          have HL1 : Hid (∀ w2, Grow V w2 → (Instr.lookup 84 (.map (some mb)) (.int .i64 x.1) false).run Tryz.prog w2 = .ok (.int .i64 q) w2) := hide fun w2 g => by
            obtain ⟨c, hrun, hat, _⟩ := World.ownsMap.lookup_int (hm1.kept (grownG g) (by simp)) Tryz.keyInt Tryz.underlying84 Tryz.underlying3 (Tryz.zeroInt w2) hkey1
            rw [hd1.2] at hat
            simp at hat
            rw [← hat] at hrun
            exact hrun
          have HAT := hide P1.at'
          have HP1 := hide P1
          have HHQ2 : Hid (∀ W, Grow V W → W.cell? ⟨g, q * 4 + 2, none⟩ = some (.int .i64 M[q].2.1) ∧ W.cell? ⟨g, q * 4 + 3, none⟩ = some (.bool M[q].2.2) ∧ W.frozen? ⟨g, q * 4 + 2, none⟩ = false ∧ W.frozen? ⟨g, q * 4 + 3, none⟩ = false) := hide fun W hW => by
            have hgV : g < V.heap.size := hgs
            have e := hW.block g hgV
            exact ⟨(World.cell?_of_block e).trans q2, (World.cell?_of_block e).trans q3, by simp only [World.frozen?, e]; exact hfz _, by simp only [World.frozen?, e]; exact hfz _⟩
          obtain ⟨last, HLA⟩ : ∃ t, Hid (M[q].2.1 = t) := ⟨_, hide rfl⟩
          obtain ⟨hs, HHS⟩ : ∃ t, Hid (M[q].2.2 = t) := ⟨_, hide rfl⟩
          rw [HLA.out, HHS.out] at HHQ2 htk
          have HTK := hide htk
          have HPX := hide hpx
          have hqi : (q : Int) < (M.length : Int) := by omega
          clear hV gV hcell P1 hd1 hm1 hkey1 hwf hup htk hal hrf hq q2 q3 hfz hpx
          go_wp2
          clear c0 c1 c2 eV
          refine wp_region_free 13 72 mixedR rfl (by decide +kernel) Grow (fun _ _ _ => Grow.trans) (Grow.refl _)
            (fun i' v _ => match i' with
              | 0 => v = .pointer (some ⟨b, 0, none⟩)
              | 1 => v = .pointer (some ⟨b, 0, none⟩)
              | 2 => v = .pointer (some ⟨b, 0, none⟩)
              | 3 => v = .slice (some ⟨g, 0, none⟩) M.length cap
              | 4 => v = .pointer (some ⟨b, 0, none⟩)
              | 5 => v = .pointer (some ⟨b, 0, none⟩)
              | 6 => v = .pointer (some ⟨b, 1, none⟩)
              | 7 => v = .map (some mb)
              | 8 => v = .pointer (some ⟨w2.heap.size, 0, none⟩)
              | 9 => v = .int .i64 x.1
              | 10 => v = .int .i64 q
              | _ => v = .pointer (some ⟨g, q * 4, none⟩))
            (fun i v w w' h hg => h) (fun _ _ => False) (fun _ _ _ _ h => h.elim) (fun i' hi o ho a w3 hG hoff hdep => ?_) (fun vals w3 hG hvals => ?_)
          · have hg2 : Grow V w3 := hG.undrew
            obtain ⟨c0, c1, c2⟩ := three_of (hg2.get HAT.out)
            obtain ⟨d0, d1, d2⟩ := three_of (hg2.get HV.out)
            have hrun := HL1.out w3 hg2
            match i', hi with
            | 0, _ =>
              obtain rfl := Option.some.inj ho
              have o0 := hoff 0 (by decide +kernel)
              simp at o0
              simp [opYields, go_sem, o0]
              exact Grow.refl _
            | 1, _ =>
              obtain rfl := Option.some.inj ho
              have d0 := hdep 0 (by decide +kernel)
              simp [slotOf, dstOf] at d0
              simp [opYields, go_sem, d0]
              exact Grow.refl _
            | 2, _ =>
              obtain rfl := Option.some.inj ho
              have d1 := hdep 1 (by decide +kernel)
              simp [slotOf, dstOf] at d1
              simp [opYields, go_sem, d1]
              exact Grow.refl _
            | 3, _ =>
              obtain rfl := Option.some.inj ho
              have d2 := hdep 2 (by decide +kernel)
              simp [slotOf, dstOf] at d2
              simp [opYields, go_sem, d2, c0]
              exact Grow.refl _
            | 4, _ =>
              obtain rfl := Option.some.inj ho
              have o0 := hoff 0 (by decide +kernel)
              simp at o0
              simp [opYields, go_sem, o0]
              exact Grow.refl _
            | 5, _ =>
              obtain rfl := Option.some.inj ho
              have d4 := hdep 4 (by decide +kernel)
              simp [slotOf, dstOf] at d4
              simp [opYields, go_sem, d4]
              exact Grow.refl _
            | 6, _ =>
              obtain rfl := Option.some.inj ho
              have d5 := hdep 5 (by decide +kernel)
              simp [slotOf, dstOf] at d5
              simp [opYields, go_sem, d5]
              exact Grow.refl _
            | 7, _ =>
              obtain rfl := Option.some.inj ho
              have d6 := hdep 6 (by decide +kernel)
              simp [slotOf, dstOf] at d6
              simp [opYields, go_sem, d6, c1]
              exact Grow.refl _
            | 8, _ =>
              obtain rfl := Option.some.inj ho
              have o9 := hoff 9 (by decide +kernel)
              simp at o9
              simp [opYields, go_sem, o9]
              exact Grow.refl _
            | 9, _ =>
              obtain rfl := Option.some.inj ho
              have d8 := hdep 8 (by decide +kernel)
              simp [slotOf, dstOf] at d8
              simp [opYields, go_sem, d8, d0]
              exact Grow.refl _
            | 10, _ =>
              obtain rfl := Option.some.inj ho
              have d7 := hdep 7 (by decide +kernel)
              simp [slotOf, dstOf] at d7
              have d9 := hdep 9 (by decide +kernel)
              simp [slotOf, dstOf] at d9
              simp [opYields, go_sem, d7, d9, hrun]
              exact Grow.refl _
            | 11, _ =>
              obtain rfl := Option.some.inj ho
              have d3 := hdep 3 (by decide +kernel)
              simp [slotOf, dstOf] at d3
              have d10 := hdep 10 (by decide +kernel)
              simp [slotOf, dstOf] at d10
              simp [opYields, go_sem, d3, d10, hqi]
              exact Grow.refl _
            | 12, _ =>
              obtain rfl := Option.some.inj ho
              have d11 := hdep 11 (by decide +kernel)
              simp [slotOf, dstOf] at d11
              simp [opYields, go_sem, d11]
              exact Grow.refl _
            | k + 13, h => exact absurd h (by omega)
          · have v12 := hvals 12 (by omega)
            simp only at v12
            have HG3 : Hid (Grow V w3) := hide hG.undrew
            clear hvals hG
            simp [over, dstOf, Act.put, v12]
            clear v12
            obtain ⟨q2, q3, z2, z3⟩ := HHQ2.out w3 HG3.out
            obtain ⟨d0, d1, d2⟩ := three_of (HG3.out.get HV.out)
            have hfin : ∀ W : World, Grow w3 W → memJ ((W.setCell ⟨g, q * 4 + 2, none⟩ (.int .i64 x.2.1)).setCell ⟨g, q * 4 + 3, none⟩ (.bool true)) B F b (M.set q (M[q].1, x.2.1, true)) ∧ KeptR F wr ((W.setCell ⟨g, q * 4 + 2, none⟩ (.int .i64 x.2.1)).setCell ⟨g, q * 4 + 3, none⟩ (.bool true)) := fun W hW => by
              obtain ⟨h1, h2⟩ := (HP1.out.grow (HG3.out.trans hW)).upd HFB.out hqM rfl x.2.1
              exact ⟨h1, HKV.out.trans ((KeptR.grow (HG3.out.trans hW)).trans h2)⟩
            have HFIN := hide hfin
            have HSAME : Hid (∀ W : World, Grow w3 W → memJ W B F b M ∧ KeptR F wr W) := hide fun W hW => ⟨⟨_, _, _, _, _, _, HP1.out.grow (HG3.out.trans hW)⟩, HKV.out.trans (KeptR.grow (HG3.out.trans hW))⟩
            clear hfin
            cases hs with
            | false =>
              as_aux_lemma =>
                rw [if_pos (.inl rfl)] at HTK
                go_wp2
                go_quiet (fail)
                go_wp2
                go_roundw
                case rel => exact ⟨k + 1, by omega, by go_num, hide (by rw [HTK.out]; exact (HFIN.out _ (grow_drewR _ _)).1), hide (HFIN.out _ (grow_drewR _ _)).2⟩
                case measure => simp [intOf]; omega
            | true =>
              by_cases hlt2 : last < x.2.1
              · as_aux_lemma =>
                  rw [if_pos (.inr hlt2)] at HTK
                  have hdl : decide (last < x.2.1) = true := decide_eq_true hlt2
                  clear hlt2
                  go_wp2
                  go_quiet (fail)
                  go_wp2
                  go_roundw
                  case rel => exact ⟨k + 1, by omega, by go_num, hide (by rw [HTK.out]; exact (HFIN.out _ (grow_drewR _ _)).1), hide (HFIN.out _ (grow_drewR _ _)).2⟩
                  case measure => simp [intOf]; omega
              · as_aux_lemma =>
                  rw [if_neg (by simp; omega)] at HTK
                  have hdl : decide (last < x.2.1) = false := decide_eq_false hlt2
                  clear hlt2
                  go_wp2
                  go_quiet (fail)
                  go_wp2
                  go_roundw
                  case rel => exact ⟨k + 1, by omega, by go_num, hide (by rw [HTK.out]; exact (HSAME.out _ (grow_drewR _ _)).1), hide (HSAME.out _ (grow_drewR _ _)).2⟩
                  case measure => simp [intOf]; omega
        · obtain rfl : k = rs.length := by omega
          rw [List.take_of_length_le (Nat.le_refl _)] at HMJ
          go_wp2
          go_end0
          exact ⟨by rw [← HEE.out]; rfl, by rw [← HEE.out]; exact HMJ.out, (KeptR.grow HGr.out).trans HKR.out⟩
end Go.Proofs.YtkaeogldielkfaaGreat.Rc
namespace Go.Proofs.YtkaeogldielkfaaGreat.Rc
open Go.RowKit Lb
attribute [local go_sem] bs_size bs_toList bs_append bs_get bs_extract
set_option maxRecDepth 20000 in
set_option maxHeartbeats 4000000 in
theorem learn_any (w : World) (B : Nat) (F : Nat → Prop) (b : Nat) (K : List Kp) (vr vp : Value) (r : Rcd) (hm : memJ w B F b K) (hF : ∀ k, w.heap.size ≤ k → F k) (hFB : ∀ k, F k → B ≤ k) (hBw : B ≤ w.heap.size) (hd : Dist K) (hr : rightM K) (hsr : SR B w vr r.refs) (hsp : SP B w vp r.points) (hre : recErr r = 0) (hKl : K.length ≤ 1000) :
    Calls Tryz.prog 26 #[.pointer (some ⟨b, 0, none⟩), .agg #[.int .i64 r.kind, vr, vp]] w fun e w' => e = outc (learnR K r).1 ∧ memJ w' B F b (learnR K r).2 ∧ KeptR F w w' := by
  obtain ⟨hk, hl1, hl2, he1, he2⟩ := recErr_zero hre
  obtain ⟨W, eW, gW, hW⟩ := laid_at w #[.int .i64 r.kind, vr, vp] 29
  have hs := gW.size
  have HS := hide (series_any W B F b K vr r.refs (hm.grow gW) (fun k h => hF k (by omega)) hFB (by omega) hd hr (hsr.keep (KeptR.grow gW)) he1 hl1 hKl)
  have HP := hide (samples_any W B F b K vp r.points (hm.grow gW) hFB (by omega) hd (hsp.keep (KeptR.grow gW)) he2 hl2 hKl)
  have HKW : Hid (KeptR F w W) := hide (KeptR.grow gW)
  obtain ⟨c0, c1, c2⟩ := three_of hW
  obtain ⟨E, HE⟩ : ∃ E, Hid (learnR K r = E) := ⟨_, hide rfl⟩
  rw [HE.out]
  obtain ⟨ro, rc, hvr, _⟩ := id hsr
  obtain ⟨po, pc, hvp, _⟩ := id hsp
  subst hvr hvp
  clear hm hF hFB hd hr hsr hsp hre he1 he2 hW gW hs
  by_cases h1 : r.kind = 1
  · have hE1 : learnS K r.refs = E := by rw [← HE.out]; unfold learnR; rw [if_pos h1]
    have hki : (r.kind == 1) = true := by simp [h1]
    rw [hE1] at HS
    clear HE HP h1 hk hE1
    go_enter Tryz.func26, Tryz.ntmps26
    go_wp2_with fail
    refine HS.out.mono ?_
    rintro e w1 ⟨rfl, hm1, hk1⟩
    have HM1 := hide hm1
    have HK1 := hide (HKW.out.trans hk1)
    clear hm1 hk1 HS
    by_cases h0 : E.1 = 0
    · have HZ := hide h0
      rw [h0, outc_ok]
      clear h0
      go_wp2
      go_end0
      exact ⟨by rw [HZ.out, outc_ok], HM1.out, HK1.out⟩
    · rw [outc_no h0]
      exact ⟨rfl, by rw [outc_no h0], HM1.out, HK1.out⟩
  · have hE1 : learnP K r.points = E := by rw [← HE.out]; unfold learnR; rw [if_neg h1]
    have hki : (r.kind == 1) = false := by simp [h1]
    rw [hE1] at HP
    clear HE HS h1 hk hE1
    go_enter Tryz.func26, Tryz.ntmps26
    go_wp2_with fail
    refine HP.out.mono ?_
    rintro e w1 ⟨rfl, hm1, hk1⟩
    have HM1 := hide hm1
    have HK1 := hide (HKW.out.trans hk1)
    clear hm1 hk1 HP
    by_cases h0 : E.1 = 0
    · have HZ := hide h0
      rw [h0, outc_ok]
      clear h0
      go_wp2
      go_end0
      exact ⟨by rw [HZ.out, outc_ok], HM1.out, HK1.out⟩
    · rw [outc_no h0]
      exact ⟨rfl, by rw [outc_no h0], HM1.out, HK1.out⟩
/-! ### what is known, one by one -/
def kpAt (k : Knw) (i : Nat) : Kp := (k.refs.getD i (0, []), k.lasts.getD i 0, k.has.getD i false)
def kpsOf (k : Knw) (n : Nat) : List Kp := (List.range n).map (kpAt k)
theorem kpsOf_succ (k : Knw) (n : Nat) : kpsOf k (n + 1) = kpsOf k n ++ [kpAt k n] := by unfold kpsOf; rw [List.range_succ, List.map_append]; rfl
theorem kpsOf_length (k : Knw) (n : Nat) : (kpsOf k n).length = n := by unfold kpsOf; simp
theorem knwErr_zero {k : Knw} (h : knwErr k = 0) : k.lasts.length = k.refs.length ∧ k.has.length = k.refs.length ∧ k.refs.length ≤ 1000 ∧ (∀ i, i < k.refs.length → oneErr k i = 0) ∧ dupB k.refs = false := by
  unfold knwErr at h
  split at h
  · cases h
  · rename_i h1
    split at h
    · cases h
    · rename_i h2
      split at h
      · rename_i h3; exact absurd h h3
      · rename_i h3
        split at h
        · cases h
        · rename_i h4
          exact ⟨by omega, by omega, by omega, oneErr_of (by omega), by simpa using h4⟩
theorem oneErr_rise {k : Knw} {i : Nat} (h : oneErr k i = 0) (hi : 0 < i) : (k.refs.getD (i - 1) (0, [])).1 < (k.refs.getD i (0, [])).1 := by
  unfold oneErr at h
  split at h
  · rename_i h0; exact absurd h h0
  · split at h
    · cases h
    · split at h
      · cases h
      · split at h
        · cases h
        · rename_i h4
          by_cases hc : (k.refs.getD i (0, [])).1 ≤ (k.refs.getD (i - 1) (0, [])).1
          · exact absurd ⟨hi, hc⟩ h4
          · omega
theorem refs_rise {k : Knw} (h : knwErr k = 0) : ∀ j i, i < j → j < k.refs.length → (k.refs.getD i (0, [])).1 < (k.refs.getD j (0, [])).1
  | 0, i, hi, _ => by omega
  | j + 1, i, hi, hj => by
    have h1 := oneErr_rise ((knwErr_zero h).2.2.2.1 (j + 1) hj) (by omega)
    rw [Nat.add_sub_cancel] at h1
    by_cases e : i = j
    · subst e; exact h1
    · have := refs_rise h j i (by omega) (by omega)
      omega
theorem kpsOf_mem {k : Knw} {n : Nat} {y : Kp} (h : y ∈ kpsOf k n) : ∃ i, i < n ∧ y = kpAt k i := by
  obtain ⟨i, hi, rfl⟩ := List.mem_map.1 h
  exact ⟨i, List.mem_range.1 hi, rfl⟩
theorem kps_right {k : Knw} (h : knwErr k = 0) {n : Nat} (hn : n ≤ k.refs.length) : rightM (kpsOf k n) := fun y hy => by
  obtain ⟨i, hi, rfl⟩ := kpsOf_mem hy
  exact oneErr_ref ((knwErr_zero h).2.2.2.1 i (by omega))
theorem kps_new {k : Knw} (h : knwErr k = 0) {n : Nat} (hn : n < k.refs.length) : knowsR (kpsOf k n) (kpAt k n).1 = 0 := knowsR_of fun y hy => by
  obtain ⟨i, hi, rfl⟩ := kpsOf_mem hy
  refine ⟨fun e => ?_, fun e => ?_⟩
  · have := refs_rise h n i hi hn
    have e' : (k.refs.getD i (0, [])).1 = (k.refs.getD n (0, [])).1 := e
    omega
  · have e' : (k.refs.getD i (0, [])).2 = (k.refs.getD n (0, [])).2 := e
    have hil : i < k.refs.length := by omega
    have g1 : k.refs.getD i (0, []) = k.refs[i] := by simp [hil]
    have g2 : k.refs.getD n (0, []) = k.refs[n] := by simp [hn]
    rw [g1, g2] at e'
    exact dupB_false.1 (knwErr_zero h).2.2.2.2 i n hil hn hi e'
theorem kps_dist {k : Knw} (h : knwErr k = 0) : ∀ {n : Nat}, n ≤ k.refs.length → Dist (kpsOf k n)
  | 0, _ => Dist.nil
  | n + 1, hn => by
    rw [kpsOf_succ]
    exact (kps_dist h (by omega)).snoc (kps_new h (by omega))
set_option maxRecDepth 20000 in
set_option maxHeartbeats 16000000 in
theorem recall_any (w : World) (B : Nat) (F : Nat → Prop) (b : Nat) (vr vl vh : Value) (k : Knw) (hm : memJ w B F b []) (hF : ∀ k, w.heap.size ≤ k → F k) (hFB : ∀ k, F k → B ≤ k) (hBw : B ≤ w.heap.size) (hv : readsKnw w B vr vl vh k) (hke : knwErr k = 0) :
    Calls Tryz.prog 25 #[.pointer (some ⟨b, 0, none⟩), .agg #[vr, vl, vh]] w fun e w' => e = .returned (.tuple #[]) ∧ memJ w' B F b (kpsOf k k.refs.length) ∧ KeptR F w w' := by
  obtain ⟨hl1, hl2, hl3, _, _⟩ := knwErr_zero hke
  obtain ⟨W, eW, gW, hW⟩ := laid_at w #[vr, vl, vh] 26
  have HKW : Hid (KeptR F w W) := hide (KeptR.grow gW)
  have HMW := hide (hm.grow gW)
  have hs := gW.size
  have HW := hide hW
  have HV := hide hv
  have HKE := hide hke
  have HF := hide hF
  have HFB := hide hFB
  obtain ⟨hvr, hvl, hvh⟩ := hv
  obtain ⟨ro, rc, e1, _⟩ := id hvr
  obtain ⟨lo, lc, e2, _⟩ := id hvl
  obtain ⟨ho, hc, e3, _⟩ := id hvh
  subst e1 e2 e3
  obtain ⟨c0, c1, c2⟩ := three_of hW
  have HL1 := hide hl1
  have HL2 := hide hl2
  clear hm hF hFB hvr hvl hvh hW gW hke hl1 hl2
  go_enter Tryz.func25, Tryz.ntmps25
  go_wp2
  go_loopw [9] (fun iv wr => ∃ n : Nat, n ≤ k.refs.length ∧ iv = .int .i64 n ∧ Hid (memJ wr B F b (kpsOf k n)) ∧ Hid (KeptR F W wr)) (fun iv _ => k.refs.length - (intOf iv).toNat)
  case atStart => exact ⟨0, by omega, rfl, HMW, hide (KeptR.refl _ _)⟩
  case round =>
    obtain ⟨n, hn, rfl, HMJ, HKR⟩ := hrel
    rename World => wr
    clear c0 c1 c2
    have HBL : Hid (Below B w wr) := hide ((HKW.out.trans HKR.out).below HFB.out hBw)
    by_cases hlt : n < k.refs.length
    · have hlti : (n : Int) < (k.refs.length : Int) := by omega
      have hnl : n < k.lasts.length := by rw [HL1.out]; exact hlt
      have hnh : n < k.has.length := by rw [HL2.out]; exact hlt
      have hnli : (n : Int) < (k.lasts.length : Int) := by omega
      have hnhi : (n : Int) < (k.has.length : Int) := by omega
      obtain ⟨q1, q2, q3⟩ := HV.out.keep HBL.out
      obtain ⟨rb, rf, vl, rfl, hrB, hls, c0, c1⟩ : ∃ b' o vl, ro = some ⟨b', o, none⟩ ∧ b' < B ∧ readsLabels wr B vl k.refs[n].2 ∧ wr.cell? ⟨b', o + n * 2, none⟩ = some (.int .i64 k.refs[n].1) ∧ wr.cell? ⟨b', o + n * 2 + 1, none⟩ = some vl := by
        obtain ⟨ao', cp', e, h⟩ := q1
        cases e
        exact h n hlt
      obtain ⟨tb, tf, rfl, htB, t0⟩ : ∃ b' o, lo = some ⟨b', o, none⟩ ∧ b' < B ∧ wr.cell? ⟨b', o + n, none⟩ = some (.int .i64 k.lasts[n]) := by
        obtain ⟨ao', cp', e, h⟩ := q2
        cases e
        exact h n hnl
      obtain ⟨bb, bf, rfl, hbB, b0⟩ : ∃ b' o, ho = some ⟨b', o, none⟩ ∧ b' < B ∧ wr.cell? ⟨b', o + n, none⟩ = some (.bool k.has[n]) := by
        obtain ⟨ao', cp', e, h⟩ := q3
        cases e
        exact h n hnh
      have hka : kpAt k n = (k.refs[n], k.lasts[n], k.has[n]) := by unfold kpAt; simp [hlt, hnl, hnh]
      have hnew := kps_new HKE.out hlt
      have hdis := kps_dist HKE.out (n := n) (by omega)
      have hrig := kps_right HKE.out (n := n) (by omega)
      have hre : refErr (kpAt k n).1 = 0 := oneErr_ref ((knwErr_zero HKE.out).2.2.2.1 n hlt)
      obtain ⟨x, HX⟩ : ∃ x : RefL, Hid (k.refs[n] = x) := ⟨_, hide rfl⟩
      obtain ⟨t, HT⟩ : ∃ x : Int, Hid (k.lasts[n] = x) := ⟨_, hide rfl⟩
      obtain ⟨s, HS⟩ : ∃ x : Bool, Hid (k.has[n] = x) := ⟨_, hide rfl⟩
      rw [HX.out, HT.out, HS.out] at hka
      rw [hka] at hnew hre
      rw [HX.out] at hls c0
      rw [HT.out] at t0
      rw [HS.out] at b0
      have hsB := HBL.out.size
      obtain ⟨V, eV, gV, hV⟩ := laid_at wr #[.int .i64 x.1, vl] 59
      have HV2 := hide hV
      have HKV : Hid (KeptR F W V) := hide (HKR.out.trans (KeptR.grow gV))
      have HAD := hide (fun W2 (g : Grow V W2) => add_any W2 B F b (kpsOf k n) (x, t, s) vl (HMJ.out.grow (gV.trans g)) (fun k h => HF.out k (by have := g.size; have := gV.size; omega)) HFB.out (by have := g.size; have := gV.size; omega) hre hnew hdis hrig ((SL.of_reads hls (by omega)).keep (KeptR.grow (gV.trans g))) (by rw [kpsOf_length]; omega))
      have HKS : Hid (kpsOf k (n + 1) = kpsOf k n ++ [(x, t, s)]) := hide (by rw [kpsOf_succ, hka])
      have HT0 : Hid (∀ W2, Grow V W2 → W2.cell? ⟨tb, tf + n, none⟩ = some (.int .i64 t)) := hide fun W2 g => ((gV.trans g).cell (p := ⟨tb, _, none⟩) (show tb < wr.heap.size by omega)).trans t0
      have HB0 : Hid (∀ W2, Grow V W2 → W2.cell? ⟨bb, bf + n, none⟩ = some (.bool s)) := hide fun W2 g => ((gV.trans g).cell (p := ⟨bb, _, none⟩) (show bb < wr.heap.size by omega)).trans b0
      have HWV : Hid (V.heap[w.heap.size]? = some (.cells #[.slice (some ⟨rb, rf, none⟩) k.refs.length rc, .slice (some ⟨tb, tf, none⟩) k.lasts.length lc, .slice (some ⟨bb, bf, none⟩) k.has.length hc] 26 (0, 0))) := hide (HKV.out.typed _ _ _ _ HW.out (by decide) (by decide) (by decide))
      obtain ⟨xo, xc, hvl⟩ := readsLabels_len hls
      subst hvl
      obtain ⟨d0, d1⟩ := two_of hV
      clear hV gV hls hnew hdis hrig hre hka q1 q2 q3 t0 b0
      go_wp2
      clear c0 c1 eV d0 d1
      refine wp_region_free 13 29 mixedR rfl (by decide +kernel) Grow (fun _ _ _ => Grow.trans) (Grow.refl _)
        (fun i' v _ => match i' with
          | 0 => v = .pointer (some ⟨b, 0, none⟩)
          | 1 => v = .agg #[.int .i64 x.1, .slice xo x.2.length xc]
          | 2 => v = .pointer (some ⟨w.heap.size, 1, none⟩)
          | 3 => v = .slice (some ⟨tb, tf, none⟩) k.lasts.length lc
          | 4 => v = .int .i64 n
          | 5 => v = .pointer (some ⟨tb, tf + n, none⟩)
          | 6 => v = .int .i64 t
          | 7 => v = .pointer (some ⟨w.heap.size, 2, none⟩)
          | 8 => v = .slice (some ⟨bb, bf, none⟩) k.has.length hc
          | 9 => v = .int .i64 n
          | 10 => v = .pointer (some ⟨bb, bf + n, none⟩)
          | 11 => v = .bool s
          | _ => v = .agg #[.int .i64 x.1, .slice xo x.2.length xc, .int .i64 t, .bool s])
        (fun i v w w' h hg => h) (fun _ _ => False) (fun _ _ _ _ h => h.elim) (fun i' hi o ho a w3 hG hoff hdep => ?_) (fun vals w3 hG hvals => ?_)
      · have hg2 : Grow V w3 := hG.undrew
        obtain ⟨c0, c1, c2⟩ := three_of (hg2.get HWV.out)
        obtain ⟨d0, d1⟩ := two_of (hg2.get HV2.out)
        have t0 := HT0.out w3 hg2
        have b0 := HB0.out w3 hg2
        match i', hi with
        | 0, _ =>
          obtain rfl := Option.some.inj ho
          have o0 := hoff 0 (by decide +kernel)
          simp at o0
          simp [opYields, go_sem, o0]
          exact Grow.refl _
        | 1, _ =>
          obtain rfl := Option.some.inj ho
          have o5 := hoff 5 (by decide +kernel)
          simp at o5
          simp [opYields, go_sem, o5, d0, d1]
          exact Grow.refl _
        | 2, _ =>
          obtain rfl := Option.some.inj ho
          have o3 := hoff 3 (by decide +kernel)
          simp at o3
          simp [opYields, go_sem, o3]
          exact Grow.refl _
        | 3, _ =>
          obtain rfl := Option.some.inj ho
          have d2 := hdep 2 (by decide +kernel)
          simp [slotOf, dstOf] at d2
          simp [opYields, go_sem, d2, c1]
          exact Grow.refl _
        | 4, _ =>
          obtain rfl := Option.some.inj ho
          have o4 := hoff 4 (by decide +kernel)
          simp at o4
          simp [opYields, go_sem, o4]
          exact Grow.refl _
        | 5, _ =>
          obtain rfl := Option.some.inj ho
          have d3 := hdep 3 (by decide +kernel)
          simp [slotOf, dstOf] at d3
          have d4 := hdep 4 (by decide +kernel)
          simp [slotOf, dstOf] at d4
          simp [opYields, go_sem, d3, d4, hnli]
          exact Grow.refl _
        | 6, _ =>
          obtain rfl := Option.some.inj ho
          have d5 := hdep 5 (by decide +kernel)
          simp [slotOf, dstOf] at d5
          simp [opYields, go_sem, d5, t0]
          exact Grow.refl _
        | 7, _ =>
          obtain rfl := Option.some.inj ho
          have o3 := hoff 3 (by decide +kernel)
          simp at o3
          simp [opYields, go_sem, o3]
          exact Grow.refl _
        | 8, _ =>
          obtain rfl := Option.some.inj ho
          have d7 := hdep 7 (by decide +kernel)
          simp [slotOf, dstOf] at d7
          simp [opYields, go_sem, d7, c2]
          exact Grow.refl _
        | 9, _ =>
          obtain rfl := Option.some.inj ho
          have o4 := hoff 4 (by decide +kernel)
          simp at o4
          simp [opYields, go_sem, o4]
          exact Grow.refl _
        | 10, _ =>
          obtain rfl := Option.some.inj ho
          have d8 := hdep 8 (by decide +kernel)
          simp [slotOf, dstOf] at d8
          have d9 := hdep 9 (by decide +kernel)
          simp [slotOf, dstOf] at d9
          simp [opYields, go_sem, d8, d9, hnhi]
          exact Grow.refl _
        | 11, _ =>
          obtain rfl := Option.some.inj ho
          have d10 := hdep 10 (by decide +kernel)
          simp [slotOf, dstOf] at d10
          simp [opYields, go_sem, d10, b0]
          exact Grow.refl _
        | 12, _ =>
          obtain rfl := Option.some.inj ho
          have d1 := hdep 1 (by decide +kernel)
          simp [slotOf, dstOf] at d1
          have d6 := hdep 6 (by decide +kernel)
          simp [slotOf, dstOf] at d6
          have d11 := hdep 11 (by decide +kernel)
          simp [slotOf, dstOf] at d11
          simp [opYields, go_sem, d1, d6, d11]
          exact Grow.refl _
        | k + 13, h => exact absurd h (by omega)
      · have v0 := hvals 0 (by omega)
        have v12 := hvals 12 (by omega)
        simp only at v0 v12
        have HG3 : Hid (Grow V w3) := hide hG.undrew
        clear hvals hG
        simp [over, dstOf, Act.put, v0, v12]
        clear v0 v12
        have HAD3 := hide (HAD.out w3 HG3.out)
        clear HAD
        go_wp2_with fail
        refine HAD3.out.mono ?_
        rintro e w7 ⟨rfl, hm7, hk7⟩
        have HM7 : Hid (memJ w7 B F b (kpsOf k (n + 1))) := hide (by rw [HKS.out]; exact hm7)
        have HK7 : Hid (KeptR F W w7) := hide ((HKV.out.trans (KeptR.grow HG3.out)).trans hk7)
        clear hm7 hk7 HAD3
        go_wp2
        go_roundw
        case rel => exact ⟨n + 1, by omega, by go_num, HM7, HK7⟩
        case measure => simp [intOf]; omega
    · obtain rfl : n = k.refs.length := by omega
      go_wp2
      go_end0
      exact ⟨rfl, HMJ.out, HKW.out.trans HKR.out⟩
end Go.Proofs.YtkaeogldielkfaaGreat.Rc
