/- 2 texts in one. -/
import Derived.Laws.OwnMore
import Derived.Test.YtndpjdmfkhjiiaaGreatDoorProg
import Derived.Test.YtndpjdmfkhjiiaaGreatDoorQ74d152
import Derived.Test.YtndpjdmfkhjiiaaGreatDoorLBegV
import Derived.Test.YtndpjdmfkhjiiaaGreatDoorQe64d52
import Derived.Test.YtndpjdmfkhjiiaaGreatDoorQaab1cc
import Derived.Test.YtndpjdmfkhjiiaaGreatDoorQef246a
import Derived.BigFrame
import Derived.BigQuiet
import Derived.Lib.Join
/- RelabelJoins: rows of rules put together; the law's walk. -/
set_option linter.unusedVariables false
set_option linter.unusedSimpArgs false
namespace Go.Proofs.YtndpjdmfkhjiiaaGreatDoor.Rl
open Go.RowKit Lb
attribute [local go_sem] bs_size bs_toList bs_append bs_get bs_extract

theorem append_nilC {w : World} (base : Nat) (t ty e : TypeId) (i : TypeInfo) (size cp : Nat) (ht : Tryz.prog.underlying t = some (.slice e)) (hi : Tryz.prog.info? e = some i)
    (v : Value) (n : Nat) (xs : List Value) (hown : w.ownsRow base e size v n xs) :
    (Builtin.append_ #[t, t] ty #[v, .slice none 0 cp]).run Tryz.prog w = .ok v w := by
  rcases hown.2 with ⟨rfl, rfl⟩ | ⟨g, cap, cur, rfl, _, _, hnc, _⟩
  · simp [Builtin.append_, run_underlying ht, sizeOf, typeInfo, hi, Builtin.lenOf, Builtin.firstCells]
  · simp [Builtin.append_, run_underlying ht, sizeOf, typeInfo, hi, Builtin.lenOf, Builtin.firstCells, hnc, storeCells]

/-- Rules behind a row of the call's own. -/
theorem append_rules {w : World} {ops : Array Oper} {rest : List Oper} {o : Oper} {a : Act} {Q : Exit → Act → World → Prop} (hw : Region.wanted o (yielded ops a.tmps) = true) (s x : Operand)
    (ho : o.op = .call { callee := .builtin .append, args := #[s, x], argTypes := #[30, 30] })
    (base n1 n2 n : Nat) (v v2 : Value) (qs ps : List (Rul × Value)) (hs : a.eval s = v) (hx : a.eval x = v2) (hn : n1 + n2 = n)
    (hown : w.ownsRow base 24 7 v n1 (rulesC qs)) (hl : ps.length = n2)
    (hrd : (n2 = 0 ∧ ∃ ao cp, v2 = .slice ao 0 cp) ∨ ∃ b o cp, v2 = .slice (some ⟨b, o, none⟩) n2 cp ∧ ∀ j u, (rulesC ps)[j]? = some u → w.cell? ((⟨b, o, none⟩ : Addr).add j) = some u)
    (hone : ∀ u ∈ rulesC ps, u.oneCell' = true) (hlen : n ≤ 4000000) (hbase : base ≤ w.heap.size)
    (h : ∀ ao cp w', w'.ownsRow base 24 7 (.slice ao n cp) n (rulesC (qs ++ ps)) → Below base w w' → wpList Tryz.prog ops Q rest (a.put o.dst (.slice ao n cp)) w') : wpList Tryz.prog ops Q (o :: rest) a w := by
  subst hn
  obtain ⟨i0, hi0, hz0, hz1, hz2⟩ := info_parts Tryz.infoRule
  refine wpList_step fun K hK => ?_
  rw [if_pos hw]
  obtain ⟨ao, cp, rfl⟩ := own_shape hown
  have main : ∀ (ad : Addr) (c : Nat), v2 = .slice (some ad) n2 c → (∀ j u, (rulesC ps)[j]? = some u → w.cell? (ad.add j) = some u) → o.wp Tryz.prog a w K Q := by
    intro ad c e hc
    subst e
    refine wp_append_own w s x 30 ho base 24 i0 _ 7 104 Tryz.underlying30 hi0 hz0 hz1 hz2 rfl (by omega) _ n1 (rulesC qs) hs hown ad n2 c (rulesC ps) hx (by rw [rulesC_len, hl]) hc hone (by unfold maxLen; omega) (by omega) hbase ?_
    intro v' w' hown' hgrow _
    obtain ⟨ao', cp', rfl⟩ := own_shape hown'
    exact hK _ _ (h ao' cp' w' (by rw [rulesC_append]; exact hown') ((Below.refl base w).grown hgrow hbase (fun k hk => (hown.lt k hk).1)))
  rcases hrd with ⟨rfl, ao2, cp2, rfl⟩ | ⟨b, off, c, rfl, hc⟩
  · have hps : ps = [] := List.eq_nil_of_length_eq_zero hl
    subst hps
    cases ao2 with
    | none =>
      have hrun := append_nilC base 30 o.type 24 i0 7 cp2 Tryz.underlying30 hi0 _ n1 (rulesC qs) hown
      unfold Oper.wp
      simp [execOp, ho, resolve, invoke, builtin, hs, hx, hrun, Result.andThen]
      exact hK _ _ (h ao cp w (by simpa using hown) (Below.refl _ _))
    | some ad => exact main ad cp2 rfl (fun j u hj => by simp [rulesC] at hj)
  · exact main _ c rfl hc

/-- A row of the call's own, read. -/
theorem reads_rules {w : World} {base n : Nat} {v : Value} {ps : List (Rul × Value)} (h : w.ownsRow base 24 7 v n (rulesC ps)) (hn : n = ps.length)
    (hall : ∀ p ∈ ps, readsStrs w w.heap.size p.2 p.1.sources) : readsRules w w.heap.size v (ps.map Prod.fst) := by
  obtain ⟨ao, cp, e⟩ := own_shape h
  refine ⟨ao, cp, by rw [e, hn, List.length_map], fun i hi => ?_⟩
  rw [List.length_map] at hi
  rcases h.2 with ⟨rfl, h0⟩ | ⟨g, cap, cur, rfl, h1, h2, h3⟩
  · omega
  · simp at e
    have hc := World.ownsRow.cells h (g := g) rfl
    have ha := rulesC_at ps i hi
    have hk : ∀ k u, k < 7 → (ruleC ps[i].1 ps[i].2)[k]? = some u → w.cell? ⟨g, 0 + (i * 7 + k), none⟩ = some u := fun k u hk hu => by
      have := hc _ _ ((ha k hk).trans hu)
      rw [Addr.add_lit] at this
      exact this
    refine ⟨g, 0, ps[i].2, e.1.symm, lt_of_block h2, by rw [List.getElem_map]; exact hall _ (List.getElem_mem hi), ?_⟩
    simp only [List.getElem_map]
    exact ⟨hk 0 _ (by omega) rfl, hk 1 _ (by omega) rfl, hk 2 _ (by omega) rfl, hk 3 _ (by omega) rfl, hk 4 _ (by omega) rfl, hk 5 _ (by omega) rfl, hk 6 _ (by omega) rfl⟩

theorem readsRules.more {w : World} {B B' : Nat} {v : Value} {rs : List Rul} (h : readsRules w B v rs) (hB : B ≤ B') : readsRules w B' v rs := by
  obtain ⟨ao, cp, hv, h⟩ := h
  refine ⟨ao, cp, hv, fun i hi => ?_⟩
  obtain ⟨b, o, vs, e, hb, hs, hc⟩ := h i hi
  exact ⟨b, o, vs, e, by omega, hs.more hB, hc⟩
theorem rules_pairs2 {w : World} {B : Nat} {v : Value} {rs : List Rul} (h : readsRules w B v rs) : ∃ ps : List (Rul × Value), ps.map Prod.fst = rs ∧ ps.length = rs.length ∧ (∀ p ∈ ps, readsStrs w B p.2 p.1.sources) ∧ (∀ u ∈ rulesC ps, u.oneCell' = true) ∧
    ((rs.length = 0 ∧ ∃ ao cp, v = .slice ao 0 cp) ∨ ∃ b o cp, v = .slice (some ⟨b, o, none⟩) rs.length cp ∧ ∀ j u, (rulesC ps)[j]? = some u → w.cell? ((⟨b, o, none⟩ : Addr).add j) = some u) := by
  obtain ⟨ps, h1, h2, h3⟩ := rules_pairs h
  refine ⟨ps, h1, by rw [← h1, List.length_map], h2, rulesC_one h2, ?_⟩
  rcases h3 with ⟨e, h⟩ | ⟨b, o, cp, e, _, hc⟩
  · exact .inl ⟨by rw [e]; rfl, h⟩
  · exact .inr ⟨b, o, cp, e, hc⟩

/-- What Apply's call answers, of a row of rules anywhere behind w. -/
theorem apply_at (w : World) (htab : tabOk w) (va : Value) (ls : List Lab) (hlen : ls.length ≤ 9223372036854775807) (hin : lensOk ls) (vr : Value) (rs : List Rul) (hrl : rs.length ≤ 9223372036854775807) (hok : okRs rs) :
    ∀ W, Grow w W → readsLabels W W.heap.size va ls → readsRules W W.heap.size vr rs → Calls Tryz.prog 13 #[va, vr] W fun e w' => Grow W w' ∧ ApplyPost W.heap.size (applyB ls rs) e w' :=
  fun W hg ha hr => apply_any W va vr ls rs ha hlen hin hr hrl hok (tab_grow htab hg)

set_option maxRecDepth 20000 in
set_option maxHeartbeats 8000000 in
theorem relabelJoins_any (w : World) (htab : tabOk w) (va : Value) (ls : List Lab) (ha : readsLabels w w.heap.size va ls) (hlen : ls.length ≤ 9223372036854775807) (hin : ∀ y ∈ ls, y.1.length ≤ 9223372036854775807 ∧ y.2.length ≤ 9223372036854775807)
    (vx : Value) (a : List Rul) (hx : readsRules w w.heap.size vx a) (hxl : a.length ≤ 1048576) (hxo : okRs a) (vy : Value) (b : List Rul) (hy : readsRules w w.heap.size vy b) (hyl : b.length ≤ 1048576) (hyo : okRs b) :
    Calls Tryz.prog 5 #[va, vx, vy] w fun e w' => e = .returned (.bool true) ∧ Grow w w' := by
  have HTAB := hide htab
  have HA := hide ha
  have HIN := hide hin
  have HX := hide hx
  have HY := hide hy
  have HAP1 := hide (apply_at w htab va ls hlen hin vx a (by omega) hxo)
  have HAP2 : Hid (∀ (vr : Value) W, Grow w W → readsLabels W W.heap.size va ls → readsRules W W.heap.size vr (a ++ b) → Calls Tryz.prog 13 #[va, vr] W fun e w' => Grow W w' ∧ ApplyPost W.heap.size (applyB ls (a ++ b)) e w') := hide (fun vr => apply_at w htab va ls hlen hin vr (a ++ b) (by rw [List.length_append]; omega) (fun r hr => by
    rcases List.mem_append.1 hr with h | h
    · exact hxo r h
    · exact hyo r h))
  have HAP3 : Hid (∀ (vl : Value) (l : List Lab), checkB l = 0 → ∀ W, Grow w W → readsLabels W W.heap.size vl l → readsRules W W.heap.size vy b → Calls Tryz.prog 13 #[vl, vy] W fun e w' => Grow W w' ∧ ApplyPost W.heap.size (applyB l b) e w') := hide (fun vl l hc => by
    have hs := right_small hc
    exact apply_at w htab vl l (by omega) (fun x hx => by have := hs.2 x hx; omega) vy b (by omega) hyo)
  obtain ⟨lo, lc, rfl⟩ := readsLabels_len ha
  have hxs : ∃ ao cp, vx = .slice ao a.length cp := ⟨_, _, hx.choose_spec.choose_spec.1⟩
  have hys : ∃ ao cp, vy = .slice ao b.length cp := ⟨_, _, hy.choose_spec.choose_spec.1⟩
  obtain ⟨xo, xc, rfl⟩ := hxs
  obtain ⟨yo, yc, rfl⟩ := hys
  have HSH := hide (apply_shape ls a)
  clear ha hin hx hy htab hxo hyo
  go_enter Tryz.func5, Tryz.ntmps5
  go_wp2_with fail
  refine (relabelBegun_any w HTAB.out).mono ?_
  rintro e w1 ⟨rfl, hg1⟩
  have HG1 := hide hg1
  clear hg1
  go_wp2_with fail
  refine (labelsBegun_any w1).mono ?_
  rintro e w2 ⟨rfl, hg2⟩
  have HG2 : Hid (Grow w w2) := hide (HG1.out.trans hg2)
  have HA2 := hide (readsLabels_mono (readsLabels_below HA.out HG2.out) HG2.out.size)
  have HX2 := hide ((HX.out.keep HG2.out).more HG2.out.size)
  clear hg2
  go_wp2_with fail
  refine (HAP1.out w2 HG2.out HA2.out HX2.out).mono ?_
  rintro e w3 ⟨hg3, mo, n, mc, rfl, hown⟩
  have HG3 : Hid (Grow w w3) := hide (HG2.out.trans hg3)
  clear hg3
  rcases HSH.out with ⟨n1, hn1, hX⟩ | ⟨hal, hgo, hX⟩
  · rw [hX] at hown ⊢
    obtain ⟨ao, cp, hsh⟩ := own_shape hown
    simp only [Value.slice.injEq, List.length_nil] at hsh
    obtain ⟨-, rfl, -⟩ := hsh
    have hne : ((n1 : Int) != 0) = true := by simp; omega
    clear hn1 hown
    go_wp2
    go_ret
    exact ⟨rfl, HG3.out⟩
  · have HAL := hide hal
    have HGO := hide hgo
    have hX0 : (applyB ls a).2.2 = 0 := by
      rcases hX with h | ⟨l, h, _⟩ <;> rw [h]
    have HXX := hide hX
    rw [hX0]
    clear hal hgo hX hX0
    obtain ⟨W, HW⟩ : ∃ W, Hid (W = w3.alloc (.cells #[] 24)) := ⟨_, hide rfl⟩
    have gW : Grow w3 W := by rw [HW.out]; exact (Grow.refl _).alloc _
    have hlit : W.ownsRow w3.heap.size 24 7 (.slice (some ⟨w3.heap.size, 0, none⟩) 0 0) 0 (rulesC []) := by rw [HW.out]; exact World.ownsRow_lit w3 #[] 0 (Nat.le_refl _) (by decide) rfl
    have HGW : Hid (Grow w W) := hide (HG3.out.trans gW)
    have h3s := HG3.out.size
    obtain ⟨ps, hp1, hpl, hp2, hp3, hp4⟩ := rules_pairs2 (HX.out.keep HGW.out)
    have HQ : Hid (∀ w6, Below w3.heap.size W w6 → ∃ qs : List (Rul × Value), qs.map Prod.fst = b ∧ qs.length = b.length ∧ (∀ p ∈ qs, readsStrs w6 w.heap.size p.2 p.1.sources) ∧ (∀ u ∈ rulesC qs, u.oneCell' = true) ∧
        ((b.length = 0 ∧ ∃ ao cp, (.slice yo b.length yc : Value) = .slice ao 0 cp) ∨ ∃ b' o cp, (.slice yo b.length yc : Value) = .slice (some ⟨b', o, none⟩) b.length cp ∧ ∀ j u, (rulesC qs)[j]? = some u → w6.cell? ((⟨b', o, none⟩ : Addr).add j) = some u)) := hide (fun w6 hb6 => rules_pairs2 ((HY.out.keep HGW.out).keep (Below.mono hb6 h3s)))
    rw [HW.out] at hlit hp4
    have HL := hide hlit
    have HP1 := hide hp1
    have HP2 := hide hp2
    have HP3 := hide hp3
    have HP4 := hide hp4
    have HOWN := hide hown
    have HGW3 := hide gW
    clear hlit hp1 hp2 hp3 hp4 hown gW
    go_wp2_with (first
      | (at_builtin; refine append_rules (by rfl) _ _ rfl w3.heap.size 0 a.length a.length _ _ [] ps rfl rfl (by omega) HL.out hpl HP4.out HP3.out (by omega) (by simp) ?_; intro ao1 cp1 w6 hrow1 hb6; rw [← HW.out] at hb6; obtain ⟨qs, hq1, hql, hq2, hq3, hq4⟩ := HQ.out w6 hb6; have HB6 := hide hb6; have hs6 := hb6.size; have hsW := HGW3.out.size; have HQ1 := hide hq1; have HQ2 := hide hq2; have HQ3 := hide hq3; have HQ4 := hide hq4; have HROW1 := hide hrow1; clear hb6 hq1 hq2 hq3 hq4 hrow1)
      | (at_builtin; refine append_rules (by rfl) _ _ rfl w3.heap.size a.length b.length (a.length + b.length) _ _ ([] ++ ps) qs rfl rfl rfl HROW1.out hql HQ4.out HQ3.out (by omega) (by omega) ?_; intro ao2 cp2 w7 hrow2 hb7))
    have hb67 : Below w3.heap.size w6 w7 := hb7
    have HB7 : Hid (Below w3.heap.size w3 w7) := hide (Below.trans (Below.trans HGW3.out HB6.out) hb67)
    have HG7 : Hid (Grow w w7) := hide (Below.trans HG3.out (Below.mono HB7.out h3s))
    have hsz7 := HG7.out.size
    have hRD : readsRules w7 w7.heap.size (.slice ao2 (a.length + b.length) cp2) (a ++ b) := by
      have h := reads_rules hrow2 (by simp [hpl, hql]) (fun p hp => by
        rw [List.nil_append] at hp
        rcases List.mem_append.1 hp with hp | hp
        · exact ((HP2.out p hp).keep (Below.mono (Below.trans HB6.out hb67) h3s)).more hsz7
        · exact ((HQ2.out p hp).keep (Below.mono hb67 h3s)).more hsz7)
      rw [List.nil_append, List.map_append, HP1.out, HQ1.out] at h
      exact h
    have HRD := hide hRD
    have HA7 := hide (readsLabels_mono (readsLabels_below HA.out HG7.out) HG7.out.size)
    have HO7 := hide (own_grow HOWN.out HB7.out)
    clear hRD hrow2 hb7 hb67
    go_wp2_with fail
    refine (HAP2.out _ w7 HG7.out HA7.out HRD.out).mono ?_
    rintro e w8 ⟨hg8, to, tn, tc, rfl, hown8⟩
    have HG8 : Hid (Grow w w8) := hide (HG7.out.trans hg8)
    have HO8 := hide (own_grow HO7.out hg8)
    have HT8 := hide hown8
    clear hg8 hown8
    rcases HXX.out with hX | ⟨l, hX, hl⟩
    · obtain ⟨g, hg⟩ := joins_none (b := b) HAL.out (HGO.out.symm.trans hX)
      have h1 := HO8.out
      have h2 := HT8.out
      rw [hX] at h1 ⊢
      rw [hg] at h2 ⊢
      obtain ⟨_, _, e1⟩ := own_shape h1
      obtain ⟨_, _, e2⟩ := own_shape h2
      simp only [Value.slice.injEq, List.length_nil] at e1 e2
      obtain ⟨-, rfl, -⟩ := e1
      obtain ⟨-, rfl, -⟩ := e2
      clear h1 h2 hX hg
      by_cases hg0 : g = 0
      · subst hg0
        go_wp2
        go_ret
        exact ⟨rfl, HG8.out⟩
      · have hne : ((g : Int) != 0) = true := by simp; omega
        clear hg0
        go_wp2
        go_ret
        exact ⟨rfl, HG8.out⟩
    · have h1 := HO8.out
      rw [hX] at h1 ⊢
      obtain ⟨_, _, e1⟩ := own_shape h1
      simp only [Value.slice.injEq] at e1
      obtain ⟨-, rfl, -⟩ := e1
      have H1 := hide h1
      have HJS := hide (fun hn => joins_some (b := b) HAL.out (HGO.out.symm.trans hX) hl hn)
      have HC := hide hl
      have hs := right_small hl
      have HIL : Hid (lensOk l) := hide (fun x hx => by have := hs.2 x hx; omega)
      have hll : l.length ≤ 9223372036854775807 := by omega
      have HAP4 := hide (HAP3.out (.slice mo l.length mc) l hl w8 HG8.out (reads_ownLabels h1) ((HY.out.keep HG8.out).more HG8.out.size))
      have hYb : (applyB l b).1.length ≤ 1000000 := by
        rcases apply_shape l b with ⟨k, _, e⟩ | ⟨_, _, e | ⟨l2, e, hl2⟩⟩
        · rw [e]; simp
        · rw [e]; simp
        · rw [e]
          have := (right_small hl2).1
          simp only
          omega
      clear h1 hX hl hs
      go_wp2_with fail
      refine HAP4.out.mono ?_
      rintro e w9 ⟨hg9, zo, zn, zc, rfl, hown9⟩
      have HG9 : Hid (Grow w w9) := hide (HG8.out.trans hg9)
      have H19 := hide (own_grow H1.out hg9)
      have HT9 := hide (own_grow HT8.out hg9)
      have HZ9 := hide hown9
      clear hg9 hown9
      go_wp2_with fail
      refine (check_any w9 _ l (reads_ownLabels H19.out) hll HIL.out).mono ?_
      rintro e w10 ⟨rfl, hg10⟩
      rw [HC.out]
      have HG10 : Hid (Grow w w10) := hide (HG9.out.trans hg10)
      have HT10 := hide (own_grow HT9.out hg10)
      have HZ10 := hide (own_grow HZ9.out hg10)
      clear hg10
      by_cases hm : 30 < a.length + b.length
      · have hm' : (30 : Int) < a.length + b.length := by omega
        rw [joins_many (ls := ls) hm]
        clear hm
        go_wp2
        go_ret
        exact ⟨rfl, HG10.out⟩
      · have hm' : ¬ (30 : Int) < a.length + b.length := by omega
        rw [HJS.out (by omega)] at HT10 ⊢
        generalize applyB l b = Y at HT10 HZ10 hYb ⊢
        clear hm
        obtain ⟨Y1, Y2, Y3⟩ := Y
        simp only at HT10 HZ10 hYb ⊢
        have r1 := hide (reads_ownLabels HT10.out)
        have r2 := hide (reads_ownLabels HZ10.out)
        go_wp2_with fail
        refine (sameLabels_any w10 _ _ Y1 Y1 r1.out r2.out hYb (by omega)).mono ?_
        rintro e w11 ⟨rfl, n11, rfl⟩
        rw [decide_eq_true (rfl : Y1 = Y1)]
        have HG11 : Hid (Grow w (w10.drewN n11)) := hide (Go.below_drewN HG10.out n11)
        generalize w10.drewN n11 = w11 at HG11 ⊢
        go_wp2
        go_ret
        exact ⟨rfl, HG11.out⟩
end Go.Proofs.YtndpjdmfkhjiiaaGreatDoor.Rl

/- RelabelApplies: what the document's ApplyOf does is what the program does. Mathematics. -/
set_option linter.unusedVariables false
set_option linter.unusedSimpArgs false
namespace Go.Proofs.YtndpjdmfkhjiiaaGreatDoor.Rl
open Go.RowKit Lb

/-! ### the source -/
/-- The source of the first names. -/
def srcP (r : Rul) (ls : List Lab) (k : Nat) : List UInt8 := Lib.join ((r.sources.take k).map (valueB ls)) r.between
theorem srcP_zero (r : Rul) (ls : List Lab) : srcP r ls 0 = [] := rfl
theorem srcP_step {r : Rul} {ls : List Lab} {k : Nat} (h : k < r.sources.length) : srcP r ls (k + 1) = (if 0 < k then srcP r ls k ++ r.between else srcP r ls k) ++ valueB ls r.sources[k] := by
  unfold srcP
  obtain ⟨src, hs⟩ : ∃ s, r.sources = s := ⟨_, rfl⟩
  simp only [hs] at h ⊢
  cases k with
  | zero =>
    cases src with
    | nil => simp at h
    | cons x src => simp [Lib.join_one, Lib.join_nil]
  | succ k =>
    cases src with
    | nil => simp at h
    | cons x src =>
      have hk : k < src.length := by simpa using h
      rw [List.take_succ_cons, List.take_succ_cons, List.map_cons, List.map_cons, Lib.join_cons, Lib.join_cons, List.map_take, List.map_take, Lib.joinTail_take_succ r.between (src.map (valueB ls)) k (valueB ls src[k]) (by simp [hk])]
      simp
theorem srcP_all {r : Rul} {ls : List Lab} (hc : checkB ls = 0) (hn : ∀ s ∈ r.sources, nameB s = true) : srcP r ls r.sources.length = sourceB r ls := by
  unfold srcP sourceB
  rw [List.take_length]
  congr 1
  refine List.map_congr_left fun s hs => ?_
  unfold getAns
  rw [if_pos (getErr_zero.2 ⟨hc, hn s hs⟩)]
theorem srcP_len {r : Rul} {ls : List Lab} (hc : checkB ls = 0) (hb : r.between.length ≤ 100) : ∀ k, k ≤ r.sources.length → (srcP r ls k).length ≤ 200 * k
  | 0, _ => by simp [srcP_zero]
  | k + 1, h => by
    have ih := srcP_len hc hb k (by omega)
    have hv : (valueB ls r.sources[k]).length ≤ 100 := valueB_le fun x hx => ((eachErr_zero.1 (checkB_zero.1 hc).1).2 x hx).2.2
    rw [srcP_step (by omega)]
    split
    · simp only [List.length_append]; omega
    · simp only [List.length_append]; omega
theorem parts_names {r : Rul} (h : partsErr r = 0) : ∀ s ∈ r.sources, nameB s = true := by
  unfold partsErr at h
  split at h
  · cases h
  · split at h
    · rename_i h1
      exact List.all_eq_true.1 h1
    · cases h

/-! ### what is made -/
theorem cut_app {n : Nat} {a a' b b' : List UInt8} (ha : a' = a ∨ (n ≤ a.length ∧ a' = a.take n)) (hb : b'.take n = b.take n) : (a' ++ b').take n = (a ++ b).take n := by
  rcases ha with rfl | ⟨h1, rfl⟩
  · rw [List.take_append, List.take_append]
    congr 1
    have := congrArg (List.take (n - a'.length)) hb
    rw [List.take_take, List.take_take] at this
    rwa [show min (n - a'.length) n = n - a'.length by omega] at this
  · rw [List.take_append_of_le_length h1, List.take_append_of_le_length (by simp; omega), List.take_take, Nat.min_self]
theorem cut_or (n : Nat) (a : List UInt8) : a.take n = a ∨ (n ≤ a.length ∧ a.take n = a.take n) := by
  by_cases h : n ≤ a.length
  · exact .inr ⟨h, rfl⟩
  · exact .inl (List.take_of_length_le (by omega))
theorem valT_cut (n : Nat) (whole : List UInt8) (gs : List (List UInt8)) (x : List UInt8 × Int) : valT (whole.take n) (gs.map (·.take n)) x = valT whole gs x ∨ (n ≤ (valT whole gs x).length ∧ valT (whole.take n) (gs.map (·.take n)) x = (valT whole gs x).take n) := by
  unfold valT
  split
  · exact cut_or n whole
  · simp only [List.length_map]
    split
    · have e : (gs.map (·.take n)).getD (x.2.toNat - 1) [] = (gs.getD (x.2.toNat - 1) []).take n := by
        simp only [List.getD_eq_getElem?_getD, List.getElem?_map]
        cases gs[x.2.toNat - 1]? with
        | none => simp
        | some s => rfl
      rw [e]
      exact cut_or n _
    · exact .inl rfl
theorem valsT_cut (n : Nat) (whole : List UInt8) (gs : List (List UInt8)) : ∀ l, (valsT (whole.take n) (gs.map (·.take n)) l).take n = (valsT whole gs l).take n
  | [] => rfl
  | x :: l => by
    rw [valsT_cons, valsT_cons]
    exact cut_app (valT_cut n whole gs x) (valsT_cut n whole gs l)
theorem madeB_is (src : List UInt8) (gs : List (List UInt8)) (tm : List (List UInt8 × Int)) : madeB src gs tm = (valsT src gs tm).take 100 := valsT_cut 100 src gs tm
theorem name_cut (s : List UInt8) : (nameB (s.take 100) = true ∧ s.take 100 = s ∧ nameB s = true) ∨ (nameB (s.take 100) = false ∧ nameB s = false) := by
  by_cases h : s.length ≤ 100
  · rw [List.take_of_length_le h]
    cases hb : nameB s with
    | true => exact .inl ⟨rfl, rfl, rfl⟩
    | false => exact .inr ⟨rfl, rfl⟩
  · refine .inr ⟨nameB_no fun ⟨_, h2, _⟩ => ?_, nameB_no fun ⟨_, h2, _⟩ => ?_⟩
    · rw [List.length_take] at h2; omega
    · omega

/-! ### labels that are put, more and more -/
theorem filter_one {l : List Lab} (h : Rise l) (n : List UInt8) : l.length ≤ (l.filter fun x => decide (x.1 ≠ n)).length + 1 := by
  induction l with
  | nil => simp
  | cons x l ih =>
    unfold Rise at h
    rw [List.pairwise_cons] at h
    have ih := ih h.2
    by_cases e : x.1 = n
    · have hall : (l.filter fun y => decide (y.1 ≠ n)) = l := by
        rw [List.filter_eq_self]
        intro y hy
        have := bl_ne (h.1 y hy)
        rw [e] at this
        simp only [decide_eq_true_eq, ne_eq]
        exact fun h2 => this h2.symm
      simp only [List.filter_cons, e, hall]
      simp
    · have e' : decide (x.1 ≠ n) = true := by simpa using e
      rw [List.filter_cons, if_pos e', List.length_cons, List.length_cons]
      omega
theorem putGo_more (n v : List UInt8) : ∀ (l : List Lab), Rise l → l.length ≤ (putGo n v false l).length
  | [], _ => by simp
  | x :: l, h => by
    have h' := h
    unfold Rise at h'
    rw [List.pairwise_cons] at h'
    by_cases hb : Op.bytesLess x.1 n = false
    · have hf := filter_one (n := n) h
      rw [putGo, if_pos ⟨rfl, hb⟩, putGo_true]
      by_cases e : x.1 = n
      · rw [if_pos e]
        simp only [List.filter_cons, e] at hf
        simp at hf ⊢
        omega
      · rw [if_neg e]
        simp only [List.filter_cons, ne_eq, e, not_false_eq_true, decide_true, if_true, List.length_cons] at hf ⊢
        omega
    · have ih := putGo_more n v l h'.2
      have hbt : Op.bytesLess x.1 n = true := by cases h : Op.bytesLess x.1 n with | true => rfl | false => exact absurd h hb
      rw [putGo, if_neg (fun h => hb h.2), if_neg (bl_ne hbt)]
      simp only [List.length_cons]
      omega
theorem putB_more {l : List Lab} (h : Rise l) {n v : List UInt8} (hv : v ≠ []) : l.length ≤ (putB l n v).length := by
  unfold putB
  rw [show decide (v = []) = false by simpa using hv]
  exact putGo_more n v l h
theorem putGo_le (n v : List UInt8) : ∀ (l : List Lab) (b : Bool), (putGo n v b l).length ≤ l.length + 1
  | [], b => by cases b <;> simp [putGo]
  | x :: l, b => by
    have ih1 := putGo_le n v l true
    have ih2 := putGo_le n v l b
    have ih3 : (putGo n v true l).length ≤ l.length := by rw [putGo_true]; exact List.length_filter_le _ _
    rw [putGo]
    split
    · split <;> simp only [List.length_cons] <;> omega
    · split <;> simp only [List.length_cons] <;> omega
theorem putB_le (l : List Lab) (n v : List UInt8) : (putB l n v).length ≤ l.length + 1 := putGo_le n v l _

/-- The document's RuleMap: labels put one by one, without a bound. -/
def putsGo (f : List UInt8 → Option (List UInt8)) : List Lab → List Lab → List Lab
  | made, [] => made
  | made, x :: l => match f x.1 with
    | none => putsGo f made l
    | some n => if nameB n = true then putsGo f (putB made n x.2) l else putsGo f made l
theorem putsGo_snoc (f : List UInt8 → Option (List UInt8)) : ∀ (l made : List Lab) (x : Lab), putsGo f made (l ++ [x]) = match f x.1 with
    | none => putsGo f made l
    | some n => if nameB n = true then putB (putsGo f made l) n x.2 else putsGo f made l
  | [], made, x => by
    show putsGo f made [x] = _
    simp only [putsGo]
  | y :: l, made, x => by
    show putsGo f made (y :: (l ++ [x])) = _
    rw [putsGo, putsGo]
    cases f y.1 with
    | none => exact putsGo_snoc f l made x
    | some n =>
      simp only
      split
      · exact putsGo_snoc f l _ x
      · exact putsGo_snoc f l made x
theorem putsGo_rise {f : List UInt8 → Option (List UInt8)} : ∀ {l made : List Lab}, Rise made → Rise (putsGo f made l)
  | [], made, h => h
  | x :: l, made, h => by
    rw [putsGo]
    cases f x.1 with
    | none => exact putsGo_rise h
    | some n =>
      simp only
      split
      · exact putsGo_rise (putB_rise h _ _)
      · exact putsGo_rise h
theorem putsGo_more {f : List UInt8 → Option (List UInt8)} : ∀ {l made : List Lab}, Rise made → (∀ x ∈ l, x.2 ≠ []) → made.length ≤ (putsGo f made l).length
  | [], made, h, _ => Nat.le_refl _
  | x :: l, made, h, hv => by
    have hl : ∀ y ∈ l, y.2 ≠ [] := fun y hy => hv y (List.mem_cons_of_mem _ hy)
    rw [putsGo]
    cases f x.1 with
    | none => exact putsGo_more h hl
    | some n =>
      simp only
      split
      · exact Nat.le_trans (putB_more h (hv x (by simp))) (putsGo_more (putB_rise h _ _) hl)
      · exact putsGo_more h hl
theorem putsGo_le {f : List UInt8 → Option (List UInt8)} : ∀ {l made : List Lab}, (putsGo f made l).length ≤ made.length + l.length
  | [], made => Nat.le_refl _
  | x :: l, made => by
    rw [putsGo, List.length_cons]
    cases f x.1 with
    | none => exact Nat.le_trans putsGo_le (by omega)
    | some n =>
      simp only
      have := putB_le made n x.2
      split
      · exact Nat.le_trans putsGo_le (by omega)
      · exact Nat.le_trans putsGo_le (by omega)
/-- RuleMap with a bound at each label is RuleMap with a bound at the end. -/
theorem mapGo_is {f : List UInt8 → Option (List UInt8)} : ∀ {l made : List Lab}, checkB made = 0 → (∀ x ∈ l, x.2 ≠ [] ∧ x.2.length ≤ 100) → mapGo f made l = if (putsGo f made l).length ≤ 20 then (putsGo f made l, 0) else ([], 2)
  | [], made, h, _ => by
    rw [mapGo, putsGo, if_pos (eachErr_zero.1 (checkB_zero.1 h).1).1]
  | x :: l, made, h, hv => by
    have hl : ∀ y ∈ l, y.2 ≠ [] ∧ y.2.length ≤ 100 := fun y hy => hv y (List.mem_cons_of_mem _ hy)
    rw [mapGo, putsGo]
    cases f x.1 with
    | none => exact mapGo_is h hl
    | some n =>
      simp only
      by_cases hn : nameB n = true
      · rw [if_pos hn, if_pos hn]
        have hx := hv x (by simp)
        by_cases h20 : (putB made n x.2).length ≤ 20
        · have hw : withErr made n x.2 = 0 := withErr_zero.2 ⟨getErr_zero.2 ⟨h, hn⟩, hx.2, h20⟩
          rw [if_neg (by omega), withAns_ok hw]
          exact mapGo_is (checkB_put h hn hx.2 h20) hl
        · have hr := rise_iff.2 (checkB_zero.1 h).2
          have hm := putsGo_more (f := f) (putB_rise hr n x.2) (fun y hy => (hl y hy).1)
          have hw : withErr made n x.2 = 2 := withErr_many (getErr_zero.2 ⟨h, hn⟩) hx.2 h20
          rw [hw, if_pos (by decide), if_neg (by omega)]
      · rw [if_neg hn, if_neg hn]
        exact mapGo_is h hl
/-- Only what f says of the names that are told matters. -/
theorem putsGo_congr {f g : List UInt8 → Option (List UInt8)} (h : ∀ n, (f n).bind (fun x => if nameB x = true then some x else none) = (g n).bind fun x => if nameB x = true then some x else none) : ∀ {l made : List Lab}, putsGo f made l = putsGo g made l
  | [], made => rfl
  | x :: l, made => by
    have hx := h x.1
    rw [putsGo, putsGo]
    cases hf : f x.1 with
    | none =>
      rw [hf] at hx
      cases hg : g x.1 with
      | none => exact putsGo_congr h
      | some n =>
        rw [hg] at hx
        simp only [Option.bind_none, Option.bind_some] at hx
        by_cases hn : nameB n = true
        · rw [if_pos hn] at hx; cases hx
        · simp only; rw [if_neg hn]; exact putsGo_congr h
    | some m =>
      rw [hf] at hx
      cases hg : g x.1 with
      | none =>
        rw [hg] at hx
        simp only [Option.bind_none, Option.bind_some] at hx
        by_cases hn : nameB m = true
        · rw [if_pos hn] at hx; cases hx
        · simp only; rw [if_neg hn]; exact putsGo_congr h
      | some n =>
        rw [hg] at hx
        simp only [Option.bind_some] at hx
        simp only
        by_cases hm : nameB m = true
        · rw [if_pos hm] at hx ⊢
          by_cases hn : nameB n = true
          · rw [if_pos hn] at hx ⊢
            cases hx
            exact putsGo_congr h
          · rw [if_neg hn] at hx; cases hx
        · rw [if_neg hm] at hx ⊢
          by_cases hn : nameB n = true
          · rw [if_pos hn] at hx; cases hx
          · rw [if_neg hn]; exact putsGo_congr h

/-! ### the deed, as the document has it -/
theorem rulesErr_snoc (l : List Rul) (x : Rul) : rulesErr (l ++ [x]) = if rulesErr l ≠ 0 then rulesErr l else ruleErr x := by
  induction l with
  | nil =>
    show (if ruleErr x ≠ 0 then ruleErr x else 0) = _
    by_cases h : ruleErr x = 0
    · rw [if_neg (by omega), if_neg (by simp [rulesErr]), h]
    · rw [if_pos h, if_neg (by simp [rulesErr])]
  | cons y l ih =>
    show (if ruleErr y ≠ 0 then ruleErr y else rulesErr (l ++ [x])) = if (if ruleErr y ≠ 0 then ruleErr y else rulesErr l) ≠ 0 then (if ruleErr y ≠ 0 then ruleErr y else rulesErr l) else ruleErr x
    by_cases h : ruleErr y = 0
    · have e1 : (if ruleErr y ≠ 0 then ruleErr y else rulesErr l) = rulesErr l := if_neg (by omega)
      rw [if_neg (by omega), e1, ih]
    · have e1 : (if ruleErr y ≠ 0 then ruleErr y else rulesErr l) = ruleErr y := if_pos h
      rw [if_pos h, e1, if_pos h]
theorem rulesErr_app (l m : List Rul) (h : rulesErr l ≠ 0) : rulesErr (l ++ m) = rulesErr l := by
  induction l with
  | nil => exact absurd rfl h
  | cons y l ih =>
    have h' : (if ruleErr y ≠ 0 then ruleErr y else rulesErr l) ≠ 0 := h
    show (if ruleErr y ≠ 0 then ruleErr y else rulesErr (l ++ m)) = if ruleErr y ≠ 0 then ruleErr y else rulesErr l
    by_cases hy : ruleErr y = 0
    · rw [if_neg (by omega)] at h' ⊢
      rw [if_neg (by omega)]
      exact ih h'
    · rw [if_pos hy, if_pos hy]
/-- Labels behind a rule, as the document has them: ahead of the look at their number. -/
def Step (rs : List Rul) (r : Rul) (made m : List Lab) : Prop := ruleGo (r :: rs) made = (if 20 < m.length then ([], false, 2) else ruleGo rs m) ∧ (m.length ≤ 20 → checkB m = 0)
theorem with_is {ls : List Lab} {n v : List UInt8} (hc : checkB ls = 0) (hn : nameB n = true) (hv : v.length ≤ 100) : (withErr ls n v = 0 ∧ withAns ls n v = putB ls n v ∧ (putB ls n v).length ≤ 20) ∨ (withErr ls n v = 2 ∧ 20 < (putB ls n v).length) := by
  have hg := getErr_zero.2 ⟨hc, hn⟩
  by_cases h : (putB ls n v).length ≤ 20
  · have := withErr_zero.2 ⟨hg, hv, h⟩
    exact .inl ⟨this, withAns_ok this, h⟩
  · exact .inr ⟨withErr_many hg hv h, by omega⟩
theorem step_put {rs : List Rul} {r : Rul} {made : List Lab} {src n v : List UInt8} (hs : sourceB r made = src) (h2 : src.length ≤ 2000) (hd : deedR r made src = (withAns made n v, true, withErr made n v)) (hc : checkB made = 0) (hn : nameB n = true) (hv : v.length ≤ 100) : Step rs r made (putB made n v) := by
  refine ⟨?_, fun hl => checkB_put hc hn hv hl⟩
  rw [ruleGo, hs, if_neg (by omega), hd]
  rcases with_is hc hn hv with ⟨h0, ha, hl⟩ | ⟨h0, hl⟩
  · simp only [h0, ha]
    rw [if_neg (by simp), if_neg (by omega)]
  · simp only [h0]
    rw [if_pos (.inl (by decide)), if_pos hl]
theorem step_on {rs : List Rul} {r : Rul} {made : List Lab} {src : List UInt8} {m : List Lab} (hs : sourceB r made = src) (h2 : src.length ≤ 2000) (hd : deedR r made src = (m, true, 0)) (hm : checkB m = 0) : Step rs r made m := by
  refine ⟨?_, fun _ => hm⟩
  have := (eachErr_zero.1 (checkB_zero.1 hm).1).1
  rw [ruleGo, hs, if_neg (by omega), hd, if_neg (by simp), if_neg (by omega)]
theorem step_off {rs : List Rul} {r : Rul} {made : List Lab} {src : List UInt8} {m : List Lab} (hs : sourceB r made = src) (h2 : src.length ≤ 2000) (hd : deedR r made src = (m, false, 0)) : ruleGo (r :: rs) made = ([], false, 0) := by
  rw [ruleGo, hs, if_neg (by omega), hd, if_pos (.inr rfl)]
theorem step_map {rs : List Rul} {r : Rul} {made : List Lab} {src : List UInt8} {f : List UInt8 → Option (List UInt8)} (hs : sourceB r made = src) (h2 : src.length ≤ 2000) (hc : checkB made = 0) (hd : deedR r made src = ((mapGo f made made).1, decide ((mapGo f made made).2 = 0), (mapGo f made made).2)) : Step rs r made (putsGo f made made) := by
  have h := mapGo_is (f := f) (l := made) hc (fun x hx => by
    have := (eachErr_zero.1 (checkB_zero.1 hc).1).2 x hx
    exact ⟨fun e => by rw [e] at this; simp at this, this.2.2⟩)
  refine ⟨?_, fun hl => ?_⟩
  · rw [h] at hd
    rw [ruleGo, hs, if_neg (by omega), hd]
    by_cases hl : (putsGo f made made).length ≤ 20
    · rw [if_pos hl, if_neg (by simp), if_neg (by omega)]
    · rw [if_neg hl, if_pos (.inl (by simp)), if_pos (by omega)]
  · rw [if_pos hl] at h
    have := check_map (f := f) (l := made) hc (by rw [h])
    rw [h] at this
    exact this

section
variable {rs : List Rul} {r : Rul} {made : List Lab} {src : List UInt8} {T : Tr} {g : Nat} {tm : List (List UInt8 × Int)}
theorem deedR_is (hm : maskIs r.mask = .ok (T, g)) : deedR r made src = deedB r T g (tmOf r) made src := by
  unfold deedR trOf
  rw [hm]
theorem tmOf_is (h : tmAt r.repl 0 = some tm) : tmOf r = tm := by
  unfold tmOf
  rw [h]
  rfl
theorem step1_none (hk : r.kind = 1) (hm : maskIs r.mask = .ok (T, g)) (hw : wayOf T src = none) (hs : sourceB r made = src) (h2 : src.length ≤ 2000) (hc : checkB made = 0) : Step rs r made made := by
  refine step_on hs h2 ?_ hc
  rw [deedR_is hm]
  unfold deedB
  rw [if_pos hk, hw]
theorem step1_some {l : Evs} (hk : r.kind = 1) (hm : maskIs r.mask = .ok (T, g)) (ht : tmAt r.repl 0 = some tm) (hn : nameB r.target = true) (hw : wayOf T src = some l) (hs : sourceB r made = src) (h2 : src.length ≤ 2000) (hc : checkB made = 0) : Step rs r made (putB made r.target ((valsT src (tookL src l g) tm).take 100)) := by
  refine step_put hs h2 ?_ hc hn (by simp only [List.length_take]; omega)
  rw [deedR_is hm, tmOf_is ht]
  unfold deedB
  rw [if_pos hk, hw]
  simp only [madeB_is]
theorem step2_on (hk : r.kind = 2) (hm : maskIs r.mask = .ok (T, g)) (hw : likeR T src = true) (hs : sourceB r made = src) (h2 : src.length ≤ 2000) (hc : checkB made = 0) : Step rs r made made := by
  refine step_on hs h2 ?_ hc
  rw [deedR_is hm]
  unfold deedB
  rw [if_neg (by omega), if_pos hk, hw]
theorem step2_off (hk : r.kind = 2) (hm : maskIs r.mask = .ok (T, g)) (hw : likeR T src = false) (hs : sourceB r made = src) (h2 : src.length ≤ 2000) : ruleGo (r :: rs) made = ([], false, 0) := by
  refine step_off (m := made) hs h2 ?_
  rw [deedR_is hm]
  unfold deedB
  rw [if_neg (by omega), if_pos hk, hw]
theorem step3_on (hk : r.kind = 3) (hm : maskIs r.mask = .ok (T, g)) (hw : likeR T src = false) (hs : sourceB r made = src) (h2 : src.length ≤ 2000) (hc : checkB made = 0) : Step rs r made made := by
  refine step_on hs h2 ?_ hc
  rw [deedR_is hm]
  unfold deedB
  rw [if_neg (by omega), if_neg (by omega), if_pos hk, hw]
  rfl
theorem step3_off (hk : r.kind = 3) (hm : maskIs r.mask = .ok (T, g)) (hw : likeR T src = true) (hs : sourceB r made = src) (h2 : src.length ≤ 2000) : ruleGo (r :: rs) made = ([], false, 0) := by
  refine step_off (m := made) hs h2 ?_
  rw [deedR_is hm]
  unfold deedB
  rw [if_neg (by omega), if_neg (by omega), if_pos hk, hw]
  rfl
theorem share_short {src : List UInt8} (hm : r.modulus ≤ 1000000) (h1 : 1 ≤ r.modulus) : (shareT r src).length ≤ 100 := by
  unfold shareT
  rw [Lib.decDigits_length]
  have h : shareN r src < 18446744073709551616 := by
    unfold shareN
    have := Nat.mod_lt (if src = [] then 0 else sumB [([120], src.take 100)]) (show r.modulus.toNat > 0 by omega)
    omega
  have := Lib.nDigits_le20 _ h
  omega
theorem step4 (hk : r.kind = 4) (hm : maskIs r.mask = .ok (T, g)) (hn : nameB r.target = true) (h1 : 1 ≤ r.modulus) (hmd : r.modulus ≤ 1000000) (hs : sourceB r made = src) (h2 : src.length ≤ 2000) (hc : checkB made = 0) : Step rs r made (putB made r.target (shareT r src)) := by
  refine step_put hs h2 ?_ hc hn (share_short hmd h1)
  rw [deedR_is hm]
  unfold deedB
  rw [if_neg (by omega), if_neg (by omega), if_neg (by omega), if_pos hk]
/-- The name that a label's name makes, cut. -/
noncomputable def nameC (T : Tr) (g : Nat) (tm : List (List UInt8 × Int)) (n : List UInt8) : Option (List UInt8) := (wayOf T n).map fun l => (valsT n (tookL n l g) tm).take 100
theorem step5 (hk : r.kind = 5) (hm : maskIs r.mask = .ok (T, g)) (ht : tmAt r.repl 0 = some tm) (hs : sourceB r made = src) (h2 : src.length ≤ 2000) (hc : checkB made = 0) : Step rs r made (putsGo (nameC T g tm) made made) := by
  have e : putsGo (nameC T g tm) made made = putsGo (nameOf T g tm) made made := putsGo_congr fun n => by
    unfold nameC nameOf
    cases wayOf T n with
    | none => rfl
    | some l =>
      simp only [Option.map_some, Option.bind_some]
      rcases name_cut (valsT n (tookL n l g) tm) with ⟨h1, h2, h3⟩ | ⟨h1, h2⟩
      · rw [if_pos h1, if_pos h3, h2]
      · rw [if_neg (by rw [h1]; simp), if_neg (by rw [h2]; simp)]
  rw [e]
  refine step_map hs h2 hc ?_
  rw [deedR_is hm, tmOf_is ht]
  unfold deedB
  rw [if_neg (by omega), if_neg (by omega), if_neg (by omega), if_neg (by omega), if_pos hk]
theorem step6 (hk : r.kind = 6) (hm : maskIs r.mask = .ok (T, g)) (hs : sourceB r made = src) (h2 : src.length ≤ 2000) (hc : checkB made = 0) : Step rs r made (made.filter fun x => !likeR T x.1) := by
  refine step_on hs h2 ?_ (check_filter hc _)
  rw [deedR_is hm]
  unfold deedB
  rw [if_neg (by omega), if_neg (by omega), if_neg (by omega), if_neg (by omega), if_neg (by omega), if_pos hk]
theorem step7 (hk : r.kind = 7) (hm : maskIs r.mask = .ok (T, g)) (hs : sourceB r made = src) (h2 : src.length ≤ 2000) (hc : checkB made = 0) : Step rs r made (made.filter fun x => likeR T x.1) := by
  refine step_on hs h2 ?_ (check_filter hc _)
  rw [deedR_is hm]
  unfold deedB
  rw [if_neg (by omega), if_neg (by omega), if_neg (by omega), if_neg (by omega), if_neg (by omega), if_neg (by omega)]
theorem filter_take {p : Lab → Bool} {l : List Lab} {j : Nat} (h : j < l.length) : (l.take (j + 1)).filter p = (l.take j).filter p ++ if p l[j] = true then [l[j]] else [] := by
  rw [List.take_succ_eq_append_getElem h, List.filter_append]
  congr 1
  cases hp : p l[j] <;> simp [hp]
theorem putsGo_take {f : List UInt8 → Option (List UInt8)} {made l : List Lab} {j : Nat} (h : j < l.length) : putsGo f made (l.take (j + 1)) = match f l[j].1 with
    | none => putsGo f made (l.take j)
    | some n => if nameB n = true then putB (putsGo f made (l.take j)) n l[j].2 else putsGo f made (l.take j) := by
  rw [List.take_succ_eq_append_getElem h, putsGo_snoc]
end
end Go.Proofs.YtndpjdmfkhjiiaaGreatDoor.Rl
