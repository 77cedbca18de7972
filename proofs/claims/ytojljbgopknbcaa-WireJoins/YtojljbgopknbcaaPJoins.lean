/- WireJoins, for every two texts: of two that can be read, one behind the other, the series are those of both, if there are not too many. No condition. -/
import Derived.Test.YtojljbgopknbcaaRows
import Derived.Test.YtojljbgopknbcaaKit
import Derived.Test.YtojljbgopknbcaaWTop
import Derived.Test.YtojljbgopknbcaaWBeg
import Derived.Test.YtojljbgopknbcaaOpen
import Derived.Test.YtojljbgopknbcaaRdG
import Derived.Test.YtojljbgopknbcaaSame
import Derived.Test.YtojljbgopknbcaaRJoin
import Derived.ProofKit
import Derived.BigQuiet
import Derived.BigFrame
import Derived.Laws.OwnMore
set_option linter.unusedVariables false
set_option linter.unusedSimpArgs false
namespace Go.Proofs.Ytojljbgopknbcaa
open Go.ChangeShapes Go.WideShapes Go.ChangeAt Go.RowKit
open Go.ChangeMaps (open_string shut_string)
attribute [local go_sem] bs_size bs_toList bs_append bs_get bs_extract

theorem pairCells_append (a b : List (Value × Value)) : pairCells (a ++ b) = pairCells a ++ pairCells b := by
  induction a with
  | nil => rfl
  | cons x a ih => simp [pairCells, ih]
theorem pairCells_length (a : List (Value × Value)) : (pairCells a).length = a.length * 2 := by
  induction a with
  | nil => rfl
  | cons x a ih => simp [pairCells, ih]; omega

/-- The rows of series behind a row of the call's own: nil ones, too. -/
theorem append_series {w : World} {ops : Array Oper} {rest : List Oper} {o : Oper} {a : Act} {Q : Exit → Act → World → Prop} (hw : Region.wanted o (yielded ops a.tmps) = true) (s x : Operand)
    (ho : o.op = .call { callee := .builtin .append, args := #[s, x], argTypes := #[30, 30] })
    (base B2 n1 n2 n : Nat) (v v2 : Value) (vs ms : List (Value × Value)) (hs : a.eval s = v) (hx : a.eval x = v2) (hn : n1 + n2 = n)
    (hown : w.ownsRow base 47 2 v n1 (pairCells vs)) (hm : w.ownsRow B2 47 2 v2 n2 (pairCells ms)) (hone : ∀ u ∈ pairCells ms, u.oneCell' = true) (hlen : n ≤ 2000000) (hbase : base ≤ w.heap.size)
    (h : ∀ ao cp w', w'.ownsRow base 47 2 (.slice ao n cp) n (pairCells (vs ++ ms)) → Below base w w' → wpList Try.prog ops Q rest (a.put o.dst (.slice ao n cp)) w') : wpList Try.prog ops Q (o :: rest) a w := by
  subst hn
  obtain ⟨i0, hi0, hz0, hz1, hz2⟩ := info_parts Try.infoE
  refine wpList_step fun K hK => ?_
  rw [if_pos hw]
  obtain ⟨ao, cp, rfl⟩ := own_shape hown
  rcases id hm.2 with ⟨rfl, h0⟩ | ⟨g, cap, cur, rfl, h1, h2, h3⟩
  · subst h0
    have hms : ms = [] := by
      have := hm.1
      rw [pairCells_length] at this
      exact List.eq_nil_of_length_eq_zero (by omega)
    subst hms
    have hrun := run_append_owned_none (P := Try.prog) (w := w) base 30 o.type 47 i0 2 Try.underlying30 hi0 _ n1 (pairCells vs) hown
    unfold Oper.wp
    simp [execOp, ho, resolve, invoke, builtin, hs, hx, hrun, Result.andThen]
    exact hK _ _ (h ao cp w (by simpa using hown) (Below.refl _ _))
  · refine wp_append_own w s x 30 ho base 47 i0 _ 2 48 Try.underlying30 hi0 hz0 hz1 hz2 rfl (by omega) _ n1 (pairCells vs) hs hown ⟨g, 0, none⟩ n2 cap (pairCells ms) hx hm.1 (World.ownsRow.cells hm rfl) hone (by unfold maxLen; omega) (by omega) hbase ?_
    intro v' w' hown' hgrow _
    obtain ⟨ao', cp', rfl⟩ := own_shape hown'
    exact hK _ _ (h ao' cp' w' (by rw [pairCells_append]; exact hown') ((Below.refl base w).grown hgrow hbase (fun k hk => (hown.lt k hk).1)))

theorem reads_row {w : World} {base n : Nat} {v : Value} {vs : List (Value × Value)} {ls : List Ser} (h : w.ownsRow base 47 2 v n (pairCells vs)) (hn : n = ls.length) (hl : vs.length = ls.length)
    (hall : ∀ (i : Nat) (x : Value × Value) (s : Ser), vs[i]? = some x → ls[i]? = some s → readsLabels w w.heap.size x.1 s.1 ∧ readsSamples w w.heap.size x.2 s.2) : readsSeries w w.heap.size v ls := by
  obtain ⟨ao, cp, e⟩ := own_shape h
  refine ⟨ao, cp, by rw [e, hn], fun i hi => ?_⟩
  rcases h.2 with ⟨rfl, h0⟩ | ⟨g, cap, cur, rfl, h1, h2, h3⟩
  · omega
  · simp at e
    have hc := World.ownsRow.cells h (g := g) rfl
    have ha := pairCells_at vs i (by omega)
    obtain ⟨k1, k2⟩ := hall i vs[i] ls[i] (List.getElem?_eq_getElem (by omega)) (List.getElem?_eq_getElem hi)
    refine ⟨g, 0, vs[i].1, vs[i].2, e.1.symm, lt_of_block h2, ?_, ?_, k1, k2⟩
    · have := hc _ _ ha.1
      rw [Addr.add_lit] at this
      simpa using this
    · have := hc _ _ ha.2
      rw [Addr.add_lit] at this
      simpa using this

theorem pairs_one {w : World} {B : Nat} {vs : List (Value × Value)} {ls : List Ser} (hl : vs.length = ls.length)
    (hall : ∀ (i : Nat) (x : Value × Value) (s : Ser), vs[i]? = some x → ls[i]? = some s → ownLabels w B x.1 s.1 ∧ ownSamples w B x.2 s.2) : ∀ u ∈ pairCells vs, u.oneCell' = true := by
  have key : ∀ y ∈ vs, y.1.oneCell' = true ∧ y.2.oneCell' = true := by
    intro y hy
    obtain ⟨i, hi, rfl⟩ := List.getElem_of_mem hy
    obtain ⟨k1, k2⟩ := hall i vs[i] ls[i] (List.getElem?_eq_getElem hi) (List.getElem?_eq_getElem (by omega))
    obtain ⟨a1, c1, e1⟩ := own_shape k1
    obtain ⟨a2, c2, e2⟩ := own_shape k2
    rw [e1, e2]
    exact ⟨rfl, rfl⟩
  clear hall hl
  induction vs with
  | nil => intro u hu; simp [pairCells] at hu
  | cons x vs ih =>
    intro u hu
    simp only [pairCells, List.mem_cons] at hu
    rcases hu with rfl | rfl | hu
    · exact (key x (by simp)).1
    · exact (key x (by simp)).2
    · exact ih (fun y hy => key y (by simp [hy])) u hu

set_option maxRecDepth 20000 in
set_option maxHeartbeats 4000000 in
theorem wireJoins_any (a b : List UInt8) (w : World) (ha : a.length ≤ 140737488355328) (hb : b.length ≤ 140737488355328) :
    Calls Try.prog 8 #[.string (bs a), .string (bs b)] w fun e w' => e = .returned (.bool true) ∧ Below w.heap.size w w' := by
  go_enter Try.func8, Try.ntmps8
  go_wp2_with fail
  refine (wireBegun_any w).mono ?_
  rintro e w1 ⟨rfl, hb1⟩
  go_wp2_with fail
  refine (read_any w1 a (by omega)).mono ?_
  rintro e w2 ⟨hb2, hread1⟩
  have g2 : Grow w w2 := Grow.trans hb1 hb2
  rcases hread1 with ⟨ha0, l, vl, hla, rfl, ol⟩ | ⟨ha0, rfl⟩
  · go_wp2_with fail
    refine (read_any w2 b (by omega)).mono ?_
    rintro e w3 ⟨hb3, hread2⟩
    have g3 : Grow w w3 := g2.trans hb3
    rcases hread2 with ⟨hb0, m, vm, hmb, rfl, om⟩ | ⟨hb0, rfl⟩
    · have hab := hide (readErr_append ha0 hb0 hla hmb)
      have hall := hide (allRead_append hla hmb)
      have hcl := (readErr_none ha0 hla).1
      have hcm := (readErr_none hb0 hmb).1
      have hcl' := (countsB_iff l).2 hcl
      have hcm' := (countsB_iff m).2 hcm
      clear ha0 hb0 hla hmb hcl hcm
      have KL := hide hcl'
      have KM := hide hcm'
      have hl200 := hcl'.1
      have hm200 := hcm'.1
      clear hcl' hcm'
      have ol3 := ownSeries_grow ol hb3
      obtain ⟨aol, cpl, rfl⟩ : ∃ ao cp, vl = .slice ao l.length cp := by obtain ⟨vs, _, hr, _⟩ := ol; exact own_shape hr
      obtain ⟨aom, cpm, rfl⟩ : ∃ ao cp, vm = .slice ao m.length cp := by obtain ⟨vs, _, hr, _⟩ := om; exact own_shape hr
      clear ol
      go_wp2_with fail
      refine (read_any w3 (a ++ b) (by simp; omega)).mono ?_
      rintro e w4 ⟨hb4, hread3⟩
      have g4 : Grow w w4 := g3.trans hb4
      rcases hread3 with ⟨hz, x, vx, hx, rfl, ox⟩ | ⟨hz, rfl⟩
      · have hxe : x = l ++ m := by
          rw [hall.out] at hx
          exact (Option.some.inj hx).symm
        subst hxe
        clear hx hz
        have ol4 := ownSeries_grow ol3 hb4
        have om4 := ownSeries_grow om hb4
        clear ol3 om
        have rx := hide (reads_ownSeries ox)
        obtain ⟨aox, cpx, rfl⟩ : ∃ ao cp, vx = .slice ao (l ++ m).length cp := by obtain ⟨vs, _, hr, _⟩ := ox; exact own_shape hr
        clear ox
        obtain ⟨vs, hvl, hvr, hvall⟩ := ol4
        obtain ⟨ms, hml, hmr, hmall⟩ := om4
        have hone1 := hide (pairs_one hvl hvall)
        have hone2 := hide (pairs_one hml hmall)
        obtain ⟨W, HW⟩ : ∃ W, Hid (W = w4.alloc (.cells #[] 47)) := ⟨_, hide rfl⟩
        have gW : Grow w4 W := by rw [HW.out]; exact (Grow.refl _).alloc _
        have hlit : W.ownsRow w4.heap.size 47 2 (.slice (some ⟨w4.heap.size, 0, none⟩) 0 0) 0 (pairCells []) := by rw [HW.out]; exact World.ownsRow_lit w4 #[] 0 (Nat.le_refl _) (by decide) rfl
        have hvrW := own_grow hvr gW
        have hmrW := own_grow hmr gW
        have hWs := gW.size
        rw [HW.out] at hlit hvrW
        have HL := hide hlit
        have HVR := hide hvrW
        have HMR := hide hmrW
        have HV4 := hide hvall
        have HM4 := hide hmall
        have HMO := hide hmr
        clear hlit hvrW hmrW hvall hmall hvr hmr
        go_wp2_with (first
          | (at_builtin; refine append_series (by rfl) _ _ rfl w4.heap.size _ 0 l.length l.length _ _ [] vs rfl rfl (by omega) HL.out HVR.out hone1.out (by omega) (by simp) ?_; intro ao1 cp1 w6 hrow1 hb6; rw [← HW.out] at hb6; have hmr6 := hide (own_keep HMR.out (fun g hg => hb6.block g (HMO.out.lt g hg).2)); have hs6 := hb6.size)
          | (at_builtin; refine append_series (by rfl) _ _ rfl w4.heap.size _ l.length m.length (l.length + m.length) _ _ vs ms rfl rfl rfl hrow1 hmr6.out hone2.out (by omega) (by omega) ?_; intro ao2 cp2 w7 hrow2 hb7))
        have b47 : Below w4.heap.size w4 w7 := Below.trans (Below.trans gW hb6) hb7
        have hs47 := b47.size
        have r1 := readsSeries_mono (readsSeries_below rx.out b47) hs47
        have kl : ∀ y z, ownLabels w4 w1.heap.size y z → readsLabels w7 w7.heap.size y z := fun y z h => readsLabels_mono (readsLabels_below (reads_ownLabels h) b47) hs47
        have ks : ∀ y z, ownSamples w4 w1.heap.size y z → readsSamples w7 w7.heap.size y z := fun y z h => readsSamples_mono (readsSamples_below (reads_ownSamples h) b47) hs47
        have kl2 : ∀ y z, ownLabels w4 w2.heap.size y z → readsLabels w7 w7.heap.size y z := fun y z h => readsLabels_mono (readsLabels_below (reads_ownLabels h) b47) hs47
        have ks2 : ∀ y z, ownSamples w4 w2.heap.size y z → readsSamples w7 w7.heap.size y z := fun y z h => readsSamples_mono (readsSamples_below (reads_ownSamples h) b47) hs47
        have r2 : readsSeries w7 w7.heap.size (.slice ao2 (l.length + m.length) cp2) (l ++ m) := reads_row hrow2 (by simp) (by simp [hvl, hml]) (fun i y s hy hs => by
          by_cases hi : i < l.length
          · rw [List.getElem?_append_left (by omega)] at hy
            rw [List.getElem?_append_left hi] at hs
            exact ⟨kl _ _ (HV4.out i y s hy hs).1, ks _ _ (HV4.out i y s hy hs).2⟩
          · rw [List.getElem?_append_right (by omega)] at hy
            rw [List.getElem?_append_right (by omega)] at hs
            simp only [hvl] at hy
            exact ⟨kl2 _ _ (HM4.out _ y s hy hs).1, ks2 _ _ (HM4.out _ y s hy hs).2⟩)
        have HS := sameSeries_yes w7 w7.heap.size _ _ (l ++ m) r1 r2 (by simp; omega) (fun y hy => by
          rcases List.mem_append.1 hy with hy | hy
          · have := KL.out.2 y hy; exact ⟨by have := this.1; omega, by have := this.2.1; omega⟩
          · have := KM.out.2 y hy; exact ⟨by have := this.1; omega, by have := this.2.1; omega⟩)
        rw [List.length_append] at HS
        refine HS.mono ?_
        clear HS r1 r2 kl ks kl2 ks2
        rintro e w8 ⟨rfl, n, rfl⟩
        go_wp2
        go_ret
        exact ⟨rfl, (g4.trans b47).trans ⟨rfl, rfl, rfl, Nat.le_refl _, fun _ _ => rfl⟩⟩
      · have hn : ¬ (a.length + b.length ≤ 20000 ∧ l.length + m.length ≤ 200) := by
          intro h
          rw [hab.out, if_pos h] at hz
          exact hz rfl
        have e2 : readErr (a ++ b) = 2 := by rw [hab.out, if_neg hn]
        rw [e2]
        clear e2 hz
        by_cases c1 : a.length + b.length ≤ 20000
        · have c2 : ¬ l.length + m.length ≤ 200 := fun h => hn ⟨c1, h⟩
          clear hn
          go_wp2
          go_ret
          exact ⟨rfl, g4⟩
        · clear hn
          go_wp2
          go_ret
          exact ⟨rfl, g4⟩
    · have hne : (readErr b != 0) = true := by simpa using hb0
      have H0 := hide ha0
      have H1 := hide hb0
      clear ha0 hb0
      obtain ⟨aol, cpl, rfl⟩ : ∃ ao cp, vl = .slice ao l.length cp := by obtain ⟨vs, _, hr, _⟩ := ol; exact own_shape hr
      go_wp2_with fail
      refine (read_any w3 (a ++ b) (by simp; omega)).mono ?_
      rintro e w4 ⟨hb4, hread3⟩
      have g4 : Grow w w4 := g3.trans hb4
      rcases hread3 with ⟨_, x, vx, _, rfl, ox⟩ | ⟨_, rfl⟩
      · go_wp2
        go_ret
        exact ⟨rfl, g4⟩
      · go_wp2
        go_ret
        exact ⟨rfl, g4⟩
  · have hne : (readErr a != 0) = true := by simpa using ha0
    have H0 := hide ha0
    clear ha0
    go_wp2_with fail
    refine (read_any w2 b (by omega)).mono ?_
    rintro e w3 ⟨hb3, hread2⟩
    have g3 : Grow w w3 := g2.trans hb3
    rcases hread2 with ⟨_, m, vm, _, rfl, om⟩ | ⟨_, rfl⟩
    · go_wp2_with fail
      refine (read_any w3 (a ++ b) (by simp; omega)).mono ?_
      rintro e w4 ⟨hb4, hread3⟩
      have g4 : Grow w w4 := g3.trans hb4
      rcases hread3 with ⟨_, x, vx, _, rfl, ox⟩ | ⟨_, rfl⟩
      · go_wp2
        go_ret
        exact ⟨rfl, g4⟩
      · go_wp2
        go_ret
        exact ⟨rfl, g4⟩
    · go_wp2_with fail
      refine (read_any w3 (a ++ b) (by simp; omega)).mono ?_
      rintro e w4 ⟨hb4, hread3⟩
      have g4 : Grow w w4 := g3.trans hb4
      rcases hread3 with ⟨_, x, vx, _, rfl, ox⟩ | ⟨_, rfl⟩
      · go_wp2
        go_ret
        exact ⟨rfl, g4⟩
      · go_wp2
        go_ret
        exact ⟨rfl, g4⟩

theorem Try.own : ownKnob Try.prog.godebug = none := by kernel_rfl
theorem Try.laidOut : laidOutB Try.prog = true := by kernel_rfl

set_option maxRecDepth 100000 in
theorem wireJoins_lifted (os : Os) (started : os.Started) (H : Type) (enc : TypeId × Value → H) :
    ReturnsInHanded {} Try.checked os 8 .any (Rows.wireJoinsSpec.pre6 enc Try.prog Try.f8 Rows.wireJoinsRow.domain false) (Rows.wireJoinsSpec.post enc Try.prog Try.f8 false true false false) := by
  refine returnsInHanded_of_change_sized (C := Try.checked) Try.own started (by kernel_rfl) Try.func8
    (ChangeSpec.witness6 (enc := enc) (C := Try.checked) false ⟨#[], #[.string ByteArray.empty, .string ByteArray.empty], []⟩ 8 (by kernel_rfl) (by kernel_rfl) (by kernel_rfl) (by kernel_rfl)) ?_
  intro W base args ds gs before hval0 hW hcnd hsz0 _
  have hval : ∀ (j : Nat) t v, Try.f8.params[j]? = some t → args[j]? = some v → Value.okWide Try.prog W .any base t v := hval0
  have hsz : (DataW.weightsEach Try.prog (Try.f8.params.toList ++ Rows.wireJoinsSpec.plain.varTypes Try.prog) (ds ++ gs)).all (· ≤ reachBytes) = true := hsz0
  have hW' := hW
  obtain ⟨p, q, hA0, hV, rfl, hfz, hnd⟩ := hW
  have hA : DataW.TrodAll enc Try.prog W 0 (fun _ => true) true Try.f8.params.toList args.toList ds p := hA0
  rw [Try.params8] at hA hval hsz
  obtain ⟨v0, v1, d0, d1, p0, p1, rfl, rfl, rfl, h0, h1⟩ := trodAll_two hA
  obtain ⟨rfl, rfl⟩ := trodVars_none hV
  obtain ⟨s, rfl, rfl, rfl, hs⟩ := open_string Try.underlying9 (hval 0 9 v0 rfl rfl) h0
  obtain ⟨t, rfl, rfl, rfl, ht⟩ := open_string Try.underlying9 (hval 1 9 v1 rfl rfl) h1
  clear hA0 hval0
  simp only [List.append_nil] at hW'
  have hreach : s.data.toList.length ≤ reachBytes := sized_string hsz (j := 0) (t := 9) rfl rfl
  have hreach2 : t.data.toList.length ≤ reachBytes := sized_string hsz (j := 1) (t := 9) rfl rfl
  have hc := wireJoins_any s.data.toList t.data.toList W (by have := reachBytes_lt; omega) (by have := reachBytes_lt; omega)
  rw [← bs_surj, ← bs_surj] at hc
  refine hc.mono fun e W' ⟨he, hnx⟩ => ?_
  subst he
  refine ⟨_, rfl, _, _, _, [], [], [], hW', ?_, ?_, rfl, hnx.frame _, fun h => by cases h⟩
  · exact trodAll_mk1 (shut_bool Try.underlying4 _)
  · exact trodAll_mk2 (shut_string Try.underlying9 hs) (shut_string Try.underlying9 ht)

theorem wireJoins_holds : Rows.WireJoinsSaid :=
  OpenClaim.holds_of_wide 8 Try.f8 rfl rfl rfl rfl rfl rfl rfl ⟨rfl, rfl, rfl, rfl, rfl⟩ rfl rfl rfl rfl rfl (by kernel_rfl) Try.func8 (by kernel_rfl)
    (of_decide_eq_true (by kernel_rfl)) (by unfold Func.isWrapper; first | (rw [if_pos (by decide +kernel)]; kernel_rfl) | (rw [if_neg (by decide +kernel)]; exact ⟨rfl, rfl⟩))
    (fun os started H enc _ => wireJoins_lifted os started H enc)

end Go.Proofs.Ytojljbgopknbcaa
