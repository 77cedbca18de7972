/- 3 texts in one. -/
import Derived.Laws.OwnMore
import Derived.Laws.AppendOwnNone
import Derived.Deep.AppendLies
import Derived.Maps.AppendAt
import Derived.Shelf.RegionOpenPlain
import Derived.Test.YtdlmgkncneifaaaGreatProg
import Derived.Test.YtdlmgkncneifaaaGreatK77c7527
import Derived.Test.YtdlmgkncneifaaaGreatKa9a7a6f
import Derived.Test.YtdlmgkncneifaaaGreatK261a29d
import Derived.Test.YtdlmgkncneifaaaGreatK53a69b0
import Derived.Test.YtdlmgkncneifaaaGreatK101b007
import Derived.Test.YtdlmgkncneifaaaGreatKda5cde6
import Derived.Test.YtdlmgkncneifaaaGreatK2b0d28e
import Derived.BigQuiet
set_option linter.unusedVariables false
set_option linter.unusedSimpArgs false
namespace Go.Proofs.YtdlmgkncneifaaaGreat.Fd
open Go.RowKit Go.Shelf Lb
attribute [local go_sem] bs_size bs_toList bs_append bs_get bs_extract
theorem step_app_atF {P : Program} {ops : Array Oper} {o : Oper} {a : Act} {w : World} {K : Act → World → Prop} {Q : Exit → Act → World → Prop} {E : Prop}
    (hgd : o.guard = none) (s x : Operand) (t : TypeId) (ho : o.op = Op.call { callee := Callee.builtin Builtin.append, args := #[s, x], argTypes := #[t, t] })
    (base : Nat) (e : TypeId) (i : TypeInfo) (z : Value) (size bytes : Nat) (ht : P.underlying t = some (.slice e)) (hi : P.info? e = some i) (hz : i.zero = some z)
    (hsize : i.size = size) (hby : i.bytes = bytes) (hzs : z.cells.size = size) (hsz : 0 < size)
    (v : Value) (n : Nat) (xs : List Value) (hs : a.eval s = v) (hown : w.ownsRow base e size v n xs)
    (ad : Addr) (m c : Nat) (news : List Value) (hx : a.eval x = .slice (some ad) m c) (hl : news.length = m * size) (hnews : ∀ j u, news[j]? = some u → w.cell? (ad.add j) = some u) (h1 : ∀ u ∈ news, u.oneCell' = true)
    (h63 : n + m ≤ maxLen) (hbytes : (n + m) * bytes ≤ 140737488355328) (hbase : base ≤ w.heap.size)
    (hK : ∀ v' w', w'.ownsRow base e size v' (n + m) (xs ++ news) → w.grownBy w' v.ownBlock → (v'.ownBlock = v.ownBlock ∨ v'.ownBlock = some w.heap.size) → K (a.put o.dst v') w') :
    if Region.wanted o (yielded ops a.tmps) = true then Oper.wp P o a w K Q else E := by
  have hw : Region.wanted o (yielded ops a.tmps) = true := by simp [Region.wanted, hgd]
  rw [if_pos hw]
  obtain ⟨v', w', hr, h2, h3, _, h5⟩ := run_append_own_at (P := P) w base t o.type e i z size bytes ht hi hz hsize hby hzs hsz v n xs hown ad m c news hl hnews h1 h63 hbytes hbase
  unfold Oper.wp
  simp [execOp, ho, resolve, invoke, builtin, hs, hx, hr, Result.andThen]
  exact hK v' w' h2 h3 h5
theorem step_app_noneF {P : Program} {ops : Array Oper} {o : Oper} {a : Act} {w : World} {K : Act → World → Prop} {Q : Exit → Act → World → Prop} {E : Prop}
    (hgd : o.guard = none) (s x : Operand) (t : TypeId) (ho : o.op = Op.call { callee := Callee.builtin Builtin.append, args := #[s, x], argTypes := #[t, t] })
    (base : Nat) (e : TypeId) (i : TypeInfo) (size : Nat) (ht : P.underlying t = some (.slice e)) (hi : P.info? e = some i)
    (v : Value) (n : Nat) (xs : List Value) (hs : a.eval s = v) (hown : w.ownsRow base e size v n xs) (hx : a.eval x = .slice none 0 0) (hK : K (a.put o.dst v) w) :
    if Region.wanted o (yielded ops a.tmps) = true then Oper.wp P o a w K Q else E := by
  have hw : Region.wanted o (yielded ops a.tmps) = true := by simp [Region.wanted, hgd]
  rw [if_pos hw]
  have hr := run_append_owned_none (P := P) (w := w) base t o.type e i size ht hi v n xs hown
  unfold Oper.wp
  simp [execOp, ho, resolve, invoke, builtin, hs, hx, hr, Result.andThen]
  exact hK
theorem step_app_argF {P : Program} {ops : Array Oper} {o : Oper} {a : Act} {w : World} {K : Act → World → Prop} {Q : Exit → Act → World → Prop} {E : Prop}
    (hgd : o.guard = none) (s x : Operand) (t : TypeId) (ho : o.op = Op.call { callee := Callee.builtin Builtin.append, args := #[s, x], argTypes := #[t, t] })
    (e : TypeId) (i : TypeInfo) (z : Value) (size bytes : Nat) (ht : P.underlying t = some (.slice e)) (hi : P.info? e = some i) (hz : i.zero = some z)
    (hsize : i.size = size) (hby : i.bytes = bytes) (hzs : z.cells.size = size) (hsz : 0 < size)
    (b : Addr) (n cap : Nat) (olds : List Value) (hs : a.eval s = .slice (some b) n cap) (hlo : olds.length = n * size) (holds : ∀ j u, olds[j]? = some u → w.cell? (b.add j) = some u)
    (ad : Addr) (m c : Nat) (news : List Value) (hx : a.eval x = .slice (some ad) m c) (hl : news.length = m * size) (hnews : ∀ j u, news[j]? = some u → w.cell? (ad.add j) = some u)
    (hg : cap < n + m) (h63 : n + m ≤ maxLen) (hbytes : (n + m) * bytes ≤ 140737488355328)
    (hK : ∀ v' w', w'.ownsRow w.heap.size e size v' (n + m) (olds ++ news) → w.grownBy w' none → K (a.put o.dst v') w') :
    if Region.wanted o (yielded ops a.tmps) = true then Oper.wp P o a w K Q else E := by
  have hw : Region.wanted o (yielded ops a.tmps) = true := by simp [Region.wanted, hgd]
  rw [if_pos hw]
  obtain ⟨v', w', hr, h2, h3⟩ := run_append_arg_grows (P := P) (w := w) t o.type e i z size bytes ht hi hz hsize hby hzs hsz b n cap olds hlo holds ad m c news hl hnews hg h63 hbytes
  unfold Oper.wp
  simp [execOp, ho, resolve, invoke, builtin, hs, hx, hr, Result.andThen]
  exact hK v' w' h2 h3
theorem grow_noneF {w w' : World} (h : w.grownBy w' none) : Grow w w' := ⟨h.os, h.tape, h.output, h.size, fun k hk => h.block k hk (by simp)⟩
/-- One more, where it belongs. -/
theorem sorted_ins {l q : List Tgt} {x : Tgt} {i : Nat} (h : isSorted l q) (hi : i ≤ q.length) (ha : ∀ j (hj : j < q.length), j < i → ordB q[j] x < 0) (hn : ∀ h : i < q.length, ¬ ordB q[i] x < 0) : isSorted (l ++ [x]) (q.take i ++ x :: q.drop i) := by
  refine ⟨?_, ?_⟩
  · refine (List.perm_middle).trans ?_
    rw [List.take_append_drop]
    exact (List.Perm.cons x h.1).trans (List.perm_append_singleton x l).symm
  · have hq := h.2
    rw [List.pairwise_append, List.pairwise_cons]
    refine ⟨hq.sublist (List.take_sublist _ _), ⟨fun y hy => ?_, hq.sublist (List.drop_sublist _ _)⟩, fun y hy z hz => ?_⟩
    · obtain ⟨j, hj, rfl⟩ := List.getElem_of_mem hy
      rw [List.getElem_drop]
      rw [List.length_drop] at hj
      have h1 := hn (by omega)
      have n1 := ordB_neg q[i] x
      by_cases e : j = 0
      · subst e; simp only [Nat.add_zero]; omega
      · have h2 := List.pairwise_iff_getElem.1 hq i (i + j) (by omega) (by omega) (by omega)
        exact (ordB_order (a := x) (b := q[i]) (c := q[i + j]) (by omega) h2).1
    · obtain ⟨j, hj, rfl⟩ := List.getElem_of_mem hy
      rw [List.length_take] at hj
      rw [List.getElem_take]
      rcases List.mem_cons.1 hz with rfl | hz
      · have := ha j (by omega) (by omega); omega
      · obtain ⟨k, hk, rfl⟩ := List.getElem_of_mem hz
        rw [List.length_drop] at hk
        rw [List.getElem_drop]
        exact List.pairwise_iff_getElem.1 hq j (i + k) (by omega) (by omega) (by omega)
/-- Who is not at its place is not there. -/
theorem sorted_notin {l q : List Tgt} {x : Tgt} {i : Nat} (h : isSorted l q) (ha : ∀ j (hj : j < q.length), j < i → ordB q[j] x < 0) (hn : ∀ h : i < q.length, 0 < ordB q[i] x) : x ∉ l := by
  intro hx
  obtain ⟨j, hj, e⟩ := List.getElem_of_mem (h.1.mem_iff.2 hx)
  have hz : ordB q[j] x = 0 := ordB_zero.2 e
  by_cases hji : j < i
  · have := ha j hj hji; omega
  · have h1 := hn (by omega)
    by_cases e2 : j = i
    · subst e2; omega
    · have h2 := List.pairwise_iff_getElem.1 h.2 i j (by omega) hj (by omega)
      have n1 := ordB_neg q[i] x
      rw [e] at h2
      omega
theorem nodup_snoc {l : List Tgt} {x : Tgt} (h : l.Nodup) (hx : x ∉ l) : (l ++ [x]).Nodup := by
  rw [List.nodup_append]
  refine ⟨h, by simp, fun a ha b hb e => ?_⟩
  simp at hb
  subst e hb
  exact hx ha
theorem growF_drew (w : World) (n : Nat) : Grow w (w.drewN n) := ⟨rfl, rfl, rfl, Nat.le_refl _, fun _ _ => rfl⟩
theorem rowT.cell {w : World} {B : Nat} {v : Value} {ps : List TP} (h : rowT w B v ps) {i : Nat} (hi : i < ps.length) : ∃ g cap, v = .slice (some ⟨g, 0, none⟩) ps.length cap ∧ ps.length ≤ cap ∧ B ≤ g ∧ g < w.heap.size ∧ w.cell? ⟨g, i, none⟩ = some ps[i].2 := by
  rcases h.2 with ⟨_, h0⟩ | ⟨g, cap, cur, r1, r2, r3, r4, _⟩
  · omega
  · have hc := World.ownsRow.cells h (g := g) (by rw [r1]; rfl)
    have r0 := hc i ps[i].2 (by unfold vals; rw [List.getElem?_map, List.getElem?_eq_getElem hi]; rfl)
    rw [Addr.add_lit] at r0
    exact ⟨g, cap, r1, r4, r2, lt_of_block r3, by simpa using r0⟩
theorem own_growF2 {w w' : World} {base e size n : Nat} {v : Value} {xs : List Value} (h : w.ownsRow base e size v n xs) (g : Grow w w') : w'.ownsRow base e size v n xs := own_keep h fun b hb => g.block b (h.lt b hb).2
theorem rowT.ins {w : World} {B B7 : Nat} {v : Value} {ps : List TP} {x : Tgt} {xv : Value} {k : Nat} (h : w.ownsRow B7 36 1 v (k + (1 + (ps.length - k))) ((vals ps).take k ++ ([xv] ++ (vals ps).drop k))) (hk : k ≤ ps.length) (hB : B ≤ B7) : rowT w B v (ps.take k ++ (x, xv) :: ps.drop k) := by
  unfold rowT
  have e1 : (ps.take k ++ (x, xv) :: ps.drop k).length = k + (1 + (ps.length - k)) := by simp; omega
  have e2 : vals (ps.take k ++ (x, xv) :: ps.drop k) = (vals ps).take k ++ ([xv] ++ (vals ps).drop k) := by simp [vals, List.map_take, List.map_drop]
  rw [e1, e2]
  exact own_le h hB
theorem tgts_ins {ps : List TP} {x : Tgt} {xv : Value} {k : Nat} : tgts (ps.take k ++ (x, xv) :: ps.drop k) = (tgts ps).take k ++ x :: (tgts ps).drop k := by simp [tgts, List.map_take, List.map_drop]
set_option maxRecDepth 20000 in
set_option maxHeartbeats 1200000 in
theorem sortedTgts_any (w : World) (v : Value) (l : List Tgt) (hv : readsTgts w w.heap.size v l) (hl : l.length ≤ 100) (hok : ∀ x ∈ l, checkB x = 0) :
    Calls Tryz.prog 11 #[v] w fun e w' => Grow w w' ∧ ∃ v', e = .returned (.tuple #[v', .int .i64 (if l.Nodup then 0 else 6)]) ∧ (l.Nodup → ∃ ps, rowT w' w.heap.size v' ps ∧ isSorted l (tgts ps) ∧ ∀ p ∈ ps, readsLabels w w.heap.size p.2 p.1) := by
  obtain ⟨i0, hi0, hz0, hz1, hz2⟩ := info_parts infoTgt
  obtain ⟨ao, cp, hvv, hcp, hcells⟩ := hv
  subst hvv
  have HOK := hide hok
  have HCELLS := hide hcells
  clear hok hcells
  obtain ⟨D, HD⟩ : ∃ D : Nat, Hid ((if l.Nodup then 0 else 6) = D) := ⟨_, hide rfl⟩
  have HDi : Hid ((if l.Nodup then (0 : Int) else 6) = (D : Int)) := hide (by rw [← HD.out]; split <;> rfl)
  rw [HDi.out]
  have mixed : Tryz.prog.follows .mixedOrders = true := by kernel_rfl
  go_enter Tryz.func11, Tryz.ntmps11
  go_wp2
  go_loopw [5, 4] (fun iv ov wr => ∃ (i : Nat) (ps : List TP), i ≤ l.length ∧ iv = .int .i64 i ∧ Hid (rowT wr w.heap.size ov ps) ∧ Hid (isSorted (l.take i) (tgts ps)) ∧ Hid ((l.take i).Nodup) ∧ Hid (∀ p ∈ ps, readsLabels w w.heap.size p.2 p.1) ∧ Hid (Grow w wr)) (fun iv _ _ => l.length - (intOf iv).toNat)
  case atStart => exact ⟨0, [], by omega, rfl, hide (World.ownsRow_nil _ _ _ _), hide ⟨List.Perm.refl _, List.Pairwise.nil⟩, hide List.nodup_nil, hide (fun p hp => absurd hp (by simp)), hide (Grow.refl _)⟩
  case round =>
    obtain ⟨i, ps, hi, rfl, HR, HS, HN, HL, HG⟩ := hrel
    rename World => wo
    have hpl : ps.length = i := by
      have := HS.out.1.length_eq
      rw [tgts_length, List.length_take] at this
      omega
    obtain ⟨oo, oc, hov⟩ := own_shape HR.out
    subst hov
    subst hpl
    by_cases hlt : ps.length < l.length
    · have hlti : (ps.length : Int) < (l.length : Int) := by omega
      obtain ⟨rb, rf, xa, rfl, hrB, ha, a0⟩ := HCELLS.out ps.length hlt
      obtain ⟨x, HX⟩ : ∃ x : Tgt, Hid (l[ps.length] = x) := ⟨_, hide rfl⟩
      rw [HX.out] at ha
      have hcx : checkB x = 0 := by rw [← HX.out]; exact HOK.out _ (List.getElem_mem hlt)
      have HA := hide ha
      have HA0 := hide a0
      have HRD : Hid (∀ W, Grow w W → ∀ q, ∀ j (hj : j < ps.length), Calls Tryz.prog 34 #[ps[j].2, xa] (W.drewN q) fun e w' => e = .returned (.int .i64 (ordB ps[j].1 x)) ∧ ∃ n, w' = (W.drewN q).drewN n) := hide fun W g q j hj => by
        have gw : Grow w (W.drewN q) := g.trans (growF_drew _ _)
        have hp := HL.out _ (List.getElem_mem hj)
        have hcp : checkB ps[j].1 = 0 := by
          have h1 : ps[j].1 ∈ tgts ps := List.mem_map.2 ⟨_, List.getElem_mem hj, rfl⟩
          exact HOK.out _ (List.mem_of_mem_take (HS.out.1.mem_iff.1 h1))
        exact rOrder_any (W.drewN q) ps[j].2 xa ps[j].1 x (readsLabels_mono (readsLabels_below hp gw) gw.size) (readsLabels_mono (readsLabels_below ha gw) gw.size) (lens_right hcp).1 (lens_right hcx).1
      have HSM : Hid (∀ W, Grow w W → ∀ q, ∀ j (hj : j < ps.length), Calls Tryz.prog 13 #[ps[j].2, xa] (W.drewN q) fun e w' => e = .returned (.bool (decide (ps[j].1 = x))) ∧ ∃ n, w' = (W.drewN q).drewN n) := hide fun W g q j hj => by
        have gw : Grow w (W.drewN q) := g.trans (growF_drew _ _)
        have hp := HL.out _ (List.getElem_mem hj)
        have hcp : checkB ps[j].1 = 0 := by
          have h1 : ps[j].1 ∈ tgts ps := List.mem_map.2 ⟨_, List.getElem_mem hj, rfl⟩
          exact HOK.out _ (List.mem_of_mem_take (HS.out.1.mem_iff.1 h1))
        have l1 := (lens_right hcp).1
        have l2 := (lens_right hcx).1
        exact sameLabels_any (W.drewN q) ps[j].2 xa ps[j].1 x (readsLabels_mono (readsLabels_below hp gw) gw.size) (readsLabels_mono (readsLabels_below ha gw) gw.size) (by omega) (by omega)
      obtain ⟨xo, xc, hxa⟩ := readsLabels_len ha
      generalize hnx : x.length = nx at hxa
      have hxone : xa.oneCell' = true := by rw [hxa]; rfl
      have HXO := hide hxone
      subst hxa
      clear ha a0 hcx hnx hxone
      go_wp2
      go_loopw [6] (fun av wr2 => ∃ k : Nat, k ≤ ps.length ∧ av = .int .i64 k ∧ Hid (∀ j (hj : j < ps.length), j < k → ordB ps[j].1 x < 0) ∧ Hid (Grow wo wr2)) (fun av _ => ps.length - (intOf av).toNat)
      case atStart => exact ⟨0, by omega, rfl, hide (fun j hj h => by omega), hide (Grow.refl _)⟩
      case round =>
        obtain ⟨k, hk, rfl, HK, HG2⟩ := hrel
        rename World => wk
        have HGw : Hid (Grow w wk) := hide (HG.out.trans HG2.out)
        by_cases hkl : k < ps.length
        · have hkli : (k : Int) < (ps.length : Int) := by omega
          obtain ⟨g, cap, hv0, hcap, hgB, hgl, c0⟩ := HR.out.cell hkl
          simp only [Value.slice.injEq, true_and] at hv0
          obtain ⟨rfl, rfl⟩ := hv0
          have e0 := (HG2.out.cell (p := ⟨g, k, none⟩) hgl).trans c0
          have e1 := (HGw.out.cell (p := ⟨rb, rf + ps.length, none⟩) hrB).trans HA0.out
          obtain ⟨pv, hpv⟩ : ∃ pv, ps[k].2 = pv := ⟨_, rfl⟩
          obtain ⟨po, pc, hpo⟩ := readsLabels_len (HL.out _ (List.getElem_mem hkl))
          obtain ⟨O, HO⟩ : ∃ O, Hid (ordB ps[k].1 x = O) := ⟨_, hide rfl⟩
          have HC : Hid (∀ q, Calls Tryz.prog 34 #[pv, .slice xo nx xc] (wk.drewN q) fun e w' => e = .returned (.int .i64 O) ∧ ∃ n, w' = (wk.drewN q).drewN n) := hide fun q => by
            have := HRD.out wk HGw.out q k hkl
            rw [hpv, HO.out] at this
            exact this
          rw [hpv] at e0 hpo
          generalize ps[k].1.length = np at hpo
          subst hpo
          have HPV := hide hpv
          clear c0 hpv
          by_cases hO : O < 0
          · have hod : decide (O < 0) = true := decide_eq_true hO
            have HOL := hide hO
            clear hO
            go_wp2
            go_quiet ((go_at_call 34; exact Calls.quiet_of (HC.out _)))
            have HGq : Hid (Grow wo (wk.drewN nq)) := hide (HG2.out.trans (growF_drew _ _))
            go_wp2
            go_roundw
            case rel => exact ⟨k + 1, by omega, by go_num, hide (fun j hj hjk => by
              by_cases e : j = k
              · subst e; rw [HO.out]; exact HOL.out
              · exact HK.out j hj (by omega)), HGq⟩
            case measure => simp [intOf]; omega
          · have hod : decide (O < 0) = false := decide_eq_false hO
            have HOL := hide hO
            clear hO
            have HC2 : Hid (∀ W, Grow w W → ∀ q, Calls Tryz.prog 13 #[.slice po np pc, .slice xo nx xc] (W.drewN q) fun e w' => e = .returned (.bool (decide (O = 0))) ∧ ∃ n, w' = (W.drewN q).drewN n) := hide fun W g q => by
              have := HSM.out W g q k hkl
              rw [show decide (ps[k].1 = x) = decide (O = 0) by rw [← HO.out]; exact decide_eq_decide.2 ordB_zero.symm] at this
              rw [HPV.out] at this
              exact this
            go_wp2
            go_quiet ((go_at_call 34; exact Calls.quiet_of (HC.out _)))
            have HG3 : Hid (Grow wo (wk.drewN nq)) := hide (HG2.out.trans (growF_drew _ _))
            have HGw3 : Hid (Grow w (wk.drewN nq)) := hide (HG.out.trans HG3.out)
            have e0' : (wk.drewN nq).cell? ⟨g, k, none⟩ = some (.slice po np pc) := e0
            have e1' : (wk.drewN nq).cell? ⟨rb, rf + ps.length, none⟩ = some (.slice xo nx xc) := e1
            generalize wk.drewN nq = w3 at HG3 HGw3 e0' e1' ⊢
            by_cases hO0 : O = 0
            · have hod0 : decide (O = 0) = true := decide_eq_true hO0
              have HC3 : Hid (∀ q, Calls Tryz.prog 13 #[.slice po np pc, .slice xo nx xc] (w3.drewN q) fun e w' => e = .returned (.bool true) ∧ ∃ n, w' = (w3.drewN q).drewN n) := hide fun q => by
                have := HC2.out w3 HGw3.out q
                rw [hod0] at this
                exact this
              have hD : D = 6 := by
                rw [← HD.out, if_neg]
                intro hnd
                have e : ps[k].1 = x := ordB_zero.1 (HO.out.trans hO0)
                have h1 : x ∈ l.take ps.length := HS.out.1.mem_iff.1 (e ▸ List.mem_map.2 ⟨_, List.getElem_mem hkl, rfl⟩)
                obtain ⟨j, hj, he⟩ := List.getElem_of_mem h1
                rw [List.length_take] at hj
                rw [List.getElem_take] at he
                exact List.pairwise_iff_getElem.1 hnd j ps.length (by omega) hlt (by omega) (he.trans HX.out.symm)
              subst hD
              clear hO0 hod0 e0 e1
              go_wp2
              go_quiet ((go_at_call 13; exact Calls.quiet_of (HC3.out _)))
              have HG4 : Hid (Grow w (w3.drewN nq)) := hide (HGw3.out.trans (growF_drew _ _))
              go_wp2
              go_ret2
              exact ⟨HG4.out, _, rfl, fun hnd => by
                have := HD.out
                rw [if_pos hnd] at this
                cases this⟩
            · have hod0 : decide (O = 0) = false := decide_eq_false hO0
              have HC3 : Hid (∀ q, Calls Tryz.prog 13 #[.slice po np pc, .slice xo nx xc] (w3.drewN q) fun e w' => e = .returned (.bool false) ∧ ∃ n, w' = (w3.drewN q).drewN n) := hide fun q => by
                have := HC2.out w3 HGw3.out q
                rw [hod0] at this
                exact this
              have HP : Hid (∀ h : k < (tgts ps).length, 0 < ordB (tgts ps)[k] x) := hide fun h => by
                have : (tgts ps)[k] = ps[k].1 := by simp [tgts]
                rw [this, HO.out]
                have := HOL.out
                omega
              clear hO0 hod0 e0 e1
              go_wp2
              go_quiet ((go_at_call 13; exact Calls.quiet_of (HC3.out _)))
              have HG4 : Hid (Grow wo (w3.drewN nq)) := hide (HG3.out.trans (growF_drew _ _))
              have e0'' : (w3.drewN nq).cell? ⟨g, k, none⟩ = some (.slice po np pc) := e0'
              have e1'' : (w3.drewN nq).cell? ⟨rb, rf + ps.length, none⟩ = some (.slice xo nx xc) := e1'
              generalize w3.drewN nq = w4 at HG4 e0'' e1'' ⊢
              go_wp2
              have hci : ¬ oc = k := by omega
              have e1d : w4.drew.cell? ⟨rb, rf + ps.length, none⟩ = some (.slice xo nx xc) := e1''
              have hws4 : w.heap.size ≤ w4.heap.size := (HG.out.trans HG4.out).size
              have hRW := hide (own_growF2 HR.out HG4.out)
              obtain ⟨X1, eX1⟩ : ∃ X, w4.drew.alloc (.cells #[.slice xo nx xc] 36) = X := ⟨_, rfl⟩
              have hGX1 : Grow w4 X1 := Grow.trans (⟨rfl, rfl, rfl, Nat.le_refl _, fun _ _ => rfl⟩ : Grow w4 w4.drew) (by rw [← eX1]; exact (Grow.refl _).alloc _)
              have hbX1 : X1.heap[w4.heap.size]? = some (.cells #[.slice xo nx xc] 36 (0, 0)) := by rw [← eX1]; exact heap_alloc_new _ _
              have hsX1 : X1.heap.size = w4.heap.size + 1 := by rw [← eX1]; simp
              have hO2 : X1.ownsRow w.heap.size 36 1 (.slice (some ⟨w4.heap.size, 0, none⟩) 1 1) 1 [.slice xo nx xc] := ⟨rfl, .inr ⟨w4.heap.size, 1, _, rfl, hws4, hbX1, Nat.le_refl _, by unfold maxLen; omega, rfl, rfl⟩⟩
              have hw2 : w.heap.size ≤ X1.heap.size := by omega
              have hgOl : g < w4.heap.size := by have := HG4.out.size; omega
              have hcO : ∀ W', Grow w4 W' → ∀ j u, (vals ps)[j]? = some u → W'.cell? ((⟨g, 0, none⟩ : Addr).add j) = some u := fun W' gg j u hj => World.ownsRow.cells (own_growF2 hRW.out gg) (g := g) rfl j u hj
              have hdl : ((vals ps).drop k).length = (ps.length - k) * 1 := by rw [List.length_drop, vals_length]; omega
              have hone2 : ∀ u ∈ (vals ps).drop k, u.oneCell' = true := fun u hu => one_vals HL.out u (List.mem_of_mem_drop hu)
              have hkcO : k ≤ oc := by omega
              have hkcI : (k : Int) ≤ (oc : Int) := by omega
              have hkpI : (k : Int) ≤ (ps.length : Int) := by omega
              have hdrop : ∀ j u, ((vals ps).drop k)[j]? = some u → X1.cell? ((⟨g, k, none⟩ : Addr).add j) = some u := fun j u hj => by
                rw [List.getElem?_drop] at hj
                have := hcO X1 hGX1 _ _ hj
                rw [Addr.add_lit] at this ⊢
                simpa using this
              have HG41 := hide hGX1
              go_region_law_o (first | (refine step_app_atF rfl _ _ 22 rfl w.heap.size 36 i0 _ 1 24 Tryz.underlying22 hi0 hz0 hz1 hz2 rfl (by decide) (.slice (some ⟨w4.heap.size, 0, none⟩) 1 1) 1 _ (by simp [Act.eval, Act.put]) hO2 ⟨g, k, none⟩ (ps.length - k) (oc - k) ((vals ps).drop k) (by simp [Act.eval, Act.put, hci]) hdl hdrop hone2 (by unfold maxLen; omega) (by omega) hw2 ?_; intro v6 w6 hown6 hg6 hat6; obtain ⟨g6, c6, hv6⟩ : ∃ g c, v6 = .slice (some ⟨g, 0, none⟩) (1 + (ps.length - k)) c := (by rcases hown6.2 with ⟨_, h0⟩ | ⟨g, cap, cur, r1, _⟩; omega; exact ⟨_, _, r1⟩); subst hv6; have hn6 := World.ownsRow.cells hown6 (g := g6) rfl; have hO6 : ∀ j u, ((vals ps).take k)[j]? = some u → w6.cell? ((⟨g, 0, none⟩ : Addr).add j) = some u := (fun j u hj => by
                    have hjj : j < k := by
                      rcases Nat.lt_or_ge j k with h | h
                      · exact h
                      · rw [List.getElem?_eq_none (by rw [List.length_take]; omega)] at hj; cases hj
                    rw [List.getElem?_take_of_lt hjj] at hj
                    have := hcO X1 HG41.out j u hj
                    rw [Addr.add_lit] at this ⊢
                    exact (World.cell?_of_block (w := X1) (hg6.block g (by omega) (by simp [Value.ownBlock]; omega))).trans this)) | (refine step_app_argF rfl _ _ 22 rfl 36 i0 _ 1 24 Tryz.underlying22 hi0 hz0 hz1 hz2 rfl (by decide) ⟨g, 0, none⟩ k k ((vals ps).take k) (by simp [Act.eval, Act.put]) (by rw [List.length_take, vals_length]; omega) hO6 ⟨g6, 0, none⟩ (1 + (ps.length - k)) c6 ([.slice xo nx xc] ++ (vals ps).drop k) (by simp [Act.eval, Act.put]) (by rw [List.length_append, hdl]; simp) hn6 (by omega) (by unfold maxLen; omega) (by omega) ?_; intro v7 w7 hown7 hg7))
              have g6w : Below w.heap.size X1 w6 := (Below.refl w.heap.size X1).grown hg6 hw2 (fun k hk => (hO2.lt k hk).1)
              have g7 : Grow w w7 := Below.trans (HG.out.trans HG4.out) (Below.trans (Below.mono HG41.out hws4) (Below.trans g6w (Below.mono (grow_noneF hg7) (Nat.le_trans hw2 hg6.size))))
              have hrow7 : rowT w7 w.heap.size v7 (ps.take k ++ (x, .slice xo nx xc) :: ps.drop k) := rowT.ins hown7 hk (Nat.le_trans hw2 hg6.size)
              have HR7 := hide hrow7
              have HG7 := hide g7
              clear hrow7 g7 hown7 hg7 hO2 hbX1 hGX1 hown6 hg6 g6w hn6 hat6 hO6 hcO hone2
              go_wp2
              go_roundw
              case rel =>
                refine ⟨ps.length + 1, _, by omega, by go_num, HR7, hide ?_, hide ?_, hide ?_, HG7⟩
                · rw [tgts_ins, List.take_succ_eq_append_getElem hlt, HX.out]
                  exact sorted_ins HS.out (by rw [tgts_length]; exact hk) (fun j hj hjk => by have := HK.out j (by rw [tgts_length] at hj; exact hj) hjk; simpa [tgts] using this) (fun h => by have := HP.out h; omega)
                · rw [List.take_succ_eq_append_getElem hlt, HX.out]
                  exact nodup_snoc HN.out (sorted_notin HS.out (fun j hj hjk => by have := HK.out j (by rw [tgts_length] at hj; exact hj) hjk; simpa [tgts] using this) HP.out)
                · intro p hp
                  rcases List.mem_append.1 hp with hp | hp
                  · exact HL.out p (List.mem_of_mem_take hp)
                  · rcases List.mem_cons.1 hp with rfl | hp
                    · exact HA.out
                    · exact HL.out p (List.mem_of_mem_drop hp)
              case measure => simp [intOf]; omega
        · have HP : Hid (∀ h : k < (tgts ps).length, 0 < ordB (tgts ps)[k] x) := hide fun h => absurd h (by rw [tgts_length]; exact hkl)
          have hkp : ps.length = k := by omega
          subst hkp
          have hkd : decide (ps.length < ps.length) = false := decide_eq_false hkl
          go_wp2
          go_quiet (fail)
          have HG3 : Hid (Grow wo (wk.drewN nq)) := hide (HG2.out.trans (growF_drew _ _))
          generalize wk.drewN nq = w3 at HG3 ⊢
          go_wp2
          go_quiet (fail)
          have HG4 : Hid (Grow wo (w3.drewN nq)) := hide (HG3.out.trans (growF_drew _ _))
          generalize w3.drewN nq = w4 at HG4 ⊢
          have e1d : w4.drew.cell? ⟨rb, rf + ps.length, none⟩ = some (.slice xo nx xc) := ((HG.out.trans HG4.out).cell (p := ⟨rb, rf + ps.length, none⟩) hrB).trans HA0.out
          go_wp2
          rcases HR.out.2 with ⟨hv0, hp0⟩ | ⟨g, cap, cur, hv0, hgB, hgh, hcap, -, -, -⟩
          · simp only [Value.slice.injEq] at hv0
            obtain ⟨rfl, -, rfl⟩ := hv0
            have hz : ps.length = 0 := hp0
            have hl0 : 0 < l.length := by omega
            have e1z : w4.drew.cell? ⟨rb, rf, none⟩ = some (.slice xo nx xc) := by have := e1d; rw [hz] at this; exact this
            have hws4 : w.heap.size ≤ w4.heap.size := (HG.out.trans HG4.out).size
            have hRW := hide (own_growF2 HR.out HG4.out)
            obtain ⟨X1, eX1⟩ : ∃ X, w4.drew.alloc (.cells #[.slice xo nx xc] 36) = X := ⟨_, rfl⟩
            have hGX1 : Grow w4 X1 := Grow.trans (⟨rfl, rfl, rfl, Nat.le_refl _, fun _ _ => rfl⟩ : Grow w4 w4.drew) (by rw [← eX1]; exact (Grow.refl _).alloc _)
            have hbX1 : X1.heap[w4.heap.size]? = some (.cells #[.slice xo nx xc] 36 (0, 0)) := by rw [← eX1]; exact heap_alloc_new _ _
            have hsX1 : X1.heap.size = w4.heap.size + 1 := by rw [← eX1]; simp
            have hO2 : X1.ownsRow w.heap.size 36 1 (.slice (some ⟨w4.heap.size, 0, none⟩) 1 1) 1 [.slice xo nx xc] := ⟨rfl, .inr ⟨w4.heap.size, 1, _, rfl, hws4, hbX1, Nat.le_refl _, by unfold maxLen; omega, rfl, rfl⟩⟩
            have hw2 : w.heap.size ≤ X1.heap.size := by omega
            have HG41 := hide hGX1
            go_region_law_o (first | (refine step_app_noneF rfl _ _ 22 rfl w.heap.size 36 i0 1 Tryz.underlying22 hi0 (.slice (some ⟨w4.heap.size, 0, none⟩) 1 1) 1 _ rfl hO2 rfl ?_) | (refine step_app_atF rfl _ _ 22 rfl w.heap.size 36 i0 _ 1 24 Tryz.underlying22 hi0 hz0 hz1 hz2 rfl (by decide) (.slice none 0 0) 0 [] (by simp [Act.eval, Act.put]) (World.ownsRow_nil _ _ _ _) ⟨w4.heap.size, 0, none⟩ 1 1 [.slice xo nx xc] (by simp [Act.eval, Act.put]) rfl (World.news_of_block hbX1) (by simp [Value.oneCell']) (by unfold maxLen; omega) (by omega) hw2 ?_; intro v7 w7 hown7 hg7 hat7))
            have g7 : Grow w w7 := Below.trans (HG.out.trans HG4.out) (Below.trans (Below.mono HG41.out hws4) (Below.mono (grow_noneF hg7) hw2))
            have hrow7 : rowT w7 w.heap.size v7 (ps.take ps.length ++ (x, .slice xo nx xc) :: ps.drop ps.length) := by
              refine rowT.ins (B7 := w.heap.size) ?_ hk (Nat.le_refl _)
              rw [List.eq_nil_of_length_eq_zero hz]
              exact hown7
            have HR7 := hide hrow7
            have HG7 := hide g7
            clear hrow7 g7 hown7 hg7 hO2 hbX1 hGX1
            go_wp2
            go_roundw
            case rel =>
              refine ⟨ps.length + 1, _, by omega, by go_num, HR7, hide ?_, hide ?_, hide ?_, HG7⟩
              · rw [tgts_ins, List.take_succ_eq_append_getElem hlt, HX.out]
                exact sorted_ins HS.out (by rw [tgts_length]; exact hk) (fun j hj hjk => by have := HK.out j (by rw [tgts_length] at hj; exact hj) hjk; simpa [tgts] using this) (fun h => by have := HP.out h; omega)
              · rw [List.take_succ_eq_append_getElem hlt, HX.out]
                exact nodup_snoc HN.out (sorted_notin HS.out (fun j hj hjk => by have := HK.out j (by rw [tgts_length] at hj; exact hj) hjk; simpa [tgts] using this) HP.out)
              · intro p hp
                rcases List.mem_append.1 hp with hp | hp
                · exact HL.out p (List.mem_of_mem_take hp)
                · rcases List.mem_cons.1 hp with rfl | hp
                  · exact HA.out
                  · exact HL.out p (List.mem_of_mem_drop hp)
            case measure => simp [intOf]; omega
          · simp only [Value.slice.injEq, true_and] at hv0
            obtain ⟨rfl, rfl⟩ := hv0
            have hgl : g < wo.heap.size := lt_of_block hgh
            clear hgh
            by_cases hci : oc = ps.length
            · have hkc0 : oc - ps.length = 0 := by omega
              have hws4 : w.heap.size ≤ w4.heap.size := (HG.out.trans HG4.out).size
              have hRW := hide (own_growF2 HR.out HG4.out)
              obtain ⟨X1, eX1⟩ : ∃ X, w4.drew.alloc (.cells #[.slice xo nx xc] 36) = X := ⟨_, rfl⟩
              have hGX1 : Grow w4 X1 := Grow.trans (⟨rfl, rfl, rfl, Nat.le_refl _, fun _ _ => rfl⟩ : Grow w4 w4.drew) (by rw [← eX1]; exact (Grow.refl _).alloc _)
              have hbX1 : X1.heap[w4.heap.size]? = some (.cells #[.slice xo nx xc] 36 (0, 0)) := by rw [← eX1]; exact heap_alloc_new _ _
              have hsX1 : X1.heap.size = w4.heap.size + 1 := by rw [← eX1]; simp
              have hO2 : X1.ownsRow w.heap.size 36 1 (.slice (some ⟨w4.heap.size, 0, none⟩) 1 1) 1 [.slice xo nx xc] := ⟨rfl, .inr ⟨w4.heap.size, 1, _, rfl, hws4, hbX1, Nat.le_refl _, by unfold maxLen; omega, rfl, rfl⟩⟩
              have hw2 : w.heap.size ≤ X1.heap.size := by omega
              have hgOl : g < w4.heap.size := by have := HG4.out.size; omega
              have hcO : ∀ W', Grow w4 W' → ∀ j u, (vals ps)[j]? = some u → W'.cell? ((⟨g, 0, none⟩ : Addr).add j) = some u := fun W' gg j u hj => World.ownsRow.cells (own_growF2 hRW.out gg) (g := g) rfl j u hj
              have hdl : ((vals ps).drop ps.length).length = (ps.length - ps.length) * 1 := by rw [List.length_drop, vals_length]; omega
              have hone2 : ∀ u ∈ (vals ps).drop ps.length, u.oneCell' = true := fun u hu => one_vals HL.out u (List.mem_of_mem_drop hu)
              have hkcO : ps.length ≤ oc := by omega
              have hkcI : (ps.length : Int) ≤ (oc : Int) := by omega
              have hkpI : (ps.length : Int) ≤ (ps.length : Int) := by omega
              have HG41 := hide hGX1
              go_region_law_o (first | (refine step_app_atF rfl _ _ 22 rfl w.heap.size 36 i0 _ 1 24 Tryz.underlying22 hi0 hz0 hz1 hz2 rfl (by decide) (.slice (some ⟨w4.heap.size, 0, none⟩) 1 1) 1 _ (by simp [Act.eval, Act.put]) hO2 ⟨g, 0, none⟩ (ps.length - ps.length) (oc - ps.length) ((vals ps).drop ps.length) (by simp [Act.eval, Act.put, hci]) hdl (fun j u hj => by rw [List.drop_eq_nil_of_le (by rw [vals_length]; omega)] at hj; simp at hj) hone2 (by unfold maxLen; omega) (by omega) hw2 ?_; intro v6 w6 hown6 hg6 hat6; obtain ⟨g6, c6, hv6⟩ : ∃ g c, v6 = .slice (some ⟨g, 0, none⟩) (1 + (ps.length - ps.length)) c := (by rcases hown6.2 with ⟨_, h0⟩ | ⟨g, cap, cur, r1, _⟩; omega; exact ⟨_, _, r1⟩); subst hv6; have hn6 := World.ownsRow.cells hown6 (g := g6) rfl; have hO6 : ∀ j u, ((vals ps).take ps.length)[j]? = some u → w6.cell? ((⟨g, 0, none⟩ : Addr).add j) = some u := (fun j u hj => by
                    have hjj : j < ps.length := by
                      rcases Nat.lt_or_ge j ps.length with h | h
                      · exact h
                      · rw [List.getElem?_eq_none (by rw [List.length_take]; omega)] at hj; cases hj
                    rw [List.getElem?_take_of_lt hjj] at hj
                    have := hcO X1 HG41.out j u hj
                    rw [Addr.add_lit] at this ⊢
                    exact (World.cell?_of_block (w := X1) (hg6.block g (by omega) (by simp [Value.ownBlock]; omega))).trans this)) | (refine step_app_argF rfl _ _ 22 rfl 36 i0 _ 1 24 Tryz.underlying22 hi0 hz0 hz1 hz2 rfl (by decide) ⟨g, 0, none⟩ ps.length ps.length ((vals ps).take ps.length) (by simp [Act.eval, Act.put]) (by rw [List.length_take, vals_length]; omega) hO6 ⟨g6, 0, none⟩ (1 + (ps.length - ps.length)) c6 ([.slice xo nx xc] ++ (vals ps).drop ps.length) (by simp [Act.eval, Act.put]) (by rw [List.length_append, hdl]; simp) hn6 (by omega) (by unfold maxLen; omega) (by omega) ?_; intro v7 w7 hown7 hg7))
              have g6w : Below w.heap.size X1 w6 := (Below.refl w.heap.size X1).grown hg6 hw2 (fun k hk => (hO2.lt k hk).1)
              have g7 : Grow w w7 := Below.trans (HG.out.trans HG4.out) (Below.trans (Below.mono HG41.out hws4) (Below.trans g6w (Below.mono (grow_noneF hg7) (Nat.le_trans hw2 hg6.size))))
              have hrow7 : rowT w7 w.heap.size v7 (ps.take ps.length ++ (x, .slice xo nx xc) :: ps.drop ps.length) := rowT.ins hown7 hk (Nat.le_trans hw2 hg6.size)
              have HR7 := hide hrow7
              have HG7 := hide g7
              clear hrow7 g7 hown7 hg7 hO2 hbX1 hGX1 hown6 hg6 g6w hn6 hat6 hO6 hcO hone2
              go_wp2
              go_roundw
              case rel =>
                refine ⟨ps.length + 1, _, by omega, by go_num, HR7, hide ?_, hide ?_, hide ?_, HG7⟩
                · rw [tgts_ins, List.take_succ_eq_append_getElem hlt, HX.out]
                  exact sorted_ins HS.out (by rw [tgts_length]; exact hk) (fun j hj hjk => by have := HK.out j (by rw [tgts_length] at hj; exact hj) hjk; simpa [tgts] using this) (fun h => by have := HP.out h; omega)
                · rw [List.take_succ_eq_append_getElem hlt, HX.out]
                  exact nodup_snoc HN.out (sorted_notin HS.out (fun j hj hjk => by have := HK.out j (by rw [tgts_length] at hj; exact hj) hjk; simpa [tgts] using this) HP.out)
                · intro p hp
                  rcases List.mem_append.1 hp with hp | hp
                  · exact HL.out p (List.mem_of_mem_take hp)
                  · rcases List.mem_cons.1 hp with rfl | hp
                    · exact HA.out
                    · exact HL.out p (List.mem_of_mem_drop hp)
              case measure => simp [intOf]; omega
            · have hz : True := trivial
              have hws4 : w.heap.size ≤ w4.heap.size := (HG.out.trans HG4.out).size
              have hRW := hide (own_growF2 HR.out HG4.out)
              obtain ⟨X1, eX1⟩ : ∃ X, w4.drew.alloc (.cells #[.slice xo nx xc] 36) = X := ⟨_, rfl⟩
              have hGX1 : Grow w4 X1 := Grow.trans (⟨rfl, rfl, rfl, Nat.le_refl _, fun _ _ => rfl⟩ : Grow w4 w4.drew) (by rw [← eX1]; exact (Grow.refl _).alloc _)
              have hbX1 : X1.heap[w4.heap.size]? = some (.cells #[.slice xo nx xc] 36 (0, 0)) := by rw [← eX1]; exact heap_alloc_new _ _
              have hsX1 : X1.heap.size = w4.heap.size + 1 := by rw [← eX1]; simp
              have hO2 : X1.ownsRow w.heap.size 36 1 (.slice (some ⟨w4.heap.size, 0, none⟩) 1 1) 1 [.slice xo nx xc] := ⟨rfl, .inr ⟨w4.heap.size, 1, _, rfl, hws4, hbX1, Nat.le_refl _, by unfold maxLen; omega, rfl, rfl⟩⟩
              have hw2 : w.heap.size ≤ X1.heap.size := by omega
              have hgOl : g < w4.heap.size := by have := HG4.out.size; omega
              have hcO : ∀ W', Grow w4 W' → ∀ j u, (vals ps)[j]? = some u → W'.cell? ((⟨g, 0, none⟩ : Addr).add j) = some u := fun W' gg j u hj => World.ownsRow.cells (own_growF2 hRW.out gg) (g := g) rfl j u hj
              have hdl : ((vals ps).drop ps.length).length = (ps.length - ps.length) * 1 := by rw [List.length_drop, vals_length]; omega
              have hone2 : ∀ u ∈ (vals ps).drop ps.length, u.oneCell' = true := fun u hu => one_vals HL.out u (List.mem_of_mem_drop hu)
              have hkcO : ps.length ≤ oc := by omega
              have hkcI : (ps.length : Int) ≤ (oc : Int) := by omega
              have hkpI : (ps.length : Int) ≤ (ps.length : Int) := by omega
              have hdrop : ∀ j u, ((vals ps).drop ps.length)[j]? = some u → X1.cell? ((⟨g, ps.length, none⟩ : Addr).add j) = some u := fun j u hj => by
                rw [List.getElem?_drop] at hj
                have := hcO X1 hGX1 _ _ hj
                rw [Addr.add_lit] at this ⊢
                simpa using this
              have HG41 := hide hGX1
              go_region_law_o (first | (refine step_app_atF rfl _ _ 22 rfl w.heap.size 36 i0 _ 1 24 Tryz.underlying22 hi0 hz0 hz1 hz2 rfl (by decide) (.slice (some ⟨w4.heap.size, 0, none⟩) 1 1) 1 _ (by simp [Act.eval, Act.put]) hO2 ⟨g, ps.length, none⟩ (ps.length - ps.length) (oc - ps.length) ((vals ps).drop ps.length) (by simp [Act.eval, Act.put, hci]) hdl hdrop hone2 (by unfold maxLen; omega) (by omega) hw2 ?_; intro v6 w6 hown6 hg6 hat6; obtain ⟨g6, c6, hv6⟩ : ∃ g c, v6 = .slice (some ⟨g, 0, none⟩) (1 + (ps.length - ps.length)) c := (by rcases hown6.2 with ⟨_, h0⟩ | ⟨g, cap, cur, r1, _⟩; omega; exact ⟨_, _, r1⟩); subst hv6; have hn6 := World.ownsRow.cells hown6 (g := g6) rfl; have hO6 : ∀ j u, ((vals ps).take ps.length)[j]? = some u → w6.cell? ((⟨g, 0, none⟩ : Addr).add j) = some u := (fun j u hj => by
                    have hjj : j < ps.length := by
                      rcases Nat.lt_or_ge j ps.length with h | h
                      · exact h
                      · rw [List.getElem?_eq_none (by rw [List.length_take]; omega)] at hj; cases hj
                    rw [List.getElem?_take_of_lt hjj] at hj
                    have := hcO X1 HG41.out j u hj
                    rw [Addr.add_lit] at this ⊢
                    exact (World.cell?_of_block (w := X1) (hg6.block g (by omega) (by simp [Value.ownBlock]; omega))).trans this)) | (refine step_app_argF rfl _ _ 22 rfl 36 i0 _ 1 24 Tryz.underlying22 hi0 hz0 hz1 hz2 rfl (by decide) ⟨g, 0, none⟩ ps.length ps.length ((vals ps).take ps.length) (by simp [Act.eval, Act.put]) (by rw [List.length_take, vals_length]; omega) hO6 ⟨g6, 0, none⟩ (1 + (ps.length - ps.length)) c6 ([.slice xo nx xc] ++ (vals ps).drop ps.length) (by simp [Act.eval, Act.put]) (by rw [List.length_append, hdl]; simp) hn6 (by omega) (by unfold maxLen; omega) (by omega) ?_; intro v7 w7 hown7 hg7))
              have g6w : Below w.heap.size X1 w6 := (Below.refl w.heap.size X1).grown hg6 hw2 (fun k hk => (hO2.lt k hk).1)
              have g7 : Grow w w7 := Below.trans (HG.out.trans HG4.out) (Below.trans (Below.mono HG41.out hws4) (Below.trans g6w (Below.mono (grow_noneF hg7) (Nat.le_trans hw2 hg6.size))))
              have hrow7 : rowT w7 w.heap.size v7 (ps.take ps.length ++ (x, .slice xo nx xc) :: ps.drop ps.length) := rowT.ins hown7 hk (Nat.le_trans hw2 hg6.size)
              have HR7 := hide hrow7
              have HG7 := hide g7
              clear hrow7 g7 hown7 hg7 hO2 hbX1 hGX1 hown6 hg6 g6w hn6 hat6 hO6 hcO hone2
              go_wp2
              go_roundw
              case rel =>
                refine ⟨ps.length + 1, _, by omega, by go_num, HR7, hide ?_, hide ?_, hide ?_, HG7⟩
                · rw [tgts_ins, List.take_succ_eq_append_getElem hlt, HX.out]
                  exact sorted_ins HS.out (by rw [tgts_length]; exact hk) (fun j hj hjk => by have := HK.out j (by rw [tgts_length] at hj; exact hj) hjk; simpa [tgts] using this) (fun h => by have := HP.out h; omega)
                · rw [List.take_succ_eq_append_getElem hlt, HX.out]
                  exact nodup_snoc HN.out (sorted_notin HS.out (fun j hj hjk => by have := HK.out j (by rw [tgts_length] at hj; exact hj) hjk; simpa [tgts] using this) HP.out)
                · intro p hp
                  rcases List.mem_append.1 hp with hp | hp
                  · exact HL.out p (List.mem_of_mem_take hp)
                  · rcases List.mem_cons.1 hp with rfl | hp
                    · exact HA.out
                    · exact HL.out p (List.mem_of_mem_drop hp)
              case measure => simp [intOf]; omega
    · have hle : ps.length = l.length := by omega
      rw [hle] at HS HN
      have hnl : ¬ ((ps.length : Int) < (l.length : Int)) := by omega
      rw [List.take_length] at HS HN
      clear hle
      have hD : D = 0 := by rw [← HD.out, if_pos HN.out]
      subst hD
      go_wp2
      go_ret2
      exact ⟨HG.out, _, rfl, fun _ => ⟨ps, HR.out, HS.out, fun a b h => HL.out (a, b) h⟩⟩
end Go.Proofs.YtdlmgkncneifaaaGreat.Fd
namespace Go.Proofs.YtdlmgkncneifaaaGreat.Fd
open Go.RowKit Lb
attribute [local go_sem] bs_size bs_toList bs_append bs_get bs_extract
set_option maxRecDepth 20000 in
set_option maxHeartbeats 1200000 in
theorem has_any (w : World) (v xv : Value) (l : List Tgt) (x : Tgt) (hv : readsTgts w w.heap.size v l) (hx : readsLabels w w.heap.size xv x) (hl : l.length ≤ 1000000) (hlx : ∀ y ∈ l, y.length ≤ 1000000) (hxl : x.length ≤ 1000000) :
    Calls Tryz.prog 12 #[v, .agg #[xv]] w fun e w' => e = .returned (.bool (decide (x ∈ l))) ∧ Grow w w' := by
  obtain ⟨ao, cp, hvv, -, hcells⟩ := hv
  subst hvv
  obtain ⟨xo, xc, hxv⟩ := readsLabels_len hx
  have HX := hide hx
  have HC := hide hcells
  have HLX := hide hlx
  obtain ⟨D, HD⟩ : ∃ D, Hid (decide (x ∈ l) = D) := ⟨_, hide rfl⟩
  rw [HD.out]
  obtain ⟨V, eV, gV, hV⟩ := laid1 w #[xv] 36
  have HGV := hide gV
  have HV := hide hV
  have hxl2 := hide hxl
  generalize hnx : x.length = nx at hxv
  subst hxv
  clear hx hcells hlx hxl gV hV hnx
  go_enter Tryz.func12, Tryz.ntmps12
  go_wp2
  go_loopw [5] (fun iv wr => ∃ i : Nat, i ≤ l.length ∧ iv = .int .i64 i ∧ Hid (∀ j (hj : j < l.length), j < i → l[j] ≠ x) ∧ Hid (Grow V wr)) (fun iv _ => l.length - (intOf iv).toNat)
  case atStart => exact ⟨0, by omega, rfl, hide (fun j hj h => by omega), hide (Grow.refl _)⟩
  case round =>
    obtain ⟨i, hi, rfl, HK, HG⟩ := hrel
    have HGw : Hid (Grow w wr) := hide (HGV.out.trans HG.out)
    by_cases hlt : i < l.length
    · have hlti : (i : Int) < (l.length : Int) := by omega
      obtain ⟨rb, rf, ya, rfl, hrB, ha, a0⟩ := HC.out i hlt
      have c0 := (HGw.out.cell (p := ⟨rb, rf + i, none⟩) hrB).trans a0
      have c1 := cell_one (HG.out.get HV.out)
      obtain ⟨F, HF⟩ : ∃ F, Hid (decide (l[i] = x) = F) := ⟨_, hide rfl⟩
      have HS : Hid (∀ q, Calls Tryz.prog 13 #[ya, .slice xo nx xc] (wr.drewN q) fun e w' => e = .returned (.bool F) ∧ ∃ n, w' = (wr.drewN q).drewN n) := hide fun q => by
        have gw : Grow w (wr.drewN q) := HGw.out.trans (growF_drew _ _)
        have := sameLabels_any (wr.drewN q) ya (.slice xo nx xc) l[i] x (readsLabels_mono (readsLabels_below ha gw) gw.size) (readsLabels_mono (readsLabels_below HX.out gw) gw.size) (HLX.out _ (List.getElem_mem hlt)) (by have := hxl2.out; omega)
        rw [HF.out] at this
        exact this
      obtain ⟨yo, yc, hya⟩ := readsLabels_len ha
      generalize l[i].length = ny at hya
      subst hya
      clear ha a0
      cases F with
      | true =>
        have hD : D = true := by
          rw [← HD.out, decide_eq_true_eq]
          have e : l[i] = x := of_decide_eq_true HF.out
          rw [← e]; exact List.getElem_mem hlt
        subst hD
        go_wp2
        go_quiet ((go_at_call 13; exact Calls.quiet_of (HS.out _)))
        have HGq : Hid (Grow w (wr.drewN nq)) := hide (HGw.out.trans (growF_drew _ _))
        go_wp2
        go_ret
        exact ⟨rfl, HGq.out⟩
      | false =>
        have HNE : Hid (l[i] ≠ x) := hide (of_decide_eq_false HF.out)
        go_wp2
        go_quiet ((go_at_call 13; exact Calls.quiet_of (HS.out _)))
        have HGq : Hid (Grow V (wr.drewN nq)) := hide (HG.out.trans (growF_drew _ _))
        go_wp2
        go_roundw
        case rel => exact ⟨i + 1, by omega, by go_num, hide (fun j hj hji => by
          by_cases e : j = i
          · subst e; exact HNE.out
          · exact HK.out j hj (by omega)), HGq⟩
        case measure => simp [intOf]; omega
    · obtain rfl : i = l.length := by omega
      have hnl : ¬ ((l.length : Int) < (l.length : Int)) := by omega
      have hD : D = false := by
        rw [← HD.out, decide_eq_false_iff_not]
        intro hm
        obtain ⟨j, hj, e⟩ := List.getElem_of_mem hm
        exact HK.out j hj hj e
      subst hD
      go_wp2
      go_ret
      exact ⟨rfl, HGw.out⟩
theorem part_filter : ∀ {a b : List Tgt}, a.Pairwise (fun p q => ordB p q < 0) → b.Pairwise (fun p q => ordB p q < 0) → partT a b = (a.filter (fun x => !decide (x ∈ b)), a.filter (fun x => decide (x ∈ b)), b.filter (fun x => !decide (x ∈ a))) := by
  intro a b
  fun_induction partT a b with
  | case1 b =>
    intro _ _
    rw [Prod.mk.injEq, Prod.mk.injEq]
    exact ⟨rfl, rfl, (List.filter_eq_self.2 (fun x _ => by simp)).symm⟩
  | case2 x a =>
    intro _ _
    rw [Prod.mk.injEq, Prod.mk.injEq]
    exact ⟨(List.filter_eq_self.2 (fun x _ => by simp)).symm, (List.filter_eq_nil_iff.2 (fun x _ => by simp)).symm, rfl⟩
  | case3 x a y b h ih =>
    intro ha hb
    have hx : x ∉ y :: b := by
      intro hm
      rcases List.mem_cons.1 hm with rfl | hm
      · have := ordB_zero.2 (rfl : x = x); omega
      · have h1 := (List.pairwise_cons.1 hb).1 x hm
        have h2 := ordB_trans h h1
        have := ordB_zero.2 (rfl : x = x); omega
    have hz : ∀ z ∈ y :: b, z ≠ x := fun z hz e => hx (e ▸ hz)
    rw [ih (List.pairwise_cons.1 ha).2 hb]
    dsimp only
    rw [Prod.mk.injEq, Prod.mk.injEq]
    refine ⟨?_, ?_, ?_⟩
    · rw [List.filter_cons, if_pos (by simpa using hx)]
    · rw [List.filter_cons, if_neg (by simpa using hx)]
    · refine List.filter_congr fun z hzm => ?_
      have := hz z hzm
      simp [this]
  | case4 x a y b h h2 ih =>
    intro ha hb
    have hyx : ordB y x < 0 := by have := ordB_neg x y; omega
    have hy : y ∉ x :: a := by
      intro hm
      rcases List.mem_cons.1 hm with rfl | hm
      · have := ordB_zero.2 (rfl : y = y); omega
      · have h1 := (List.pairwise_cons.1 ha).1 y hm
        have h3 := ordB_trans hyx h1
        have := ordB_zero.2 (rfl : y = y); omega
    have hz : ∀ z ∈ x :: a, z ≠ y := fun z hz e => hy (e ▸ hz)
    rw [ih ha (List.pairwise_cons.1 hb).2]
    dsimp only
    rw [Prod.mk.injEq, Prod.mk.injEq]
    refine ⟨?_, ?_, ?_⟩
    · refine List.filter_congr fun z hzm => ?_
      have := hz z hzm
      simp [this]
    · refine List.filter_congr fun z hzm => ?_
      have := hz z hzm
      simp [this]
    · rw [List.filter_cons, if_pos (by simpa using hy)]
  | case5 x a y b h h2 ih =>
    intro ha hb
    have e : x = y := ordB_zero.1 (by omega)
    subst e
    have hxa : x ∉ a := fun hm => by have h1 := (List.pairwise_cons.1 ha).1 x hm; have := ordB_zero.2 (rfl : x = x); omega
    have hxb : x ∉ b := fun hm => by have h1 := (List.pairwise_cons.1 hb).1 x hm; have := ordB_zero.2 (rfl : x = x); omega
    rw [ih (List.pairwise_cons.1 ha).2 (List.pairwise_cons.1 hb).2]
    dsimp only
    rw [Prod.mk.injEq, Prod.mk.injEq]
    have na : ∀ z ∈ a, z ≠ x := fun z hz e => hxa (e ▸ hz)
    have nb : ∀ z ∈ b, z ≠ x := fun z hz e => hxb (e ▸ hz)
    refine ⟨?_, ?_, ?_⟩
    · rw [List.filter_cons, if_neg (by simp)]
      exact List.filter_congr fun z hzm => by have := na z hzm; simp [this]
    · rw [List.filter_cons, if_pos (by simp)]
      congr 1
      exact List.filter_congr fun z hzm => by have := na z hzm; simp [this]
    · rw [List.filter_cons, if_neg (by simp)]
      exact List.filter_congr fun z hzm => by have := nb z hzm; simp [this]
theorem sorted_strict {l q : List Tgt} (h : isSorted l q) (hn : l.Nodup) : q.Pairwise (fun a b => ordB a b < 0) := by
  have hq : q.Nodup := h.1.nodup_iff.2 hn
  rw [List.pairwise_iff_getElem]
  intro i j hi hj hij
  have h1 := List.pairwise_iff_getElem.1 h.2 i j hi hj hij
  have h2 := List.pairwise_iff_getElem.1 hq i j hi hj hij
  have h3 : ordB q[i] q[j] ≠ 0 := fun e => h2 (ordB_zero.1 e)
  omega
theorem firstT_append (a b : List Tgt) : firstT (a ++ b) = if firstT a = 0 then firstT b else firstT a := by
  induction a with
  | nil => rfl
  | cons x a ih =>
    show (if checkB x = 0 then firstT (a ++ b) else checkB x) = _
    rw [show firstT (x :: a) = if checkB x = 0 then firstT a else checkB x from rfl]
    by_cases h : checkB x = 0
    · rw [if_pos h, if_pos h]; exact ih
    · rw [if_neg h, if_neg h, if_neg h]
theorem firstLL_two (a b : List Tgt) : firstLL [a, b] = firstT (a ++ b) := by
  rw [firstT_append]
  unfold firstLL
  by_cases h : firstT a = 0
  · rw [if_pos h, if_pos h]
    unfold firstLL
    by_cases h2 : firstT b = 0
    · rw [if_pos h2, h2]; rfl
    · rw [if_neg h2]
  · rw [if_neg h, if_neg h]
theorem listsErr_pair (a b : List Tgt) : listsErr [a, b] = if 100 < a.length ∨ 100 < b.length then 2 else firstT (a ++ b) := by
  unfold listsErr manyLL
  rw [firstLL_two]
  by_cases h : 100 < a.length ∨ 100 < b.length
  · rw [if_pos h, if_pos (by simpa using h)]
  · rw [if_neg h, if_neg (by simpa using h)]
end Go.Proofs.YtdlmgkncneifaaaGreat.Fd
