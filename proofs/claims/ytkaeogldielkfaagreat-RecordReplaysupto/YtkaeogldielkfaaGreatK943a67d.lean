/- 4 texts in one. -/
import Derived.Laws.OwnMore
import Derived.Deep.AppendLies
import Derived.Maps.AppendAt
import Derived.Shelf.RegionOpenPlain
import Derived.Test.YtkaeogldielkfaaGreatProg
import Derived.Test.YtkaeogldielkfaaGreatKabe2b5f
import Derived.Test.YtkaeogldielkfaaGreatKa96aaab
import Derived.Test.YtkaeogldielkfaaGreatKa7e3600
import Derived.Test.YtkaeogldielkfaaGreatKde4a8e2
import Derived.Test.YtkaeogldielkfaaGreatK7731767
import Derived.Test.YtkaeogldielkfaaGreatKd1f2bd3
import Derived.Test.YtkaeogldielkfaaGreatKfb00f3c
import Derived.Test.YtkaeogldielkfaaGreatKf01485e
import Derived.Maps.Own
import Derived.Maps.OwnOps
import Derived.Maps.OwnSet
import Derived.Maps.Views
import Derived.BigQuiet
set_option linter.unusedVariables false
set_option linter.unusedSimpArgs false
namespace Go.Proofs.YtkaeogldielkfaaGreat.Rc
open Go.RowKit Go.Maps Go.Shelf Lb
open Go.WideMaps (keyOf_string_mk)
attribute [local go_sem] bs_size bs_toList bs_append bs_get bs_extract
theorem infoK : (Tryz.prog.info? 96).map (fun i => (i.zero, i.size, i.bytes)) = some (some (.agg #[.int .i64 0, .slice none 0 0, .int .i64 0, .bool false]), 4, 48) := by kernel_rfl
theorem step_app_atR {P : Program} {ops : Array Oper} {o : Oper} {a : Act} {w : World} {K : Act → World → Prop} {Q : Exit → Act → World → Prop} {E : Prop}
    (hgd : o.guard = none) (s x : Operand) (t : TypeId) (ho : o.op = Op.call { callee := Callee.builtin Builtin.append, args := #[s, x], argTypes := #[t, t] })
    (base : Nat) (e : TypeId) (i : TypeInfo) (z : Value) (size bytes : Nat) (ht : P.underlying t = some (.slice e)) (hi : P.info? e = some i) (hz : i.zero = some z)
    (hsize : i.size = size) (hby : i.bytes = bytes) (hzs : z.cells.size = size) (hsz : 0 < size)
    (v : Value) (n : Nat) (xs : List Value) (hs : a.eval s = v) (hown : w.ownsRow base e size v n xs)
    (ad : Addr) (m c : Nat) (news : List Value) (hx : a.eval x = .slice (some ad) m c) (hl : news.length = m * size) (hnews : ∀ j u, news[j]? = some u → w.cell? (ad.add j) = some u) (h1 : ∀ u ∈ news, u.oneCell' = true)
    (h63 : n + m ≤ maxLen) (hbytes : (n + m) * bytes ≤ 140737488355328) (hbase : base ≤ w.heap.size)
    (hK : ∀ v' w', w'.ownsRow base e size v' (n + m) (xs ++ news) → w.grownBy w' v.ownBlock → (v'.ownBlock = v.ownBlock ∨ v'.ownBlock = some w.heap.size) → K (a.put o.dst v') w') :
    if Region.wanted o (yielded ops a.tmps) = true then Oper.wp P o a w K Q else E := by
  have hw : Region.wanted o (yielded ops a.tmps) = true := by simp [Region.wanted, hgd]
  rw [if_pos hw]
  obtain ⟨v', w', hr, h2, h3, _, h5⟩ := run_append_own_at (P := P) w base t o.type e i z size bytes ht hi hz hsize hby hzs hsz v n xs hown ad m c news hl hnews h1 h63 hbytes hbase
  unfold Oper.wp
  simp [execOp, ho, resolve, invoke, builtin, hs, hx, hr, Result.andThen]
  exact hK v' w' h2 h3 h5
theorem setAt {w : World} {b i : Nat} {c : Array Value} {t : TypeId} {fr : Nat × Nat} (h : w.heap[b]? = some (.cells c t fr)) (u : Value) : (w.setCell ⟨b, i, none⟩ u).heap[b]? = some (.cells (c.setIfInBounds i u) t fr) := by
  simp [World.setCell, h, Array.getElem?_modify]
theorem row_map {w : World} {base e size n mb : Nat} {v : Value} {xs : List Value} {es : Array MapEntry} {ck : Nat} (h : w.ownsRow base e size v n xs) (hb : w.heap[mb]? = some (.map es ck)) : v.ownBlock ≠ some mb := by
  rcases h.2 with ⟨rfl, h0⟩ | ⟨g, cap, cur, rfl, _, hg, _⟩
  · simp [Value.ownBlock]
  · intro e
    simp [Value.ownBlock] at e
    subst e
    rw [hg] at hb
    cases hb
theorem four_of {w : World} {b : Nat} {x y z u : Value} {t : TypeId} (h : w.heap[b]? = some (.cells #[x, y, z, u] t (0, 0))) : w.cell? ⟨b, 0, none⟩ = some x ∧ w.cell? ⟨b, 1, none⟩ = some y ∧ w.cell? ⟨b, 2, none⟩ = some z ∧ w.cell? ⟨b, 3, none⟩ = some u := by simp [World.cell?, h]
set_option maxRecDepth 20000 in
set_option maxHeartbeats 8000000 in
theorem add_any (w : World) (B : Nat) (F : Nat → Prop) (b : Nat) (K : List Kp) (x : Kp) (vl : Value) (hm : memJ w B F b K) (hF : ∀ k, w.heap.size ≤ k → F k) (hFB : ∀ k, F k → B ≤ k) (hBw : B ≤ w.heap.size) (hx : refErr x.1 = 0) (hk : knowsR K x.1 = 0) (hd : Dist K) (hr : rightM K) (hv : SL B w vl x.1.2) (hl : K.length < 2000) :
    Calls Tryz.prog 53 #[.pointer (some ⟨b, 0, none⟩), .agg #[.int .i64 x.1.1, vl, .int .i64 x.2.1, .bool x.2.2]] w fun e w' => e = .returned (.tuple #[]) ∧ memJ w' B F b (K ++ [x]) ∧ KeptR F w w' := by
  obtain ⟨v, mb, tb, ps, D1, D2, hP⟩ := hm
  obtain ⟨hi1, hi2⟩ : idxNum K x.1.1 = none ∧ idxTxt K (textAns x.1.2) = none := by
    rcases knows_ways hd hr hx with ⟨h, _⟩ | ⟨_, h1, h2⟩ | ⟨h, _⟩
    · rw [hk] at h; cases h
    · exact ⟨h1, h2⟩
    · rw [hk] at h; cases h
  have hok := okRef_of hx
  have hTs := text_short (refErr_zero hx).2.2
  have hd1 := refMap_put hP.d1 hi1
  have hd2 := txtMap_put hP.d2 hi2
  obtain ⟨T, HT⟩ : ∃ T, Hid (textAns x.1.2 = T) := ⟨_, hide rfl⟩
  rw [HT.out] at hTs hd2
  have hwf : (Lit.int .i64 x.1.1).wf = true := WalkArith.wf_i64 ⟨by have := hok.1; omega, by have := hok.2.1; omega⟩
  have hkey1 : keyOf Tryz.prog 3 (.int .i64 x.1.1) = some (.int .i64 x.1.1) := keyOf_int_mk Tryz.underlying3 hwf
  have hkey2 : keyOf Tryz.prog 9 (.string (bs T)) = some (.string T) := by rw [keyOf_string_mk Tryz.underlying9 (by rw [bs_size]; unfold maxLen; omega), bs_data]
  obtain ⟨W, eW, gW, hW⟩ := laid_at w #[.int .i64 x.1.1, vl, .int .i64 x.2.1, .bool x.2.2] 96
  have hsz := gW.size
  have hPW := hP.grow gW
  have HTX := hide (fun w2 (g : KeptR F W w2) => textOf_any w2 x.1 vl (hv w2 (((KeptR.grow gW).trans g).mono hFB)) hok)
  rw [HT.out] at HTX
  obtain ⟨lo, lc, rfl⟩ := readsLabels_len hv.reads
  obtain ⟨vo, vc, hvv⟩ := own_shape hP.row
  subst hvv
  obtain ⟨k0, hinf, hz0, hz1, hz2⟩ := info_parts infoK
  obtain ⟨es1, ck1, hmb, _⟩ := id hPW.m1
  obtain ⟨es2, ck2, htb, _⟩ := id hPW.m2
  have hbm : b ≠ mb := fun e => by have := hPW.at'; rw [e, hmb] at this; cases this
  have hbt : b ≠ tb := fun e => by have := hPW.at'; rw [e, htb] at this; cases this
  have hwl : (Lit.int .i64 (K.length : Int)).wf = true := WalkArith.wf_i64 (by omega)
  have HP := hide hPW
  have HV : Hid (SL B W (.slice lo x.1.2.length lc) x.1.2) := hide (hv.keep ((KeptR.grow gW)))
  have HW := hide hW
  have HGW : Hid (KeptR F w W) := hide (KeptR.grow gW)
  have HD1 := hide hd1
  have HD2 := hide hd2
  have hsW : W.heap.size = w.heap.size + 1 := by rw [← eW]; simp
  clear hP hPW hv hd hr hx hW gW hd1 hd2 hi1 hi2 hk hok hmb htb HT
  go_enter Tryz.func53, Tryz.ntmps53
  go_wp2
  refine wp_region_free 12 38 mixedR rfl (by decide +kernel) Grow (fun _ _ _ => Grow.trans) (Grow.refl _)
    (fun i' v _ => match i' with
      | 0 => v = .pointer (some ⟨b, 0, none⟩)
      | 1 => v = .pointer (some ⟨b, 0, none⟩)
      | 2 => v = .pointer (some ⟨b, 1, none⟩)
      | 3 => v = .map (some mb)
      | 4 => v = .pointer (some ⟨w.heap.size, 0, none⟩)
      | 5 => v = .pointer (some ⟨w.heap.size, 0, none⟩)
      | 6 => v = .int .i64 x.1.1
      | 7 => v = .pointer (some ⟨b, 0, none⟩)
      | 8 => v = .pointer (some ⟨b, 0, none⟩)
      | 9 => v = .pointer (some ⟨b, 0, none⟩)
      | 10 => v = .slice vo K.length vc
      | _ => v = .int .i64 K.length)
    (fun i v w w' h hg => h) (fun _ _ => False) (fun _ _ _ _ h => h.elim) (fun i' hi o ho a w2 hG hoff hdep => ?_) (fun vals w2 hG hvals => ?_)
  · have hg2 : Grow W w2 := hG.undrew
    obtain ⟨c0, c1, c2⟩ := three_of (hg2.get HP.out.at')
    obtain ⟨d0, d1, d2, d3⟩ := four_of (hg2.get HW.out)
    match i', hi with
    | 0, _ =>
      obtain rfl := Option.some.inj ho
      have o0 := hoff 0 (by decide +kernel)
      simp at o0
      simp [opYields, go_sem, o0]
      exact Grow.refl _
    | 1, _ =>
      obtain rfl := Option.some.inj ho
      have d0 := hdep 0 (by decide +kernel)
      simp [slotOf, dstOf] at d0
      simp [opYields, go_sem, d0]
      exact Grow.refl _
    | 2, _ =>
      obtain rfl := Option.some.inj ho
      have d1 := hdep 1 (by decide +kernel)
      simp [slotOf, dstOf] at d1
      simp [opYields, go_sem, d1]
      exact Grow.refl _
    | 3, _ =>
      obtain rfl := Option.some.inj ho
      have d2 := hdep 2 (by decide +kernel)
      simp [slotOf, dstOf] at d2
      simp [opYields, go_sem, d2, c1]
      exact Grow.refl _
    | 4, _ =>
      obtain rfl := Option.some.inj ho
      have o3 := hoff 3 (by decide +kernel)
      simp at o3
      simp [opYields, go_sem, o3]
      exact Grow.refl _
    | 5, _ =>
      obtain rfl := Option.some.inj ho
      have d4 := hdep 4 (by decide +kernel)
      simp [slotOf, dstOf] at d4
      simp [opYields, go_sem, d4]
      exact Grow.refl _
    | 6, _ =>
      obtain rfl := Option.some.inj ho
      have d5 := hdep 5 (by decide +kernel)
      simp [slotOf, dstOf] at d5
      simp [opYields, go_sem, d5, d0]
      exact Grow.refl _
    | 7, _ =>
      obtain rfl := Option.some.inj ho
      have o0 := hoff 0 (by decide +kernel)
      simp at o0
      simp [opYields, go_sem, o0]
      exact Grow.refl _
    | 8, _ =>
      obtain rfl := Option.some.inj ho
      have d7 := hdep 7 (by decide +kernel)
      simp [slotOf, dstOf] at d7
      simp [opYields, go_sem, d7]
      exact Grow.refl _
    | 9, _ =>
      obtain rfl := Option.some.inj ho
      have d8 := hdep 8 (by decide +kernel)
      simp [slotOf, dstOf] at d8
      simp [opYields, go_sem, d8]
      exact Grow.refl _
    | 10, _ =>
      obtain rfl := Option.some.inj ho
      have d9 := hdep 9 (by decide +kernel)
      simp [slotOf, dstOf] at d9
      simp [opYields, go_sem, d9, c0]
      exact Grow.refl _
    | 11, _ =>
      obtain rfl := Option.some.inj ho
      have d10 := hdep 10 (by decide +kernel)
      simp [slotOf, dstOf] at d10
      simp [opYields, go_sem, d10]
      exact Grow.refl _
    | k + 12, h => exact absurd h (by omega)
  · have v3 := hvals 3 (by omega)
    have v6 := hvals 6 (by omega)
    have v11 := hvals 11 (by omega)
    simp only at v3 v6 v11
    have hg2 : Grow W w2 := hG.undrew
    have hP2 := HP.out.grow hg2
    have HK2 : Hid (KeptR F W w2) := hide (KeptR.grow hg2)
    have HW2 := hide (hg2.get HW.out)
    clear hvals hG eW hg2
    simp [over, dstOf, Act.put, v3, v6, v11]
    clear v3 v6 v11
    have hm1 := hP2.m1
    have HP2 := hide hP2
    clear hP2
    go_wp2_with (at_mapUpdate; refine wpList_mapUpdate_own _ rfl (.tmp 7) (.tmp 10) (.tmp 15) 84 rfl 3 3 Tryz.keyInt Tryz.underlying84 (plainElem Tryz.prog 3) mb K.length D1 rfl hm1 (by unfold maxLen; omega) _ _ _ rfl rfl hkey1 _ [] (plainElem_int Tryz.underlying3 hwl) ?_; intro w3 hown3 hgrow3)
    obtain ⟨es, ck, hmb, _⟩ := id hm1
    have hat3 := grown_block hgrow3 HP2.out.at' (fun e => hbm (by cases e; rfl))
    have hk3 : KeptR F w2 w3 := KeptR.grownMap hmb hgrow3 HP2.out.f1
    have hrow3 : w3.ownsRow B 96 4 (.slice vo K.length vc) K.length (kepC ps) := own_keep HP2.out.row fun g hg => hgrow3.block g (HP2.out.row.lt g hg).2 (fun e => row_map HP2.out.row hmb (by rw [hg, e]))
    have hm23 : textM w3 tb K.length D2 := HP2.out.m2.kept hgrow3 (fun e => HP2.out.ne (by cases e; rfl))
    have hw3 := grown_block hgrow3 HW2.out (fun e => by cases e; rw [HW2.out] at hmb; cases hmb)
    have HAT3 := hide hat3
    have HK3 : Hid (KeptR F W w3) := hide (HK2.out.trans hk3)
    have HROW3 := hide hrow3
    have HM13 := hide hown3
    have HM23 := hide hm23
    have HW3 := hide hw3
    have s3 : w.heap.size < w3.heap.size := by have := HK3.out.size; omega
    clear hat3 hk3 hrow3 hm23 hw3 hgrow3 hown3 hm1 hmb HK2 HW2 hkey1
    refine wp_region_free 12 38 mixedR rfl (by decide +kernel) Grow (fun _ _ _ => Grow.trans) (Grow.refl _)
      (fun i' v _ => match i' with
        | 0 => v = .pointer (some ⟨b, 0, none⟩)
        | 1 => v = .pointer (some ⟨b, 0, none⟩)
        | 2 => v = .pointer (some ⟨b, 2, none⟩)
        | 3 => v = .map (some tb)
        | 4 => v = .pointer (some ⟨w.heap.size, 0, none⟩)
        | 5 => v = .agg #[.int .i64 x.1.1, .slice lo x.1.2.length lc]
        | 6 => v = .string (bs T)
        | 7 => v = .pointer (some ⟨b, 0, none⟩)
        | 8 => v = .pointer (some ⟨b, 0, none⟩)
        | 9 => v = .pointer (some ⟨b, 0, none⟩)
        | 10 => v = .slice vo K.length vc
        | _ => v = .int .i64 K.length)
      (fun i v w w' h hg => h) (fun _ _ => False) (fun _ _ _ _ h => h.elim) (fun i' hi o ho a w4 hG hoff hdep => ?_) (fun vals w4 hG hvals => ?_)
    · have hg4 : Grow w3 w4 := hG.undrew
      obtain ⟨c0, c1, c2⟩ := three_of (hg4.get HAT3.out)
      obtain ⟨d0, d1, d2, d3⟩ := four_of (hg4.get HW3.out)
      match i', hi with
      | 0, _ =>
        obtain rfl := Option.some.inj ho
        have o0 := hoff 0 (by decide +kernel)
        simp at o0
        simp [opYields, go_sem, o0]
        exact Grow.refl _
      | 1, _ =>
        obtain rfl := Option.some.inj ho
        have d0 := hdep 0 (by decide +kernel)
        simp [slotOf, dstOf] at d0
        simp [opYields, go_sem, d0]
        exact Grow.refl _
      | 2, _ =>
        obtain rfl := Option.some.inj ho
        have d1 := hdep 1 (by decide +kernel)
        simp [slotOf, dstOf] at d1
        simp [opYields, go_sem, d1]
        exact Grow.refl _
      | 3, _ =>
        obtain rfl := Option.some.inj ho
        have d2 := hdep 2 (by decide +kernel)
        simp [slotOf, dstOf] at d2
        simp [opYields, go_sem, d2, c2]
        exact Grow.refl _
      | 4, _ =>
        obtain rfl := Option.some.inj ho
        have o3 := hoff 3 (by decide +kernel)
        simp at o3
        simp [opYields, go_sem, o3]
        exact Grow.refl _
      | 5, _ =>
        obtain rfl := Option.some.inj ho
        have d4 := hdep 4 (by decide +kernel)
        simp [slotOf, dstOf] at d4
        simp [opYields, go_sem, d4, d0, d1]
        exact Grow.refl _
      | 6, _ =>
        obtain rfl := Option.some.inj ho
        have d5 := hdep 5 (by decide +kernel)
        simp [slotOf, dstOf] at d5
        simp [opYields, go_sem, d5]
        refine (HTX.out w4 (HK3.out.trans (KeptR.grow hg4))).mono ?_
        rintro e w5 ⟨rfl, hb⟩
        exact ⟨hb, rfl⟩
      | 7, _ =>
        obtain rfl := Option.some.inj ho
        have o0 := hoff 0 (by decide +kernel)
        simp at o0
        simp [opYields, go_sem, o0]
        exact Grow.refl _
      | 8, _ =>
        obtain rfl := Option.some.inj ho
        have d7 := hdep 7 (by decide +kernel)
        simp [slotOf, dstOf] at d7
        simp [opYields, go_sem, d7]
        exact Grow.refl _
      | 9, _ =>
        obtain rfl := Option.some.inj ho
        have d8 := hdep 8 (by decide +kernel)
        simp [slotOf, dstOf] at d8
        simp [opYields, go_sem, d8]
        exact Grow.refl _
      | 10, _ =>
        obtain rfl := Option.some.inj ho
        have d9 := hdep 9 (by decide +kernel)
        simp [slotOf, dstOf] at d9
        simp [opYields, go_sem, d9, c0]
        exact Grow.refl _
      | 11, _ =>
        obtain rfl := Option.some.inj ho
        have d10 := hdep 10 (by decide +kernel)
        simp [slotOf, dstOf] at d10
        simp [opYields, go_sem, d10]
        exact Grow.refl _
      | k + 12, h => exact absurd h (by omega)
    · have v3 := hvals 3 (by omega)
      have v6 := hvals 6 (by omega)
      have v11 := hvals 11 (by omega)
      simp only at v3 v6 v11
      have hg4 : Grow w3 w4 := hG.undrew
      have HG4 := hide hg4
      have hm24 : textM w4 tb K.length D2 := HM23.out.kept (grownG hg4) (by simp)
      clear hvals hG hg4
      simp [over, dstOf, Act.put, v3, v6, v11]
      clear v3 v6 v11
      go_wp2_with (at_mapUpdate; refine wpList_mapUpdate_own _ rfl (.tmp 19) (.tmp 22) (.tmp 27) 85 rfl 9 3 Tryz.keyLaw Tryz.underlying85 (plainElem Tryz.prog 3) tb K.length D2 rfl hm24 (by unfold maxLen; omega) _ _ _ rfl rfl hkey2 _ [] (plainElem_int Tryz.underlying3 hwl) ?_; intro w5 hown5 hgrow5)
      obtain ⟨es, ck, htb, _⟩ := id hm24
      have hrow4 : w4.ownsRow B 96 4 (.slice vo K.length vc) K.length (kepC ps) := own_keep HROW3.out fun g hg => HG4.out.block g (HROW3.out.lt g hg).2
      have hat5 := grown_block hgrow5 (HG4.out.get HAT3.out) (fun e => hbt (by cases e; rfl))
      have hk5 : KeptR F w4 w5 := KeptR.grownMap htb hgrow5 HP2.out.f2
      have hrow5 : w5.ownsRow B 96 4 (.slice vo K.length vc) K.length (kepC ps) := own_keep hrow4 fun g hg => hgrow5.block g (hrow4.lt g hg).2 (fun e => row_map hrow4 htb (by rw [hg, e]))
      have hm15 : refsM w5 mb (K.length + 1) _ := (HM13.out.kept (grownG HG4.out) (by simp)).kept hgrow5 (fun e => HP2.out.ne (by cases e; rfl))
      have hw5 := grown_block hgrow5 (HG4.out.get HW3.out) (fun e => by cases e; rw [HG4.out.get HW3.out] at htb; cases htb)
      obtain ⟨q0, q1, q2, q3⟩ := four_of hw5
      obtain ⟨c0, c1, c2⟩ := three_of hat5
      have HK5 : Hid (KeptR F W w5) := hide ((HK3.out.trans (KeptR.grow HG4.out)).trans hk5)
      obtain ⟨X, eX⟩ : ∃ X, w5.drew.alloc (.cells #[.int .i64 x.1.1, .slice lo x.1.2.length lc, .int .i64 x.2.1, .bool x.2.2] 96) = X := ⟨_, rfl⟩
      have hGX : Grow w5 X := Grow.trans (⟨rfl, rfl, rfl, Nat.le_refl _, fun _ _ => rfl⟩ : Grow w5 w5.drew) (by rw [← eX]; exact (Grow.refl _).alloc _)
      have hbX : X.heap[w5.heap.size]? = some (.cells #[.int .i64 x.1.1, .slice lo x.1.2.length lc, .int .i64 x.2.1, .bool x.2.2] 96 (0, 0)) := by rw [← eX]; exact heap_alloc_new _ _
      have hrowX : X.ownsRow B 96 4 (.slice vo K.length vc) K.length (kepC ps) := own_keep hrow5 fun g hg => hGX.block g (hrow5.lt g hg).2
      have hatX := hGX.get hat5
      have hBX : B ≤ X.heap.size := by have := HK5.out.size; have := hGX.size; omega
      have mixed : Tryz.prog.follows .mixedOrders = true := by kernel_rfl
      have q0' : w5.drew.cell? ⟨w.heap.size, 0, none⟩ = some (.int .i64 x.1.1) := q0
      have q1' : w5.drew.cell? ⟨w.heap.size, 1, none⟩ = some (.slice lo x.1.2.length lc) := q1
      have q2' : w5.drew.cell? ⟨w.heap.size, 2, none⟩ = some (.int .i64 x.2.1) := q2
      have q3' : w5.drew.cell? ⟨w.heap.size, 3, none⟩ = some (.bool x.2.2) := q3
      have c0' : w5.drew.cell? ⟨b, 0, none⟩ = some (.slice vo K.length vc) := c0
      have x0 : X.cell? ⟨b, 0, none⟩ = some (.slice vo K.length vc) := (three_of hatX).1
      clear q0 q1 q2 q3 c0 c1 c2
      go_region_law_o (refine step_app_atR rfl _ _ 86 rfl B 96 k0 _ 4 48 Tryz.underlying86 hinf hz0 hz1 hz2 rfl (by decide) _ K.length (kepC ps) (by simp [Act.eval, Act.put]) hrowX ⟨w5.heap.size, 0, none⟩ 1 1 [.int .i64 x.1.1, .slice lo x.1.2.length lc, .int .i64 x.2.1, .bool x.2.2] (by simp [Act.eval, Act.put]) rfl (World.news_of_block hbX) (by simp [Value.oneCell']) (by unfold maxLen; omega) (by omega) hBX ?_; intro v6 w6 hown6 hg6 hat6; obtain ⟨o6, c6, hv6⟩ := own_shape hown6; subst hv6; have hb6 := grown_block hg6 hatX (own_apart hrowX hatX (by decide)); have cc6 := (three_of hb6).1; have zz6 : w6.frozen? ⟨b, 0, none⟩ = false := by simp only [World.frozen?, hb6]; rfl)
      all_goals (
        have HO6 := hide hown6
        have HGR6 := hide hg6
        have HAT6 := hide hat6
        have HB6 := hide hb6
        have HRX := hide hrowX
        have HGX := hide hGX
        have HM15 := hide hm15
        have HM25 := hide hown5
        clear hown6 hg6 hat6 hb6 hrowX hGX hm15 hown5 cc6 zz6 q0' q1' q2' q3' c0' x0 hbX eX hatX hat5 hrow5 hrow4 hgrow5 hm24 htb hw5 hk5
        go_wp2
        go_end0
        have hkF : KeptR F W (w6.setCell ⟨b, 0, none⟩ (.slice o6 (K.length + 1) c6)) := ((HK5.out.trans (KeptR.grow HGX.out)).trans (KeptR.grownRow HRX.out HGR6.out (fun g hg => HP2.out.fv g hg))).trans (KeptR.setMem HB6.out (.inr (.inl rfl)) HP2.out.fb _)
        refine ⟨rfl, ⟨.slice o6 (K.length + 1) c6, mb, tb, ps ++ [(x, .slice lo x.1.2.length lc)], _, _, ?_, setAt HB6.out _, ?_, ?_, ?_, HP2.out.ne, HP2.out.fb, HP2.out.f1, HP2.out.f2, fun g hg => ?_, HD1.out, HD2.out, fun p hp => ?_, ?_⟩, HGW.out.trans hkF⟩
        · rw [List.map_append, HP2.out.kept]; rfl
        · rw [kepC_append, List.length_append]
          exact ownsRow_setCell_other HO6.out (own_apart HO6.out HB6.out (by decide)) _
        · rw [List.length_append]
          exact ((HM15.out.kept (grownG HGX.out) (by simp)).kept HGR6.out (fun e => by
            obtain ⟨es, ck, hmb, _⟩ := HM15.out.kept (grownG HGX.out) (row := none) (by simp)
            exact row_map HRX.out hmb e.symm)).setCell (fun e => hbm (by simpa using e.symm)) _
        · rw [List.length_append]
          exact ((HM25.out.kept (grownG HGX.out) (by simp)).kept HGR6.out (fun e => by
            obtain ⟨es, ck, hmb, _⟩ := HM25.out.kept (grownG HGX.out) (row := none) (by simp)
            exact row_map HRX.out hmb e.symm)).setCell (fun e => hbt (by simpa using e.symm)) _
        · rcases HAT6.out with h | h
          · exact HP2.out.fv g (by rw [← h]; exact hg)
          · rw [h] at hg
            have := HK5.out.size
            have := HGX.out.size
            obtain rfl : X.heap.size = g := by simpa using hg
            exact hF _ (by omega)
        · rcases List.mem_append.1 hp with hp | hp
          · exact (HP.out.labs p hp).keep (hkF.mono hFB)
          · simp at hp; subst hp; exact HV.out.keep (hkF.mono hFB)
        · rw [List.length_append]; simp; omega)
end Go.Proofs.YtkaeogldielkfaaGreat.Rc
namespace Go.Proofs.YtkaeogldielkfaaGreat.Rc
open Go.RowKit Lb
attribute [local go_sem] bs_size bs_toList bs_append bs_get bs_extract
/-- Refs that can be read, whatever becomes of rows and memories from block B on. -/
def SR (B : Nat) (w : World) (v : Value) (l : List RefL) : Prop :=
  ∃ ao cp, v = .slice ao l.length cp ∧ ∀ i (h : i < l.length), ∃ b o vl, ao = some ⟨b, o, none⟩ ∧ SL B w vl l[i].2 ∧ ∀ w', KeptR (fun k => B ≤ k) w w' → w'.cell? ⟨b, o + i * 2, none⟩ = some (.int .i64 l[i].1) ∧ w'.cell? ⟨b, o + i * 2 + 1, none⟩ = some vl
theorem SR.keep {B : Nat} {w w' : World} {v : Value} {l : List RefL} (h : SR B w v l) (k : KeptR (fun k => B ≤ k) w w') : SR B w' v l := by
  obtain ⟨ao, cp, hv, h⟩ := h
  refine ⟨ao, cp, hv, fun i hi => ?_⟩
  obtain ⟨b, o, vl, e, h1, h2⟩ := h i hi
  exact ⟨b, o, vl, e, h1.keep k, fun w2 k2 => h2 w2 (k.trans k2)⟩
theorem learnS_none {K : List Kp} {rs : List RefL} (h : seriesGo K [] rs = none) : learnS K rs = (6, K) := by unfold learnS; rw [h]
theorem learnS_some {K C : List Kp} {rs : List RefL} (h : seriesGo K [] rs = some C) : learnS K rs = if 1000 < K.length + C.length then (2, K) else (0, K ++ C) := by unfold learnS; rw [h]
theorem seriesGo_no {K C : List Kp} {x : RefL} {l : List RefL} (h : knowsR K x = 2 ∨ (knowsR K x = 0 ∧ knowsR C x = 2)) : seriesGo K C (x :: l) = none := by
  unfold seriesGo
  rcases h with h | ⟨h, h2⟩
  · rw [if_pos h]
  · rw [if_neg (by omega), if_neg (by omega), if_pos h2]
theorem seriesGo_old {K C : List Kp} {x : RefL} {l : List RefL} (h : knowsR K x = 1 ∨ (knowsR K x = 0 ∧ knowsR C x = 1)) : seriesGo K C (x :: l) = seriesGo K C l := by
  rw [seriesGo]
  rcases h with h | ⟨h, h2⟩
  · rw [if_neg (by omega), if_pos h]
  · rw [if_neg (by omega), if_neg (by omega), if_neg (by omega), if_pos h2]
theorem seriesGo_new {K C : List Kp} {x : RefL} {l : List RefL} (h : knowsR K x = 0) (h2 : knowsR C x = 0) : seriesGo K C (x :: l) = seriesGo K (C ++ [(x, 0, false)]) l := by
  rw [seriesGo, if_neg (by omega), if_neg (by omega), if_neg (by omega), if_neg (by omega)]
theorem Came.nil {K : List Kp} (hd : Dist K) (hr : rightM K) : Came K [] := ⟨by simpa using hd, by simpa using hr⟩
theorem Came.two {K C : List Kp} (h : Came K C) : Dist C ∧ rightM C := ⟨h.dist.behind, fun x hx => h.right x (List.mem_append_right _ hx)⟩
theorem Came.knows {K C : List Kp} (h : Came K C) {i : Nat} (hi : i < C.length) : knowsR (K ++ C.take i) C[i].1 = 0 ∧ Dist (K ++ C.take i) ∧ rightM (K ++ C.take i) ∧ refErr C[i].1 = 0 := by
  have hsp : K ++ C = (K ++ C.take i) ++ C.drop i := by rw [List.append_assoc, List.take_append_drop]
  have hd := h.dist
  have hr := h.right
  have hdi : Dist (K ++ C.take i) := by rw [hsp] at hd; exact hd.left
  refine ⟨knowsR_of fun y hy => ?_, hdi, fun y hy => hr y (by rw [hsp]; exact List.mem_append_left _ hy), hr _ (List.mem_append_right _ (List.getElem_mem hi))⟩
  obtain ⟨q, hq, rfl⟩ := List.getElem_of_mem hy
  have hql : q < K.length + i := by rw [List.length_append, List.length_take] at hq; omega
  have e1 : (K ++ C)[q]'(by rw [List.length_append]; omega) = (K ++ C.take i)[q] := by
    have : (K ++ C)[q]? = (K ++ C.take i)[q]? := by rw [hsp, List.getElem?_append_left hq]
    rw [List.getElem?_eq_getElem (by rw [List.length_append]; omega), List.getElem?_eq_getElem hq] at this
    exact Option.some.inj this
  have e2 : (K ++ C)[K.length + i]'(by rw [List.length_append]; omega) = C[i] := by
    rw [List.getElem_append_right (by omega)]
    congr 1
    omega
  constructor
  · intro e
    have := hd.numEq (i := q) (j := K.length + i) (by rw [List.length_append]; omega) (by rw [List.length_append]; omega) (by rw [e1, e2]; exact e)
    omega
  · intro e
    have := hd.labEq (i := q) (j := K.length + i) (by rw [List.length_append]; omega) (by rw [List.length_append]; omega) (by rw [e1, e2]; exact e)
    omega
theorem take_snoc {α : Type} {C : List α} {i : Nat} (hi : i < C.length) : C.take (i + 1) = C.take i ++ [C[i]] := List.take_succ_eq_append_getElem hi
def gaveN (E : Nat) (w : World) (ch : List PanicEntry) (w2 : World) : Prop := Ending.panicked ch = gaveUp E ∧ Below w.heap.size w w2
set_option maxRecDepth 20000 in
set_option maxHeartbeats 16000000 in
theorem series_any (w : World) (B : Nat) (F : Nat → Prop) (b : Nat) (K : List Kp) (v : Value) (rs : List RefL) (hm : memJ w B F b K) (hF : ∀ k, w.heap.size ≤ k → F k) (hFB : ∀ k, F k → B ≤ k) (hBw : B ≤ w.heap.size) (hd : Dist K) (hr : rightM K) (hs : SR B w v rs) (hrr : ∀ x ∈ rs, refErr x = 0) (hl : rs.length ≤ 200) (hKl : K.length ≤ 1000) :
    Calls Tryz.prog 54 #[.pointer (some ⟨b, 0, none⟩), v] w fun e w' => e = outc (learnS K rs).1 ∧ memJ w' B F b (learnS K rs).2 ∧ KeptR F w w' := by
  obtain ⟨E, HE⟩ : ∃ E, Hid (learnS K rs = E) := ⟨_, hide rfl⟩
  rw [HE.out]
  obtain ⟨ao, cp, hvv, _⟩ := id hs
  subst hvv
  have HM := hide hm
  have HS := hide hs
  have HRR := hide hrr
  have HD := hide hd
  have HR := hide hr
  have HF := hide hF
  have HFB := hide hFB
  clear hm hs hrr hd hr hF hFB
  go_enter Tryz.func54, Tryz.ntmps54
  go_wp2_with fail
  refine (newMemory_any w B (fun k => w.heap.size ≤ k) (fun k h => h)).mono ?_
  rintro e w1 ⟨c, rfl, hg1, hc1, hcN⟩
  have HG1 := hide hg1
  have HC1 := hide hc1
  clear hg1 hc1
  go_wp2
  go_loopw [12] (fun iv wr => ∃ (k : Nat) (C : List Kp), k ≤ rs.length ∧ iv = .int .i64 k ∧ Hid (Grow w wr) ∧ Hid (memJ wr B (fun k => w.heap.size ≤ k) c C) ∧ Hid (Came K C) ∧ Hid (seriesGo K [] rs = seriesGo K C (rs.drop k)) ∧ C.length ≤ k) (fun iv _ => rs.length - (intOf iv).toNat)
  case atStart => exact ⟨0, [], by omega, rfl, HG1, HC1, hide (Came.nil HD.out HR.out), hide rfl, by simp⟩
  case round =>
    obtain ⟨k, C, hk, rfl, HGr, HC, HCA, HGO, hCk⟩ := hrel
    by_cases hlt : k < rs.length
    · have hlti : (k : Int) < (rs.length : Int) := by omega
      have hsr := HS.out.keep (KeptR.grow HGr.out)
      obtain ⟨rb, rf, vl, rfl, hsl, hcell⟩ : ∃ b' o vl, ao = some ⟨b', o, none⟩ ∧ SL B wr vl rs[k].2 ∧ ∀ w', KeptR (fun k => B ≤ k) wr w' → w'.cell? ⟨b', o + k * 2, none⟩ = some (.int .i64 rs[k].1) ∧ w'.cell? ⟨b', o + k * 2 + 1, none⟩ = some vl := by
        obtain ⟨ao', cp', e, h⟩ := hsr
        cases e
        exact h k hlt
      have hxe := HRR.out _ (List.getElem_mem hlt)
      have hdr : rs.drop k = rs[k] :: rs.drop (k + 1) := List.drop_eq_getElem_cons hlt
      obtain ⟨x, HX⟩ : ∃ x : RefL, Hid (rs[k] = x) := ⟨_, hide rfl⟩
      rw [HX.out] at hsl hcell hxe hdr
      have HDR := hide hdr
      obtain ⟨c0, c1⟩ := hcell wr (KeptR.refl _ _)
      obtain ⟨V, eV, gV, hV⟩ := laid_at wr #[.int .i64 x.1, vl] 59
      obtain ⟨xo, xc, hvl⟩ := readsLabels_len hsl.reads
      subst hvl
      obtain ⟨d0, d1⟩ := two_of hV
      have HV := hide hV
      have HXE := hide hxe
      have hslV := hsl.keep (KeptR.grow gV)
      have HSLV := hide hslV
      have HGV : Hid (Grow w V) := hide (HGr.out.trans gV)
      have HCV := hide (HC.out.grow gV)
      have HKN := hide (knows_any V B F b K x (.slice xo x.2.length xc) (HM.out.grow HGV.out) HD.out HR.out hxe hslV.reads)
      have HTW := HCA.out.two
      clear hV gV hsr hsl hcell hxe hdr hslV HC
      go_wp2_with fail
      refine HKN.out.mono ?_
      rintro e w5 ⟨rfl, hg5⟩
      have HG5 : Hid (Grow V w5) := hide hg5
      clear hg5 HKN eV d0 d1 c0 c1
      obtain ⟨d0, d1⟩ := two_of (HG5.out.get HV.out)
      rcases knowsR_lt K x with h | h | h
      · have HK0 := hide h
        have h1 : ansK (knowsR K x) = .returned (.bool true) → False := fun e => by rw [h] at e; simp [ansK] at e
        have hak : ansK (knowsR K x) = .returned (.bool false) := by rw [h]; rfl
        rw [hak]
        clear h h1 hak
        have HKN2 := hide (knows_any w5 B (fun k => w.heap.size ≤ k) c C x (.slice xo x.2.length xc) (HCV.out.grow HG5.out) HTW.1 HTW.2 HXE.out (HSLV.out.keep (KeptR.grow HG5.out)).reads)
        go_wp2_with fail
        refine HKN2.out.mono ?_
        rintro e w6 ⟨rfl, hg6⟩
        have HG6 : Hid (Grow V w6) := hide (HG5.out.trans hg6)
        clear hg6 HKN2 d0 d1 HG5
        obtain ⟨d0, d1⟩ := two_of (HG6.out.get HV.out)
        have HGw6 : Hid (Grow w w6) := hide (HGV.out.trans HG6.out)
        rcases knowsR_lt C x with h | h | h
        · have HC0 := hide h
          have hak : ansK (knowsR C x) = .returned (.bool false) := by rw [h]; rfl
          rw [hak]
          clear h hak
          have HAD := hide (add_any w6 B (fun k => w.heap.size ≤ k) c C (x, 0, false) (.slice xo x.2.length xc) (HCV.out.grow HG6.out) (fun k h => by have := HGw6.out.size; omega) (fun k h => by omega) (by have := HGw6.out.size; omega) HXE.out HC0.out HTW.1 HTW.2 (HSLV.out.keep (KeptR.grow HG6.out)) (by omega))
          go_wp2_with fail
          refine HAD.out.mono ?_
          rintro e w7 ⟨rfl, hc7, hk7⟩
          have HC7 := hide hc7
          have HG7 : Hid (Grow w w7) := hide (Below.trans HGw6.out (hk7.below (fun k h => h) HGw6.out.size))
          clear hc7 hk7 HAD d0 d1
          go_wp2
          go_roundw
          case rel => exact ⟨k + 1, C ++ [(x, 0, false)], by omega, by go_num, HG7, HC7, hide (HCA.out.step HK0.out HC0.out HXE.out), hide (by rw [HGO.out, HDR.out, seriesGo_new HK0.out HC0.out]), by simp; omega⟩
          case measure => simp [intOf]; omega
        · have hak : ansK (knowsR C x) = .returned (.bool true) := by rw [h]; rfl
          have HGN : Hid (seriesGo K [] rs = seriesGo K C (rs.drop (k + 1))) := hide (by rw [HGO.out, HDR.out, seriesGo_old (.inr ⟨HK0.out, h⟩)])
          rw [hak]
          clear h hak
          go_wp2
          go_roundw
          case rel => exact ⟨k + 1, C, by omega, by go_num, HGw6, hide (HCV.out.grow HG6.out), HCA, HGN, by omega⟩
          case measure => simp [intOf]; omega
        · have hak : ansK (knowsR C x) = gaveUp 6 := by rw [h]; rfl
          have HEE : Hid ((6, K) = E) := hide (by rw [← HE.out]; exact (learnS_none (by rw [HGO.out, HDR.out, seriesGo_no (.inr ⟨HK0.out, h⟩)])).symm)
          rw [hak]
          exact ⟨rfl, by rw [← HEE.out]; rfl, by rw [← HEE.out]; exact HM.out.grow HGw6.out, KeptR.grow HGw6.out⟩
      · have hak : ansK (knowsR K x) = .returned (.bool true) := by rw [h]; rfl
        have HGN : Hid (seriesGo K [] rs = seriesGo K C (rs.drop (k + 1))) := hide (by rw [HGO.out, HDR.out, seriesGo_old (.inl h)])
        have HGw5 : Hid (Grow w w5) := hide (HGV.out.trans HG5.out)
        rw [hak]
        clear h hak
        go_wp2
        go_roundw
        case rel => exact ⟨k + 1, C, by omega, by go_num, HGw5, hide (HCV.out.grow HG5.out), HCA, HGN, by omega⟩
        case measure => simp [intOf]; omega
      · have hak : ansK (knowsR K x) = gaveUp 6 := by rw [h]; rfl
        have HEE : Hid ((6, K) = E) := hide (by rw [← HE.out]; exact (learnS_none (by rw [HGO.out, HDR.out, seriesGo_no (.inl h)])).symm)
        have HGw5 : Hid (Grow w w5) := hide (HGV.out.trans HG5.out)
        rw [hak]
        exact ⟨rfl, by rw [← HEE.out]; rfl, by rw [← HEE.out]; exact HM.out.grow HGw5.out, KeptR.grow HGw5.out⟩
    · obtain rfl : k = rs.length := by omega
      have hgo : seriesGo K [] rs = some C := by rw [HGO.out, List.drop_of_length_le (Nat.le_refl _)]; rfl
      have HEE : Hid ((if 1000 < K.length + C.length then (2, K) else (0, K ++ C)) = E) := hide (by rw [← HE.out, learnS_some hgo])
      clear hgo HGO HE
      obtain ⟨v1, mb1, tb1, ps1, D1, D1', P1⟩ := HM.out.grow HGr.out
      obtain ⟨v2, mb2, tb2, ps2, D2, D2', P2⟩ := HC.out
      obtain ⟨vo1, vc1, hv1⟩ := own_shape P1.row
      obtain ⟨vo2, vc2, hv2⟩ := own_shape P2.row
      subst hv1 hv2
      have HA1 := hide P1.at'
      have HA2 := hide P2.at'
      obtain ⟨b0, b1, b2⟩ := three_of HA1.out
      obtain ⟨e0, e1, e2⟩ := three_of HA2.out
      have HP2 := hide P2
      clear P1 P2 b1 b2 e1 e2
      by_cases hM : 1000 < K.length + C.length
      · as_aux_lemma =>
          rw [if_pos hM] at HEE
          have hM1 : decide ((1000 : Int) < (K.length : Int) + (C.length : Int)) = true := decide_eq_true (by omega)
          clear hM b0 e0
          go_wp2
          refine wp_region_free 13 57 mixedR rfl (by decide +kernel) Grow (fun _ _ _ => Grow.trans) (Grow.refl _)
            (fun i v _ => match i with
              | 0 => v = .pointer (some ⟨b, 0, none⟩)
              | 1 => v = .pointer (some ⟨b, 0, none⟩)
              | 2 => v = .pointer (some ⟨b, 0, none⟩)
              | 3 => v = .slice vo1 K.length vc1
              | 4 => v = .int .i64 K.length
              | 5 => v = .pointer (some ⟨c, 0, none⟩)
              | 6 => v = .pointer (some ⟨c, 0, none⟩)
              | 7 => v = .pointer (some ⟨c, 0, none⟩)
              | 8 => v = .slice vo2 C.length vc2
              | 9 => v = .int .i64 C.length
              | 10 => v = .int .i64 ((K.length : Int) + (C.length : Int))
              | 11 => v = .bool true
              | _ => False)
            (fun i v w w' h hg => h) (gaveN 2 wr) (fun ch a w2 hd hq => ?_) (fun i hi o ho a w2 hG hoff hdep => ?_) (fun vals w2 hG hvals => ?_)
          · obtain ⟨hq1, hq2⟩ := hq
            simp only [Ending.panicked.injEq] at hq1
            subst hq1
            have hg2 : Grow w w2 := HGr.out.trans hq2
            exact ⟨hd, by rw [← HEE.out]; rfl, by rw [← HEE.out]; exact HM.out.grow hg2, KeptR.grow hg2⟩
          · have hb5 : Below wr.heap.size wr w2 := hG.undrew
            obtain ⟨b0, b1, b2⟩ := three_of (below_block hb5 HA1.out (lt_of_block HA1.out))
            obtain ⟨e0, e1, e2⟩ := three_of (below_block hb5 HA2.out (lt_of_block HA2.out))
            match i, hi with
            | 0, _ =>
              obtain rfl := Option.some.inj ho
              have o0 := hoff 0 (by decide +kernel)
              simp at o0
              simp [opYields, go_sem, o0]
              exact Grow.refl _
            | 1, _ =>
              obtain rfl := Option.some.inj ho
              have d0 := hdep 0 (by decide +kernel)
              simp [slotOf, dstOf] at d0
              simp [opYields, go_sem, d0]
              exact Grow.refl _
            | 2, _ =>
              obtain rfl := Option.some.inj ho
              have d1 := hdep 1 (by decide +kernel)
              simp [slotOf, dstOf] at d1
              simp [opYields, go_sem, d1]
              exact Grow.refl _
            | 3, _ =>
              obtain rfl := Option.some.inj ho
              have d2 := hdep 2 (by decide +kernel)
              simp [slotOf, dstOf] at d2
              simp [opYields, go_sem, d2, b0]
              exact Grow.refl _
            | 4, _ =>
              obtain rfl := Option.some.inj ho
              have d3 := hdep 3 (by decide +kernel)
              simp [slotOf, dstOf] at d3
              simp [opYields, go_sem, d3]
              exact Grow.refl _
            | 5, _ =>
              obtain rfl := Option.some.inj ho
              have o4 := hoff 4 (by decide +kernel)
              simp at o4
              simp [opYields, go_sem, o4]
              exact Grow.refl _
            | 6, _ =>
              obtain rfl := Option.some.inj ho
              have d5 := hdep 5 (by decide +kernel)
              simp [slotOf, dstOf] at d5
              simp [opYields, go_sem, d5]
              exact Grow.refl _
            | 7, _ =>
              obtain rfl := Option.some.inj ho
              have d6 := hdep 6 (by decide +kernel)
              simp [slotOf, dstOf] at d6
              simp [opYields, go_sem, d6]
              exact Grow.refl _
            | 8, _ =>
              obtain rfl := Option.some.inj ho
              have d7 := hdep 7 (by decide +kernel)
              simp [slotOf, dstOf] at d7
              simp [opYields, go_sem, d7, e0]
              exact Grow.refl _
            | 9, _ =>
              obtain rfl := Option.some.inj ho
              have d8 := hdep 8 (by decide +kernel)
              simp [slotOf, dstOf] at d8
              simp [opYields, go_sem, d8]
              exact Grow.refl _
            | 10, _ =>
              obtain rfl := Option.some.inj ho
              have d4 := hdep 4 (by decide +kernel)
              simp [slotOf, dstOf] at d4
              have d9 := hdep 9 (by decide +kernel)
              simp [slotOf, dstOf] at d9
              simp [opYields, go_sem, d4, d9]
              exact ⟨Grow.refl _, by first|omega|(rw [IntKind.wrap_i64]; omega)⟩
            | 11, _ =>
              obtain rfl := Option.some.inj ho
              have d10 := hdep 10 (by decide +kernel)
              simp [slotOf, dstOf] at d10
              simp [opYields, go_sem, d10, hM1]
              exact Grow.refl _
            | 12, _ =>
              obtain rfl := Option.some.inj ho
              have d11 := hdep 11 (by decide +kernel)
              simp [slotOf, dstOf] at d11
              simp [opYields, go_sem, d11]
              refine (refuse_any true 2 w2 (by decide)).mono ?_
              rintro e w3 ⟨rfl, rfl⟩
              rw [if_pos rfl, outc_no (by decide)]
              exact ⟨rfl, hb5⟩
            | k + 13, h => exact absurd h (by omega)
          · exact absurd (hvals 12 (by omega)) (by simp)
      · rw [if_neg hM] at HEE
        have hM1 : decide ((1000 : Int) < (K.length : Int) + (C.length : Int)) = false := decide_eq_false (by omega)
        have hM2 : K.length + C.length ≤ 1000 := by omega
        have hwr : IntKind.i64.wrap ((K.length : Int) + (C.length : Int)) = (K.length : Int) + (C.length : Int) := by rw [IntKind.wrap_i64]; omega
        clear hM
        go_wp2
        go_quiet ((go_at_call 48; exact Calls.quiet_of_same (refuse_no 2 _)))
        go_wp2
        have HP2w := HP2
        go_loopw [49] (fun iv w2 => ∃ i : Nat, i ≤ C.length ∧ iv = .int .i64 i ∧ Hid (memJ w2 B (fun k => F k ∧ (k < w.heap.size ∨ wr.heap.size ≤ k)) b (K ++ C.take i)) ∧ Hid (KeptR (fun k => F k ∧ (k < w.heap.size ∨ wr.heap.size ≤ k)) wr w2)) (fun iv _ => C.length - (intOf iv).toNat)
        case atStart =>
          refine ⟨0, by omega, rfl, hide ?_, hide (KeptR.grow (grow_drewR _ _))⟩
          rw [List.take_zero, List.append_nil]
          exact (HM.out.mono fun k hk hl => ⟨hk, .inl hl⟩).grow (HGr.out.trans (grow_drewR _ _))
        case round =>
          obtain ⟨i, hi, rfl, HMJ, HKR⟩ := hrel
          rename World => w2
          by_cases hic : i < C.length
          · have hici : (i : Int) < (C.length : Int) := by omega
            have hP2 := HP2.out.keep (w' := w2) (fun k hk hkl => HKR.out.block k hkl (fun hf => by have := hf.2; omega)) (HKR.out.mono fun k hk => HFB.out k hk.1)
            obtain ⟨g, cap, lv, hve, hFg, hBg, hgs, q0, q1, q2, q3, hsl, _⟩ := hP2.cells hic
            obtain ⟨hk0, hdt, hrt, hxe⟩ := HCA.out.knows hic
            have htk := take_snoc hic
            obtain ⟨y, HY⟩ : ∃ y : Kp, Hid (C[i] = y) := ⟨_, hide rfl⟩
            rw [HY.out] at q0 q2 q3 hsl hk0 hxe htk
            cases hve
            obtain ⟨V, eV, gV, hV⟩ := laid_at w2 #[.int .i64 y.1.1, lv, .int .i64 y.2.1, .bool y.2.2] 96
            obtain ⟨d0, d1, d2, d3⟩ := four_of hV
            have hzw := HKR.out.size
            have hgz := gV.size
            have hgw := HGr.out.size
            have HAD := hide (add_any V B (fun k => F k ∧ (k < w.heap.size ∨ wr.heap.size ≤ k)) b (K ++ C.take i) y lv (HMJ.out.grow gV) (fun k h => ⟨HF.out k (by omega), .inr (by omega)⟩) (fun k h => HFB.out k h.1) (by omega) hxe hk0 hdt hrt (hsl.keep (KeptR.grow gV)) (by rw [List.length_append, List.length_take]; omega))
            have HTK := hide htk
            have HKV : Hid (KeptR (fun k => F k ∧ (k < w.heap.size ∨ wr.heap.size ≤ k)) wr V) := hide (HKR.out.trans (KeptR.grow gV))
            obtain ⟨xo, xc, hlv⟩ := readsLabels_len hsl.reads
            subst hlv
            clear hV gV hP2 hsl hk0 hdt hrt hxe htk hzw hgz hgw
            go_wp2_with fail
            refine HAD.out.mono ?_
            rintro e w7 ⟨rfl, hm7, hk7⟩
            have HM7 : Hid (memJ w7 B (fun k => F k ∧ (k < w.heap.size ∨ wr.heap.size ≤ k)) b (K ++ C.take (i + 1))) := hide (by rw [HTK.out, ← List.append_assoc]; exact hm7)
            have HK7 := hide (HKV.out.trans hk7)
            clear hm7 hk7 HAD eV d0 d1 d2 d3 q0 q1 q2 q3
            go_wp2
            go_roundw
            case rel => exact ⟨i + 1, by omega, by go_num, HM7, HK7⟩
            case measure => simp [intOf]; omega
          · obtain rfl : i = C.length := by omega
            go_wp2
            go_end0
            rw [List.take_of_length_le (Nat.le_refl _)] at HMJ
            refine ⟨by rw [← HEE.out]; rfl, by rw [← HEE.out]; exact HMJ.out.mono fun k hk _ => hk.1, (KeptR.grow HGr.out).trans (HKR.out.mono fun k hk => hk.1)⟩
end Go.Proofs.YtkaeogldielkfaaGreat.Rc
namespace Go.Proofs.YtkaeogldielkfaaGreat.Rc
open Go.RowKit Go.Maps Lb
open Go.WideMaps (keyOf_string_mk)
attribute [local go_sem] bs_size bs_toList bs_append bs_get bs_extract
/-- Points that can be read, whatever becomes of rows and memories from block B on. -/
def SP (B : Nat) (w : World) (v : Value) (l : List Pnt) : Prop :=
  ∃ ao cp, v = .slice ao l.length cp ∧ ∀ i (h : i < l.length), ∃ b o, ao = some ⟨b, o, none⟩ ∧ ∀ w', KeptR (fun k => B ≤ k) w w' → w'.cell? ⟨b, o + i * 3, none⟩ = some (.int .i64 l[i].1) ∧ w'.cell? ⟨b, o + i * 3 + 1, none⟩ = some (.int .i64 l[i].2.1) ∧ w'.cell? ⟨b, o + i * 3 + 2, none⟩ = some (.int .u64 l[i].2.2)
theorem SP.keep {B : Nat} {w w' : World} {v : Value} {l : List Pnt} (h : SP B w v l) (k : KeptR (fun k => B ≤ k) w w') : SP B w' v l := by
  obtain ⟨ao, cp, hv, h⟩ := h
  refine ⟨ao, cp, hv, fun i hi => ?_⟩
  obtain ⟨b, o, e, h2⟩ := h i hi
  exact ⟨b, o, e, fun w2 k2 => h2 w2 (k.trans k2)⟩
theorem idxNum_refs {K K' : List Kp} (h : K'.map (·.1) = K.map (·.1)) (n : Int) : idxNum K' n = idxNum K n := by
  have e : ∀ M : List Kp, idxNum M n = (M.map (·.1)).findIdx? (fun y => y.1 == n) := fun M => by unfold idxNum; rw [List.findIdx?_map]; rfl
  rw [e, e, h]
theorem idxTxt_refs {K K' : List Kp} (h : K'.map (·.1) = K.map (·.1)) (T : List UInt8) : idxTxt K' T = idxTxt K T := by
  have e : ∀ M : List Kp, idxTxt M T = (M.map (·.1)).findIdx? (fun y => textAns y.2 == T) := fun M => by unfold idxTxt; rw [List.findIdx?_map]; rfl
  rw [e, e, h]
theorem updP_at {K : List Kp} {p : Pnt} {i : Nat} (hd : Dist K) (h : idxNum K p.1 = some i) : ∃ hi : i < K.length, updP K p = if K[i].2.2 = false ∨ K[i].2.1 < p.2.1 then K.set i (K[i].1, p.2.1, true) else K := by
  obtain ⟨hi, hn⟩ := idxNum_some h
  refine ⟨hi, ?_⟩
  have hne : ∀ j (hj : j < K.length), j ≠ i → K[j].1.1 ≠ p.1 := fun j hj hji e => hji (hd.numEq hj hi (by rw [e, hn]))
  by_cases hc : K[i].2.2 = false ∨ K[i].2.1 < p.2.1
  · rw [if_pos hc]
    apply List.ext_getElem
    · unfold updP; simp
    · intro j h1 h2
      have hj : j < K.length := by unfold updP at h1; simpa using h1
      have e1 : (updP K p)[j] = if K[j].1.1 = p.1 ∧ (K[j].2.2 = false ∨ K[j].2.1 < p.2.1) then (K[j].1, p.2.1, true) else K[j] := by simp [updP]
      rw [e1]
      by_cases hji : j = i
      · subst hji
        rw [if_pos ⟨hn, hc⟩]
        simp
      · rw [if_neg fun x => hne j hj hji x.1, List.getElem_set_ne (by omega)]
  · rw [if_neg hc]
    apply List.ext_getElem
    · unfold updP; simp
    · intro j h1 h2
      have e1 : (updP K p)[j] = if K[j].1.1 = p.1 ∧ (K[j].2.2 = false ∨ K[j].2.1 < p.2.1) then (K[j].1, p.2.1, true) else K[j] := by simp [updP]
      rw [e1]
      by_cases hji : j = i
      · subst hji
        rw [if_neg fun x => hc x.2]
      · rw [if_neg fun x => hne j h2 hji x.1]
theorem memP.refs {w : World} {B : Nat} {F : Nat → Prop} {b : Nat} {K : List Kp} {v : Value} {mb tb : Nat} {ps : List KV} {D1 D2 : DataW Unit} (h : memP w B F b K v mb tb ps D1 D2) : (∀ n, has D1 (.int .i64 n) = (idxNum K n).isSome) := fun n => (h.d1.2 n).1
theorem kepC_set2 : ∀ (l : List KV) (i : Nat) (h : i < l.length) (t : Int), ((kepC l).set (i * 4 + 2) (.int .i64 t)).set (i * 4 + 3) (.bool true) = kepC (l.set i ((l[i].1.1, t, true), l[i].2))
  | [], i, h, t => by simp at h
  | x :: l, 0, h, t => by simp [kepC]
  | x :: l, i + 1, h, t => by
    have ih := kepC_set2 l i (by simpa using h) t
    have e2 : (i + 1) * 4 + 2 = (i * 4 + 2) + 4 := by omega
    have e3 : (i + 1) * 4 + 3 = (i * 4 + 3) + 4 := by omega
    rw [e2, e3]
    simp only [kepC, List.set_cons_succ, List.getElem_cons_succ]
    rw [ih]
/-- The last time of one turns. -/
theorem memP.upd {w : World} {B : Nat} {F : Nat → Prop} {b : Nat} {K : List Kp} {v : Value} {mb tb : Nat} {ps : List KV} {D1 D2 : DataW Unit} (h : memP w B F b K v mb tb ps D1 D2) (hFB : ∀ k, F k → B ≤ k) {i g cap : Nat} (hi : i < K.length) (hv : v = .slice (some ⟨g, 0, none⟩) K.length cap) (t : Int) :
    memJ ((w.setCell ⟨g, i * 4 + 2, none⟩ (.int .i64 t)).setCell ⟨g, i * 4 + 3, none⟩ (.bool true)) B F b (K.set i (K[i].1, t, true)) ∧ KeptR F w ((w.setCell ⟨g, i * 4 + 2, none⟩ (.int .i64 t)).setCell ⟨g, i * 4 + 3, none⟩ (.bool true)) := by
  have hrow := h.row
  have hg : F g := h.fv g (by rw [hv]; rfl)
  obtain ⟨cap', cur, hgB, hcell, h4, h5, h6, h7, hce⟩ : ∃ (cap' : Nat) (cur : Array Value), B ≤ g ∧ w.heap[g]? = some (.cells cur 96 (0, 0)) ∧ K.length ≤ cap' ∧ cap' ≤ maxLen ∧ cur.size = cap' * 4 ∧ cur.toList.take (K.length * 4) = kepC ps ∧ cap' = cap := by
    rcases id hrow.2 with ⟨hn, h0⟩ | ⟨g', cap', cur, r1, r2, r3, r4, r5, r6, r7⟩
    · omega
    · rw [hv] at r1
      obtain ⟨rfl, rfl⟩ : g = g' ∧ cap = cap' := by simpa using r1
      exact ⟨cap, cur, r2, r3, r4, r5, r6, r7, rfl⟩
  subst hce
  have s1 := setAt (i := i * 4 + 2) hcell (.int .i64 t)
  have s2 := setAt (i := i * 4 + 3) s1 (.bool true)
  have k1 : KeptR F w (w.setCell ⟨g, i * 4 + 2, none⟩ (.int .i64 t)) := KeptR.setMem hcell (.inl rfl) hg _
  have k2 : KeptR F (w.setCell ⟨g, i * 4 + 2, none⟩ (.int .i64 t)) ((w.setCell ⟨g, i * 4 + 2, none⟩ (.int .i64 t)).setCell ⟨g, i * 4 + 3, none⟩ (.bool true)) := KeptR.setMem s1 (.inl rfl) hg _
  have hk := k1.trans k2
  have hoth : ∀ k, k ≠ g → ((w.setCell ⟨g, i * 4 + 2, none⟩ (.int .i64 t)).setCell ⟨g, i * 4 + 3, none⟩ (.bool true)).heap[k]? = w.heap[k]? := fun k hne => by
    rw [Below.heap_setCell _ _ _ _ hne, Below.heap_setCell _ _ _ _ hne]
  obtain ⟨es1, ck1, hmb, _⟩ := id h.m1
  obtain ⟨es2, ck2, htb, _⟩ := id h.m2
  have hpl : ps.length = K.length := by rw [← h.kept, List.length_map]
  have hbg : b ≠ g := fun e => by have := h.at'; rw [e, hcell] at this; simp at this
  have hmg : mb ≠ g := fun e => by rw [e, hcell] at hmb; cases hmb
  have htg : tb ≠ g := fun e => by rw [e, hcell] at htb; cases htb
  have hkp : K[i].1 = ps[i].1.1 := by
    have : K[i] = ps[i].1 := by simp [← h.kept]
    rw [this]
  have hrf : (K.set i (K[i].1, t, true)).map (·.1) = K.map (·.1) := by
    apply List.ext_getElem
    · simp
    · intro j h1 h2
      simp only [List.getElem_map]
      by_cases e : j = i
      · subst e; simp
      · rw [List.getElem_set_ne (by omega)]
  refine ⟨⟨v, mb, tb, ps.set i ((ps[i].1.1, t, true), ps[i].2), D1, D2, ?_, (hoth b hbg).trans h.at', ?_, ?_, ?_, h.ne, h.fb, h.f1, h.f2, h.fv, ?_, ?_, fun p hp => ?_, by simpa using h.len⟩, hk⟩
  · rw [List.map_set, h.kept, hkp]
  · rw [List.length_set]
    refine ⟨?_, .inr ⟨g, cap', _, hv, hgB, s2, h4, h5, by simpa using h6, ?_⟩⟩
    · have := hrow.1
      rw [kepC_length] at this ⊢
      simpa using this
    · rw [Array.toList_setIfInBounds, Array.toList_setIfInBounds, List.take_set, List.take_set, h7, kepC_set2 ps i (by omega)]
  · rw [List.length_set]
    obtain ⟨es, ck, hb, r⟩ := h.m1
    exact ⟨es, ck, (hoth mb hmg).trans hb, r⟩
  · rw [List.length_set]
    obtain ⟨es, ck, hb, r⟩ := h.m2
    exact ⟨es, ck, (hoth tb htg).trans hb, r⟩
  · exact ⟨h.d1.1, fun n => by rw [idxNum_refs hrf]; exact h.d1.2 n⟩
  · exact ⟨h.d2.1, fun n => by rw [idxTxt_refs hrf]; exact h.d2.2 n⟩
  · rcases List.mem_or_eq_of_mem_set hp with hp | hp
    · exact (h.labs p hp).keep (hk.mono hFB)
    · subst hp
      exact (h.labs ps[i] (List.getElem_mem (by omega))).keep (hk.mono hFB)
set_option maxRecDepth 20000 in
set_option maxHeartbeats 16000000 in
theorem samples_any (w : World) (B : Nat) (F : Nat → Prop) (b : Nat) (K : List Kp) (v : Value) (rs : List Pnt) (hm : memJ w B F b K) (hFB : ∀ k, F k → B ≤ k) (hBw : B ≤ w.heap.size) (hd : Dist K) (hs : SP B w v rs) (hrr : ∀ x ∈ rs, pointErr x = 0) (hl : rs.length ≤ 200) (hKl : K.length ≤ 1000) :
    Calls Tryz.prog 55 #[.pointer (some ⟨b, 0, none⟩), v] w fun e w' => e = outc (learnP K rs).1 ∧ memJ w' B F b (learnP K rs).2 ∧ KeptR F w w' := by
  obtain ⟨E, HE⟩ : ∃ E, Hid (learnP K rs = E) := ⟨_, hide rfl⟩
  rw [HE.out]
  obtain ⟨ao, cp, hvv, _⟩ := id hs
  subst hvv
  have HM := hide hm
  have HS := hide hs
  have HRR := hide hrr
  have HD := hide hd
  have HFB := hide hFB
  have hpt : ∀ x ∈ rs, (1 ≤ x.1 ∧ x.1 ≤ 1000000) ∧ -9007199254740991 ≤ x.2.1 ∧ x.2.1 ≤ 9007199254740991 := fun x hx => by
    have h := hrr x hx
    unfold pointErr at h
    split at h
    · rename_i h0; exact absurd h h0
    · rename_i h0
      unfold numErr at h0
      unfold timeErr at h
      refine ⟨?_, ?_⟩
      · by_cases c : 1 ≤ x.1 ∧ x.1 ≤ 1000000
        · exact c
        · rw [if_neg c] at h0; exact absurd (by decide) h0
      · by_cases c : -9007199254740991 ≤ x.2.1 ∧ x.2.1 ≤ 9007199254740991
        · exact c
        · rw [if_neg c] at h; cases h
  have HPT := hide hpt
  clear hm hs hrr hd hFB hpt
  go_enter Tryz.func55, Tryz.ntmps55
  go_wp2
  go_loopw [13] (fun iv wr => ∃ (k : Nat), k ≤ rs.length ∧ iv = .int .i64 k ∧ Hid (Grow w wr) ∧ Hid (∀ j (hj : j < rs.length), j < k → (idxNum K rs[j].1).isSome = true)) (fun iv _ => rs.length - (intOf iv).toNat)
  case atStart => exact ⟨0, by omega, rfl, hide (Grow.refl _), hide fun j hj h => by omega⟩
  case round =>
    obtain ⟨k, hk, rfl, HGr, HIX⟩ := hrel
    by_cases hlt : k < rs.length
    · have hlti : (k : Int) < (rs.length : Int) := by omega
      obtain ⟨rb, rf, rfl, hcell⟩ : ∃ b' o, ao = some ⟨b', o, none⟩ ∧ ∀ w', KeptR (fun k => B ≤ k) wr w' → w'.cell? ⟨b', o + k * 3, none⟩ = some (.int .i64 rs[k].1) ∧ w'.cell? ⟨b', o + k * 3 + 1, none⟩ = some (.int .i64 rs[k].2.1) ∧ w'.cell? ⟨b', o + k * 3 + 2, none⟩ = some (.int .u64 rs[k].2.2) := by
        obtain ⟨ao', cp', e, h⟩ := HS.out.keep (KeptR.grow HGr.out)
        cases e
        exact h k hlt
      have hpx := (HPT.out _ (List.getElem_mem hlt)).1
      obtain ⟨x, HX⟩ : ∃ x : Pnt, Hid (rs[k] = x) := ⟨_, hide rfl⟩
      rw [HX.out] at hcell hpx
      obtain ⟨c0, c1, c2⟩ := hcell wr (KeptR.refl _ _)
      obtain ⟨V, eV, gV, hV⟩ := laid_at wr #[.int .i64 x.1, .int .i64 x.2.1, .int .u64 x.2.2] 64
      have HV := hide hV
      have HGV : Hid (Grow w V) := hide (HGr.out.trans gV)
      obtain ⟨v1, mb, tb, ps, D1, D2, P1⟩ := HM.out.grow HGV.out
      obtain ⟨vo1, vc1, hv1⟩ := own_shape P1.row
      subst hv1
      have hwf : (Lit.int .i64 x.1).wf = true := WalkArith.wf_i64 (by omega)
      have hkey1 : keyOf Tryz.prog 3 (.int .i64 x.1) = some (.int .i64 x.1) := keyOf_int_mk Tryz.underlying3 hwf
      obtain ⟨i, HI⟩ : ∃ i : Nat, Hid ((idxNum K x.1).getD 0 = i) := ⟨_, hide rfl⟩
      obtain ⟨t1, HB1⟩ : ∃ t1, Hid ((idxNum K x.1).isSome = t1) := ⟨_, hide rfl⟩
      have hd1 := P1.d1.2 x.1
      have hm1 := P1.m1
      rw [HI.out, HB1.out] at hd1
      have HL1 : Hid (∀ w2, Grow V w2 → (Instr.lookup 84 (.map (some mb)) (.int .i64 x.1) true).run Tryz.prog w2 = .ok (.tuple #[.int .i64 i, .bool t1]) w2) := hide fun w2 g => by
        obtain ⟨v, ps, hrun, hv⟩ := World.ownsMap.look_ok (hm1.kept (grownG g) (by simp)) Tryz.keyInt Tryz.underlying84 (Tryz.zeroInt w2) (plainElem_int Tryz.underlying3 (by decide)) hkey1
        obtain ⟨c, rfl, hc, _⟩ := plainElem_int_inv Tryz.underlying3 hv
        have h3 := congrArg Prod.fst hc
        rw [hd1.2] at h3
        rw [hd1.1] at hrun
        simp at h3
        rw [h3]
        exact hrun
      have HAT := hide P1.at'
      clear hV gV hcell P1 hd1 hm1 hkey1 hwf hpx
      go_wp2
      clear c0 c1 c2 eV
      refine wp_region_free 12 72 mixedR rfl (by decide +kernel) Grow (fun _ _ _ => Grow.trans) (Grow.refl _)
        (fun i' v _ => match i' with
          | 0 => v = .pointer (some ⟨b, 0, none⟩)
          | 1 => v = .pointer (some ⟨b, 0, none⟩)
          | 2 => v = .pointer (some ⟨b, 1, none⟩)
          | 3 => v = .map (some mb)
          | 4 => v = .pointer (some ⟨wr.heap.size, 0, none⟩)
          | 5 => v = .int .i64 x.1
          | 6 => v = .tuple #[.int .i64 i, .bool t1]
          | 7 => v = .tuple #[.int .i64 i, .bool t1]
          | 8 => v = .int .i64 i
          | 9 => v = .bool t1
          | 10 => v = .int .i64 i
          | _ => v = .bool t1)
        (fun i v w w' h hg => h) (fun _ _ => False) (fun _ _ _ _ h => h.elim) (fun i' hi o ho a w2 hG hoff hdep => ?_) (fun vals w2 hG hvals => ?_)
      · have hg2 : Grow V w2 := hG.undrew
        obtain ⟨c0, c1, c2⟩ := three_of (hg2.get HAT.out)
        obtain ⟨d0, d1, d2⟩ := three_of (hg2.get HV.out)
        have hrun := HL1.out w2 hg2
        match i', hi with
        | 0, _ =>
          obtain rfl := Option.some.inj ho
          have o0 := hoff 0 (by decide +kernel)
          simp at o0
          simp [opYields, go_sem, o0]
          exact Grow.refl _
        | 1, _ =>
          obtain rfl := Option.some.inj ho
          have d0 := hdep 0 (by decide +kernel)
          simp [slotOf, dstOf] at d0
          simp [opYields, go_sem, d0]
          exact Grow.refl _
        | 2, _ =>
          obtain rfl := Option.some.inj ho
          have d1 := hdep 1 (by decide +kernel)
          simp [slotOf, dstOf] at d1
          simp [opYields, go_sem, d1]
          exact Grow.refl _
        | 3, _ =>
          obtain rfl := Option.some.inj ho
          have d2 := hdep 2 (by decide +kernel)
          simp [slotOf, dstOf] at d2
          simp [opYields, go_sem, d2, c1]
          exact Grow.refl _
        | 4, _ =>
          obtain rfl := Option.some.inj ho
          have o5 := hoff 5 (by decide +kernel)
          simp at o5
          simp [opYields, go_sem, o5]
          exact Grow.refl _
        | 5, _ =>
          obtain rfl := Option.some.inj ho
          have d4 := hdep 4 (by decide +kernel)
          simp [slotOf, dstOf] at d4
          simp [opYields, go_sem, d4, d0]
          exact Grow.refl _
        | 6, _ =>
          obtain rfl := Option.some.inj ho
          have d3 := hdep 3 (by decide +kernel)
          simp [slotOf, dstOf] at d3
          have d5 := hdep 5 (by decide +kernel)
          simp [slotOf, dstOf] at d5
          simp [opYields, go_sem, d3, d5, hrun]
          exact Grow.refl _
        | 7, _ =>
          obtain rfl := Option.some.inj ho
          have d6 := hdep 6 (by decide +kernel)
          simp [slotOf, dstOf] at d6
          simp [opYields, go_sem, d6]
          exact Grow.refl _
        | 8, _ =>
          obtain rfl := Option.some.inj ho
          have d7 := hdep 7 (by decide +kernel)
          simp [slotOf, dstOf] at d7
          simp [opYields, go_sem, d7]
          exact Grow.refl _
        | 9, _ =>
          obtain rfl := Option.some.inj ho
          have d7 := hdep 7 (by decide +kernel)
          simp [slotOf, dstOf] at d7
          simp [opYields, go_sem, d7]
          exact Grow.refl _
        | 10, _ =>
          obtain rfl := Option.some.inj ho
          have d8 := hdep 8 (by decide +kernel)
          simp [slotOf, dstOf] at d8
          simp [opYields, go_sem, d8]
          exact Grow.refl _
        | 11, _ =>
          obtain rfl := Option.some.inj ho
          have d9 := hdep 9 (by decide +kernel)
          simp [slotOf, dstOf] at d9
          simp [opYields, go_sem, d9]
          exact Grow.refl _
        | k + 12, h => exact absurd h (by omega)
      · have v10 := hvals 10 (by omega)
        have v11 := hvals 11 (by omega)
        simp only at v10 v11
        have HG2 : Hid (Grow w w2) := hide (HGV.out.trans hG.undrew)
        clear hvals hG
        simp [over, dstOf, Act.put, v10, v11]
        clear v10 v11
        cases t1 with
        | true =>
          go_wp2_with fail
          refine (refuse_no 5 w2).mono ?_
          rintro e w2 ⟨rfl, hw3⟩
          subst hw3
          go_wp2
          go_roundw
          case rel => exact ⟨k + 1, by omega, by go_num, HG2, hide fun j hj h => by
            by_cases e : j = k
            · subst e; rw [HX.out]; exact HB1.out
            · exact HIX.out j hj (by omega)⟩
          case measure => simp [intOf]; omega
        | false =>
          have HEE : Hid ((5, K) = E) := hide (by
            rw [← HE.out]
            unfold learnP
            rw [if_pos]
            refine ⟨x, by rw [← HX.out]; exact List.getElem_mem hlt, fun hx => ?_⟩
            obtain ⟨y, hy, e⟩ := List.mem_map.1 hx
            have hn : idxNum K x.1 = none := by
              cases h : idxNum K x.1 with
              | none => rfl
              | some q => have := HB1.out; rw [h] at this; cases this
            exact idxNum_none hn y hy e)
          go_wp2_with fail
          refine (refuse_any true 5 w2 (by decide)).mono ?_
          rintro e w4 ⟨rfl, hw4⟩
          rw [if_pos rfl, outc_no (by decide)]
          exact ⟨rfl, by rw [← HEE.out]; rfl, by rw [hw4, ← HEE.out]; exact HM.out.grow HG2.out, by rw [hw4]; exact KeptR.grow HG2.out⟩
    · obtain rfl : k = rs.length := by omega
      have HAL : Hid (∀ x ∈ rs, (idxNum K x.1).isSome = true) := hide fun x hx => by
        obtain ⟨j, hj, rfl⟩ := List.getElem_of_mem hx
        exact HIX.out j hj hj
      have HEE : Hid ((0, rs.foldl updP K) = E) := hide (by
        rw [← HE.out]
        unfold learnP
        rw [if_neg]
        rintro ⟨x, hx, hn⟩
        have := HAL.out x hx
        cases h : idxNum K x.1 with
        | none => rw [h] at this; cases this
        | some q =>
          obtain ⟨hq, e⟩ := idxNum_some h
          exact hn (List.mem_map.2 ⟨K[q], List.getElem_mem hq, e⟩))
      clear HE HIX
      go_wp2
      go_loopw [33] (fun iv w2 => ∃ k : Nat, k ≤ rs.length ∧ iv = .int .i64 k ∧ Hid (memJ w2 B F b ((rs.take k).foldl updP K)) ∧ Hid (KeptR F wr w2)) (fun iv _ => rs.length - (intOf iv).toNat)
      case atStart => exact ⟨0, by omega, rfl, hide (HM.out.grow HGr.out), hide (KeptR.refl _ _)⟩
      case round =>
        obtain ⟨k, hk, rfl, HMJ, HKR⟩ := hrel
        rename World => w2
        by_cases hlt : k < rs.length
        · have hlti : (k : Int) < (rs.length : Int) := by omega
          obtain ⟨rb, rf, rfl, hcell⟩ : ∃ b' o, ao = some ⟨b', o, none⟩ ∧ ∀ w', KeptR (fun k => B ≤ k) w2 w' → w'.cell? ⟨b', o + k * 3, none⟩ = some (.int .i64 rs[k].1) ∧ w'.cell? ⟨b', o + k * 3 + 1, none⟩ = some (.int .i64 rs[k].2.1) ∧ w'.cell? ⟨b', o + k * 3 + 2, none⟩ = some (.int .u64 rs[k].2.2) := by
            obtain ⟨ao', cp', e, h⟩ := HS.out.keep ((KeptR.grow HGr.out).trans (HKR.out.mono HFB.out))
            cases e
            exact h k hlt
          have hpx := HPT.out _ (List.getElem_mem hlt)
          have hal := HAL.out _ (List.getElem_mem hlt)
          have htk : (rs.take (k + 1)).foldl updP K = updP ((rs.take k).foldl updP K) rs[k] := by rw [List.take_succ_eq_append_getElem hlt, List.foldl_append]; rfl
          have hrf := updAll_refs (rs.take k) K
          obtain ⟨M, HMM⟩ : ∃ M, Hid ((rs.take k).foldl updP K = M) := ⟨_, hide rfl⟩
          rw [HMM.out] at HMJ htk hrf
          obtain ⟨x, HX⟩ : ∃ x : Pnt, Hid (rs[k] = x) := ⟨_, hide rfl⟩
          rw [HX.out] at hcell hpx hal htk
          rw [← idxNum_refs hrf] at hal
          have hML : M.length = K.length := by have := congrArg List.length hrf; simpa using this
          obtain ⟨q, hq⟩ : ∃ q, idxNum M x.1 = some q := by
            cases h : idxNum M x.1 with
            | none => rw [h] at hal; cases hal
            | some q => exact ⟨q, rfl⟩
          obtain ⟨hqM, hup⟩ := updP_at (HD.out.refs hrf) hq
          rw [hup] at htk
          obtain ⟨c0, c1, c2⟩ := hcell w2 (KeptR.refl _ _)
          obtain ⟨V, eV, gV, hV⟩ := laid_at w2 #[.int .i64 x.1, .int .i64 x.2.1, .int .u64 x.2.2] 64
          have HV := hide hV
          have HKV : Hid (KeptR F wr V) := hide (HKR.out.trans (KeptR.grow gV))
          obtain ⟨v1, mb, tb, ps, D1, D2, P1⟩ := HMJ.out.grow gV
          obtain ⟨g, cap, lv, hve, hFg, hBg, hgs, _, _, q2, q3, _, hfz⟩ := P1.cells hqM
          subst hve
          have hwf : (Lit.int .i64 x.1).wf = true := WalkArith.wf_i64 (by omega)
          have hkey1 : keyOf Tryz.prog 3 (.int .i64 x.1) = some (.int .i64 x.1) := keyOf_int_mk Tryz.underlying3 hwf
          have hd1 := P1.d1.2 x.1
          have hm1 := P1.m1
          rw [hq] at hd1
          have HL1 : Hid (∀ w2, Grow V w2 → (Instr.lookup 84 (.map (some mb)) (.int .i64 x.1) false).run Tryz.prog w2 = .ok (.int .i64 q) w2) := hide fun w2 g => by
            obtain ⟨c, hrun, hat, _⟩ := World.ownsMap.lookup_int (hm1.kept (grownG g) (by simp)) Tryz.keyInt Tryz.underlying84 Tryz.underlying3 (Tryz.zeroInt w2) hkey1
            rw [hd1.2] at hat
            simp at hat
            rw [← hat] at hrun
            exact hrun
          have HAT := hide P1.at'
          have HP1 := hide P1
          have HHQ2 : Hid (∀ W, Grow V W → W.cell? ⟨g, q * 4 + 2, none⟩ = some (.int .i64 M[q].2.1) ∧ W.cell? ⟨g, q * 4 + 3, none⟩ = some (.bool M[q].2.2) ∧ W.frozen? ⟨g, q * 4 + 2, none⟩ = false ∧ W.frozen? ⟨g, q * 4 + 3, none⟩ = false) := hide fun W hW => by
            have hgV : g < V.heap.size := hgs
            have e := hW.block g hgV
            exact ⟨(World.cell?_of_block e).trans q2, (World.cell?_of_block e).trans q3, by simp only [World.frozen?, e]; exact hfz _, by simp only [World.frozen?, e]; exact hfz _⟩
          obtain ⟨last, HLA⟩ : ∃ t, Hid (M[q].2.1 = t) := ⟨_, hide rfl⟩
          obtain ⟨hs, HHS⟩ : ∃ t, Hid (M[q].2.2 = t) := ⟨_, hide rfl⟩
          rw [HLA.out, HHS.out] at HHQ2 htk
          have HTK := hide htk
          have HPX := hide hpx
          have hqi : (q : Int) < (M.length : Int) := by omega
          clear hV gV hcell P1 hd1 hm1 hkey1 hwf hup htk hal hrf hq q2 q3 hfz hpx
          go_wp2
          clear c0 c1 c2 eV
          refine wp_region_free 13 72 mixedR rfl (by decide +kernel) Grow (fun _ _ _ => Grow.trans) (Grow.refl _)
            (fun i' v _ => match i' with
              | 0 => v = .pointer (some ⟨b, 0, none⟩)
              | 1 => v = .pointer (some ⟨b, 0, none⟩)
              | 2 => v = .pointer (some ⟨b, 0, none⟩)
              | 3 => v = .slice (some ⟨g, 0, none⟩) M.length cap
              | 4 => v = .pointer (some ⟨b, 0, none⟩)
              | 5 => v = .pointer (some ⟨b, 0, none⟩)
              | 6 => v = .pointer (some ⟨b, 1, none⟩)
              | 7 => v = .map (some mb)
              | 8 => v = .pointer (some ⟨w2.heap.size, 0, none⟩)
              | 9 => v = .int .i64 x.1
              | 10 => v = .int .i64 q
              | _ => v = .pointer (some ⟨g, q * 4, none⟩))
            (fun i v w w' h hg => h) (fun _ _ => False) (fun _ _ _ _ h => h.elim) (fun i' hi o ho a w3 hG hoff hdep => ?_) (fun vals w3 hG hvals => ?_)
          · have hg2 : Grow V w3 := hG.undrew
            obtain ⟨c0, c1, c2⟩ := three_of (hg2.get HAT.out)
            obtain ⟨d0, d1, d2⟩ := three_of (hg2.get HV.out)
            have hrun := HL1.out w3 hg2
            match i', hi with
            | 0, _ =>
              obtain rfl := Option.some.inj ho
              have o0 := hoff 0 (by decide +kernel)
              simp at o0
              simp [opYields, go_sem, o0]
              exact Grow.refl _
            | 1, _ =>
              obtain rfl := Option.some.inj ho
              have d0 := hdep 0 (by decide +kernel)
              simp [slotOf, dstOf] at d0
              simp [opYields, go_sem, d0]
              exact Grow.refl _
            | 2, _ =>
              obtain rfl := Option.some.inj ho
              have d1 := hdep 1 (by decide +kernel)
              simp [slotOf, dstOf] at d1
              simp [opYields, go_sem, d1]
              exact Grow.refl _
            | 3, _ =>
              obtain rfl := Option.some.inj ho
              have d2 := hdep 2 (by decide +kernel)
              simp [slotOf, dstOf] at d2
              simp [opYields, go_sem, d2, c0]
              exact Grow.refl _
            | 4, _ =>
              obtain rfl := Option.some.inj ho
              have o0 := hoff 0 (by decide +kernel)
              simp at o0
              simp [opYields, go_sem, o0]
              exact Grow.refl _
            | 5, _ =>
              obtain rfl := Option.some.inj ho
              have d4 := hdep 4 (by decide +kernel)
              simp [slotOf, dstOf] at d4
              simp [opYields, go_sem, d4]
              exact Grow.refl _
            | 6, _ =>
              obtain rfl := Option.some.inj ho
              have d5 := hdep 5 (by decide +kernel)
              simp [slotOf, dstOf] at d5
              simp [opYields, go_sem, d5]
              exact Grow.refl _
            | 7, _ =>
              obtain rfl := Option.some.inj ho
              have d6 := hdep 6 (by decide +kernel)
              simp [slotOf, dstOf] at d6
              simp [opYields, go_sem, d6, c1]
              exact Grow.refl _
            | 8, _ =>
              obtain rfl := Option.some.inj ho
              have o9 := hoff 9 (by decide +kernel)
              simp at o9
              simp [opYields, go_sem, o9]
              exact Grow.refl _
            | 9, _ =>
              obtain rfl := Option.some.inj ho
              have d8 := hdep 8 (by decide +kernel)
              simp [slotOf, dstOf] at d8
              simp [opYields, go_sem, d8, d0]
              exact Grow.refl _
            | 10, _ =>
              obtain rfl := Option.some.inj ho
              have d7 := hdep 7 (by decide +kernel)
              simp [slotOf, dstOf] at d7
              have d9 := hdep 9 (by decide +kernel)
              simp [slotOf, dstOf] at d9
              simp [opYields, go_sem, d7, d9, hrun]
              exact Grow.refl _
            | 11, _ =>
              obtain rfl := Option.some.inj ho
              have d3 := hdep 3 (by decide +kernel)
              simp [slotOf, dstOf] at d3
              have d10 := hdep 10 (by decide +kernel)
              simp [slotOf, dstOf] at d10
              simp [opYields, go_sem, d3, d10, hqi]
              exact Grow.refl _
            | 12, _ =>
              obtain rfl := Option.some.inj ho
              have d11 := hdep 11 (by decide +kernel)
              simp [slotOf, dstOf] at d11
              simp [opYields, go_sem, d11]
              exact Grow.refl _
            | k + 13, h => exact absurd h (by omega)
          · have v12 := hvals 12 (by omega)
            simp only at v12
            have HG3 : Hid (Grow V w3) := hide hG.undrew
            clear hvals hG
            simp [over, dstOf, Act.put, v12]
            clear v12
            obtain ⟨q2, q3, z2, z3⟩ := HHQ2.out w3 HG3.out
            obtain ⟨d0, d1, d2⟩ := three_of (HG3.out.get HV.out)
            have hfin : ∀ W : World, Grow w3 W → memJ ((W.setCell ⟨g, q * 4 + 2, none⟩ (.int .i64 x.2.1)).setCell ⟨g, q * 4 + 3, none⟩ (.bool true)) B F b (M.set q (M[q].1, x.2.1, true)) ∧ KeptR F wr ((W.setCell ⟨g, q * 4 + 2, none⟩ (.int .i64 x.2.1)).setCell ⟨g, q * 4 + 3, none⟩ (.bool true)) := fun W hW => by
              obtain ⟨h1, h2⟩ := (HP1.out.grow (HG3.out.trans hW)).upd HFB.out hqM rfl x.2.1
              exact ⟨h1, HKV.out.trans ((KeptR.grow (HG3.out.trans hW)).trans h2)⟩
            have HFIN := hide hfin
            have HSAME : Hid (∀ W : World, Grow w3 W → memJ W B F b M ∧ KeptR F wr W) := hide fun W hW => ⟨⟨_, _, _, _, _, _, HP1.out.grow (HG3.out.trans hW)⟩, HKV.out.trans (KeptR.grow (HG3.out.trans hW))⟩
            clear hfin
            cases hs with
            | false =>
              as_aux_lemma =>
                rw [if_pos (.inl rfl)] at HTK
                go_wp2
                go_quiet (fail)
                go_wp2
                go_roundw
                case rel => exact ⟨k + 1, by omega, by go_num, hide (by rw [HTK.out]; exact (HFIN.out _ (grow_drewR _ _)).1), hide (HFIN.out _ (grow_drewR _ _)).2⟩
                case measure => simp [intOf]; omega
            | true =>
              by_cases hlt2 : last < x.2.1
              · as_aux_lemma =>
                  rw [if_pos (.inr hlt2)] at HTK
                  have hdl : decide (last < x.2.1) = true := decide_eq_true hlt2
                  clear hlt2
                  go_wp2
                  go_quiet (fail)
                  go_wp2
                  go_roundw
                  case rel => exact ⟨k + 1, by omega, by go_num, hide (by rw [HTK.out]; exact (HFIN.out _ (grow_drewR _ _)).1), hide (HFIN.out _ (grow_drewR _ _)).2⟩
                  case measure => simp [intOf]; omega
              · as_aux_lemma =>
                  rw [if_neg (by simp; omega)] at HTK
                  have hdl : decide (last < x.2.1) = false := decide_eq_false hlt2
                  clear hlt2
                  go_wp2
                  go_quiet (fail)
                  go_wp2
                  go_roundw
                  case rel => exact ⟨k + 1, by omega, by go_num, hide (by rw [HTK.out]; exact (HSAME.out _ (grow_drewR _ _)).1), hide (HSAME.out _ (grow_drewR _ _)).2⟩
                  case measure => simp [intOf]; omega
        · obtain rfl : k = rs.length := by omega
          rw [List.take_of_length_le (Nat.le_refl _)] at HMJ
          go_wp2
          go_end0
          exact ⟨by rw [← HEE.out]; rfl, by rw [← HEE.out]; exact HMJ.out, (KeptR.grow HGr.out).trans HKR.out⟩
end Go.Proofs.YtkaeogldielkfaaGreat.Rc
namespace Go.Proofs.YtkaeogldielkfaaGreat.Rc
open Go.RowKit Lb
attribute [local go_sem] bs_size bs_toList bs_append bs_get bs_extract
set_option maxRecDepth 20000 in
set_option maxHeartbeats 4000000 in
theorem learn_any (w : World) (B : Nat) (F : Nat → Prop) (b : Nat) (K : List Kp) (vr vp : Value) (r : Rcd) (hm : memJ w B F b K) (hF : ∀ k, w.heap.size ≤ k → F k) (hFB : ∀ k, F k → B ≤ k) (hBw : B ≤ w.heap.size) (hd : Dist K) (hr : rightM K) (hsr : SR B w vr r.refs) (hsp : SP B w vp r.points) (hre : recErr r = 0) (hKl : K.length ≤ 1000) :
    Calls Tryz.prog 26 #[.pointer (some ⟨b, 0, none⟩), .agg #[.int .i64 r.kind, vr, vp]] w fun e w' => e = outc (learnR K r).1 ∧ memJ w' B F b (learnR K r).2 ∧ KeptR F w w' := by
  obtain ⟨hk, hl1, hl2, he1, he2⟩ := recErr_zero hre
  obtain ⟨W, eW, gW, hW⟩ := laid_at w #[.int .i64 r.kind, vr, vp] 29
  have hs := gW.size
  have HS := hide (series_any W B F b K vr r.refs (hm.grow gW) (fun k h => hF k (by omega)) hFB (by omega) hd hr (hsr.keep (KeptR.grow gW)) he1 hl1 hKl)
  have HP := hide (samples_any W B F b K vp r.points (hm.grow gW) hFB (by omega) hd (hsp.keep (KeptR.grow gW)) he2 hl2 hKl)
  have HKW : Hid (KeptR F w W) := hide (KeptR.grow gW)
  obtain ⟨c0, c1, c2⟩ := three_of hW
  obtain ⟨E, HE⟩ : ∃ E, Hid (learnR K r = E) := ⟨_, hide rfl⟩
  rw [HE.out]
  obtain ⟨ro, rc, hvr, _⟩ := id hsr
  obtain ⟨po, pc, hvp, _⟩ := id hsp
  subst hvr hvp
  clear hm hF hFB hd hr hsr hsp hre he1 he2 hW gW hs
  by_cases h1 : r.kind = 1
  · have hE1 : learnS K r.refs = E := by rw [← HE.out]; unfold learnR; rw [if_pos h1]
    have hki : (r.kind == 1) = true := by simp [h1]
    rw [hE1] at HS
    clear HE HP h1 hk hE1
    go_enter Tryz.func26, Tryz.ntmps26
    go_wp2_with fail
    refine HS.out.mono ?_
    rintro e w1 ⟨rfl, hm1, hk1⟩
    have HM1 := hide hm1
    have HK1 := hide (HKW.out.trans hk1)
    clear hm1 hk1 HS
    by_cases h0 : E.1 = 0
    · have HZ := hide h0
      rw [h0, outc_ok]
      clear h0
      go_wp2
      go_end0
      exact ⟨by rw [HZ.out, outc_ok], HM1.out, HK1.out⟩
    · rw [outc_no h0]
      exact ⟨rfl, by rw [outc_no h0], HM1.out, HK1.out⟩
  · have hE1 : learnP K r.points = E := by rw [← HE.out]; unfold learnR; rw [if_neg h1]
    have hki : (r.kind == 1) = false := by simp [h1]
    rw [hE1] at HP
    clear HE HS h1 hk hE1
    go_enter Tryz.func26, Tryz.ntmps26
    go_wp2_with fail
    refine HP.out.mono ?_
    rintro e w1 ⟨rfl, hm1, hk1⟩
    have HM1 := hide hm1
    have HK1 := hide (HKW.out.trans hk1)
    clear hm1 hk1 HP
    by_cases h0 : E.1 = 0
    · have HZ := hide h0
      rw [h0, outc_ok]
      clear h0
      go_wp2
      go_end0
      exact ⟨by rw [HZ.out, outc_ok], HM1.out, HK1.out⟩
    · rw [outc_no h0]
      exact ⟨rfl, by rw [outc_no h0], HM1.out, HK1.out⟩
/-! ### what is known, one by one -/
def kpAt (k : Knw) (i : Nat) : Kp := (k.refs.getD i (0, []), k.lasts.getD i 0, k.has.getD i false)
def kpsOf (k : Knw) (n : Nat) : List Kp := (List.range n).map (kpAt k)
theorem kpsOf_succ (k : Knw) (n : Nat) : kpsOf k (n + 1) = kpsOf k n ++ [kpAt k n] := by unfold kpsOf; rw [List.range_succ, List.map_append]; rfl
theorem kpsOf_length (k : Knw) (n : Nat) : (kpsOf k n).length = n := by unfold kpsOf; simp
theorem knwErr_zero {k : Knw} (h : knwErr k = 0) : k.lasts.length = k.refs.length ∧ k.has.length = k.refs.length ∧ k.refs.length ≤ 1000 ∧ (∀ i, i < k.refs.length → oneErr k i = 0) ∧ dupB k.refs = false := by
  unfold knwErr at h
  split at h
  · cases h
  · rename_i h1
    split at h
    · cases h
    · rename_i h2
      split at h
      · rename_i h3; exact absurd h h3
      · rename_i h3
        split at h
        · cases h
        · rename_i h4
          exact ⟨by omega, by omega, by omega, oneErr_of (by omega), by simpa using h4⟩
theorem oneErr_rise {k : Knw} {i : Nat} (h : oneErr k i = 0) (hi : 0 < i) : (k.refs.getD (i - 1) (0, [])).1 < (k.refs.getD i (0, [])).1 := by
  unfold oneErr at h
  split at h
  · rename_i h0; exact absurd h h0
  · split at h
    · cases h
    · split at h
      · cases h
      · split at h
        · cases h
        · rename_i h4
          by_cases hc : (k.refs.getD i (0, [])).1 ≤ (k.refs.getD (i - 1) (0, [])).1
          · exact absurd ⟨hi, hc⟩ h4
          · omega
theorem refs_rise {k : Knw} (h : knwErr k = 0) : ∀ j i, i < j → j < k.refs.length → (k.refs.getD i (0, [])).1 < (k.refs.getD j (0, [])).1
  | 0, i, hi, _ => by omega
  | j + 1, i, hi, hj => by
    have h1 := oneErr_rise ((knwErr_zero h).2.2.2.1 (j + 1) hj) (by omega)
    rw [Nat.add_sub_cancel] at h1
    by_cases e : i = j
    · subst e; exact h1
    · have := refs_rise h j i (by omega) (by omega)
      omega
theorem kpsOf_mem {k : Knw} {n : Nat} {y : Kp} (h : y ∈ kpsOf k n) : ∃ i, i < n ∧ y = kpAt k i := by
  obtain ⟨i, hi, rfl⟩ := List.mem_map.1 h
  exact ⟨i, List.mem_range.1 hi, rfl⟩
theorem kps_right {k : Knw} (h : knwErr k = 0) {n : Nat} (hn : n ≤ k.refs.length) : rightM (kpsOf k n) := fun y hy => by
  obtain ⟨i, hi, rfl⟩ := kpsOf_mem hy
  exact oneErr_ref ((knwErr_zero h).2.2.2.1 i (by omega))
theorem kps_new {k : Knw} (h : knwErr k = 0) {n : Nat} (hn : n < k.refs.length) : knowsR (kpsOf k n) (kpAt k n).1 = 0 := knowsR_of fun y hy => by
  obtain ⟨i, hi, rfl⟩ := kpsOf_mem hy
  refine ⟨fun e => ?_, fun e => ?_⟩
  · have := refs_rise h n i hi hn
    have e' : (k.refs.getD i (0, [])).1 = (k.refs.getD n (0, [])).1 := e
    omega
  · have e' : (k.refs.getD i (0, [])).2 = (k.refs.getD n (0, [])).2 := e
    have hil : i < k.refs.length := by omega
    have g1 : k.refs.getD i (0, []) = k.refs[i] := by simp [hil]
    have g2 : k.refs.getD n (0, []) = k.refs[n] := by simp [hn]
    rw [g1, g2] at e'
    exact dupB_false.1 (knwErr_zero h).2.2.2.2 i n hil hn hi e'
theorem kps_dist {k : Knw} (h : knwErr k = 0) : ∀ {n : Nat}, n ≤ k.refs.length → Dist (kpsOf k n)
  | 0, _ => Dist.nil
  | n + 1, hn => by
    rw [kpsOf_succ]
    exact (kps_dist h (by omega)).snoc (kps_new h (by omega))
end Go.Proofs.YtkaeogldielkfaaGreat.Rc
