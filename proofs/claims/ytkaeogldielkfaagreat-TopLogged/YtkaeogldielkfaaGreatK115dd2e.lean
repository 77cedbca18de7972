/- 1 texts in one. -/
import Derived.Laws.OwnMore
import Derived.Deep.AppendLies
import Derived.Maps.AppendAt
import Derived.Shelf.RegionOpenPlain
import Derived.Test.YtkaeogldielkfaaGreatProg
import Derived.Test.YtkaeogldielkfaaGreatK5674b3b
import Derived.Test.YtkaeogldielkfaaGreatK7aebb14
import Derived.Test.YtkaeogldielkfaaGreatKe92268d
import Derived.Test.YtkaeogldielkfaaGreatK6215cff
import Derived.Test.YtkaeogldielkfaaGreatKb13b050
import Derived.Test.YtkaeogldielkfaaGreatK9055bc8
import Derived.Test.YtkaeogldielkfaaGreatKe6b8975
import Derived.Test.YtkaeogldielkfaaGreatK410f598
import Derived.Maps.Own
import Derived.Maps.OwnOps
import Derived.Maps.OwnSet
import Derived.Maps.Views
set_option linter.unusedVariables false
set_option linter.unusedSimpArgs false
namespace Go.Proofs.YtkaeogldielkfaaGreat.Rc
open Go.RowKit Go.Maps Go.Shelf Lb
open Go.WideMaps (keyOf_string_mk)
attribute [local go_sem] bs_size bs_toList bs_append bs_get bs_extract
theorem infoK : (Tryz.prog.info? 96).map (fun i => (i.zero, i.size, i.bytes)) = some (some (.agg #[.int .i64 0, .slice none 0 0, .int .i64 0, .bool false]), 4, 48) := by kernel_rfl
theorem step_app_atR {P : Program} {ops : Array Oper} {o : Oper} {a : Act} {w : World} {K : Act → World → Prop} {Q : Exit → Act → World → Prop} {E : Prop}
    (hgd : o.guard = none) (s x : Operand) (t : TypeId) (ho : o.op = Op.call { callee := Callee.builtin Builtin.append, args := #[s, x], argTypes := #[t, t] })
    (base : Nat) (e : TypeId) (i : TypeInfo) (z : Value) (size bytes : Nat) (ht : P.underlying t = some (.slice e)) (hi : P.info? e = some i) (hz : i.zero = some z)
    (hsize : i.size = size) (hby : i.bytes = bytes) (hzs : z.cells.size = size) (hsz : 0 < size)
    (v : Value) (n : Nat) (xs : List Value) (hs : a.eval s = v) (hown : w.ownsRow base e size v n xs)
    (ad : Addr) (m c : Nat) (news : List Value) (hx : a.eval x = .slice (some ad) m c) (hl : news.length = m * size) (hnews : ∀ j u, news[j]? = some u → w.cell? (ad.add j) = some u) (h1 : ∀ u ∈ news, u.oneCell' = true)
    (h63 : n + m ≤ maxLen) (hbytes : (n + m) * bytes ≤ 140737488355328) (hbase : base ≤ w.heap.size)
    (hK : ∀ v' w', w'.ownsRow base e size v' (n + m) (xs ++ news) → w.grownBy w' v.ownBlock → (v'.ownBlock = v.ownBlock ∨ v'.ownBlock = some w.heap.size) → K (a.put o.dst v') w') :
    if Region.wanted o (yielded ops a.tmps) = true then Oper.wp P o a w K Q else E := by
  have hw : Region.wanted o (yielded ops a.tmps) = true := by simp [Region.wanted, hgd]
  rw [if_pos hw]
  obtain ⟨v', w', hr, h2, h3, _, h5⟩ := run_append_own_at (P := P) w base t o.type e i z size bytes ht hi hz hsize hby hzs hsz v n xs hown ad m c news hl hnews h1 h63 hbytes hbase
  unfold Oper.wp
  simp [execOp, ho, resolve, invoke, builtin, hs, hx, hr, Result.andThen]
  exact hK v' w' h2 h3 h5
theorem setAt {w : World} {b i : Nat} {c : Array Value} {t : TypeId} {fr : Nat × Nat} (h : w.heap[b]? = some (.cells c t fr)) (u : Value) : (w.setCell ⟨b, i, none⟩ u).heap[b]? = some (.cells (c.setIfInBounds i u) t fr) := by
  simp [World.setCell, h, Array.getElem?_modify]
theorem row_map {w : World} {base e size n mb : Nat} {v : Value} {xs : List Value} {es : Array MapEntry} {ck : Nat} (h : w.ownsRow base e size v n xs) (hb : w.heap[mb]? = some (.map es ck)) : v.ownBlock ≠ some mb := by
  rcases h.2 with ⟨rfl, h0⟩ | ⟨g, cap, cur, rfl, _, hg, _⟩
  · simp [Value.ownBlock]
  · intro e
    simp [Value.ownBlock] at e
    subst e
    rw [hg] at hb
    cases hb
theorem four_of {w : World} {b : Nat} {x y z u : Value} {t : TypeId} (h : w.heap[b]? = some (.cells #[x, y, z, u] t (0, 0))) : w.cell? ⟨b, 0, none⟩ = some x ∧ w.cell? ⟨b, 1, none⟩ = some y ∧ w.cell? ⟨b, 2, none⟩ = some z ∧ w.cell? ⟨b, 3, none⟩ = some u := by simp [World.cell?, h]
set_option maxRecDepth 20000 in
set_option maxHeartbeats 8000000 in
theorem add_any (w : World) (B : Nat) (F : Nat → Prop) (b : Nat) (K : List Kp) (x : Kp) (vl : Value) (hm : memJ w B F b K) (hF : ∀ k, w.heap.size ≤ k → F k) (hFB : ∀ k, F k → B ≤ k) (hBw : B ≤ w.heap.size) (hx : refErr x.1 = 0) (hk : knowsR K x.1 = 0) (hd : Dist K) (hr : rightM K) (hv : SL B w vl x.1.2) (hl : K.length < 2000) :
    Calls Tryz.prog 53 #[.pointer (some ⟨b, 0, none⟩), .agg #[.int .i64 x.1.1, vl, .int .i64 x.2.1, .bool x.2.2]] w fun e w' => e = .returned (.tuple #[]) ∧ memJ w' B F b (K ++ [x]) ∧ KeptR F w w' := by
  obtain ⟨v, mb, tb, ps, D1, D2, hP⟩ := hm
  obtain ⟨hi1, hi2⟩ : idxNum K x.1.1 = none ∧ idxTxt K (textAns x.1.2) = none := by
    rcases knows_ways hd hr hx with ⟨h, _⟩ | ⟨_, h1, h2⟩ | ⟨h, _⟩
    · rw [hk] at h; cases h
    · exact ⟨h1, h2⟩
    · rw [hk] at h; cases h
  have hok := okRef_of hx
  have hTs := text_short (refErr_zero hx).2.2
  have hd1 := refMap_put hP.d1 hi1
  have hd2 := txtMap_put hP.d2 hi2
  obtain ⟨T, HT⟩ : ∃ T, Hid (textAns x.1.2 = T) := ⟨_, hide rfl⟩
  rw [HT.out] at hTs hd2
  have hwf : (Lit.int .i64 x.1.1).wf = true := WalkArith.wf_i64 ⟨by have := hok.1; omega, by have := hok.2.1; omega⟩
  have hkey1 : keyOf Tryz.prog 3 (.int .i64 x.1.1) = some (.int .i64 x.1.1) := keyOf_int_mk Tryz.underlying3 hwf
  have hkey2 : keyOf Tryz.prog 9 (.string (bs T)) = some (.string T) := by rw [keyOf_string_mk Tryz.underlying9 (by rw [bs_size]; unfold maxLen; omega), bs_data]
  obtain ⟨W, eW, gW, hW⟩ := laid_at w #[.int .i64 x.1.1, vl, .int .i64 x.2.1, .bool x.2.2] 96
  have hsz := gW.size
  have hPW := hP.grow gW
  have HTX := hide (fun w2 (g : KeptR F W w2) => textOf_any w2 x.1 vl (hv w2 (((KeptR.grow gW).trans g).mono hFB)) hok)
  rw [HT.out] at HTX
  obtain ⟨lo, lc, rfl⟩ := readsLabels_len hv.reads
  obtain ⟨vo, vc, hvv⟩ := own_shape hP.row
  subst hvv
  obtain ⟨k0, hinf, hz0, hz1, hz2⟩ := info_parts infoK
  obtain ⟨es1, ck1, hmb, _⟩ := id hPW.m1
  obtain ⟨es2, ck2, htb, _⟩ := id hPW.m2
  have hbm : b ≠ mb := fun e => by have := hPW.at'; rw [e, hmb] at this; cases this
  have hbt : b ≠ tb := fun e => by have := hPW.at'; rw [e, htb] at this; cases this
  have hwl : (Lit.int .i64 (K.length : Int)).wf = true := WalkArith.wf_i64 (by omega)
  have HP := hide hPW
  have HV : Hid (SL B W (.slice lo x.1.2.length lc) x.1.2) := hide (hv.keep ((KeptR.grow gW)))
  have HW := hide hW
  have HGW : Hid (KeptR F w W) := hide (KeptR.grow gW)
  have HD1 := hide hd1
  have HD2 := hide hd2
  have hsW : W.heap.size = w.heap.size + 1 := by rw [← eW]; simp
  clear hP hPW hv hd hr hx hW gW hd1 hd2 hi1 hi2 hk hok hmb htb HT
  go_enter Tryz.func53, Tryz.ntmps53
  go_wp2
  refine wp_region_free 12 38 mixedR rfl (by decide +kernel) Grow (fun _ _ _ => Grow.trans) (Grow.refl _)
    (fun i' v _ => match i' with
      | 0 => v = .pointer (some ⟨b, 0, none⟩)
      | 1 => v = .pointer (some ⟨b, 0, none⟩)
      | 2 => v = .pointer (some ⟨b, 1, none⟩)
      | 3 => v = .map (some mb)
      | 4 => v = .pointer (some ⟨w.heap.size, 0, none⟩)
      | 5 => v = .pointer (some ⟨w.heap.size, 0, none⟩)
      | 6 => v = .int .i64 x.1.1
      | 7 => v = .pointer (some ⟨b, 0, none⟩)
      | 8 => v = .pointer (some ⟨b, 0, none⟩)
      | 9 => v = .pointer (some ⟨b, 0, none⟩)
      | 10 => v = .slice vo K.length vc
      | _ => v = .int .i64 K.length)
    (fun i v w w' h hg => h) (fun _ _ => False) (fun _ _ _ _ h => h.elim) (fun i' hi o ho a w2 hG hoff hdep => ?_) (fun vals w2 hG hvals => ?_)
  · have hg2 : Grow W w2 := hG.undrew
    obtain ⟨c0, c1, c2⟩ := three_of (hg2.get HP.out.at')
    obtain ⟨d0, d1, d2, d3⟩ := four_of (hg2.get HW.out)
    match i', hi with
    | 0, _ =>
      obtain rfl := Option.some.inj ho
      have o0 := hoff 0 (by decide +kernel)
      simp at o0
      simp [opYields, go_sem, o0]
      exact Grow.refl _
    | 1, _ =>
      obtain rfl := Option.some.inj ho
      have d0 := hdep 0 (by decide +kernel)
      simp [slotOf, dstOf] at d0
      simp [opYields, go_sem, d0]
      exact Grow.refl _
    | 2, _ =>
      obtain rfl := Option.some.inj ho
      have d1 := hdep 1 (by decide +kernel)
      simp [slotOf, dstOf] at d1
      simp [opYields, go_sem, d1]
      exact Grow.refl _
    | 3, _ =>
      obtain rfl := Option.some.inj ho
      have d2 := hdep 2 (by decide +kernel)
      simp [slotOf, dstOf] at d2
      simp [opYields, go_sem, d2, c1]
      exact Grow.refl _
    | 4, _ =>
      obtain rfl := Option.some.inj ho
      have o3 := hoff 3 (by decide +kernel)
      simp at o3
      simp [opYields, go_sem, o3]
      exact Grow.refl _
    | 5, _ =>
      obtain rfl := Option.some.inj ho
      have d4 := hdep 4 (by decide +kernel)
      simp [slotOf, dstOf] at d4
      simp [opYields, go_sem, d4]
      exact Grow.refl _
    | 6, _ =>
      obtain rfl := Option.some.inj ho
      have d5 := hdep 5 (by decide +kernel)
      simp [slotOf, dstOf] at d5
      simp [opYields, go_sem, d5, d0]
      exact Grow.refl _
    | 7, _ =>
      obtain rfl := Option.some.inj ho
      have o0 := hoff 0 (by decide +kernel)
      simp at o0
      simp [opYields, go_sem, o0]
      exact Grow.refl _
    | 8, _ =>
      obtain rfl := Option.some.inj ho
      have d7 := hdep 7 (by decide +kernel)
      simp [slotOf, dstOf] at d7
      simp [opYields, go_sem, d7]
      exact Grow.refl _
    | 9, _ =>
      obtain rfl := Option.some.inj ho
      have d8 := hdep 8 (by decide +kernel)
      simp [slotOf, dstOf] at d8
      simp [opYields, go_sem, d8]
      exact Grow.refl _
    | 10, _ =>
      obtain rfl := Option.some.inj ho
      have d9 := hdep 9 (by decide +kernel)
      simp [slotOf, dstOf] at d9
      simp [opYields, go_sem, d9, c0]
      exact Grow.refl _
    | 11, _ =>
      obtain rfl := Option.some.inj ho
      have d10 := hdep 10 (by decide +kernel)
      simp [slotOf, dstOf] at d10
      simp [opYields, go_sem, d10]
      exact Grow.refl _
    | k + 12, h => exact absurd h (by omega)
  · have v3 := hvals 3 (by omega)
    have v6 := hvals 6 (by omega)
    have v11 := hvals 11 (by omega)
    simp only at v3 v6 v11
    have hg2 : Grow W w2 := hG.undrew
    have hP2 := HP.out.grow hg2
    have HK2 : Hid (KeptR F W w2) := hide (KeptR.grow hg2)
    have HW2 := hide (hg2.get HW.out)
    clear hvals hG eW hg2
    simp [over, dstOf, Act.put, v3, v6, v11]
    clear v3 v6 v11
    have hm1 := hP2.m1
    have HP2 := hide hP2
    clear hP2
    go_wp2_with (at_mapUpdate; refine wpList_mapUpdate_own _ rfl (.tmp 7) (.tmp 10) (.tmp 15) 84 rfl 3 3 Tryz.keyInt Tryz.underlying84 (plainElem Tryz.prog 3) mb K.length D1 rfl hm1 (by unfold maxLen; omega) _ _ _ rfl rfl hkey1 _ [] (plainElem_int Tryz.underlying3 hwl) ?_; intro w3 hown3 hgrow3)
    obtain ⟨es, ck, hmb, _⟩ := id hm1
    have hat3 := grown_block hgrow3 HP2.out.at' (fun e => hbm (by cases e; rfl))
    have hk3 : KeptR F w2 w3 := KeptR.grownMap hmb hgrow3 HP2.out.f1
    have hrow3 : w3.ownsRow B 96 4 (.slice vo K.length vc) K.length (kepC ps) := own_keep HP2.out.row fun g hg => hgrow3.block g (HP2.out.row.lt g hg).2 (fun e => row_map HP2.out.row hmb (by rw [hg, e]))
    have hm23 : textM w3 tb K.length D2 := HP2.out.m2.kept hgrow3 (fun e => HP2.out.ne (by cases e; rfl))
    have hw3 := grown_block hgrow3 HW2.out (fun e => by cases e; rw [HW2.out] at hmb; cases hmb)
    have HAT3 := hide hat3
    have HK3 : Hid (KeptR F W w3) := hide (HK2.out.trans hk3)
    have HROW3 := hide hrow3
    have HM13 := hide hown3
    have HM23 := hide hm23
    have HW3 := hide hw3
    have s3 : w.heap.size < w3.heap.size := by have := HK3.out.size; omega
    clear hat3 hk3 hrow3 hm23 hw3 hgrow3 hown3 hm1 hmb HK2 HW2 hkey1
    refine wp_region_free 12 38 mixedR rfl (by decide +kernel) Grow (fun _ _ _ => Grow.trans) (Grow.refl _)
      (fun i' v _ => match i' with
        | 0 => v = .pointer (some ⟨b, 0, none⟩)
        | 1 => v = .pointer (some ⟨b, 0, none⟩)
        | 2 => v = .pointer (some ⟨b, 2, none⟩)
        | 3 => v = .map (some tb)
        | 4 => v = .pointer (some ⟨w.heap.size, 0, none⟩)
        | 5 => v = .agg #[.int .i64 x.1.1, .slice lo x.1.2.length lc]
        | 6 => v = .string (bs T)
        | 7 => v = .pointer (some ⟨b, 0, none⟩)
        | 8 => v = .pointer (some ⟨b, 0, none⟩)
        | 9 => v = .pointer (some ⟨b, 0, none⟩)
        | 10 => v = .slice vo K.length vc
        | _ => v = .int .i64 K.length)
      (fun i v w w' h hg => h) (fun _ _ => False) (fun _ _ _ _ h => h.elim) (fun i' hi o ho a w4 hG hoff hdep => ?_) (fun vals w4 hG hvals => ?_)
    · have hg4 : Grow w3 w4 := hG.undrew
      obtain ⟨c0, c1, c2⟩ := three_of (hg4.get HAT3.out)
      obtain ⟨d0, d1, d2, d3⟩ := four_of (hg4.get HW3.out)
      match i', hi with
      | 0, _ =>
        obtain rfl := Option.some.inj ho
        have o0 := hoff 0 (by decide +kernel)
        simp at o0
        simp [opYields, go_sem, o0]
        exact Grow.refl _
      | 1, _ =>
        obtain rfl := Option.some.inj ho
        have d0 := hdep 0 (by decide +kernel)
        simp [slotOf, dstOf] at d0
        simp [opYields, go_sem, d0]
        exact Grow.refl _
      | 2, _ =>
        obtain rfl := Option.some.inj ho
        have d1 := hdep 1 (by decide +kernel)
        simp [slotOf, dstOf] at d1
        simp [opYields, go_sem, d1]
        exact Grow.refl _
      | 3, _ =>
        obtain rfl := Option.some.inj ho
        have d2 := hdep 2 (by decide +kernel)
        simp [slotOf, dstOf] at d2
        simp [opYields, go_sem, d2, c2]
        exact Grow.refl _
      | 4, _ =>
        obtain rfl := Option.some.inj ho
        have o3 := hoff 3 (by decide +kernel)
        simp at o3
        simp [opYields, go_sem, o3]
        exact Grow.refl _
      | 5, _ =>
        obtain rfl := Option.some.inj ho
        have d4 := hdep 4 (by decide +kernel)
        simp [slotOf, dstOf] at d4
        simp [opYields, go_sem, d4, d0, d1]
        exact Grow.refl _
      | 6, _ =>
        obtain rfl := Option.some.inj ho
        have d5 := hdep 5 (by decide +kernel)
        simp [slotOf, dstOf] at d5
        simp [opYields, go_sem, d5]
        refine (HTX.out w4 (HK3.out.trans (KeptR.grow hg4))).mono ?_
        rintro e w5 ⟨rfl, hb⟩
        exact ⟨hb, rfl⟩
      | 7, _ =>
        obtain rfl := Option.some.inj ho
        have o0 := hoff 0 (by decide +kernel)
        simp at o0
        simp [opYields, go_sem, o0]
        exact Grow.refl _
      | 8, _ =>
        obtain rfl := Option.some.inj ho
        have d7 := hdep 7 (by decide +kernel)
        simp [slotOf, dstOf] at d7
        simp [opYields, go_sem, d7]
        exact Grow.refl _
      | 9, _ =>
        obtain rfl := Option.some.inj ho
        have d8 := hdep 8 (by decide +kernel)
        simp [slotOf, dstOf] at d8
        simp [opYields, go_sem, d8]
        exact Grow.refl _
      | 10, _ =>
        obtain rfl := Option.some.inj ho
        have d9 := hdep 9 (by decide +kernel)
        simp [slotOf, dstOf] at d9
        simp [opYields, go_sem, d9, c0]
        exact Grow.refl _
      | 11, _ =>
        obtain rfl := Option.some.inj ho
        have d10 := hdep 10 (by decide +kernel)
        simp [slotOf, dstOf] at d10
        simp [opYields, go_sem, d10]
        exact Grow.refl _
      | k + 12, h => exact absurd h (by omega)
    · have v3 := hvals 3 (by omega)
      have v6 := hvals 6 (by omega)
      have v11 := hvals 11 (by omega)
      simp only at v3 v6 v11
      have hg4 : Grow w3 w4 := hG.undrew
      have HG4 := hide hg4
      have hm24 : textM w4 tb K.length D2 := HM23.out.kept (grownG hg4) (by simp)
      clear hvals hG hg4
      simp [over, dstOf, Act.put, v3, v6, v11]
      clear v3 v6 v11
      go_wp2_with (at_mapUpdate; refine wpList_mapUpdate_own _ rfl (.tmp 19) (.tmp 22) (.tmp 27) 85 rfl 9 3 Tryz.keyLaw Tryz.underlying85 (plainElem Tryz.prog 3) tb K.length D2 rfl hm24 (by unfold maxLen; omega) _ _ _ rfl rfl hkey2 _ [] (plainElem_int Tryz.underlying3 hwl) ?_; intro w5 hown5 hgrow5)
      obtain ⟨es, ck, htb, _⟩ := id hm24
      have hrow4 : w4.ownsRow B 96 4 (.slice vo K.length vc) K.length (kepC ps) := own_keep HROW3.out fun g hg => HG4.out.block g (HROW3.out.lt g hg).2
      have hat5 := grown_block hgrow5 (HG4.out.get HAT3.out) (fun e => hbt (by cases e; rfl))
      have hk5 : KeptR F w4 w5 := KeptR.grownMap htb hgrow5 HP2.out.f2
      have hrow5 : w5.ownsRow B 96 4 (.slice vo K.length vc) K.length (kepC ps) := own_keep hrow4 fun g hg => hgrow5.block g (hrow4.lt g hg).2 (fun e => row_map hrow4 htb (by rw [hg, e]))
      have hm15 : refsM w5 mb (K.length + 1) _ := (HM13.out.kept (grownG HG4.out) (by simp)).kept hgrow5 (fun e => HP2.out.ne (by cases e; rfl))
      have hw5 := grown_block hgrow5 (HG4.out.get HW3.out) (fun e => by cases e; rw [HG4.out.get HW3.out] at htb; cases htb)
      obtain ⟨q0, q1, q2, q3⟩ := four_of hw5
      obtain ⟨c0, c1, c2⟩ := three_of hat5
      have HK5 : Hid (KeptR F W w5) := hide ((HK3.out.trans (KeptR.grow HG4.out)).trans hk5)
      obtain ⟨X, eX⟩ : ∃ X, w5.drew.alloc (.cells #[.int .i64 x.1.1, .slice lo x.1.2.length lc, .int .i64 x.2.1, .bool x.2.2] 96) = X := ⟨_, rfl⟩
      have hGX : Grow w5 X := Grow.trans (⟨rfl, rfl, rfl, Nat.le_refl _, fun _ _ => rfl⟩ : Grow w5 w5.drew) (by rw [← eX]; exact (Grow.refl _).alloc _)
      have hbX : X.heap[w5.heap.size]? = some (.cells #[.int .i64 x.1.1, .slice lo x.1.2.length lc, .int .i64 x.2.1, .bool x.2.2] 96 (0, 0)) := by rw [← eX]; exact heap_alloc_new _ _
      have hrowX : X.ownsRow B 96 4 (.slice vo K.length vc) K.length (kepC ps) := own_keep hrow5 fun g hg => hGX.block g (hrow5.lt g hg).2
      have hatX := hGX.get hat5
      have hBX : B ≤ X.heap.size := by have := HK5.out.size; have := hGX.size; omega
      have mixed : Tryz.prog.follows .mixedOrders = true := by kernel_rfl
      have q0' : w5.drew.cell? ⟨w.heap.size, 0, none⟩ = some (.int .i64 x.1.1) := q0
      have q1' : w5.drew.cell? ⟨w.heap.size, 1, none⟩ = some (.slice lo x.1.2.length lc) := q1
      have q2' : w5.drew.cell? ⟨w.heap.size, 2, none⟩ = some (.int .i64 x.2.1) := q2
      have q3' : w5.drew.cell? ⟨w.heap.size, 3, none⟩ = some (.bool x.2.2) := q3
      have c0' : w5.drew.cell? ⟨b, 0, none⟩ = some (.slice vo K.length vc) := c0
      have x0 : X.cell? ⟨b, 0, none⟩ = some (.slice vo K.length vc) := (three_of hatX).1
      clear q0 q1 q2 q3 c0 c1 c2
      go_region_law_o (refine step_app_atR rfl _ _ 86 rfl B 96 k0 _ 4 48 Tryz.underlying86 hinf hz0 hz1 hz2 rfl (by decide) _ K.length (kepC ps) (by simp [Act.eval, Act.put]) hrowX ⟨w5.heap.size, 0, none⟩ 1 1 [.int .i64 x.1.1, .slice lo x.1.2.length lc, .int .i64 x.2.1, .bool x.2.2] (by simp [Act.eval, Act.put]) rfl (World.news_of_block hbX) (by simp [Value.oneCell']) (by unfold maxLen; omega) (by omega) hBX ?_; intro v6 w6 hown6 hg6 hat6; obtain ⟨o6, c6, hv6⟩ := own_shape hown6; subst hv6; have hb6 := grown_block hg6 hatX (own_apart hrowX hatX (by decide)); have cc6 := (three_of hb6).1; have zz6 : w6.frozen? ⟨b, 0, none⟩ = false := by simp only [World.frozen?, hb6]; rfl)
      all_goals (
        have HO6 := hide hown6
        have HGR6 := hide hg6
        have HAT6 := hide hat6
        have HB6 := hide hb6
        have HRX := hide hrowX
        have HGX := hide hGX
        have HM15 := hide hm15
        have HM25 := hide hown5
        clear hown6 hg6 hat6 hb6 hrowX hGX hm15 hown5 cc6 zz6 q0' q1' q2' q3' c0' x0 hbX eX hatX hat5 hrow5 hrow4 hgrow5 hm24 htb hw5 hk5
        go_wp2
        go_end0
        have hkF : KeptR F W (w6.setCell ⟨b, 0, none⟩ (.slice o6 (K.length + 1) c6)) := ((HK5.out.trans (KeptR.grow HGX.out)).trans (KeptR.grownRow HRX.out HGR6.out (fun g hg => HP2.out.fv g hg))).trans (KeptR.setMem HB6.out (.inr (.inl rfl)) HP2.out.fb _)
        refine ⟨rfl, ⟨.slice o6 (K.length + 1) c6, mb, tb, ps ++ [(x, .slice lo x.1.2.length lc)], _, _, ?_, setAt HB6.out _, ?_, ?_, ?_, HP2.out.ne, HP2.out.fb, HP2.out.f1, HP2.out.f2, fun g hg => ?_, HD1.out, HD2.out, fun p hp => ?_, ?_⟩, HGW.out.trans hkF⟩
        · rw [List.map_append, HP2.out.kept]; rfl
        · rw [kepC_append, List.length_append]
          exact ownsRow_setCell_other HO6.out (own_apart HO6.out HB6.out (by decide)) _
        · rw [List.length_append]
          exact ((HM15.out.kept (grownG HGX.out) (by simp)).kept HGR6.out (fun e => by
            obtain ⟨es, ck, hmb, _⟩ := HM15.out.kept (grownG HGX.out) (row := none) (by simp)
            exact row_map HRX.out hmb e.symm)).setCell (fun e => hbm (by simpa using e.symm)) _
        · rw [List.length_append]
          exact ((HM25.out.kept (grownG HGX.out) (by simp)).kept HGR6.out (fun e => by
            obtain ⟨es, ck, hmb, _⟩ := HM25.out.kept (grownG HGX.out) (row := none) (by simp)
            exact row_map HRX.out hmb e.symm)).setCell (fun e => hbt (by simpa using e.symm)) _
        · rcases HAT6.out with h | h
          · exact HP2.out.fv g (by rw [← h]; exact hg)
          · rw [h] at hg
            have := HK5.out.size
            have := HGX.out.size
            obtain rfl : X.heap.size = g := by simpa using hg
            exact hF _ (by omega)
        · rcases List.mem_append.1 hp with hp | hp
          · exact (HP.out.labs p hp).keep (hkF.mono hFB)
          · simp at hp; subst hp; exact HV.out.keep (hkF.mono hFB)
        · rw [List.length_append]; simp; omega)
end Go.Proofs.YtkaeogldielkfaaGreat.Rc
