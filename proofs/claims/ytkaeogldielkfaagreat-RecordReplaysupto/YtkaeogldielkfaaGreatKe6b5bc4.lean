/- 1 texts in one. -/
import Derived.Laws.OwnMore
import Derived.Maps.AppendAt
import Derived.Shelf.RegionOpenPlain
import Derived.Test.YtkaeogldielkfaaGreatProg
import Derived.Test.YtkaeogldielkfaaGreatKabe2b5f
import Derived.WalkKit
import Derived.Test.YtkaeogldielkfaaGreatKa96aaab
import Derived.Test.YtkaeogldielkfaaGreatKa7e3600
import Derived.Test.YtkaeogldielkfaaGreatK382d20d
import Derived.Test.YtkaeogldielkfaaGreatKd1f2bd3
import Derived.Test.YtkaeogldielkfaaGreatK6683a6f
import Derived.Test.YtkaeogldielkfaaGreatKfb00f3c
import Derived.Test.YtkaeogldielkfaaGreatK7731767
import Derived.Test.YtkaeogldielkfaaGreatK6ad0561
import Derived.Test.YtkaeogldielkfaaGreatKe935582
import Derived.Test.YtkaeogldielkfaaGreatK2b58751
import Derived.BigQuiet
set_option linter.unusedVariables false
set_option linter.unusedSimpArgs false
namespace Go.Proofs.YtkaeogldielkfaaGreat.Rc
open Go.RowKit Go.Maps Go.Shelf Lb Lg
attribute [local go_sem] bs_size bs_toList bs_append bs_get bs_extract
/-- While the three rows are copied. -/
def begJ (w0 : World) (n : Nat) (xr xl xh : List Value) (l0 : Bool) (v0 : Value) (l3 : Bool) (v3 : Value) (l4 : Bool) (v4 : Value) (l7 : Bool) (v7 : Value) (l8 : Bool) (v8 : Value) (l11 : Bool) (v11 : Value) (l12 : Bool) (v12 : Value) (l13 : Bool) (v13 : Value) (w' : World) : Prop :=
  Grow w0 w' ∧ rowJ w0 w' 59 2 l0 v0 l3 v3 n xr ∧ rowJ w0 w' 3 1 l4 v4 l7 v7 n xl ∧ rowJ w0 w' 4 1 l8 v8 l11 v11 n xh ∧
  (l12 = true → v12 = .agg #[v3, v7, v11]) ∧
  (l13 = true → ∃ p, v13 = .pointer (some ⟨p, 0, none⟩) ∧ w0.heap.size ≤ p ∧ w'.heap[p]? = some (.cells #[.slice none 0 0, .slice none 0 0, .slice none 0 0] 26 (0, 0)))
/-- What the document's learning answers. -/
def AnsL (S : Value → List Lab → Prop) (w w' : World) (xr xl xh : Value) (E : Nat) : Option (List Kp) → Prop
  | some D' => E = 0 ∧ ∃ qs, LK S w w.heap.size w' xr xl xh qs D'
  | none => E ≠ 0 ∧ xr = .slice none 0 0 ∧ xl = .slice none 0 0 ∧ xh = .slice none 0 0
theorem grow_set3 {w W : World} {b : Nat} (h : Grow w W) (hb : w.heap.size ≤ b) (x y z : Value) : Grow w (((W.setCell ⟨b, 0, none⟩ x).setCell ⟨b, 1, none⟩ y).setCell ⟨b, 2, none⟩ z) := Below.setCell (Below.setCell (Below.setCell h hb _) hb _) hb _
set_option maxRecDepth 20000 in
set_option maxHeartbeats 4000000 in
theorem learnOf_any (S : Value → List Lab → Prop) (w : World) (vr vl vh ur up : Value) (ps : List (Int × Value)) (D : List Kp) (r : Rcd) (hK : LK S w 0 w vr vl vh ps D) (hD : Dist D) (hri : rightM D) (hrise : riseK D) (hn : D.length ≤ 1000)
    (hr : readsRefs w w.heap.size ur r.refs) (hp : readsPoints w w.heap.size up r.points) (hor : okRec r) (he : recErr r = 0)
    (hS : ∀ b o n c, ur = .slice (some ⟨b, o, none⟩) n c → ∀ i (h : i < r.refs.length) xv, w.cell? ⟨b, o + i * 2 + 1, none⟩ = some xv → S xv r.refs[i].2) :
    Calls Tryz.prog 10 #[.agg #[vr, vl, vh], .agg #[.int .i64 r.kind, ur, up]] w fun e w' => ∃ (E : Nat) (xr xl xh : Value), e = .returned (.tuple #[.agg #[xr, xl, xh], .int .i64 E]) ∧ Grow w w' ∧
      AnsL S w w' xr xl xh E (learnOfR D r) := by
  obtain ⟨ro, rc, hvr⟩ := own_shape hK.r
  obtain ⟨lo, lc, hvl⟩ := own_shape hK.l
  obtain ⟨bo, bc, hvh⟩ := own_shape hK.h
  subst hvr hvl hvh
  obtain ⟨uo, uc, rfl, hrd⟩ := id hr
  obtain ⟨po, pc, rfl, hpd⟩ := id hp
  obtain ⟨V1, e1, g1, b1⟩ := laid_at w #[.slice ro D.length rc, .slice lo D.length lc, .slice bo D.length bc] 26
  obtain ⟨V2, e2, g2, b2⟩ := laid_at V1 #[.int .i64 r.kind, .slice uo r.refs.length uc, .slice po r.points.length pc] 29
  obtain ⟨V3, e3, g3, b3⟩ := laid_at V2 #[.slice none 0 0, .slice none 0 0, .slice none 0 0] 26
  have s1 : V1.heap.size = w.heap.size + 1 := by rw [← e1]; simp
  have s2 : V2.heap.size = w.heap.size + 1 + 1 := by rw [← e2]; simp [s1]
  rw [s1] at b2
  rw [s2] at b3
  have HB1 := hide ((g2.trans g3).get b1)
  have HB2 := hide (g3.get b2)
  have HB3 := hide b3
  have HG3 : Hid (Grow w V3) := hide (g1.trans (g2.trans g3))
  have HK := hide hK
  have HKV := hide (hK.grow HG3.out)
  have HRD := hide hrd
  have HS := hide hS
  have HPD := hide hpd
  have HD := hide hD
  have HRI := hide hri
  have HRS := hide hrise
  have HOR := hide hor
  have HE := hide he
  have HS3 : Hid (V3.heap.size = w.heap.size + 1 + 1 + 1) := hide (by rw [← e3]; simp [s2])
  obtain ⟨i1, hin1, hx0, hx1, hx2⟩ := info_parts infoRefK
  obtain ⟨i2, hin2, hy0, hy1, hy2⟩ := info_parts infoIntK
  obtain ⟨i3, hin3, hz0, hz1, hz2⟩ := info_parts infoBoolK
  clear hS hK hD hri hrise hr hp hor he hrd hpd b1 b2 b3 g1 g2 g3
  go_enter Tryz.func10, Tryz.ntmps10
  go_wp2
  refine wp_region_state 14 185 mixedR rfl (by decide +kernel) (fun L vals w' => begJ V3 D.length (refCells ps) (intsV (D.map (·.2.1))) (boolsV (D.map (·.2.2))) (L 0) (vals 0) (L 3) (vals 3) (L 4) (vals 4) (L 7) (vals 7) (L 8) (vals 8) (L 11) (vals 11) (L 12) (vals 12) (L 13) (vals 13) w')
    (fun L vals h => ?_)
    (fun j v => match j with
      | 1 => v = .pointer (some ⟨w.heap.size, 0, none⟩)
      | 2 => v = .slice ro D.length rc
      | 5 => v = .pointer (some ⟨w.heap.size, 1, none⟩)
      | 6 => v = .slice lo D.length lc
      | 9 => v = .pointer (some ⟨w.heap.size, 2, none⟩)
      | 10 => v = .slice bo D.length bc
      | _ => True)
    (fun _ _ => False) (fun _ _ _ _ h => h.elim) (fun j hj oo ho a w2 L vals hLi hLc hLe hJ hoff hval hdep => ?_) (fun vals w2 L hL hJ hvals => ?_)
  · simp only [h]
    exact ⟨⟨rfl, rfl, rfl, Nat.le_refl _, fun _ _ => rfl⟩, ⟨(fun h => by cases h), (fun h => by cases h)⟩, ⟨(fun h => by cases h), (fun h => by cases h)⟩, ⟨(fun h => by cases h), (fun h => by cases h)⟩, (fun h => by cases h), (fun h => by cases h)⟩
  · have hJ0 := hJ
    obtain ⟨hg, jR, jL, jH, j12, j13⟩ := id hJ
    obtain ⟨c0, c1, c2⟩ := three_of (hg.get HB1.out)
    have hsz := hg.size
    have hKw := HKV.out.grow hg
    have hno : ∀ a b : Nat, b ∈ edgesB _ a → L b = false → L a = false := fun a b hab hb => by
      cases h : L a with
      | false => rfl
      | true => have := hLc a h b hab; rw [hb] at this; cases this
    match j, hj with
    | 0, _ =>
      obtain rfl := Option.some.inj ho
      have h3 := hno 3 0 (by decide +kernel) hLi
      simp [opYields, go_sem]
      have hga : Grow w2 (w2.alloc (.cells #[] 59)) := (Grow.refl _).alloc _
      refine ⟨hg.trans hga, ⟨fun _ _ => ⟨rfl, .inr ⟨_, 0, #[], rfl, hsz, heap_alloc_new _ _, Nat.le_refl _, Nat.zero_le _, rfl, rfl⟩⟩, fun a => (jR.grow hga).2 a⟩, jL.grow hga, jH.grow hga, j12, fun a => ?_⟩
      obtain ⟨p, t1, t2, t3⟩ := j13 a
      exact ⟨p, t1, t2, hga.get t3⟩
    | 1, _ =>
      obtain rfl := Option.some.inj ho
      have o2 := hoff 2 (by decide +kernel)
      simp at o2
      simp [opYields, go_sem, o2]
      exact hJ
    | 2, _ =>
      obtain rfl := Option.some.inj ho
      have d1 := hdep 1 (by decide +kernel)
      simp [slotOf, dstOf] at d1
      simp [opYields, go_sem, d1, c0]
      exact hJ
    | 3, _ =>
      have h12 := hno 12 3 (by decide +kernel) hLi
      obtain rfl := Option.some.inj ho
      have h0 := hLe 0 (by decide +kernel)
      have d0 := hval 0 (by decide +kernel)
      have d2 := hdep 2 (by decide +kernel)
      simp [slotOf, dstOf] at d0 d2
      have hrow := jR.1 h0 hLi
      obtain ⟨v', w', q1, q2, q3⟩ := run_app_own (P := Tryz.prog) w2 V3.heap.size 22 22 59 i1 _ 2 32 Tryz.underlying22 hin1 hx0 hx1 hx2 rfl (by decide) _ 0 [] hrow _ _ _ _ hKw.r (LK.oneR HK.out) (by unfold maxLen; omega) (by omega) hsz
      refine yields_append rfl (.tmp 14) (.tmp 16) _ _ rfl (v1 := vals 0) (v2 := .slice ro D.length rc) (by simpa [Act.eval] using d0) (by simpa [Act.eval] using d2) q1 ⟨⟨grown_own hg hrow q3, rowJ.app (by simpa using q2) rfl, jL.other hrow (by decide) q3, jH.other hrow (by decide) q3, fun a => absurd (show L 12 = true from a) (by rw [h12]; simp), fun a => ?_⟩, trivial⟩
      obtain ⟨p, t1, t2, t3⟩ := j13 a
      exact ⟨p, t1, t2, grown_block q3 t3 (own_apart hrow t3 (by decide))⟩
    | 4, _ =>
      obtain rfl := Option.some.inj ho
      have h7 := hno 7 4 (by decide +kernel) hLi
      simp [opYields, go_sem]
      have hga : Grow w2 (w2.alloc (.cells #[] 3)) := (Grow.refl _).alloc _
      refine ⟨hg.trans hga, jR.grow hga, ⟨fun _ _ => ⟨rfl, .inr ⟨_, 0, #[], rfl, hsz, heap_alloc_new _ _, Nat.le_refl _, Nat.zero_le _, rfl, rfl⟩⟩, fun a => (jL.grow hga).2 a⟩, jH.grow hga, j12, fun a => ?_⟩
      obtain ⟨p, t1, t2, t3⟩ := j13 a
      exact ⟨p, t1, t2, hga.get t3⟩
    | 5, _ =>
      obtain rfl := Option.some.inj ho
      have o2 := hoff 2 (by decide +kernel)
      simp at o2
      simp [opYields, go_sem, o2]
      exact hJ
    | 6, _ =>
      obtain rfl := Option.some.inj ho
      have d5 := hdep 5 (by decide +kernel)
      simp [slotOf, dstOf] at d5
      simp [opYields, go_sem, d5, c1]
      exact hJ
    | 7, _ =>
      have h12 := hno 12 7 (by decide +kernel) hLi
      obtain rfl := Option.some.inj ho
      have h0 := hLe 4 (by decide +kernel)
      have d0 := hval 4 (by decide +kernel)
      have d2 := hdep 6 (by decide +kernel)
      simp [slotOf, dstOf] at d0 d2
      have hrow := jL.1 h0 hLi
      obtain ⟨v', w', q1, q2, q3⟩ := run_app_own (P := Tryz.prog) w2 V3.heap.size 23 23 3 i2 _ 1 8 Tryz.underlying23 hin2 hy0 hy1 hy2 rfl (by decide) _ 0 [] hrow _ _ _ _ hKw.l (fun y hy => by unfold intsV at hy; obtain ⟨z, _, rfl⟩ := List.mem_map.1 hy; rfl) (by unfold maxLen; omega) (by omega) hsz
      refine yields_append rfl (.tmp 18) (.tmp 20) _ _ rfl (v1 := vals 4) (v2 := .slice lo D.length lc) (by simpa [Act.eval] using d0) (by simpa [Act.eval] using d2) q1 ⟨⟨grown_own hg hrow q3, jR.other hrow (by decide) q3, rowJ.app (by simpa using q2) rfl, jH.other hrow (by decide) q3, fun a => absurd (show L 12 = true from a) (by rw [h12]; simp), fun a => ?_⟩, trivial⟩
      obtain ⟨p, t1, t2, t3⟩ := j13 a
      exact ⟨p, t1, t2, grown_block q3 t3 (own_apart hrow t3 (by decide))⟩
    | 8, _ =>
      obtain rfl := Option.some.inj ho
      have h7 := hno 11 8 (by decide +kernel) hLi
      simp [opYields, go_sem]
      have hga : Grow w2 (w2.alloc (.cells #[] 4)) := (Grow.refl _).alloc _
      refine ⟨hg.trans hga, jR.grow hga, jL.grow hga, ⟨fun _ _ => ⟨rfl, .inr ⟨_, 0, #[], rfl, hsz, heap_alloc_new _ _, Nat.le_refl _, Nat.zero_le _, rfl, rfl⟩⟩, fun a => (jH.grow hga).2 a⟩, j12, fun a => ?_⟩
      obtain ⟨p, t1, t2, t3⟩ := j13 a
      exact ⟨p, t1, t2, hga.get t3⟩
    | 9, _ =>
      obtain rfl := Option.some.inj ho
      have o2 := hoff 2 (by decide +kernel)
      simp at o2
      simp [opYields, go_sem, o2]
      exact hJ
    | 10, _ =>
      obtain rfl := Option.some.inj ho
      have d9 := hdep 9 (by decide +kernel)
      simp [slotOf, dstOf] at d9
      simp [opYields, go_sem, d9, c2]
      exact hJ
    | 11, _ =>
      have h12 := hno 12 11 (by decide +kernel) hLi
      obtain rfl := Option.some.inj ho
      have h0 := hLe 8 (by decide +kernel)
      have d0 := hval 8 (by decide +kernel)
      have d2 := hdep 10 (by decide +kernel)
      simp [slotOf, dstOf] at d0 d2
      have hrow := jH.1 h0 hLi
      obtain ⟨v', w', q1, q2, q3⟩ := run_app_own (P := Tryz.prog) w2 V3.heap.size 24 24 4 i3 _ 1 1 Tryz.underlying24 hin3 hz0 hz1 hz2 rfl (by decide) _ 0 [] hrow _ _ _ _ hKw.h (fun y hy => by unfold boolsV at hy; obtain ⟨z, _, rfl⟩ := List.mem_map.1 hy; rfl) (by unfold maxLen; omega) (by omega) hsz
      refine yields_append rfl (.tmp 22) (.tmp 24) _ _ rfl (v1 := vals 8) (v2 := .slice bo D.length bc) (by simpa [Act.eval] using d0) (by simpa [Act.eval] using d2) q1 ⟨⟨grown_own hg hrow q3, jR.other hrow (by decide) q3, jL.other hrow (by decide) q3, rowJ.app (by simpa using q2) rfl, fun a => absurd (show L 12 = true from a) (by rw [h12]; simp), fun a => ?_⟩, trivial⟩
      obtain ⟨p, t1, t2, t3⟩ := j13 a
      exact ⟨p, t1, t2, grown_block q3 t3 (own_apart hrow t3 (by decide))⟩
    | 12, _ =>
      obtain rfl := Option.some.inj ho
      have h3 := hLe 3 (by decide +kernel)
      have h7 := hLe 7 (by decide +kernel)
      have h11 := hLe 11 (by decide +kernel)
      have d3 := hval 3 (by decide +kernel)
      have d7 := hval 7 (by decide +kernel)
      have d11 := hval 11 (by decide +kernel)
      obtain ⟨a1, b1, f1⟩ := own_shape (jR.2 h3)
      obtain ⟨a2, b2, f2⟩ := own_shape (jL.2 h7)
      obtain ⟨a3, b3, f3⟩ := own_shape (jH.2 h11)
      simp [slotOf, dstOf] at d3 d7 d11
      rw [f1] at d3
      rw [f2] at d7
      rw [f3] at d11
      simp [opYields, go_sem, d3, d7, d11]
      exact ⟨hg, jR, jL, jH, fun _ => (by rw [f1, f2, f3]), j13⟩
    | 13, _ =>
      obtain rfl := Option.some.inj ho
      simp [opYields, go_sem]
      have hga : Grow w2 (w2.alloc (.cells #[.slice none 0 0, .slice none 0 0, .slice none 0 0] 26)) := (Grow.refl _).alloc _
      exact ⟨hg.trans hga, jR.grow hga, jL.grow hga, jH.grow hga, j12, fun _ => ⟨_, rfl, hsz, heap_alloc_new _ _⟩⟩
    | k + 14, h => exact absurd h (by omega)
  · obtain ⟨hg, jR, jL, jH, j12, j13⟩ := hJ
    have hR := jR.2 (hL 3 (by omega))
    have hLr := jL.2 (hL 7 (by omega))
    have hH := jH.2 (hL 11 (by omega))
    have v12 := j12 (hL 12 (by omega))
    obtain ⟨b, v13, hbb, hb⟩ := j13 (hL 13 (by omega))
    obtain ⟨a1, e1, f1⟩ := own_shape hR
    obtain ⟨a2, e2, f2⟩ := own_shape hLr
    obtain ⟨a3, e3, f3⟩ := own_shape hH
    rw [f1, f2, f3] at v12
    rw [f1] at hR
    rw [f2] at hLr
    rw [f3] at hH
    clear hvals hL
    simp [over, dstOf, Act.put, v12, v13, f1, f2, f3]
    have hLK : LK S w V3.heap.size w2 (.slice a1 D.length e1) (.slice a2 D.length e2) (.slice a3 D.length e3) ps D := ⟨hR, hLr, hH, HK.out.len, HK.out.labs⟩
    have HLO := hide (LO.start hg hbb hLK hb)
    obtain ⟨m0, m1, m2⟩ := three_of hb
    have z0 : w2.frozen? ⟨b, 0, none⟩ = false := by simp only [World.frozen?, hb]; rfl
    have z1 : w2.frozen? ⟨b, 1, none⟩ = false := by simp only [World.frozen?, hb]; rfl
    have z2 : w2.frozen? ⟨b, 2, none⟩ = false := by simp only [World.frozen?, hb]; rfl
    have HGO : Hid (learnOfR D r = (refsGo D r.refs).bind fun D' => pntsGo D' r.points) := hide rfl
    obtain ⟨hk0, hrl, hpl, hro, hpo⟩ := recErr_zero HE.out
    have HRO := hide hro
    have HPO := hide hpo
    clear hg jR jL jH j12 j13 hR hLr hH v12 v13 hb f1 f2 f3 hLK hro hpo hk0
    go_wp2
    go_loopw [7] (fun x7 wr => ∃ (i : Nat) (vR vL vH : Value) (qs : List (Int × Value)) (F : List Kp), i ≤ r.refs.length ∧ x7 = .int .i64 i ∧ Hid (LO S w V3 wr b vR vL vH qs F) ∧ Hid (Dist F ∧ rightM F ∧ riseK F ∧ F.length ≤ 1000) ∧ Hid (refsGo D r.refs = refsGo F (r.refs.drop i))) (fun x7 _ => r.refs.length - (intOf x7).toNat)
    case atStart => exact ⟨0, _, _, _, ps, D, by omega, rfl, HLO, hide ⟨HD.out, HRI.out, HRS.out, hn⟩, hide rfl⟩
    case round =>
      obtain ⟨i, vR, vL, vH, qs, F, hi, rfl, HJ, HF, HGF⟩ := hrel
      rename World => wr
      obtain ⟨ro', rc', hvR⟩ := own_shape HJ.out.k.r
      obtain ⟨lo', lc', hvL⟩ := own_shape HJ.out.k.l
      obtain ⟨bo', bc', hvH⟩ := own_shape HJ.out.k.h
      subst hvR hvL hvH
      have hgw : Grow w wr := HG3.out.trans HJ.out.gr
      obtain ⟨r0, r1, r2⟩ := three_of (HJ.out.gr.get HB2.out)
      obtain ⟨k0, k1, k2⟩ := three_of HJ.out.at'
      by_cases hlt : i < r.refs.length
      · have hlti : (i : Int) < (r.refs.length : Int) := by omega
        obtain ⟨xb, xo, xv, rfl, hxb, hxl, x0, x1⟩ := HRD.out i hlt
        have hxs := HS.out xb xo _ _ rfl i hlt xv x1
        have y0 := (hgw.cell (p := ⟨xb, xo + i * 2, none⟩) hxb).trans x0
        have y1 := (hgw.cell (p := ⟨xb, xo + i * 2 + 1, none⟩) hxb).trans x1
        have hdr : r.refs.drop i = r.refs[i] :: r.refs.drop (i + 1) := List.drop_eq_getElem_cons hlt
        have hxe := HRO.out _ (List.getElem_mem hlt)
        obtain ⟨x, HX⟩ : ∃ x, Hid (r.refs[i] = x) := ⟨_, hide rfl⟩
        rw [HX.out] at y0 hxl hdr hxe hxs
        have HXS := hide hxs
        have HXE := hide hxe
        have HXL := hide hxl
        have HDR := hide hdr
        obtain ⟨ao4, cp4, hxv⟩ := readsLabels_len hxl
        subst hxv
        clear hxs
        obtain ⟨V4, e4, g4, b4⟩ := laid_at wr #[.int .i64 x.1, .slice ao4 x.2.length cp4] 59
        have HJ4 := hide (HJ.out.grow g4)
        have HB4 := hide b4
        have HGw := hide (hgw.trans g4)
        obtain ⟨x40, x41⟩ := two_of b4
        have HRA := hide (refAt_any V4 _ lo' F.length lc' bo' F.length bc' _ x.1 (HJ4.out.k.reads HGw.out).1 (by simp [knwOf]; have := HF.out.2.2.2; omega))
        obtain ⟨n0, n1, n2⟩ := three_of HJ4.out.at'
        clear x0 x1 hdr hxe hxl g4 b4 hgw
        go_wp2_with fail
        refine HRA.out.mono ?_
        rintro e w5 ⟨rfl, hg5⟩
        have HJ5 := hide (HJ4.out.grow hg5)
        have HB5 := hide ((show Grow V4 w5 from hg5).get HB4.out)
        have HG5 := hide (HGw.out.trans hg5)
        clear hg5 HRA n0 n1 n2 x40 x41 k0 k1 k2 y0 y1 r0 r1 r2 e4
        rcases refAt_know HF.out.1 x with ⟨a, ha, hea, hra⟩ | ⟨hna, hra⟩
        · rw [hra]
          obtain ⟨gr, cr, vx, gl, cl, gh, ch, hv1, hv2, hv3, -, -, -, hgrs, -, -, q0, q1, hqx, -, -⟩ := HJ5.out.k.at ha
          obtain ⟨rfl, rfl⟩ : ro' = some ⟨gr, 0, none⟩ ∧ rc' = cr := by simpa using hv1
          obtain ⟨n0, n1, n2⟩ := three_of HJ5.out.at'
          obtain ⟨x40, x41⟩ := two_of HB5.out
          obtain ⟨_, _, hckx⟩ := refErr_zero HXE.out
          obtain ⟨_, _, hcka⟩ := refErr_zero (HF.out.2.1 _ (List.getElem_mem ha))
          have hlx := (check_small hckx).1
          have hla := (check_small hcka).1
          have HSL : Hid (∀ q, Calls Tryz.prog 30 #[vx, .slice ao4 x.2.length cp4] (w5.drewN q) fun e w' => e = .returned (.bool (decide (F[a].1.2 = x.2))) ∧ ∃ n, w' = (w5.drewN q).drewN n) := hide fun q => sameLabels_any _ _ _ _ _ (readsLabels_mono (readsLabels_below hqx (HG5.out.trans (grow_drewR _ q))) (HG5.out.trans (grow_drewR _ q)).size) (readsLabels_mono (readsLabels_below HXL.out (HG5.out.trans (grow_drewR _ q))) (HG5.out.trans (grow_drewR _ q)).size) (by omega) (by omega)
          obtain ⟨vxo, vxc, hvx⟩ := readsLabels_len hqx
          subst hvx
          have hge : (0 : Int) ≤ (a : Int) := by omega
          have hges : decide ((0 : Int) ≤ (a : Int)) = true := decide_eq_true hge
          have hai : (a : Int) < (F.length : Int) := by omega
          have hFl := HF.out.2.2.2
          by_cases heq : F[a].1.2 = x.2
          · rw [decide_eq_true heq] at HSL
            have HST : Hid (refsGo D r.refs = refsGo F (r.refs.drop (i + 1))) := hide (by
              rw [HGF.out, HDR.out]
              show (refStep F x).bind _ = _
              unfold refStep
              rw [if_pos (knowsR_mem.2 (List.mem_map.2 ⟨F[a], List.getElem_mem ha, Prod.ext hea heq⟩))]
              rfl)
            clear heq hckx hcka hqx hv1 hv2 hv3
            go_wp2
            go_quiet ((go_at_call 30; exact Calls.quiet_of (HSL.out _)))
            go_wp2
            go_roundw
            case rel => exact ⟨i + 1, _, _, _, qs, F, by omega, by go_num, hide (HJ5.out.grow (grow_drewR _ _)), HF, HST⟩
            case measure => simp [intOf]; omega
          · rw [decide_eq_false heq] at HSL
            have HNI := hide (not_in_of HF.out.1 ha hea heq)
            clear heq hckx hcka hqx hv1 hv2 hv3
            go_wp2
            go_quiet ((go_at_call 30; exact Calls.quiet_of (HSL.out _)))
            go_wp2
            go_loopw [10] (fun x10 wl => ∃ j : Nat, j ≤ F.length ∧ x10 = .int .i64 j ∧ Hid (LO S w V3 wl b (.slice (some ⟨gr, 0, none⟩) F.length rc') (.slice lo' F.length lc') (.slice bo' F.length bc') qs F) ∧ Hid (wl.heap[wr.heap.size]? = some (.cells #[.int .i64 x.1, .slice ao4 x.2.length cp4] 59 (0, 0))) ∧ Hid (∀ k (hk : k < F.length), k < j → F[k].1.2 ≠ x.2)) (fun x10 _ => F.length - (intOf x10).toNat)
            case atStart => exact ⟨0, by omega, rfl, hide (HJ5.out.grow (grow_drewR _ _)), hide ((grow_drewR _ _).get HB5.out), hide fun k hk h => by omega⟩
            case round =>
              obtain ⟨j, hj, rfl, HL, HLB, HLN⟩ := hrel
              rename World => wl
              obtain ⟨n0, n1, n2⟩ := three_of HL.out.at'
              obtain ⟨x40, x41⟩ := two_of HLB.out
              have hb3l := HL.out.gr.get HB3.out
              obtain ⟨o0, o1, o2⟩ := three_of hb3l
              have z0 : wl.frozen? ⟨w.heap.size + 1 + 1, 0, none⟩ = false := by simp only [World.frozen?, hb3l]; rfl
              have z1 : wl.frozen? ⟨w.heap.size + 1 + 1, 1, none⟩ = false := by simp only [World.frozen?, hb3l]; rfl
              have z2 : wl.frozen? ⟨w.heap.size + 1 + 1, 2, none⟩ = false := by simp only [World.frozen?, hb3l]; rfl
              have HGl : Hid (Grow w wl) := hide (HG3.out.trans HL.out.gr)
              by_cases hjl : j < F.length
              · obtain ⟨gj, cj, vj, _, _, _, _, hw1, -, -, -, -, -, -, -, -, j0, j1, hjx, -, -⟩ := HL.out.k.at hjl
                obtain ⟨rfl, rfl⟩ : gr = gj ∧ rc' = cj := by simpa using hw1
                obtain ⟨_, _, hckx⟩ := refErr_zero HXE.out
                obtain ⟨_, _, hckj⟩ := refErr_zero (HF.out.2.1 _ (List.getElem_mem hjl))
                have hlx := (check_small hckx).1
                have hlj := (check_small hckj).1
                have HSJ : Hid (∀ q, Calls Tryz.prog 30 #[vj, .slice ao4 x.2.length cp4] (wl.drewN q) fun e w' => e = .returned (.bool (decide (F[j].1.2 = x.2))) ∧ ∃ n, w' = (wl.drewN q).drewN n) := hide fun q => sameLabels_any _ _ _ _ _ (readsLabels_mono (readsLabels_below hjx (HGl.out.trans (grow_drewR _ q))) (HGl.out.trans (grow_drewR _ q)).size) (readsLabels_mono (readsLabels_below HXL.out (HGl.out.trans (grow_drewR _ q))) (HGl.out.trans (grow_drewR _ q)).size) (by omega) (by omega)
                obtain ⟨vjo, vjc, hvj⟩ := readsLabels_len hjx
                subst hvj
                have hji : (j : Int) < (F.length : Int) := by omega
                have hFl := HF.out.2.2.2
                by_cases heq : F[j].1.2 = x.2
                · rw [decide_eq_true heq] at HSJ
                  have HNO : Hid (learnOfR D r = none) := hide (learnOf_none (by rw [HGF.out, HDR.out]) (refStep_two HNI.out ⟨F[j], List.getElem_mem hjl, .inr heq⟩))
                  clear heq hckx hckj hjx hw1
                  go_wp2
                  go_quiet ((go_at_call 30; exact Calls.quiet_of (HSJ.out _)))
                  go_wp2
                  refine bodyPost_ret (v := .tuple #[.agg #[.slice none 0 0, .slice none 0 0, .slice none 0 0], .int .i64 6]) (by simp [results, Tryz.results10, go_sem, o0, o1, o2]) rfl ?_
                  exact ⟨6, _, _, _, rfl, grow_set3 (HGl.out.trans (grow_drewR _ _)) (by omega) _ _ _, by rw [HNO.out]; exact ⟨(by decide : (6 : Nat) ≠ 0), rfl, rfl, rfl⟩⟩
                · rw [decide_eq_false heq] at HSJ
                  have HNE := hide heq
                  clear heq hckx hckj hjx hw1
                  go_wp2
                  go_quiet ((go_at_call 30; exact Calls.quiet_of (HSJ.out _)))
                  go_wp2
                  go_roundw
                  case rel => exact ⟨j + 1, by omega, by go_num, hide (HL.out.grow (grow_drewR _ _)), hide ((grow_drewR _ _).get HLB.out), hide fun k hk h => by
                    by_cases e : k = j
                    · subst e; exact HNE.out
                    · exact HLN.out k hk (by omega)⟩
                  case measure => simp [intOf]; omega
              · obtain rfl : j = F.length := by omega
                have HNO : Hid (learnOfR D r = none) := hide (learnOf_none (by rw [HGF.out, HDR.out]) (refStep_two HNI.out ⟨F[a], List.getElem_mem ha, .inl hea⟩))
                go_wp2
                refine bodyPost_ret (v := .tuple #[.agg #[.slice none 0 0, .slice none 0 0, .slice none 0 0], .int .i64 6]) (by simp [results, Tryz.results10, go_sem, o0, o1, o2]) rfl ?_
                exact ⟨6, _, _, _, rfl, grow_set3 HGl.out (by omega) _ _ _, by rw [HNO.out]; exact ⟨(by decide : (6 : Nat) ≠ 0), rfl, rfl, rfl⟩⟩
        · rw [hra]
          obtain ⟨n0, n1, n2⟩ := three_of HJ5.out.at'
          obtain ⟨x40, x41⟩ := two_of HB5.out
          have HNA := hide hna
          have hng : decide ((0 : Int) ≤ -1) = false := by decide
          have hFl := HF.out.2.2.2
          clear hna
          go_wp2
          go_quiet (fail)
          go_wp2
          go_loopw [10] (fun x10 wl => ∃ j : Nat, j ≤ F.length ∧ x10 = .int .i64 j ∧ Hid (LO S w V3 wl b (.slice ro' F.length rc') (.slice lo' F.length lc') (.slice bo' F.length bc') qs F) ∧ Hid (wl.heap[wr.heap.size]? = some (.cells #[.int .i64 x.1, .slice ao4 x.2.length cp4] 59 (0, 0))) ∧ Hid (∀ k (hk : k < F.length), k < j → F[k].1.2 ≠ x.2)) (fun x10 _ => F.length - (intOf x10).toNat)
          case atStart => exact ⟨0, by omega, rfl, hide (HJ5.out.grow (grow_drewR _ _)), hide ((grow_drewR _ _).get HB5.out), hide fun k hk h => by omega⟩
          case round =>
            obtain ⟨j, hj, rfl, HL, HLB, HLN⟩ := hrel
            rename World => wl
            obtain ⟨n0, n1, n2⟩ := three_of HL.out.at'
            obtain ⟨x40, x41⟩ := two_of HLB.out
            have hb3l := HL.out.gr.get HB3.out
            obtain ⟨o0, o1, o2⟩ := three_of hb3l
            have z0 : wl.frozen? ⟨w.heap.size + 1 + 1, 0, none⟩ = false := by simp only [World.frozen?, hb3l]; rfl
            have z1 : wl.frozen? ⟨w.heap.size + 1 + 1, 1, none⟩ = false := by simp only [World.frozen?, hb3l]; rfl
            have z2 : wl.frozen? ⟨w.heap.size + 1 + 1, 2, none⟩ = false := by simp only [World.frozen?, hb3l]; rfl
            have HGl : Hid (Grow w wl) := hide (HG3.out.trans HL.out.gr)
            by_cases hjl : j < F.length
            · obtain ⟨gj, cj, vj, _, _, _, _, hw1, -, -, -, -, -, -, -, -, j0, j1, hjx, -, -⟩ := HL.out.k.at hjl
              obtain ⟨rfl, rfl⟩ : ro' = some ⟨gj, 0, none⟩ ∧ rc' = cj := by simpa using hw1
              obtain ⟨_, _, hckx⟩ := refErr_zero HXE.out
              obtain ⟨_, _, hckj⟩ := refErr_zero (HF.out.2.1 _ (List.getElem_mem hjl))
              have hlx := (check_small hckx).1
              have hlj := (check_small hckj).1
              have HSJ : Hid (∀ q, Calls Tryz.prog 30 #[vj, .slice ao4 x.2.length cp4] (wl.drewN q) fun e w' => e = .returned (.bool (decide (F[j].1.2 = x.2))) ∧ ∃ n, w' = (wl.drewN q).drewN n) := hide fun q => sameLabels_any _ _ _ _ _ (readsLabels_mono (readsLabels_below hjx (HGl.out.trans (grow_drewR _ q))) (HGl.out.trans (grow_drewR _ q)).size) (readsLabels_mono (readsLabels_below HXL.out (HGl.out.trans (grow_drewR _ q))) (HGl.out.trans (grow_drewR _ q)).size) (by omega) (by omega)
              obtain ⟨vjo, vjc, hvj⟩ := readsLabels_len hjx
              subst hvj
              have hji : (j : Int) < (F.length : Int) := by omega
              have hFl := HF.out.2.2.2
              by_cases heq : F[j].1.2 = x.2
              · rw [decide_eq_true heq] at HSJ
                have HNO : Hid (learnOfR D r = none) := hide (learnOf_none (by rw [HGF.out, HDR.out]) (refStep_two (not_in_num HNA.out) ⟨F[j], List.getElem_mem hjl, .inr heq⟩))
                clear heq hckx hckj hjx hw1
                go_wp2
                go_quiet ((go_at_call 30; exact Calls.quiet_of (HSJ.out _)))
                go_wp2
                refine bodyPost_ret (v := .tuple #[.agg #[.slice none 0 0, .slice none 0 0, .slice none 0 0], .int .i64 6]) (by simp [results, Tryz.results10, go_sem, o0, o1, o2]) rfl ?_
                exact ⟨6, _, _, _, rfl, grow_set3 (HGl.out.trans (grow_drewR _ _)) (by omega) _ _ _, by rw [HNO.out]; exact ⟨(by decide : (6 : Nat) ≠ 0), rfl, rfl, rfl⟩⟩
              · rw [decide_eq_false heq] at HSJ
                have HNE := hide heq
                clear heq hckx hckj hjx hw1
                go_wp2
                go_quiet ((go_at_call 30; exact Calls.quiet_of (HSJ.out _)))
                go_wp2
                go_roundw
                case rel => exact ⟨j + 1, by omega, by go_num, hide (HL.out.grow (grow_drewR _ _)), hide ((grow_drewR _ _).get HLB.out), hide fun k hk h => by
                  by_cases e : k = j
                  · subst e; exact HNE.out
                  · exact HLN.out k hk (by omega)⟩
                case measure => simp [intOf]; omega
            · obtain rfl : j = F.length := by omega
              have HKN : Hid (knowsR F x = 0) := hide (knowsR_of fun y hy => ⟨HNA.out y hy, by
                obtain ⟨k, hk, rfl⟩ := List.getElem_of_mem hy
                exact HLN.out k hk hk⟩)
              by_cases hfull : F.length = 1000
              · have hfi : (F.length : Int) = 1000 := by omega
                have HNO : Hid (learnOfR D r = none) := hide (learnOf_none (by rw [HGF.out, HDR.out]) (by unfold refStep; rw [HKN.out, if_neg (by decide), if_neg (by decide), if_pos hfull]))
                have hfb : ((F.length : Int) == 1000) = true := by rw [beq_iff_eq]; exact hfi
                clear hfull
                go_wp2
                refine bodyPost_ret (v := .tuple #[.agg #[.slice none 0 0, .slice none 0 0, .slice none 0 0], .int .i64 2]) (by simp [results, Tryz.results10, go_sem, o0, o1, o2]) rfl ?_
                exact ⟨2, _, _, _, rfl, grow_set3 HGl.out (by omega) _ _ _, by rw [HNO.out]; exact ⟨(by decide : (2 : Nat) ≠ 0), rfl, rfl, rfl⟩⟩
              · have hfb : ((F.length : Int) == 1000) = false := by rw [beq_eq_false_iff_ne]; omega
                go_wp2
                go_loopw [9] (fun x9 wm => ∃ a : Nat, a ≤ F.length ∧ x9 = .int .i64 a ∧ Hid (LO S w V3 wm b (.slice ro' F.length rc') (.slice lo' F.length lc') (.slice bo' F.length bc') qs F) ∧ Hid (wm.heap[wr.heap.size]? = some (.cells #[.int .i64 x.1, .slice ao4 x.2.length cp4] 59 (0, 0))) ∧ Hid (∀ k (hk : k < F.length), k < a → F[k].1.1 < x.1)) (fun x9 _ => F.length - (intOf x9).toNat)
                case atStart => exact ⟨0, by omega, rfl, HL, HLB, hide fun k hk h => by omega⟩
                case round =>
                  clear n0 n1 n2 x40 x41 o0 o1 o2 z0 z1 z2 hb3l
                  obtain ⟨a, hale, rfl, HM, HMB, HMN⟩ := hrel
                  rename World => wm
                  obtain ⟨n0, n1, n2⟩ := three_of HM.out.at'
                  obtain ⟨x40, x41⟩ := two_of HMB.out
                  by_cases hal : a < F.length
                  · obtain ⟨ga, ca, va, _, _, _, _, hw1, -, -, -, -, -, -, -, -, a0, a1, hax, -, -⟩ := HM.out.k.at hal
                    obtain ⟨rfl, rfl⟩ : ro' = some ⟨ga, 0, none⟩ ∧ rc' = ca := by simpa using hw1
                    have hali : (a : Int) < (F.length : Int) := by omega
                    have hald : decide ((a : Int) < (F.length : Int)) = true := decide_eq_true hali
                    obtain ⟨fn, HFN⟩ : ∃ fn, Hid (F[a].1.1 = fn) := ⟨_, hide rfl⟩
                    rw [HFN.out] at a0
                    by_cases hlx : fn < x.1
                    · clear hw1 hax
                      go_wp2
                      go_quiet (fail)
                      go_wp2
                      exact ⟨⟨a + 1, by omega, by go_num, hide (HM.out.grow (grow_drewR _ _)), hide ((grow_drewR _ _).get HMB.out), hide fun k hk h => by
                        by_cases e : k = a
                        · subst e; rw [HFN.out]; exact hlx
                        · exact HMN.out k hk (by omega)⟩, by simp [intOf]; omega⟩
                    · have HA : Hid (aheadK F x.1 = a) := hide (aheadK_uniq F x.1 a hale (fun k hk => HMN.out k (by omega) hk) fun h => by rw [HFN.out]; exact hlx)
                      clear hw1 hax
                      go_wp2
                      go_quiet (fail)
                      go_wp2
                      clear hlx a0 a1 HFN hali hald n0 n1 n2 x40 x41
                      obtain ⟨WC, eWC⟩ : ∃ W, wm.drewN nq = W := ⟨_, rfl⟩
                      rw [eWC]
                      have HM1 := hide (HM.out.grow (grow_drewR wm nq))
                      have HXB := hide ((grow_drewR wm nq).get HMB.out)
                      rw [eWC] at HM1 HXB
                      obtain ⟨soR, hsoR⟩ : ∃ s : Option Addr, some ⟨ga, 0, none⟩ = s := ⟨_, rfl⟩
                      rw [hsoR] at HM1
                      clear eWC hsoR HM HMB HMN
                      have hFl := HF.out.2.2.2
                      have HBX0 := hide HM1.out.at'
                      have mixed : Tryz.prog.follows .mixedOrders = true := by kernel_rfl
                      have hale2 : (a : Int) ≤ (F.length : Int) := by omega
                      have hc_r : F.length ≤ rc' := row_room HM1.out.k.r
                      have hd_r : (a : Int) ≤ (rc' : Int) := by omega
                      have hz_r : (if a = 0 then soR else Option.map (fun y => y.add 0) soR) = soR := by cases soR <;> simp [Addr.add]
                      have hc_l : F.length ≤ lc' := row_room HM1.out.k.l
                      have hd_l : (a : Int) ≤ (lc' : Int) := by omega
                      have hz_l : (if a = 0 then lo' else Option.map (fun y => y.add 0) lo') = lo' := by cases lo' <;> simp [Addr.add]
                      have hc_b : F.length ≤ bc' := row_room HM1.out.k.h
                      have hd_b : (a : Int) ≤ (bc' : Int) := by omega
                      have hz_b : (if a = 0 then bo' else Option.map (fun y => y.add 0) bo') = bo' := by cases bo' <;> simp [Addr.add]
                      obtain ⟨sp0, hsp0⟩ : ∃ s, (if rc' = a then soR else Option.map (fun y => y.add (a * 2)) soR) = s := ⟨_, rfl⟩
                      obtain ⟨X0, wa0, wb0, v0, gg0, cc0, eX0, gX0, ga0, gb0, ra0, rb0, ob0⟩ := ins_row (P := Tryz.prog) WC V3.heap.size 22 22 22 59 i1 _ 2 32 Tryz.underlying22 hin1 hx0 hx1 hx2 rfl (by decide) soR F.length rc' _ HM1.out.k.r #[.int .i64 x.1, .slice ao4 x.2.length cp4] rfl (by simp [Value.oneCell']) (LK.oneR HM1.out.k) a hale sp0 (by simpa using hsp0) (by unfold maxLen; omega) (by omega)
                      obtain ⟨vo0, vc0, hv0⟩ := own_shape ob0
                      subst hv0
                      have hbX0 := gX0.get HBX0.out
                      have hba0 := ga0.get HBX0.out
                      have hbb0 := gb0.get HBX0.out
                      have kd0 : WC.drew.cell? ⟨b, 0, none⟩ = some (.slice soR F.length rc') := (three_of HBX0.out).1
                      have kx0 : X0.cell? ⟨b, 0, none⟩ = some (.slice soR F.length rc') := (three_of hbX0).1
                      have ka0 : wa0.cell? ⟨b, 0, none⟩ = some (.slice soR F.length rc') := (three_of hba0).1
                      have kb0 : wb0.cell? ⟨b, 0, none⟩ = some (.slice soR F.length rc') := (three_of hbb0).1
                      have zz0 : wb0.frozen? ⟨b, 0, none⟩ = false := by simp only [World.frozen?, hbb0]; rfl
                      have HOB0 := hide ob0
                      have HGB0 := hide gb0
                      have HBB0 := hide hbb0
                      clear hbX0 hba0 hbb0
                      have HGS0 : Hid (∀ b1 b2 b3 w', insJ WC.drew X0 wa0 wb0 b1 b2 b3 w' → Grow WC w') := hide (insJ_grow (grow_drewR WC 1) gX0 ga0 gb0)
                      have HRA0 := hide ra0
                      have HRB0 := hide rb0
                      clear ob0 gX0 ga0 gb0 ra0 rb0
                      refine wp_region_state 13 185 mixedR rfl (by decide +kernel) (fun L vals w' => insJ WC.drew X0 wa0 wb0 (L 6) (L 11) (L 12) w')
                        (fun L vals h => by simp only [h]; rfl)
                        (fun j v => match j with
                          | 0 => v = .pointer (some ⟨b, 0, none⟩)
                          | 1 => v = .slice soR F.length rc'
                          | 2 => v = .int .i64 a
                          | 3 => v = .int .i64 a
                          | 4 => v = .slice soR a a
                          | 5 => v = .agg #[.int .i64 x.1, .slice ao4 x.2.length cp4]
                          | 6 => v = .slice (some ⟨WC.heap.size, 0, none⟩) 1 1
                          | 7 => v = .pointer (some ⟨b, 0, none⟩)
                          | 8 => v = .slice soR F.length rc'
                          | 9 => v = .int .i64 a
                          | 10 => v = .slice sp0 (F.length - a) (rc' - a)
                          | 11 => v = .slice (some ⟨gg0, 0, none⟩) (1 + (F.length - a)) cc0
                          | 12 => v = .slice vo0 (a + (1 + (F.length - a))) vc0
                          | _ => True)
                        (fun _ _ => False) (fun _ _ _ _ h => h.elim) (fun j hj oo ho a2 w2 L vals hLi hLc hLe hJ hoff hval hdep => ?_) (fun vals w2 L hL hJ hvals => ?_)
                      · have hJ0 := hJ
                        have hgw2 := HGS0.out _ _ _ _ hJ
                        have kk := (three_of (hgw2.get HBX0.out)).1
                        have kx0 := (two_of (hgw2.get HXB.out)).1
                        have kx1 := (two_of (hgw2.get HXB.out)).2
                        have hno : ∀ p q : Nat, q ∈ edgesB _ p → L q = false → L p = false := fun p q hpq hq => by
                          cases h : L p with
                          | false => rfl
                          | true => have := hLc p h q hpq; rw [hq] at this; cases this
                        match j, hj with
                        | 0, _ =>
                          obtain rfl := Option.some.inj ho
                          have o6 := hoff 6 (by decide +kernel)
                          simp at o6
                          simp [opYields, go_sem, o6]
                          exact hJ
                        | 1, _ =>
                          obtain rfl := Option.some.inj ho
                          have d0 := hdep 0 (by decide +kernel)
                          simp [slotOf, dstOf] at d0
                          simp [opYields, go_sem, d0, kk]
                          exact hJ
                        | 2, _ =>
                          obtain rfl := Option.some.inj ho
                          have o9 := hoff 9 (by decide +kernel)
                          simp at o9
                          simp [opYields, go_sem, o9]
                          exact hJ
                        | 3, _ =>
                          obtain rfl := Option.some.inj ho
                          have o9 := hoff 9 (by decide +kernel)
                          simp at o9
                          simp [opYields, go_sem, o9]
                          exact hJ
                        | 4, _ =>
                          obtain rfl := Option.some.inj ho
                          have d1 := hdep 1 (by decide +kernel)
                          simp [slotOf, dstOf] at d1
                          have d2 := hdep 2 (by decide +kernel)
                          simp [slotOf, dstOf] at d2
                          have d3 := hdep 3 (by decide +kernel)
                          simp [slotOf, dstOf] at d3
                          simp [opYields, go_sem, d1, d2, d3, hale2, hd_r, hz_r, Tryz.underlying22, hin1, hx1]
                          exact hJ
                        | 5, _ =>
                          obtain rfl := Option.some.inj ho
                          have o8 := hoff 8 (by decide +kernel)
                          simp at o8
                          simp [opYields, go_sem, o8, kx0, kx1]
                          exact hJ
                        | 6, _ =>
                          obtain rfl := Option.some.inj ho
                          have hi1 := hno 11 6 (by decide +kernel) hLi
                          have hi2 := hno 12 11 (by decide +kernel) hi1
                          obtain rfl : w2 = WC.drew := by rw [hLi, hi1, hi2] at hJ; exact hJ
                          have d5 := hdep 5 (by decide +kernel)
                          simp [slotOf, dstOf] at d5
                          simp [opYields, go_sem, d5, hin1, hx1]
                          exact insJ_one hi1 hi2 eX0
                        | 7, _ =>
                          obtain rfl := Option.some.inj ho
                          have o6 := hoff 6 (by decide +kernel)
                          simp at o6
                          simp [opYields, go_sem, o6]
                          exact hJ
                        | 8, _ =>
                          obtain rfl := Option.some.inj ho
                          have d7 := hdep 7 (by decide +kernel)
                          simp [slotOf, dstOf] at d7
                          simp [opYields, go_sem, d7, kk]
                          exact hJ
                        | 9, _ =>
                          obtain rfl := Option.some.inj ho
                          have o9 := hoff 9 (by decide +kernel)
                          simp at o9
                          simp [opYields, go_sem, o9]
                          exact hJ
                        | 10, _ =>
                          obtain rfl := Option.some.inj ho
                          have d8 := hdep 8 (by decide +kernel)
                          simp [slotOf, dstOf] at d8
                          have d9 := hdep 9 (by decide +kernel)
                          simp [slotOf, dstOf] at d9
                          simp [opYields, go_sem, d8, d9, hale2, hsp0, Tryz.underlying22, hin1, hx1]
                          exact hJ
                        | 11, _ =>
                          obtain rfl := Option.some.inj ho
                          have hb1 := hLe 6 (by decide +kernel)
                          have hi2 := hno 12 11 (by decide +kernel) hLi
                          obtain rfl : w2 = X0 := by rw [hb1, hLi, hi2] at hJ; exact hJ
                          have d1 := hdep 6 (by decide +kernel)
                          have d2 := hdep 10 (by decide +kernel)
                          simp [slotOf, dstOf] at d1 d2
                          exact yields_append rfl (.tmp 105) (.tmp 109) _ _ rfl (v1 := .slice (some ⟨WC.heap.size, 0, none⟩) 1 1) (v2 := .slice sp0 (F.length - a) (rc' - a)) (by simpa [Act.eval] using d1) (by simpa [Act.eval] using d2) HRA0.out ⟨insJ_two hi2, rfl⟩
                        | 12, _ =>
                          obtain rfl := Option.some.inj ho
                          have hb1 := hLe 11 (by decide +kernel)
                          obtain rfl : w2 = wa0 := by rw [hb1, hLi] at hJ; exact hJ
                          have d1 := hdep 4 (by decide +kernel)
                          have d2 := hdep 11 (by decide +kernel)
                          simp [slotOf, dstOf] at d1 d2
                          exact yields_append rfl (.tmp 103) (.tmp 110) _ _ rfl (v1 := .slice soR a a) (v2 := .slice (some ⟨gg0, 0, none⟩) (1 + (F.length - a)) cc0) (by simpa [Act.eval] using d1) (by simpa [Act.eval] using d2) HRB0.out ⟨insJ_three, rfl⟩
                        | z + 13, h => exact absurd h (by omega)
                      · obtain rfl : wb0 = w2 := by rw [hL 12 (by omega)] at hJ; exact hJ.symm
                        have hv0 := hvals 0 (by omega)
                        have hv1 := hvals 1 (by omega)
                        have hv2 := hvals 2 (by omega)
                        have hv3 := hvals 3 (by omega)
                        have hv4 := hvals 4 (by omega)
                        have hv5 := hvals 5 (by omega)
                        have hv6 := hvals 6 (by omega)
                        have hv7 := hvals 7 (by omega)
                        have hv8 := hvals 8 (by omega)
                        have hv9 := hvals 9 (by omega)
                        have hv10 := hvals 10 (by omega)
                        have hv11 := hvals 11 (by omega)
                        have hv12 := hvals 12 (by omega)
                        simp only at hv0 hv1 hv2 hv3 hv4 hv5 hv6 hv7 hv8 hv9 hv10 hv11 hv12
                        clear hvals hL hJ
                        simp [over, dstOf, Act.put, hv0, hv1, hv2, hv3, hv4, hv5, hv6, hv7, hv8, hv9, hv10, hv11, hv12]
                        clear hv0 hv1 hv2 hv3 hv4 hv5 hv6 hv7 hv8 hv9 hv10 hv11 hv12
                        have HGWC := hide HM1.out.gr
                        have HR1 := hide HM1.out.k.l
                        have HR2 := hide HM1.out.k.h
                        go_wp2
                        obtain ⟨WD, eWD⟩ : ∃ W, wb0.setCell ⟨b, 0, none⟩ (.slice vo0 (a + (1 + (F.length - a))) vc0) = W := ⟨_, rfl⟩
                        rw [eWD]
                        have hGWD : Grow V3 WD := by rw [← eWD]; exact Below.setCell (HGWC.out.trans HGB0.out) hbb _
                        have hBWD := set3 HBB0.out 0 (.slice vo0 (a + (1 + (F.length - a))) vc0)
                        rw [eWD] at hBWD
                        have hO0 := ownsRow_setCell_other (a := ⟨b, 0, none⟩) (own_le HOB0.out HGWC.out.size) (own_apart (own_le HOB0.out HGWC.out.size) HBB0.out (by decide)) (.slice vo0 (a + (1 + (F.length - a))) vc0)
                        rw [eWD] at hO0
                        have HO0 := hide hO0
                        have hR1 := ownsRow_setCell_other (a := ⟨b, 0, none⟩) (own_grow HR1.out HGB0.out) (own_apart (own_grow HR1.out HGB0.out) HBB0.out (by decide)) (.slice vo0 (a + (1 + (F.length - a))) vc0)
                        rw [eWD] at hR1
                        clear HR1
                        have HR1 := hide hR1
                        clear hR1
                        have hR2 := ownsRow_setCell_other (a := ⟨b, 0, none⟩) (own_grow HR2.out HGB0.out) (own_apart (own_grow HR2.out HGB0.out) HBB0.out (by decide)) (.slice vo0 (a + (1 + (F.length - a))) vc0)
                        rw [eWD] at hR2
                        clear HR2
                        have HR2 := hide hR2
                        clear hR2
                        have HBX1 := hide hBWD
                        have HGWD := hide hGWD
                        clear hBWD hGWD hO0 HBB0 HOB0 HGB0 HRA0 HRB0 HGS0 eWD kd0 kx0 ka0 kb0 zz0 eX0 hsp0
                        obtain ⟨sp1, hsp1⟩ : ∃ s, (if lc' = a then lo' else Option.map (fun y => y.add a) lo') = s := ⟨_, rfl⟩
                        obtain ⟨X1, wa1, wb1, v1, gg1, cc1, eX1, gX1, ga1, gb1, ra1, rb1, ob1⟩ := ins_row (P := Tryz.prog) WD V3.heap.size 23 23 23 3 i2 _ 1 8 Tryz.underlying23 hin2 hy0 hy1 hy2 rfl (by decide) lo' F.length lc' _ HR1.out #[.int .i64 0] rfl (by simp [Value.oneCell']) (fun y hy => by unfold intsV at hy; obtain ⟨z, _, rfl⟩ := List.mem_map.1 hy; rfl) a hale sp1 (by simpa using hsp1) (by unfold maxLen; omega) (by omega)
                        obtain ⟨vo1, vc1, hv1⟩ := own_shape ob1
                        subst hv1
                        have hbX1 := gX1.get HBX1.out
                        have hba1 := ga1.get HBX1.out
                        have hbb1 := gb1.get HBX1.out
                        have kd1 : WD.drew.cell? ⟨b, 1, none⟩ = some (.slice lo' F.length lc') := (three_of HBX1.out).2.1
                        have kx1 : X1.cell? ⟨b, 1, none⟩ = some (.slice lo' F.length lc') := (three_of hbX1).2.1
                        have ka1 : wa1.cell? ⟨b, 1, none⟩ = some (.slice lo' F.length lc') := (three_of hba1).2.1
                        have kb1 : wb1.cell? ⟨b, 1, none⟩ = some (.slice lo' F.length lc') := (three_of hbb1).2.1
                        have zz1 : wb1.frozen? ⟨b, 1, none⟩ = false := by simp only [World.frozen?, hbb1]; rfl
                        have HOB1 := hide ob1
                        have HGB1 := hide gb1
                        have HBB1 := hide hbb1
                        clear hbX1 hba1 hbb1
                        have HGS1 : Hid (∀ b1 b2 b3 w', insJ WD.drew X1 wa1 wb1 b1 b2 b3 w' → Grow WD w') := hide (insJ_grow (grow_drewR WD 1) gX1 ga1 gb1)
                        have HRA1 := hide ra1
                        have HRB1 := hide rb1
                        clear ob1 gX1 ga1 gb1 ra1 rb1
                        refine wp_region_state 12 185 mixedR rfl (by decide +kernel) (fun L vals w' => insJ WD.drew X1 wa1 wb1 (L 5) (L 10) (L 11) w')
                          (fun L vals h => by simp only [h]; rfl)
                          (fun j v => match j with
                            | 0 => v = .pointer (some ⟨b, 1, none⟩)
                            | 1 => v = .slice lo' F.length lc'
                            | 2 => v = .int .i64 a
                            | 3 => v = .int .i64 a
                            | 4 => v = .slice lo' a a
                            | 5 => v = .slice (some ⟨WD.heap.size, 0, none⟩) 1 1
                            | 6 => v = .pointer (some ⟨b, 1, none⟩)
                            | 7 => v = .slice lo' F.length lc'
                            | 8 => v = .int .i64 a
                            | 9 => v = .slice sp1 (F.length - a) (lc' - a)
                            | 10 => v = .slice (some ⟨gg1, 0, none⟩) (1 + (F.length - a)) cc1
                            | 11 => v = .slice vo1 (a + (1 + (F.length - a))) vc1
                            | _ => True)
                          (fun _ _ => False) (fun _ _ _ _ h => h.elim) (fun j hj oo ho a2 w2 L vals hLi hLc hLe hJ hoff hval hdep => ?_) (fun vals w2 L hL hJ hvals => ?_)
                        · have hJ0 := hJ
                          have hgw2 := HGS1.out _ _ _ _ hJ
                          have kk := (three_of (hgw2.get HBX1.out)).2.1
                          have hno : ∀ p q : Nat, q ∈ edgesB _ p → L q = false → L p = false := fun p q hpq hq => by
                            cases h : L p with
                            | false => rfl
                            | true => have := hLc p h q hpq; rw [hq] at this; cases this
                          match j, hj with
                          | 0, _ =>
                            obtain rfl := Option.some.inj ho
                            have o6 := hoff 6 (by decide +kernel)
                            simp at o6
                            simp [opYields, go_sem, o6]
                            exact hJ
                          | 1, _ =>
                            obtain rfl := Option.some.inj ho
                            have d0 := hdep 0 (by decide +kernel)
                            simp [slotOf, dstOf] at d0
                            simp [opYields, go_sem, d0, kk]
                            exact hJ
                          | 2, _ =>
                            obtain rfl := Option.some.inj ho
                            have o9 := hoff 9 (by decide +kernel)
                            simp at o9
                            simp [opYields, go_sem, o9]
                            exact hJ
                          | 3, _ =>
                            obtain rfl := Option.some.inj ho
                            have o9 := hoff 9 (by decide +kernel)
                            simp at o9
                            simp [opYields, go_sem, o9]
                            exact hJ
                          | 4, _ =>
                            obtain rfl := Option.some.inj ho
                            have d1 := hdep 1 (by decide +kernel)
                            simp [slotOf, dstOf] at d1
                            have d2 := hdep 2 (by decide +kernel)
                            simp [slotOf, dstOf] at d2
                            have d3 := hdep 3 (by decide +kernel)
                            simp [slotOf, dstOf] at d3
                            simp [opYields, go_sem, d1, d2, d3, hale2, hd_l, hz_l, Tryz.underlying23, hin2, hy1]
                            exact hJ
                          | 5, _ =>
                            obtain rfl := Option.some.inj ho
                            have hi1 := hno 10 5 (by decide +kernel) hLi
                            have hi2 := hno 11 10 (by decide +kernel) hi1
                            obtain rfl : w2 = WD.drew := by rw [hLi, hi1, hi2] at hJ; exact hJ
                            simp [opYields, go_sem, hin2, hy1]
                            exact insJ_one hi1 hi2 eX1
                          | 6, _ =>
                            obtain rfl := Option.some.inj ho
                            have o6 := hoff 6 (by decide +kernel)
                            simp at o6
                            simp [opYields, go_sem, o6]
                            exact hJ
                          | 7, _ =>
                            obtain rfl := Option.some.inj ho
                            have d6 := hdep 6 (by decide +kernel)
                            simp [slotOf, dstOf] at d6
                            simp [opYields, go_sem, d6, kk]
                            exact hJ
                          | 8, _ =>
                            obtain rfl := Option.some.inj ho
                            have o9 := hoff 9 (by decide +kernel)
                            simp at o9
                            simp [opYields, go_sem, o9]
                            exact hJ
                          | 9, _ =>
                            obtain rfl := Option.some.inj ho
                            have d7 := hdep 7 (by decide +kernel)
                            simp [slotOf, dstOf] at d7
                            have d8 := hdep 8 (by decide +kernel)
                            simp [slotOf, dstOf] at d8
                            simp [opYields, go_sem, d7, d8, hale2, hsp1, Tryz.underlying23, hin2, hy1]
                            exact hJ
                          | 10, _ =>
                            obtain rfl := Option.some.inj ho
                            have hb1 := hLe 5 (by decide +kernel)
                            have hi2 := hno 11 10 (by decide +kernel) hLi
                            obtain rfl : w2 = X1 := by rw [hb1, hLi, hi2] at hJ; exact hJ
                            have d1 := hdep 5 (by decide +kernel)
                            have d2 := hdep 9 (by decide +kernel)
                            simp [slotOf, dstOf] at d1 d2
                            exact yields_append rfl (.tmp 118) (.tmp 122) _ _ rfl (v1 := .slice (some ⟨WD.heap.size, 0, none⟩) 1 1) (v2 := .slice sp1 (F.length - a) (lc' - a)) (by simpa [Act.eval] using d1) (by simpa [Act.eval] using d2) HRA1.out ⟨insJ_two hi2, rfl⟩
                          | 11, _ =>
                            obtain rfl := Option.some.inj ho
                            have hb1 := hLe 10 (by decide +kernel)
                            obtain rfl : w2 = wa1 := by rw [hb1, hLi] at hJ; exact hJ
                            have d1 := hdep 4 (by decide +kernel)
                            have d2 := hdep 10 (by decide +kernel)
                            simp [slotOf, dstOf] at d1 d2
                            exact yields_append rfl (.tmp 117) (.tmp 123) _ _ rfl (v1 := .slice lo' a a) (v2 := .slice (some ⟨gg1, 0, none⟩) (1 + (F.length - a)) cc1) (by simpa [Act.eval] using d1) (by simpa [Act.eval] using d2) HRB1.out ⟨insJ_three, rfl⟩
                          | z + 12, h => exact absurd h (by omega)
                        · obtain rfl : wb1 = w2 := by rw [hL 11 (by omega)] at hJ; exact hJ.symm
                          have hv0 := hvals 0 (by omega)
                          have hv1 := hvals 1 (by omega)
                          have hv2 := hvals 2 (by omega)
                          have hv3 := hvals 3 (by omega)
                          have hv4 := hvals 4 (by omega)
                          have hv5 := hvals 5 (by omega)
                          have hv6 := hvals 6 (by omega)
                          have hv7 := hvals 7 (by omega)
                          have hv8 := hvals 8 (by omega)
                          have hv9 := hvals 9 (by omega)
                          have hv10 := hvals 10 (by omega)
                          have hv11 := hvals 11 (by omega)
                          simp only at hv0 hv1 hv2 hv3 hv4 hv5 hv6 hv7 hv8 hv9 hv10 hv11
                          clear hvals hL hJ
                          simp [over, dstOf, Act.put, hv0, hv1, hv2, hv3, hv4, hv5, hv6, hv7, hv8, hv9, hv10, hv11]
                          clear hv0 hv1 hv2 hv3 hv4 hv5 hv6 hv7 hv8 hv9 hv10 hv11
                          have HR0 := hide HO0.out
                          clear HO0
                          go_wp2
                          obtain ⟨WE, eWE⟩ : ∃ W, wb1.setCell ⟨b, 1, none⟩ (.slice vo1 (a + (1 + (F.length - a))) vc1) = W := ⟨_, rfl⟩
                          rw [eWE]
                          have hGWE : Grow V3 WE := by rw [← eWE]; exact Below.setCell (HGWD.out.trans HGB1.out) hbb _
                          have hBWE := set3 HBB1.out 1 (.slice vo1 (a + (1 + (F.length - a))) vc1)
                          rw [eWE] at hBWE
                          have hO1 := ownsRow_setCell_other (a := ⟨b, 1, none⟩) (own_le HOB1.out HGWD.out.size) (own_apart (own_le HOB1.out HGWD.out.size) HBB1.out (by decide)) (.slice vo1 (a + (1 + (F.length - a))) vc1)
                          rw [eWE] at hO1
                          have HO1 := hide hO1
                          have hR0 := ownsRow_setCell_other (a := ⟨b, 1, none⟩) (own_grow HR0.out HGB1.out) (own_apart (own_grow HR0.out HGB1.out) HBB1.out (by decide)) (.slice vo1 (a + (1 + (F.length - a))) vc1)
                          rw [eWE] at hR0
                          clear HR0
                          have HR0 := hide hR0
                          clear hR0
                          have hR2 := ownsRow_setCell_other (a := ⟨b, 1, none⟩) (own_grow HR2.out HGB1.out) (own_apart (own_grow HR2.out HGB1.out) HBB1.out (by decide)) (.slice vo1 (a + (1 + (F.length - a))) vc1)
                          rw [eWE] at hR2
                          clear HR2
                          have HR2 := hide hR2
                          clear hR2
                          have HBX2 := hide hBWE
                          have HGWE := hide hGWE
                          clear hBWE hGWE hO1 HBB1 HOB1 HGB1 HRA1 HRB1 HGS1 eWE kd1 kx1 ka1 kb1 zz1 eX1 hsp1
                          obtain ⟨sp2, hsp2⟩ : ∃ s, (if bc' = a then bo' else Option.map (fun y => y.add a) bo') = s := ⟨_, rfl⟩
                          obtain ⟨X2, wa2, wb2, v2, gg2, cc2, eX2, gX2, ga2, gb2, ra2, rb2, ob2⟩ := ins_row (P := Tryz.prog) WE V3.heap.size 24 24 24 4 i3 _ 1 1 Tryz.underlying24 hin3 hz0 hz1 hz2 rfl (by decide) bo' F.length bc' _ HR2.out #[.bool false] rfl (by simp [Value.oneCell']) (fun y hy => by unfold boolsV at hy; obtain ⟨z, _, rfl⟩ := List.mem_map.1 hy; rfl) a hale sp2 (by simpa using hsp2) (by unfold maxLen; omega) (by omega)
                          obtain ⟨vo2, vc2, hv2⟩ := own_shape ob2
                          subst hv2
                          have hbX2 := gX2.get HBX2.out
                          have hba2 := ga2.get HBX2.out
                          have hbb2 := gb2.get HBX2.out
                          have kd2 : WE.drew.cell? ⟨b, 2, none⟩ = some (.slice bo' F.length bc') := (three_of HBX2.out).2.2
                          have kx2 : X2.cell? ⟨b, 2, none⟩ = some (.slice bo' F.length bc') := (three_of hbX2).2.2
                          have ka2 : wa2.cell? ⟨b, 2, none⟩ = some (.slice bo' F.length bc') := (three_of hba2).2.2
                          have kb2 : wb2.cell? ⟨b, 2, none⟩ = some (.slice bo' F.length bc') := (three_of hbb2).2.2
                          have zz2 : wb2.frozen? ⟨b, 2, none⟩ = false := by simp only [World.frozen?, hbb2]; rfl
                          have HOB2 := hide ob2
                          have HGB2 := hide gb2
                          have HBB2 := hide hbb2
                          clear hbX2 hba2 hbb2
                          have HGS2 : Hid (∀ b1 b2 b3 w', insJ WE.drew X2 wa2 wb2 b1 b2 b3 w' → Grow WE w') := hide (insJ_grow (grow_drewR WE 1) gX2 ga2 gb2)
                          have HRA2 := hide ra2
                          have HRB2 := hide rb2
                          clear ob2 gX2 ga2 gb2 ra2 rb2
                          refine wp_region_state 12 185 mixedR rfl (by decide +kernel) (fun L vals w' => insJ WE.drew X2 wa2 wb2 (L 5) (L 10) (L 11) w')
                            (fun L vals h => by simp only [h]; rfl)
                            (fun j v => match j with
                              | 0 => v = .pointer (some ⟨b, 2, none⟩)
                              | 1 => v = .slice bo' F.length bc'
                              | 2 => v = .int .i64 a
                              | 3 => v = .int .i64 a
                              | 4 => v = .slice bo' a a
                              | 5 => v = .slice (some ⟨WE.heap.size, 0, none⟩) 1 1
                              | 6 => v = .pointer (some ⟨b, 2, none⟩)
                              | 7 => v = .slice bo' F.length bc'
                              | 8 => v = .int .i64 a
                              | 9 => v = .slice sp2 (F.length - a) (bc' - a)
                              | 10 => v = .slice (some ⟨gg2, 0, none⟩) (1 + (F.length - a)) cc2
                              | 11 => v = .slice vo2 (a + (1 + (F.length - a))) vc2
                              | _ => True)
                            (fun _ _ => False) (fun _ _ _ _ h => h.elim) (fun j hj oo ho a2 w2 L vals hLi hLc hLe hJ hoff hval hdep => ?_) (fun vals w2 L hL hJ hvals => ?_)
                          · have hJ0 := hJ
                            have hgw2 := HGS2.out _ _ _ _ hJ
                            have kk := (three_of (hgw2.get HBX2.out)).2.2
                            have hno : ∀ p q : Nat, q ∈ edgesB _ p → L q = false → L p = false := fun p q hpq hq => by
                              cases h : L p with
                              | false => rfl
                              | true => have := hLc p h q hpq; rw [hq] at this; cases this
                            match j, hj with
                            | 0, _ =>
                              obtain rfl := Option.some.inj ho
                              have o6 := hoff 6 (by decide +kernel)
                              simp at o6
                              simp [opYields, go_sem, o6]
                              exact hJ
                            | 1, _ =>
                              obtain rfl := Option.some.inj ho
                              have d0 := hdep 0 (by decide +kernel)
                              simp [slotOf, dstOf] at d0
                              simp [opYields, go_sem, d0, kk]
                              exact hJ
                            | 2, _ =>
                              obtain rfl := Option.some.inj ho
                              have o9 := hoff 9 (by decide +kernel)
                              simp at o9
                              simp [opYields, go_sem, o9]
                              exact hJ
                            | 3, _ =>
                              obtain rfl := Option.some.inj ho
                              have o9 := hoff 9 (by decide +kernel)
                              simp at o9
                              simp [opYields, go_sem, o9]
                              exact hJ
                            | 4, _ =>
                              obtain rfl := Option.some.inj ho
                              have d1 := hdep 1 (by decide +kernel)
                              simp [slotOf, dstOf] at d1
                              have d2 := hdep 2 (by decide +kernel)
                              simp [slotOf, dstOf] at d2
                              have d3 := hdep 3 (by decide +kernel)
                              simp [slotOf, dstOf] at d3
                              simp [opYields, go_sem, d1, d2, d3, hale2, hd_b, hz_b, Tryz.underlying24, hin3, hz1]
                              exact hJ
                            | 5, _ =>
                              obtain rfl := Option.some.inj ho
                              have hi1 := hno 10 5 (by decide +kernel) hLi
                              have hi2 := hno 11 10 (by decide +kernel) hi1
                              obtain rfl : w2 = WE.drew := by rw [hLi, hi1, hi2] at hJ; exact hJ
                              simp [opYields, go_sem, hin3, hz1]
                              exact insJ_one hi1 hi2 eX2
                            | 6, _ =>
                              obtain rfl := Option.some.inj ho
                              have o6 := hoff 6 (by decide +kernel)
                              simp at o6
                              simp [opYields, go_sem, o6]
                              exact hJ
                            | 7, _ =>
                              obtain rfl := Option.some.inj ho
                              have d6 := hdep 6 (by decide +kernel)
                              simp [slotOf, dstOf] at d6
                              simp [opYields, go_sem, d6, kk]
                              exact hJ
                            | 8, _ =>
                              obtain rfl := Option.some.inj ho
                              have o9 := hoff 9 (by decide +kernel)
                              simp at o9
                              simp [opYields, go_sem, o9]
                              exact hJ
                            | 9, _ =>
                              obtain rfl := Option.some.inj ho
                              have d7 := hdep 7 (by decide +kernel)
                              simp [slotOf, dstOf] at d7
                              have d8 := hdep 8 (by decide +kernel)
                              simp [slotOf, dstOf] at d8
                              simp [opYields, go_sem, d7, d8, hale2, hsp2, Tryz.underlying24, hin3, hz1]
                              exact hJ
                            | 10, _ =>
                              obtain rfl := Option.some.inj ho
                              have hb1 := hLe 5 (by decide +kernel)
                              have hi2 := hno 11 10 (by decide +kernel) hLi
                              obtain rfl : w2 = X2 := by rw [hb1, hLi, hi2] at hJ; exact hJ
                              have d1 := hdep 5 (by decide +kernel)
                              have d2 := hdep 9 (by decide +kernel)
                              simp [slotOf, dstOf] at d1 d2
                              exact yields_append rfl (.tmp 131) (.tmp 135) _ _ rfl (v1 := .slice (some ⟨WE.heap.size, 0, none⟩) 1 1) (v2 := .slice sp2 (F.length - a) (bc' - a)) (by simpa [Act.eval] using d1) (by simpa [Act.eval] using d2) HRA2.out ⟨insJ_two hi2, rfl⟩
                            | 11, _ =>
                              obtain rfl := Option.some.inj ho
                              have hb1 := hLe 10 (by decide +kernel)
                              obtain rfl : w2 = wa2 := by rw [hb1, hLi] at hJ; exact hJ
                              have d1 := hdep 4 (by decide +kernel)
                              have d2 := hdep 10 (by decide +kernel)
                              simp [slotOf, dstOf] at d1 d2
                              exact yields_append rfl (.tmp 130) (.tmp 136) _ _ rfl (v1 := .slice bo' a a) (v2 := .slice (some ⟨gg2, 0, none⟩) (1 + (F.length - a)) cc2) (by simpa [Act.eval] using d1) (by simpa [Act.eval] using d2) HRB2.out ⟨insJ_three, rfl⟩
                            | z + 12, h => exact absurd h (by omega)
                          · obtain rfl : wb2 = w2 := by rw [hL 11 (by omega)] at hJ; exact hJ.symm
                            have hv0 := hvals 0 (by omega)
                            have hv1 := hvals 1 (by omega)
                            have hv2 := hvals 2 (by omega)
                            have hv3 := hvals 3 (by omega)
                            have hv4 := hvals 4 (by omega)
                            have hv5 := hvals 5 (by omega)
                            have hv6 := hvals 6 (by omega)
                            have hv7 := hvals 7 (by omega)
                            have hv8 := hvals 8 (by omega)
                            have hv9 := hvals 9 (by omega)
                            have hv10 := hvals 10 (by omega)
                            have hv11 := hvals 11 (by omega)
                            simp only at hv0 hv1 hv2 hv3 hv4 hv5 hv6 hv7 hv8 hv9 hv10 hv11
                            clear hvals hL hJ
                            simp [over, dstOf, Act.put, hv0, hv1, hv2, hv3, hv4, hv5, hv6, hv7, hv8, hv9, hv10, hv11]
                            clear hv0 hv1 hv2 hv3 hv4 hv5 hv6 hv7 hv8 hv9 hv10 hv11
                            have HRL := hide HO1.out
                            clear HO1
                            go_wp2
                            obtain ⟨WF, eWF⟩ : ∃ W, wb2.setCell ⟨b, 2, none⟩ (.slice vo2 (a + (1 + (F.length - a))) vc2) = W := ⟨_, rfl⟩
                            rw [eWF]
                            have hGWF : Grow V3 WF := by rw [← eWF]; exact Below.setCell (HGWE.out.trans HGB2.out) hbb _
                            have hBWF := set3 HBB2.out 2 (.slice vo2 (a + (1 + (F.length - a))) vc2)
                            rw [eWF] at hBWF
                            have hO2 := ownsRow_setCell_other (a := ⟨b, 2, none⟩) (own_le HOB2.out HGWE.out.size) (own_apart (own_le HOB2.out HGWE.out.size) HBB2.out (by decide)) (.slice vo2 (a + (1 + (F.length - a))) vc2)
                            rw [eWF] at hO2
                            have HO2 := hide hO2
                            have hR0 := ownsRow_setCell_other (a := ⟨b, 2, none⟩) (own_grow HR0.out HGB2.out) (own_apart (own_grow HR0.out HGB2.out) HBB2.out (by decide)) (.slice vo2 (a + (1 + (F.length - a))) vc2)
                            rw [eWF] at hR0
                            clear HR0
                            have HR0 := hide hR0
                            clear hR0
                            have hRL := ownsRow_setCell_other (a := ⟨b, 2, none⟩) (own_grow HRL.out HGB2.out) (own_apart (own_grow HRL.out HGB2.out) HBB2.out (by decide)) (.slice vo2 (a + (1 + (F.length - a))) vc2)
                            rw [eWF] at hRL
                            clear HRL
                            have HRL := hide hRL
                            clear hRL
                            have HBX3 := hide hBWF
                            have HGWF := hide hGWF
                            clear hBWF hGWF hO2 HBB2 HOB2 HGB2 HRA2 HRB2 HGS2 eWF kd2 kx2 ka2 kb2 zz2 eX2 hsp2
                            have HIF := hide (ins_facts HF.out HKN.out HXE.out hfull)
                            have HIG : Hid (refsGo D r.refs = refsGo (insK (x, 0, false) F) (r.refs.drop (i + 1))) := hide (by rw [HGF.out, HDR.out]; exact ins_go HKN.out hfull)
                            have hins := LK.ins (S := S) (w := w) (W := WF) (B := V3.heap.size) (B1 := 0) (B2 := 0) (B3 := 0) (D := F) (x := x) (v := .slice ao4 x.2.length cp4) HM1.out.k.len HM1.out.k.labs ⟨HXL.out, HXS.out⟩ (by rw [HA.out]; exact HR0.out) (by rw [HA.out]; exact HRL.out) (by rw [HA.out]; exact HO2.out)
                            have hinl : (insK (x, 0, false) F).length = a + (1 + (F.length - a)) := by rw [← HA.out]; have := aheadK_le F x.1; simp [insK]; omega
                            rw [← hinl] at hins
                            have hlo : LO S w V3 WF b _ _ _ _ (insK (x, 0, false) F) := ⟨HGWF.out, hbb, by rw [hinl]; exact HBX3.out, hins⟩
                            exact ⟨⟨i + 1, _, _, _, _, insK (x, 0, false) F, by omega, by go_num, hide hlo, HIF, HIG⟩, by simp [intOf]; omega⟩
                  · have HAE : Hid (a = F.length) := hide (by omega)
                    have HA : Hid (aheadK F x.1 = a) := hide (aheadK_uniq F x.1 a hale (fun k hk => HMN.out k (by omega) hk) fun h => absurd h hal)
                    have hald : decide ((a : Int) < (F.length : Int)) = false := decide_eq_false (by omega)
                    have hali : ¬ ((a : Int) < (F.length : Int)) := by omega
                    go_wp2
                    go_quiet (fail)
                    go_wp2
                    clear n0 n1 n2 x40 x41 hali hald
                    obtain ⟨WC, eWC⟩ : ∃ W, wm.drewN nq = W := ⟨_, rfl⟩
                    rw [eWC]
                    have HM1 := hide (HM.out.grow (grow_drewR wm nq))
                    have HXB := hide ((grow_drewR wm nq).get HMB.out)
                    rw [eWC] at HM1 HXB
                    obtain ⟨soR, hsoR⟩ : ∃ s : Option Addr, ro' = s := ⟨_, rfl⟩
                    rw [hsoR] at HM1
                    clear eWC hsoR HM HMB HMN
                    have hFl := HF.out.2.2.2
                    have HBX0 := hide HM1.out.at'
                    have mixed : Tryz.prog.follows .mixedOrders = true := by kernel_rfl
                    have hale2 : (a : Int) ≤ (F.length : Int) := by omega
                    have hc_r : F.length ≤ rc' := row_room HM1.out.k.r
                    have hd_r : (a : Int) ≤ (rc' : Int) := by omega
                    have hz_r : (if a = 0 then soR else Option.map (fun y => y.add 0) soR) = soR := by cases soR <;> simp [Addr.add]
                    have hc_l : F.length ≤ lc' := row_room HM1.out.k.l
                    have hd_l : (a : Int) ≤ (lc' : Int) := by omega
                    have hz_l : (if a = 0 then lo' else Option.map (fun y => y.add 0) lo') = lo' := by cases lo' <;> simp [Addr.add]
                    have hc_b : F.length ≤ bc' := row_room HM1.out.k.h
                    have hd_b : (a : Int) ≤ (bc' : Int) := by omega
                    have hz_b : (if a = 0 then bo' else Option.map (fun y => y.add 0) bo') = bo' := by cases bo' <;> simp [Addr.add]
                    obtain ⟨sp0, hsp0⟩ : ∃ s, (if rc' = a then soR else Option.map (fun y => y.add (a * 2)) soR) = s := ⟨_, rfl⟩
                    obtain ⟨X0, wa0, wb0, v0, gg0, cc0, eX0, gX0, ga0, gb0, ra0, rb0, ob0⟩ := ins_row (P := Tryz.prog) WC V3.heap.size 22 22 22 59 i1 _ 2 32 Tryz.underlying22 hin1 hx0 hx1 hx2 rfl (by decide) soR F.length rc' _ HM1.out.k.r #[.int .i64 x.1, .slice ao4 x.2.length cp4] rfl (by simp [Value.oneCell']) (LK.oneR HM1.out.k) a hale sp0 (by simpa using hsp0) (by unfold maxLen; omega) (by omega)
                    obtain ⟨vo0, vc0, hv0⟩ := own_shape ob0
                    subst hv0
                    have hbX0 := gX0.get HBX0.out
                    have hba0 := ga0.get HBX0.out
                    have hbb0 := gb0.get HBX0.out
                    have kd0 : WC.drew.cell? ⟨b, 0, none⟩ = some (.slice soR F.length rc') := (three_of HBX0.out).1
                    have kx0 : X0.cell? ⟨b, 0, none⟩ = some (.slice soR F.length rc') := (three_of hbX0).1
                    have ka0 : wa0.cell? ⟨b, 0, none⟩ = some (.slice soR F.length rc') := (three_of hba0).1
                    have kb0 : wb0.cell? ⟨b, 0, none⟩ = some (.slice soR F.length rc') := (three_of hbb0).1
                    have zz0 : wb0.frozen? ⟨b, 0, none⟩ = false := by simp only [World.frozen?, hbb0]; rfl
                    have HOB0 := hide ob0
                    have HGB0 := hide gb0
                    have HBB0 := hide hbb0
                    clear hbX0 hba0 hbb0
                    have HGS0 : Hid (∀ b1 b2 b3 w', insJ WC.drew X0 wa0 wb0 b1 b2 b3 w' → Grow WC w') := hide (insJ_grow (grow_drewR WC 1) gX0 ga0 gb0)
                    have HRA0 := hide ra0
                    have HRB0 := hide rb0
                    clear ob0 gX0 ga0 gb0 ra0 rb0
                    refine wp_region_state 13 185 mixedR rfl (by decide +kernel) (fun L vals w' => insJ WC.drew X0 wa0 wb0 (L 6) (L 11) (L 12) w')
                      (fun L vals h => by simp only [h]; rfl)
                      (fun j v => match j with
                        | 0 => v = .pointer (some ⟨b, 0, none⟩)
                        | 1 => v = .slice soR F.length rc'
                        | 2 => v = .int .i64 a
                        | 3 => v = .int .i64 a
                        | 4 => v = .slice soR a a
                        | 5 => v = .agg #[.int .i64 x.1, .slice ao4 x.2.length cp4]
                        | 6 => v = .slice (some ⟨WC.heap.size, 0, none⟩) 1 1
                        | 7 => v = .pointer (some ⟨b, 0, none⟩)
                        | 8 => v = .slice soR F.length rc'
                        | 9 => v = .int .i64 a
                        | 10 => v = .slice sp0 (F.length - a) (rc' - a)
                        | 11 => v = .slice (some ⟨gg0, 0, none⟩) (1 + (F.length - a)) cc0
                        | 12 => v = .slice vo0 (a + (1 + (F.length - a))) vc0
                        | _ => True)
                      (fun _ _ => False) (fun _ _ _ _ h => h.elim) (fun j hj oo ho a2 w2 L vals hLi hLc hLe hJ hoff hval hdep => ?_) (fun vals w2 L hL hJ hvals => ?_)
                    · have hJ0 := hJ
                      have hgw2 := HGS0.out _ _ _ _ hJ
                      have kk := (three_of (hgw2.get HBX0.out)).1
                      have kx0 := (two_of (hgw2.get HXB.out)).1
                      have kx1 := (two_of (hgw2.get HXB.out)).2
                      have hno : ∀ p q : Nat, q ∈ edgesB _ p → L q = false → L p = false := fun p q hpq hq => by
                        cases h : L p with
                        | false => rfl
                        | true => have := hLc p h q hpq; rw [hq] at this; cases this
                      match j, hj with
                      | 0, _ =>
                        obtain rfl := Option.some.inj ho
                        have o6 := hoff 6 (by decide +kernel)
                        simp at o6
                        simp [opYields, go_sem, o6]
                        exact hJ
                      | 1, _ =>
                        obtain rfl := Option.some.inj ho
                        have d0 := hdep 0 (by decide +kernel)
                        simp [slotOf, dstOf] at d0
                        simp [opYields, go_sem, d0, kk]
                        exact hJ
                      | 2, _ =>
                        obtain rfl := Option.some.inj ho
                        have o9 := hoff 9 (by decide +kernel)
                        simp at o9
                        simp [opYields, go_sem, o9]
                        exact hJ
                      | 3, _ =>
                        obtain rfl := Option.some.inj ho
                        have o9 := hoff 9 (by decide +kernel)
                        simp at o9
                        simp [opYields, go_sem, o9]
                        exact hJ
                      | 4, _ =>
                        obtain rfl := Option.some.inj ho
                        have d1 := hdep 1 (by decide +kernel)
                        simp [slotOf, dstOf] at d1
                        have d2 := hdep 2 (by decide +kernel)
                        simp [slotOf, dstOf] at d2
                        have d3 := hdep 3 (by decide +kernel)
                        simp [slotOf, dstOf] at d3
                        simp [opYields, go_sem, d1, d2, d3, hale2, hd_r, hz_r, Tryz.underlying22, hin1, hx1]
                        exact hJ
                      | 5, _ =>
                        obtain rfl := Option.some.inj ho
                        have o8 := hoff 8 (by decide +kernel)
                        simp at o8
                        simp [opYields, go_sem, o8, kx0, kx1]
                        exact hJ
                      | 6, _ =>
                        obtain rfl := Option.some.inj ho
                        have hi1 := hno 11 6 (by decide +kernel) hLi
                        have hi2 := hno 12 11 (by decide +kernel) hi1
                        obtain rfl : w2 = WC.drew := by rw [hLi, hi1, hi2] at hJ; exact hJ
                        have d5 := hdep 5 (by decide +kernel)
                        simp [slotOf, dstOf] at d5
                        simp [opYields, go_sem, d5, hin1, hx1]
                        exact insJ_one hi1 hi2 eX0
                      | 7, _ =>
                        obtain rfl := Option.some.inj ho
                        have o6 := hoff 6 (by decide +kernel)
                        simp at o6
                        simp [opYields, go_sem, o6]
                        exact hJ
                      | 8, _ =>
                        obtain rfl := Option.some.inj ho
                        have d7 := hdep 7 (by decide +kernel)
                        simp [slotOf, dstOf] at d7
                        simp [opYields, go_sem, d7, kk]
                        exact hJ
                      | 9, _ =>
                        obtain rfl := Option.some.inj ho
                        have o9 := hoff 9 (by decide +kernel)
                        simp at o9
                        simp [opYields, go_sem, o9]
                        exact hJ
                      | 10, _ =>
                        obtain rfl := Option.some.inj ho
                        have d8 := hdep 8 (by decide +kernel)
                        simp [slotOf, dstOf] at d8
                        have d9 := hdep 9 (by decide +kernel)
                        simp [slotOf, dstOf] at d9
                        simp [opYields, go_sem, d8, d9, hale2, hsp0, Tryz.underlying22, hin1, hx1]
                        exact hJ
                      | 11, _ =>
                        obtain rfl := Option.some.inj ho
                        have hb1 := hLe 6 (by decide +kernel)
                        have hi2 := hno 12 11 (by decide +kernel) hLi
                        obtain rfl : w2 = X0 := by rw [hb1, hLi, hi2] at hJ; exact hJ
                        have d1 := hdep 6 (by decide +kernel)
                        have d2 := hdep 10 (by decide +kernel)
                        simp [slotOf, dstOf] at d1 d2
                        exact yields_append rfl (.tmp 105) (.tmp 109) _ _ rfl (v1 := .slice (some ⟨WC.heap.size, 0, none⟩) 1 1) (v2 := .slice sp0 (F.length - a) (rc' - a)) (by simpa [Act.eval] using d1) (by simpa [Act.eval] using d2) HRA0.out ⟨insJ_two hi2, rfl⟩
                      | 12, _ =>
                        obtain rfl := Option.some.inj ho
                        have hb1 := hLe 11 (by decide +kernel)
                        obtain rfl : w2 = wa0 := by rw [hb1, hLi] at hJ; exact hJ
                        have d1 := hdep 4 (by decide +kernel)
                        have d2 := hdep 11 (by decide +kernel)
                        simp [slotOf, dstOf] at d1 d2
                        exact yields_append rfl (.tmp 103) (.tmp 110) _ _ rfl (v1 := .slice soR a a) (v2 := .slice (some ⟨gg0, 0, none⟩) (1 + (F.length - a)) cc0) (by simpa [Act.eval] using d1) (by simpa [Act.eval] using d2) HRB0.out ⟨insJ_three, rfl⟩
                      | z + 13, h => exact absurd h (by omega)
                    · obtain rfl : wb0 = w2 := by rw [hL 12 (by omega)] at hJ; exact hJ.symm
                      have hv0 := hvals 0 (by omega)
                      have hv1 := hvals 1 (by omega)
                      have hv2 := hvals 2 (by omega)
                      have hv3 := hvals 3 (by omega)
                      have hv4 := hvals 4 (by omega)
                      have hv5 := hvals 5 (by omega)
                      have hv6 := hvals 6 (by omega)
                      have hv7 := hvals 7 (by omega)
                      have hv8 := hvals 8 (by omega)
                      have hv9 := hvals 9 (by omega)
                      have hv10 := hvals 10 (by omega)
                      have hv11 := hvals 11 (by omega)
                      have hv12 := hvals 12 (by omega)
                      simp only at hv0 hv1 hv2 hv3 hv4 hv5 hv6 hv7 hv8 hv9 hv10 hv11 hv12
                      clear hvals hL hJ
                      simp [over, dstOf, Act.put, hv0, hv1, hv2, hv3, hv4, hv5, hv6, hv7, hv8, hv9, hv10, hv11, hv12]
                      clear hv0 hv1 hv2 hv3 hv4 hv5 hv6 hv7 hv8 hv9 hv10 hv11 hv12
                      have HGWC := hide HM1.out.gr
                      have HR1 := hide HM1.out.k.l
                      have HR2 := hide HM1.out.k.h
                      go_wp2
                      obtain ⟨WD, eWD⟩ : ∃ W, wb0.setCell ⟨b, 0, none⟩ (.slice vo0 (a + (1 + (F.length - a))) vc0) = W := ⟨_, rfl⟩
                      rw [eWD]
                      have hGWD : Grow V3 WD := by rw [← eWD]; exact Below.setCell (HGWC.out.trans HGB0.out) hbb _
                      have hBWD := set3 HBB0.out 0 (.slice vo0 (a + (1 + (F.length - a))) vc0)
                      rw [eWD] at hBWD
                      have hO0 := ownsRow_setCell_other (a := ⟨b, 0, none⟩) (own_le HOB0.out HGWC.out.size) (own_apart (own_le HOB0.out HGWC.out.size) HBB0.out (by decide)) (.slice vo0 (a + (1 + (F.length - a))) vc0)
                      rw [eWD] at hO0
                      have HO0 := hide hO0
                      have hR1 := ownsRow_setCell_other (a := ⟨b, 0, none⟩) (own_grow HR1.out HGB0.out) (own_apart (own_grow HR1.out HGB0.out) HBB0.out (by decide)) (.slice vo0 (a + (1 + (F.length - a))) vc0)
                      rw [eWD] at hR1
                      clear HR1
                      have HR1 := hide hR1
                      clear hR1
                      have hR2 := ownsRow_setCell_other (a := ⟨b, 0, none⟩) (own_grow HR2.out HGB0.out) (own_apart (own_grow HR2.out HGB0.out) HBB0.out (by decide)) (.slice vo0 (a + (1 + (F.length - a))) vc0)
                      rw [eWD] at hR2
                      clear HR2
                      have HR2 := hide hR2
                      clear hR2
                      have HBX1 := hide hBWD
                      have HGWD := hide hGWD
                      clear hBWD hGWD hO0 HBB0 HOB0 HGB0 HRA0 HRB0 HGS0 eWD kd0 kx0 ka0 kb0 zz0 eX0 hsp0
                      obtain ⟨sp1, hsp1⟩ : ∃ s, (if lc' = a then lo' else Option.map (fun y => y.add a) lo') = s := ⟨_, rfl⟩
                      obtain ⟨X1, wa1, wb1, v1, gg1, cc1, eX1, gX1, ga1, gb1, ra1, rb1, ob1⟩ := ins_row (P := Tryz.prog) WD V3.heap.size 23 23 23 3 i2 _ 1 8 Tryz.underlying23 hin2 hy0 hy1 hy2 rfl (by decide) lo' F.length lc' _ HR1.out #[.int .i64 0] rfl (by simp [Value.oneCell']) (fun y hy => by unfold intsV at hy; obtain ⟨z, _, rfl⟩ := List.mem_map.1 hy; rfl) a hale sp1 (by simpa using hsp1) (by unfold maxLen; omega) (by omega)
                      obtain ⟨vo1, vc1, hv1⟩ := own_shape ob1
                      subst hv1
                      have hbX1 := gX1.get HBX1.out
                      have hba1 := ga1.get HBX1.out
                      have hbb1 := gb1.get HBX1.out
                      have kd1 : WD.drew.cell? ⟨b, 1, none⟩ = some (.slice lo' F.length lc') := (three_of HBX1.out).2.1
                      have kx1 : X1.cell? ⟨b, 1, none⟩ = some (.slice lo' F.length lc') := (three_of hbX1).2.1
                      have ka1 : wa1.cell? ⟨b, 1, none⟩ = some (.slice lo' F.length lc') := (three_of hba1).2.1
                      have kb1 : wb1.cell? ⟨b, 1, none⟩ = some (.slice lo' F.length lc') := (three_of hbb1).2.1
                      have zz1 : wb1.frozen? ⟨b, 1, none⟩ = false := by simp only [World.frozen?, hbb1]; rfl
                      have HOB1 := hide ob1
                      have HGB1 := hide gb1
                      have HBB1 := hide hbb1
                      clear hbX1 hba1 hbb1
                      have HGS1 : Hid (∀ b1 b2 b3 w', insJ WD.drew X1 wa1 wb1 b1 b2 b3 w' → Grow WD w') := hide (insJ_grow (grow_drewR WD 1) gX1 ga1 gb1)
                      have HRA1 := hide ra1
                      have HRB1 := hide rb1
                      clear ob1 gX1 ga1 gb1 ra1 rb1
                      refine wp_region_state 12 185 mixedR rfl (by decide +kernel) (fun L vals w' => insJ WD.drew X1 wa1 wb1 (L 5) (L 10) (L 11) w')
                        (fun L vals h => by simp only [h]; rfl)
                        (fun j v => match j with
                          | 0 => v = .pointer (some ⟨b, 1, none⟩)
                          | 1 => v = .slice lo' F.length lc'
                          | 2 => v = .int .i64 a
                          | 3 => v = .int .i64 a
                          | 4 => v = .slice lo' a a
                          | 5 => v = .slice (some ⟨WD.heap.size, 0, none⟩) 1 1
                          | 6 => v = .pointer (some ⟨b, 1, none⟩)
                          | 7 => v = .slice lo' F.length lc'
                          | 8 => v = .int .i64 a
                          | 9 => v = .slice sp1 (F.length - a) (lc' - a)
                          | 10 => v = .slice (some ⟨gg1, 0, none⟩) (1 + (F.length - a)) cc1
                          | 11 => v = .slice vo1 (a + (1 + (F.length - a))) vc1
                          | _ => True)
                        (fun _ _ => False) (fun _ _ _ _ h => h.elim) (fun j hj oo ho a2 w2 L vals hLi hLc hLe hJ hoff hval hdep => ?_) (fun vals w2 L hL hJ hvals => ?_)
                      · have hJ0 := hJ
                        have hgw2 := HGS1.out _ _ _ _ hJ
                        have kk := (three_of (hgw2.get HBX1.out)).2.1
                        have hno : ∀ p q : Nat, q ∈ edgesB _ p → L q = false → L p = false := fun p q hpq hq => by
                          cases h : L p with
                          | false => rfl
                          | true => have := hLc p h q hpq; rw [hq] at this; cases this
                        match j, hj with
                        | 0, _ =>
                          obtain rfl := Option.some.inj ho
                          have o6 := hoff 6 (by decide +kernel)
                          simp at o6
                          simp [opYields, go_sem, o6]
                          exact hJ
                        | 1, _ =>
                          obtain rfl := Option.some.inj ho
                          have d0 := hdep 0 (by decide +kernel)
                          simp [slotOf, dstOf] at d0
                          simp [opYields, go_sem, d0, kk]
                          exact hJ
                        | 2, _ =>
                          obtain rfl := Option.some.inj ho
                          have o9 := hoff 9 (by decide +kernel)
                          simp at o9
                          simp [opYields, go_sem, o9]
                          exact hJ
                        | 3, _ =>
                          obtain rfl := Option.some.inj ho
                          have o9 := hoff 9 (by decide +kernel)
                          simp at o9
                          simp [opYields, go_sem, o9]
                          exact hJ
                        | 4, _ =>
                          obtain rfl := Option.some.inj ho
                          have d1 := hdep 1 (by decide +kernel)
                          simp [slotOf, dstOf] at d1
                          have d2 := hdep 2 (by decide +kernel)
                          simp [slotOf, dstOf] at d2
                          have d3 := hdep 3 (by decide +kernel)
                          simp [slotOf, dstOf] at d3
                          simp [opYields, go_sem, d1, d2, d3, hale2, hd_l, hz_l, Tryz.underlying23, hin2, hy1]
                          exact hJ
                        | 5, _ =>
                          obtain rfl := Option.some.inj ho
                          have hi1 := hno 10 5 (by decide +kernel) hLi
                          have hi2 := hno 11 10 (by decide +kernel) hi1
                          obtain rfl : w2 = WD.drew := by rw [hLi, hi1, hi2] at hJ; exact hJ
                          simp [opYields, go_sem, hin2, hy1]
                          exact insJ_one hi1 hi2 eX1
                        | 6, _ =>
                          obtain rfl := Option.some.inj ho
                          have o6 := hoff 6 (by decide +kernel)
                          simp at o6
                          simp [opYields, go_sem, o6]
                          exact hJ
                        | 7, _ =>
                          obtain rfl := Option.some.inj ho
                          have d6 := hdep 6 (by decide +kernel)
                          simp [slotOf, dstOf] at d6
                          simp [opYields, go_sem, d6, kk]
                          exact hJ
                        | 8, _ =>
                          obtain rfl := Option.some.inj ho
                          have o9 := hoff 9 (by decide +kernel)
                          simp at o9
                          simp [opYields, go_sem, o9]
                          exact hJ
                        | 9, _ =>
                          obtain rfl := Option.some.inj ho
                          have d7 := hdep 7 (by decide +kernel)
                          simp [slotOf, dstOf] at d7
                          have d8 := hdep 8 (by decide +kernel)
                          simp [slotOf, dstOf] at d8
                          simp [opYields, go_sem, d7, d8, hale2, hsp1, Tryz.underlying23, hin2, hy1]
                          exact hJ
                        | 10, _ =>
                          obtain rfl := Option.some.inj ho
                          have hb1 := hLe 5 (by decide +kernel)
                          have hi2 := hno 11 10 (by decide +kernel) hLi
                          obtain rfl : w2 = X1 := by rw [hb1, hLi, hi2] at hJ; exact hJ
                          have d1 := hdep 5 (by decide +kernel)
                          have d2 := hdep 9 (by decide +kernel)
                          simp [slotOf, dstOf] at d1 d2
                          exact yields_append rfl (.tmp 118) (.tmp 122) _ _ rfl (v1 := .slice (some ⟨WD.heap.size, 0, none⟩) 1 1) (v2 := .slice sp1 (F.length - a) (lc' - a)) (by simpa [Act.eval] using d1) (by simpa [Act.eval] using d2) HRA1.out ⟨insJ_two hi2, rfl⟩
                        | 11, _ =>
                          obtain rfl := Option.some.inj ho
                          have hb1 := hLe 10 (by decide +kernel)
                          obtain rfl : w2 = wa1 := by rw [hb1, hLi] at hJ; exact hJ
                          have d1 := hdep 4 (by decide +kernel)
                          have d2 := hdep 10 (by decide +kernel)
                          simp [slotOf, dstOf] at d1 d2
                          exact yields_append rfl (.tmp 117) (.tmp 123) _ _ rfl (v1 := .slice lo' a a) (v2 := .slice (some ⟨gg1, 0, none⟩) (1 + (F.length - a)) cc1) (by simpa [Act.eval] using d1) (by simpa [Act.eval] using d2) HRB1.out ⟨insJ_three, rfl⟩
                        | z + 12, h => exact absurd h (by omega)
                      · obtain rfl : wb1 = w2 := by rw [hL 11 (by omega)] at hJ; exact hJ.symm
                        have hv0 := hvals 0 (by omega)
                        have hv1 := hvals 1 (by omega)
                        have hv2 := hvals 2 (by omega)
                        have hv3 := hvals 3 (by omega)
                        have hv4 := hvals 4 (by omega)
                        have hv5 := hvals 5 (by omega)
                        have hv6 := hvals 6 (by omega)
                        have hv7 := hvals 7 (by omega)
                        have hv8 := hvals 8 (by omega)
                        have hv9 := hvals 9 (by omega)
                        have hv10 := hvals 10 (by omega)
                        have hv11 := hvals 11 (by omega)
                        simp only at hv0 hv1 hv2 hv3 hv4 hv5 hv6 hv7 hv8 hv9 hv10 hv11
                        clear hvals hL hJ
                        simp [over, dstOf, Act.put, hv0, hv1, hv2, hv3, hv4, hv5, hv6, hv7, hv8, hv9, hv10, hv11]
                        clear hv0 hv1 hv2 hv3 hv4 hv5 hv6 hv7 hv8 hv9 hv10 hv11
                        have HR0 := hide HO0.out
                        clear HO0
                        go_wp2
                        obtain ⟨WE, eWE⟩ : ∃ W, wb1.setCell ⟨b, 1, none⟩ (.slice vo1 (a + (1 + (F.length - a))) vc1) = W := ⟨_, rfl⟩
                        rw [eWE]
                        have hGWE : Grow V3 WE := by rw [← eWE]; exact Below.setCell (HGWD.out.trans HGB1.out) hbb _
                        have hBWE := set3 HBB1.out 1 (.slice vo1 (a + (1 + (F.length - a))) vc1)
                        rw [eWE] at hBWE
                        have hO1 := ownsRow_setCell_other (a := ⟨b, 1, none⟩) (own_le HOB1.out HGWD.out.size) (own_apart (own_le HOB1.out HGWD.out.size) HBB1.out (by decide)) (.slice vo1 (a + (1 + (F.length - a))) vc1)
                        rw [eWE] at hO1
                        have HO1 := hide hO1
                        have hR0 := ownsRow_setCell_other (a := ⟨b, 1, none⟩) (own_grow HR0.out HGB1.out) (own_apart (own_grow HR0.out HGB1.out) HBB1.out (by decide)) (.slice vo1 (a + (1 + (F.length - a))) vc1)
                        rw [eWE] at hR0
                        clear HR0
                        have HR0 := hide hR0
                        clear hR0
                        have hR2 := ownsRow_setCell_other (a := ⟨b, 1, none⟩) (own_grow HR2.out HGB1.out) (own_apart (own_grow HR2.out HGB1.out) HBB1.out (by decide)) (.slice vo1 (a + (1 + (F.length - a))) vc1)
                        rw [eWE] at hR2
                        clear HR2
                        have HR2 := hide hR2
                        clear hR2
                        have HBX2 := hide hBWE
                        have HGWE := hide hGWE
                        clear hBWE hGWE hO1 HBB1 HOB1 HGB1 HRA1 HRB1 HGS1 eWE kd1 kx1 ka1 kb1 zz1 eX1 hsp1
                        obtain ⟨sp2, hsp2⟩ : ∃ s, (if bc' = a then bo' else Option.map (fun y => y.add a) bo') = s := ⟨_, rfl⟩
                        obtain ⟨X2, wa2, wb2, v2, gg2, cc2, eX2, gX2, ga2, gb2, ra2, rb2, ob2⟩ := ins_row (P := Tryz.prog) WE V3.heap.size 24 24 24 4 i3 _ 1 1 Tryz.underlying24 hin3 hz0 hz1 hz2 rfl (by decide) bo' F.length bc' _ HR2.out #[.bool false] rfl (by simp [Value.oneCell']) (fun y hy => by unfold boolsV at hy; obtain ⟨z, _, rfl⟩ := List.mem_map.1 hy; rfl) a hale sp2 (by simpa using hsp2) (by unfold maxLen; omega) (by omega)
                        obtain ⟨vo2, vc2, hv2⟩ := own_shape ob2
                        subst hv2
                        have hbX2 := gX2.get HBX2.out
                        have hba2 := ga2.get HBX2.out
                        have hbb2 := gb2.get HBX2.out
                        have kd2 : WE.drew.cell? ⟨b, 2, none⟩ = some (.slice bo' F.length bc') := (three_of HBX2.out).2.2
                        have kx2 : X2.cell? ⟨b, 2, none⟩ = some (.slice bo' F.length bc') := (three_of hbX2).2.2
                        have ka2 : wa2.cell? ⟨b, 2, none⟩ = some (.slice bo' F.length bc') := (three_of hba2).2.2
                        have kb2 : wb2.cell? ⟨b, 2, none⟩ = some (.slice bo' F.length bc') := (three_of hbb2).2.2
                        have zz2 : wb2.frozen? ⟨b, 2, none⟩ = false := by simp only [World.frozen?, hbb2]; rfl
                        have HOB2 := hide ob2
                        have HGB2 := hide gb2
                        have HBB2 := hide hbb2
                        clear hbX2 hba2 hbb2
                        have HGS2 : Hid (∀ b1 b2 b3 w', insJ WE.drew X2 wa2 wb2 b1 b2 b3 w' → Grow WE w') := hide (insJ_grow (grow_drewR WE 1) gX2 ga2 gb2)
                        have HRA2 := hide ra2
                        have HRB2 := hide rb2
                        clear ob2 gX2 ga2 gb2 ra2 rb2
                        refine wp_region_state 12 185 mixedR rfl (by decide +kernel) (fun L vals w' => insJ WE.drew X2 wa2 wb2 (L 5) (L 10) (L 11) w')
                          (fun L vals h => by simp only [h]; rfl)
                          (fun j v => match j with
                            | 0 => v = .pointer (some ⟨b, 2, none⟩)
                            | 1 => v = .slice bo' F.length bc'
                            | 2 => v = .int .i64 a
                            | 3 => v = .int .i64 a
                            | 4 => v = .slice bo' a a
                            | 5 => v = .slice (some ⟨WE.heap.size, 0, none⟩) 1 1
                            | 6 => v = .pointer (some ⟨b, 2, none⟩)
                            | 7 => v = .slice bo' F.length bc'
                            | 8 => v = .int .i64 a
                            | 9 => v = .slice sp2 (F.length - a) (bc' - a)
                            | 10 => v = .slice (some ⟨gg2, 0, none⟩) (1 + (F.length - a)) cc2
                            | 11 => v = .slice vo2 (a + (1 + (F.length - a))) vc2
                            | _ => True)
                          (fun _ _ => False) (fun _ _ _ _ h => h.elim) (fun j hj oo ho a2 w2 L vals hLi hLc hLe hJ hoff hval hdep => ?_) (fun vals w2 L hL hJ hvals => ?_)
                        · have hJ0 := hJ
                          have hgw2 := HGS2.out _ _ _ _ hJ
                          have kk := (three_of (hgw2.get HBX2.out)).2.2
                          have hno : ∀ p q : Nat, q ∈ edgesB _ p → L q = false → L p = false := fun p q hpq hq => by
                            cases h : L p with
                            | false => rfl
                            | true => have := hLc p h q hpq; rw [hq] at this; cases this
                          match j, hj with
                          | 0, _ =>
                            obtain rfl := Option.some.inj ho
                            have o6 := hoff 6 (by decide +kernel)
                            simp at o6
                            simp [opYields, go_sem, o6]
                            exact hJ
                          | 1, _ =>
                            obtain rfl := Option.some.inj ho
                            have d0 := hdep 0 (by decide +kernel)
                            simp [slotOf, dstOf] at d0
                            simp [opYields, go_sem, d0, kk]
                            exact hJ
                          | 2, _ =>
                            obtain rfl := Option.some.inj ho
                            have o9 := hoff 9 (by decide +kernel)
                            simp at o9
                            simp [opYields, go_sem, o9]
                            exact hJ
                          | 3, _ =>
                            obtain rfl := Option.some.inj ho
                            have o9 := hoff 9 (by decide +kernel)
                            simp at o9
                            simp [opYields, go_sem, o9]
                            exact hJ
                          | 4, _ =>
                            obtain rfl := Option.some.inj ho
                            have d1 := hdep 1 (by decide +kernel)
                            simp [slotOf, dstOf] at d1
                            have d2 := hdep 2 (by decide +kernel)
                            simp [slotOf, dstOf] at d2
                            have d3 := hdep 3 (by decide +kernel)
                            simp [slotOf, dstOf] at d3
                            simp [opYields, go_sem, d1, d2, d3, hale2, hd_b, hz_b, Tryz.underlying24, hin3, hz1]
                            exact hJ
                          | 5, _ =>
                            obtain rfl := Option.some.inj ho
                            have hi1 := hno 10 5 (by decide +kernel) hLi
                            have hi2 := hno 11 10 (by decide +kernel) hi1
                            obtain rfl : w2 = WE.drew := by rw [hLi, hi1, hi2] at hJ; exact hJ
                            simp [opYields, go_sem, hin3, hz1]
                            exact insJ_one hi1 hi2 eX2
                          | 6, _ =>
                            obtain rfl := Option.some.inj ho
                            have o6 := hoff 6 (by decide +kernel)
                            simp at o6
                            simp [opYields, go_sem, o6]
                            exact hJ
                          | 7, _ =>
                            obtain rfl := Option.some.inj ho
                            have d6 := hdep 6 (by decide +kernel)
                            simp [slotOf, dstOf] at d6
                            simp [opYields, go_sem, d6, kk]
                            exact hJ
                          | 8, _ =>
                            obtain rfl := Option.some.inj ho
                            have o9 := hoff 9 (by decide +kernel)
                            simp at o9
                            simp [opYields, go_sem, o9]
                            exact hJ
                          | 9, _ =>
                            obtain rfl := Option.some.inj ho
                            have d7 := hdep 7 (by decide +kernel)
                            simp [slotOf, dstOf] at d7
                            have d8 := hdep 8 (by decide +kernel)
                            simp [slotOf, dstOf] at d8
                            simp [opYields, go_sem, d7, d8, hale2, hsp2, Tryz.underlying24, hin3, hz1]
                            exact hJ
                          | 10, _ =>
                            obtain rfl := Option.some.inj ho
                            have hb1 := hLe 5 (by decide +kernel)
                            have hi2 := hno 11 10 (by decide +kernel) hLi
                            obtain rfl : w2 = X2 := by rw [hb1, hLi, hi2] at hJ; exact hJ
                            have d1 := hdep 5 (by decide +kernel)
                            have d2 := hdep 9 (by decide +kernel)
                            simp [slotOf, dstOf] at d1 d2
                            exact yields_append rfl (.tmp 131) (.tmp 135) _ _ rfl (v1 := .slice (some ⟨WE.heap.size, 0, none⟩) 1 1) (v2 := .slice sp2 (F.length - a) (bc' - a)) (by simpa [Act.eval] using d1) (by simpa [Act.eval] using d2) HRA2.out ⟨insJ_two hi2, rfl⟩
                          | 11, _ =>
                            obtain rfl := Option.some.inj ho
                            have hb1 := hLe 10 (by decide +kernel)
                            obtain rfl : w2 = wa2 := by rw [hb1, hLi] at hJ; exact hJ
                            have d1 := hdep 4 (by decide +kernel)
                            have d2 := hdep 10 (by decide +kernel)
                            simp [slotOf, dstOf] at d1 d2
                            exact yields_append rfl (.tmp 130) (.tmp 136) _ _ rfl (v1 := .slice bo' a a) (v2 := .slice (some ⟨gg2, 0, none⟩) (1 + (F.length - a)) cc2) (by simpa [Act.eval] using d1) (by simpa [Act.eval] using d2) HRB2.out ⟨insJ_three, rfl⟩
                          | z + 12, h => exact absurd h (by omega)
                        · obtain rfl : wb2 = w2 := by rw [hL 11 (by omega)] at hJ; exact hJ.symm
                          have hv0 := hvals 0 (by omega)
                          have hv1 := hvals 1 (by omega)
                          have hv2 := hvals 2 (by omega)
                          have hv3 := hvals 3 (by omega)
                          have hv4 := hvals 4 (by omega)
                          have hv5 := hvals 5 (by omega)
                          have hv6 := hvals 6 (by omega)
                          have hv7 := hvals 7 (by omega)
                          have hv8 := hvals 8 (by omega)
                          have hv9 := hvals 9 (by omega)
                          have hv10 := hvals 10 (by omega)
                          have hv11 := hvals 11 (by omega)
                          simp only at hv0 hv1 hv2 hv3 hv4 hv5 hv6 hv7 hv8 hv9 hv10 hv11
                          clear hvals hL hJ
                          simp [over, dstOf, Act.put, hv0, hv1, hv2, hv3, hv4, hv5, hv6, hv7, hv8, hv9, hv10, hv11]
                          clear hv0 hv1 hv2 hv3 hv4 hv5 hv6 hv7 hv8 hv9 hv10 hv11
                          have HRL := hide HO1.out
                          clear HO1
                          go_wp2
                          obtain ⟨WF, eWF⟩ : ∃ W, wb2.setCell ⟨b, 2, none⟩ (.slice vo2 (a + (1 + (F.length - a))) vc2) = W := ⟨_, rfl⟩
                          rw [eWF]
                          have hGWF : Grow V3 WF := by rw [← eWF]; exact Below.setCell (HGWE.out.trans HGB2.out) hbb _
                          have hBWF := set3 HBB2.out 2 (.slice vo2 (a + (1 + (F.length - a))) vc2)
                          rw [eWF] at hBWF
                          have hO2 := ownsRow_setCell_other (a := ⟨b, 2, none⟩) (own_le HOB2.out HGWE.out.size) (own_apart (own_le HOB2.out HGWE.out.size) HBB2.out (by decide)) (.slice vo2 (a + (1 + (F.length - a))) vc2)
                          rw [eWF] at hO2
                          have HO2 := hide hO2
                          have hR0 := ownsRow_setCell_other (a := ⟨b, 2, none⟩) (own_grow HR0.out HGB2.out) (own_apart (own_grow HR0.out HGB2.out) HBB2.out (by decide)) (.slice vo2 (a + (1 + (F.length - a))) vc2)
                          rw [eWF] at hR0
                          clear HR0
                          have HR0 := hide hR0
                          clear hR0
                          have hRL := ownsRow_setCell_other (a := ⟨b, 2, none⟩) (own_grow HRL.out HGB2.out) (own_apart (own_grow HRL.out HGB2.out) HBB2.out (by decide)) (.slice vo2 (a + (1 + (F.length - a))) vc2)
                          rw [eWF] at hRL
                          clear HRL
                          have HRL := hide hRL
                          clear hRL
                          have HBX3 := hide hBWF
                          have HGWF := hide hGWF
                          clear hBWF hGWF hO2 HBB2 HOB2 HGB2 HRA2 HRB2 HGS2 eWF kd2 kx2 ka2 kb2 zz2 eX2 hsp2
                          have HIF := hide (ins_facts HF.out HKN.out HXE.out hfull)
                          have HIG : Hid (refsGo D r.refs = refsGo (insK (x, 0, false) F) (r.refs.drop (i + 1))) := hide (by rw [HGF.out, HDR.out]; exact ins_go HKN.out hfull)
                          have hins := LK.ins (S := S) (w := w) (W := WF) (B := V3.heap.size) (B1 := 0) (B2 := 0) (B3 := 0) (D := F) (x := x) (v := .slice ao4 x.2.length cp4) HM1.out.k.len HM1.out.k.labs ⟨HXL.out, HXS.out⟩ (by rw [HA.out]; exact HR0.out) (by rw [HA.out]; exact HRL.out) (by rw [HA.out]; exact HO2.out)
                          have hinl : (insK (x, 0, false) F).length = a + (1 + (F.length - a)) := by rw [← HA.out]; have := aheadK_le F x.1; simp [insK]; omega
                          rw [← hinl] at hins
                          have hlo : LO S w V3 WF b _ _ _ _ (insK (x, 0, false) F) := ⟨HGWF.out, hbb, by rw [hinl]; exact HBX3.out, hins⟩
                          exact ⟨⟨i + 1, _, _, _, _, insK (x, 0, false) F, by omega, by go_num, hide hlo, HIF, HIG⟩, by simp [intOf]; omega⟩
      · obtain rfl : i = r.refs.length := by omega
        have HGE : Hid (refsGo D r.refs = some F) := hide (by rw [HGF.out, List.drop_length]; rfl)
        have HFD := hide HF.out.1
        have HFL := hide HF.out.2.2.2
        clear hlt hgw
        go_wp2
        clear k0 k1 k2 r0 r1 r2
        go_loopw [11] (fun x11 wm => ∃ (j : Nat) (uR uL uH : Value) (ts : List (Int × Value)) (G : List Kp), j ≤ r.points.length ∧ x11 = .int .i64 j ∧ Hid (LO S w V3 wm b uR uL uH ts G) ∧ Hid (Dist G ∧ G.length ≤ 1000) ∧ Hid (pntsGo F r.points = pntsGo G (r.points.drop j))) (fun x11 _ => r.points.length - (intOf x11).toNat)
        case atStart => exact ⟨0, _, _, _, qs, F, by omega, rfl, HJ, hide ⟨HFD.out, HFL.out⟩, hide rfl⟩
        case round =>
          obtain ⟨j, uR, uL, uH, ts, G, hj, rfl, HP, HG, HGP⟩ := hrel
          rename World => wm
          obtain ⟨so, sc, huR⟩ := own_shape HP.out.k.r
          obtain ⟨to, tc, huL⟩ := own_shape HP.out.k.l
          obtain ⟨uo', uc', huH⟩ := own_shape HP.out.k.h
          subst huR huL huH
          have hgm : Grow w wm := HG3.out.trans HP.out.gr
          obtain ⟨r0, r1, r2⟩ := three_of (HP.out.gr.get HB2.out)
          have hb3l := HP.out.gr.get HB3.out
          obtain ⟨o0, o1, o2⟩ := three_of hb3l
          by_cases hlt : j < r.points.length
          · have hlti : (j : Int) < (r.points.length : Int) := by omega
            obtain ⟨xb, xo, rfl, hxb, x0, x1, x2⟩ := HPD.out j hlt
            have y0 := (hgm.cell (p := ⟨xb, xo + j * 3, none⟩) hxb).trans x0
            have y1 := (hgm.cell (p := ⟨xb, xo + j * 3 + 1, none⟩) hxb).trans x1
            have y2 := (hgm.cell (p := ⟨xb, xo + j * 3 + 2, none⟩) hxb).trans x2
            have hdr : r.points.drop j = r.points[j] :: r.points.drop (j + 1) := List.drop_eq_getElem_cons hlt
            obtain ⟨p, HX⟩ : ∃ p, Hid (r.points[j] = p) := ⟨_, hide rfl⟩
            rw [HX.out] at y0 y1 y2 hdr
            have HDR := hide hdr
            obtain ⟨V4, e4, g4, b4⟩ := laid_at wm #[.int .i64 p.1, .int .i64 p.2.1, .int .u64 (p.2.2 : Nat)] 64
            have HP4 := hide (HP.out.grow g4)
            have HB4 := hide b4
            have HGm := hide (hgm.trans g4)
            obtain ⟨x40, x41, x42⟩ := three_of b4
            have HRA := hide (refAt_any V4 _ to G.length tc uo' G.length uc' _ p.1 (HP4.out.k.reads HGm.out).1 (by simp [knwOf]; have := HG.out.2; omega))
            obtain ⟨n0, n1, n2⟩ := three_of HP4.out.at'
            clear x0 x1 x2 hdr g4 b4 hgm o0 o1 o2 hb3l
            go_wp2_with fail
            refine HRA.out.mono ?_
            rintro e w5 ⟨rfl, hg5⟩
            have HP5 := hide (HP4.out.grow hg5)
            have HB5 := hide ((show Grow V4 w5 from hg5).get HB4.out)
            have HG5 := hide (HGm.out.trans hg5)
            clear hg5 HRA n0 n1 n2 x40 x41 x42 y0 y1 y2 r0 r1 r2 e4
            have hb3l := HP5.out.gr.get HB3.out
            obtain ⟨o0, o1, o2⟩ := three_of hb3l
            have z0 : w5.frozen? ⟨w.heap.size + 1 + 1, 0, none⟩ = false := by simp only [World.frozen?, hb3l]; rfl
            have z1 : w5.frozen? ⟨w.heap.size + 1 + 1, 1, none⟩ = false := by simp only [World.frozen?, hb3l]; rfl
            have z2 : w5.frozen? ⟨w.heap.size + 1 + 1, 2, none⟩ = false := by simp only [World.frozen?, hb3l]; rfl
            rcases refAt_know (x := (p.1, [])) HG.out.1 with ⟨a, ha, hea, hra⟩ | ⟨hna, hra⟩
            · simp only at hra hea
              rw [hra]
              obtain ⟨gr, cr, vx, gl, cl, gh, ch, hv1, hv2, hv3, -, -, -, -, -, -, -, -, -, l0, h0⟩ := HP5.out.k.at ha
              obtain ⟨rfl, rfl⟩ : so = some ⟨gr, 0, none⟩ ∧ sc = cr := by simpa using hv1
              obtain ⟨rfl, rfl⟩ : to = some ⟨gl, 0, none⟩ ∧ tc = cl := by simpa using hv2
              obtain ⟨rfl, rfl⟩ : uo' = some ⟨gh, 0, none⟩ ∧ uc' = ch := by simpa using hv3
              obtain ⟨n0, n1, n2⟩ := three_of HP5.out.at'
              obtain ⟨x40, x41, x42⟩ := three_of HB5.out
              have hai : (a : Int) < (G.length : Int) := by omega
              have hng : decide ((a : Int) < 0) = false := decide_eq_false (by omega)
              have hGl := HG.out.2
              have fz1 : w5.frozen? ⟨gh, a, none⟩ = false := own_frozen HP5.out.k.h
              have fz2 : w5.frozen? ⟨gl, a, none⟩ = false := own_frozen HP5.out.k.l
              have HST : Hid (pntsGo F r.points = pntsGo (updP G p) (r.points.drop (j + 1))) := hide (by
                rw [HGP.out, HDR.out]
                show (pntStep G p).bind _ = _
                rw [pntStep_at ha hea]
                rfl)
              have hgrl : gr ≠ b ∧ gl ≠ b ∧ gh ≠ b := ⟨fun e => own_apart HP5.out.k.r HP5.out.at' (by decide) (by subst e; rfl), fun e => own_apart HP5.out.k.l HP5.out.at' (by decide) (by subst e; rfl), fun e => own_apart HP5.out.k.h HP5.out.at' (by decide) (by subst e; rfl)⟩
              have hne : gl ≠ gh := fun e => by
                rcases own_two HP5.out.k.l HP5.out.k.h (by decide) with h | h
                · simp [Value.ownBlock] at h
                · exact h (by subst e; rfl)
              obtain ⟨la, HLA⟩ : ∃ la, Hid (G[a].2.1 = la) := ⟨_, hide rfl⟩
              obtain ⟨ba, HBA⟩ : ∃ ba, Hid (G[a].2.2 = ba) := ⟨_, hide rfl⟩
              rw [HLA.out] at l0
              rw [HBA.out] at h0
              have hgb : b ≠ gh := fun e => own_apart HP5.out.k.h HP5.out.at' (by decide) (by subst e; rfl)
              have hgp : wm.heap.size ≠ gh := fun e => own_apart HP5.out.k.h HB5.out (by decide) (by rw [e]; rfl)
              have hcb := fun n => (World.cell?_of_block (w := w5) (w' := (w5.drewN n).setCell ⟨gh, a, none⟩ (.bool true)) (a := ⟨b, 1, none⟩) (Below.heap_setCell _ _ _ _ hgb)).trans n1
              have hcp := fun n => (World.cell?_of_block (w := w5) (w' := (w5.drewN n).setCell ⟨gh, a, none⟩ (.bool true)) (a := ⟨wm.heap.size, 1, none⟩) (Below.heap_setCell _ _ _ _ hgp)).trans x41
              have hcx : ∀ n, ((w5.drewN n).setCell ⟨gh, a, none⟩ (.bool true)).cell? ⟨gl, a, none⟩ = some (.int .i64 la) := fun n => (World.cell?_of_block (Below.heap_setCell _ _ _ _ hne)).trans l0
              have hfx : ∀ n, ((w5.drewN n).setCell ⟨gh, a, none⟩ (.bool true)).frozen? ⟨gl, a, none⟩ = false := fun n => (World.frozen?_of_block (Below.heap_setCell _ _ _ _ hne)).trans fz2
              clear hb3l o0 o1 o2 z0 z1 z2 hv1 hv2 hv3 hgrl
              cases ba with
              | false =>
                have hcc : G[a].2.2 = false ∨ G[a].2.1 < p.2.1 := .inl HBA.out
                have HCC := hide hcc
                clear hcc
                go_wp2
                go_quiet (fail)
                go_wp2
                go_region
                go_wp2
                have hU : LO S w V3 (((w5.drewN (nq + 1)).setCell ⟨gh, a, none⟩ (.bool true)).setCell ⟨gl, a, none⟩ (.int .i64 p.2.1)) b _ _ _ ts (updP G p) := (HP5.out.grow (grow_drewR _ (nq + 1))).upd HG.out.1 ha hea HCC.out
                rw [updP_len] at hU
                exact ⟨⟨j + 1, _, _, _, ts, updP G p, by omega, by go_num, hide (by first | exact hU | exact hU.grow ⟨rfl, rfl, rfl, Nat.le_refl _, fun _ _ => rfl⟩ | exact hU.grow (grow_drewR _ _)), hide ⟨HG.out.1.refs (updP_refs _ _), by rw [updP_len]; exact HG.out.2⟩, HST⟩, by simp [intOf]; omega⟩
              | true =>
                by_cases hlt2 : la < p.2.1
                · have hld : decide (la < p.2.1) = true := decide_eq_true hlt2
                  have hcc : G[a].2.2 = false ∨ G[a].2.1 < p.2.1 := .inr (by rw [HLA.out]; exact hlt2)
                  have HCC := hide hcc
                  clear hcc
                  go_wp2
                  go_quiet (fail)
                  go_wp2
                  go_region
                  go_wp2
                  have hU : LO S w V3 (((w5.drewN (nq + 1)).setCell ⟨gh, a, none⟩ (.bool true)).setCell ⟨gl, a, none⟩ (.int .i64 p.2.1)) b _ _ _ ts (updP G p) := (HP5.out.grow (grow_drewR _ (nq + 1))).upd HG.out.1 ha hea HCC.out
                  rw [updP_len] at hU
                  exact ⟨⟨j + 1, _, _, _, ts, updP G p, by omega, by go_num, hide (by first | exact hU | exact hU.grow ⟨rfl, rfl, rfl, Nat.le_refl _, fun _ _ => rfl⟩ | exact hU.grow (grow_drewR _ _)), hide ⟨HG.out.1.refs (updP_refs _ _), by rw [updP_len]; exact HG.out.2⟩, HST⟩, by simp [intOf]; omega⟩
                · have hld : decide (la < p.2.1) = false := decide_eq_false hlt2
                  have hno : updP G p = G := updP_no HG.out.1 ha hea (by rw [HLA.out, HBA.out]; rintro (h | h); cases h; exact hlt2 h)
                  rw [hno] at HST
                  clear hno
                  go_wp2
                  go_quiet (fail)
                  go_wp2
                  exact ⟨⟨j + 1, _, _, _, ts, G, by omega, by go_num, hide (HP5.out.grow (grow_drewR _ _)), HG, HST⟩, by simp [intOf]; omega⟩
            · simp only at hra hna
              rw [hra]
              have HNO : Hid (learnOfR D r = none) := hide (by
                unfold learnOfR
                rw [HGE.out]
                show pntsGo F r.points = none
                rw [HGP.out, HDR.out]
                show (pntStep G p).bind _ = none
                rw [pntStep_no hna]
                rfl)
              clear hb3l
              go_wp2
              refine bodyPost_ret (v := .tuple #[.agg #[.slice none 0 0, .slice none 0 0, .slice none 0 0], .int .i64 5]) (by simp [results, Tryz.results10, go_sem, o0, o1, o2]) rfl ?_
              exact ⟨5, _, _, _, rfl, grow_set3 HG5.out (by omega) _ _ _, by rw [HNO.out]; exact ⟨(by decide : (5 : Nat) ≠ 0), rfl, rfl, rfl⟩⟩
          · obtain rfl : j = r.points.length := by omega
            have HYES : Hid (learnOfR D r = some G) := hide (by
              unfold learnOfR
              rw [HGE.out]
              show pntsGo F r.points = some G
              rw [HGP.out, List.drop_length]
              rfl)
            obtain ⟨n0, n1, n2⟩ := three_of HP.out.at'
            have z0 : wm.frozen? ⟨w.heap.size + 1 + 1, 0, none⟩ = false := by simp only [World.frozen?, hb3l]; rfl
            have z1 : wm.frozen? ⟨w.heap.size + 1 + 1, 1, none⟩ = false := by simp only [World.frozen?, hb3l]; rfl
            have z2 : wm.frozen? ⟨w.heap.size + 1 + 1, 2, none⟩ = false := by simp only [World.frozen?, hb3l]; rfl
            have HB3l := hide hb3l
            clear hb3l
            go_wp2
            have hF := set3 (set3 (set3 HB3l.out 0 (.slice so G.length sc)) 1 (.slice to G.length tc)) 2 (.slice uo' G.length uc')
            obtain ⟨f0, f1, f2⟩ := three_of hF
            refine bodyPost_ret (v := .tuple #[.agg #[.slice so G.length sc, .slice to G.length tc, .slice uo' G.length uc'], .int .i64 0]) (by simp [results, Tryz.results10, go_sem, f0, f1, f2]) rfl ?_
            refine ⟨0, _, _, _, rfl, grow_set3 hgm (by omega) _ _ _, ?_⟩
            rw [HYES.out]
            have h1 := HB3l.out
            have hk1 := ((HP.out.k.setBox (i := 0) h1 (.slice so G.length sc)).setBox (i := 1) (set3 h1 0 _) (.slice to G.length tc)).setBox (i := 2) (set3 (set3 h1 0 _) 1 _) (.slice uo' G.length uc')
            exact ⟨rfl, ts, ⟨own_le hk1.r HG3.out.size, own_le hk1.l HG3.out.size, own_le hk1.h HG3.out.size, hk1.len, hk1.labs⟩⟩
end Go.Proofs.YtkaeogldielkfaaGreat.Rc
