/- 1 texts in one. -/
import Derived.Laws.OwnMore
import Derived.Maps.AppendAt
import Derived.Shelf.RegionOpenPlain
import Derived.Test.YtkaeogldielkfaaGreatProg
import Derived.Test.YtkaeogldielkfaaGreatKabe2b5f
import Derived.Test.YtkaeogldielkfaaGreatKa7e3600
import Derived.Test.YtkaeogldielkfaaGreatKd1f2bd3
import Derived.Test.YtkaeogldielkfaaGreatK6683a6f
import Derived.Test.YtkaeogldielkfaaGreatKa48e839
import Derived.Test.YtkaeogldielkfaaGreatK6cd15a3
import Derived.Test.YtkaeogldielkfaaGreatKfb00f3c
import Derived.Test.YtkaeogldielkfaaGreatK6ad0561
import Derived.Test.YtkaeogldielkfaaGreatKe935582
import Derived.Test.YtkaeogldielkfaaGreatK2b58751
import Derived.Test.YtkaeogldielkfaaGreatKe6b5bc4
import Derived.Test.YtkaeogldielkfaaGreatK91bea68
import Derived.BigQuiet
set_option linter.unusedVariables false
set_option linter.unusedSimpArgs false
namespace Go.Proofs.YtkaeogldielkfaaGreat.Rc
open Go.RowKit Go.Maps Go.Shelf Lb Lg
attribute [local go_sem] bs_size bs_toList bs_append bs_get bs_extract
theorem unpO_okR {t : List UInt8} {r : Rcd} (hl : t.length ≤ 140737488355328) (h : unpO t = some r) : okRec r := by
  cases t with
  | nil => cases h
  | cons c s =>
    simp only [unpO] at h
    cases hb : bodyO c s with
    | none => rw [hb] at h; cases h
    | some x =>
      rw [hb] at h
      simp only at h
      split at h
      · cases h
        obtain ⟨h1, h2, h3, h4, h5⟩ := bodyO_ok (q := x.2) (r := x.1) (by simp at hl; omega) hb
        exact ⟨h1, by omega, by omega, h4, h5⟩
      · cases h
/-- A row of labels, in a block of its type. -/
def typL (W : World) (v : Value) (l : List Lab) : Prop :=
  ∃ ao cp, v = .slice ao l.length cp ∧ ∀ i (h : i < l.length), ∃ b o c fr, ao = some ⟨b, o, none⟩ ∧ W.heap[b]? = some (.cells c 107 fr) ∧ W.cell? ⟨b, o + i * 2, none⟩ = some (.string (bs l[i].1)) ∧ W.cell? ⟨b, o + i * 2 + 1, none⟩ = some (.string (bs l[i].2))
theorem typL.reads {W : World} {v : Value} {l : List Lab} (h : typL W v l) : readsLabels W W.heap.size v l := by
  obtain ⟨ao, cp, e, hh⟩ := h
  refine ⟨ao, cp, e, fun i hi => ?_⟩
  obtain ⟨b, o, c, fr, h1, h2, h3, h4⟩ := hh i hi
  exact ⟨b, o, h1, lt_of_block h2, h3, h4⟩
/-- Blocks of labels stay. -/
def keepL (W W' : World) : Prop := ∀ (b : Nat) (c : Array Value) (fr : Nat × Nat), W.heap[b]? = some (.cells c 107 fr) → W'.heap[b]? = some (.cells c 107 fr)
theorem typL.keep {W W' : World} {v : Value} {l : List Lab} (h : typL W v l) (k : keepL W W') : typL W' v l := by
  obtain ⟨ao, cp, e, hh⟩ := h
  refine ⟨ao, cp, e, fun i hi => ?_⟩
  obtain ⟨b, o, c, fr, h1, h2, h3, h4⟩ := hh i hi
  have h5 := k _ _ _ h2
  exact ⟨b, o, c, fr, h1, h5, (World.cell?_of_block (h5.trans h2.symm)).trans h3, (World.cell?_of_block (h5.trans h2.symm)).trans h4⟩
theorem keepL.grow {W W' : World} (g : Grow W W') : keepL W W' := fun b c fr h => g.get h
theorem keepL.trans {A B C : World} (h1 : keepL A B) (h2 : keepL B C) : keepL A C := fun b c fr h => h2 _ _ _ (h1 _ _ _ h)
theorem keepL.grown {W W' : World} {B e s n : Nat} {v : Value} {xs : List Value} (ho : W.ownsRow B e s v n xs) (he : e ≠ 107) (g : W.grownBy W' v.ownBlock) : keepL W W' := fun b c fr h => grown_block g h (own_apart ho h he)
theorem keepL.set {W : World} {b i : Nat} {c : Array Value} {fr : Nat × Nat} {t : TypeId} (hb : W.heap[b]? = some (.cells c t fr)) (ht : t ≠ 107) (u : Value) : keepL W (W.setCell ⟨b, i, none⟩ u) := fun q c' fr' h => by
  rw [Below.heap_setCell _ _ _ _ (fun e => by subst e; rw [hb] at h; simp at h; exact ht h.2.1)]
  exact h
theorem typL.of_own {W : World} {B : Nat} {v : Value} {l : List Lab} (h : ownLabels W B v l) : typL W v l := by
  obtain ⟨ao, cp, hv, hh⟩ := reads_ownLabels h
  rcases id h.2 with ⟨rfl, h0⟩ | ⟨g, cap, cur, rfl, h1, h2, _⟩
  · exact ⟨none, 0, by rw [h0], fun i hi => by omega⟩
  · refine ⟨_, _, rfl, fun i hi => ?_⟩
    obtain ⟨b, o, e, _, c0, c1⟩ := hh i hi
    simp at hv
    rw [← hv.1] at e
    cases e
    exact ⟨g, 0, _, _, rfl, h2, c0, c1⟩
/-- The rows of what is known, and labels in blocks of their type: in a world of now. -/
def LT (W : World) (vr vl vh : Value) (ps : List (Int × Value)) (D : List Kp) : Prop := LK (typL W) W 0 W vr vl vh ps D
theorem LT.grow {W W' : World} {vr vl vh : Value} {ps : List (Int × Value)} {D : List Kp} (h : LT W vr vl vh ps D) (g : Grow W W') : LT W' vr vl vh ps D :=
  ⟨own_grow h.r g, own_grow h.l g, own_grow h.h g, h.len, fun j p x hp hx => ⟨(h.labs j p x hp hx).1, ((h.labs j p x hp hx).2.2.keep (keepL.grow g)).reads, (h.labs j p x hp hx).2.2.keep (keepL.grow g)⟩⟩
theorem LT.set {W : World} {vr vl vh : Value} {ps : List (Int × Value)} {D : List Kp} {b i : Nat} {c : Array Value} (h : LT W vr vl vh ps D) (hb : W.heap[b]? = some (.cells c 26 (0, 0))) (u : Value) : LT (W.setCell ⟨b, i, none⟩ u) vr vl vh ps D := by
  have k : keepL W (W.setCell ⟨b, i, none⟩ u) := keepL.set hb (by decide) u
  have h1 := LK.setBox h hb (i := i) u
  exact ⟨h1.r, h1.l, h1.h, h1.len, fun j p x hp hx => ⟨(h.labs j p x hp hx).1, ((h.labs j p x hp hx).2.2.keep k).reads, (h.labs j p x hp hx).2.2.keep k⟩⟩
/-- Another row grows. -/
theorem LT.grown {W W' : World} {vr vl vh : Value} {ps : List (Int × Value)} {D : List Kp} {B e s n : Nat} {v : Value} {xs : List Value} (h : LT W vr vl vh ps D) (ho : W.ownsRow B e s v n xs) (g : W.grownBy W' v.ownBlock)
    (h1 : e ≠ 107) (h2 : e ≠ 59) (h3 : e ≠ 4) (h4 : e ≠ 3 ∨ vl.ownBlock = none ∨ vl.ownBlock ≠ v.ownBlock) : LT W' vr vl vh ps D := by
  have k := keepL.grown ho h1 g
  refine ⟨own_other ho h.r h2 g, ?_, own_other ho h.h h3 g, h.len, fun j p x hp hx => ⟨(h.labs j p x hp hx).1, ((h.labs j p x hp hx).2.2.keep k).reads, (h.labs j p x hp hx).2.2.keep k⟩⟩
  refine own_keep h.l fun q hq => g.block q (h.l.lt q hq).2 fun e' => ?_
  rcases h4 with h4 | h4 | h4
  · rcases own_two h.l ho (fun e => h4 e.symm) with h5 | h5
    · rw [h5] at hq; cases hq
    · exact h5 (hq.trans e')
  · rw [h4] at hq; cases hq
  · exact h4 (hq.trans e')
theorem LT.nil (W : World) : LT W (.slice none 0 0) (.slice none 0 0) (.slice none 0 0) [] [] :=
  ⟨World.ownsRow_nil _ _ _ _, World.ownsRow_nil _ _ _ _, World.ownsRow_nil _ _ _ _, rfl, fun j p x hp hx => by simp at hp⟩
theorem LT.of {w w' : World} {B : Nat} {vr vl vh : Value} {ps : List (Int × Value)} {D : List Kp} (h : LK (typL w) w B w' vr vl vh ps D) (g : Grow w w') : LT w' vr vl vh ps D :=
  ⟨own_le h.r (Nat.zero_le _), own_le h.l (Nat.zero_le _), own_le h.h (Nat.zero_le _), h.len, fun j p x hp hx => ⟨(h.labs j p x hp hx).1, ((h.labs j p x hp hx).2.2.keep (keepL.grow g)).reads, (h.labs j p x hp hx).2.2.keep (keepL.grow g)⟩⟩
theorem infoRecR : (Tryz.prog.info? 29).map (fun i => (i.zero, i.size, i.bytes)) = some (some (.agg #[.int .i64 0, .slice none 0 0, .slice none 0 0]), 3, 56) := by kernel_rfl
theorem grow_set3' {w W : World} {b : Nat} (h : Grow w W) (hb : w.heap.size ≤ b) (x y z : Value) : Grow w (((W.setCell ⟨b, 0, none⟩ x).setCell ⟨b, 1, none⟩ y).setCell ⟨b, 2, none⟩ z) := Below.setCell (Below.setCell (Below.setCell h hb _) hb _) hb _
theorem endF_at : ∀ (X : List (List UInt8 × Nat)) (p i : Nat) (h : i < X.length), endF p (X.take (i + 1)) = X[i].2
  | [], _, _, h => by simp at h
  | x :: X, p, 0, h => by simp [endF]
  | x :: X, p, i + 1, h => by
    have := endF_at X x.2 i (by simpa using h)
    simpa [endF] using this
/-- How far the document's replay is. -/
def replF (L : List (List UInt8)) (w w3 wr : World) (b : Nat) (i : Nat) (M : List Kp) (vR vL vH vrec vat : Value) : Prop :=
  Grow w wr ∧ (∃ qs, LT wr vR vL vH qs (sortK M)) ∧ wr.heap[b]? = some (.cells #[vR, vL, vH] 26 (0, 0)) ∧ (∃ ys, wr.ownsRow w3.heap.size 29 3 vrec i ys) ∧ (∃ ys, wr.ownsRow w3.heap.size 3 1 vat i ys) ∧
    (vL.ownBlock = none ∨ vL.ownBlock ≠ vat.ownBlock) ∧ w3.heap.size ≤ wr.heap.size ∧ (∀ q, q < w3.heap.size → q ≠ b → wr.heap[q]? = w3.heap[q]?) ∧ okM M ∧ replK [] L = replK M (L.drop i) ∧ replN [] L = i + replN M (L.drop i)
set_option maxRecDepth 20000 in
set_option maxHeartbeats 4000000 in
theorem replayOf_any (w : World) (s : List UInt8) (hs : s.length ≤ 1048576) :
    Calls Tryz.prog 14 #[.string (bs s)] w fun e w' => ∃ xr xl xh vr vt, e = .returned (.tuple #[.agg #[xr, xl, xh], .int .i64 (replE s), vr, vt]) ∧ readsKnw w' w'.heap.size xr xl xh (knwOf (sortK (replA s))) ∧ Grow w w' := by
  obtain ⟨X, HX⟩ : ∃ X, Hid (entA s 0 = X) := ⟨_, hide rfl⟩
  have hxs := entA_short HX.out
  have HRA : Hid (replA s = replK [] (X.map (·.1))) := hide (by unfold replA; rw [HX.out])
  have HREn : Hid (replE s = endF 0 (X.take (replN [] (X.map (·.1))))) := hide (by unfold replE; rw [HX.out])
  obtain ⟨L, HL⟩ : ∃ L, Hid (X.map (·.1) = L) := ⟨_, hide rfl⟩
  have HLX : Hid (L.length = X.length) := hide (by rw [← HL.out, List.length_map])
  have HSH : Hid (∀ t ∈ L, t.length ≤ 1048576) := hide fun t ht => by
    rw [← HL.out] at ht
    obtain ⟨x, hx, rfl⟩ := List.mem_map.1 ht
    have := hxs x hx
    omega
  have hLl : L.length ≤ 100000000 := by
    have h1 := ents_len HX.out
    have h2 := (endF_ge HX.out).2 (Nat.zero_le _)
    rw [HLX.out]; omega
  rw [HL.out] at HRA HREn
  obtain ⟨V1, e1, g1, b1⟩ := laid_at w #[.slice none 0 0, .slice none 0 0, .slice none 0 0] 26
  obtain ⟨V2, e2, g2, b2⟩ := laid_at V1 #[.slice none 0 0, .slice none 0 0, .slice none 0 0] 26
  have s1 : V1.heap.size = w.heap.size + 1 := by rw [← e1]; simp
  have HS1 := hide s1
  have HEN := hide (rEntries_any s V2 (by omega))
  unfold entPost at HEN
  rw [HX.out, HL.out, ← e2] at HEN
  have HB1 := hide (g2.get b1)
  have HB2 := hide b2
  have HG2 := hide (g1.trans g2)
  obtain ⟨i1, hin1, hx0, hx1, hx2⟩ := info_parts infoRecR
  obtain ⟨i2, hin2, hy0, hy1, hy2⟩ := info_parts infoIntK
  have HE2 := hide e2
  clear g1 g2 b1 b2 hxs s1 e2
  go_enter Tryz.func14, Tryz.ntmps14
  go_wp2_with fail
  refine HEN.out.mono ?_
  rintro e w3 ⟨v3, u3, rfl, hos, hon, hg3⟩
  rw [HE2.out] at hos hon hg3
  obtain ⟨vo, vc, hv3⟩ := own_shape hos
  obtain ⟨uo, uc, hu3⟩ := own_shape hon
  subst hv3 hu3
  have hXl : (X.map (·.2)).length = L.length := by rw [List.length_map, HLX.out]
  rw [hXl] at hon ⊢
  have HOS := hide hos
  have HON := hide hon
  have HC1 := hide ((show Grow V2 w3 from hg3).get HB1.out)
  have HC2 := hide ((show Grow V2 w3 from hg3).get HB2.out)
  have HG3 : Hid (Grow w w3) := hide (HG2.out.trans hg3)
  clear hos hon hg3 HEN HB1 HB2 hXl e1
  go_wp2
  go_loopw [7, 10, 11, 12] (fun x7 x10 x11 x12 wr => ∃ (i E : Nat) (M : List Kp) (vR vL vH vrec vat : Value), i ≤ L.length ∧ x7 = .int .i64 E ∧ x10 = vrec ∧ x11 = vat ∧ x12 = .int .i64 i ∧ Hid (E = endF 0 (X.take i)) ∧ Hid (replF L w w3 wr V1.heap.size i M vR vL vH vrec vat)) (fun _ _ _ x12 _ => L.length - (intOf x12).toNat)
  case atStart => exact ⟨0, 0, [], _, _, _, _, _, by omega, rfl, rfl, rfl, rfl, hide rfl, hide ⟨HG3.out, ⟨[], by rw [show sortK [] = [] by simp [sortK]]; exact LT.nil _⟩, HC2.out, ⟨[], World.ownsRow_nil _ _ _ _⟩, ⟨[], World.ownsRow_nil _ _ _ _⟩, .inl rfl, Nat.le_refl _, fun _ _ _ => rfl, okM.nil, rfl, by simp⟩⟩
  case round =>
    obtain ⟨i, E, M, vR, vL, vH, vrec, vat, hi, rfl, rfl, rfl, rfl, HE, HR⟩ := hrel
    rename World => wr
    obtain ⟨hgw, ⟨qs, hlt⟩, hb6, ⟨ys1, ho1⟩, ⟨ys2, ho2⟩, hne, hsz, hfr, hok, hrk, hrn⟩ := HR.out
    obtain ⟨ro, rc, h1⟩ := own_shape hlt.r
    obtain ⟨lo, lc, h2⟩ := own_shape hlt.l
    obtain ⟨ho, hc, h3⟩ := own_shape hlt.h
    obtain ⟨eo, ec, h4⟩ := own_shape ho1
    obtain ⟨ao, ac, h5⟩ := own_shape ho2
    subst h1 h2 h3 h4 h5
    have hb2 : wr.heap[w.heap.size]? = some (.cells #[.slice none 0 0, .slice none 0 0, .slice none 0 0] 26 (0, 0)) := (hfr _ (lt_of_block HC1.out) (by have := HS1.out; omega)).trans HC1.out
    have hosr := own_keep HOS.out fun g hg => hfr g (HOS.out.lt g hg).2 (fun e => own_apart HOS.out HC2.out (by decide) (by rw [hg, e]))
    have honr := own_keep HON.out fun g hg => hfr g (HON.out.lt g hg).2 (fun e => own_apart HON.out HC2.out (by decide) (by rw [hg, e]))
    by_cases hil : i < L.length
    · have hili : (i : Int) < (L.length : Int) := by omega
      obtain ⟨g, cap, hge, hgB, q0, c, hgc⟩ := reads_ownStrsK hosr hil
      obtain ⟨rfl, rfl⟩ : vo = some ⟨g, 0, none⟩ ∧ vc = cap := by simpa using hge
      have hdr : L.drop i = L[i] :: L.drop (i + 1) := List.drop_eq_getElem_cons hil
      have htl := HSH.out _ (List.getElem_mem hil)
      obtain ⟨t, HT⟩ : ∃ t, Hid (L[i] = t) := ⟨_, hide rfl⟩
      rw [HT.out] at q0 hdr htl
      have HDR := hide hdr
      have HU := hide (unpackRecord_any wr t htl)
      have HLT := hide hlt
      have HBx := hide hb6
      have HBy := hide hb2
      have HO1 := hide ho1
      have HO2 := hide ho2
      have HNE := hide hne
      have HFR := hide hfr
      have HOK := hide hok
      have HRK : Hid (replK [] L = replK M (t :: L.drop (i + 1)) ∧ replN [] L = i + replN M (t :: L.drop (i + 1))) := hide ⟨by rw [hrk, hdr], by rw [hrn, hdr]⟩
      have HGW := hide hgw
      have HHR := hide honr
      have htl2 : t.length ≤ 140737488355328 := by omega
      clear hdr hlt hb6 hb2 ho1 ho2 hne hfr hok hrk hrn hgw HR hosr honr htl hge hgB
      cases hu : unpO t with
      | none =>
        rw [hu] at HU
        have HEND : Hid (replE s = E ∧ replA s = M) := hide (by
          obtain ⟨r1, r2⟩ := replK_none (K := M) (l := L.drop (i + 1)) (t := t) (by unfold textE; rw [hu]; simp)
          rw [HREn.out, HRA.out, HRK.out.1, HRK.out.2, r1, r2, HE.out, Nat.add_zero]
          exact ⟨rfl, rfl⟩)
        clear hu
        go_wp2_with fail
        refine HU.out.mono ?_
        rintro e w4 ⟨hg4, rfl⟩
        obtain ⟨V5, e5, g5, b5⟩ := laid_at w4 #[.int .i64 0, .slice none 0 0, .slice none 0 0] 29
        have hg45 : Grow wr V5 := Grow.trans hg4 g5
        have HC1F := hide (hg45.get HBy.out)
        have HC2F := hide (hg45.get HBx.out)
        have HLTF := hide (HLT.out.grow hg45)
        have HGF := hide (HGW.out.trans hg45)
        rw [← e5] at HC1F HC2F HLTF HGF
        clear hg4 g5 b5 hg45 HU q0 hgc e5
        have hF := set3 (set3 (set3 HC1F.out 0 (.slice ro (sortK M).length rc)) 1 (.slice lo (sortK M).length lc)) 2 (.slice ho (sortK M).length hc)
        obtain ⟨f0, f1, f2⟩ := three_of hF
        obtain ⟨n0, n1, n2⟩ := three_of HC2F.out
        have z0 : (w4.alloc (.cells #[.int .i64 0, .slice none 0 0, .slice none 0 0] 29)).frozen? ⟨w.heap.size, 0, none⟩ = false := by simp only [World.frozen?, HC1F.out]; rfl
        have z1 : (w4.alloc (.cells #[.int .i64 0, .slice none 0 0, .slice none 0 0] 29)).frozen? ⟨w.heap.size, 1, none⟩ = false := by simp only [World.frozen?, HC1F.out]; rfl
        have z2 : (w4.alloc (.cells #[.int .i64 0, .slice none 0 0, .slice none 0 0] 29)).frozen? ⟨w.heap.size, 2, none⟩ = false := by simp only [World.frozen?, HC1F.out]; rfl
        obtain ⟨o0, o1, o2⟩ := three_of HC1F.out
        clear hF
        go_wp2
        refine bodyPost_ret (v := .tuple #[.agg #[.slice ro (sortK M).length rc, .slice lo (sortK M).length lc, .slice ho (sortK M).length hc], .int .i64 E, .slice eo i ec, .slice ao i ac]) (by simp [results, Tryz.results14, go_sem, f0, f1, f2]) rfl ?_
        refine ⟨_, _, _, _, _, by rw [HEND.out.1], ?_, grow_set3 HGF.out (Nat.le_refl _) _ _ _⟩
        rw [HEND.out.2]
        have hl1 := ((HLTF.out.set (i := 0) HC1F.out (.slice ro (sortK M).length rc)).set (i := 1) (set3 HC1F.out 0 _) (.slice lo (sortK M).length lc)).set (i := 2) (set3 (set3 HC1F.out 0 _) 1 _) (.slice ho (sortK M).length hc)
        exact LK.reads hl1 (Grow.refl _)
      | some r =>
        rw [hu] at HU
        have HRE := hide (unpO_right hu)
        have HOR := hide (unpO_okR htl2 hu)
        have HTE : Hid (textE M t = (learnR M r).1 ∧ textK M t = (learnR M r).2) := hide (by unfold textE textK; rw [hu]; exact ⟨rfl, rfl⟩)
        clear hu
        go_wp2_with fail
        refine HU.out.mono ?_
        rintro e w4 ⟨hg4, vr, vp, rfl, hor4, hop4⟩
        obtain ⟨qo, qc, hvr⟩ := ownRefs_shape hor4
        obtain ⟨po, pc, hvp⟩ := own_shape hop4
        subst hvr hvp
        obtain ⟨V5, e5, g5, b5⟩ := laid_at w4 #[.int .i64 r.kind, .slice qo r.refs.length qc, .slice po r.points.length pc] 29
        have hg45 : Grow wr V5 := Grow.trans hg4 g5
        have HB5 := hide b5
        have HG45 := hide hg45
        have hor5 := ownRefs_stay hor4 (fun q _ hq => g5.block q hq)
        have hop5 : ownPoints V5 wr.heap.size (.slice po r.points.length pc) r.points := own_grow hop4 g5
        have hlt5 := HLT.out.grow hg45
        have hcls : ∀ b o n c, Value.slice qo r.refs.length qc = .slice (some ⟨b, o, none⟩) n c → ∀ i (h : i < r.refs.length) xv, V5.cell? ⟨b, o + i * 2 + 1, none⟩ = some xv → typL V5 xv r.refs[i].2 := fun b o n c he k hk xv hx => by
          obtain ⟨ps, hpl, hpo, hpp⟩ := hor5
          rcases id hpo.2 with ⟨_, h0⟩ | ⟨g', cap', cur, r1, r2, r3, r4⟩
          · omega
          · simp at he r1
            obtain ⟨rfl, _⟩ := he
            simp at r1
            obtain ⟨⟨rfl, rfl⟩, rfl⟩ := r1
            have hc := World.ownsRow.cells hpo (g := b) rfl
            obtain ⟨_, k1⟩ := refCells_at ps k (by omega)
            have c1 := hc _ _ k1
            rw [Addr.add_lit] at c1
            rw [← Nat.add_assoc] at c1
            rw [c1] at hx
            cases hx
            exact typL.of_own (hpp k _ _ (List.getElem?_eq_getElem (by omega)) (List.getElem?_eq_getElem hk)).2
        have HLO := hide (learnOf_any (typL V5) V5 _ _ _ _ _ qs (sortK M) r hlt5 HOK.out.sort.dist HOK.out.sort.right (sortK_rise M) HOK.out.sort.len (reads_ownRefs hor5) (reads_ownPoints hop5) HOR.out HRE.out hcls)
        obtain ⟨n0, n1, n2⟩ := three_of (hg45.get HBx.out)
        obtain ⟨m0, m1, m2⟩ := three_of b5
        clear hg4 g5 b5 hg45 hor4 hop4 hor5 hop5 hlt5 hcls HU
        go_wp2_with fail
        refine HLO.out.mono ?_
        rintro e w6 ⟨Q, xr, xl, xh, rfl, hg6, hans⟩
        have hst := learnOfR_eq HOK.out HRE.out
        by_cases h0 : (learnR M r).1 = 0
        · rw [hst.1 h0] at hans
          obtain ⟨rfl, qs', hk'⟩ := hans
          have hlt6 : LT w6 xr xl xh qs' (sortK (learnR M r).2) := LT.of hk' hg6
          obtain ⟨ro', rc', hxr⟩ := own_shape hk'.r
          obtain ⟨lo', lc', hxl⟩ := own_shape hk'.l
          obtain ⟨ho', hc', hxh⟩ := own_shape hk'.h
          subst hxr hxl hxh
          have hok' : okM (learnR M r).2 := (knwM_next HOK.out (by rw [knwM_learn HOK.out HRE.out]; exact h0)).2.1
          obtain ⟨r1, r2⟩ := replK_some (K := M) (l := L.drop (i + 1)) (t := t) (by rw [HTE.out.1]; exact h0)
          rw [HTE.out.2] at r1 r2
          obtain ⟨M', HM'⟩ : ∃ M', Hid ((learnR M r).2 = M') := ⟨_, hide rfl⟩
          rw [HM'.out] at hk' hlt6 hok' r1 r2 ⊢
          have HRK' : Hid (replK [] L = replK M' (L.drop (i + 1)) ∧ replN [] L = (i + 1) + replN M' (L.drop (i + 1))) := hide ⟨by rw [HRK.out.1, r1], by rw [HRK.out.2, r2]; omega⟩
          obtain ⟨V7, e7, g7, b7⟩ := laid_at w6 #[.slice ro' (sortK M').length rc', .slice lo' (sortK M').length lc', .slice ho' (sortK M').length hc'] 26
          have hgr7 : Grow wr V7 := HG45.out.trans (Grow.trans hg6 g7)
          have HG7 := hide hgr7
          have HB7 := hide b7
          have HBx7 := hide (hgr7.get HBx.out)
          have HBy7 := hide (hgr7.get HBy.out)
          have HR13 := hide ((Grow.trans hg6 g7).get HB5.out)
          have HLT7 := hide (hlt6.grow g7)
          have HOK' := hide hok'
          -- whose lasts they are
          have HNB : Hid ((Value.slice lo' (sortK M').length lc').ownBlock = none ∨ ∀ q, (Value.slice lo' (sortK M').length lc').ownBlock = some q → V5.heap.size ≤ q ∧ q < V7.heap.size) := hide (.inr fun q hq => ⟨(hk'.l.lt q hq).1, Nat.lt_of_lt_of_le (hk'.l.lt q hq).2 g7.size⟩)
          have hX : i < X.length := by rw [← HLX.out]; exact hil
          have hend : endF 0 (X.take (i + 1)) = X[i].2 := endF_at X 0 i hX
          obtain ⟨ge, hue, hqe⟩ : ∃ ge : Nat, uo = some ⟨ge, 0, none⟩ ∧ V7.cell? ⟨ge, i, none⟩ = some (.int .i64 (X[i].2 : Nat)) := by
            have h9 := own_grow HHR.out hgr7
            rcases id h9.2 with ⟨_, h8⟩ | ⟨g', cap', cur, r1, r2, r3, r4⟩
            · rw [List.length_map] at h8; omega
            · simp at r1
              have hc := World.ownsRow.cells h9 (g := g') (by rw [r1.1]; rfl) i (.int .i64 (X[i].2 : Nat)) (by simp [intV, hX])
              rw [Addr.add_lit] at hc
              exact ⟨g', r1.1, by simpa using hc⟩
          subst hue
          obtain ⟨E', HE'⟩ : ∃ E', Hid (X[i].2 = E') := ⟨_, hide rfl⟩
          rw [HE'.out] at hqe hend
          have HEE := hide hend.symm
          have hgeb : ge ≠ V1.heap.size := fun e => own_apart HHR.out HBx.out (by decide) (by subst e; rfl)
          clear hk' hlt6 hok' r1 r2 g7 b7 hgr7 hg6 hst h0 hend n0 n1 n2 m0 m1 m2 HLO
          obtain ⟨n0, n1, n2⟩ := three_of HBx7.out
          obtain ⟨m0, m1, m2⟩ := three_of HB7.out
          obtain ⟨k0, k1, k2⟩ := three_of HR13.out
          have zz0 : V7.frozen? ⟨V1.heap.size, 0, none⟩ = false := by simp only [World.frozen?, HBx7.out]; rfl
          have zz1 : V7.frozen? ⟨V1.heap.size, 1, none⟩ = false := by simp only [World.frozen?, HBx7.out]; rfl
          have zz2 : V7.frozen? ⟨V1.heap.size, 2, none⟩ = false := by simp only [World.frozen?, HBx7.out]; rfl
          have hiL : (i : Int) < ((X.map (·.2)).length : Int) := by rw [List.length_map, ← HLX.out]; omega
          have hqs : ((((V7.drew).setCell ⟨V1.heap.size, 0, none⟩ (.slice ro' (sortK M').length rc')).setCell ⟨V1.heap.size, 1, none⟩ (.slice lo' (sortK M').length lc')).setCell ⟨V1.heap.size, 2, none⟩ (.slice ho' (sortK M').length hc')).cell? ⟨ge, i, none⟩ = some (.int .i64 E') := by
            refine Eq.trans (World.cell?_of_block (w := V7) ?_) hqe
            rw [Below.heap_setCell _ _ _ _ hgeb, Below.heap_setCell _ _ _ _ hgeb, Below.heap_setCell _ _ _ _ hgeb]
            rfl
          go_wp2
          go_region
          obtain ⟨W8, eW8⟩ : ∃ W, (((V7.setCell ⟨V1.heap.size, 0, none⟩ (.slice ro' (sortK M').length rc')).setCell ⟨V1.heap.size, 1, none⟩ (.slice lo' (sortK M').length lc')).setCell ⟨V1.heap.size, 2, none⟩ (.slice ho' (sortK M').length hc')).drew = W := ⟨_, rfl⟩
          rw [eW8]
          have hB8 : W8.heap[V1.heap.size]? = some (.cells #[.slice ro' (sortK M').length rc', .slice lo' (sortK M').length lc', .slice ho' (sortK M').length hc'] 26 (0, 0)) := by rw [← eW8]; exact set3 (set3 (set3 HBx7.out 0 _) 1 _) 2 _
          have hS8 : W8.heap.size = V7.heap.size := by rw [← eW8]; simp
          have hF8 : ∀ q, q ≠ V1.heap.size → W8.heap[q]? = V7.heap[q]? := fun q hq => by
            rw [← eW8]
            show ((((V7.setCell ⟨V1.heap.size, 0, none⟩ _).setCell ⟨V1.heap.size, 1, none⟩ _).setCell ⟨V1.heap.size, 2, none⟩ _)).heap[q]? = _
            rw [Below.heap_setCell _ _ _ _ hq, Below.heap_setCell _ _ _ _ hq, Below.heap_setCell _ _ _ _ hq]
          have hG8 : Grow w W8 := by
            have h1 := HS1.out
            have h2 : w.heap.size ≤ V1.heap.size := by omega
            have h3 := grow_set3' (HGW.out.trans HG7.out) h2 (.slice ro' (sortK M').length rc') (.slice lo' (sortK M').length lc') (.slice ho' (sortK M').length hc')
            rw [← eW8]
            exact Below.trans h3 ⟨rfl, rfl, rfl, Nat.le_refl _, fun _ _ => rfl⟩
          have hL8 : LT W8 (.slice ro' (sortK M').length rc') (.slice lo' (sortK M').length lc') (.slice ho' (sortK M').length hc') qs' (sortK M') := by
            rw [← eW8]
            exact (((HLT7.out.set (i := 0) HBx7.out _).set (i := 1) (set3 HBx7.out 0 _) _).set (i := 2) (set3 (set3 HBx7.out 0 _) 1 _) _).grow ⟨rfl, rfl, rfl, Nat.le_refl _, fun _ _ => rfl⟩
          have hrec8 : W8.ownsRow w3.heap.size 29 3 (.slice eo i ec) i ys1 := own_keep (own_grow HO1.out HG7.out) fun q hq => hF8 q fun e => own_apart (own_grow HO1.out HG7.out) HBx7.out (by decide) (by rw [hq, e])
          have hat8 : W8.ownsRow w3.heap.size 3 1 (.slice ao i ac) i ys2 := own_keep (own_grow HO2.out HG7.out) fun q hq => hF8 q fun e => own_apart (own_grow HO2.out HG7.out) HBx7.out (by decide) (by rw [hq, e])
          have h13 : W8.heap[w4.heap.size]? = some (.cells #[.int .i64 r.kind, .slice qo r.refs.length qc, .slice po r.points.length pc] 29 (0, 0)) := (hF8 _ (fun e => by have h9 := HR13.out; rw [e, HBx7.out] at h9; simp at h9)).trans HR13.out
          obtain ⟨X9, e9, g9, b9⟩ := laid_at W8 #[.int .i64 r.kind, .slice qo r.refs.length qc, .slice po r.points.length pc] 29
          have hrec9 := own_grow hrec8 g9
          have hat9 := own_grow hat8 g9
          have hw39 : w3.heap.size ≤ X9.heap.size := by have := hsz; have := HG7.out.size; have := g9.size; omega
          have HB9 := hide b9
          have HB8 := hide hB8
          have HF8 := hide hF8
          have HG8 := hide hG8
          have HL9 := hide (hL8.grow g9)
          have HB89 := hide (g9.get hB8)
          have HG9 := hide g9
          have HRC9 := hide hrec9
          have HS8 := hide hS8
          have hiS : i ≤ 100000000 := by omega
          obtain ⟨k0, k1, k2⟩ := three_of h13
          clear hB8 hF8 hG8 hL8 hrec8 hat8 hqs n0 n1 n2 m0 m1 m2 zz0 zz1 zz2 eW8 b9 g9 hrec9 hS8 hqe hgc q0 h13 hgeb
          go_wp2_with (first
            | (at_builtin; refine wpList_append_at rfl _ _ 40 rfl w3.heap.size 29 i1 _ 3 56 Tryz.underlying40 hin1 hx0 hx1 hx2 rfl (by omega) (.slice eo i ec) i ys1 rfl HRC9.out ⟨W8.heap.size, 0, none⟩ 1 1 [.int .i64 r.kind, .slice qo r.refs.length qc, .slice po r.points.length pc] rfl rfl (World.news_of_block HB9.out) (by simp [Value.oneCell']) (by unfold maxLen; omega) (by omega) hw39 ?_; intro v10 W10 hown10 hgrow10 hv10; obtain ⟨o10, c10, hv10'⟩ := own_shape hown10; subst hv10'; have hat10 := own_other HRC9.out hat9 (by decide) hgrow10; have hsz10 := hgrow10.size)
            | (at_builtin; refine wpList_append_at rfl _ _ 23 rfl w3.heap.size 3 i2 _ 1 8 Tryz.underlying23 hin2 hy0 hy1 hy2 rfl (by omega) (.slice ao i ac) i ys2 rfl (own_grow hat10 ((Grow.refl W10).alloc _)) ⟨W10.heap.size, 0, none⟩ 1 1 [.int .i64 E'] rfl rfl (World.news_of_block (heap_alloc_new _ _)) (by simp [Value.oneCell']) (by unfold maxLen; omega) (by omega) (by simp; omega) ?_; intro v12 W12 hown12 hgrow12 hv12; obtain ⟨o12, c12, hv12'⟩ := own_shape hown12; subst hv12'))
          have g11 : Grow W10 (W10.alloc (.cells #[.int .i64 E'] 3)) := (Grow.refl W10).alloc _
          have hat11 := own_grow hat10 g11
          have hs7 := HS8.out
          have hs79 := HG9.out.size
          have hs11 := g11.size
          have hatb : ∀ q, (Value.slice ao i ac).ownBlock = some q → q < wr.heap.size := fun q hq => (HO2.out.lt q hq).2
          have hlne : (Value.slice lo' (sortK M').length lc').ownBlock = none ∨ (Value.slice lo' (sortK M').length lc').ownBlock ≠ (Value.slice ao i ac).ownBlock := by
            rcases HNB.out with h | h
            · exact .inl h
            · cases hq : (Value.slice lo' (sortK M').length lc').ownBlock with
              | none => exact .inl rfl
              | some q =>
                refine .inr fun e => ?_
                have h1 := (h q hq).1
                have h2 := hatb q e.symm
                have := HG45.out.size
                omega
          have hL12 := ((HL9.out.grown HRC9.out hgrow10 (by decide) (by decide) (by decide) (.inl (by decide))).grow g11).grown hat11 hgrow12 (by decide) (by decide) (by decide) (.inr hlne)
          have hB12 := grown_block hgrow12 (g11.get (grown_block hgrow10 HB89.out (own_apart HRC9.out HB89.out (by decide)))) (own_apart hat11 (g11.get (grown_block hgrow10 HB89.out (own_apart HRC9.out HB89.out (by decide)))) (by decide))
          have hrec12 := own_other hat11 (own_grow hown10 g11) (by decide) hgrow12
          have hne12 : (Value.slice lo' (sortK M').length lc').ownBlock = none ∨ (Value.slice lo' (sortK M').length lc').ownBlock ≠ (Value.slice o12 (i + 1) c12).ownBlock := by
            rcases hlne with h | h
            · exact .inl h
            · rcases hv12 with h2 | h2
              · rw [h2]; exact .inr h
              · rw [h2]
                rcases HNB.out with h3 | h3
                · exact .inl h3
                · refine .inr fun e => ?_
                  have := (h3 _ e).2
                  omega
          have hsz12 : w3.heap.size ≤ W12.heap.size := by have := hgrow12.size; omega
          have hfr12 : ∀ q, q < w3.heap.size → q ≠ V1.heap.size → W12.heap[q]? = w3.heap[q]? := fun q hq hqb => by
            have h7 : V7.heap[q]? = wr.heap[q]? := HG7.out.block q (by omega)
            have h9 : X9.heap[q]? = W8.heap[q]? := HG9.out.block q (by have := HG7.out.size; omega)
            have h10 : W10.heap[q]? = X9.heap[q]? := hgrow10.block q (by omega) fun e => by have := (HRC9.out.lt q e.symm).1; omega
            have h11 := g11.block q (by omega)
            have h12 : W12.heap[q]? = _ := hgrow12.block q (by omega) fun e => by have := (hat11.lt q e.symm).1; omega
            rw [h12, h11, h10, h9, HF8.out q hqb, h7, HFR.out q hq hqb]
          have hb10 : Below w.heap.size X9 W10 := (Below.refl w.heap.size X9).grown hgrow10 (Nat.le_trans HG3.out.size hw39) (fun k hk => Nat.le_trans HG3.out.size (HRC9.out.lt k hk).1)
          have hb12 : Below w.heap.size _ W12 := (Below.refl w.heap.size (W10.alloc (.cells #[.int .i64 E'] 3))).grown hgrow12 (Nat.le_trans HG3.out.size (by omega)) (fun k hk => Nat.le_trans HG3.out.size (hat11.lt k hk).1)
          have hG12 : Grow w W12 := Below.trans ((HG8.out.trans HG9.out)) (Below.trans hb10 (Below.trans (Below.mono g11 (Nat.le_trans HG3.out.size (by omega))) hb12))
          exact ⟨⟨i + 1, E', M', _, _, _, _, _, by omega, rfl, rfl, rfl, by go_num, HEE, hide ⟨hG12, ⟨qs', hL12⟩, hB12, ⟨_, hrec12⟩, ⟨_, hown12⟩, hne12, hsz12, hfr12, HOK'.out, HRK'.out.1, HRK'.out.2⟩⟩, by simp [intOf]; omega⟩
        · rw [hst.2 h0] at hans
          obtain ⟨hQ, rfl, rfl, rfl⟩ := hans
          have HEND : Hid (replE s = E ∧ replA s = M) := hide (by
            obtain ⟨r1, r2⟩ := replK_none (K := M) (l := L.drop (i + 1)) (t := t) (by rw [HTE.out.1]; exact h0)
            rw [HREn.out, HRA.out, HRK.out.1, HRK.out.2, r1, r2, HE.out, Nat.add_zero]
            exact ⟨rfl, rfl⟩)
          obtain ⟨V7, e7, g7, b7⟩ := laid_at w6 #[.slice none 0 0, .slice none 0 0, .slice none 0 0] 26
          have hgr7 : Grow wr V7 := HG45.out.trans (Grow.trans hg6 g7)
          have HC1F := hide (hgr7.get HBy.out)
          have HC2F := hide (hgr7.get HBx.out)
          have HLTF := hide (HLT.out.grow hgr7)
          have HGF := hide (HGW.out.trans hgr7)
          have hQi : ((Q : Int) != 0) = true := by simp; exact hQ
          rw [← e7] at HC1F HC2F HLTF HGF
          clear hst h0 hQ hg6 g7 b7 hgr7 e7 n0 n1 n2 m0 m1 m2 HLO q0 hgc
          have hF := set3 (set3 (set3 HC1F.out 0 (.slice ro (sortK M).length rc)) 1 (.slice lo (sortK M).length lc)) 2 (.slice ho (sortK M).length hc)
          obtain ⟨f0, f1, f2⟩ := three_of hF
          obtain ⟨n0, n1, n2⟩ := three_of HC2F.out
          have z0 : (w6.alloc (.cells #[.slice none 0 0, .slice none 0 0, .slice none 0 0] 26)).frozen? ⟨w.heap.size, 0, none⟩ = false := by simp only [World.frozen?, HC1F.out]; rfl
          have z1 : (w6.alloc (.cells #[.slice none 0 0, .slice none 0 0, .slice none 0 0] 26)).frozen? ⟨w.heap.size, 1, none⟩ = false := by simp only [World.frozen?, HC1F.out]; rfl
          have z2 : (w6.alloc (.cells #[.slice none 0 0, .slice none 0 0, .slice none 0 0] 26)).frozen? ⟨w.heap.size, 2, none⟩ = false := by simp only [World.frozen?, HC1F.out]; rfl
          obtain ⟨o0, o1, o2⟩ := three_of HC1F.out
          clear hF
          go_wp2
          refine bodyPost_ret (v := .tuple #[.agg #[.slice ro (sortK M).length rc, .slice lo (sortK M).length lc, .slice ho (sortK M).length hc], .int .i64 E, .slice eo i ec, .slice ao i ac]) (by simp [results, Tryz.results14, go_sem, f0, f1, f2]) rfl ?_
          refine ⟨_, _, _, _, _, by rw [HEND.out.1], ?_, grow_set3 HGF.out (Nat.le_refl _) _ _ _⟩
          rw [HEND.out.2]
          have hl1 := ((HLTF.out.set (i := 0) HC1F.out (.slice ro (sortK M).length rc)).set (i := 1) (set3 HC1F.out 0 _) (.slice lo (sortK M).length lc)).set (i := 2) (set3 (set3 HC1F.out 0 _) 1 _) (.slice ho (sortK M).length hc)
          exact LK.reads hl1 (Grow.refl _)
    · obtain rfl : i = L.length := by omega
      have HEND : Hid (replE s = E ∧ replA s = M) := hide (by
        rw [HREn.out, HRA.out, hrk, hrn, List.drop_length, HE.out]
        exact ⟨rfl, rfl⟩)
      have HC1F := hide hb2
      have HC2F := hide hb6
      have HLTF := hide hlt
      have HGF := hide hgw
      clear hb2 hb6 hlt hgw HR hosr honr ho1 ho2 hne hfr hok hrk hrn hil
      have hF := set3 (set3 (set3 HC1F.out 0 (.slice ro (sortK M).length rc)) 1 (.slice lo (sortK M).length lc)) 2 (.slice ho (sortK M).length hc)
      obtain ⟨f0, f1, f2⟩ := three_of hF
      obtain ⟨n0, n1, n2⟩ := three_of HC2F.out
      have z0 : wr.frozen? ⟨w.heap.size, 0, none⟩ = false := by simp only [World.frozen?, HC1F.out]; rfl
      have z1 : wr.frozen? ⟨w.heap.size, 1, none⟩ = false := by simp only [World.frozen?, HC1F.out]; rfl
      have z2 : wr.frozen? ⟨w.heap.size, 2, none⟩ = false := by simp only [World.frozen?, HC1F.out]; rfl
      obtain ⟨o0, o1, o2⟩ := three_of HC1F.out
      clear hF
      go_wp2
      refine bodyPost_ret (v := .tuple #[.agg #[.slice ro (sortK M).length rc, .slice lo (sortK M).length lc, .slice ho (sortK M).length hc], .int .i64 E, .slice eo L.length ec, .slice ao L.length ac]) (by simp [results, Tryz.results14, go_sem, f0, f1, f2]) rfl ?_
      refine ⟨_, _, _, _, _, by rw [HEND.out.1], ?_, grow_set3 HGF.out (Nat.le_refl _) _ _ _⟩
      rw [HEND.out.2]
      have hl1 := ((HLTF.out.set (i := 0) HC1F.out (.slice ro (sortK M).length rc)).set (i := 1) (set3 HC1F.out 0 _) (.slice lo (sortK M).length lc)).set (i := 2) (set3 (set3 HC1F.out 0 _) 1 _) (.slice ho (sortK M).length hc)
      exact LK.reads hl1 (Grow.refl _)
end Go.Proofs.YtkaeogldielkfaaGreat.Rc
