/- 1 texts in one. -/
import Derived.Laws.OwnMore
import Derived.Test.YtkaeogldielkfaaGreatProg
import Derived.Test.YtkaeogldielkfaaGreatK5674b3b
import Derived.Test.YtkaeogldielkfaaGreatK7aebb14
import Derived.Test.YtkaeogldielkfaaGreatKe92268d
import Derived.Test.YtkaeogldielkfaaGreatKb13b050
import Derived.Test.YtkaeogldielkfaaGreatK9055bc8
import Derived.Test.YtkaeogldielkfaaGreatK6cc5fd4
import Derived.Test.YtkaeogldielkfaaGreatKe6b8975
import Derived.Test.YtkaeogldielkfaaGreatK410f598
import Derived.BigQuiet
set_option linter.unusedVariables false
set_option linter.unusedSimpArgs false
namespace Go.Proofs.YtkaeogldielkfaaGreat.Rc
open Go.RowKit Lb
attribute [local go_sem] bs_size bs_toList bs_append bs_get bs_extract
theorem oneErr_is {rs : List RefL} {ls : List Int} {hs : List Bool} {j : Nat} (hj : j < rs.length) (h1 : ls.length = rs.length) (h2 : hs.length = rs.length) :
    oneErr ⟨rs, ls, hs⟩ j = if refErr rs[j] ≠ 0 then refErr rs[j] else if timeErr (ls[j]'(by omega)) ≠ 0 then 3 else if hs[j]'(by omega) = false ∧ ls[j]'(by omega) ≠ 0 then 1
      else if 0 < j ∧ rs[j].1 ≤ (rs[j - 1]'(by omega)).1 then 4 else 0 := by
  unfold oneErr
  have e1 : rs.getD j (0, []) = rs[j] := by simp [hj]
  have e2 : rs.getD (j - 1) (0, []) = rs[j - 1]'(by omega) := by have : j - 1 < rs.length := by omega
                                                                 simp [this]
  have e3 : ls.getD j 0 = ls[j]'(by omega) := by have : j < ls.length := by omega
                                                 simp [this]
  have e4 : hs.getD j false = hs[j]'(by omega) := by have : j < hs.length := by omega
                                                     simp [this]
  simp only [e1, e2, e3, e4]
theorem refuse_no (x : Nat) (w : World) : Calls Tryz.prog 48 #[.bool false, .int .i64 x] w fun e w' => e = .returned (.tuple #[]) ∧ w' = w :=
  (refuse_any false x w (fun h => by cases h)).mono fun e w' h => by obtain ⟨h1, h2⟩ := h; exact ⟨by rw [h1]; rfl, h2⟩
def gaveX (E : Nat) (w : World) (ch : List PanicEntry) (w2 : World) : Prop := Ending.panicked ch = gaveUp E ∧ Below w.heap.size w w2
set_option maxRecDepth 20000 in
set_option maxHeartbeats 16000000 in
theorem checkKnown_any (w : World) (vr vl vh : Value) (k : Knw) (hv : readsKnw w w.heap.size vr vl vh k) (hok : okKnw k) :
    Calls Tryz.prog 23 #[.agg #[vr, vl, vh]] w fun e w' => e = outc (knwErr k) ∧ Grow w w' := by
  obtain ⟨E, HE⟩ : ∃ E, Hid (knwErr k = E) := ⟨_, hide rfl⟩
  have HE1 : Hid ((if k.lasts.length ≠ k.refs.length ∨ k.has.length ≠ k.refs.length then 1
    else if 1000 < k.refs.length then 2
    else if firstErr k k.refs.length ≠ 0 then firstErr k k.refs.length
    else if dupB k.refs = true then 6 else 0) = E) := HE
  rw [HE.out]
  clear HE
  obtain ⟨rs, ls, hs⟩ := k
  obtain ⟨hr, hl, hh⟩ := hv
  obtain ⟨n1, n2, n3, hro, hto⟩ := hok
  simp only at HE1 hr hl hh n1 n2 n3 hro hto
  obtain ⟨ro, rc, hvr, _⟩ := id hr
  subst hvr
  obtain ⟨lo, lc, hvl, _⟩ := id hl
  subst hvl
  obtain ⟨ho, hc, hvh, _⟩ := id hh
  subst hvh
  obtain ⟨W, eW, gW, hW⟩ := laid_at w #[.slice ro rs.length rc, .slice lo ls.length lc, .slice ho hs.length hc] 26
  obtain ⟨c0, c1, c2⟩ := three_of hW
  have HG := hide gW
  have HW := hide hW
  have HR := hide hr
  have HL := hide hl
  have HH := hide hh
  have HRO := hide hro
  have HTO := hide hto
  clear gW hW hr hl hh hro hto
  by_cases hA : ls.length ≠ rs.length
  · as_aux_lemma =>
      rw [if_pos (.inl hA)] at HE1
      have hA1 : ((ls.length : Int) != (rs.length : Int)) = true := by simp; omega
      clear hA
      go_enter Tryz.func23, Tryz.ntmps23
      go_wp2_with fail
      refine (refuse_any true 1 _ (by decide)).mono ?_
      rintro e w2 ⟨rfl, hw2⟩
      rw [if_pos rfl, outc_no (by decide)]
      exact ⟨rfl, by rw [← HE1.out, outc_no (by decide)], by rw [hw2]; exact HG.out⟩
  · by_cases hB : hs.length ≠ rs.length
    · as_aux_lemma =>
        rw [if_pos (.inr hB)] at HE1
        have hA1 : ((ls.length : Int) != (rs.length : Int)) = false := by simp; omega
        have hB1 : ((hs.length : Int) != (rs.length : Int)) = true := by simp; omega
        clear hA hB
        go_enter Tryz.func23, Tryz.ntmps23
        go_wp2_with fail
        refine (refuse_any true 1 _ (by decide)).mono ?_
        rintro e w2 ⟨rfl, hw2⟩
        rw [if_pos rfl, outc_no (by decide)]
        exact ⟨rfl, by rw [← HE1.out, outc_no (by decide)], by rw [hw2]; exact HG.out⟩
    · rw [if_neg (by omega)] at HE1
      have hln : ls.length = rs.length := by omega
      have hhn : hs.length = rs.length := by omega
      have hA1 : ((ls.length : Int) != (rs.length : Int)) = false := by simp; omega
      have hB1 : ((hs.length : Int) != (rs.length : Int)) = false := by simp; omega
      clear hA hB
      by_cases hM : 1000 < rs.length
      · as_aux_lemma =>
          rw [if_pos hM] at HE1
          have hM1 : decide ((1000 : Int) < (rs.length : Int)) = true := decide_eq_true (by omega)
          clear hM hln hhn
          go_enter Tryz.func23, Tryz.ntmps23
          go_wp2_with fail
          refine (refuse_any false 1 _ (by decide)).mono ?_
          rintro e w2 ⟨rfl, hw2⟩
          subst hw2
          rw [if_neg (by simp), outc_ok]
          go_wp2_with fail
          refine (refuse_any true 2 _ (by decide)).mono ?_
          rintro e w2 ⟨rfl, hw2⟩
          rw [if_pos rfl, outc_no (by decide)]
          exact ⟨rfl, by rw [← HE1.out, outc_no (by decide)], by rw [hw2]; exact HG.out⟩
      · rw [if_neg (by omega)] at HE1
        have hM1 : decide ((1000 : Int) < (rs.length : Int)) = false := decide_eq_false (by omega)
        have HLN := hide hln
        have HHN := hide hhn
        have hM3 : rs.length ≤ 1000 := by omega
        clear hM hln hhn
        go_enter Tryz.func23, Tryz.ntmps23
        go_wp2_with fail
        refine (refuse_any false 1 _ (by decide)).mono ?_
        rintro e W ⟨rfl, hw2⟩
        subst hw2
        rw [if_neg (by simp), outc_ok]
        go_wp2_with fail
        refine (refuse_any false 2 _ (by decide)).mono ?_
        rintro e w2 ⟨rfl, hw2⟩
        rw [if_neg (by simp), outc_ok]
        have HG2 : Hid (Grow W w2) := hide (by rw [hw2]; exact Grow.refl _)
        clear hw2
        obtain ⟨c0, c1, c2⟩ := three_of (HG2.out.get HW.out)
        go_wp2
        go_loopw [29] (fun iv wr => ∃ k : Nat, k ≤ rs.length ∧ iv = .int .i64 k ∧ Hid (Grow W wr) ∧ Hid (∀ j, j < k → oneErr ⟨rs, ls, hs⟩ j = 0)) (fun iv _ => rs.length - (intOf iv).toNat)
        case atStart => exact ⟨0, by omega, rfl, HG2, hide (fun j h => by omega)⟩
        case round =>
          clear c0 c1 c2
          obtain ⟨k, hkk, rfl, HGr, HD⟩ := hrel
          have HGwr : Hid (Grow w wr) := hide (HG.out.trans HGr.out)
          by_cases hlt : k < rs.length
          · have hlti : (k : Int) < (rs.length : Int) := by omega
            have hk6 : k - 1 < rs.length := Nat.lt_of_le_of_lt (Nat.sub_le _ _) hlt
            have hlk : k < ls.length := by rw [HLN.out]; exact hlt
            have hhk : k < hs.length := by rw [HHN.out]; exact hlt
            have hltl : (k : Int) < (ls.length : Int) := by omega
            have hlth : (k : Int) < (hs.length : Int) := by omega
            obtain ⟨rb, rf, vl, rfl, hrB, hls, c0, c1⟩ : ∃ b' o vl, ro = some ⟨b', o, none⟩ ∧ b' < w.heap.size ∧ readsLabels wr w.heap.size vl rs[k].2 ∧ wr.cell? ⟨b', o + k * 2, none⟩ = some (.int .i64 rs[k].1) ∧ wr.cell? ⟨b', o + k * 2 + 1, none⟩ = some vl := by
              obtain ⟨ao', cp', e, h⟩ := HR.out.keep HGwr.out
              cases e
              exact h k hlt
            obtain ⟨tb, tf, rfl, htB, t0⟩ : ∃ b' o, lo = some ⟨b', o, none⟩ ∧ b' < w.heap.size ∧ w.cell? ⟨b', o + k, none⟩ = some (.int .i64 ls[k]) := by
              obtain ⟨ao', cp', e, h⟩ := HL.out
              cases e
              exact h k hlk
            obtain ⟨bb, bf, rfl, hbB, b0⟩ : ∃ b' o, ho = some ⟨b', o, none⟩ ∧ b' < w.heap.size ∧ w.cell? ⟨b', o + k, none⟩ = some (.bool hs[k]) := by
              obtain ⟨ao', cp', e, h⟩ := HH.out
              cases e
              exact h k hhk
            have hok := HRO.out _ (List.getElem_mem hlt)
            have h1E := oneErr_is hlt HLN.out HHN.out
            obtain ⟨x, HX⟩ : ∃ x : RefL, Hid (rs[k] = x) := ⟨_, hide rfl⟩
            obtain ⟨t, HT⟩ : ∃ t : Int, Hid (ls[k] = t) := ⟨_, hide rfl⟩
            obtain ⟨b, HB⟩ : ∃ b : Bool, Hid (hs[k] = b) := ⟨_, hide rfl⟩
            have HO1 : Hid (oneErr ⟨rs, ls, hs⟩ k = if refErr x ≠ 0 then refErr x else if timeErr t ≠ 0 then 3 else if b = false ∧ t ≠ 0 then 1 else if 0 < k ∧ x.1 ≤ (rs[k - 1]'hk6).1 then 4 else 0) := hide (by rw [h1E, HX.out, HT.out, HB.out])
            have HEK : Hid (oneErr ⟨rs, ls, hs⟩ k ≠ 0 → oneErr ⟨rs, ls, hs⟩ k = E) := hide fun hne => by
              have := firstErr_at (n := rs.length) hlt HD.out hne
              rw [← HE1.out, if_pos (by rw [this]; exact hne), this]
            have hto := HTO.out _ (List.getElem_mem hlk)
            rw [HX.out] at hls c0 hok
            rw [HT.out] at t0 hto
            rw [HB.out] at b0
            have HT0 : Hid (∀ W, Grow w W → W.cell? ⟨tb, tf + k, none⟩ = some (.int .i64 t)) := hide fun W g => (g.cell (p := ⟨tb, _, none⟩) htB).trans t0
            have HB0 : Hid (∀ W, Grow w W → W.cell? ⟨bb, bf + k, none⟩ = some (.bool b)) := hide fun W g => (g.cell (p := ⟨bb, _, none⟩) hbB).trans b0
            obtain ⟨xo, xc, rfl⟩ := readsLabels_len hls
            obtain ⟨V, eV, gV, hV⟩ := laid_at wr #[.int .i64 x.1, .slice xo x.2.length xc] 59
            obtain ⟨d0, d1⟩ := two_of hV
            have HV := hide hV
            have HCR := hide (checkRef_any V x (.slice xo x.2.length xc) (readsLabels_mono (readsLabels_below hls (Below.mono gV HGwr.out.size)) (by have := gV.size; have := HGwr.out.size; omega)) hok)
            have HGV : Hid (Grow W V) := hide (HGr.out.trans gV)
            obtain ⟨P, HPE⟩ : ∃ P, Hid (refErr x = P) := ⟨_, hide rfl⟩
            rw [HPE.out] at HCR HO1
            obtain ⟨b0, b1, b2⟩ := three_of (HGr.out.get HW.out)
            clear gV hV hls hok h1E t0 b0
            go_wp2_with fail
            refine HCR.out.mono ?_
            rintro e w5 ⟨rfl, hg5⟩
            have HGV5 : Hid (Grow V w5) := hide hg5
            have HG5 : Hid (Grow W w5) := hide (HGV.out.trans hg5)
            have HGw5 : Hid (Grow w w5) := hide (HG.out.trans HG5.out)
            clear hg5 HCR eV d0 d1 b0 b1 b2 c0 c1
            by_cases hP : P = 0
            · rw [hP, outc_ok]
              rw [if_neg (by omega)] at HO1
              clear hP
              obtain ⟨b0, b1, b2⟩ := three_of (HG5.out.get HW.out)
              have t0 := HT0.out w5 HGw5.out
              go_wp2_with fail
              refine (checkTime_any t w5).mono ?_
              rintro e w5 ⟨rfl, hw6⟩
              subst hw6
              by_cases hT : timeErr t = 0
              · rw [hT, outc_ok]
                rw [if_neg (by omega)] at HO1
                clear hT
                have f0 := HB0.out w5 HGw5.out
                by_cases hbt : b = false ∧ t ≠ 0
                · as_aux_lemma =>
                    rw [if_pos hbt] at HO1
                    obtain ⟨hb, ht⟩ := hbt
                    subst hb
                    have htn : (t != 0) = true := by simp; exact ht
                    have hEK := HEK.out (by rw [HO1.out]; decide)
                    rw [HO1.out] at hEK
                    have HE2 := hide hEK
                    clear ht hEK
                    go_wp2_with fail
                    refine (refuse_any true 1 w5 (by decide)).mono ?_
                    rintro e w7 ⟨rfl, hw7⟩
                    rw [if_pos rfl, outc_no (by decide)]
                    exact ⟨rfl, by rw [← HE2.out, outc_no (by decide)], by rw [hw7]; exact HGw5.out⟩
                · rw [if_neg hbt] at HO1
                  have hb2 : b = true ∨ (b = false ∧ t = 0) := by
                    cases b with
                    | true => exact .inl rfl
                    | false =>
                      by_cases ht : t = 0
                      · exact .inr ⟨rfl, ht⟩
                      · exact absurd ⟨rfl, ht⟩ hbt
                  clear hbt
                  rcases hb2 with rfl | ⟨rfl, rfl⟩
                  all_goals as_aux_lemma =>
                    go_wp2_with fail
                    refine (refuse_no 1 w5).mono ?_
                    rintro e w5 ⟨rfl, hw7⟩
                    subst hw7
                    obtain ⟨d0, d1⟩ := two_of (HGV5.out.get HV.out)
                    clear t0 f0
                    by_cases hk0 : 0 < k
                    · obtain ⟨e0, hk3, hk4, hk5⟩ : w5.cell? ⟨rb, rf + (k - 1) * 2, none⟩ = some (.int .i64 (rs[k - 1]'hk6).1) ∧ ((k : Int) - 1) < rs.length ∧ (0 : Int) ≤ (k : Int) - 1 ∧ ((k : Int) - 1).toNat = k - 1 := by
                        obtain ⟨ao', cp', e, h⟩ := HR.out.keep HGw5.out
                        cases e
                        obtain ⟨_, _, _, he, _, _, e0, _⟩ := h (k - 1) (by omega)
                        cases he
                        exact ⟨e0, by omega, by omega, by omega⟩
                      obtain ⟨y, HY⟩ : ∃ y : Int, Hid ((rs[k - 1]'hk6).1 = y) := ⟨_, hide rfl⟩
                      rw [HY.out] at e0 HO1
                      have hkd : decide (0 < k) = true := decide_eq_true hk0
                      by_cases hge : x.1 ≤ y
                      · rw [if_pos ⟨hk0, hge⟩] at HO1
                        have hEK := HEK.out (by rw [HO1.out]; decide)
                        rw [HO1.out] at hEK
                        have HE2 := hide hEK
                        have hged : decide (x.1 ≤ y) = true := decide_eq_true hge
                        have hk1 : (1 : Int) ≤ (k : Int) := by omega
                        clear hEK hge
                        go_wp2
                        refine wp_region_free 15 76 mixedR rfl (by decide +kernel) Grow (fun _ _ _ => Grow.trans) (Grow.refl _)
                          (fun i v _ => match i with
                            | 0 => v = .int .i64 k
                            | 1 => v = .bool true
                            | 2 => v = .bool true
                            | 3 => v = .pointer (some ⟨w.heap.size, 0, none⟩)
                            | 4 => v = .slice (some ⟨rb, rf, none⟩) rs.length rc
                            | 5 => v = .int .i64 k
                            | 6 => v = .int .i64 ((k : Int) - 1)
                            | 7 => v = .pointer (some ⟨rb, rf + (k - 1) * 2, none⟩)
                            | 8 => v = .pointer (some ⟨rb, rf + (k - 1) * 2, none⟩)
                            | 9 => v = .int .i64 y
                            | 10 => v = .pointer (some ⟨wr.heap.size, 0, none⟩)
                            | 11 => v = .int .i64 x.1
                            | 12 => v = .bool true
                            | 13 => v = .bool true
                            | _ => False)
                          (fun i v w w' h hg => h) (gaveX 4 w5) (fun ch a w2 hd hq => ?_) (fun i hi o ho a w2 hG hoff hdep => ?_) (fun vals w2 hG hvals => ?_)
                        · obtain ⟨hq1, hq2⟩ := hq
                          simp only [Ending.panicked.injEq] at hq1
                          subst hq1
                          exact ⟨hd, by rw [← HE2.out]; rfl, HGw5.out.trans hq2⟩
                        · have hb5 : Below w5.heap.size w5 w2 := hG.undrew
                          obtain ⟨b0, b1, b2⟩ := three_of (below_block hb5 (HG5.out.get HW.out) (lt_of_block (HG5.out.get HW.out)))
                          obtain ⟨d0, d1⟩ := two_of (below_block hb5 (HGV5.out.get HV.out) (lt_of_block (HGV5.out.get HV.out)))
                          have e1 := (hb5.cell (p := ⟨rb, rf + (k - 1) * 2, none⟩) (Nat.lt_of_lt_of_le hrB HGw5.out.size)).trans e0
                          match i, hi with
                          | 0, _ =>
                            obtain rfl := Option.some.inj ho
                            have o2 := hoff 2 (by decide +kernel)
                            simp at o2
                            simp [opYields, go_sem, o2]
                            exact Grow.refl _
                          | 1, _ =>
                            obtain rfl := Option.some.inj ho
                            have d0 := hdep 0 (by decide +kernel)
                            simp [slotOf, dstOf] at d0
                            simp [opYields, go_sem, d0]
                            exact ⟨Grow.refl _, hk0⟩
                          | 2, _ =>
                            obtain rfl := Option.some.inj ho
                            have d1 := hdep 1 (by decide +kernel)
                            simp [slotOf, dstOf] at d1
                            simp [opYields, go_sem, d1]
                            exact Grow.refl _
                          | 3, _ =>
                            have hwt := gwanted ho (g := 2) (bb := true) (by rfl) (hdep 2 (by decide +kernel))
                            unfold opYields
                            rw [if_pos hwt]
                            obtain rfl := Option.some.inj ho
                            have o1 := hoff 1 (by decide +kernel)
                            simp at o1
                            simp [go_sem, o1]
                            exact Grow.refl _
                          | 4, _ =>
                            have hwt := gwanted ho (g := 2) (bb := true) (by rfl) (hdep 2 (by decide +kernel))
                            unfold opYields
                            rw [if_pos hwt]
                            obtain rfl := Option.some.inj ho
                            have d3 := hdep 3 (by decide +kernel)
                            simp [slotOf, dstOf] at d3
                            simp [go_sem, d3, b0]
                            exact Grow.refl _
                          | 5, _ =>
                            have hwt := gwanted ho (g := 2) (bb := true) (by rfl) (hdep 2 (by decide +kernel))
                            unfold opYields
                            rw [if_pos hwt]
                            obtain rfl := Option.some.inj ho
                            have o2 := hoff 2 (by decide +kernel)
                            simp at o2
                            simp [go_sem, o2]
                            exact Grow.refl _
                          | 6, _ =>
                            have hwt := gwanted ho (g := 2) (bb := true) (by rfl) (hdep 2 (by decide +kernel))
                            unfold opYields
                            rw [if_pos hwt]
                            obtain rfl := Option.some.inj ho
                            have d5 := hdep 5 (by decide +kernel)
                            simp [slotOf, dstOf] at d5
                            simp [go_sem, d5]
                            exact ⟨Grow.refl _, by first|omega|(rw [IntKind.wrap_i64]; omega)⟩
                          | 7, _ =>
                            have hwt := gwanted ho (g := 2) (bb := true) (by rfl) (hdep 2 (by decide +kernel))
                            unfold opYields
                            rw [if_pos hwt]
                            obtain rfl := Option.some.inj ho
                            have d4 := hdep 4 (by decide +kernel)
                            simp [slotOf, dstOf] at d4
                            have d6 := hdep 6 (by decide +kernel)
                            simp [slotOf, dstOf] at d6
                            simp [go_sem, d4, d6, hk3, hk4, hk5, hk1]
                            exact Grow.refl _
                          | 8, _ =>
                            have hwt := gwanted ho (g := 2) (bb := true) (by rfl) (hdep 2 (by decide +kernel))
                            unfold opYields
                            rw [if_pos hwt]
                            obtain rfl := Option.some.inj ho
                            have d7 := hdep 7 (by decide +kernel)
                            simp [slotOf, dstOf] at d7
                            simp [go_sem, d7]
                            exact Grow.refl _
                          | 9, _ =>
                            have hwt := gwanted ho (g := 2) (bb := true) (by rfl) (hdep 2 (by decide +kernel))
                            unfold opYields
                            rw [if_pos hwt]
                            obtain rfl := Option.some.inj ho
                            have d8 := hdep 8 (by decide +kernel)
                            simp [slotOf, dstOf] at d8
                            simp [go_sem, d8, e1]
                            exact Grow.refl _
                          | 10, _ =>
                            have hwt := gwanted ho (g := 2) (bb := true) (by rfl) (hdep 2 (by decide +kernel))
                            unfold opYields
                            rw [if_pos hwt]
                            obtain rfl := Option.some.inj ho
                            have o3 := hoff 3 (by decide +kernel)
                            simp at o3
                            simp [go_sem, o3]
                            exact Grow.refl _
                          | 11, _ =>
                            have hwt := gwanted ho (g := 2) (bb := true) (by rfl) (hdep 2 (by decide +kernel))
                            unfold opYields
                            rw [if_pos hwt]
                            obtain rfl := Option.some.inj ho
                            have d10 := hdep 10 (by decide +kernel)
                            simp [slotOf, dstOf] at d10
                            simp [go_sem, d10, d0]
                            exact Grow.refl _
                          | 12, _ =>
                            have hwt := gwanted ho (g := 2) (bb := true) (by rfl) (hdep 2 (by decide +kernel))
                            unfold opYields
                            rw [if_pos hwt]
                            obtain rfl := Option.some.inj ho
                            have d9 := hdep 9 (by decide +kernel)
                            simp [slotOf, dstOf] at d9
                            have d11 := hdep 11 (by decide +kernel)
                            simp [slotOf, dstOf] at d11
                            simp [go_sem, d9, d11, hged]
                            exact Grow.refl _
                          | 13, _ =>
                            obtain rfl := Option.some.inj ho
                            have d2 := hdep 2 (by decide +kernel)
                            simp [slotOf, dstOf] at d2
                            have d12 := hdep 12 (by decide +kernel)
                            simp [slotOf, dstOf] at d12
                            simp [opYields, go_sem, d2, d12]
                            exact Grow.refl _
                          | 14, _ =>
                            obtain rfl := Option.some.inj ho
                            have d13 := hdep 13 (by decide +kernel)
                            simp [slotOf, dstOf] at d13
                            simp [opYields, go_sem, d13]
                            refine (refuse_any true 4 w2 (by decide)).mono ?_
                            rintro e w3 ⟨rfl, rfl⟩
                            rw [if_pos rfl, outc_no (by decide)]
                            exact ⟨rfl, hb5⟩
                          | k + 15, h => exact absurd h (by omega)
                        · exact absurd (hvals 14 (by omega)) (by simp)
                      · rw [if_neg (fun h => hge h.2)] at HO1
                        have hged : decide (x.1 ≤ y) = false := decide_eq_false hge
                        clear hk0 hge
                        go_wp2
                        go_quiet ((go_at_call 48; exact Calls.quiet_of_same (refuse_no 4 _)))
                        go_wp2
                        go_roundw
                        case rel => exact ⟨k + 1, by omega, by go_num, hide (HG5.out.trans (grow_drewR _ _)), hide (fun j hj => by
                          by_cases e : j = k
                          · subst e; exact HO1.out
                          · exact HD.out j (by omega))⟩
                        case measure => simp [intOf]; omega
                    · rw [if_neg (fun h => hk0 h.1)] at HO1
                      have hkd : decide (0 < k) = false := decide_eq_false hk0
                      clear hk0
                      go_wp2
                      go_quiet ((go_at_call 48; exact Calls.quiet_of_same (refuse_no 4 _)))
                      go_wp2
                      go_roundw
                      case rel => exact ⟨k + 1, by omega, by go_num, hide (HG5.out.trans (grow_drewR _ _)), hide (fun j hj => by
                        by_cases e : j = k
                        · subst e; exact HO1.out
                        · exact HD.out j (by omega))⟩
                      case measure => simp [intOf]; omega
              · rw [if_pos hT] at HO1
                have hEK := HEK.out (by rw [HO1.out]; decide)
                rw [HO1.out] at hEK
                have hT3 : timeErr t = 3 := (timeErr_or t).resolve_left hT
                rw [outc_no hT]
                exact ⟨rfl, by rw [← hEK, hT3, outc_no (by decide)], HGw5.out⟩
            · rw [if_pos hP] at HO1
              have hEK := HEK.out (by rw [HO1.out]; exact hP)
              rw [HO1.out] at hEK
              rw [outc_no hP]
              exact ⟨rfl, by rw [← hEK, outc_no hP], HGw5.out⟩
          · obtain rfl : k = rs.length := by omega
            have hF := firstErr_none HD.out
            rw [if_neg (by omega)] at HE1
            obtain ⟨c0, c1, c2⟩ := three_of (HGr.out.get HW.out)
            have HCT := hide (checkTwice_any wr _ rs ((HR.out.keep HGwr.out).more HGwr.out.size) hM3 HRO.out (fun x hx => by
              obtain ⟨j, hj, rfl⟩ := List.getElem_of_mem hx
              have := oneErr_ref (HD.out j hj)
              simpa [hj] using this))
            rw [HE1.out] at HCT
            clear HD hF
            go_wp2_with fail
            refine HCT.out.mono ?_
            rintro e w5 ⟨rfl, hg5⟩
            have HG5 : Hid (Grow w w5) := hide (HGwr.out.trans hg5)
            clear hg5 HCT
            by_cases hE : E = 0
            · have HEZ := hide hE
              rw [hE, outc_ok]
              clear hE
              go_wp2
              go_end0
              exact ⟨by rw [HEZ.out, outc_ok], HG5.out⟩
            · rw [outc_no hE]
              exact ⟨rfl, by rw [outc_no hE], HG5.out⟩
end Go.Proofs.YtkaeogldielkfaaGreat.Rc
