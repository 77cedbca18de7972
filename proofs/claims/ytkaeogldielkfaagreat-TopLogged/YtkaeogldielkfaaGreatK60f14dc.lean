/- 1 texts in one. -/
import Derived.Laws.OwnMore
import Derived.Test.YtkaeogldielkfaaGreatProg
import Derived.Test.YtkaeogldielkfaaGreatK5674b3b
import Derived.Test.YtkaeogldielkfaaGreatK7aebb14
import Derived.Test.YtkaeogldielkfaaGreatKe92268d
import Derived.Test.YtkaeogldielkfaaGreatK9055bc8
import Derived.Test.YtkaeogldielkfaaGreatK6cc5fd4
import Derived.Test.YtkaeogldielkfaaGreatKaaaa94b
import Derived.Test.YtkaeogldielkfaaGreatK23c4926
import Derived.Test.YtkaeogldielkfaaGreatK93e8acf
import Derived.Test.YtkaeogldielkfaaGreatK713fc1b
import Derived.Test.YtkaeogldielkfaaGreatK8f38214
import Derived.Test.YtkaeogldielkfaaGreatK1804501
import Derived.Test.YtkaeogldielkfaaGreatKc98d228
import Derived.Test.YtkaeogldielkfaaGreatK622e646
import Derived.Test.YtkaeogldielkfaaGreatK977c9f3
import Derived.Test.YtkaeogldielkfaaGreatKcda6e61
import Derived.Test.YtkaeogldielkfaaGreatK3fdb150
import Derived.Test.YtkaeogldielkfaaGreatKb6032ee
import Derived.Test.YtkaeogldielkfaaGreatKb13b050
import Derived.BigQuiet
set_option linter.unusedVariables false
set_option linter.unusedSimpArgs false
namespace Go.Proofs.YtkaeogldielkfaaGreat.Rc
open Go.RowKit Lb Lg
attribute [local go_sem] bs_size bs_toList bs_append bs_get bs_extract
set_option maxRecDepth 20000 in
set_option maxHeartbeats 1000000 in
theorem topLogged_any (w : World) (v : Value) (rs : List Rcd) (hv : readsRecs w w.heap.size v rs) (hl : rs.length ≤ 9223372036854775807) (hok : ∀ r ∈ rs, okRec r) (c : Int) (hc1 : -9223372036854775808 ≤ c) (hc2 : c ≤ 9223372036854775807) :
    Calls Tryz.prog 6 #[v, .int .i64 c] w fun e w' => e = .returned (.bool true) ∧ Below w.heap.size w w' := by
  obtain ⟨ao, cp, rfl, hread⟩ := id hv
  have HV := hide hv
  have HOK := hide hok
  clear hv hread hok
  go_enter Tryz.func6, Tryz.ntmps6
  go_wp2_with fail
  refine (logBegun_any w).mono ?_
  rintro e w1 ⟨rfl, hg1⟩
  have HG1 : Hid (Grow w w1) := hide hg1
  clear hg1
  go_wp2_with fail
  refine (recordBegun_any w1).mono ?_
  rintro e wB ⟨rfl, hg2⟩
  have HG2 : Hid (Grow w wB) := hide (HG1.out.trans hg2)
  clear hg2 HG1
  obtain ⟨i1, hin1, hx0, hx1, hx2⟩ := info_parts infoKn
  obtain ⟨i2, hin2, hy0, hy1, hy2⟩ := info_parts infoIntK
  go_wp2
  go_loopw [5, 7, 8, 9] (fun x5 v7 v8 x9 wr => ∃ (T : List (List UInt8)) (M : List Kp) (cur : V3) (i : Nat), i ≤ rs.length ∧ i ≤ 20 ∧ T.length ≤ i ∧ x5 = .string (bs (logK [] T)) ∧ x9 = .int .i64 i ∧ Hid (Went M T) ∧ Hid (TL w wr wB.heap.size v7 v8 cur T M) ∧ Hid ((logK [] T).length ≤ 40020 * T.length)) (fun _ _ _ x9 _ => 20 - (intOf x9).toNat)
  case atStart => exact ⟨[], [], _, 0, by omega, by omega, by simp, rfl, rfl, hide Went.nil, hide (TL.start HG2.out), hide (by simp [logK])⟩
  case round =>
    obtain ⟨T, M, ⟨xr, xl, xh⟩, i, hir, hi20, hTi, rfl, rfl, HWe, HTL, HLn⟩ := hrel
    rename World => wr
    obtain ⟨ps, p1, p2, p3⟩ := HTL.out.row
    obtain ⟨o7, c7, hv7⟩ := own_shape p2
    obtain ⟨o8, c8, hv8⟩ := own_shape HTL.out.ends
    subst hv7 hv8
    clear p1 p2 p3 ps
    obtain ⟨S, HS⟩ : ∃ S, Hid (logK [] T = S) := ⟨_, hide rfl⟩
    rw [HS.out]
    have hSl : S.length ≤ 800400 := by rw [← HS.out]; have := HLn.out; omega
    obtain ⟨k0, k1, k2⟩ := three_of HTL.out.at'
    simp only at k0 k1 k2
    by_cases hlt : i < rs.length ∧ i < 20
    · obtain ⟨hlt, hi2⟩ := hlt
      have hlti : (i : Int) < (rs.length : Int) := by omega
      have hi2i : (i : Int) < 20 := by omega
      have HVr := hide (HV.out.keep HTL.out.gr)
      obtain ⟨ao', cp', hva, hrd⟩ := HVr.out
      obtain ⟨rfl, rfl⟩ : ao = ao' ∧ cp = cp' := by simpa using hva
      obtain ⟨b0, o, vr, vp, rfl, hb0, hrr, hrp, c0, c1, c2⟩ := hrd i hlt
      have HOR := hide (HOK.out _ (List.getElem_mem hlt))
      have HRA : Hid (∀ W, Grow wr W → readsRcd W W.heap.size vr vp rs[i]) := hide fun W (g : Grow wr W) => by
        have h1 : readsRcd wr w.heap.size vr vp rs[i] := ⟨hrr, hrp⟩
        have hs := HTL.out.gr.size
        exact (h1.keep (Below.mono g hs)).more (Nat.le_trans hs g.size)
      obtain ⟨r, HR⟩ : ∃ r, Hid (rs[i] = r) := ⟨_, hide rfl⟩
      rw [HR.out] at HOR HRA c0
      have HKe := hide (knwM_right HWe.out.ok)
      have HLRN : Hid (∀ W, Grow wr W → Calls Tryz.prog 7 #[.agg #[xr, xl, xh], .agg #[.int .i64 r.kind, vr, vp]] W fun e w' => ∃ yr yl yh, e = .returned (.tuple #[.agg #[yr, yl, yh], .int .i64 (learnE (knwM M) r)]) ∧ ownKnw w' W.heap.size yr yl yh (learnAns (knwM M) r) ∧ Grow W w') := hide fun W g =>
        Learn_any W xr xl xh vr vp (knwM M) r (HTL.out.cur.grow g).reads (okKnw_of HKe.out) (HRA.out W g) HOR.out
      have HPK : Hid (∀ W, Grow wr W → Calls Tryz.prog 17 #[.agg #[.int .i64 r.kind, vr, vp]] W fun e w' => e = .returned (.tuple #[.string (bs (packT r)), .int .i64 (recErr r)]) ∧ Grow W w') := hide fun W g =>
        pack_any W vr vp r (HRA.out W g).1 (HRA.out W g).2 HOR.out
      obtain ⟨E, HE⟩ : ∃ E, Hid (learnE (knwM M) r = E) := ⟨_, hide rfl⟩
      obtain ⟨A, HA⟩ : ∃ A, Hid (learnAns (knwM M) r = A) := ⟨_, hide rfl⟩
      rw [HE.out, HA.out] at HLRN
      obtain ⟨PT, HPT⟩ : ∃ PT, Hid (packT r = PT) := ⟨_, hide rfl⟩
      rw [HPT.out] at HPK
      clear hva hrd hrr hrp HVr
      go_wp2
      refine wp_region_stateN 12 138 mixedR rfl (by decide +kernel) (fun L vals w' => learnJ wr E A (L 5) (vals 5) (L 6) (vals 6) (L 7) (vals 7) (L 9) (vals 9) (L 10) w')
        (fun L vals h => ?_)
        (fun j v => match j with
          | 0 => v = .agg #[xr, xl, xh]
          | 1 => v = .slice (some ⟨b0, o, none⟩) rs.length cp
          | 2 => v = .int .i64 i
          | 3 => v = .pointer (some ⟨b0, o + i * 3, none⟩)
          | 4 => v = .agg #[.int .i64 r.kind, vr, vp]
          | 8 => v = .int .i64 E
          | 11 => v = .int .i64 E
          | _ => True)
        (fun _ _ => False) (fun _ _ _ _ h => h.elim) (fun j hj oo ho a w2 L vals hLi hLc hLe hJ hoff hval hdep => ?_) (fun vals w2 L hL hJ hvals => ?_)
      · simp only [h]
        exact ⟨⟨rfl, rfl, rfl, Nat.le_refl _, fun _ _ => rfl⟩, (fun h => by cases h), (fun h => by cases h)⟩
      · have hJ0 := hJ
        obtain ⟨hg, j5, j9⟩ := id hJ
        have q0 := (three_of (hg.get HTL.out.at')).1
        have q1 := (three_of (hg.get HTL.out.at')).2.1
        have q2 := (three_of (hg.get HTL.out.at')).2.2
        simp only at q0 q1 q2
        have hlb : b0 < wr.heap.size := World.block_lt_of_cell? _ _ c0
        have f0 : w2.cell? ⟨b0, o + i * 3, none⟩ = some (.int .i64 r.kind) := (hg.cell (p := ⟨b0, _, none⟩) hlb).trans c0
        have f1 : w2.cell? ⟨b0, o + i * 3 + 1, none⟩ = some vr := (hg.cell (p := ⟨b0, _, none⟩) hlb).trans c1
        have f2 : w2.cell? ⟨b0, o + i * 3 + 2, none⟩ = some vp := (hg.cell (p := ⟨b0, _, none⟩) hlb).trans c2
        have hsz := hg.size
        match j, hj with
        | 0, _ =>
          obtain rfl := Option.some.inj ho
          have o6 := hoff 6 (by decide +kernel)
          simp at o6
          simp [opYields, go_sem, o6, q0, q1, q2]
          exact hJ
        | 1, _ =>
          obtain rfl := Option.some.inj ho
          have o0 := hoff 0 (by decide +kernel)
          simp at o0
          simp [opYields, go_sem, o0]
          exact hJ
        | 2, _ =>
          obtain rfl := Option.some.inj ho
          have o9 := hoff 9 (by decide +kernel)
          simp at o9
          simp [opYields, go_sem, o9]
          exact hJ
        | 3, _ =>
          obtain rfl := Option.some.inj ho
          have d1 := hdep 1 (by decide +kernel)
          simp [slotOf, dstOf] at d1
          have d2 := hdep 2 (by decide +kernel)
          simp [slotOf, dstOf] at d2
          simp [opYields, go_sem, d1, d2, hlt, hlti]
          exact hJ
        | 4, _ =>
          obtain rfl := Option.some.inj ho
          have d3 := hdep 3 (by decide +kernel)
          simp [slotOf, dstOf] at d3
          simp [opYields, go_sem, d3, f0, f1, f2]
          exact hJ
        | 5, _ =>
          have h6 : L 6 = false := by
            cases h : L 6 with
            | false => rfl
            | true => have := hLc 6 h 5 (by decide +kernel); rw [hLi] at this; cases this
          have h7 : L 7 = false := by
            cases h : L 7 with
            | false => rfl
            | true => have := hLc 7 h 6 (by decide +kernel); rw [h6] at this; cases this
          have h10 : L 10 = false := by
            cases h : L 10 with
            | false => rfl
            | true => have := hLc 10 h 7 (by decide +kernel); rw [h7] at this; cases this
          obtain rfl := Option.some.inj ho
          have e0 := hdep 0 (by decide +kernel)
          have e4 := hdep 4 (by decide +kernel)
          simp [slotOf, dstOf] at e0 e4
          simp [opYields, go_sem, e0, e4]
          refine (HLRN.out w2 hg).mono ?_
          rintro e w3 ⟨yr, yl, yh, rfl, hown, hg3⟩
          refine ⟨hg.trans hg3, fun _ => ⟨yr, yl, yh, rfl, fun a => absurd (show L 6 = true from a) (by rw [h6]; simp), fun a => absurd (show L 7 = true from a) (by rw [h7]; simp), ⟨w2.heap.size, w3.heap.size, hsz, Nat.le_refl _, SKw.of_own hown⟩, fun a => absurd (show L 10 = true from a) (by rw [h10]; simp)⟩, fun a b => ?_⟩
          obtain ⟨pp, t1, t2, t3⟩ := j9 a b
          exact ⟨pp, t1, t2, hg3.get t3⟩
        | 6, _ =>
          obtain rfl := Option.some.inj ho
          have h5 := hLe 5 (by decide +kernel)
          have e5 := hval 5 (by decide +kernel)
          simp [slotOf, dstOf] at e5
          simp [opYields, go_sem, e5]
          obtain ⟨yr, yl, yh, t1, t2, t3, t4, t5⟩ := j5 h5
          exact ⟨hg, fun _ => ⟨yr, yl, yh, t1, fun _ => rfl, t3, t4, t5⟩, j9⟩
        | 7, _ =>
          have h10 : L 10 = false := by
            cases h : L 10 with
            | false => rfl
            | true => have := hLc 10 h 7 (by decide +kernel); rw [hLi] at this; cases this
          obtain rfl := Option.some.inj ho
          have h6 := hLe 6 (by decide +kernel)
          have h5 := hLc 6 h6 5 (by decide +kernel)
          have e6 := hval 6 (by decide +kernel)
          obtain ⟨yr, yl, yh, t1, t2, t3, t4, t5⟩ := j5 h5
          simp [slotOf, dstOf] at e6
          rw [t2 h6, t1] at e6
          simp [opYields, go_sem, e6]
          exact ⟨hg, fun _ => ⟨yr, yl, yh, t1, t2, fun _ => rfl, t4, fun a => absurd (show L 10 = true from a) (by rw [h10]; simp)⟩, j9⟩
        | 8, _ =>
          obtain rfl := Option.some.inj ho
          have h6 := hLe 6 (by decide +kernel)
          have h5 := hLc 6 h6 5 (by decide +kernel)
          have e6 := hval 6 (by decide +kernel)
          obtain ⟨yr, yl, yh, t1, t2, t3, t4, t5⟩ := j5 h5
          simp [slotOf, dstOf] at e6
          rw [t2 h6, t1] at e6
          simp [opYields, go_sem, e6]
          exact hJ
        | 9, _ =>
          have h10 : L 10 = false := by
            cases h : L 10 with
            | false => rfl
            | true => have := hLc 10 h 9 (by decide +kernel); rw [hLi] at this; cases this
          obtain rfl := Option.some.inj ho
          simp [opYields, go_sem]
          have hga : Grow w2 (w2.alloc (.cells #[.slice none 0 0, .slice none 0 0, .slice none 0 0] 26)) := (Grow.refl _).alloc _
          refine ⟨hg.trans hga, fun a => ?_, fun _ _ => ⟨_, rfl, hsz, heap_alloc_new _ _⟩⟩
          obtain ⟨yr, yl, yh, t1, t2, t3, ⟨lo, hi, t4, t5, t6⟩, t7⟩ := j5 a
          exact ⟨yr, yl, yh, t1, t2, t3, ⟨lo, hi, t4, Nat.le_trans t5 hga.size, t6.grow hga⟩, fun a => absurd (show L 10 = true from a) (by rw [h10]; simp)⟩
        | 10, _ =>
          obtain rfl := Option.some.inj ho
          have h7 := hLe 7 (by decide +kernel)
          have h9 := hLe 9 (by decide +kernel)
          have h6 := hLc 7 h7 6 (by decide +kernel)
          have h5 := hLc 6 h6 5 (by decide +kernel)
          have e7 := hval 7 (by decide +kernel)
          have e9 := hval 9 (by decide +kernel)
          obtain ⟨yr, yl, yh, t1, t2, t3, ⟨lo, hi, t4, t5, t6⟩, t7⟩ := j5 h5
          obtain ⟨pp, u1, u2, u3⟩ := j9 h9 hLi
          obtain ⟨⟨sr, cr, hyr⟩, ⟨sl, cl, hyl⟩, ⟨sh, ch, hyh⟩⟩ := t6.shape
          subst hyr hyl hyh
          simp [slotOf, dstOf] at e7 e9
          rw [t3 h7] at e7
          rw [u1] at e9
          obtain ⟨m0, m1, m2⟩ := three_of u3
          have z0 : w2.frozen? ⟨pp, 0, none⟩ = false := by simp only [World.frozen?, u3]; rfl
          have z1 : w2.frozen? ⟨pp, 1, none⟩ = false := by simp only [World.frozen?, u3]; rfl
          have z2 : w2.frozen? ⟨pp, 2, none⟩ = false := by simp only [World.frozen?, u3]; rfl
          simp [opYields, go_sem, e7, e9, m0, m1, m2, z0, z1, z2]
          have hb1 := set3 u3 0 (.slice sr A.refs.length cr)
          have hb2 := set3 hb1 1 (.slice sl A.lasts.length cl)
          have hb3 := set3 hb2 2 (.slice sh A.has.length ch)
          refine ⟨Below.setCell (Below.setCell (Below.setCell hg u2 _) u2 _) u2 _, fun _ => ⟨_, _, _, t1, t2, t3, ⟨lo, hi, t4, by simpa using t5, ((t6.set u3 _).set hb1 _).set hb2 _⟩, fun _ => ⟨pp, u1, u2, hb3⟩⟩, fun _ b => (by cases b)⟩
        | 11, _ =>
          obtain rfl := Option.some.inj ho
          have d8 := hdep 8 (by decide +kernel)
          simp [slotOf, dstOf] at d8
          simp [opYields, go_sem, d8]
          exact hJ
        | k + 12, h => exact absurd h (by omega)
      · obtain ⟨hg, j5, -⟩ := hJ
        obtain ⟨yr, yl, yh, v5, h6, h7, hsk, h10⟩ := j5 (hL 5 (by omega))
        have v6 := h6 (hL 6 (by omega))
        have v7 := h7 (hL 7 (by omega))
        obtain ⟨pp, v9, hpw, hpb⟩ := h10 (hL 10 (by omega))
        have v0 := hvals 0 (by omega)
        have v8 := hvals 8 (by omega)
        have v11 := hvals 11 (by omega)
        simp only at v0 v8 v11
        simp [over, dstOf, Act.put, v5, v6, v7, v8, v9, v11]
        have HG2 := hide hg
        have HPB := hide hpb
        have HPW := hide hpw
        have HBK : Hid (besideK w2 (.slice o8 (T.length + 1) c8) (yr, yl, yh) A) := hide (by
          obtain ⟨lo, hi, s1, s2, s3⟩ := hsk
          exact ⟨lo, hi, s2, fun g hgv => .inl (Nat.lt_of_lt_of_le (HTL.out.ends.lt g hgv).2 s1), s3⟩)
        have HT2 := hide (HTL.out.grow hg)
        have hlb : b0 < wr.heap.size := World.block_lt_of_cell? _ _ c0
        have f0 : w2.cell? ⟨b0, o + i * 3, none⟩ = some (.int .i64 r.kind) := (hg.cell (p := ⟨b0, _, none⟩) hlb).trans c0
        have f1 : w2.cell? ⟨b0, o + i * 3 + 1, none⟩ = some vr := (hg.cell (p := ⟨b0, _, none⟩) hlb).trans c1
        have f2 : w2.cell? ⟨b0, o + i * 3 + 2, none⟩ = some vp := (hg.cell (p := ⟨b0, _, none⟩) hlb).trans c2
        have HPA := hide (HPK.out w2 hg)
        clear hvals hL hg hpb hpw hsk j5 h6 h7 h10 v0 v5 v6 v7 v8 v9 v11 c0 c1 c2 k0 k1 k2 HLRN HPK HTL hlb
        go_wp2_with fail
        refine HPA.out.mono ?_
        rintro e w3 ⟨rfl, hg3⟩
        have HG3 := hide (HG2.out.trans hg3)
        have HT3 := hide (HT2.out.grow hg3)
        have HPB3 := hide (hg3.get HPB.out)
        have HBK3 := hide (HBK.out.grow hg3)
        clear hg3 HG2 HT2 HPB HPA HBK f0 f1 f2
        by_cases h0 : E = 0
        · have h00 : E = 0 := h0
          subst h00
          obtain ⟨hk0, hr0, _⟩ := learnE_zero HE.out
          have hpt : PT = packB r := by rw [← HPT.out]; unfold packT; rw [if_pos hr0]
          have hptl : PT.length ≤ 140737488355328 := by
            obtain ⟨_, hrl, hpl, hro, _⟩ := recErr_zero hr0
            have h1 := refsB_len hro
            have h2 := pointsB_len r.points
            have h3 := numB_length r.refs.length
            have h4 := numB_length r.points.length
            rw [hpt]
            unfold packB
            split <;> simp only [List.length_cons, List.length_append] <;> omega
          obtain ⟨hWe2, hkn⟩ := HWe.out.step HOR.out HE.out
          rw [← hpt] at hWe2
          rw [HA.out] at hkn
          obtain ⟨M2, HM2⟩ : ∃ M2, Hid ((learnR M r).2 = M2) := ⟨_, hide rfl⟩
          rw [HM2.out] at hWe2 hkn
          have HWe2 := hide hWe2
          have HKN := hide hkn
          have HLA := hide (logAppend_any S PT w3 (by omega) (by omega))
          rw [hr0]
          clear hk0 hr0 hpt hWe2 hkn h0
          by_cases hlong : 20000 < PT.length
          · rw [show appendR S PT = ([], 2) from by unfold appendR; rw [if_pos hlong]] at HLA
            have hlongi : (20000 : Int) < (PT.length : Int) := by omega
            clear hlong
            go_wp2_with fail
            refine HLA.out.mono ?_
            rintro e w4 ⟨rfl, hg4⟩
            have HG4 := hide (HT3.out.gr.trans hg4)
            clear hg4 HLA
            go_wp2
            go_ret
            exact ⟨rfl, HG4.out⟩
          · have hal := appB_length S.length PT
            have hln := HLn.out
            rw [HS.out] at hln
            have happ : appendR S PT = (S ++ appB S.length PT, 0) := by
              unfold appendR
              rw [if_neg hlong, if_neg (by omega)]
            have hS2 : logK [] (T ++ [PT]) = S ++ appB S.length PT := by rw [logK_snoc, HS.out]
            have HLn2 : Hid ((logK [] (T ++ [PT])).length ≤ 40020 * (T ++ [PT]).length) := hide (by rw [hS2, List.length_append, List.length_append, List.length_singleton]; omega)
            obtain ⟨S2, HS2⟩ : ∃ S2, Hid (logK [] (T ++ [PT]) = S2) := ⟨_, hide rfl⟩
            rw [happ, ← hS2, HS2.out] at HLA
            simp only at HLA
            have HSL2 : Hid (S2.length ≤ 1000000) := hide (by rw [← HS2.out, hS2, List.length_append]; omega)
            clear hal hln happ hS2 hlong hptl
            go_wp2_with fail
            refine HLA.out.mono ?_
            rintro e w4 ⟨rfl, hg4⟩
            have HT4 := hide (HT3.out.grow hg4)
            have hpb4 := (show Grow w3 w4 from hg4).get HPB3.out
            have hbk4 := HBK3.out.grow hg4
            obtain ⟨⟨sr, cr, hyr⟩, ⟨sl, cl, hyl⟩, ⟨sh, ch, hyh⟩⟩ := hbk4.shape
            simp only at hyr hyl hyh
            subst hyr hyl hyh
            obtain ⟨k0, k1, k2⟩ := three_of HT4.out.at'
            simp only at k0 k1 k2
            have z0 : w4.frozen? ⟨wB.heap.size, 0, none⟩ = false := by simp only [World.frozen?, HT4.out.at']; rfl
            have z1 : w4.frozen? ⟨wB.heap.size, 1, none⟩ = false := by simp only [World.frozen?, HT4.out.at']; rfl
            have z2 : w4.frozen? ⟨wB.heap.size, 2, none⟩ = false := by simp only [World.frozen?, HT4.out.at']; rfl
            obtain ⟨m0, m1, m2⟩ := three_of hpb4
            clear hg4 HLA
            go_wp2_with fail
            go_region
            obtain ⟨W4, e4, b4, hoth4, hgr4, hsz4, hk4, ⟨ps, p1, p2, p3⟩, he4⟩ := HT4.out.turn _ A hbk4
            simp only at e4 b4
            rw [← e4]
            have gd : Grow W4 W4.drew := ⟨rfl, rfl, rfl, Nat.le_refl _, fun _ _ => rfl⟩
            generalize hW5 : W4.drew = W5 at gd ⊢
            have b5 := gd.get b4
            have p25 := own_grow p2 gd
            have he5 := own_grow he4 gd
            have hk5 := hk4.grow gd
            have p35 : Hid (∀ (j : Nat) (h : j < ps.length), besideK W5 (.slice o8 (T.length + 1) c8) ps[j] (knwM (replK [] (T.take j)))) := hide fun j h => (p3 j h).grow gd
            have hgr5 := hgr4.trans gd
            obtain ⟨V6, e6, g6, b6⟩ := laid_at W5 #[.slice sr A.refs.length cr, .slice sl A.lasts.length cl, .slice sh A.has.length ch] 26
            have hV6 : W5.heap.size ≤ V6.heap.size := g6.size
            have hbs := lt_of_block b5
            have p26 := own_grow p25 g6
            have he6 := own_grow he5 g6
            have HB5 := hide b5
            have HB6 := hide b6
            have HG6 := hide g6
            have HGR5 := hide hgr5
            have HK5 := hide hk5
            have HTi : Hid (T.length ≤ 20) := hide (by omega)
            have hszV : wB.heap.size + 1 ≤ V6.heap.size := by omega
            obtain ⟨n0, n1, n2⟩ := three_of b5
            clear e4 b4 hoth4 hgr4 hsz4 hk4 p2 p3 he4 gd hW5 b6 g6 b5 hk5 hgr5 hbk4 hpb4 k0 k1 k2 z0 z1 z2 m0 m1 m2 he5 p25 HPB3 HBK3
            go_wp2_with (first
              | (at_builtin; refine wpList_append_at rfl _ _ 44 rfl (wB.heap.size + 1) 26 i1 _ 3 72 Tryz.underlying44 hin1 hx0 hx1 hx2 rfl (by omega) (.slice o7 (T.length + 1) c7) (T.length + 1) (knC ps) rfl p26 ⟨W5.heap.size, 0, none⟩ 1 1 [.slice sr A.refs.length cr, .slice sl A.lasts.length cl, .slice sh A.has.length ch] rfl rfl (World.news_of_block HB6.out) (by simp [Value.oneCell']) (by unfold maxLen; omega) (by omega) hszV ?_; intro v7' W7 hown7 hgrow7 hv7b; obtain ⟨o7', c7', hv7'⟩ := own_shape hown7; subst hv7'; have he7 := own_other p26 he6 (by decide) hgrow7; have hsz7 := hgrow7.size)
              | (at_builtin; refine wpList_append_at rfl _ _ 23 rfl (wB.heap.size + 1) 3 i2 _ 1 8 Tryz.underlying23 hin2 hy0 hy1 hy2 rfl (by omega) (.slice o8 (T.length + 1) c8) (T.length + 1) (endsV T) rfl (own_grow he7 ((Grow.refl W7).alloc _)) ⟨W7.heap.size, 0, none⟩ 1 1 [.int .i64 S2.length] rfl rfl (World.news_of_block (heap_alloc_new _ _)) (by simp [Value.oneCell']) (by unfold maxLen; omega) (by omega) (by simp; omega) ?_; intro v8' W8 hown8 hgrow8 hv8b; obtain ⟨o8', c8', hv8'⟩ := own_shape hown8; subst hv8'))
            have hz : W8.ownsRow (wB.heap.size + 1) 3 1 (.slice o8' (T.length + 1 + 1) c8') (T.length + 1 + 1) (endsV T ++ [.int .i64 (logK [] (T ++ [PT])).length]) := by rw [HS2.out]; exact hown8
            have hcur : besideK V6 (.slice o8 (T.length + 1) c8) (.slice sr A.refs.length cr, .slice sl A.lasts.length cl, .slice sh A.has.length ch) (knwM M2) := by rw [HKN.out]; exact HK5.out.grow HG6.out
            have hal7 : Grow W7 (W7.alloc (.cells #[.int .i64 S2.length] 3)) := (Grow.refl W7).alloc _
            have hT2 := TL.next (HG6.out.get HB5.out) (HGR5.out.trans HG6.out) HT4.out.bw hcur HWe2.out.rep.1 ps p1 p26 (fun j h => (p35.out j h).grow HG6.out) hgrow7 hown7 hal7 (own_grow he7 hal7) hgrow8 hz hv8b
            exact ⟨⟨T ++ [PT], M2, _, i + 1, by omega, by omega, by simp; omega, by rw [HS2.out], by go_num, HWe2, hide hT2, HLn2⟩, by simp [intOf]; omega⟩
        · have hne : ((E : Int) != 0) = true := by simp; exact h0
          clear h0
          go_wp2
          go_roundw
          case rel => exact ⟨T, M, (xr, xl, xh), i + 1, by omega, by omega, by omega, by rw [HS.out], by go_num, HWe, HT3, HLn⟩
          case measure => simp [intOf]; omega
    · have hcs : ¬ (i : Int) < (rs.length : Int) ∨ ((i : Int) < (rs.length : Int) ∧ ¬ (i : Int) < 20) := by omega
      have hre := HWe.out.replay
      rw [HS.out] at hre
      have HRP : Hid (Calls Tryz.prog 13 #[.string (bs S)] wr fun e w' => ∃ yr yl yh, e = .returned (.tuple #[.agg #[yr, yl, yh], .int .i64 S.length]) ∧ ownKnw w' wr.heap.size yr yl yh (knwM M) ∧ Grow wr w') := hide (by
        have := Replay_any wr S (by omega)
        rw [hre.1, hre.2] at this
        exact this)
      obtain ⟨K, HK⟩ : ∃ K, Hid (knwM M = K) := ⟨_, hide rfl⟩
      have hok1 := knwM_right HWe.out.ok
      have hcu : besideK wr (.slice o8 (T.length + 1) c8) (xr, xl, xh) K := by rw [← HK.out]; exact HTL.out.cur
      rw [HK.out] at HRP hok1
      have HZ := hide (knw_sizes hok1)
      have HCU := hide hcu
      obtain ⟨⟨xro, xrc, hx1⟩, ⟨xlo, xlc, hx2⟩, ⟨xho, xhc, hx3⟩⟩ := hcu.shape
      simp only at hx1 hx2 hx3
      subst hx1 hx2 hx3
      have HSl := hide hSl
      have HTi : Hid (T.length ≤ 20) := hide (by omega)
      clear hre hok1 hcu hlt k0 k1 k2 hir hi20 hTi
      rcases hcs with h1 | ⟨h1, h2⟩
      all_goals
        go_wp2_with fail
        refine HRP.out.mono ?_
        rintro e w3 ⟨yr, yl, yh, rfl, hown, hg3⟩
        obtain ⟨⟨sr, cr, hy1⟩, ⟨sl, cl, hy2⟩, ⟨sh, ch, hy3⟩⟩ := (SKw.of_own hown).shape
        subst hy1 hy2 hy3
        obtain ⟨V4, e4, g4, b4⟩ := laid_at w3 #[.slice sr K.refs.length cr, .slice sl K.lasts.length cl, .slice sh K.has.length ch] 26
        have HG4 : Hid (Grow wr V4) := hide ((show Grow wr w3 from hg3).trans g4)
        have HT4 := hide (HTL.out.grow HG4.out)
        have HB4 := hide b4
        have HSZ4 : Hid (wr.heap.size ≤ w3.heap.size) := hide (show Grow wr w3 from hg3).size
        have HX4 := hide ((hown.reads.keep g4).more g4.size)
        obtain ⟨k0, k1, k2⟩ := three_of HT4.out.at'
        obtain ⟨d0, d1, d2⟩ := three_of b4
        simp only at k0 k1 k2
        have HSK := hide (sameKnw_yes V4 _ _ _ _ _ _ K HX4.out (HCU.out.grow HG4.out).reads HZ.out.1 HZ.out.2.1 HZ.out.2.2.1 HZ.out.2.2.2)
        clear hg3 hown g4 b4 HRP
        go_wp2_with fail
        refine HSK.out.mono ?_
        rintro e w5 ⟨rfl, hg5⟩
        have HG5 : Hid (Grow V4 w5) := hide hg5
        have HT5 := hide (HT4.out.grow hg5)
        clear hg5 HSK k0 k1 k2 d0 d1 d2 HT4 e4
        go_wp2_with fail
        refine (choose_any c (S.length + 1) w5 (by omega) (by omega) hc1 hc2).mono ?_
        rintro e w6 ⟨rfl, hw6⟩
        subst hw6
        obtain ⟨q, hq⟩ : ∃ q, q = chooseN c (S.length + 1) := ⟨_, rfl⟩
        have hqS : q ≤ S.length := by
          have : q < S.length + 1 := by rw [hq]; exact Nat.mod_lt _ (by omega)
          omega
        rw [← hq]
        clear hq
        obtain ⟨m, hm, hra, hre, hcm⟩ := HWe.out.cut q
        rw [HS.out] at hra hre
        have HRA := hide hra
        have HRE := hide hre
        have HCM := hide hcm
        clear hra hre hcm
        go_wp2
        go_loopw [17, 18] (fun x17 x18 wl => ∃ k, k ≤ T.length + 1 ∧ x17 = .int .i64 ((min (k - 1) m : Nat) : Int) ∧ x18 = .int .i64 k ∧ wl = w6) (fun _ x18 _ => T.length + 1 - (intOf x18).toNat)
        case atStart => exact ⟨0, by omega, by simp, rfl, rfl⟩
        case round =>
          obtain ⟨k, hk, rfl, rfl, hwl⟩ := hrel
          rename World => wl
          subst hwl
          have hTl := HTi.out
          by_cases hkl : k ≤ T.length
          · obtain ⟨ge, ce, hve, hgeB, q0⟩ := row_cellsE HT5.out.ends hkl rfl
            obtain ⟨rfl, rfl⟩ : o8 = some ⟨ge, 0, none⟩ ∧ c8 = ce := by simpa using hve
            have hkc := HCM.out k hkl
            obtain ⟨en, HEN⟩ : ∃ en, Hid ((logK [] (T.take k)).length = en) := ⟨_, hide rfl⟩
            rw [HEN.out] at q0 hkc
            have hki : (k : Int) < (T.length : Int) + 1 := by omega
            have hkn : k < T.length + 1 := by omega
            by_cases hkm : k ≤ m
            · have hle : (en : Int) ≤ (q : Int) := by have := hkc.2 hkm; omega
              clear hkc hve
              go_wp2
              go_roundw
              case rel => exact ⟨k + 1, by omega, by rw [show min (k + 1 - 1) m = k from by omega], by go_num, trivial⟩
              case measure => simp [intOf]; omega
            · have hle : ¬ (en : Int) ≤ (q : Int) := fun h => hkm (hkc.1 (by omega))
              clear hkc hve
              go_wp2
              go_roundw
              case rel => exact ⟨k + 1, by omega, by rw [show min (k + 1 - 1) m = min (k - 1) m from by omega], by go_num, trivial⟩
              case measure => simp [intOf]; omega
          · obtain rfl : k = T.length + 1 := by omega
            rw [show min (T.length + 1 - 1) m = m from by omega]
            have hkn : ¬ ((T.length : Int) + 1 < (T.length : Int) + 1) := by omega
            have HRP2 : Hid (Calls Tryz.prog 13 #[.string (bs (S.take q))] wl fun e w' => ∃ yr yl yh, e = .returned (.tuple #[.agg #[yr, yl, yh], .int .i64 (logK [] (T.take m)).length]) ∧ ownKnw w' wl.heap.size yr yl yh (knwM (replK [] (T.take m))) ∧ Grow wl w') := hide (by
              have := Replay_any wl (S.take q) (by have := HSl.out; rw [List.length_take]; omega)
              rw [HRA.out, HRE.out] at this
              exact this)
            obtain ⟨en, HEN⟩ : ∃ en, Hid ((logK [] (T.take m)).length = en) := ⟨_, hide rfl⟩
            obtain ⟨K2, HK2⟩ : ∃ K2, Hid (knwM (replK [] (T.take m)) = K2) := ⟨_, hide rfl⟩
            have hok2 := knwM_right (HWe.out.take m hm).ok
            rw [HK2.out] at hok2
            rw [HEN.out, HK2.out] at HRP2
            have HZ2 := hide (knw_sizes hok2)
            have HM := hide hm
            clear hok2 HCM HRA HRE hTl
            go_wp2_with fail
            refine HRP2.out.mono ?_
            rintro e w7 ⟨tr, tl, th, rfl, hown7, hg7⟩
            obtain ⟨⟨ur, dr, hy1⟩, ⟨ul, dl, hy2⟩, ⟨uh, dh, hy3⟩⟩ := (SKw.of_own hown7).shape
            subst hy1 hy2 hy3
            have HT7 := hide (HT5.out.grow hg7)
            have hb7 := (HG5.out.trans hg7).get HB4.out
            obtain ⟨d0, d1, d2⟩ := three_of hb7
            have z0 : w7.frozen? ⟨w3.heap.size, 0, none⟩ = false := by simp only [World.frozen?, hb7]; rfl
            have z1 : w7.frozen? ⟨w3.heap.size, 1, none⟩ = false := by simp only [World.frozen?, hb7]; rfl
            have z2 : w7.frozen? ⟨w3.heap.size, 2, none⟩ = false := by simp only [World.frozen?, hb7]; rfl
            have HB7 := hide hb7
            have HO7 := hide hown7
            have HG7 : Hid (Grow wl w7) := hide hg7
            clear hb7 hown7 hg7 HRP2
            go_wp2
            obtain ⟨W8, e8⟩ : ∃ W8, W8 = ((w7.setCell ⟨w3.heap.size, 0, none⟩ (.slice ur K2.refs.length dr)).setCell ⟨w3.heap.size, 1, none⟩ (.slice ul K2.lasts.length dl)).setCell ⟨w3.heap.size, 2, none⟩ (.slice uh K2.has.length dh) := ⟨_, rfl⟩
            rw [← e8]
            have t1 := set3 HB7.out 0 (.slice ur K2.refs.length dr)
            have t2 := set3 t1 1 (.slice ul K2.lasts.length dl)
            have b8 := set3 t2 2 (.slice uh K2.has.length dh)
            have hoth : ∀ g, g ≠ w3.heap.size → W8.heap[g]? = w7.heap[g]? := fun g hg => by
              rw [e8, Below.heap_setCell _ _ _ _ hg, Below.heap_setCell _ _ _ _ hg, Below.heap_setCell _ _ _ _ hg]
            have hkeep : ∀ {lo hi : Nat} {x1 x2 x3 : Value} {kk : Knw}, SKw lo hi w7 x1 x2 x3 kk → readsKnw W8 W8.heap.size x1 x2 x3 kk := fun h => by
              rw [e8]
              exact (((h.set HB7.out _).set t1 _).set t2 _).1.reads
            have hxr := hkeep (SKw.of_own HO7.out)
            obtain ⟨ps, p1, p2, p3⟩ := HT7.out.row
            have hmp : m < ps.length := by have := HM.out; omega
            obtain ⟨lo, hi, -, -, hsm⟩ := p3 m hmp
            rw [HK2.out] at hsm
            have hmr := hkeep hsm
            obtain ⟨gn, cn, hvn, hgn, n0, n1, n2⟩ := row_cellsN p2 p1 hmp
            obtain ⟨ge, ce, hve, hge, q0⟩ := row_cellsE HT7.out.ends HM.out rfl
            obtain ⟨rfl, rfl⟩ : o7 = some ⟨gn, 0, none⟩ ∧ c7 = cn := by simpa using hvn
            obtain ⟨rfl, rfl⟩ : o8 = some ⟨ge, 0, none⟩ ∧ c8 = ce := by simpa using hve
            have hgn2 : gn ≠ w3.heap.size := by
              obtain ⟨_, _, r2, _⟩ := id HTL.out.row
              have := (r2.lt gn rfl).2
              have := HSZ4.out
              omega
            have hge2 : ge ≠ w3.heap.size := by
              have := (HTL.out.ends.lt ge rfl).2
              have := HSZ4.out
              omega
            rw [HEN.out] at q0
            have HC0 := hide ((World.cell?_of_block (a := ⟨ge, m, none⟩) (hoth ge hge2)).trans q0)
            have HN0 := hide ((World.cell?_of_block (a := ⟨gn, m * 3, none⟩) (hoth gn hgn2)).trans n0)
            have HN1 := hide ((World.cell?_of_block (a := ⟨gn, m * 3 + 1, none⟩) (hoth gn hgn2)).trans n1)
            have HN2 := hide ((World.cell?_of_block (a := ⟨gn, m * 3 + 2, none⟩) (hoth gn hgn2)).trans n2)
            have hlge : ge < W8.heap.size := World.block_lt_of_cell? _ _ HC0.out
            have hlgn : gn < W8.heap.size := World.block_lt_of_cell? _ _ HN0.out
            obtain ⟨pm, hpm⟩ : ∃ pm, ps[m] = pm := ⟨_, rfl⟩
            rw [hpm] at HN0 HN1 HN2 hmr
            obtain ⟨y1, y2, y3⟩ := pm
            simp only at HN0 HN1 HN2 hmr
            have HB8 : Hid (W8.heap[w3.heap.size]? = some (.cells #[.slice ur K2.refs.length dr, .slice ul K2.lasts.length dl, .slice uh K2.has.length dh] 26 (0, 0))) := hide (by rw [e8]; exact b8)
            have HG8 : Hid (Below w.heap.size w W8) := hide (by
              have hw3 : w.heap.size ≤ w3.heap.size := Nat.le_trans HTL.out.gr.size HSZ4.out
              rw [e8]
              exact Below.setCell (Below.setCell (Below.setCell HT7.out.gr hw3 _) hw3 _) hw3 _)
            have HSK2 : Hid (∀ W, Grow W8 W → Calls Tryz.prog 12 #[.agg #[.slice ur K2.refs.length dr, .slice ul K2.lasts.length dl, .slice uh K2.has.length dh], .agg #[y1, y2, y3]] W fun e w' => e = .returned (.bool true) ∧ Grow W w') := hide fun W g =>
              sameKnw_yes W _ _ _ _ _ _ K2 ((hxr.keep g).more g.size) ((hmr.keep g).more g.size) HZ2.out.1 HZ2.out.2.1 HZ2.out.2.2.1 HZ2.out.2.2.2
            have hmn : m < T.length + 1 := by have := HM.out; omega
            have hmi : (m : Int) < (T.length : Int) + 1 := by omega
            clear hpm e8 t1 t2 b8 hoth hkeep hxr hmr p1 p2 p3 hsm n0 n1 n2 q0 hvn hve
            refine wp_region_free 15 138 mixedR rfl (by decide +kernel) Grow (fun _ _ _ => Grow.trans) (Grow.refl _)
              (fun j v _ => match j with
                | 0 => v = .int .i64 en
                | 1 => v = .slice (some ⟨ge, 0, none⟩) (T.length + 1) c8
                | 2 => v = .int .i64 m
                | 3 => v = .pointer (some ⟨ge, m, none⟩)
                | 4 => v = .int .i64 en
                | 7 => v = .agg #[.slice ur K2.refs.length dr, .slice ul K2.lasts.length dl, .slice uh K2.has.length dh]
                | 8 => v = .slice (some ⟨gn, 0, none⟩) (T.length + 1) c7
                | 9 => v = .int .i64 m
                | 10 => v = .pointer (some ⟨gn, m * 3, none⟩)
                | 11 => v = .agg #[y1, y2, y3]
                | _ => v = .bool true)
              (fun j v w w' h hg => h) (fun _ _ => False) (fun _ _ _ _ h => h.elim) (fun j hj o ho a w9 hG hoff hdep => ?_) (fun vals w9 hG hvals => ?_)
            · have hG1 : Grow W8 w9 := hG.undrew
              obtain ⟨c0, c1, c2⟩ := three_of (hG1.get HB8.out)
              have f0 := (hG1.cell (p := ⟨ge, m, none⟩) hlge).trans HC0.out
              have g0 := (hG1.cell (p := ⟨gn, m * 3, none⟩) hlgn).trans HN0.out
              have g1 := (hG1.cell (p := ⟨gn, m * 3 + 1, none⟩) hlgn).trans HN1.out
              have g2 := (hG1.cell (p := ⟨gn, m * 3 + 2, none⟩) hlgn).trans HN2.out
              match j, hj with
              | 0, _ =>
                obtain rfl := Option.some.inj ho
                have o16 := hoff 16 (by decide +kernel)
                simp at o16
                simp [opYields, go_sem, o16]
                exact Grow.refl _
              | 1, _ =>
                obtain rfl := Option.some.inj ho
                have o8 := hoff 8 (by decide +kernel)
                simp at o8
                simp [opYields, go_sem, o8]
                exact Grow.refl _
              | 2, _ =>
                obtain rfl := Option.some.inj ho
                have o17 := hoff 17 (by decide +kernel)
                simp at o17
                simp [opYields, go_sem, o17]
                exact Grow.refl _
              | 3, _ =>
                obtain rfl := Option.some.inj ho
                have d1 := hdep 1 (by decide +kernel)
                simp [slotOf, dstOf] at d1
                have d2 := hdep 2 (by decide +kernel)
                simp [slotOf, dstOf] at d2
                simp [opYields, go_sem, d1, d2, hmn, hmi]
                exact Grow.refl _
              | 4, _ =>
                obtain rfl := Option.some.inj ho
                have d3 := hdep 3 (by decide +kernel)
                simp [slotOf, dstOf] at d3
                simp [opYields, go_sem, d3, f0]
                exact Grow.refl _
              | 5, _ =>
                obtain rfl := Option.some.inj ho
                have d0 := hdep 0 (by decide +kernel)
                simp [slotOf, dstOf] at d0
                have d4 := hdep 4 (by decide +kernel)
                simp [slotOf, dstOf] at d4
                simp [opYields, go_sem, d0, d4]
                exact Grow.refl _
              | 6, _ =>
                obtain rfl := Option.some.inj ho
                have d5 := hdep 5 (by decide +kernel)
                simp [slotOf, dstOf] at d5
                simp [opYields, go_sem, d5]
                exact Grow.refl _
              | 7, _ =>
                have hwt := gwanted ho (g := 6) (bb := true) (by rfl) (hdep 6 (by decide +kernel))
                unfold opYields
                rw [if_pos hwt]
                obtain rfl := Option.some.inj ho
                have o15 := hoff 15 (by decide +kernel)
                simp at o15
                simp [go_sem, o15, c0, c1, c2]
                exact Grow.refl _
              | 8, _ =>
                have hwt := gwanted ho (g := 6) (bb := true) (by rfl) (hdep 6 (by decide +kernel))
                unfold opYields
                rw [if_pos hwt]
                obtain rfl := Option.some.inj ho
                have o7 := hoff 7 (by decide +kernel)
                simp at o7
                simp [go_sem, o7]
                exact Grow.refl _
              | 9, _ =>
                have hwt := gwanted ho (g := 6) (bb := true) (by rfl) (hdep 6 (by decide +kernel))
                unfold opYields
                rw [if_pos hwt]
                obtain rfl := Option.some.inj ho
                have o17 := hoff 17 (by decide +kernel)
                simp at o17
                simp [go_sem, o17]
                exact Grow.refl _
              | 10, _ =>
                have hwt := gwanted ho (g := 6) (bb := true) (by rfl) (hdep 6 (by decide +kernel))
                unfold opYields
                rw [if_pos hwt]
                obtain rfl := Option.some.inj ho
                have d8 := hdep 8 (by decide +kernel)
                simp [slotOf, dstOf] at d8
                have d9 := hdep 9 (by decide +kernel)
                simp [slotOf, dstOf] at d9
                simp [go_sem, d8, d9, hmn, hmi]
                exact Grow.refl _
              | 11, _ =>
                have hwt := gwanted ho (g := 6) (bb := true) (by rfl) (hdep 6 (by decide +kernel))
                unfold opYields
                rw [if_pos hwt]
                obtain rfl := Option.some.inj ho
                have d10 := hdep 10 (by decide +kernel)
                simp [slotOf, dstOf] at d10
                simp [go_sem, d10, g0, g1, g2]
                exact Grow.refl _
              | 12, _ =>
                have hwt := gwanted ho (g := 6) (bb := true) (by rfl) (hdep 6 (by decide +kernel))
                unfold opYields
                rw [if_pos hwt]
                obtain rfl := Option.some.inj ho
                have d7 := hdep 7 (by decide +kernel)
                simp [slotOf, dstOf] at d7
                have d11 := hdep 11 (by decide +kernel)
                simp [slotOf, dstOf] at d11
                simp [go_sem, d7, d11]
                refine (HSK2.out w9 hG1).mono ?_
                rintro e w10 ⟨rfl, hb⟩
                exact ⟨hb, rfl⟩
              | 13, _ =>
                obtain rfl := Option.some.inj ho
                have d6 := hdep 6 (by decide +kernel)
                simp [slotOf, dstOf] at d6
                have d12 := hdep 12 (by decide +kernel)
                simp [slotOf, dstOf] at d12
                simp [opYields, go_sem, d6, d12]
                exact Grow.refl _
              | 14, _ =>
                obtain rfl := Option.some.inj ho
                have d13 := hdep 13 (by decide +kernel)
                simp [slotOf, dstOf] at d13
                simp [opYields, go_sem, d13]
                exact Grow.refl _
              | k + 15, h => exact absurd h (by omega)
            · have v14 := hvals 14 (by omega)
              simp only at v14
              have HG9 : Hid (Grow W8 w9) := hide hG.undrew
              have hs8 := HG8.out.size
              clear hvals hG
              simp [over, dstOf, Act.put, v14]
              go_wp2
              go_ret
              exact ⟨rfl, Below.trans HG8.out (Below.mono HG9.out hs8)⟩
end Go.Proofs.YtkaeogldielkfaaGreat.Rc
