/- gleanerref.WriteOf. -/
import Derived.Test.YtojljbgopknbcaaProg
import Derived.Test.YtojljbgopknbcaaKit
import Derived.Test.YtojljbgopknbcaaSpec
import Derived.Test.YtojljbgopknbcaaReg
import Derived.Test.YtojljbgopknbcaaWTop
import Derived.Test.YtojljbgopknbcaaRWri
import Derived.Test.YtojljbgopknbcaaRChk
set_option linter.unusedVariables false
set_option linter.unusedSimpArgs false
namespace Go.Proofs.Ytojljbgopknbcaa
open Go.RowKit
attribute [local go_sem] bs_size bs_toList bs_append bs_get bs_extract

theorem fieldB_len (h : Nat) (s : List UInt8) : (fieldB h s).length ≤ s.length + 20 := by
  have := numB_length h; have := numB_length s.length
  simp [fieldB]; omega
theorem labelsB_len (l : List Lab) (h : ∀ x ∈ l, x.1.length ≤ 20000 ∧ x.2.length ≤ 20000) : (labelsB l).length ≤ l.length * 40100 := by
  induction l with
  | nil => simp [labelsB]
  | cons x l ih =>
    have h1 := h x (by simp)
    have h2 := ih (fun y hy => h y (by simp [hy]))
    have h3 := fieldB_len 10 (labelIn x)
    have h4 : (labelIn x).length = (fieldB 10 x.1).length + (fieldB 18 x.2).length := by simp [labelIn]
    have h5 := fieldB_len 10 x.1
    have h6 := fieldB_len 18 x.2
    simp only [labelsB, List.length_append, List.length_cons]
    omega
theorem samplesB_len (l : List Sam) : (samplesB l).length ≤ l.length * 100 := by
  induction l with
  | nil => simp [samplesB]
  | cons x l ih =>
    have h3 := fieldB_len 18 (sampleIn x)
    have h4 : (sampleIn x).length = (numB 9).length + (8 + ((numB 16).length + (numB (unsig x.1)).length)) := by simp [sampleIn, wordB_length]
    have := numB_length 9; have := numB_length 16; have := numB_length (unsig x.1)
    simp only [samplesB, List.length_append, List.length_cons]
    omega

set_option maxRecDepth 20000 in
set_option maxHeartbeats 4000000 in
theorem writeOf_any (w : World) (v : Value) (ls : List Ser) (hv : readsSeries w w.heap.size v ls) (hbits : ∀ x ∈ ls, bitsFit x) (hfit : lensFit ls) :
    Calls Try.prog 15 #[v] w fun e w' => e = .returned (.tuple #[.string (bs (writeTxt ls)), .int .i64 (writeErr ls)]) ∧ Below w.heap.size w w' := by
  obtain ⟨ao, cp, hvv, hcells⟩ := id hv
  have HF := hide hfit
  have HV := hide hv
  clear hfit hv
  by_cases hc : checkErr ls = 0
  · have hcounts : countsB ls = true := by
      cases e : countsB ls with
      | true => rfl
      | false => simp [checkErr, e] at hc
    have htimes : timesB ls = true := by
      cases e : timesB ls with
      | true => rfl
      | false => simp [checkErr, e, hcounts] at hc
    have hok := (countsB_iff ls).2 hcounts
    have h200 := hok.1
    have HS := hide hok.2
    have HT := hide ((timesB_iff ls).2 htimes)
    have HE : Hid (writeErr ls = if (seriesB ls).length ≤ 20000 then 0 else 2) := by show _ = _; simp [writeErr, hcounts, htimes]
    have HC := hide hc
    clear hc hok hcounts htimes
    subst hvv
    go_enter Try.func15, Try.ntmps15
    go_wp2_with fail
    refine (checkSeries_any w _ ls HV.out HF.out).mono ?_
    rintro e w' ⟨rfl, rfl⟩
    rename World => w
    rw [HC.out]
    go_wp2
    go_loopw [5, 6] (fun o i wr => ∃ k : Nat, k ≤ ls.length ∧ i = .int .i64 k ∧ o = .string (bs (seriesB (ls.take k))) ∧ (seriesB (ls.take k)).length ≤ 20000 ∧ Below w.heap.size w wr) (fun _ i _ => ls.length - (intOf i).toNat)
    case atStart => exact ⟨0, by omega, rfl, rfl, by simp [seriesB], Below.refl _ _⟩
    case round =>
      obtain ⟨k, hk, rfl, rfl, hout, hb⟩ := hrel
      by_cases hlt : k < ls.length
      · obtain ⟨lb, lo, x, y, rfl, hlB, c0, c1, rx, ry⟩ := hcells k hlt
        have d0 := (hb.cell (p := ⟨lb, lo + k * 2, none⟩) hlB).trans c0
        have d1 := (hb.cell (p := ⟨lb, lo + k * 2 + 1, none⟩) hlB).trans c1
        obtain ⟨xo, xc, rfl, xcells⟩ := id rx
        obtain ⟨yo, yc, rfl, ycells⟩ := id ry
        clear c0 c1 hcells
        have hser := HS.out _ (List.getElem_mem hlt)
        have hl20 := hser.1
        have hs200 := hser.2.1
        have HL := hide hser.2.2
        clear hser
        go_wp2
        go_loopw [7, 8] (fun s i wi => ∃ q : Nat, q ≤ ls[k].1.length ∧ i = .int .i64 q ∧ s = .string (bs (labelsB (ls[k].1.take q))) ∧ Below wr.heap.size wr wi) (fun _ i _ => ls[k].1.length - (intOf i).toNat)
        case atStart => exact ⟨0, by omega, rfl, rfl, Below.refl _ _⟩
        case round =>
          obtain ⟨q, hq, rfl, rfl, hbi⟩ := hrel
          rename World => wi
          have hbi' := hb.trans (hbi.mono hb.size)
          have g0 := (hbi'.cell (p := ⟨lb, lo + k * 2, none⟩) hlB).trans ((hb.cell (p := ⟨lb, lo + k * 2, none⟩) hlB).symm.trans d0)
          have g1 := (hbi'.cell (p := ⟨lb, lo + k * 2 + 1, none⟩) hlB).trans ((hb.cell (p := ⟨lb, lo + k * 2 + 1, none⟩) hlB).symm.trans d1)
          clear d0 d1
          by_cases hqlt : q < ls[k].1.length
          · obtain ⟨nb, no, rfl, hnB, e0, e1⟩ := xcells q hqlt
            have f0 := (hbi'.cell (p := ⟨nb, no + q * 2, none⟩) hnB).trans e0
            have f1 := (hbi'.cell (p := ⟨nb, no + q * 2 + 1, none⟩) hnB).trans e1
            clear e0 e1 xcells ycells
            have hnm := HL.out _ (List.getElem_mem hqlt)
            have hpre := labelsB_len (ls[k].1.take q) (fun x hx => HL.out x (List.mem_of_mem_take hx))
            have hpl : (ls[k].1.take q).length ≤ 20 := by rw [List.length_take]; omega
            obtain ⟨pre, HP⟩ : ∃ pre, Hid (labelsB (ls[k].1.take q) = pre) := ⟨_, hide rfl⟩
            rw [HP.out] at hpre ⊢
            obtain ⟨nm, vl, HX⟩ : ∃ nm vl, Hid (ls[k].1[q] = (nm, vl)) := ⟨_, _, hide rfl⟩
            rw [HX.out] at f0 f1 hnm
            simp only at f0 f1 hnm
            have hn1 := fieldB_len 10 nm
            have hn2 := fieldB_len 18 vl
            have hn3 : (labelIn (nm, vl)).length = (fieldB 10 nm).length + (fieldB 18 vl).length := by simp [labelIn]
            have hn4 := fieldB_len 10 (labelIn (nm, vl))
            go_wp2
            have hX : (wi.alloc (.cells #[.string (bs nm), .string (bs vl)] 43)).heap[wi.heap.size]? = some (.cells #[.string (bs nm), .string (bs vl)] 43 (0, 0)) := heap_alloc_new _ _
            refine wp_region_free 10 94 Try.mixed rfl (by decide +kernel) Grow (fun _ _ _ => Grow.trans) (Grow.refl _)
              (fun i v _ => match i with
                | 0 => v = .string (bs pre)
                | 1 => v = .pointer (some ⟨wi.heap.size, 0, none⟩)
                | 2 => v = .string (bs nm)
                | 3 => v = .string (bs (fieldB 10 nm))
                | 4 => v = .pointer (some ⟨wi.heap.size, 1, none⟩)
                | 5 => v = .string (bs vl)
                | 6 => v = .string (bs (fieldB 18 vl))
                | 7 => v = .string (bs (labelIn (nm, vl)))
                | 8 => v = .string (bs (fieldB 10 (labelIn (nm, vl))))
                | _ => v = .string (bs (pre ++ fieldB 10 (labelIn (nm, vl)))))
              (fun i v w w' h hg => h) (fun _ _ => False) (fun _ _ _ _ h => h.elim) (fun i hi o ho a w1 hG hoff hdep => ?_) (fun vals w1 hG hvals => ?_)
            · obtain ⟨x0, x1⟩ := two_cells (below_block hG.undrew hX (by simp))
              match i, hi with
              | 0, _ =>
                obtain rfl := Option.some.inj ho
                have o7 := hoff 7 (by decide +kernel)
                simp at o7
                simp [opYields, go_sem, o7]
                exact Grow.refl _
              | 1, _ =>
                obtain rfl := Option.some.inj ho
                have o9 := hoff 9 (by decide +kernel)
                simp at o9
                simp [opYields, go_sem, o9]
                exact Grow.refl _
              | 2, _ =>
                obtain rfl := Option.some.inj ho
                have d1 := hdep 1 (by decide +kernel)
                simp [slotOf, dstOf] at d1
                simp [opYields, go_sem, d1, x0]
                exact Grow.refl _
              | 3, _ =>
                obtain rfl := Option.some.inj ho
                have d2 := hdep 2 (by decide +kernel)
                simp [slotOf, dstOf] at d2
                simp [opYields, go_sem, d2]
                refine (fieldOf_one nm w1 (by omega)).mono ?_
                rintro e w2 ⟨rfl, hb⟩
                exact ⟨hb, rfl⟩
              | 4, _ =>
                obtain rfl := Option.some.inj ho
                have o9 := hoff 9 (by decide +kernel)
                simp at o9
                simp [opYields, go_sem, o9]
                exact Grow.refl _
              | 5, _ =>
                obtain rfl := Option.some.inj ho
                have d4 := hdep 4 (by decide +kernel)
                simp [slotOf, dstOf] at d4
                simp [opYields, go_sem, d4, x1]
                exact Grow.refl _
              | 6, _ =>
                obtain rfl := Option.some.inj ho
                have d5 := hdep 5 (by decide +kernel)
                simp [slotOf, dstOf] at d5
                simp [opYields, go_sem, d5]
                refine (fieldOf_two vl w1 (by omega)).mono ?_
                rintro e w2 ⟨rfl, hb⟩
                exact ⟨hb, rfl⟩
              | 7, _ =>
                obtain rfl := Option.some.inj ho
                have d3 := hdep 3 (by decide +kernel)
                simp [slotOf, dstOf] at d3
                have d6 := hdep 6 (by decide +kernel)
                simp [slotOf, dstOf] at d6
                simp [opYields, go_sem, d3, d6]
                rw [if_neg (by omega)]
                exact ⟨Grow.refl _, rfl⟩
              | 8, _ =>
                obtain rfl := Option.some.inj ho
                have d7 := hdep 7 (by decide +kernel)
                simp [slotOf, dstOf] at d7
                simp [opYields, go_sem, d7]
                refine (fieldOf_one (labelIn (nm, vl)) w1 (by omega)).mono ?_
                rintro e w2 ⟨rfl, hb⟩
                exact ⟨hb, rfl⟩
              | 9, _ =>
                obtain rfl := Option.some.inj ho
                have d0 := hdep 0 (by decide +kernel)
                simp [slotOf, dstOf] at d0
                have d8 := hdep 8 (by decide +kernel)
                simp [slotOf, dstOf] at d8
                simp [opYields, go_sem, d0, d8]
                rw [if_neg (by omega)]
                exact ⟨Grow.refl _, rfl⟩
            · have v9 := hvals 9 (by omega)
              simp only at v9
              clear hvals
              simp [over, dstOf, Act.put, v9]
              go_wp2
              go_roundw
              case rel => exact ⟨q + 1, by omega, by go_num, by rw [List.take_succ_eq_append_getElem hqlt, labelsB_append, HP.out, HX.out]; simp [labelsB], (hbi.alloc hbi.size _).trans (hG.undrew.mono (by have := hbi.size; simp; omega))⟩
              case measure => simp [intOf]; omega
          · have hinn := labelsB_len ls[k].1 HL.out
            have HTK : Hid (labelsB (ls[k].1.take q) = labelsB ls[k].1) := by show _ = _; rw [List.take_of_length_le (by omega)]
            rw [HTK.out]
            clear xcells
            go_wp2
            go_loopw [7, 10] (fun s i wj => ∃ p : Nat, p ≤ ls[k].2.length ∧ i = .int .i64 p ∧ s = .string (bs (labelsB ls[k].1 ++ samplesB (ls[k].2.take p))) ∧ Below wr.heap.size wr wj) (fun _ i _ => ls[k].2.length - (intOf i).toNat)
            case atStart => exact ⟨0, by omega, rfl, by simp [samplesB], hbi⟩
            case round =>
              obtain ⟨p, hp, rfl, rfl, hbj⟩ := hrel
              rename World => wj
              have hbj' := hb.trans (hbj.mono hb.size)
              have k0 := (hbj'.cell (p := ⟨lb, lo + k * 2, none⟩) hlB).trans ((hbi'.cell (p := ⟨lb, lo + k * 2, none⟩) hlB).symm.trans g0)
              have k1 := (hbj'.cell (p := ⟨lb, lo + k * 2 + 1, none⟩) hlB).trans ((hbi'.cell (p := ⟨lb, lo + k * 2 + 1, none⟩) hlB).symm.trans g1)
              clear g0 g1
              by_cases hplt : p < ls[k].2.length
              · obtain ⟨nb, no, rfl, hnB, e0, e1⟩ := ycells p hplt
                have f0 := (hbj'.cell (p := ⟨nb, no + p * 2, none⟩) hnB).trans e0
                have f1 := (hbj'.cell (p := ⟨nb, no + p * 2 + 1, none⟩) hnB).trans e1
                clear e0 e1 ycells
                have hpre := samplesB_len (ls[k].2.take p)
                have hpl : (ls[k].2.take p).length ≤ 200 := by rw [List.length_take]; omega
                have htime := HT.out _ (List.getElem_mem hlt) _ (List.getElem_mem hplt)
                have hbit := hbits _ (List.getElem_mem hlt) _ (List.getElem_mem hplt)
                obtain ⟨pre, HP⟩ : ∃ pre, Hid (labelsB ls[k].1 ++ samplesB (ls[k].2.take p) = pre) := ⟨_, hide rfl⟩
                have hprl : pre.length ≤ 1000000 := by rw [← HP.out, List.length_append]; omega
                rw [HP.out]
                obtain ⟨tm, vl, HX⟩ : ∃ tm vl, Hid (ls[k].2[p] = (tm, vl)) := ⟨_, _, hide rfl⟩
                rw [HX.out] at f0 f1 htime hbit
                simp only at f0 f1 htime hbit
                have HB := hide hbit
                have HTM := hide htime
                clear hbit htime hpre hpl hinn
                have hw8 := wordB_length vl
                have hnu := numB_length (unsig tm)
                have hsm : (sampleIn (tm, vl)).length ≤ 40 := by
                  have := numB_length 9; have := numB_length 16
                  simp [sampleIn, hw8]; omega
                have hfl := fieldB_len 18 (sampleIn (tm, vl))
                have hsi : sampleIn (tm, vl) = 9 :: (wordB vl ++ 16 :: numB (unsig tm)) := rfl
                rw [hsi] at hsm hfl
                clear hsi
                go_wp2
                have hX : (wj.alloc (.cells #[.int .i64 tm, .int .u64 vl] 55)).heap[wj.heap.size]? = some (.cells #[.int .i64 tm, .int .u64 vl] 55 (0, 0)) := heap_alloc_new _ _
                refine wp_region_free 17 94 Try.mixed rfl (by decide +kernel) Grow (fun _ _ _ => Grow.trans) (Grow.refl _)
                  (fun i v w => match i with
                    | 0 => v = .string (bs pre)
                    | 1 => ∃ g, v = .slice (some ⟨g, 0, none⟩) 1 1 ∧ byteAt w g 9
                    | 2 => v = .string (bs [9])
                    | 3 => v = .pointer (some ⟨wj.heap.size, 1, none⟩)
                    | 4 => v = .int .u64 vl
                    | 5 => v = .string (bs (wordB vl))
                    | 6 => v = .string (bs (9 :: wordB vl))
                    | 7 => ∃ g, v = .slice (some ⟨g, 0, none⟩) 1 1 ∧ byteAt w g 16
                    | 8 => v = .string (bs [16])
                    | 9 => v = .string (bs (9 :: (wordB vl ++ [16])))
                    | 10 => v = .pointer (some ⟨wj.heap.size, 0, none⟩)
                    | 11 => v = .int .i64 tm
                    | 12 => v = .int .u64 (unsig tm)
                    | 13 => v = .string (bs (numB (unsig tm)))
                    | 14 => v = .string (bs (9 :: (wordB vl ++ 16 :: numB (unsig tm))))
                    | 15 => v = .string (bs (fieldB 18 (9 :: (wordB vl ++ 16 :: numB (unsig tm)))))
                    | _ => v = .string (bs (pre ++ fieldB 18 (9 :: (wordB vl ++ 16 :: numB (unsig tm))))))
                  (fun i v w w' h hg => ?_) (fun _ _ => False) (fun _ _ _ _ h => h.elim) (fun i hi o ho a w1 hG hoff hdep => ?_) (fun vals w1 hG hvals => ?_)
                · match i, h with
                  | 1, ⟨g, h1, h2⟩ => exact ⟨g, h1, hg.get h2⟩
                  | 7, ⟨g, h1, h2⟩ => exact ⟨g, h1, hg.get h2⟩
                  | 0, h => exact h
                  | 2, h => exact h
                  | 3, h => exact h
                  | 4, h => exact h
                  | 5, h => exact h
                  | 6, h => exact h
                  | 8, h => exact h
                  | 9, h => exact h
                  | 10, h => exact h
                  | 11, h => exact h
                  | 12, h => exact h
                  | 13, h => exact h
                  | 14, h => exact h
                  | 15, h => exact h
                  | _ + 16, h => exact h
                · obtain ⟨x0, x1⟩ := two_cells (below_block hG.undrew hX (by simp))
                  match i, hi with
                  | 0, _ =>
                    obtain rfl := Option.some.inj ho
                    have o7 := hoff 7 (by decide +kernel)
                    simp at o7
                    simp [opYields, go_sem, o7]
                    exact Grow.refl _
                  | 1, _ =>
                    obtain rfl := Option.some.inj ho
                    simp [opYields, go_sem]
                    exact ⟨(Grow.refl _).alloc _, byteAt_new _ _⟩
                  | 2, _ =>
                    obtain rfl := Option.some.inj ho
                    have d1 := hdep 1 (by decide +kernel)
                    simp [slotOf, dstOf] at d1
                    obtain ⟨g, g1, g2⟩ := d1
                    have hcv := run_oneAt (P := Try.prog) w1 Try.underlying39 Try.underlying5 Try.underlying9 g2 9 rfl
                    simp [opYields, go_sem, g1, hcv]
                    exact Grow.refl _
                  | 3, _ =>
                    obtain rfl := Option.some.inj ho
                    have o11 := hoff 11 (by decide +kernel)
                    simp at o11
                    simp [opYields, go_sem, o11]
                    exact Grow.refl _
                  | 4, _ =>
                    obtain rfl := Option.some.inj ho
                    have d3 := hdep 3 (by decide +kernel)
                    simp [slotOf, dstOf] at d3
                    simp [opYields, go_sem, d3, x1]
                    exact Grow.refl _
                  | 5, _ =>
                    obtain rfl := Option.some.inj ho
                    have d4 := hdep 4 (by decide +kernel)
                    simp [slotOf, dstOf] at d4
                    simp [opYields, go_sem, d4]
                    refine (word_any vl w1 HB.out).mono ?_
                    rintro e w2 ⟨rfl, hb⟩
                    exact ⟨hb, rfl⟩
                  | 6, _ =>
                    obtain rfl := Option.some.inj ho
                    have d2 := hdep 2 (by decide +kernel)
                    simp [slotOf, dstOf] at d2
                    have d5 := hdep 5 (by decide +kernel)
                    simp [slotOf, dstOf] at d5
                    simp [opYields, go_sem, d2, d5]
                    rw [if_neg (by omega)]
                    exact ⟨Grow.refl _, rfl⟩
                  | 7, _ =>
                    obtain rfl := Option.some.inj ho
                    simp [opYields, go_sem]
                    exact ⟨(Grow.refl _).alloc _, byteAt_new _ _⟩
                  | 8, _ =>
                    obtain rfl := Option.some.inj ho
                    have d7 := hdep 7 (by decide +kernel)
                    simp [slotOf, dstOf] at d7
                    obtain ⟨g, g1, g2⟩ := d7
                    have hcv := run_oneAt (P := Try.prog) w1 Try.underlying39 Try.underlying5 Try.underlying9 g2 16 rfl
                    simp [opYields, go_sem, g1, hcv]
                    exact Grow.refl _
                  | 9, _ =>
                    obtain rfl := Option.some.inj ho
                    have d6 := hdep 6 (by decide +kernel)
                    simp [slotOf, dstOf] at d6
                    have d8 := hdep 8 (by decide +kernel)
                    simp [slotOf, dstOf] at d8
                    simp [opYields, go_sem, d6, d8]
                    rw [if_neg (by omega)]
                    exact ⟨Grow.refl _, rfl⟩
                  | 10, _ =>
                    obtain rfl := Option.some.inj ho
                    have o11 := hoff 11 (by decide +kernel)
                    simp at o11
                    simp [opYields, go_sem, o11]
                    exact Grow.refl _
                  | 11, _ =>
                    obtain rfl := Option.some.inj ho
                    have d10 := hdep 10 (by decide +kernel)
                    simp [slotOf, dstOf] at d10
                    simp [opYields, go_sem, d10, x0]
                    exact Grow.refl _
                  | 12, _ =>
                    obtain rfl := Option.some.inj ho
                    have d11 := hdep 11 (by decide +kernel)
                    simp [slotOf, dstOf] at d11
                    simp [opYields, go_sem, d11]
                    refine (unsigned_any tm w1 HTM.out.1 HTM.out.2).mono ?_
                    rintro e w2 ⟨rfl, rfl⟩
                    exact ⟨Grow.refl _, rfl⟩
                  | 13, _ =>
                    obtain rfl := Option.some.inj ho
                    have d12 := hdep 12 (by decide +kernel)
                    simp [slotOf, dstOf] at d12
                    simp [opYields, go_sem, d12]
                    refine (numberOf_any (unsig tm) w1 (unsig_lt tm)).mono ?_
                    rintro e w2 ⟨rfl, hb⟩
                    exact ⟨hb, rfl⟩
                  | 14, _ =>
                    obtain rfl := Option.some.inj ho
                    have d9 := hdep 9 (by decide +kernel)
                    simp [slotOf, dstOf] at d9
                    have d13 := hdep 13 (by decide +kernel)
                    simp [slotOf, dstOf] at d13
                    simp [opYields, go_sem, d9, d13]
                    rw [if_neg (by omega)]
                    exact ⟨Grow.refl _, rfl⟩
                  | 15, _ =>
                    obtain rfl := Option.some.inj ho
                    have d14 := hdep 14 (by decide +kernel)
                    simp [slotOf, dstOf] at d14
                    simp [opYields, go_sem, d14]
                    refine (fieldOf_two _ w1 (by omega)).mono ?_
                    rintro e w2 ⟨rfl, hb⟩
                    exact ⟨hb, rfl⟩
                  | 16, _ =>
                    obtain rfl := Option.some.inj ho
                    have d0 := hdep 0 (by decide +kernel)
                    simp [slotOf, dstOf] at d0
                    have d15 := hdep 15 (by decide +kernel)
                    simp [slotOf, dstOf] at d15
                    simp [opYields, go_sem, d0, d15]
                    rw [if_neg (by omega)]
                    exact ⟨Grow.refl _, rfl⟩
                  | n + 17, hi => omega
                · have v16 := hvals 16 (by omega)
                  simp only at v16
                  clear hvals
                  simp [over, dstOf, Act.put, v16]
                  go_wp2
                  go_roundw
                  case rel => exact ⟨p + 1, by omega, by go_num, by rw [List.take_succ_eq_append_getElem hplt, samplesB_append, ← List.append_assoc, HP.out, HX.out]; simp [samplesB]; rfl, (hbj.alloc hbj.size _).trans (hG.undrew.mono (by have := hbj.size; simp; omega))⟩
                  case measure => simp [intOf]; omega
              · have hinn2 := samplesB_len ls[k].2
                have HTP : Hid (samplesB (ls[k].2.take p) = samplesB ls[k].2) := by show _ = _; rw [List.take_of_length_le (by omega)]
                rw [HTP.out]
                clear ycells
                have hfl := fieldB_len 10 (labelsB ls[k].1 ++ samplesB ls[k].2)
                rw [List.length_append] at hfl
                go_wp2_with fail
                refine (fieldOf_one (labelsB ls[k].1 ++ samplesB ls[k].2) wj (by rw [List.length_append]; omega)).mono ?_
                rintro e w5 ⟨rfl, hb5⟩
                have HCut : Hid (seriesB (ls.take (k + 1)) = seriesB (ls.take k) ++ fieldB 10 (labelsB ls[k].1 ++ samplesB ls[k].2)) := by show _ = _; rw [List.take_succ_eq_append_getElem hlt, seriesB_append]; simp [seriesB]
                have hbel : Below w.heap.size w w5 := hbj'.trans (hb5.mono hbj'.size)
                have hfl2 : (fieldB 10 (labelsB ls[k].1 ++ samplesB ls[k].2)).length ≤ 1000000 := by omega
                have htake := seriesB_take_le ls (k + 1)
                rw [HCut.out, List.length_append] at htake
                have HTake := hide htake
                clear htake hfl hinn hinn2 HTP HTK
                generalize fieldB 10 (labelsB ls[k].1 ++ samplesB ls[k].2) = FB at *
                generalize seriesB (ls.take k) = SB at *
                by_cases hbig : SB.length + FB.length ≤ 20000
                · go_wp2
                  go_roundw
                  case rel => exact ⟨k + 1, by omega, by go_num, by rw [HCut.out], by rw [HCut.out, List.length_append]; exact hbig, hbel⟩
                  case measure => simp [intOf]; omega
                · go_wp2
                  go_ret2
                  have he : writeErr ls = 2 := by rw [HE.out, if_neg (by have := HTake.out; omega)]
                  exact ⟨by simp [writeTxt, he]; rfl, hbel⟩
      · have HTK : Hid (seriesB (ls.take k) = seriesB ls) := by show _ = _; rw [List.take_of_length_le (by omega)]
        rw [HTK.out] at hout ⊢
        have he : writeErr ls = 0 := by rw [HE.out, if_pos hout]
        have HE2 := hide he
        clear he
        go_wp2
        go_ret2
        exact ⟨by simp [writeTxt, HE2.out], hb⟩
  · have hne : (checkErr ls != 0) = true := by simpa using hc
    have he : writeErr ls = checkErr ls := by
      unfold writeErr checkErr at *
      split at hc
      · split at hc
        · exact absurd rfl hc
        · simp [*]
      · simp [*]
    have HE2 := hide he
    have HC := hide hc
    clear he hc
    subst hvv
    go_enter Try.func15, Try.ntmps15
    go_wp2_with fail
    refine (checkSeries_any w _ ls HV.out HF.out).mono ?_
    rintro e w' ⟨rfl, rfl⟩
    go_wp2
    go_ret2
    exact ⟨by simp [writeTxt, HE2.out, HC.out]; rfl, Below.refl _ _⟩

end Go.Proofs.Ytojljbgopknbcaa
