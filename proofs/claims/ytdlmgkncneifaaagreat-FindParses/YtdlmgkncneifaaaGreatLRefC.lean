/- The reference: PutLabel, MakeLabels. -/
import Derived.Test.YtdlmgkncneifaaaGreatProg
import Derived.Test.YtdlmgkncneifaaaGreatKit
import Derived.Test.YtdlmgkncneifaaaGreatLSpec
import Derived.Test.YtdlmgkncneifaaaGreatReg
import Derived.Test.YtdlmgkncneifaaaGreatLRow
import Derived.Test.YtdlmgkncneifaaaGreatLCat
import Derived.BigQuiet
import Derived.Deep.RegionHeld3
set_option linter.unusedVariables false
set_option linter.unusedSimpArgs false
namespace Go.Proofs.YtdlmgkncneifaaaGreat.Lb
open Go.RowKit
attribute [local go_sem] bs_size bs_toList bs_append bs_get bs_extract

theorem putGo_nil (n v : List UInt8) (p : Bool) : putGo n v p [] = if p = true then [] else [(n, v)] := by cases p <;> rfl
theorem putGo_put {n v : List UInt8} {x : Lab} {l : List Lab} (h : Op.bytesLess x.1 n = false) (e : x.1 = n) : putGo n v false (x :: l) = (n, v) :: putGo n v true l := by
  rw [putGo, if_pos ⟨rfl, h⟩, if_pos e]
theorem putGo_both {n v : List UInt8} {x : Lab} {l : List Lab} (h : Op.bytesLess x.1 n = false) (e : x.1 ≠ n) : putGo n v false (x :: l) = (n, v) :: x :: putGo n v true l := by
  rw [putGo, if_pos ⟨rfl, h⟩, if_neg e]
theorem putGo_skip {n v : List UInt8} {x : Lab} {l : List Lab} (e : x.1 = n) : putGo n v true (x :: l) = putGo n v true l := by
  rw [putGo, if_neg (by simp), if_pos e]
theorem putGo_stay {n v : List UInt8} {x : Lab} {l : List Lab} {p : Bool} (h : p = true ∨ Op.bytesLess x.1 n = true) (e : x.1 ≠ n) : putGo n v p (x :: l) = x :: putGo n v p l := by
  rw [putGo, if_neg (by rintro ⟨h1, h2⟩; rcases h with h | h; (rw [h] at h1; cases h1); (rw [h] at h2; cases h2)), if_neg e]

/-- A label laid for an append. -/
theorem news_new (wr : World) (x : Lab) : ∀ j u, (labCells [x])[j]? = some u → (wr.alloc (.cells #[.string (bs x.1), .string (bs x.2)] 69)).cell? ((⟨wr.heap.size, 0, none⟩ : Addr).add j) = some u :=
  World.news_of_block (heap_alloc_new wr (.cells #[.string (bs x.1), .string (bs x.2)] 69))

set_option maxRecDepth 20000 in
set_option maxHeartbeats 4000000 in
theorem rPut_any (w : World) (va : Value) (ls : List Lab) (n v : List UInt8) (hv : readsLabels w w.heap.size va ls) (hlen : ls.length ≤ 100) :
    Calls Tryz.prog 65 #[va, .string (bs n), .string (bs v)] w fun e w' => ∃ v', e = .returned v' ∧ ownLabels w' w.heap.size v' (putB ls n v) ∧ Below w.heap.size w w' := by
  obtain ⟨i0, hi0, hz0, hz1, hz2⟩ := info_parts Tryz.infoL
  obtain ⟨ao, cp, rfl, hcells⟩ := id hv
  clear hv
  have HPut : Hid (∀ P0, P0 = decide (v = []) → putB ls n v = putGo n v P0 ls) := fun P0 h => by rw [h]; rfl
  have HV0 : Hid ((v == []) = decide (v = [])) := by show _ = _; rw [Bool.eq_iff_iff]; simp
  obtain ⟨P0, HP0⟩ : ∃ P0, Hid (decide (v = []) = P0) := ⟨_, hide rfl⟩
  have hv0 : (v == []) = P0 := by rw [HV0.out, HP0.out]
  have HPut := hide (HPut.out P0 HP0.out.symm)
  go_enter Tryz.func65, Tryz.ntmps65
  go_wp2
  go_loopw [7, 8, 9] (fun vo p i wr => ∃ (k : Nat) (P : Bool) (L : List Lab), k ≤ ls.length ∧ i = .int .i64 k ∧ p = .bool P ∧ Hid (putB ls n v = L ++ putGo n v P (ls.drop k)) ∧ L.length ≤ 2 * k ∧ ownLabels wr w.heap.size vo L ∧ Below w.heap.size w wr) (fun _ _ i _ => ls.length - (intOf i).toNat)
  case atStart => exact ⟨0, P0, [], by omega, rfl, by first | rfl | rw [hv0], by show _ = _; rw [HPut.out]; rfl, by simp, World.ownsRow_nil _ _ _ _, Below.refl _ _⟩
  case round =>
    clear hv0
    obtain ⟨k, P, L, hk, rfl, rfl, HR, hL, hown, hb⟩ := hrel
    have hbs := hb.size
    by_cases hlt : k < ls.length
    · have HD : Hid (ls.drop k = ls[k] :: ls.drop (k + 1)) := List.drop_eq_getElem_cons hlt
      obtain ⟨lb, lo, rfl, hlB, c0, c1⟩ := hcells k hlt
      have d0 := (hb.cell (p := ⟨lb, lo + k * 2, none⟩) hlB).trans c0
      have d1 := (hb.cell (p := ⟨lb, lo + k * 2 + 1, none⟩) hlB).trans c1
      have C0 := hide c0
      have C1 := hide c1
      clear c0 c1 hcells
      obtain ⟨x, HX⟩ : ∃ x : Lab, Hid (ls[k] = x) := ⟨_, hide rfl⟩
      rw [HX.out] at d0 d1 HD C0 C1
      have HNews := hide (news_new wr x)
      have HNews2 := hide (news_new wr (n, v))
      have HO := hide hown
      clear hown
      by_cases he : x.1 = n
      · have he' : (x.1 == n) = true := by simpa using he
        have hbl : Op.bytesLess x.1 n = false := by rw [he]; exact bl_irrefl _
        cases P with
        | true =>
          have HR2 : Hid (putB ls n v = L ++ putGo n v true (ls.drop (k + 1))) := by show _ = _; rw [HR.out, HD.out, putGo_skip he]
          rw [he] at d0
          clear he he' hbl
          go_wp2
          go_roundw
          case rel => exact ⟨k + 1, true, L, by omega, by go_num, rfl, HR2, by omega, HO.out, hb⟩
          case measure => simp [intOf]; omega
        | false =>
          have HR2 : Hid (putB ls n v = (L ++ [(n, v)]) ++ putGo n v true (ls.drop (k + 1))) := by show _ = _; rw [HR.out, HD.out, putGo_put hbl he]; simp
          clear he
          go_wp2_with (at_builtin; refine wpList_append_own _ rfl _ _ 34 rfl w.heap.size 69 i0 _ 2 32 Tryz.underlying34 hi0 hz0 hz1 hz2 zeroLab (by omega) _ L.length (labCells L) rfl (HO.out.alloc _) ⟨wr.heap.size, 0, none⟩ 1 1 (labCells [(n, v)]) rfl (labCells_length [(n, v)]) HNews2.out (labCells_one [(n, v)]) (by unfold maxLen; omega) (by omega) (by simp; omega) ?_; intro v' w1 hown' hgrow _; have d0 := ((Below.grown (hb.alloc hbs _) hgrow (by simp; omega) (fun j hj => (HO.out.lt j hj).1)).cell (p := ⟨lb, lo + k * 2, none⟩) hlB).trans C0.out)
          go_roundw
          case rel => exact ⟨k + 1, true, L ++ [(n, v)], by omega, by go_num, rfl, HR2, by simp; omega, by unfold ownLabels; rw [List.length_append, labCells_append]; exact hown', (hb.alloc hbs _).grown hgrow (by simp; omega) (fun j hj => (HO.out.lt j hj).1)⟩
          case measure => simp [intOf]; omega
      · have he' : (x.1 == n) = false := by simpa using he
        by_cases hst : P = true ∨ Op.bytesLess x.1 n = true
        · have HR2 : Hid (putB ls n v = (L ++ [x]) ++ putGo n v P (ls.drop (k + 1))) := by show _ = _; rw [HR.out, HD.out, putGo_stay hst he]; simp
          clear he
          cases P with
          | true =>
            go_wp2_with (at_builtin; refine wpList_append_own _ rfl _ _ 34 rfl w.heap.size 69 i0 _ 2 32 Tryz.underlying34 hi0 hz0 hz1 hz2 zeroLab (by omega) _ L.length (labCells L) rfl (HO.out.alloc _) ⟨wr.heap.size, 0, none⟩ 1 1 (labCells [x]) rfl (labCells_length [x]) HNews.out (labCells_one [x]) (by unfold maxLen; omega) (by omega) (by simp; omega) ?_; intro v' w1 hown' hgrow _)
            go_roundw
            case rel => exact ⟨k + 1, true, L ++ [x], by omega, by go_num, rfl, HR2, by simp; omega, by unfold ownLabels; rw [List.length_append, labCells_append]; exact hown', (hb.alloc hbs _).grown hgrow (by simp; omega) (fun j hj => (HO.out.lt j hj).1)⟩
            case measure => simp [intOf]; omega
          | false =>
            have hbl : Op.bytesLess x.1 n = true := by simpa using hst
            clear hst
            go_wp2_with (at_builtin; refine wpList_append_own _ rfl _ _ 34 rfl w.heap.size 69 i0 _ 2 32 Tryz.underlying34 hi0 hz0 hz1 hz2 zeroLab (by omega) _ L.length (labCells L) rfl (HO.out.alloc _) ⟨wr.heap.size, 0, none⟩ 1 1 (labCells [x]) rfl (labCells_length [x]) HNews.out (labCells_one [x]) (by unfold maxLen; omega) (by omega) (by simp; omega) ?_; intro v' w1 hown' hgrow _)
            go_roundw
            case rel => exact ⟨k + 1, false, L ++ [x], by omega, by go_num, rfl, HR2, by simp; omega, by unfold ownLabels; rw [List.length_append, labCells_append]; exact hown', (hb.alloc hbs _).grown hgrow (by simp; omega) (fun j hj => (HO.out.lt j hj).1)⟩
            case measure => simp [intOf]; omega
        · obtain rfl : P = false := by cases P with | false => rfl | true => exact absurd (.inl rfl) hst
          have hbl : Op.bytesLess x.1 n = false := by cases h : Op.bytesLess x.1 n with | false => rfl | true => exact absurd (.inr h) hst
          have HR2 : Hid (putB ls n v = ((L ++ [(n, v)]) ++ [x]) ++ putGo n v true (ls.drop (k + 1))) := by show _ = _; rw [HR.out, HD.out, putGo_both hbl he]; simp
          clear he hst
          go_wp2_with (first
            | (at_builtin; refine wpList_append_own _ rfl _ _ 34 rfl w.heap.size 69 i0 _ 2 32 Tryz.underlying34 hi0 hz0 hz1 hz2 zeroLab (by omega) _ L.length (labCells L) rfl (HO.out.alloc _) ⟨wr.heap.size, 0, none⟩ 1 1 (labCells [(n, v)]) rfl (labCells_length [(n, v)]) HNews2.out (labCells_one [(n, v)]) (by unfold maxLen; omega) (by omega) (by simp; omega) ?_; intro v' w1 hown' hgrow _; have hbg := hide (Below.grown (hb.alloc hbs _) hgrow (by simp; omega) (fun j hj => (HO.out.lt j hj).1)); have d0 := (hbg.out.cell (p := ⟨lb, lo + k * 2, none⟩) hlB).trans C0.out; have d1 := (hbg.out.cell (p := ⟨lb, lo + k * 2 + 1, none⟩) hlB).trans C1.out; have HN3 := hide (news_new w1 x); have HO2 := hide hown'; have hsw1 := hbg.out.size; clear hown')
            | (at_builtin; refine wpList_append_own _ rfl _ _ 34 rfl w.heap.size 69 i0 _ 2 32 Tryz.underlying34 hi0 hz0 hz1 hz2 zeroLab (by omega) _ (L.length + 1) (labCells L ++ labCells [(n, v)]) rfl (HO2.out.alloc _) ⟨w1.heap.size, 0, none⟩ 1 1 (labCells [x]) rfl (labCells_length [x]) HN3.out (labCells_one [x]) (by unfold maxLen; omega) (by omega) (by simp; omega) ?_; intro v2 w2 hown2 hgrow2 _))
          go_roundw
          case rel => exact ⟨k + 1, true, (L ++ [(n, v)]) ++ [x], by omega, by go_num, rfl, HR2, by simp; omega, by unfold ownLabels; rw [List.length_append, List.length_append, labCells_append, labCells_append]; exact hown2, (hbg.out.alloc hsw1 _).grown hgrow2 (by simp; omega) (fun j hj => (HO2.out.lt j hj).1)⟩
          case measure => simp [intOf]; omega
    · obtain rfl : k = ls.length := by omega
      have HE : Hid (putB ls n v = L ++ putGo n v P []) := by show _ = _; rw [HR.out, List.drop_eq_nil_of_le (Nat.le_refl _)]
      have HNews2 := hide (news_new wr (n, v))
      have HO := hide hown
      clear hown hcells
      cases P with
      | true =>
        have HE2 : Hid (putB ls n v = L) := by show _ = _; rw [HE.out, putGo_nil, if_pos rfl, List.append_nil]
        go_wp2
        go_ret
        exact ⟨_, rfl, by rw [HE2.out]; exact HO.out, hb⟩
      | false =>
        have HE2 : Hid (putB ls n v = L ++ [(n, v)]) := by show _ = _; rw [HE.out, putGo_nil, if_neg (by simp)]
        go_wp2_with (at_builtin; refine wpList_append_own _ rfl _ _ 34 rfl w.heap.size 69 i0 _ 2 32 Tryz.underlying34 hi0 hz0 hz1 hz2 zeroLab (by omega) _ L.length (labCells L) rfl (HO.out.alloc _) ⟨wr.heap.size, 0, none⟩ 1 1 (labCells [(n, v)]) rfl (labCells_length [(n, v)]) HNews2.out (labCells_one [(n, v)]) (by unfold maxLen; omega) (by omega) (by simp; omega) ?_; intro v' w1 hown' hgrow _)
        go_ret
        exact ⟨_, rfl, by rw [HE2.out]; unfold ownLabels; rw [List.length_append, labCells_append]; exact hown', (hb.alloc hbs _).grown hgrow (by simp; omega) (fun j hj => (HO.out.lt j hj).1)⟩

theorem makeL_take {l : List Lab} {k : Nat} (h : k < l.length) : makeL (l.take (k + 1)) = makeStep (makeL (l.take k)) l[k] := by
  rw [List.take_succ_eq_append_getElem h, makeL_snoc]
theorem putGo_len (n v : List UInt8) : ∀ (l : List Lab) (p : Bool), (putGo n v p l).length ≤ l.length + (if p = true then 0 else 1)
  | [], p => by cases p <;> simp [putGo]
  | x :: l, p => by
    have h1 := putGo_len n v l true
    have h2 := putGo_len n v l p
    simp only [if_true] at h1
    unfold putGo
    split
    · rename_i hc
      rw [hc.1]
      split <;> simp <;> omega
    · split <;> simp only [List.length_cons] <;> omega
theorem putB_len (l : List Lab) (n v : List UInt8) : (putB l n v).length ≤ l.length + 1 := by
  have := putGo_len n v l (decide (v = []))
  unfold putB
  split at this <;> omega
theorem foldl_len : ∀ (l out : List Lab), (l.foldl makeStep out).length ≤ out.length + l.length
  | [], out => by simp
  | x :: l, out => by
    have h := foldl_len l (makeStep out x)
    have h2 : (makeStep out x).length ≤ out.length + 1 := by
      unfold makeStep
      split
      · omega
      · exact putB_len _ _ _
    rw [List.foldl_cons, List.length_cons]
    omega
theorem makeL_len (l : List Lab) : (makeL l).length ≤ l.length := by
  have := foldl_len l []
  simpa [makeL] using this

set_option maxRecDepth 20000 in
set_option maxHeartbeats 2000000 in
theorem rMakeLabels_any (w : World) (va : Value) (ls : List Lab) (hv : readsLabels w w.heap.size va ls) (hlen : ls.length ≤ 50) :
    Calls Tryz.prog 48 #[va] w fun e w' => ∃ v', e = .returned v' ∧ ownLabels w' w.heap.size v' (makeL ls) ∧ Below w.heap.size w w' := by
  obtain ⟨ao, cp, rfl, hcells⟩ := id hv
  clear hv
  go_enter Tryz.func48, Tryz.ntmps48
  go_wp2
  go_loopw [3, 4] (fun vo i wr => ∃ (k : Nat), k ≤ ls.length ∧ i = .int .i64 k ∧ ownLabels wr w.heap.size vo (makeL (ls.take k)) ∧ Below w.heap.size w wr) (fun _ i _ => ls.length - (intOf i).toNat)
  case atStart => exact ⟨0, by omega, rfl, World.ownsRow_nil _ _ _ _, Below.refl _ _⟩
  case round =>
    obtain ⟨k, hk, rfl, hown, hb⟩ := hrel
    rename World => wr
    have hbs := hb.size
    have hml := makeL_len (ls.take k)
    rw [List.length_take] at hml
    by_cases hlt : k < ls.length
    · have hlt' : (k : Int) < ls.length := by omega
      have hk0 : (0 : Int) ≤ (k : Int) := by omega
      have HT := hide (makeL_take hlt)
      obtain ⟨lb, lo, rfl, hlB, c0, c1⟩ := hcells k hlt
      have d0 := (hb.cell (p := ⟨lb, lo + k * 2, none⟩) hlB).trans c0
      have d1 := (hb.cell (p := ⟨lb, lo + k * 2 + 1, none⟩) hlB).trans c1
      clear c0 c1 hcells
      obtain ⟨x, HX⟩ : ∃ x : Lab, Hid (ls[k] = x) := ⟨_, hide rfl⟩
      obtain ⟨L, HL⟩ : ∃ L, Hid (makeL (ls.take k) = L) := ⟨_, hide rfl⟩
      rw [HX.out] at d0 d1 HT
      rw [HL.out] at hown hml HT
      by_cases he : x.2 = []
      · have HT2 : Hid (makeL (ls.take (k + 1)) = L) := by show _ = _; rw [HT.out, makeStep, if_pos he]
        rw [he] at d1
        clear he
        go_wp2
        go_roundw
        case rel => exact ⟨k + 1, by omega, by go_num, by rw [HT2.out]; exact hown, hb⟩
        case measure => simp [intOf]; omega
      · have HT2 : Hid (makeL (ls.take (k + 1)) = putB L x.1 x.2) := by show _ = _; rw [HT.out, makeStep, if_neg he]
        have he' : (x.2 == []) = false := by simpa using he
        have HRd := hide (reads_ownLabels hown)
        obtain ⟨vo, vc, rfl⟩ := own_shape hown
        clear he hown
        go_wp2_with fail
        go_region_held3 (fun w' => w'.cell? ⟨lb, lo + k * 2, none⟩ = some (.string (bs x.1)) ∧ w'.cell? ⟨lb, lo + k * 2 + 1, none⟩ = some (.string (bs x.2)))
          (first
            | go_keep
            | (exact ⟨(hb4.cell (p := ⟨lb, lo + k * 2, none⟩) (by simp; omega)).trans (by simpa using d0), (hb4.cell (p := ⟨lb, lo + k * 2 + 1, none⟩) (by simp; omega)).trans (by simpa using d1)⟩))
          ((go_at_call 65; refine (rPut_any wr.drew _ L x.1 x.2 (readsLabels_below HRd.out ⟨rfl, rfl, rfl, Nat.le_refl _, fun _ _ => rfl⟩) (by omega)).mono ?_; rintro e w4 ⟨v4, rfl, hown4, hb4⟩))
        have hb4' : Below w.heap.size w w4 := hb.trans (Below.mono (show Below wr.heap.size wr w4 from ⟨hb4.os, hb4.tape, hb4.output, hb4.size, hb4.block⟩) hbs)
        go_wp2
        go_roundw
        case rel => exact ⟨k + 1, by omega, by go_num, by rw [HT2.out]; exact own_le hown4 (by simpa using hbs), hb4'⟩
        case measure => simp [intOf]; omega
    · obtain rfl : k = ls.length := by omega
      rw [List.take_of_length_le (Nat.le_refl _)] at hown
      go_wp2
      go_ret
      exact ⟨_, rfl, hown, hb⟩

end Go.Proofs.YtdlmgkncneifaaaGreat.Lb
