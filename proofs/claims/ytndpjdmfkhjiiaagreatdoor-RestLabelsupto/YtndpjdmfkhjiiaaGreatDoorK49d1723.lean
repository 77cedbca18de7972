/- 1 texts in one. -/
import Derived.Laws.OwnMore
import Derived.Test.YtndpjdmfkhjiiaaGreatDoorProg
import Derived.Test.YtndpjdmfkhjiiaaGreatDoorK97fdc06
import Derived.Test.YtndpjdmfkhjiiaaGreatDoorK8351dc7
import Derived.Test.YtndpjdmfkhjiiaaGreatDoorKdd2361c
import Derived.Test.YtndpjdmfkhjiiaaGreatDoorKb8b36ab
import Derived.Test.YtndpjdmfkhjiiaaGreatDoorKa9444aa
import Derived.Test.YtndpjdmfkhjiiaaGreatDoorK2069ade
import Derived.Test.YtndpjdmfkhjiiaaGreatDoorK0520c6f
import Derived.BigFrame
set_option linter.unusedVariables false
set_option linter.unusedSimpArgs false
namespace Go.Proofs.YtndpjdmfkhjiiaaGreatDoor.Rl
open Go.RowKit Lb
attribute [local go_sem] bs_size bs_toList bs_append bs_get bs_extract
/-- The first texts of a row are cut. -/
def cutK (gs : List (List UInt8)) (k : Nat) : List (List UInt8) := (gs.take k).map (·.take 100) ++ gs.drop k
theorem cutK_len (gs : List (List UInt8)) (k : Nat) : (cutK gs k).length = gs.length := by simp [cutK]; omega
theorem cutK_step {gs : List (List UInt8)} {k : Nat} (h : k < gs.length) : cutK gs (k + 1) = (cutK gs k).set k (gs[k].take 100) := by
  unfold cutK
  rw [List.take_succ_eq_append_getElem h, List.map_append, List.append_assoc]
  rw [List.set_append_right _ _ (by simp; omega)]
  rw [show k - ((gs.take k).map (·.take 100)).length = 0 by simp; omega, List.drop_eq_getElem_cons h]
  rfl
theorem cutK_get {gs : List (List UInt8)} {k : Nat} (h : k < gs.length) : (cutK gs k)[k]? = some gs[k] := by
  unfold cutK
  rw [List.getElem?_append_right (by simp; omega)]
  rw [show k - ((gs.take k).map (·.take 100)).length = 0 by simp; omega, List.drop_eq_getElem_cons h]
  rfl
theorem cutK_all (gs : List (List UInt8)) : cutK gs gs.length = gs.map (·.take 100) := by simp [cutK]
/-- What RuleReplace makes, of a Source, its groups and a template. -/
def madeB (src : List UInt8) (gs : List (List UInt8)) (tm : List (List UInt8 × Int)) : List UInt8 := (valsT (src.take 100) (gs.map (·.take 100)) tm).take 100
theorem tookL_len {t : List UInt8} {l : Evs} {g : Nat} : (tookL t l g).length = g := by simp [tookL]
theorem tookL_small {t : List UInt8} {l : Evs} {g : Nat} : ∀ s ∈ tookL t l g, s.length ≤ t.length := by
  intro s hs
  unfold tookL at hs
  obtain ⟨n, _, rfl⟩ := List.mem_map.1 hs
  unfold tookB
  split
  · simp
    omega
  · simp
/-- What With answers: labels of the call's own, and an error. -/
def PairL (B : Nat) (we : Nat) (wa : List Lab) (v : Value) (w : World) : Prop := ∃ ao n cp, v = .tuple #[.slice ao n cp, .int .i64 we] ∧ ownLabels w B (.slice ao n cp) wa
def OneL (B : Nat) (wa : List Lab) (v : Value) (w : World) : Prop := ∃ ao n cp, v = .slice ao n cp ∧ ownLabels w B (.slice ao n cp) wa
theorem strsV_set (L : List (List UInt8)) (k : Nat) (s : List UInt8) : strsV (L.set k s) = (strsV L).set k (.string (bs s)) := by simp [strsV, List.map_set]
set_option maxRecDepth 20000 in
set_option maxHeartbeats 8000000 in
theorem replace_any (w : World) (r : Rul) (v va : Value) (ls : List Lab) (src : List UInt8) {T : Tr} {g : Nat} {tm : List (List UInt8 × Int)} (hm : maskIs r.mask = .ok (T, g)) (hsrc : src.length ≤ 2000) (hc : checkB ls = 0) (ha : readsLabels w w.heap.size va ls)
    (htm : tmAt r.repl 0 = some tm) (hrp : r.repl.length ≤ 100) (htg : r.target.length ≤ 100) :
    Calls Tryz.prog 60 #[ruleV r v, va, .string (bs src)] w fun e w' => Grow w w' ∧ match wayOf T src with
      | none => e = .returned (.tuple #[va, .bool true, .int .i64 0])
      | some l => ∃ v', e = .returned (.tuple #[v', .bool true, .int .i64 (withErr ls r.target (madeB src (tookL src l g) tm) : Nat)]) ∧ ownLabels w' w.heap.size v' (withAns ls r.target (madeB src (tookL src l g) tm)) := by
  have hmo := maskIs_ok hm
  have hml := hmo.2.2.2.2.2
  have hg9 := hmo.2.2.1
  obtain ⟨kind, rs, bt, mk, md, tg, rp⟩ := r
  unfold ruleV
  simp only at hm hml htm hrp htg ⊢
  obtain ⟨lo, lc, rfl⟩ := readsLabels_len ha
  have HA := hide ha
  have HCB := hide hc
  have hsm := right_small hc
  have HIN : Hid (lensOk ls) := hide (fun x hx => by have := hsm.2 x hx; omega)
  have hll : ls.length ≤ 9223372036854775807 := by omega
  have HTM := hide htm
  clear ha hc hsm htm hmo
  obtain ⟨W, eW, gW, sW, hW⟩ := laid_rule w (.int .i64 kind) v (.string (bs bt)) (.string (bs mk)) (.int .i64 md) (.string (bs tg)) (.string (bs rp)) 24
  obtain ⟨c0, c1, c2, c3, c4, c5, c6⟩ := seven_cells hW
  have HGW := hide gW
  have HW := hide hW
  clear gW hW
  have HM := hide (match_any W mk src (by omega) (by omega))
  unfold matchAns at HM
  rw [hm] at HM
  simp only at HM
  unfold matchOk at HM
  simp only [show ¬ 2000 < src.length by omega, if_false] at HM
  clear hm
  cases hw : wayOf T src with
  | none =>
    rw [hw] at HM
    simp only at HM ⊢
    clear hw
    go_enter Tryz.func60, Tryz.ntmps60
    go_wp2_with fail
    refine HM.out.mono ?_
    rintro e w1 ⟨hg1, rfl⟩
    go_wp2
    simp [bodyPost, results, Tryz.results60, go_sem]
    exact HGW.out.trans hg1
  | some l =>
    rw [hw] at HM
    simp only at HM ⊢
    clear hw
    have HGL : Hid ((tookL src l g).length = g) := hide tookL_len
    have HGS : Hid (∀ s ∈ tookL src l g, s.length ≤ 2000) := hide fun s hs => by have := tookL_small s hs; omega
    generalize tookL src l g = gs at HM HGL HGS ⊢
    obtain ⟨value, HVAL⟩ : ∃ value, Hid (valsT (src.take 100) (gs.map (·.take 100)) tm = value) := ⟨_, hide rfl⟩
    have hex : exAns rp (src.take 100) (gs.map (·.take 100)) = (value, 0) := by
      rw [exAns_is (M := 100) (by omega) (by omega) (by rw [List.length_take]; omega) (fun s hs => by
        obtain ⟨x, _, rfl⟩ := List.mem_map.1 hs
        rw [List.length_take]
        omega), HTM.out, ← HVAL.out]
    have hvl : value.length ≤ 10000 := by
      obtain ⟨h1, h2⟩ := tmR_is (show tmR rp.length (rp.drop 0) = some tm from HTM.out)
      have h3 : (valsT (src.take 100) (gs.map (·.take 100)) tm).length ≤ 100 * tm.length := valsT_len fun x hx => valT_len (by rw [List.length_take]; omega) (fun s hs => by
        obtain ⟨x, _, rfl⟩ := List.mem_map.1 hs
        rw [List.length_take]
        omega) (Nat.le_trans (h2 x hx) (by omega))
      rw [HVAL.out] at h3
      simp at h1
      omega
    unfold madeB
    rw [HVAL.out]
    have HWITH : Hid (∀ W2, Grow w W2 → Calls Tryz.prog 25 #[.slice lo ls.length lc, .string (bs tg), .string (bs (value.take 100))] W2 fun e w' => Grow W2 w' ∧ ∃ ao n cp, e = .returned (.tuple #[.slice ao n cp, .int .i64 (withErr ls tg (value.take 100) : Nat)]) ∧ ownLabels w' w.heap.size (.slice ao n cp) (withAns ls tg (value.take 100))) := hide (fun W2 hg2 => by
      refine (with_any W2 (.slice lo ls.length lc) ls tg (value.take 100) (readsLabels_mono (readsLabels_below HA.out hg2) hg2.size) hll HIN.out (by unfold maxLen; omega) (by rw [List.length_take]; unfold maxLen; omega)).mono ?_
      rintro e w' ⟨v', rfl, hown, hb⟩
      obtain ⟨ao, cp, rfl⟩ := own_shape hown
      exact ⟨hb, ao, _, cp, rfl, own_le hown hg2.size⟩)
    generalize withErr ls tg (value.take 100) = we at HWITH ⊢
    generalize withAns ls tg (value.take 100) = wa at HWITH ⊢
    have HEX := hide hex
    have HVL := hide hvl
    clear hex hvl
    go_enter Tryz.func60, Tryz.ntmps60
    go_wp2_with fail
    refine HM.out.mono ?_
    rintro e w1 ⟨hg1, v1, rfl, hown1⟩
    obtain ⟨vo, vc, rfl⟩ := own_shape hown1
    have hgl : gs.length ≤ 2000 := by have := HGL.out; omega
    have HG1 : Hid (Grow W w1) := hide hg1
    have HO1 := hide hown1
    clear hg1 hown1 eW
    go_wp2
    go_loopw [30] (fun i wr => ∃ k : Nat, k ≤ gs.length ∧ i = .int .i64 k ∧ Hid (ownStrs wr W.heap.size (.slice vo gs.length vc) (cutK gs k)) ∧ Hid (Grow W wr)) (fun i _ => gs.length - (intOf i).toNat)
    case atStart => exact ⟨0, by omega, rfl, hide (by simpa [cutK] using HO1.out), HG1⟩
    case round =>
      obtain ⟨k, hk, rfl, HO, HG⟩ := hrel
      by_cases hlt : k < gs.length
      · have hO := HO.out
        have HLK := hide (cutK_len gs k)
        obtain ⟨gb, cp, hv', hB1⟩ := own_block hO (by rw [HLK.out]; omega)
        simp only [Value.slice.injEq] at hv'
        obtain ⟨rfl, -, rfl⟩ := hv'
        have hO2 : wr.ownsRow W.heap.size 9 1 (.slice (some ⟨gb, 0, none⟩) gs.length vc) gs.length (strsV (cutK gs k)) := by
          have h := hO
          unfold ownStrs at h
          rw [HLK.out] at h
          exact h
        have d0 : wr.cell? ⟨gb, k, none⟩ = some (.string (bs gs[k])) := own_cell hO2 (by simp [strsV, cutK_get hlt])
        have z0 : wr.frozen? ⟨gb, k, none⟩ = false := own_free hO2
        have hB := (hO2.lt gb rfl).1
        have HS2 := hide (own_set hO2 (i := k) (.string (bs (gs[k].take 100))) (by rw [strsV_length, HLK.out]; exact hlt))
        have HST := hide (cutK_step hlt)
        have hlm := HGS.out _ (List.getElem_mem hlt)
        obtain ⟨x, HX⟩ : ∃ x : List UInt8, Hid (gs[k] = x) := ⟨_, hide rfl⟩
        rw [HX.out] at d0 HS2 HST hlm
        have HO2 := hide hO2
        clear hO hO2
        go_wp2_with (go_at_call 103; refine (cut_any x _ (by omega)).mono ?_; rintro e w' ⟨rfl, rfl⟩)
        go_roundw
        case rel =>
          refine ⟨k + 1, by omega, by go_num, hide ?_, hide (Below.setCell (p := ⟨gb, k, none⟩) HG.out hB _)⟩
          rw [HST.out]
          show World.ownsRow _ _ _ _ _ _ _
          rw [List.length_set, HLK.out, strsV_set]
          exact HS2.out
        case measure => simp [intOf]; omega
      · have hkk : k = gs.length := by omega
        rw [hkk, cutK_all] at HO
        have hmap : (gs.map (·.take 100)).length = gs.length := by simp
        have HRS : Hid (readsStrs wr wr.heap.size (.slice vo gs.length vc) (gs.map (·.take 100))) := hide (readsStrs_own HO.out)
        have HSM : Hid (∀ s ∈ gs.map (·.take 100), s.length ≤ 9223372036854775807) := hide (by
          intro s hs
          obtain ⟨x, _, rfl⟩ := List.mem_map.1 hs
          rw [List.length_take]
          omega)
        have HML : Hid ((gs.map (·.take 100)).length ≤ 9223372036854775807) := hide (by rw [hmap]; omega)
        have HW2 := hide (HG.out.get HW.out)
        have HEXP : Hid (∀ W2, Grow wr W2 → Calls Tryz.prog 52 #[.string (bs rp), .string (bs (src.take 100)), .slice vo gs.length vc] W2 fun e w' => e = .returned (.tuple #[.string (bs value), .int .i64 0]) ∧ Grow W2 w') := hide (fun W2 hg2 => by
          have h := expand_any rp (src.take 100) (gs.map (·.take 100)) (.slice vo gs.length vc) W2 (by omega) (by rw [List.length_take]; omega) HML.out HSM.out ((HRS.out.keep hg2).more hg2.size)
          rw [HEX.out] at h
          exact h)
        generalize gs.map (·.take 100) = gc at HO HRS HSM HML HEX HVAL hmap
        clear hkk hmap HM
        go_wp2
        refine wp_region_free 10 62 Tryz.mixed2 rfl (by decide +kernel) Grow (fun _ _ _ => Grow.trans) (Grow.refl _)
          (fun i v w' => match i with
            | 0 => v = .pointer (some ⟨w.heap.size, 6, none⟩)
            | 1 => v = .string (bs rp)
            | 2 => v = .string (bs src)
            | 3 => v = .string (bs (src.take 100))
            | 4 => v = .slice vo gs.length vc
            | 5 => v = .tuple #[.string (bs value), .int .i64 0]
            | 6 => v = .tuple #[.string (bs value), .int .i64 0]
            | 7 => v = .string (bs value)
            | 8 => v = .int .i64 0
            | _ => v = .string (bs value))
          (fun i v w1 w2 h hg => h) (fun _ _ => False) (fun _ _ _ _ h => h.elim) (fun i hi o ho a2 w2 hG hoff hdep => ?_) (fun vals w2 hG hvals => ?_)
        · have hg2 : Grow wr w2 := hG.undrew
          obtain ⟨c0, c1, c2, c3, c4, c5, c6⟩ := seven_cells (hg2.get HW2.out)
          match i, hi with
          | 0, _ =>
            obtain rfl := Option.some.inj ho
            have o3 := hoff 3 (by decide +kernel)
            simp at o3
            simp [opYields, go_sem, o3]
            exact Grow.refl _
          | 1, _ =>
            obtain rfl := Option.some.inj ho
            have d0 := hdep 0 (by decide +kernel)
            simp [slotOf, dstOf] at d0
            simp [opYields, go_sem, d0, c6]
            exact Grow.refl _
          | 2, _ =>
            obtain rfl := Option.some.inj ho
            have o2 := hoff 2 (by decide +kernel)
            simp at o2
            simp [opYields, go_sem, o2]
            exact Grow.refl _
          | 3, _ =>
            obtain rfl := Option.some.inj ho
            have d2 := hdep 2 (by decide +kernel)
            simp [slotOf, dstOf] at d2
            simp [opYields, go_sem, d2]
            refine (cut_any src w2 (by omega)).mono ?_
            rintro e w3 ⟨rfl, rfl⟩
            exact ⟨Grow.refl _, rfl⟩
          | 4, _ =>
            obtain rfl := Option.some.inj ho
            have o10 := hoff 10 (by decide +kernel)
            simp at o10
            simp [opYields, go_sem, o10]
            exact Grow.refl _
          | 5, _ =>
            obtain rfl := Option.some.inj ho
            have d1 := hdep 1 (by decide +kernel)
            simp [slotOf, dstOf] at d1
            have d3 := hdep 3 (by decide +kernel)
            simp [slotOf, dstOf] at d3
            have d4 := hdep 4 (by decide +kernel)
            simp [slotOf, dstOf] at d4
            simp [opYields, go_sem, d1, d3, d4]
            refine (HEXP.out w2 hg2).mono ?_
            rintro e w3 ⟨rfl, hg3⟩
            exact ⟨hg3, rfl⟩
          | 6, _ =>
            obtain rfl := Option.some.inj ho
            have d5 := hdep 5 (by decide +kernel)
            simp [slotOf, dstOf] at d5
            simp [opYields, go_sem, d5]
            exact Grow.refl _
          | 7, _ =>
            obtain rfl := Option.some.inj ho
            have d6 := hdep 6 (by decide +kernel)
            simp [slotOf, dstOf] at d6
            simp [opYields, go_sem, d6]
            exact Grow.refl _
          | 8, _ =>
            obtain rfl := Option.some.inj ho
            have d6 := hdep 6 (by decide +kernel)
            simp [slotOf, dstOf] at d6
            simp [opYields, go_sem, d6]
            exact Grow.refl _
          | 9, _ =>
            obtain rfl := Option.some.inj ho
            have d7 := hdep 7 (by decide +kernel)
            simp [slotOf, dstOf] at d7
            simp [opYields, go_sem, d7]
            exact Grow.refl _
          | k + 10, h => exact absurd h (by omega)
        · have v8 := hvals 8 (by omega)
          have v9 := hvals 9 (by omega)
          simp only at v8 v9
          clear hvals
          have hg2 : Grow wr w2 := hG.undrew
          have HG2 : Hid (Grow w w2) := hide (HGW.out.trans (HG.out.trans hg2))
          have HW3 := hide (hg2.get HW2.out)
          clear hg2 hG
          simp [over, dstOf, Act.put, v8, v9]
          go_wp2
          refine wp_region_free 10 62 Tryz.mixed2 rfl (by decide +kernel) Grow (fun _ _ _ => Grow.trans) (Grow.refl _)
            (fun i v w' => match i with
              | 0 => v = .slice lo ls.length lc
              | 1 => v = .pointer (some ⟨w.heap.size, 5, none⟩)
              | 2 => v = .string (bs tg)
              | 3 => v = .string (bs value)
              | 4 => v = .string (bs (value.take 100))
              | 5 => PairL w.heap.size we wa v w'
              | 6 => PairL w.heap.size we wa v w'
              | 7 => OneL w.heap.size wa v w'
              | 8 => v = .int .i64 we
              | _ => OneL w.heap.size wa v w')
            (fun i v w1 w2 h hg => by
              match i, h with
              | 0, h => exact h
              | 1, h => exact h
              | 2, h => exact h
              | 3, h => exact h
              | 4, h => exact h
              | 5, ⟨ao, n, cp, e, ho⟩ => exact ⟨ao, n, cp, e, own_grow ho hg⟩
              | 6, ⟨ao, n, cp, e, ho⟩ => exact ⟨ao, n, cp, e, own_grow ho hg⟩
              | 7, ⟨ao, n, cp, e, ho⟩ => exact ⟨ao, n, cp, e, own_grow ho hg⟩
              | 8, h => exact h
              | k + 9, ⟨ao, n, cp, e, ho⟩ => exact ⟨ao, n, cp, e, own_grow ho hg⟩) (fun _ _ => False) (fun _ _ _ _ h => h.elim) (fun i hi o ho a2 w3 hG hoff hdep => ?_) (fun vals w3 hG hvals => ?_)
          · have hg3 : Grow w2 w3 := hG.undrew
            obtain ⟨c0, c1, c2, c3, c4, c5, c6⟩ := seven_cells (hg3.get HW3.out)
            match i, hi with
            | 0, _ =>
              obtain rfl := Option.some.inj ho
              have o1 := hoff 1 (by decide +kernel)
              simp at o1
              simp [opYields, go_sem, o1]
              exact Grow.refl _
            | 1, _ =>
              obtain rfl := Option.some.inj ho
              have o3 := hoff 3 (by decide +kernel)
              simp at o3
              simp [opYields, go_sem, o3]
              exact Grow.refl _
            | 2, _ =>
              obtain rfl := Option.some.inj ho
              have d1 := hdep 1 (by decide +kernel)
              simp [slotOf, dstOf] at d1
              simp [opYields, go_sem, d1, c5]
              exact Grow.refl _
            | 3, _ =>
              obtain rfl := Option.some.inj ho
              have o13 := hoff 13 (by decide +kernel)
              simp at o13
              simp [opYields, go_sem, o13]
              exact Grow.refl _
            | 4, _ =>
              obtain rfl := Option.some.inj ho
              have d3 := hdep 3 (by decide +kernel)
              simp [slotOf, dstOf] at d3
              simp [opYields, go_sem, d3]
              refine (cut_any value w3 (by have := HVL.out; omega)).mono ?_
              rintro e w4 ⟨rfl, rfl⟩
              exact ⟨Grow.refl _, rfl⟩
            | 5, _ =>
              obtain rfl := Option.some.inj ho
              have d0 := hdep 0 (by decide +kernel)
              simp [slotOf, dstOf] at d0
              have d2 := hdep 2 (by decide +kernel)
              simp [slotOf, dstOf] at d2
              have d4 := hdep 4 (by decide +kernel)
              simp [slotOf, dstOf] at d4
              simp [opYields, go_sem, d0, d2, d4]
              refine (HWITH.out w3 (HG2.out.trans hg3)).mono ?_
              rintro e w4 ⟨hg4, ao, n, cp, rfl, hown⟩
              exact ⟨hg4, ao, n, cp, rfl, hown⟩
            | 6, _ =>
              obtain rfl := Option.some.inj ho
              have d5 := hdep 5 (by decide +kernel)
              simp [slotOf, dstOf] at d5
              obtain ⟨ao, n, cp, e5, ho5⟩ := d5
              simp [opYields, go_sem, e5]
              exact ⟨Grow.refl _, ao, n, cp, rfl, ho5⟩
            | 7, _ =>
              obtain rfl := Option.some.inj ho
              have d6 := hdep 6 (by decide +kernel)
              simp [slotOf, dstOf] at d6
              obtain ⟨ao, n, cp, e6, ho6⟩ := d6
              simp [opYields, go_sem, e6]
              exact ⟨Grow.refl _, ao, n, cp, rfl, ho6⟩
            | 8, _ =>
              obtain rfl := Option.some.inj ho
              have d6 := hdep 6 (by decide +kernel)
              simp [slotOf, dstOf] at d6
              obtain ⟨ao, n, cp, e6, ho6⟩ := d6
              simp [opYields, go_sem, e6]
              exact Grow.refl _
            | 9, _ =>
              obtain rfl := Option.some.inj ho
              have d7 := hdep 7 (by decide +kernel)
              simp [slotOf, dstOf] at d7
              obtain ⟨ao, n, cp, e7, ho7⟩ := d7
              simp [opYields, go_sem, e7]
              exact ⟨Grow.refl _, ao, n, cp, rfl, ho7⟩
            | k + 10, h => exact absurd h (by omega)
          · have v8 := hvals 8 (by omega)
            obtain ⟨ao, n, cp, v9, ho⟩ := hvals 9 (by omega)
            simp only at v8
            clear hvals
            have hg3 : Grow w2 w3 := hG.undrew
            have HG3 : Hid (Grow w w3) := hide (HG2.out.trans hg3)
            have HOW := hide ho
            clear hg3 hG ho
            simp [over, dstOf, Act.put, v8, v9]
            go_wp2
            simp [bodyPost, results, Tryz.results60, go_sem]
            exact ⟨HG3.out, HOW.out⟩
end Go.Proofs.YtndpjdmfkhjiiaaGreatDoor.Rl
