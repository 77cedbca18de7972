/- 1 texts in one. -/
import Derived.Test.YtkaeogldielkfaaGreatProg
import Derived.Test.YtkaeogldielkfaaGreatKabe2b5f
import Derived.Test.YtkaeogldielkfaaGreatKa96aaab
import Derived.Test.YtkaeogldielkfaaGreatKa7e3600
import Derived.Test.YtkaeogldielkfaaGreatK382d20d
import Derived.Maps.Own
import Derived.Maps.OwnOps
import Derived.Maps.OwnSet
import Derived.Maps.Views
set_option linter.unusedVariables false
set_option linter.unusedSimpArgs false
namespace Go.Proofs.YtkaeogldielkfaaGreat.Lb
open Go.RowKit Go.Maps
open Go.WideMaps (keyOf_string_mk)
attribute [local go_sem] bs_size bs_toList bs_append bs_get bs_extract
theorem Tryz.keyLaw : Keyed Tryz.prog 9 := string_keyed Tryz.underlying9
theorem Tryz.zeroUnit (w : World) : (zeroValue 131).run Tryz.prog w = .ok (.agg #[]) w := by kernel_rfl
/-- The names that were met. -/
def metL (ls : List Lab) (k : Nat) : List Lit := (ls.take k).map fun x => .string x.1
theorem metL_succ {ls : List Lab} {k : Nat} (h : k < ls.length) : metL ls (k + 1) = metL ls k ++ [.string ls[k].1] := by
  unfold metL
  rw [List.take_succ_eq_append_getElem h, List.map_append]; rfl
theorem met_key (ls : List Lab) (k : Nat) : ∀ x ∈ metL ls k, WideAt.IsKeyLit x := by
  intro x hx
  obtain ⟨y, _, rfl⟩ := List.mem_map.1 hx
  simp [WideAt.IsKeyLit]
theorem met_has {ls : List Lab} {k : Nat} {s : List UInt8} : Maps.has (setOf (H := Unit) (.agg []) (metL ls k)) (.string s) = true ↔ ∃ j, ∃ (h : j < ls.length), j < k ∧ ls[j].1 = s := by
  rw [has_setOf _ _ _ (met_key ls k), List.any_eq_true]
  constructor
  · rintro ⟨x, hx, he⟩
    obtain ⟨y, hy, rfl⟩ := List.mem_map.1 hx
    obtain ⟨j, hj, rfl⟩ := List.getElem_of_mem hy
    have hj' := hj
    rw [List.length_take] at hj'
    refine ⟨j, by omega, by omega, ?_⟩
    rw [List.getElem_take] at he
    simpa [Lit.sameKey] using he
  · rintro ⟨j, hj, hjk, rfl⟩
    refine ⟨.string ls[j].1, List.mem_map.2 ⟨ls[j], ?_, rfl⟩, by simp [Lit.sameKey]⟩
    rw [List.mem_take_iff_getElem]
    exact ⟨j, by omega, rfl⟩
set_option maxRecDepth 20000 in
set_option maxHeartbeats 2000000 in
theorem twice_any (w : World) (v : Value) (ls : List Lab) (hv : readsLabels w w.heap.size v ls) (hlen : ls.length ≤ 20) (hin : ∀ x ∈ ls, x.1.length ≤ 40) :
    Calls Tryz.prog 90 #[v] w fun e w' => e = .returned (.bool (twiceB ls)) ∧ Below w.heap.size w w' := by
  obtain ⟨ao, cp, rfl, hcells⟩ := id hv
  have HI := hide hin
  clear hin hv
  have hmm := @run_makeMap Tryz.prog
  go_enter Tryz.func90, Tryz.ntmps90
  go_wp2
  go_loopw [11] (fun i wr => ∃ k : Nat, k ≤ ls.length ∧ i = .int .i64 k ∧ Hid (wr.ownsMap Tryz.prog 9 unitElem w.heap.size k (setOf (H := Unit) (.agg []) (metL ls k))) ∧ Below w.heap.size w wr ∧ w.heap.size + 1 ≤ wr.heap.size ∧ Hid (∀ i j (hi : i < ls.length) (hj : j < ls.length), i < j → j < k → ls[i].1 ≠ ls[j].1)) (fun i _ => ls.length - (intOf i).toNat)
  case atStart => exact ⟨0, by omega, rfl, hide (World.ownsMap_made _ _ _ _), (Below.refl _ _).alloc (Nat.le_refl _) _, by simp, hide (fun _ j _ _ _ h => by omega)⟩
  case round =>
    obtain ⟨k, hk, rfl, HM, hb, hws, HD⟩ := hrel
    have hbs := hb.size
    by_cases hlt : k < ls.length
    · obtain ⟨lb, lo, rfl, hlB, c0, c1⟩ := hcells k hlt
      have d0 := (hb.cell (p := ⟨lb, lo + k * 2, none⟩) hlB).trans c0
      have d1 := (hb.cell (p := ⟨lb, lo + k * 2 + 1, none⟩) hlB).trans c1
      clear c0 c1 hcells
      have hl0 := HI.out _ (List.getElem_mem hlt)
      have hkey : keyOf Tryz.prog 9 (.string (bs ls[k].1)) = some (.string ls[k].1) := by rw [keyOf_string_mk Tryz.underlying9 (by rw [bs_size]; unfold maxLen; omega), bs_data]
      have HA := hide (@met_has ls k ls[k].1)
      cases hh : Maps.has (setOf (H := Unit) (.agg []) (metL ls k)) (Lit.string ls[k].1) with
      | true =>
        have HH := hide hh
        clear hh
        have HT : Hid (twiceB ls = true) := by
          obtain ⟨j, hj, hjk, e⟩ := HA.out.1 HH.out
          exact twiceB_true hj hlt hjk e
        go_wp2_with (at_lookup; refine wpList_lookup_own_unit _ rfl _ _ 129 rfl 9 131 Tryz.keyLaw Tryz.underlying129 (Tryz.zeroUnit _) w.heap.size k _ rfl (HM.out.alloc _) _ _ rfl hkey ?_; rw [HH.out])
        go_ret
        exact ⟨ret_bool HT.out.symm, (hb.alloc hbs _).alloc (by simp; omega) _⟩
      | false =>
        have HH := hide hh
        clear hh
        go_wp2_with (first
          | (at_lookup; refine wpList_lookup_own_unit _ rfl _ _ 129 rfl 9 131 Tryz.keyLaw Tryz.underlying129 (Tryz.zeroUnit _) w.heap.size k _ rfl (HM.out.alloc _) _ _ rfl hkey ?_; rw [HH.out])
          | (at_mapUpdate; refine wpList_mapUpdate_own _ rfl _ _ _ 129 rfl 9 131 Tryz.keyLaw Tryz.underlying129 (unitElem (H := Unit)) w.heap.size k _ rfl ((HM.out.alloc _).alloc _) (by unfold maxLen; omega) _ _ _ rfl rfl hkey _ [] unitElem_mk ?_; intro w1 hown1 hgrow1))
        have s1 := hgrow1.size
        simp at s1
        go_roundw
        case rel =>
          refine ⟨k + 1, by omega, by go_num, hide ?_, ((hb.alloc hbs _).alloc (by simp; omega) _).grown hgrow1 (by simp; omega) (fun j hj => by cases hj; exact Nat.le_refl _), by omega, hide (fun i j hi hj hij hjk => ?_)⟩
          · rw [metL_succ hlt, setOf_snoc]; exact hown1
          · by_cases e : j = k
            · subst e
              intro he
              have := HA.out.2 ⟨i, hi, hij, he⟩
              rw [HH.out] at this
              cases this
            · exact HD.out i j hi hj hij (by omega)
        case measure => simp [intOf]; omega
    · have HT : Hid (twiceB ls = false) := twiceB_false.2 fun i j hi hj hij => HD.out i j hi hj hij (by omega)
      go_wp2
      go_ret
      exact ⟨ret_bool HT.out.symm, hb⟩
set_option maxRecDepth 20000 in
set_option maxHeartbeats 1000000 in
theorem check_any (w : World) (v : Value) (ls : List Lab) (hv : readsLabels w w.heap.size v ls) (hlen : ls.length ≤ 9223372036854775807) (hin : lensOk ls) :
    Calls Tryz.prog 82 #[v] w fun e w' => e = .returned (.int .i64 (checkB ls)) ∧ Below w.heap.size w w' := by
  obtain ⟨ao, cp, hvv⟩ := readsLabels_len hv
  have HV := hide hv
  have HI := hide hin
  clear hv hin
  subst hvv
  go_enter Tryz.func82, Tryz.ntmps82
  go_wp2_with fail
  refine (checkEach_any w _ ls 1 HV.out hlen HI.out (by omega)).mono ?_
  rintro e w1 ⟨rfl, hb1⟩
  by_cases h0 : eachErr 1 ls = 0
  · obtain ⟨hl, hn⟩ := eachErr_names h0
    have HN := hide hn
    have H0 := hide h0
    clear hn
    rw [h0]
    clear h0
    go_wp2_with fail
    refine (twice_any w1 _ ls (readsLabels_mono (readsLabels_below HV.out hb1) hb1.size) hl (fun x hx => (HN.out x hx).1)).mono ?_
    rintro e w2 ⟨rfl, hb2⟩
    have hb02 : Below w.heap.size w w2 := hb1.trans (hb2.mono hb1.size)
    cases ht : twiceB ls with
    | true =>
      have HT := hide ht
      clear ht
      go_wp2
      go_ret
      exact ⟨ret_int (by unfold checkB; rw [if_pos H0.out, if_neg (by rw [HT.out]; simp)]; rfl), hb02⟩
    | false =>
      have HT := hide ht
      clear ht
      go_wp2_with fail
      refine (rise_any w2 _ ls (readsLabels_mono (readsLabels_below HV.out hb02) hb02.size) hl).mono ?_
      rintro e w3 ⟨rfl, n, rfl⟩
      have hb03 : Below w.heap.size w (w2.drewN n) := hb02.trans ⟨rfl, rfl, rfl, Nat.le_refl _, fun _ _ => rfl⟩
      cases hr : riseB ls with
      | true =>
        have HR := hide hr
        clear hr
        go_wp2
        go_ret
        exact ⟨ret_int (by unfold checkB; rw [if_pos H0.out, if_pos HT.out, if_pos HR.out]; rfl), hb03⟩
      | false =>
        have HR := hide hr
        clear hr
        go_wp2
        go_ret
        exact ⟨ret_int (by unfold checkB; rw [if_pos H0.out, if_pos HT.out, if_neg (by rw [HR.out]; simp)]; rfl), hb03⟩
  · have H0 := hide h0
    have hne : ((eachErr 1 ls : Int) != 0) = true := by simpa using h0
    clear h0
    go_wp2
    go_ret
    exact ⟨ret_int (by unfold checkB; rw [if_neg H0.out]), hb1⟩
end Go.Proofs.YtkaeogldielkfaaGreat.Lb
