/- 2 texts in one. -/
import Derived.Test.YtndpjdmfkhjiiaaGreatDoorProg
import Derived.Test.YtndpjdmfkhjiiaaGreatDoorK97fdc06
import Derived.Test.YtndpjdmfkhjiiaaGreatDoorKbff346a
import Derived.Test.YtndpjdmfkhjiiaaGreatDoorK309f1d1
import Derived.Test.YtndpjdmfkhjiiaaGreatDoorK58b8031
import Derived.Maps.Own
import Derived.Maps.OwnOps
import Derived.Maps.OwnSet
import Derived.Maps.Views
import Derived.BigQuiet
set_option linter.unusedVariables false
set_option linter.unusedSimpArgs false
namespace Go.Proofs.YtndpjdmfkhjiiaaGreatDoor.Lb
open Go.RowKit Go.Maps
open Go.WideMaps (keyOf_string_mk)
attribute [local go_sem] bs_size bs_toList bs_append bs_get bs_extract
theorem Tryz.keyLaw : Keyed Tryz.prog 9 := string_keyed Tryz.underlying9
theorem Tryz.zeroUnit (w : World) : (zeroValue 130).run Tryz.prog w = .ok (.agg #[]) w := by kernel_rfl
/-- The names that were met. -/
def metL (ls : List Lab) (k : Nat) : List Lit := (ls.take k).map fun x => .string x.1
theorem metL_succ {ls : List Lab} {k : Nat} (h : k < ls.length) : metL ls (k + 1) = metL ls k ++ [.string ls[k].1] := by
  unfold metL
  rw [List.take_succ_eq_append_getElem h, List.map_append]; rfl
theorem met_key (ls : List Lab) (k : Nat) : ∀ x ∈ metL ls k, WideAt.IsKeyLit x := by
  intro x hx
  obtain ⟨y, _, rfl⟩ := List.mem_map.1 hx
  simp [WideAt.IsKeyLit]
theorem met_has {ls : List Lab} {k : Nat} {s : List UInt8} : Maps.has (setOf (H := Unit) (.agg []) (metL ls k)) (.string s) = true ↔ ∃ j, ∃ (h : j < ls.length), j < k ∧ ls[j].1 = s := by
  rw [has_setOf _ _ _ (met_key ls k), List.any_eq_true]
  constructor
  · rintro ⟨x, hx, he⟩
    obtain ⟨y, hy, rfl⟩ := List.mem_map.1 hx
    obtain ⟨j, hj, rfl⟩ := List.getElem_of_mem hy
    have hj' := hj
    rw [List.length_take] at hj'
    refine ⟨j, by omega, by omega, ?_⟩
    rw [List.getElem_take] at he
    simpa [Lit.sameKey] using he
  · rintro ⟨j, hj, hjk, rfl⟩
    refine ⟨.string ls[j].1, List.mem_map.2 ⟨ls[j], ?_, rfl⟩, by simp [Lit.sameKey]⟩
    rw [List.mem_take_iff_getElem]
    exact ⟨j, by omega, rfl⟩
set_option maxRecDepth 20000 in
set_option maxHeartbeats 2000000 in
theorem twice_any (w : World) (v : Value) (ls : List Lab) (hv : readsLabels w w.heap.size v ls) (hlen : ls.length ≤ 20) (hin : ∀ x ∈ ls, x.1.length ≤ 40) :
    Calls Tryz.prog 47 #[v] w fun e w' => e = .returned (.bool (twiceB ls)) ∧ Below w.heap.size w w' := by
  obtain ⟨ao, cp, rfl, hcells⟩ := id hv
  have HI := hide hin
  clear hin hv
  have hmm := @run_makeMap Tryz.prog
  go_enter Tryz.func47, Tryz.ntmps47
  go_wp2
  go_loopw [11] (fun i wr => ∃ k : Nat, k ≤ ls.length ∧ i = .int .i64 k ∧ Hid (wr.ownsMap Tryz.prog 9 unitElem w.heap.size k (setOf (H := Unit) (.agg []) (metL ls k))) ∧ Below w.heap.size w wr ∧ w.heap.size + 1 ≤ wr.heap.size ∧ Hid (∀ i j (hi : i < ls.length) (hj : j < ls.length), i < j → j < k → ls[i].1 ≠ ls[j].1)) (fun i _ => ls.length - (intOf i).toNat)
  case atStart => exact ⟨0, by omega, rfl, hide (World.ownsMap_made _ _ _ _), (Below.refl _ _).alloc (Nat.le_refl _) _, by simp, hide (fun _ j _ _ _ h => by omega)⟩
  case round =>
    obtain ⟨k, hk, rfl, HM, hb, hws, HD⟩ := hrel
    have hbs := hb.size
    by_cases hlt : k < ls.length
    · obtain ⟨lb, lo, rfl, hlB, c0, c1⟩ := hcells k hlt
      have d0 := (hb.cell (p := ⟨lb, lo + k * 2, none⟩) hlB).trans c0
      have d1 := (hb.cell (p := ⟨lb, lo + k * 2 + 1, none⟩) hlB).trans c1
      clear c0 c1 hcells
      have hl0 := HI.out _ (List.getElem_mem hlt)
      have hkey : keyOf Tryz.prog 9 (.string (bs ls[k].1)) = some (.string ls[k].1) := by rw [keyOf_string_mk Tryz.underlying9 (by rw [bs_size]; unfold maxLen; omega), bs_data]
      have HA := hide (@met_has ls k ls[k].1)
      cases hh : Maps.has (setOf (H := Unit) (.agg []) (metL ls k)) (Lit.string ls[k].1) with
      | true =>
        have HH := hide hh
        clear hh
        have HT : Hid (twiceB ls = true) := by
          obtain ⟨j, hj, hjk, e⟩ := HA.out.1 HH.out
          exact twiceB_true hj hlt hjk e
        go_wp2_with (at_lookup; refine wpList_lookup_own_unit _ rfl _ _ 129 rfl 9 130 Tryz.keyLaw Tryz.underlying129 (Tryz.zeroUnit _) w.heap.size k _ rfl (HM.out.alloc _) _ _ rfl hkey ?_; rw [HH.out])
        go_ret
        exact ⟨ret_bool HT.out.symm, (hb.alloc hbs _).alloc (by simp; omega) _⟩
      | false =>
        have HH := hide hh
        clear hh
        go_wp2_with (first
          | (at_lookup; refine wpList_lookup_own_unit _ rfl _ _ 129 rfl 9 130 Tryz.keyLaw Tryz.underlying129 (Tryz.zeroUnit _) w.heap.size k _ rfl (HM.out.alloc _) _ _ rfl hkey ?_; rw [HH.out])
          | (at_mapUpdate; refine wpList_mapUpdate_own _ rfl _ _ _ 129 rfl 9 130 Tryz.keyLaw Tryz.underlying129 (unitElem (H := Unit)) w.heap.size k _ rfl ((HM.out.alloc _).alloc _) (by unfold maxLen; omega) _ _ _ rfl rfl hkey _ [] unitElem_mk ?_; intro w1 hown1 hgrow1))
        have s1 := hgrow1.size
        simp at s1
        go_roundw
        case rel =>
          refine ⟨k + 1, by omega, by go_num, hide ?_, ((hb.alloc hbs _).alloc (by simp; omega) _).grown hgrow1 (by simp; omega) (fun j hj => by cases hj; exact Nat.le_refl _), by omega, hide (fun i j hi hj hij hjk => ?_)⟩
          · rw [metL_succ hlt, setOf_snoc]; exact hown1
          · by_cases e : j = k
            · subst e
              intro he
              have := HA.out.2 ⟨i, hi, hij, he⟩
              rw [HH.out] at this
              cases this
            · exact HD.out i j hi hj hij (by omega)
        case measure => simp [intOf]; omega
    · have HT : Hid (twiceB ls = false) := twiceB_false.2 fun i j hi hj hij => HD.out i j hi hj hij (by omega)
      go_wp2
      go_ret
      exact ⟨ret_bool HT.out.symm, hb⟩
set_option maxRecDepth 20000 in
set_option maxHeartbeats 1000000 in
theorem check_any (w : World) (v : Value) (ls : List Lab) (hv : readsLabels w w.heap.size v ls) (hlen : ls.length ≤ 9223372036854775807) (hin : lensOk ls) :
    Calls Tryz.prog 17 #[v] w fun e w' => e = .returned (.int .i64 (checkB ls)) ∧ Below w.heap.size w w' := by
  obtain ⟨ao, cp, hvv⟩ := readsLabels_len hv
  have HV := hide hv
  have HI := hide hin
  clear hv hin
  subst hvv
  go_enter Tryz.func17, Tryz.ntmps17
  go_wp2_with fail
  refine (checkEach_any w _ ls 1 HV.out hlen HI.out (by omega)).mono ?_
  rintro e w1 ⟨rfl, hb1⟩
  by_cases h0 : eachErr 1 ls = 0
  · obtain ⟨hl, hn⟩ := eachErr_names h0
    have HN := hide hn
    have H0 := hide h0
    clear hn
    rw [h0]
    clear h0
    go_wp2_with fail
    refine (twice_any w1 _ ls (readsLabels_mono (readsLabels_below HV.out hb1) hb1.size) hl (fun x hx => (HN.out x hx).1)).mono ?_
    rintro e w2 ⟨rfl, hb2⟩
    have hb02 : Below w.heap.size w w2 := hb1.trans (hb2.mono hb1.size)
    cases ht : twiceB ls with
    | true =>
      have HT := hide ht
      clear ht
      go_wp2
      go_ret
      exact ⟨ret_int (by unfold checkB; rw [if_pos H0.out, if_neg (by rw [HT.out]; simp)]; rfl), hb02⟩
    | false =>
      have HT := hide ht
      clear ht
      go_wp2_with fail
      refine (rise_any w2 _ ls (readsLabels_mono (readsLabels_below HV.out hb02) hb02.size) hl).mono ?_
      rintro e w3 ⟨rfl, n, rfl⟩
      have hb03 : Below w.heap.size w (w2.drewN n) := hb02.trans ⟨rfl, rfl, rfl, Nat.le_refl _, fun _ _ => rfl⟩
      cases hr : riseB ls with
      | true =>
        have HR := hide hr
        clear hr
        go_wp2
        go_ret
        exact ⟨ret_int (by unfold checkB; rw [if_pos H0.out, if_pos HT.out, if_pos HR.out]; rfl), hb03⟩
      | false =>
        have HR := hide hr
        clear hr
        go_wp2
        go_ret
        exact ⟨ret_int (by unfold checkB; rw [if_pos H0.out, if_pos HT.out, if_neg (by rw [HR.out]; simp)]; rfl), hb03⟩
  · have H0 := hide h0
    have hne : ((eachErr 1 ls : Int) != 0) = true := by simpa using h0
    clear h0
    go_wp2
    go_ret
    exact ⟨ret_int (by unfold checkB; rw [if_neg H0.out]), hb1⟩
end Go.Proofs.YtndpjdmfkhjiiaaGreatDoor.Lb
namespace Go.Proofs.YtndpjdmfkhjiiaaGreatDoor.Lb
open Go.RowKit
attribute [local go_sem] bs_size bs_toList bs_append bs_get bs_extract
theorem bits_xor_u64_le (a b : Nat) (ha : a < 18446744073709551616) (hb : b < 18446744073709551616) : bits .xor .u64 (a : Int) (b : Int) = ((a ^^^ b : Nat) : Int) := by
  have hx : a ^^^ b < 2 ^ 64 := Nat.xor_lt_two_pow (by omega) (by omega)
  have h1 : (BitVec.ofInt 64 (a : Int)).toNat = a := by
    rw [BitVec.ofInt_natCast, BitVec.toNat_ofNat]; exact Nat.mod_eq_of_lt (by omega)
  have h2 : (BitVec.ofInt 64 (b : Int)).toNat = b := by
    rw [BitVec.ofInt_natCast, BitVec.toNat_ofNat]; exact Nat.mod_eq_of_lt (by omega)
  show IntKind.u64.wrap ((BitVec.ofInt 64 (a : Int) ^^^ BitVec.ofInt 64 (b : Int)).toNat : Int) = _
  rw [BitVec.toNat_xor, h1, h2, IntKind.wrap_u64]
  omega
theorem sumStep_run (h c : Nat) (hh : h < 18446744073709551616) (hc : c < 256) : IntKind.u64.wrap (bits .xor .u64 (h : Int) (c : Int) * 1099511628211) = ((sumStep h c : Nat) : Int) := by
  rw [bits_xor_u64_le h c hh (by omega), IntKind.wrap_u64, sumStep]
  generalize h ^^^ c = x
  omega
def sumTake (h : Nat) (s : List UInt8) (k : Nat) : Nat := (s.take k).foldl (fun h c => sumStep h c.toNat) h
theorem sumTake_succ (h : Nat) (s : List UInt8) (k : Nat) (hk : k < s.length) : sumTake h s (k + 1) = sumStep (sumTake h s k) s[k].toNat := by
  unfold sumTake
  rw [List.take_succ_eq_append_getElem hk, List.foldl_append, List.foldl_cons, List.foldl_nil]
theorem sumTake_lt {h : Nat} (hh : h < 18446744073709551616) (s : List UInt8) : ∀ k, sumTake h s k < 18446744073709551616
  | 0 => hh
  | k + 1 => by
    by_cases hk : k < s.length
    · rw [sumTake_succ _ _ _ hk]; exact sumStep_lt _ _
    · have : s.take (k + 1) = s.take k := by rw [List.take_of_length_le (by omega), List.take_of_length_le (by omega)]
      unfold sumTake; rw [this]; exact sumTake_lt hh s k
theorem sumTake_all (h : Nat) (s : List UInt8) : sumStep (sumTake h s s.length) 255 = sumTxt h s := by
  unfold sumTake sumTxt; rw [List.take_of_length_le (Nat.le_refl _)]
set_option maxRecDepth 20000 in
set_option maxHeartbeats 1000000 in
theorem summed_any (h : Nat) (s : List UInt8) (w : World) (hh : h < 18446744073709551616) (hs : s.length ≤ 9223372036854775807) :
    Calls Tryz.prog 85 #[.int .u64 h, .string (bs s)] w fun e w' => e = .returned (.int .u64 (sumTxt h s)) ∧ w' = w := by
  have HH := hide hh
  clear hh
  go_enter Tryz.func85, Tryz.ntmps85
  go_wp2
  go_loop [0, 8] (fun x i => ∃ (k H : Nat), k ≤ s.length ∧ i = .int .i64 k ∧ x = .int .u64 H ∧ Hid (H = sumTake h s k)) (fun _ i => s.length - (intOf i).toNat)
  case atStart => exact ⟨0, h, by omega, rfl, rfl, rfl⟩
  case round =>
    obtain ⟨k, H, hk, rfl, rfl, HT⟩ := hrel
    have HB : Hid (H < 18446744073709551616) := by show _ < _; rw [HT.out]; exact sumTake_lt HH.out s k
    by_cases hlt : k < s.length
    · have hc := s[k].toNat_lt
      have hw : IntKind.u64.wrap (s[k].toNat : Int) = (s[k].toNat : Int) := by rw [IntKind.wrap_u64]; omega
      have HR := hide (sumStep_run H s[k].toNat HB.out hc)
      go_wp2
      go_round
      case rel => exact ⟨k + 1, sumStep H s[k].toNat, by omega, by go_num, by rw [HR.out], by show _ = _; rw [sumTake_succ h s k hlt, HT.out]⟩
      case measure => simp [intOf]; omega
    · obtain rfl : k = s.length := by omega
      have HR := hide (sumStep_run H 255 HB.out (by omega))
      go_wp2
      go_ret
      exact ⟨ret_int (by have := HR.out; rw [← sumTake_all, ← HT.out]; exact this), rfl⟩
theorem sumGo_take (h : Nat) (l : List Lab) (k : Nat) (hk : k < l.length) : sumGo h (l.take (k + 1)) = sumTxt (sumTxt (sumGo h (l.take k)) l[k].1) l[k].2 := by
  rw [List.take_succ_eq_append_getElem hk, sumGo_append, sumGo, sumGo]
set_option maxRecDepth 20000 in
set_option maxHeartbeats 400000 in
theorem sum_any (w : World) (v : Value) (ls : List Lab) (hv : readsLabels w w.heap.size v ls) (hlen : ls.length ≤ 9223372036854775807) (hin : lensOk ls) :
    Calls Tryz.prog 45 #[v] w fun e w' => e = .returned (.tuple #[.int .u64 (sumAns ls : Nat), .int .i64 (checkB ls)]) ∧ Below w.heap.size w w' := by
  obtain ⟨ao, cp, hvv⟩ := readsLabels_len hv
  have HV := hide hv
  have HI := hide hin
  clear hv hin
  subst hvv
  go_enter Tryz.func45, Tryz.ntmps45
  go_wp2_with fail
  refine (check_any w _ ls HV.out hlen HI.out).mono ?_
  rintro e w1 ⟨rfl, hb1⟩
  have hs1 := hb1.size
  by_cases h0 : checkB ls = 0
  · have HL : Hid (ls.length ≤ 20 ∧ ∀ x ∈ ls, x.1.length ≤ 40 ∧ x.2.length ≤ 100) := eachErr_names (checkB_zero.1 h0).1
    have H0 := hide h0
    rw [h0]
    clear h0
    obtain ⟨_, _, _, hcells⟩ := id (readsLabels_below HV.out hb1)
    go_wp2
    go_loopw [5, 15] (fun x i wr => ∃ k : Nat, k ≤ ls.length ∧ i = .int .i64 k ∧ x = .int .u64 (sumGo sum0 (ls.take k)) ∧ Below w.heap.size w wr) (fun _ i _ => ls.length - (intOf i).toNat)
    case atStart => exact ⟨0, by omega, rfl, by rw [← sum0_int]; rfl, hb1⟩
    case round =>
      obtain ⟨k, hk, rfl, rfl, hb⟩ := hrel
      have hbs := hb.size
      have HLt := hide (sumGo_lt (h := sum0) sum0_lt (ls.take k))
      have HSucc := fun hk => hide (sumGo_take sum0 ls k hk)
      have HF0 : Hid (k = ls.length → sumGo sum0 (ls.take k) = sumGo sum0 ls) := by rintro rfl; rw [List.take_of_length_le (Nat.le_refl _)]
      generalize sumGo sum0 (ls.take k) = H at HLt HSucc HF0
      by_cases hlt : k < ls.length
      · obtain ⟨_, _, hev, hc0⟩ := id HV.out
        simp at hev
        obtain ⟨rfl, rfl⟩ := hev
        obtain ⟨lb, lo, rfl, hlB, c0, c1⟩ := hc0 k hlt
        have d0 := (hb.cell (p := ⟨lb, lo + k * 2, none⟩) hlB).trans c0
        have d1 := (hb.cell (p := ⟨lb, lo + k * 2 + 1, none⟩) hlB).trans c1
        clear c0 c1 hc0 hcells
        have HSucc := HSucc hlt
        obtain ⟨hl0, hl1⟩ := HL.out.2 _ (List.getElem_mem hlt)
        obtain ⟨x, HX⟩ : ∃ x : Lab, Hid (ls[k] = x) := ⟨_, hide rfl⟩
        rw [HX.out] at d0 d1 hl0 hl1 HSucc
        have hx0 : x.1.length ≤ 9223372036854775807 := by omega
        have hx1 : x.2.length ≤ 9223372036854775807 := by omega
        have HB : Hid (∀ h, h = H ∨ h = sumTxt H x.1 → h < 18446744073709551616) := by
          intro h hh
          rcases hh with rfl | rfl
          · exact HLt.out
          · exact sumTxt_lt _ _
        have HS : Hid (∀ s, s = x.1 ∨ s = x.2 → s.length ≤ 9223372036854775807) := by
          intro s hs
          rcases hs with rfl | rfl
          · exact hx0
          · exact hx1
        go_wp2
        go_quiet ((go_at_call 85; exact Calls.quiet_of_same (summed_any _ _ _ (HB.out _ (by simp)) (HS.out _ (by simp)))))
        go_wp2
        go_roundw
        case rel =>
          refine ⟨k + 1, by omega, by go_num, ?_, ?_⟩
          · rw [HSucc.out]
          · exact (hb.alloc hbs _).trans ⟨rfl, rfl, rfl, Nat.le_refl _, fun _ _ => rfl⟩
        case measure => simp [intOf]; omega
      · have HF := hide (HF0.out (by omega))
        obtain rfl : k = ls.length := by omega
        go_wp2
        go_ret2
        exact ⟨ret2 (vint (by rw [sumAns_ok H0.out, sumB, ← HF.out])) (vint (by rw [H0.out]; rfl)), hb⟩
  · have H0 := hide h0
    have hne : ((checkB ls : Int) != 0) = true := by simpa using h0
    clear h0
    go_wp2
    go_ret2
    exact ⟨ret2 (vint (by rw [sumAns_no H0.out]; rfl)) rfl, hb1⟩
end Go.Proofs.YtndpjdmfkhjiiaaGreatDoor.Lb
