/- wire.Number, numberSize, ReadNumber; gleanerref.NumberOf, NumberAt. -/
import Derived.Test.YtmdakfmecfcbhaaGreatProg
import Derived.Test.YtmdakfmecfcbhaaGreatKit
import Derived.Test.YtmdakfmecfcbhaaGreatSpec
set_option linter.unusedVariables false
set_option linter.unusedSimpArgs false
namespace Go.Proofs.YtmdakfmecfcbhaaGreat
open Go.RowKit
attribute [local go_sem] bs_size bs_toList bs_append bs_get bs_extract

theorem Tryz.info5 : (Tryz.prog.info? 5).map (fun i => (i.zero, i.size, i.bytes)) = some (some (.int .u8 0), 1, 1) := by kernel_rfl

set_option maxRecDepth 20000 in
set_option maxHeartbeats 400000 in
theorem number_any (n : Nat) (w : World) (hn : n < 18446744073709551616) :
    Calls Tryz.prog 35 #[.int .u64 n] w fun e w' => e = .returned (.string (bs (numB n))) ∧ Below w.heap.size w w' := by
  obtain ⟨i0, hi, hz0, hz1, hz2⟩ := info_parts Tryz.info5
  have HN : Hid (n < 128^(9+1)) := by show n < 128^(9+1); omega
  clear hn
  go_enter Tryz.func35, Tryz.ntmps35
  go_wp2
  go_loopw [0, 3] (fun n3 v wr => ∃ (f n' : Nat) (done : List UInt8), Hid (numB n = done ++ numF f n' ∧ n' < 128^(f+1)) ∧ n3 = .int .u64 n' ∧ wr.ownsRow w.heap.size 5 1 v done.length (bytesV done) ∧ Below w.heap.size w wr) (fun n3 _ _ => (intOf n3).toNat)
  case atStart => exact ⟨9, n, [], ⟨rfl, HN⟩, rfl, World.ownsRow_nil _ _ _ _, Below.refl _ _⟩
  case round =>
    obtain ⟨f, n', done, hlt, rfl, hown, hb⟩ := hrel
    have hlen : done.length ≤ 9 := by
      have h1 := congrArg List.length hlt.out.1
      have h2 := numB_length n
      have h3 := numF_length f n'
      simp at h1
      omega
    have hsz := hb.size
    by_cases h : n' < 128
    · have h' : (n' : Int) < 128 := by omega
      go_wp2_with (at_builtin; refine wpList_append_own _ rfl _ _ 63 rfl w.heap.size 5 i0 (.int .u8 0) 1 1 Tryz.underlying63 hi hz0 hz1 hz2 rfl (by decide) _ done.length (bytesV done) rfl (hown.alloc _) ⟨wr.heap.size, 0, none⟩ 1 1 (bytesV [UInt8.ofNat n']) rfl rfl (bcell _ _ _ _ (ofNat_toNat _ (by omega))) (bytesV_oneCell _) (by unfold maxLen; omega) (by omega) (by simp; omega) ?_; intro v' w1 hown' hgrow _; rw [← bytesV_append] at hown'; have hcv := run_bytesStr (P := Tryz.prog) Tryz.underlying63 Tryz.underlying5 Tryz.underlying9 (l := done ++ [UInt8.ofNat n']) (by simpa using hown'))
      go_ret
      exact ⟨by rw [hlt.out.1, numF_small _ _ h]; rfl, (hb.alloc hsz _).grown hgrow (by simp; omega) (fun k hk => (hown.lt k hk).1)⟩
    · have h' : ¬ (n' : Int) < 128 := by omega
      have ho := or128 n'
      obtain ⟨g, rfl⟩ : ∃ g, f = g + 1 := by
        cases f with
        | zero => have := hlt.out.2; omega
        | succ g => exact ⟨g, rfl⟩
      go_wp2_with (at_builtin; refine wpList_append_own _ rfl _ _ 63 rfl w.heap.size 5 i0 (.int .u8 0) 1 1 Tryz.underlying63 hi hz0 hz1 hz2 rfl (by decide) _ done.length (bytesV done) rfl (hown.alloc _) ⟨wr.heap.size, 0, none⟩ 1 1 (bytesV [hiByte n']) rfl rfl (bcell _ _ _ _ (by rw [hiByte_toNat]; first | rfl | omega)) (bytesV_oneCell _) (by unfold maxLen; omega) (by omega) (by simp; omega) ?_; intro v' w1 hown' hgrow _; rw [← bytesV_append] at hown')
      go_roundw
      case rel => exact ⟨g, n' / 128, done ++ [hiByte n'], ⟨by rw [hlt.out.1, numF_big _ _ h]; simp, by have := hlt.out.2; rw [Nat.pow_succ] at this; omega⟩, by go_num, by simpa using hown', (hb.alloc hsz _).grown hgrow (by simp; omega) (fun k hk => (hown.lt k hk).1)⟩
      case measure => simp [intOf]; omega

set_option maxHeartbeats 400000 in
theorem numberSize_any (l : List UInt8) (w : World) (hs : l.length ≤ maxLen) :
    Calls Tryz.prog 61 #[.string (bs l)] w fun e w' => e = .returned (.int .i64 (numSize l)) ∧ w' = w := by
  unfold maxLen at hs
  go_enter Tryz.func61, Tryz.ntmps61
  go_wp2
  go_loop [3] (fun i => ∃ k : Nat, k ≤ l.length ∧ i = .int .i64 k ∧ Hid (∀ j (hj : j < l.length), j < k → ¬ (l[j].toNat : Int) < 128)) (fun i => l.length - (intOf i).toNat)
  case atStart => exact ⟨0, Nat.zero_le _, rfl, fun j _ h => by omega⟩
  case round =>
    obtain ⟨k, hk, rfl, H⟩ := hrel
    by_cases hlt : k < l.length
    · by_cases hc : (l[k].toNat : Int) < 128
      · have hr : Hid (numSize l = k + 1) := numSize_hit l k hlt H.out hc
        go_wp2
        go_ret
        exact ⟨ret_int (by rw [hr.out]; simp), rfl⟩
      · go_wp2
        go_round
        case rel => exact ⟨k + 1, by omega, by go_num, fun j hj h => by
          by_cases e : j = k
          · subst e; exact hc
          · exact H.out j hj (by omega)⟩
        case measure => simp [intOf]; omega
    · have hr : Hid (numSize l = 0) := numSize_miss l (fun j hj => H.out j hj (by omega))
      go_wp2
      go_ret
      exact ⟨ret_int (by rw [hr.out]; simp), rfl⟩

theorem readNum_none {l : List UInt8} (h : numSize l = 0) : readNum l = (0, 0, 1) := by simp [readNum, h]
theorem readNum_long {l : List UInt8} (h0 : ¬ numSize l = 0) (h : 10 < numSize l ∨ (numSize l = 10 ∧ 1 < (l.getD 9 0).toNat)) : readNum l = (0, 0, 3) := by simp only [readNum, h0, h, if_false, if_true]
theorem readNum_ok {l : List UInt8} (h0 : ¬ numSize l = 0) (h : ¬ (10 < numSize l ∨ (numSize l = 10 ∧ 1 < (l.getD 9 0).toNat))) : readNum l = (numVal (l.take (numSize l)), numSize l, 0) := by simp only [readNum, h0, h, if_false]

set_option maxRecDepth 20000 in
set_option maxHeartbeats 400000 in
theorem readNumber_any (l : List UInt8) (w : World) (hs : l.length ≤ maxLen) :
    Calls Tryz.prog 34 #[.string (bs l)] w fun e w' => e = .returned (.tuple #[.int .u64 (readNum l).1, .int .i64 (readNum l).2.1, .int .i64 (readNum l).2.2]) ∧ w' = w := by
  have hs' := hs
  unfold maxLen at hs
  have hle := numSize_le l
  obtain ⟨z, HZ⟩ : ∃ z, Hid (numSize l = z) := ⟨_, rfl⟩
  rw [HZ.out] at hle
  go_enter Tryz.func34, Tryz.ntmps34
  by_cases h0 : z = 0
  · subst h0
    go_wp2_with (go_at_call 61; refine (numberSize_any l _ hs').mono ?_; rintro e w' ⟨rfl, rfl⟩; rw [HZ.out])
    go_ret3
    exact ⟨by rw [readNum_none HZ.out]; rfl, rfl⟩
  · have h0' : ((z : Int) == 0) = false := by simp; omega
    by_cases h10 : 10 < z
    · have h10' : (10 : Int) < (z : Int) := by omega
      go_wp2_with (go_at_call 61; refine (numberSize_any l _ hs').mono ?_; rintro e w' ⟨rfl, rfl⟩; rw [HZ.out])
      go_ret3
      exact ⟨by rw [readNum_long (by rw [HZ.out]; exact h0) (by rw [HZ.out]; exact .inl h10)]; rfl, rfl⟩
    · have h10' : ¬ (10 : Int) < (z : Int) := by omega
      have HT : Hid ((l.take (numSize l)).length = z) := by show _ = _; rw [List.length_take, HZ.out]; omega
      have HG : Hid (∀ j (hj : j < z) (hl : j < l.length), (l.take (numSize l))[j]'(by rw [HT.out]; exact hj) = l[j]) := fun j hj hl => List.getElem_take ..
      by_cases h1 : z = 10 ∧ 1 < (l.getD 9 0).toNat
      · obtain ⟨h1, h9⟩ := h1
        subst h1
        have h9' : (1 : Int) < (l[9].toNat : Int) := by rw [getD_get _ _ (by omega)] at h9; omega
        have H9 : Hid (1 < (l.getD 9 0).toNat) := h9
        clear h9
        go_wp2_with (go_at_call 61; refine (numberSize_any l _ hs').mono ?_; rintro e w' ⟨rfl, rfl⟩; rw [HZ.out])
        go_ret3
        exact ⟨by rw [readNum_long (by rw [HZ.out]; omega) (.inr ⟨HZ.out, H9.out⟩)]; rfl, rfl⟩
      · have HO : Hid (readNum l = (numVal (l.take (numSize l)), numSize l, 0)) := readNum_ok (by rw [HZ.out]; exact h0) (by rw [HZ.out]; omega)
        have HV : Hid (numVal (l.take (numSize l)) < 18446744073709551616) := by
          by_cases h : z = 10
          · exact numVal_ten _ (by rw [HT.out]; exact h) (by rw [List.getD_eq_getElem?_getD, List.getElem?_take_of_lt (by rw [HZ.out]; omega), ← List.getD_eq_getElem?_getD]; exact fun h9 => h1 ⟨h, h9⟩)
          · exact numVal_nine _ (by rw [HT.out]; omega)
        have HB : Hid (z = 10 → ¬ (1 < (l.getD 9 0).toNat)) := fun h h9 => h1 ⟨h, h9⟩
        clear h1
        generalize l.take (numSize l) = T at HT HG HO HV
        by_cases h : z = 10
        · subst h
          have h9' : ¬ (1 : Int) < (l[9].toNat : Int) := by have := HB.out rfl; rw [getD_get _ _ (by omega)] at this; omega
          clear HB
          go_wp2_with (go_at_call 61; refine (numberSize_any l _ hs').mono ?_; rintro e w' ⟨rfl, rfl⟩; rw [HZ.out])
          go_loop [6, 7] (fun n i => ∃ (k : Int) (N : Nat), -1 ≤ k ∧ k < 10 ∧ i = .int .i64 k ∧ n = .int .u64 N ∧ Hid (N = numVal (T.drop (k + 1).toNat))) (fun _ i => (intOf i + 1).toNat)
          case atStart => exact ⟨9, 0, by omega, by omega, rfl, rfl, by show _ = _; rw [List.drop_eq_nil_of_le (by rw [HT.out]; omega)]; rfl⟩
          case round =>
            obtain ⟨k, N, hk1, hk2, rfl, rfl, HN⟩ := hrel
            by_cases hk : 0 ≤ k
            · obtain ⟨j, rfl⟩ := Int.eq_ofNat_of_zero_le hk
              have hjl : j < l.length := by omega
              have HD : Hid (bits .or .u64 (IntKind.u64.wrap ((N : Int) * 128)) (IntKind.u64.wrap (bits .and .u8 (l[j].toNat : Int) 127)) = ((numVal (T.drop j) : Nat) : Int)) := by
                have := digit_step T j (by rw [HT.out]; omega) HV.out
                rw [HG.out j (by omega) hjl] at this
                rw [HN.out]; exact this
              go_wp2
              go_roundw
              case rel => exact ⟨(j : Int) - 1, numVal (T.drop j), by omega, by omega, rfl, by rw [HD.out], by show _ = _; rw [show ((j : Int) - 1 + 1).toNat = j from by omega]⟩
              case measure => simp [intOf]
            · go_wp2
              go_ret3
              obtain rfl : k = -1 := by omega
              exact ⟨by rw [HO.out, HN.out, HZ.out]; rfl, rfl⟩
        · have h' : ((z : Int) == 10) = false := by simp; omega
          have H : Hid (¬ z = 10) := h
          have H0 : Hid (¬ z = 0) := h0
          clear HB h h0
          go_wp2_with (go_at_call 61; refine (numberSize_any l _ hs').mono ?_; rintro e w' ⟨rfl, rfl⟩; rw [HZ.out])
          go_loop [6, 7] (fun n i => ∃ (k : Int) (N : Nat), -1 ≤ k ∧ k < z ∧ i = .int .i64 k ∧ n = .int .u64 N ∧ Hid (N = numVal (T.drop (k + 1).toNat))) (fun _ i => (intOf i + 1).toNat)
          case atStart => exact ⟨(z : Int) - 1, 0, by omega, by omega, rfl, rfl, by show _ = _; rw [List.drop_eq_nil_of_le (by rw [HT.out]; omega)]; rfl⟩
          case round =>
            obtain ⟨k, N, hk1, hk2, rfl, rfl, HN⟩ := hrel
            by_cases hk : 0 ≤ k
            · obtain ⟨j, rfl⟩ := Int.eq_ofNat_of_zero_le hk
              have hjl : j < l.length := by omega
              have HD : Hid (bits .or .u64 (IntKind.u64.wrap ((N : Int) * 128)) (IntKind.u64.wrap (bits .and .u8 (l[j].toNat : Int) 127)) = ((numVal (T.drop j) : Nat) : Int)) := by
                have := digit_step T j (by rw [HT.out]; omega) HV.out
                rw [HG.out j (by omega) hjl] at this
                rw [HN.out]; exact this
              go_wp2
              go_roundw
              case rel => exact ⟨(j : Int) - 1, numVal (T.drop j), by omega, by omega, rfl, by rw [HD.out], by show _ = _; rw [show ((j : Int) - 1 + 1).toNat = j from by omega]⟩
              case measure => simp [intOf]
            · go_wp2
              go_ret3
              obtain rfl : k = -1 := by omega
              exact ⟨by rw [HO.out, HN.out, HZ.out]; rfl, rfl⟩

end Go.Proofs.YtmdakfmecfcbhaaGreat
