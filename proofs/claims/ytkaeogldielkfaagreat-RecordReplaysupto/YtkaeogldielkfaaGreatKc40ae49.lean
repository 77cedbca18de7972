/- 2 texts in one. -/
import Derived.Test.YtkaeogldielkfaaGreatProg
import Derived.Test.YtkaeogldielkfaaGreatKabe2b5f
import Derived.Test.YtkaeogldielkfaaGreatKa96aaab
import Derived.Laws.BitsAllLaws
set_option linter.unusedVariables false
set_option linter.unusedSimpArgs false
namespace Go.Proofs.YtkaeogldielkfaaGreat.Lg
open Go.RowKit
attribute [local go_sem] bs_size bs_toList bs_append bs_get bs_extract
set_option maxRecDepth 20000 in
theorem checked_any (c : Nat) (w : World) (h : c < 4294967296) :
    Calls Tryz.prog 128 #[.int .u32 c] w fun e w' => e = .returned (.int .u32 (ckIt 8 c)) ∧ w' = w := by
  have HC := hide h
  clear h
  go_enter Tryz.func128, Tryz.ntmps128
  go_wp2
  go_loop [0, 3, 4] (fun s g i => ∃ k : Nat, k ≤ 8 ∧ i = .int .i64 k ∧ s = .int .u32 (ckIt k c)) (fun _ _ i => 8 - (intOf i).toNat)
  case atStart => exact ⟨0, by omega, rfl, rfl⟩
  case round =>
    obtain ⟨k, hk, rfl, rfl⟩ := hrel
    have hl := ckIt_lt HC.out k
    have HS : Hid (ckIt (k + 1) c = ckBit (ckIt k c)) := hide rfl
    have H8 : Hid (k = 8 → ckIt k c = ckIt 8 c) := hide fun h => by rw [h]
    generalize ckIt k c = s at hl HS H8
    have a1 : bits .and .u32 (s : Int) 1 = ((s % 2 : Nat) : Int) := by
      have := u32_and_nat s 1 hl (by decide)
      rw [show ((1 : Nat) : Int) = 1 from rfl] at this
      rw [this, Nat.and_one_is_mod]
    by_cases hk8 : k < 8
    · by_cases hb : s % 2 = 1
      · have a2 : bits .xor .u32 ((s : Int) / 2) 2197175160 = (((s / 2) ^^^ 2197175160 : Nat) : Int) := by
          have := u32_xor_nat (s / 2) 2197175160 (by omega) (by decide)
          simpa using this
        go_wp2
        go_round
        case rel => exact ⟨k + 1, by omega, by go_num, by rw [HS.out, ckBit, if_pos hb]⟩
        case measure => simp [intOf]; omega
      · go_wp2
        go_round
        case rel => exact ⟨k + 1, by omega, by go_num, by rw [HS.out, ckBit, if_neg hb]; rfl⟩
        case measure => simp [intOf]; omega
    · go_wp2
      go_ret
      exact ⟨by rw [H8.out (by omega)]; rfl, rfl⟩
set_option maxRecDepth 20000 in
theorem logCheck_any (l : List UInt8) (w : World) (hs : l.length ≤ 9223372036854775807) :
    Calls Tryz.prog 109 #[.string (bs l)] w fun e w' => e = .returned (.int .u32 (ckSum l)) ∧ w' = w := by
  go_enter Tryz.func109, Tryz.ntmps109
  go_wp2
  go_loop [3, 4, 7] (fun s _ i => ∃ k : Nat, k ≤ l.length ∧ i = .int .i64 k ∧ s = .int .u32 (ckFrom 4294967295 (l.take k))) (fun _ _ i => l.length - (intOf i).toNat)
  case atStart => exact ⟨0, by omega, rfl, rfl⟩
  case round =>
    obtain ⟨k, hk, rfl, rfl⟩ := hrel
    have hl := ckFrom_lt (l.take k) (c := 4294967295) (by decide)
    have HS : Hid (∀ h : k < l.length, ckFrom 4294967295 (l.take (k + 1)) = ckIt 8 (ckFrom 4294967295 (l.take k) ^^^ l[k].toNat)) := hide fun h => ckFrom_take _ _ _ h
    have H8 : Hid (k = l.length → ckFrom 4294967295 (l.take k) ^^^ 4294967295 = ckSum l) := hide fun h => by rw [h, List.take_length]; rfl
    generalize ckFrom 4294967295 (l.take k) = s at hl HS H8
    by_cases hk8 : k < l.length
    · have hb := l[k].toNat_lt
      have a2 : bits .xor .u32 (s : Int) (l[k].toNat : Int) = ((s ^^^ l[k].toNat : Nat) : Int) := u32_xor_nat s l[k].toNat hl (by omega)
      go_wp2_with fail
      refine (checked_any (s ^^^ l[k].toNat) w (xor_lt32 hl (by omega))).mono ?_
      rintro e w1 ⟨rfl, rfl⟩
      go_wp2
      go_round
      case rel => exact ⟨k + 1, by omega, by go_num, by rw [HS.out hk8]⟩
      case measure => simp [intOf]; omega
    · have a2 : bits .xor .u32 (s : Int) 4294967295 = ((s ^^^ 4294967295 : Nat) : Int) := by
        have := u32_xor_nat s 4294967295 hl (by decide)
        simpa using this
      go_wp2
      go_ret
      exact ⟨by rw [H8.out (by omega)]; rfl, rfl⟩
set_option maxRecDepth 20000 in
theorem rXor_any (a b : Nat) (w : World) (ha : a < 4294967296) (hb : b < 4294967296) :
    Calls Tryz.prog 127 #[.int .i64 a, .int .i64 b] w fun e w' => e = .returned (.int .i64 (a ^^^ b : Nat)) ∧ w' = w := by
  have HA : Hid (a < 2 ^ 32) := hide ha
  have HB : Hid (b < 2 ^ 32) := hide hb
  clear ha hb
  go_enter Tryz.func127, Tryz.ntmps127
  go_wp2
  go_loop [0, 1, 5, 6] (fun x y n d => ∃ (k : Nat) (x' y' n' : Nat), k ≤ 32 ∧ x = .int .i64 x' ∧ y = .int .i64 y' ∧ n = .int .i64 n' ∧ d = .int .i64 (2 ^ k : Nat) ∧ Hid (x' < 2 ^ (32 - k)) ∧ Hid (y' < 2 ^ (32 - k)) ∧ Hid (n' < 2 ^ k) ∧ Hid (a ^^^ b = n' + 2 ^ k * (x' ^^^ y'))) (fun x y _ _ => (intOf x).toNat + (intOf y).toNat)
  case atStart => exact ⟨0, a, b, 0, by omega, rfl, rfl, rfl, rfl, HA, HB, hide (by decide), hide (by simp)⟩
  case round =>
    obtain ⟨k, x, y, n, hk, rfl, rfl, rfl, rfl, HX, HY, HN, HE⟩ := hrel
    by_cases hgo : 0 < x ∨ 0 < y
    · have hk32 : k < 32 := by
        apply Nat.lt_of_not_le
        intro h
        have e : 32 - k = 0 := by omega
        have h1 := HX.out
        have h2 := HY.out
        rw [e] at h1 h2
        omega
      have HX2 : Hid (x / 2 < 2 ^ (32 - (k + 1))) := hide (by have := HX.out; rw [show 32 - k = (32 - (k + 1)) + 1 from by omega, Nat.pow_succ] at this; omega)
      have HY2 : Hid (y / 2 < 2 ^ (32 - (k + 1))) := hide (by have := HY.out; rw [show 32 - k = (32 - (k + 1)) + 1 from by omega, Nat.pow_succ] at this; omega)
      have hx32 : x < 4294967296 := Nat.lt_of_lt_of_le HX.out (Nat.pow_le_pow_right (by decide) (by omega) : 2 ^ (32 - k) ≤ 2 ^ 32)
      have hy32 : y < 4294967296 := Nat.lt_of_lt_of_le HY.out (Nat.pow_le_pow_right (by decide) (by omega) : 2 ^ (32 - k) ≤ 2 ^ 32)
      have HD : Hid (2 * 2 ^ k = 2 ^ (k + 1)) := hide (by rw [Nat.pow_succ]; omega)
      have hD : 2 ^ k ≤ 2 ^ 32 := Nat.pow_le_pow_right (by decide) hk
      have hD2 : Hid (2 ^ k ≤ 4294967296) := hide hD
      have HE2 : Hid (a ^^^ b = (n + 2 ^ k * (if x % 2 = y % 2 then 0 else 1)) + 2 ^ (k + 1) * ((x / 2) ^^^ (y / 2))) := hide (by
        rw [HE.out, xor_half x y, Nat.mul_add, Nat.pow_succ]
        have : 2 ^ k * (2 * (x / 2 ^^^ y / 2)) = 2 ^ k * 2 * (x / 2 ^^^ y / 2) := by rw [Nat.mul_assoc]
        omega)
      have HN2 := HN
      clear hD HE HX HY
      generalize 2 ^ k = D at HD hD2 HE2 HN2 HN
      have hd32 := hD2.out
      have hn32 := HN.out
      by_cases hxy : x % 2 = y % 2
      · have t1 : ((x : Int) % 2 != (y : Int) % 2) = false := by simp; omega
        rw [if_pos hxy] at HE2
        by_cases hx : 0 < x
        · go_wp2
          go_round
          case rel => exact ⟨k + 1, x / 2, y / 2, n, by omega, by go_num, by go_num, rfl, by rw [← HD.out]; go_num, HX2, HY2, hide (by rw [← HD.out]; omega), hide (by rw [HE2.out]; simp)⟩
          case measure => simp [intOf]; omega
        · go_wp2
          go_round
          case rel => exact ⟨k + 1, x / 2, y / 2, n, by omega, by go_num, by go_num, rfl, by rw [← HD.out]; go_num, HX2, HY2, hide (by rw [← HD.out]; omega), hide (by rw [HE2.out]; simp)⟩
          case measure => simp [intOf]; omega
      · have t1 : ((x : Int) % 2 != (y : Int) % 2) = true := by simp; omega
        rw [if_neg hxy] at HE2
        by_cases hx : 0 < x
        · go_wp2
          go_round
          case rel => exact ⟨k + 1, x / 2, y / 2, n + D, by omega, by go_num, by go_num, by go_num, by rw [← HD.out]; go_num, HX2, HY2, hide (by rw [← HD.out]; omega), hide (by rw [HE2.out]; simp)⟩
          case measure => simp [intOf]; omega
        · go_wp2
          go_round
          case rel => exact ⟨k + 1, x / 2, y / 2, n + D, by omega, by go_num, by go_num, by go_num, by rw [← HD.out]; go_num, HX2, HY2, hide (by rw [← HD.out]; omega), hide (by rw [HE2.out]; simp)⟩
          case measure => simp [intOf]; omega
    · obtain rfl : x = 0 := by omega
      obtain rfl : y = 0 := by omega
      have HE3 : Hid (a ^^^ b = n) := hide (by rw [HE.out]; simp)
      go_wp2
      go_ret
      exact ⟨by rw [HE3.out]; rfl, rfl⟩
set_option maxRecDepth 20000 in
theorem checkOf_any (l : List UInt8) (w : World) (hs : l.length ≤ 9223372036854775807) :
    Calls Tryz.prog 102 #[.string (bs l)] w fun e w' => e = .returned (.int .i64 (ckSum l)) ∧ w' = w := by
  go_enter Tryz.func102, Tryz.ntmps102
  go_wp2
  go_loop [3, 4, 5, 6] (fun s i _ _ => ∃ k : Nat, k ≤ l.length ∧ i = .int .i64 k ∧ s = .int .i64 (ckFrom 4294967295 (l.take k))) (fun _ i _ _ => l.length - (intOf i).toNat)
  case atStart => exact ⟨0, by omega, rfl, rfl⟩
  case round =>
    obtain ⟨k, hk, rfl, rfl⟩ := hrel
    have hl := ckFrom_lt (l.take k) (c := 4294967295) (by decide)
    have HS : Hid (∀ h : k < l.length, ckFrom 4294967295 (l.take (k + 1)) = ckIt 8 (ckFrom 4294967295 (l.take k) ^^^ l[k].toNat)) := hide fun h => ckFrom_take _ _ _ h
    have H8 : Hid (k = l.length → ckFrom 4294967295 (l.take k) ^^^ 4294967295 = ckSum l) := hide fun h => by rw [h, List.take_length]; rfl
    generalize ckFrom 4294967295 (l.take k) = s at hl HS H8
    by_cases hk8 : k < l.length
    · have hb := l[k].toNat_lt
      have HS := hide (HS.out hk8)
      have HX := hide (xor_low s l[k].toNat (by omega))
      have hx2 : (s % 256) ^^^ l[k].toNat < 256 := Nat.xor_lt_two_pow (n := 8) (by omega) (by omega)
      have hx3 : s ^^^ l[k].toNat < 4294967296 := xor_lt32 hl (by omega)
      generalize hc : s ^^^ l[k].toNat = c at HX HS hx3
      go_wp2_with fail
      refine (rXor_any (s % 256) l[k].toNat w (by omega) (by omega)).mono ?_
      rintro e w1 ⟨rfl, rfl⟩
      clear hc
      generalize (s % 256) ^^^ l[k].toNat = d at HX hx2
      have hcd : ((s : Int) / 256 * 256 + (d : Int)) = (c : Int) := by have := HX.out; omega
      go_wp2_with fail
      go_loop [3, 5, 6] (fun s i _ => ∃ k : Nat, k ≤ 8 ∧ i = .int .i64 k ∧ s = .int .i64 (ckIt k c)) (fun _ i _ => 8 - (intOf i).toNat)
      case atStart => exact ⟨0, by omega, rfl, rfl⟩
      case round =>
        obtain ⟨j, hj, rfl, rfl⟩ := hrel
        have hl2 := ckIt_lt hx3 j
        have HT : Hid (ckIt (j + 1) c = ckBit (ckIt j c)) := hide rfl
        have H9 : Hid (j = 8 → ckIt j c = ckIt 8 c) := hide fun h => by rw [h]
        generalize ckIt j c = t at hl2 HT H9
        by_cases hj8 : j < 8
        · by_cases hb2 : t % 2 = 1
          · go_wp2_with fail
            refine (rXor_any (t / 2) 2197175160 _ (by omega) (by decide)).mono ?_
            rintro e w2 ⟨rfl, rfl⟩
            go_wp2
            go_round
            case rel => exact ⟨j + 1, by omega, by go_num, by rw [HT.out, ckBit, if_pos hb2]⟩
            case measure => simp [intOf]; omega
          · go_wp2
            go_round
            case rel => exact ⟨j + 1, by omega, by go_num, by rw [HT.out, ckBit, if_neg hb2]; rfl⟩
            case measure => simp [intOf]; omega
        · go_wp2
          go_round
          case rel => exact ⟨k + 1, by omega, by go_num, by rw [HS.out, ← H9.out (by omega)]⟩
          case measure => simp [intOf]; omega
    · go_wp2_with fail
      refine (rXor_any s 4294967295 _ hl (by decide)).mono ?_
      rintro e w1 ⟨rfl, rfl⟩
      go_wp2
      go_ret
      exact ⟨by rw [H8.out (by omega)]; rfl, rfl⟩
end Go.Proofs.YtkaeogldielkfaaGreat.Lg
