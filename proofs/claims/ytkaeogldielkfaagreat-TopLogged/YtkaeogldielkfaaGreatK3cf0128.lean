/- 1 texts in one. -/
import Derived.Test.YtkaeogldielkfaaGreatProg
import Derived.Test.YtkaeogldielkfaaGreatK5674b3b
import Derived.Test.YtkaeogldielkfaaGreatK7aebb14
import Derived.Laws.BitsAllLaws
set_option linter.unusedVariables false
set_option linter.unusedSimpArgs false
namespace Go.Proofs.YtkaeogldielkfaaGreat.Lg
open Go.RowKit
attribute [local go_sem] bs_size bs_toList bs_append bs_get bs_extract
set_option maxRecDepth 20000 in
theorem checked_any (c : Nat) (w : World) (h : c < 4294967296) :
    Calls Tryz.prog 128 #[.int .u32 c] w fun e w' => e = .returned (.int .u32 (ckIt 8 c)) ∧ w' = w := by
  have HC := hide h
  clear h
  go_enter Tryz.func128, Tryz.ntmps128
  go_wp2
  go_loop [0, 3, 4] (fun s g i => ∃ k : Nat, k ≤ 8 ∧ i = .int .i64 k ∧ s = .int .u32 (ckIt k c)) (fun _ _ i => 8 - (intOf i).toNat)
  case atStart => exact ⟨0, by omega, rfl, rfl⟩
  case round =>
    obtain ⟨k, hk, rfl, rfl⟩ := hrel
    have hl := ckIt_lt HC.out k
    have HS : Hid (ckIt (k + 1) c = ckBit (ckIt k c)) := hide rfl
    have H8 : Hid (k = 8 → ckIt k c = ckIt 8 c) := hide fun h => by rw [h]
    generalize ckIt k c = s at hl HS H8
    have a1 : bits .and .u32 (s : Int) 1 = ((s % 2 : Nat) : Int) := by
      have := u32_and_nat s 1 hl (by decide)
      rw [show ((1 : Nat) : Int) = 1 from rfl] at this
      rw [this, Nat.and_one_is_mod]
    by_cases hk8 : k < 8
    · by_cases hb : s % 2 = 1
      · have a2 : bits .xor .u32 ((s : Int) / 2) 2197175160 = (((s / 2) ^^^ 2197175160 : Nat) : Int) := by
          have := u32_xor_nat (s / 2) 2197175160 (by omega) (by decide)
          simpa using this
        go_wp2
        go_round
        case rel => exact ⟨k + 1, by omega, by go_num, by rw [HS.out, ckBit, if_pos hb]⟩
        case measure => simp [intOf]; omega
      · go_wp2
        go_round
        case rel => exact ⟨k + 1, by omega, by go_num, by rw [HS.out, ckBit, if_neg hb]; rfl⟩
        case measure => simp [intOf]; omega
    · go_wp2
      go_ret
      exact ⟨by rw [H8.out (by omega)]; rfl, rfl⟩
set_option maxRecDepth 20000 in
theorem logCheck_any (l : List UInt8) (w : World) (hs : l.length ≤ 9223372036854775807) :
    Calls Tryz.prog 109 #[.string (bs l)] w fun e w' => e = .returned (.int .u32 (ckSum l)) ∧ w' = w := by
  go_enter Tryz.func109, Tryz.ntmps109
  go_wp2
  go_loop [3, 4, 7] (fun s _ i => ∃ k : Nat, k ≤ l.length ∧ i = .int .i64 k ∧ s = .int .u32 (ckFrom 4294967295 (l.take k))) (fun _ _ i => l.length - (intOf i).toNat)
  case atStart => exact ⟨0, by omega, rfl, rfl⟩
  case round =>
    obtain ⟨k, hk, rfl, rfl⟩ := hrel
    have hl := ckFrom_lt (l.take k) (c := 4294967295) (by decide)
    have HS : Hid (∀ h : k < l.length, ckFrom 4294967295 (l.take (k + 1)) = ckIt 8 (ckFrom 4294967295 (l.take k) ^^^ l[k].toNat)) := hide fun h => ckFrom_take _ _ _ h
    have H8 : Hid (k = l.length → ckFrom 4294967295 (l.take k) ^^^ 4294967295 = ckSum l) := hide fun h => by rw [h, List.take_length]; rfl
    generalize ckFrom 4294967295 (l.take k) = s at hl HS H8
    by_cases hk8 : k < l.length
    · have hb := l[k].toNat_lt
      have a2 : bits .xor .u32 (s : Int) (l[k].toNat : Int) = ((s ^^^ l[k].toNat : Nat) : Int) := u32_xor_nat s l[k].toNat hl (by omega)
      go_wp2_with fail
      refine (checked_any (s ^^^ l[k].toNat) w (xor_lt32 hl (by omega))).mono ?_
      rintro e w1 ⟨rfl, rfl⟩
      go_wp2
      go_round
      case rel => exact ⟨k + 1, by omega, by go_num, by rw [HS.out hk8]⟩
      case measure => simp [intOf]; omega
    · have a2 : bits .xor .u32 (s : Int) 4294967295 = ((s ^^^ 4294967295 : Nat) : Int) := by
        have := u32_xor_nat s 4294967295 hl (by decide)
        simpa using this
      go_wp2
      go_ret
      exact ⟨by rw [H8.out (by omega)]; rfl, rfl⟩
end Go.Proofs.YtkaeogldielkfaaGreat.Lg
