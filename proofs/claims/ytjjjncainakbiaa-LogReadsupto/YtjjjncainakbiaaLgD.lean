/- CheckOf of the document's own package: the check of a text. -/
import Derived.Test.YtjjjncainakbiaaProg
import Derived.Test.YtjjjncainakbiaaKit
import Derived.Test.YtjjjncainakbiaaLgS
import Derived.Test.YtjjjncainakbiaaLgC
set_option linter.unusedVariables false
set_option linter.unusedSimpArgs false
namespace Go.Proofs.Ytjjjncainakbiaa.Lg
open Go.RowKit
attribute [local go_sem] bs_size bs_toList bs_append bs_get bs_extract

set_option maxRecDepth 20000 in
theorem checkOf_any (l : List UInt8) (w : World) (hs : l.length ≤ 9223372036854775807) :
    Calls Try.prog 10 #[.string (bs l)] w fun e w' => e = .returned (.int .i64 (ckSum l)) ∧ w' = w := by
  go_enter Try.func10, Try.ntmps10
  go_wp2
  go_loop [3, 4, 5, 6] (fun s i _ _ => ∃ k : Nat, k ≤ l.length ∧ i = .int .i64 k ∧ s = .int .i64 (ckFrom 4294967295 (l.take k))) (fun _ i _ _ => l.length - (intOf i).toNat)
  case atStart => exact ⟨0, by omega, rfl, rfl⟩
  case round =>
    obtain ⟨k, hk, rfl, rfl⟩ := hrel
    have hl := ckFrom_lt (l.take k) (c := 4294967295) (by decide)
    have HS : Hid (∀ h : k < l.length, ckFrom 4294967295 (l.take (k + 1)) = ckIt 8 (ckFrom 4294967295 (l.take k) ^^^ l[k].toNat)) := hide fun h => ckFrom_take _ _ _ h
    have H8 : Hid (k = l.length → ckFrom 4294967295 (l.take k) ^^^ 4294967295 = ckSum l) := hide fun h => by rw [h, List.take_length]; rfl
    generalize ckFrom 4294967295 (l.take k) = s at hl HS H8
    by_cases hk8 : k < l.length
    · have hb := l[k].toNat_lt
      have HS := hide (HS.out hk8)
      have HX := hide (xor_low s l[k].toNat (by omega))
      have hx2 : (s % 256) ^^^ l[k].toNat < 256 := Nat.xor_lt_two_pow (n := 8) (by omega) (by omega)
      have hx3 : s ^^^ l[k].toNat < 4294967296 := xor_lt32 hl (by omega)
      generalize hc : s ^^^ l[k].toNat = c at HX HS hx3
      go_wp2_with fail
      refine (rXor_any (s % 256) l[k].toNat w (by omega) (by omega)).mono ?_
      rintro e w1 ⟨rfl, rfl⟩
      clear hc
      generalize (s % 256) ^^^ l[k].toNat = d at HX hx2
      have hcd : ((s : Int) / 256 * 256 + (d : Int)) = (c : Int) := by have := HX.out; omega
      go_wp2_with fail
      go_loop [3, 5, 6] (fun s i _ => ∃ k : Nat, k ≤ 8 ∧ i = .int .i64 k ∧ s = .int .i64 (ckIt k c)) (fun _ i _ => 8 - (intOf i).toNat)
      case atStart => exact ⟨0, by omega, rfl, rfl⟩
      case round =>
        obtain ⟨j, hj, rfl, rfl⟩ := hrel
        have hl2 := ckIt_lt hx3 j
        have HT : Hid (ckIt (j + 1) c = ckBit (ckIt j c)) := hide rfl
        have H9 : Hid (j = 8 → ckIt j c = ckIt 8 c) := hide fun h => by rw [h]
        generalize ckIt j c = t at hl2 HT H9
        by_cases hj8 : j < 8
        · by_cases hb2 : t % 2 = 1
          · go_wp2_with fail
            refine (rXor_any (t / 2) 2197175160 _ (by omega) (by decide)).mono ?_
            rintro e w2 ⟨rfl, rfl⟩
            go_wp2
            go_round
            case rel => exact ⟨j + 1, by omega, by go_num, by rw [HT.out, ckBit, if_pos hb2]⟩
            case measure => simp [intOf]; omega
          · go_wp2
            go_round
            case rel => exact ⟨j + 1, by omega, by go_num, by rw [HT.out, ckBit, if_neg hb2]; rfl⟩
            case measure => simp [intOf]; omega
        · go_wp2
          go_round
          case rel => exact ⟨k + 1, by omega, by go_num, by rw [HS.out, ← H9.out (by omega)]⟩
          case measure => simp [intOf]; omega
    · go_wp2_with fail
      refine (rXor_any s 4294967295 _ hl (by decide)).mono ?_
      rintro e w1 ⟨rfl, rfl⟩
      go_wp2
      go_ret
      exact ⟨by rw [H8.out (by omega)]; rfl, rfl⟩

end Go.Proofs.Ytjjjncainakbiaa.Lg
