/- The unpacker's numbers. -/
import Derived.Test.YtmdakfmecfcbhaaGreatProg
import Derived.Test.YtmdakfmecfcbhaaGreatKit
import Derived.Test.YtmdakfmecfcbhaaGreatSpec
import Derived.Test.YtmdakfmecfcbhaaGreatSpec2
import Derived.Test.YtmdakfmecfcbhaaGreatReg
import Derived.Test.YtmdakfmecfcbhaaGreatWWri
import Derived.Test.YtmdakfmecfcbhaaGreatRdA
import Derived.Test.YtmdakfmecfcbhaaGreatUnA
set_option linter.unusedVariables false
set_option linter.unusedSimpArgs false
namespace Go.Proofs.YtmdakfmecfcbhaaGreat
open Go.RowKit
attribute [local go_sem] bs_size bs_toList bs_append bs_get bs_extract

theorem wrap64_small (x : Int) (h0 : -9223372036854775808 ≤ x) (h : x < 9223372036854775808) : wrap64 x = x := by unfold wrap64; omega
theorem bits_or_i64_nat (a b : Nat) (ha : a < 9223372036854775808) (hb : b < 9223372036854775808) : bits .or .i64 (a : Int) (b : Int) = ((a ||| b : Nat) : Int) := by
  have hx : a ||| b < 2 ^ 63 := Nat.or_lt_two_pow (by omega) (by omega)
  have h1 : (BitVec.ofInt 64 (a : Int)).toNat = a := by
    rw [BitVec.ofInt_natCast, BitVec.toNat_ofNat]; exact Nat.mod_eq_of_lt (by omega)
  have h2 : (BitVec.ofInt 64 (b : Int)).toNat = b := by
    rw [BitVec.ofInt_natCast, BitVec.toNat_ofNat]; exact Nat.mod_eq_of_lt (by omega)
  show IntKind.i64.wrap ((BitVec.ofInt 64 (a : Int) ||| BitVec.ofInt 64 (b : Int)).toNat : Int) = _
  rw [BitVec.toNat_or, h1, h2]
  exact wrap_i64_small _ (by omega) (by omega)
theorem bits_and_i64_nat (a b : Nat) (ha : a < 9223372036854775808) (hb : b < 9223372036854775808) : bits .and .i64 (a : Int) (b : Int) = ((a &&& b : Nat) : Int) := by
  have hx : a &&& b < 2 ^ 63 := Nat.and_lt_two_pow _ (by omega)
  have h1 : (BitVec.ofInt 64 (a : Int)).toNat = a := by
    rw [BitVec.ofInt_natCast, BitVec.toNat_ofNat]; exact Nat.mod_eq_of_lt (by omega)
  have h2 : (BitVec.ofInt 64 (b : Int)).toNat = b := by
    rw [BitVec.ofInt_natCast, BitVec.toNat_ofNat]; exact Nat.mod_eq_of_lt (by omega)
  show IntKind.i64.wrap ((BitVec.ofInt 64 (a : Int) &&& BitVec.ofInt 64 (b : Int)).toNat : Int) = _
  rw [BitVec.toNat_and, h1, h2]
  exact wrap_i64_small _ (by omega) (by omega)

theorem low_step_i (T : List UInt8) (j : Nat) (h : j < T.length) (hT : T.length ≤ 4) :
    bits .or .i64 (wrap64 (((lowB (T.drop (j + 1)) : Nat) : Int) * 256)) (T[j].toNat : Int) = ((lowB (T.drop j) : Nat) : Int) := by
  have h1 := lowB_drop T j h
  have h2 := lowB_drop_le T j
  have h3 := T[j].toNat_lt
  have h4 := lowB_lt T
  have h5 : 256 ^ T.length ≤ 256 ^ 4 := Nat.pow_le_pow_right (by omega) hT
  rw [wrap64_small _ (by omega) (by omega)]
  have h6 := bits_or_i64_nat (lowB (T.drop (j + 1)) * 256) T[j].toNat (by omega) (by omega)
  rw [or_add_256 _ _ h3] at h6
  rw [h1, ← h6]
  rfl

set_option maxRecDepth 20000 in
set_option maxHeartbeats 1000000 in
theorem unnum_any (w : World) (B ub n : Nat) (r made : List UInt8) (told : Int) (hu : unpAt w B ub r told made) (hr : r.length ≤ 9223372036854775807) (hn : n ≤ 4) :
    Calls Tryz.prog 111 #[.pointer (some ⟨ub, 0, none⟩), .int .i64 n] w fun e w' => KeptX B ub w w' ∧
      ((n ≤ r.length ∧ e = .returned (.int .i64 (lowB (r.take n))) ∧ unpAt w' B ub (r.drop n) told made) ∨ (r.length < n ∧ e = gaveUp 1)) := by
  go_enter Tryz.func111, Tryz.ntmps111
  go_wp2_with fail
  refine (take_any w B ub n r made told hu hr).mono ?_
  rintro e w1 ⟨hk, (⟨hle, rfl, hu1⟩ | ⟨hlt, rfl⟩)⟩
  · have HK := hide hk
    have HU := hide hu1
    have HT : Hid ((r.take n).length = n) := by show _ = _; rw [List.length_take]; omega
    clear hk hu1 hu
    obtain ⟨T, HTe⟩ : ∃ T, Hid (r.take n = T) := ⟨_, hide rfl⟩
    rw [HTe.out] at HT ⊢
    go_wp2
    go_loop [6, 7] (fun v i => ∃ (k : Int) (N : Nat), -1 ≤ k ∧ k < n ∧ i = .int .i64 k ∧ v = .int .i64 N ∧ Hid (N = lowB (T.drop (k + 1).toNat))) (fun _ i => (intOf i + 1).toNat)
    case atStart => exact ⟨(n : Int) - 1, 0, by omega, by omega, rfl, rfl, by show _ = _; rw [List.drop_eq_nil_of_le (by rw [HT.out]; omega)]; rfl⟩
    case round =>
      obtain ⟨k, N, hk1, hk2, rfl, rfl, HN⟩ := hrel
      by_cases hk : 0 ≤ k
      · obtain ⟨j, rfl⟩ := Int.eq_ofNat_of_zero_le hk
        have hjl : j < T.length := by rw [HT.out]; omega
        have HD : Hid (bits .or .i64 (wrap64 ((N : Int) * 256)) (wrap64 (T[j].toNat : Int)) = ((lowB (T.drop j) : Nat) : Int)) := by
          have h8 := low_step_i T j hjl (by rw [HT.out]; exact hn)
          have hc := T[j].toNat_lt
          show _ = _
          rw [wrap64_small (T[j].toNat : Int) (by omega) (by omega), HN.out]; exact h8
        go_wp2
        go_roundw
        case rel => exact ⟨(j : Int) - 1, lowB (T.drop j), by omega, by omega, rfl, by rw [HD.out], by show _ = _; rw [show ((j : Int) - 1 + 1).toNat = j from by omega]⟩
        case measure => simp [intOf]
      · go_wp2
        go_ret
        obtain rfl : k = -1 := by omega
        exact ⟨HK.out, .inl ⟨by rw [HTe.out, HN.out]; rfl, HU.out⟩⟩
  · exact ⟨rfl, hk, .inr ⟨hlt, rfl⟩⟩

end Go.Proofs.YtmdakfmecfcbhaaGreat
