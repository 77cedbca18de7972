/- The reference's little: some bytes as a number. -/
import Derived.Test.YtojljbgopknbcabProg
import Derived.Test.YtojljbgopknbcabKit
import Derived.Test.YtojljbgopknbcabSpec
import Derived.Test.YtojljbgopknbcabSpec2
import Derived.Test.YtojljbgopknbcabReg
import Derived.Test.YtojljbgopknbcabRdB
import Derived.Test.YtojljbgopknbcabUnB
set_option linter.unusedVariables false
set_option linter.unusedSimpArgs false
namespace Go.Proofs.Ytojljbgopknbcab
open Go.RowKit
attribute [local go_sem] bs_size bs_toList bs_append bs_get bs_extract

set_option maxRecDepth 20000 in
set_option maxHeartbeats 2000000 in
theorem little_some (w : World) (atb sb p many : Nat) (s : List UInt8) (hat : w.heap[atb]? = some (.cells #[.int .i64 p] 3 (0, 0))) (hsb : w.heap[sb]? = some (.cells #[.string (bs s)] 9 (0, 0))) (hs : s.length ≤ 140737488355328) (hm : many ≤ 4) (h : p + many ≤ s.length) :
    Calls Try.prog 30 #[.int .i64 many, .pointer (some ⟨atb, 0, none⟩), .pointer (some ⟨sb, 0, none⟩)] w fun e w' => e = .returned (.int .i64 (lowB ((s.drop p).take many))) ∧ w' = w.setCell ⟨atb, 0, none⟩ (.int .i64 ((p : Int) + many)) := by
  have c0 := cell_of_one hat
  have z0 := free_of_one hat
  have d0 := cell_of_one hsb
  obtain ⟨T, HTe⟩ : ∃ T, Hid ((s.drop p).take many = T) := ⟨_, hide rfl⟩
  have HT : Hid (T.length = many) := by show _ = _; rw [← HTe.out, List.length_take, List.length_drop]; omega
  have HG : Hid (∀ (j : Nat) (hj : j < many) (h1 : p + j < s.length), s[p + j] = T[j]'(by rw [HT.out]; exact hj)) := fun j hj h1 => by
    have : T[j]'(by rw [HT.out]; exact hj) = ((s.drop p).take many)[j]'(by rw [HTe.out, HT.out]; exact hj) := by simp only [HTe.out]
    rw [this, List.getElem_take, List.getElem_drop]
  have hno : ¬ ((s.length : Int) < (p : Int) + many) := by omega
  go_enter Try.func30, Try.ntmps30
  go_wp2
  go_loop [5, 6] (fun v i => ∃ (k : Int) (N : Nat), -1 ≤ k ∧ k < many ∧ i = .int .i64 k ∧ v = .int .i64 N ∧ Hid (N = lowB (T.drop (k + 1).toNat))) (fun _ i => (intOf i + 1).toNat)
  case atStart => exact ⟨(many : Int) - 1, 0, by omega, by omega, rfl, rfl, by show _ = _; rw [List.drop_eq_nil_of_le (by rw [HT.out]; omega)]; rfl⟩
  case round =>
    obtain ⟨k, N, hk1, hk2, rfl, rfl, HN⟩ := hrel
    by_cases hk : 0 ≤ k
    · obtain ⟨j, rfl⟩ := Int.eq_ofNat_of_zero_le hk
      have hjl : j < T.length := by rw [HT.out]; omega
      have hjs : p + j < s.length := by omega
      have HD : Hid (wrap64 (wrap64 (256 * (N : Int)) + wrap64 (s[p + j].toNat : Int)) = ((lowB (T.drop j) : Nat) : Int)) := by
        have q1 := lowB_drop T j hjl
        have q2 := lowB_drop_le T j
        have q3 := lowB_lt T
        have q4 : 256 ^ T.length ≤ 256 ^ 4 := Nat.pow_le_pow_right (by omega) (by rw [HT.out]; exact hm)
        have q5 : N = lowB (T.drop (j + 1)) := HN.out
        have q6 := T[j].toNat_lt
        show _ = _
        rw [HG.out j (by omega) hjs, wrap64_small (256 * (N : Int)) (by omega) (by omega), wrap64_small (T[j].toNat : Int) (by omega) (by omega), wrap64_small _ (by omega) (by omega)]
        omega
      go_wp2
      go_round
      case rel => exact ⟨(j : Int) - 1, lowB (T.drop j), by omega, by omega, rfl, by rw [HD.out], by show _ = _; rw [show ((j : Int) - 1 + 1).toNat = j from by omega]⟩
      case measure => simp [intOf]
    · obtain rfl : k = -1 := by omega
      go_wp2
      go_ret
      exact ⟨by rw [HTe.out, HN.out]; rfl, rfl⟩

set_option maxRecDepth 20000 in
set_option maxHeartbeats 2000000 in
theorem little_none (w : World) (atb sb p many : Nat) (s : List UInt8) (hat : w.heap[atb]? = some (.cells #[.int .i64 p] 3 (0, 0))) (hsb : w.heap[sb]? = some (.cells #[.string (bs s)] 9 (0, 0))) (hs : s.length ≤ 140737488355328) (hm : many ≤ 4) (hp : p ≤ s.length) (h : s.length < p + many) :
    Calls Try.prog 30 #[.int .i64 many, .pointer (some ⟨atb, 0, none⟩), .pointer (some ⟨sb, 0, none⟩)] w fun e w' => e = .returned (.int .i64 (-1)) ∧ w' = w := by
  have c0 := cell_of_one hat
  have d0 := cell_of_one hsb
  have hno : (s.length : Int) < (p : Int) + many := by omega
  go_enter Try.func30, Try.ntmps30
  go_wp2
  go_ret
  exact ⟨rfl, rfl⟩

end Go.Proofs.Ytojljbgopknbcab
