/- 1 texts in one. -/
import Derived.Test.YtkaeogldielkfaaGreatProg
import Derived.Test.YtkaeogldielkfaaGreatK5674b3b
import Derived.Test.YtkaeogldielkfaaGreatK153615f
import Derived.Test.YtkaeogldielkfaaGreatKd04ee6c
import Derived.Test.YtkaeogldielkfaaGreatKcda6e61
import Derived.BigQuiet
set_option linter.unusedVariables false
set_option linter.unusedSimpArgs false
namespace Go.Proofs.YtkaeogldielkfaaGreat.Lg
open Go.RowKit
attribute [local go_sem] bs_size bs_toList bs_append bs_get bs_extract
/-- A number chosen below another one. -/
def chooseN (c : Int) (n : Nat) : Nat := ((if c < 0 then -(c + 1) else c).toNat) % n
theorem choose_any (c : Int) (n : Nat) (w : World) (hn : 0 < n) (hn2 : n ≤ 9223372036854775807) (h1 : -9223372036854775808 ≤ c) (h2 : c ≤ 9223372036854775807) :
    Calls Tryz.prog 19 #[.int .i64 c, .int .i64 n] w fun e w' => e = .returned (.int .i64 (chooseN c n)) ∧ w' = w := by
  by_cases hc : c < 0
  · obtain ⟨m, hm⟩ : ∃ m : Nat, -(c + 1) = m := Int.eq_ofNat_of_zero_le (by omega)
    have HQ : Hid ((chooseN c n : Int) = (m : Int) % n) := hide (by unfold chooseN; rw [if_pos hc, hm]; simp)
    have hne : ((n : Int) == 0) = false := by rw [beq_eq_false_iff_ne]; omega
    go_enter Tryz.func19, Tryz.ntmps19
    go_wp2
    go_ret
    exact ⟨ret_int HQ.out.symm, rfl⟩
  · obtain ⟨m, rfl⟩ : ∃ m : Nat, c = m := Int.eq_ofNat_of_zero_le (by omega)
    have HQ : Hid ((chooseN (m : Int) n : Int) = (m : Int) % n) := hide (by unfold chooseN; rw [if_neg hc]; simp)
    have hne : ((n : Int) == 0) = false := by rw [beq_eq_false_iff_ne]; omega
    go_enter Tryz.func19, Tryz.ntmps19
    go_wp2
    go_ret
    exact ⟨ret_int HQ.out.symm, rfl⟩
end Go.Proofs.YtkaeogldielkfaaGreat.Lg
