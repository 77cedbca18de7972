/- 1 texts in one. -/
import Derived.Test.YtkaeogldielkfaaGreatProg
import Derived.Test.YtkaeogldielkfaaGreatKabe2b5f
import Derived.Test.YtkaeogldielkfaaGreatKa96aaab
import Derived.Test.YtkaeogldielkfaaGreatKa7e3600
import Derived.Test.YtkaeogldielkfaaGreatK382d20d
import Derived.Test.YtkaeogldielkfaaGreatKde4a8e2
import Derived.BigQuiet
import Derived.Deep.RegionHeld3
set_option linter.unusedVariables false
set_option linter.unusedSimpArgs false
namespace Go.Proofs.YtkaeogldielkfaaGreat.Lb
open Go.RowKit
attribute [local go_sem] bs_size bs_toList bs_append bs_get bs_extract
set_option maxHeartbeats 400000 in
theorem isNaN_any (s : List UInt8) (w : World) : Calls Tryz.prog 146 #[.string (bs s)] w fun e w' => e = .returned (.bool false) ∧ w' = w := by
  go_enter Tryz.func146, Tryz.ntmps146
  go_wp2
  go_ret
  exact ⟨ret_bool (by simp), rfl⟩
set_option maxHeartbeats 1000000 in
theorem cmpString_any (x y : List UInt8) (w : World) : Calls Tryz.prog 120 #[.string (bs x), .string (bs y)] w fun e w' => e = .returned (.int .i64 (cmpStr x y)) ∧ w' = w := by
  cases h1 : Op.bytesLess x y with
  | true =>
    have HC : Hid (cmpStr x y = -1) := by show _ = _; unfold cmpStr; rw [if_pos h1]
    go_enter Tryz.func120, Tryz.ntmps120
    go_wp2_with (go_at_call 146; refine (isNaN_any _ _).mono ?_; rintro e w' ⟨rfl, rfl⟩)
    go_ret
    exact ⟨ret_int (by rw [HC.out]), rfl⟩
  | false =>
    by_cases he : x = y
    · subst he
      have HC : Hid (cmpStr x x = 0) := cmpStr_zero.2 rfl
      go_enter Tryz.func120, Tryz.ntmps120
      go_wp2_with (go_at_call 146; refine (isNaN_any _ _).mono ?_; rintro e w' ⟨rfl, rfl⟩)
      go_ret
      exact ⟨ret_int (by rw [HC.out]), rfl⟩
    · have h2 : Op.bytesLess y x = true := by
        cases h : Op.bytesLess y x with
        | true => rfl
        | false => exact absurd (bl_tri h1 h) he
      have HC : Hid (cmpStr x y = 1) := by show _ = _; unfold cmpStr; rw [if_neg (by rw [h1]; simp), if_pos h2]
      have he' : (x == y) = false := by simpa using he
      clear he h2
      go_enter Tryz.func120, Tryz.ntmps120
      go_wp2_with (go_at_call 146; refine (isNaN_any _ _).mono ?_; rintro e w' ⟨rfl, rfl⟩)
      go_ret
      exact ⟨ret_int (by rw [HC.out]), rfl⟩
end Go.Proofs.YtkaeogldielkfaaGreat.Lb
