/- labels: cmp.Compare, cmp.Or, Compare$1, slices.CompareFunc, checkLists, Compare. -/
import Derived.Test.YtfdogelkgogcbaaProg
import Derived.Test.YtfdogelkgogcbaaKit
import Derived.Test.YtfdogelkgogcbaaLSpec
import Derived.Test.YtfdogelkgogcbaaReg
import Derived.Test.YtfdogelkgogcbaaLRow
import Derived.Test.YtfdogelkgogcbaaLChk
import Derived.Test.YtfdogelkgogcbaaLTwi
import Derived.Test.YtfdogelkgogcbaaLRefB
import Derived.BigQuiet
import Derived.Deep.RegionHeld3
set_option linter.unusedVariables false
set_option linter.unusedSimpArgs false
namespace Go.Proofs.Ytfdogelkgogcbaa.Lb
open Go.RowKit
attribute [local go_sem] bs_size bs_toList bs_append bs_get bs_extract

set_option maxHeartbeats 400000 in
theorem isNaN_any (s : List UInt8) (w : World) : Calls Try.prog 80 #[.string (bs s)] w fun e w' => e = .returned (.bool false) ∧ w' = w := by
  go_enter Try.func80, Try.ntmps80
  go_wp2
  go_ret
  exact ⟨ret_bool (by simp), rfl⟩

set_option maxHeartbeats 1000000 in
theorem cmpString_any (x y : List UInt8) (w : World) : Calls Try.prog 65 #[.string (bs x), .string (bs y)] w fun e w' => e = .returned (.int .i64 (cmpStr x y)) ∧ w' = w := by
  cases h1 : Op.bytesLess x y with
  | true =>
    have HC : Hid (cmpStr x y = -1) := by show _ = _; unfold cmpStr; rw [if_pos h1]
    go_enter Try.func65, Try.ntmps65
    go_wp2_with (go_at_call 80; refine (isNaN_any _ _).mono ?_; rintro e w' ⟨rfl, rfl⟩)
    go_ret
    exact ⟨ret_int (by rw [HC.out]), rfl⟩
  | false =>
    by_cases he : x = y
    · subst he
      have HC : Hid (cmpStr x x = 0) := cmpStr_zero.2 rfl
      go_enter Try.func65, Try.ntmps65
      go_wp2_with (go_at_call 80; refine (isNaN_any _ _).mono ?_; rintro e w' ⟨rfl, rfl⟩)
      go_ret
      exact ⟨ret_int (by rw [HC.out]), rfl⟩
    · have h2 : Op.bytesLess y x = true := by
        cases h : Op.bytesLess y x with
        | true => rfl
        | false => exact absurd (bl_tri h1 h) he
      have HC : Hid (cmpStr x y = 1) := by show _ = _; unfold cmpStr; rw [if_neg (by rw [h1]; simp), if_pos h2]
      have he' : (x == y) = false := by simpa using he
      clear he h2
      go_enter Try.func65, Try.ntmps65
      go_wp2_with (go_at_call 80; refine (isNaN_any _ _).mono ?_; rintro e w' ⟨rfl, rfl⟩)
      go_ret
      exact ⟨ret_int (by rw [HC.out]), rfl⟩

def orInt (x y : Int) : Int := if x = 0 then y else x
theorem orInt_zero (y : Int) : orInt 0 y = y := by unfold orInt; rw [if_pos rfl]
theorem orInt_ne {x : Int} (y : Int) (h : x ≠ 0) : orInt x y = x := by unfold orInt; rw [if_neg h]

theorem cmpLab_or (x y : Lab) : cmpLab x y = orInt (cmpStr x.1 y.1) (cmpStr x.2 y.2) := by
  unfold cmpLab orInt
  by_cases h : x.1 = y.1
  · rw [if_pos h, if_pos (cmpStr_zero.2 h)]
  · rw [if_neg h, if_neg (fun e => h (cmpStr_zero.1 e))]

theorem cmpErr_a {a b : List Lab} (h : checkB a ≠ 0) : cmpErr a b = checkB a := by unfold cmpErr; rw [if_neg h]
theorem cmpErr_b {a b : List Lab} (h : checkB a = 0) : cmpErr a b = checkB b := by unfold cmpErr; rw [if_pos h]

theorem cmpErr_zero {a b : List Lab} : cmpErr a b = 0 ↔ checkB a = 0 ∧ checkB b = 0 := by
  unfold cmpErr
  by_cases h : checkB a = 0
  · rw [if_pos h]; simp [h]
  · rw [if_neg h]; simp [h]
theorem cmpAns_ok {a b : List Lab} (h : cmpErr a b = 0) : cmpAns a b = ordB a b := by unfold cmpAns; rw [if_pos h]
theorem cmpAns_no {a b : List Lab} (h : cmpErr a b ≠ 0) : cmpAns a b = 0 := by unfold cmpAns; rw [if_neg h]

end Go.Proofs.Ytfdogelkgogcbaa.Lb
