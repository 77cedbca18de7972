/- find: what two lists that rise have alone, and both: the mathematics of parted. -/
import Derived.Test.YtdlmgkncneifaaaGreatLSpec
import Derived.Test.YtdlmgkncneifaaaGreatLCmp
import Derived.Test.YtdlmgkncneifaaaGreatFdA
set_option linter.unusedVariables false
set_option linter.unusedSimpArgs false
namespace Go.Proofs.YtdlmgkncneifaaaGreat.Fd
open Go.RowKit Lb

/-- What the first has alone, what both have, what the second has alone. -/
def partT : List Tgt → List Tgt → List Tgt × List Tgt × List Tgt
  | [], b => ([], [], b)
  | x :: a, [] => (x :: a, [], [])
  | x :: a, y :: b =>
    if ordB x y < 0 then (x :: (partT a (y :: b)).1, (partT a (y :: b)).2.1, (partT a (y :: b)).2.2)
    else if 0 < ordB x y then ((partT (x :: a) b).1, (partT (x :: a) b).2.1, y :: (partT (x :: a) b).2.2)
    else ((partT a b).1, x :: (partT a b).2.1, (partT a b).2.2)
  termination_by a b => a.length + b.length
theorem part_nil (a : List Tgt) : partT a [] = (a, [], []) := by
  cases a with
  | nil => rw [partT]
  | cons x a => rw [partT]
theorem part_len (a b : List Tgt) : (partT a b).1.length + (partT a b).2.1.length = a.length ∧ (partT a b).2.2.length + (partT a b).2.1.length = b.length := by
  fun_induction partT a b with
  | case1 b => simp
  | case2 x a => simp
  | case3 x a y b h ih => simp only [List.length_cons] at *; omega
  | case4 x a y b h h2 ih => simp only [List.length_cons] at *; omega
  | case5 x a y b h h2 ih => simp only [List.length_cons] at *; omega
theorem part_self (a : List Tgt) : partT a a = ([], a, []) := by
  induction a with
  | nil => rw [partT]
  | cons x a ih =>
    have h : ordB x x = 0 := ordB_zero.2 rfl
    rw [partT, if_neg (by omega), if_neg (by omega), ih]
theorem part_turn (a b : List Tgt) : partT b a = ((partT a b).2.2, (partT a b).2.1, (partT a b).1) := by
  fun_induction partT a b with
  | case1 b => rw [part_nil]
  | case2 x a => rw [partT]
  | case3 x a y b h ih =>
    have h2 := ordB_neg x y
    rw [partT, if_neg (by omega), if_pos (by omega), ih]
  | case4 x a y b h h2 ih =>
    have h3 := ordB_neg x y
    rw [partT, if_pos (by omega), ih]
  | case5 x a y b h h2 ih =>
    have h3 := ordB_neg x y
    have h4 : x = y := ordB_zero.1 (by omega)
    rw [partT, if_neg (by omega), if_neg (by omega), ih, h4]
end Go.Proofs.YtdlmgkncneifaaaGreat.Fd
