/- The unpacker's element. -/
import Derived.Test.YtfdogelkgogcbaaProg
import Derived.Test.YtfdogelkgogcbaaKit
import Derived.Test.YtfdogelkgogcbaaSpec
import Derived.Test.YtfdogelkgogcbaaSpec2
import Derived.Test.YtfdogelkgogcbaaReg
import Derived.Test.YtfdogelkgogcbaaWWri
import Derived.Test.YtfdogelkgogcbaaUnA
import Derived.Test.YtfdogelkgogcbaaUnB
import Derived.Test.YtfdogelkgogcbaaUnC
import Derived.Test.YtfdogelkgogcbaaUnD
set_option linter.unusedVariables false
set_option linter.unusedSimpArgs false
namespace Go.Proofs.Ytfdogelkgogcbaa
open Go.RowKit
attribute [local go_sem] bs_size bs_toList bs_append bs_get bs_extract

/-- A number of n bytes at a beginning, and what is behind it. -/
def cutLow (n : Nat) (r : List UInt8) : Option (Nat × List UInt8) := if n ≤ r.length then some (lowB (r.take n), r.drop n) else none
def plainB (told n : Nat) (r made : List UInt8) : Option (List UInt8 × List UInt8) := if n + made.length ≤ told ∧ n ≤ r.length then some (r.drop n, made ++ r.take n) else none
def againB (told n back : Nat) (r made : List UInt8) : Option (List UInt8 × List UInt8) := if n + made.length ≤ told ∧ 1 ≤ back ∧ back ≤ made.length then some (r, copyB back n made) else none
/-- An element: what is left behind it, and what is made with it. -/
def elemB (told : Nat) (r made : List UInt8) : Option (List UInt8 × List UInt8) :=
  match cutLow 1 r with
  | none => none
  | some (h, r1) =>
    if h % 4 = 0 then
      if 60 ≤ h / 4 then
        match cutLow (h / 4 - 59) r1 with
        | none => none
        | some (m, r2) => plainB told (m + 1) r2 made
      else plainB told (h / 4 + 1) r1 made
    else if h % 4 = 1 then
      match cutLow 1 r1 with
      | none => none
      | some (b, r2) => againB told (h / 4 % 8 + 4) (h / 32 * 256 + b) r2 made
    else if h % 4 = 2 then
      match cutLow 2 r1 with
      | none => none
      | some (b, r2) => againB told (h / 4 + 1) b r2 made
    else
      match cutLow 4 r1 with
      | none => none
      | some (b, r2) => againB told (h / 4 + 1) b r2 made

theorem cutLow_some {n m : Nat} {r r' : List UInt8} (h : cutLow n r = some (m, r')) : n ≤ r.length ∧ m = lowB (r.take n) ∧ r' = r.drop n ∧ m < 256 ^ n ∧ r'.length + n = r.length := by
  unfold cutLow at h
  split at h
  · rename_i hn
    simp at h
    obtain ⟨rfl, rfl⟩ := h
    have := lowB_lt (r.take n)
    rw [List.length_take, Nat.min_eq_left hn] at this
    exact ⟨hn, rfl, rfl, this, by rw [List.length_drop]; omega⟩
  · simp at h

theorem and3_i (h : Nat) (hh : h < 256) : bits .and .i64 (h : Int) 3 = ((h % 4 : Nat) : Int) := by
  rw [show (3 : Int) = ((3 : Nat) : Int) from rfl, bits_and_i64_nat h 3 (by omega) (by omega)]
  congr 1
  exact Nat.and_two_pow_sub_one_eq_mod h 2
theorem and7_i (h : Nat) (hh : h < 256) : bits .and .i64 (h : Int) 7 = ((h % 8 : Nat) : Int) := by
  rw [show (7 : Int) = ((7 : Nat) : Int) from rfl, bits_and_i64_nat h 7 (by omega) (by omega)]
  congr 1
  exact Nat.and_two_pow_sub_one_eq_mod h 3

end Go.Proofs.Ytfdogelkgogcbaa
