/- readSample$1, readSample. -/
import Derived.Test.YtfdogelkgogcbaaProg
import Derived.Test.YtfdogelkgogcbaaKit
import Derived.Test.YtfdogelkgogcbaaSpec
import Derived.Test.YtfdogelkgogcbaaSpec2
import Derived.Test.YtfdogelkgogcbaaReg
import Derived.Test.YtfdogelkgogcbaaWSer
import Derived.Test.YtfdogelkgogcbaaRdA
import Derived.Test.YtfdogelkgogcbaaRdB
import Derived.Test.YtfdogelkgogcbaaRdC
set_option linter.unusedVariables false
set_option linter.unusedSimpArgs false
namespace Go.Proofs.Ytfdogelkgogcbaa
open Go.RowKit
attribute [local go_sem] bs_size bs_toList bs_append bs_get bs_extract

/-- A number from 0 on as a time. -/
def sgn (n : Nat) : Int := if n % 18446744073709551616 < 9223372036854775808 then ((n % 18446744073709551616 : Nat) : Int) else ((n % 18446744073709551616 : Nat) : Int) - 18446744073709551616
theorem sgn_wrap (n : Nat) : IntKind.i64.wrap ((n : Nat) : Int) = sgn n := by
  rw [IntKind.wrap_i64, sgn]; split <;> omega
/-- What a sample's fields tell: the last of each. -/
def samStep (x : Sam) (f : Fld) : Sam := if f.1 = 9 then (x.1, f.2.1) else if f.1 = 16 then (sgn f.2.1, x.2) else x
def samOf (l : List Fld) : Sam := l.foldl samStep (0, 0)
theorem samOf_snoc (d : List Fld) (f : Fld) : samOf (d ++ [f]) = samStep (samOf d) f := by simp [samOf]
theorem samOf_nil : samOf [] = (0, 0) := rfl

/-- A sample's text tells one. -/
def samRead (s : List UInt8) : Option Sam := if (fields s).2 = true then some (samOf (fields s).1) else none

end Go.Proofs.Ytfdogelkgogcbaa
