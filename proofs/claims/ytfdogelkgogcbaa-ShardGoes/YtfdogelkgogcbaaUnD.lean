/- The unpacker's elements of what stood there already. -/
import Derived.Test.YtfdogelkgogcbaaProg
import Derived.Test.YtfdogelkgogcbaaKit
import Derived.Test.YtfdogelkgogcbaaSpec
import Derived.Test.YtfdogelkgogcbaaSpec2
import Derived.Test.YtfdogelkgogcbaaReg
import Derived.Test.YtfdogelkgogcbaaReg2
import Derived.Test.YtfdogelkgogcbaaWWri
import Derived.Test.YtfdogelkgogcbaaRdA
import Derived.Test.YtfdogelkgogcbaaUnA
set_option linter.unusedVariables false
set_option linter.unusedSimpArgs false
namespace Go.Proofs.Ytfdogelkgogcbaa
open Go.RowKit
attribute [local go_sem] bs_size bs_toList bs_append bs_get bs_extract

/-- Bytes from back, one by one. -/
def copyB (back : Nat) : Nat → List UInt8 → List UInt8
  | 0, m => m
  | n + 1, m => copyB back n (m ++ [m.getD (m.length - back) 0])
theorem copyB_length (back : Nat) : ∀ (n : Nat) (m : List UInt8), (copyB back n m).length = m.length + n
  | 0, m => rfl
  | n + 1, m => by rw [copyB, copyB_length back n]; simp; omega
theorem copyB_snoc (back : Nat) : ∀ (n : Nat) (m : List UInt8), copyB back (n + 1) m = copyB back n m ++ [(copyB back n m).getD ((copyB back n m).length - back) 0]
  | 0, m => rfl
  | n + 1, m => by
    have := copyB_snoc back n (m ++ [m.getD (m.length - back) 0])
    rw [copyB, this]
    rfl

end Go.Proofs.Ytfdogelkgogcbaa
