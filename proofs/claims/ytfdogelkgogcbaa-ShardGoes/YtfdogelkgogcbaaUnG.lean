/- Unpack. -/
import Derived.Test.YtfdogelkgogcbaaProg
import Derived.Test.YtfdogelkgogcbaaKit
import Derived.Test.YtfdogelkgogcbaaSpec
import Derived.Test.YtfdogelkgogcbaaSpec2
import Derived.Test.YtfdogelkgogcbaaReg
import Derived.Test.YtfdogelkgogcbaaWNum
import Derived.Test.YtfdogelkgogcbaaWWri
import Derived.Test.YtfdogelkgogcbaaRowK
import Derived.Test.YtfdogelkgogcbaaUnA
import Derived.Test.YtfdogelkgogcbaaUnF
set_option linter.unusedVariables false
set_option linter.unusedSimpArgs false
namespace Go.Proofs.Ytfdogelkgogcbaa
open Go.RowKit
attribute [local go_sem] bs_size bs_toList bs_append bs_get bs_extract

/-- What Unpack answers: an error (0 is none) and a text. -/
def unpackB (s : List UInt8) (most : Int) : Int × List UInt8 :=
  if most < 0 ∨ 20000 < most then (3, [])
  else
    match cutNum s with
    | none => (1, [])
    | some (n, r) =>
      if most < n then (2, [])
      else
        match unpB n r [] with
        | none => (1, [])
        | some m => (0, m)

end Go.Proofs.Ytfdogelkgogcbaa
