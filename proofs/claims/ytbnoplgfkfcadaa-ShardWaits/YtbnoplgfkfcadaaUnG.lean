/- Unpack. -/
import Derived.Test.YtbnoplgfkfcadaaProg
import Derived.Test.YtbnoplgfkfcadaaKit
import Derived.Test.YtbnoplgfkfcadaaSpec
import Derived.Test.YtbnoplgfkfcadaaSpec2
import Derived.Test.YtbnoplgfkfcadaaReg
import Derived.Test.YtbnoplgfkfcadaaWNum
import Derived.Test.YtbnoplgfkfcadaaWWri
import Derived.Test.YtbnoplgfkfcadaaRowK
import Derived.Test.YtbnoplgfkfcadaaUnA
import Derived.Test.YtbnoplgfkfcadaaUnF
set_option linter.unusedVariables false
set_option linter.unusedSimpArgs false
namespace Go.Proofs.Ytbnoplgfkfcadaa
open Go.RowKit
attribute [local go_sem] bs_size bs_toList bs_append bs_get bs_extract

/-- What Unpack answers: an error (0 is none) and a text. -/
def unpackB (s : List UInt8) (most : Int) : Int × List UInt8 :=
  if most < 0 ∨ 20000 < most then (3, [])
  else
    match cutNum s with
    | none => (1, [])
    | some (n, r) =>
      if most < n then (2, [])
      else
        match unpB n r [] with
        | none => (1, [])
        | some m => (0, m)

end Go.Proofs.Ytbnoplgfkfcadaa
