/- The unpacker's plain elements. -/
import Derived.Test.YtbnoplgfkfcadaaProg
import Derived.Test.YtbnoplgfkfcadaaKit
import Derived.Test.YtbnoplgfkfcadaaSpec
import Derived.Test.YtbnoplgfkfcadaaSpec2
import Derived.Test.YtbnoplgfkfcadaaReg
import Derived.Test.YtbnoplgfkfcadaaReg2
import Derived.Test.YtbnoplgfkfcadaaWWri
import Derived.Test.YtbnoplgfkfcadaaRdA
import Derived.Test.YtbnoplgfkfcadaaUnA
set_option linter.unusedVariables false
set_option linter.unusedSimpArgs false
namespace Go.Proofs.Ytbnoplgfkfcadaa
open Go.RowKit
attribute [local go_sem] bs_size bs_toList bs_append bs_get bs_extract

end Go.Proofs.Ytbnoplgfkfcadaa
