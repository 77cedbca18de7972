/- 1 texts in one. -/
import Derived.Test.YtndpjdmfkhjiiaaGreatDoorRows
import Derived.Test.YtndpjdmfkhjiiaaGreatDoorProg
import Derived.Test.YtndpjdmfkhjiiaaGreatDoorK06d19db
import Derived.Test.YtndpjdmfkhjiiaaGreatDoorK8c12182
import Derived.Test.YtndpjdmfkhjiiaaGreatDoorK2fdbf70
import Derived.Test.YtndpjdmfkhjiiaaGreatDoorK34decd3
import Derived.ProofKit
import Derived.Deep.Slices
import Derived.Test.YtndpjdmfkhjiiaaGreatDoorKd44d2d2
import Derived.Test.YtndpjdmfkhjiiaaGreatDoorK2456ad3
import Derived.Lib.LaidTab
import Derived.Stop.LaidErr
set_option linter.unusedVariables false
set_option linter.unusedSimpArgs false
namespace Go.Proofs.YtndpjdmfkhjiiaaGreatDoor.Rl
open Go.RowKit Go.ChangeShapes Go.WideShapes
theorem pow_tab : (Rows.laid_internal_strconv_uint64pow10 : DataW Unit) = Lib.tabData .u64 Lib.pow10Tab := by kernel_rfl
theorem gPow : Tryz.prog.globalNamed "internal/strconv.uint64pow10" = some 0 := by kernel_rfl
theorem gPowType : (Tryz.prog.globals[0]?).map (·.type) = some 205 := by kernel_rfl
theorem powCells : Tryz.prog.cellsOf 205 = 20 := by kernel_rfl
theorem oneCells : Tryz.prog.cellsOf 78 = 1 := by kernel_rfl
theorem tab_of {W : World} {a b : String × DataW Unit} (h : laidMet Tryz.prog [a, b, ("internal/strconv.uint64pow10", Rows.laid_internal_strconv_uint64pow10)] W) : tabOk W := by
 have h2 := h.tail.tail
 rw [pow_tab] at h2
 exact Lib.tabIs_of_head (rest := []) gPow gPowType Tryz.underlying205 Tryz.underlying78 oneCells powCells h2
section
variable {H : Type} {enc : TypeId × Value → H} {w : World} {spare : Nat → Bool} {held : Bool}
end
end Go.Proofs.YtndpjdmfkhjiiaaGreatDoor.Rl
