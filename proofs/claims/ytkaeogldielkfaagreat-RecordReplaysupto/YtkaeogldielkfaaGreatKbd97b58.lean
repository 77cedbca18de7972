/- 1 texts in one. -/
import Derived.Test.YtkaeogldielkfaaGreatRows
import Derived.Test.YtkaeogldielkfaaGreatProg
import Derived.Test.YtkaeogldielkfaaGreatKabe2b5f
import Derived.ProofKit
set_option linter.unusedVariables false
set_option linter.unusedSimpArgs false
namespace Go.Proofs.YtkaeogldielkfaaGreat.Rc
open Go.RowKit Go.ChangeShapes Go.WideShapes
theorem bulk_text {H : Type} (l : List UInt8) : Rows.uptoBulk (DataW.lit (H := H) (.string l)) = l.length + 1 := by unfold Rows.uptoBulk; rfl
/-- The bound, as it is handed over. -/
theorem bulk_bound {H : Type} {l : List (DataW H)} (h : Rows.uptoSmall H l = true) : Rows.uptoBulkAll l ≤ 1048576 := of_decide_eq_true h
end Go.Proofs.YtkaeogldielkfaaGreat.Rc
