/- 1 texts in one. -/
import Derived.Test.YtkaeogldielkfaaGreatProg
import Derived.ProofKit
import Derived.Deep.Slices
set_option linter.unusedVariables false
set_option linter.unusedSimpArgs false
namespace Go.Proofs.YtkaeogldielkfaaGreat
open Go.RowKit Go.ChangeShapes Go.WideShapes
theorem trodAll_eq {H : Type} {enc : TypeId × Value → H} {P : Program} {w : World} {base : Nat} {spare : Nat → Bool} {held : Bool} {ts : List TypeId} {vs : List Value} {ds : List (DataW H)} {p q : List MemPlace} (h : DataW.TrodAll enc P w base spare held ts vs ds p) (e : p = q) : DataW.TrodAll enc P w base spare held ts vs ds q := e ▸ h
end Go.Proofs.YtkaeogldielkfaaGreat
