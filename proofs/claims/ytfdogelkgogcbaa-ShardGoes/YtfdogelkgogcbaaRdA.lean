/- The reader: cutNumber, cutHead, cut, lowestFirst. -/
import Derived.Test.YtfdogelkgogcbaaProg
import Derived.Test.YtfdogelkgogcbaaKit
import Derived.Test.YtfdogelkgogcbaaSpec
import Derived.Test.YtfdogelkgogcbaaSpec2
import Derived.Test.YtfdogelkgogcbaaWNum
import Derived.Test.YtfdogelkgogcbaaWWri
import Derived.Deep.QuietTactic
import Derived.BigQuiet
set_option linter.unusedVariables false
set_option linter.unusedSimpArgs false
namespace Go.Proofs.Ytfdogelkgogcbaa
open Go.RowKit
attribute [local go_sem] bs_size bs_toList bs_append bs_get bs_extract

theorem below_drewN (w : World) (n : Nat) : Below w.heap.size w (w.drewN n) := ⟨rfl, rfl, rfl, Nat.le_refl _, fun _ _ => rfl⟩
theorem take_self {l : List UInt8} {n : Nat} (h : l.length ≤ n) : l.take n = l := List.take_of_length_le h

/-- The head of a field. -/
def cutHd (l : List UInt8) : Option (Nat × List UInt8) :=
  match cutNum l with
  | none => none
  | some (h, r) => if h / 8 < 1 ∨ 536870911 < h / 8 then none else some (h, r)

end Go.Proofs.Ytfdogelkgogcbaa
