/- 1 texts in one. -/
import Derived.Laws.OwnMore
import Derived.Test.YtndpjdmfkhjiiaaGreatDoorProg
import Derived.Test.YtndpjdmfkhjiiaaGreatDoorK97fdc06
import Derived.Test.YtndpjdmfkhjiiaaGreatDoorKbff346a
import Derived.Test.YtndpjdmfkhjiiaaGreatDoorK395e834
import Derived.Test.YtndpjdmfkhjiiaaGreatDoorK1f74ead
import Derived.Test.YtndpjdmfkhjiiaaGreatDoorKac5e9b6
import Derived.Test.YtndpjdmfkhjiiaaGreatDoorKbd7ef7d
import Derived.Test.YtndpjdmfkhjiiaaGreatDoorKbc2f978
import Derived.Test.YtndpjdmfkhjiiaaGreatDoorK2a70092
import Derived.Test.YtndpjdmfkhjiiaaGreatDoorKb1eef0b
import Derived.Test.YtndpjdmfkhjiiaaGreatDoorKdd2361c
import Derived.Test.YtndpjdmfkhjiiaaGreatDoorK6994baa
import Derived.BigQuiet
import Derived.Test.YtndpjdmfkhjiiaaGreatDoorK0936bd7
import Derived.Test.YtndpjdmfkhjiiaaGreatDoorKea5d2ac
set_option linter.unusedVariables false
set_option linter.unusedSimpArgs false
namespace Go.Proofs.YtndpjdmfkhjiiaaGreatDoor
open Go.RowKit
attribute [local go_sem] bs_size bs_toList bs_append bs_get bs_extract
/-! ### how many spots -/
theorem itemAt.frame {B : Nat} {w w' : World} (k : LFrame B w w') {it : Item} {xs : List Value} (h : itemAt w (fun _ => True) it xs) : itemAt w' (fun _ => True) it xs := by
  cases it with
  | set s sg =>
    obtain ⟨b, h1, h2, h3⟩ := h
    exact ⟨b, h1, h2, h3.frame k⟩
  | grp n rows sg =>
    obtain ⟨rv, kk, ys, h1, h2, h3, h4⟩ := h
    exact ⟨rv, kk, ys, h1, own_frame h2 k (by decide) (by decide), h3, h4.frame k⟩
end Go.Proofs.YtndpjdmfkhjiiaaGreatDoor
