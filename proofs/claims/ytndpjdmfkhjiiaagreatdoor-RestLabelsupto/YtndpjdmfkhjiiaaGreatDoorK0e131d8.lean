/- 1 texts in one. -/
import Derived.Laws.OwnMore
import Derived.Test.YtndpjdmfkhjiiaaGreatDoorProg
import Derived.Test.YtndpjdmfkhjiiaaGreatDoorK97fdc06
import Derived.Test.YtndpjdmfkhjiiaaGreatDoorKbff346a
import Derived.Test.YtndpjdmfkhjiiaaGreatDoorK395e834
import Derived.Test.YtndpjdmfkhjiiaaGreatDoorK1f74ead
import Derived.Test.YtndpjdmfkhjiiaaGreatDoorKac5e9b6
import Derived.Test.YtndpjdmfkhjiiaaGreatDoorKbd7ef7d
import Derived.Test.YtndpjdmfkhjiiaaGreatDoorKbc2f978
import Derived.Test.YtndpjdmfkhjiiaaGreatDoorK2a70092
import Derived.Test.YtndpjdmfkhjiiaaGreatDoorKb1eef0b
import Derived.Test.YtndpjdmfkhjiiaaGreatDoorKa2d19b0
import Derived.Test.YtndpjdmfkhjiiaaGreatDoorKdd2361c
import Derived.Test.YtndpjdmfkhjiiaaGreatDoorKb8b36ab
import Derived.Test.YtndpjdmfkhjiiaaGreatDoorK36433a5
import Derived.Test.YtndpjdmfkhjiiaaGreatDoorK6994baa
import Derived.BigQuiet
import Derived.Test.YtndpjdmfkhjiiaaGreatDoorKea5d2ac
import Derived.Test.YtndpjdmfkhjiiaaGreatDoorK5594c48
import Derived.Test.YtndpjdmfkhjiiaaGreatDoorK0936bd7
import Derived.RegionTactic
import Derived.ChangeAlike
import Derived.BigRegion
set_option linter.unusedVariables false
set_option linter.unusedSimpArgs false
namespace Go.Proofs.YtndpjdmfkhjiiaaGreatDoor
open Go.RowKit
attribute [local go_sem] bs_size bs_toList bs_append bs_get bs_extract
/-- While a walker is made. -/
def fitJ (W : World) (lb : Nat) (t : List UInt8) (N n : Nat) (b11 b14 b17 b19 : Bool) (v11 v14 v17 v19 : Value) (w' : World) : Prop :=
  Grow W w' ∧ (b11 = true → ∃ q, v11 = .slice (some ⟨q, 0, none⟩) N N ∧ W.heap.size ≤ q ∧ boolsAt w' q (List.replicate N false)) ∧
    (b14 = true → ∃ q, v14 = .slice (some ⟨q, 0, none⟩) n n ∧ W.heap.size ≤ q ∧ marksAt w' q (List.replicate n 0)) ∧
    (b17 = true → ∃ q, v17 = .slice (some ⟨q, 0, none⟩) n n ∧ W.heap.size ≤ q ∧ marksAt w' q (List.replicate n 0)) ∧
    (b14 = true → b17 = true → v14 ≠ v17) ∧
    (b19 = true → ∃ wb, v19 = .pointer (some ⟨wb, 0, none⟩) ∧ W.heap.size ≤ wb ∧ w'.heap[wb]? = some (.cells #[.pointer (some ⟨lb, 0, none⟩), .string (bs t), v11, v14, v17] 125 (0, 0)))
section
variable {W : World} {lb : Nat} {t : List UInt8} {N n : Nat} {b11 b14 b17 : Bool} {v11 v14 v17 v19 : Value} {w' w'' : World}
theorem fitJ.more {b19 : Bool} (h : fitJ W lb t N n b11 b14 b17 b19 v11 v14 v17 v19 w') (g : Grow w' w'') : fitJ W lb t N n b11 b14 b17 b19 v11 v14 v17 v19 w'' := by
  obtain ⟨h1, h2, h3, h4, h5, h6⟩ := h
  refine ⟨h1.trans g, fun e => ?_, fun e => ?_, fun e => ?_, h5, fun e => ?_⟩
  · obtain ⟨q, a, b, c⟩ := h2 e; exact ⟨q, a, b, g.get c⟩
  · obtain ⟨q, a, b, c⟩ := h3 e; exact ⟨q, a, b, g.get c⟩
  · obtain ⟨q, a, b, c⟩ := h4 e; exact ⟨q, a, b, g.get c⟩
  · obtain ⟨q, a, b, c⟩ := h6 e; exact ⟨q, a, b, g.get c⟩
end
end Go.Proofs.YtndpjdmfkhjiiaaGreatDoor
