/- 1 texts in one. -/
import Derived.Test.YtndpjdmfkhjiiaaGreatDoorProg
import Derived.Test.YtndpjdmfkhjiiaaGreatDoorK97fdc06
import Derived.Test.YtndpjdmfkhjiiaaGreatDoorKbff346a
import Derived.Test.YtndpjdmfkhjiiaaGreatDoorK309f1d1
import Derived.Test.YtndpjdmfkhjiiaaGreatDoorK9cc7e09
import Derived.BigQuiet
import Derived.Deep.RegionHeld3
set_option linter.unusedVariables false
set_option linter.unusedSimpArgs false
namespace Go.Proofs.YtndpjdmfkhjiiaaGreatDoor.Lb
open Go.RowKit
attribute [local go_sem] bs_size bs_toList bs_append bs_get bs_extract
/-- A label laid for an append. -/
theorem news_new (wr : World) (x : Lab) : ∀ j u, (labCells [x])[j]? = some u → (wr.alloc (.cells #[.string (bs x.1), .string (bs x.2)] 39)).cell? ((⟨wr.heap.size, 0, none⟩ : Addr).add j) = some u :=
  World.news_of_block (heap_alloc_new wr (.cells #[.string (bs x.1), .string (bs x.2)] 39))
theorem putGo_len (n v : List UInt8) : ∀ (l : List Lab) (p : Bool), (putGo n v p l).length ≤ l.length + (if p = true then 0 else 1)
  | [], p => by cases p <;> simp [putGo]
  | x :: l, p => by
    have h1 := putGo_len n v l true
    have h2 := putGo_len n v l p
    simp only [if_true] at h1
    unfold putGo
    split
    · rename_i hc
      rw [hc.1]
      split <;> simp <;> omega
    · split <;> simp only [List.length_cons] <;> omega
theorem putB_len (l : List Lab) (n v : List UInt8) : (putB l n v).length ≤ l.length + 1 := by
  have := putGo_len n v l (decide (v = []))
  unfold putB
  split at this <;> omega
theorem foldl_len : ∀ (l out : List Lab), (l.foldl makeStep out).length ≤ out.length + l.length
  | [], out => by simp
  | x :: l, out => by
    have h := foldl_len l (makeStep out x)
    have h2 : (makeStep out x).length ≤ out.length + 1 := by
      unfold makeStep
      split
      · omega
      · exact putB_len _ _ _
    rw [List.foldl_cons, List.length_cons]
    omega
end Go.Proofs.YtndpjdmfkhjiiaaGreatDoor.Lb
