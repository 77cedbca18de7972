/- 1 texts in one. -/
import Derived.Laws.OwnMore
import Derived.Test.YtndpjdmfkhjiiaaGreatDoorProg
import Derived.Test.YtndpjdmfkhjiiaaGreatDoorK97fdc06
import Derived.Test.YtndpjdmfkhjiiaaGreatDoorK395e834
import Derived.Test.YtndpjdmfkhjiiaaGreatDoorKb1eef0b
import Derived.Test.YtndpjdmfkhjiiaaGreatDoorK4291658
import Derived.BigFrame
import Derived.BigRegion
set_option linter.unusedVariables false
set_option linter.unusedSimpArgs false
namespace Go.Proofs.YtndpjdmfkhjiiaaGreatDoor.Rl
open Go.RowKit Lb
attribute [local go_sem] bs_size bs_toList bs_append bs_get bs_extract
theorem readsLim.keep {w w' : World} {B : Nat} {v : Value} {l : List Nat} (h : readsLim w B v l) (g : Below B w w') : readsLim w' B v l := by
  obtain ⟨ao, cp, hv, hc, h⟩ := h
  refine ⟨ao, cp, hv, hc, fun i hi => ?_⟩
  obtain ⟨b, o, e, hb, h1⟩ := h i hi
  exact ⟨b, o, e, hb, (g.cell (p := ⟨b, _, none⟩) hb).trans h1⟩
theorem readsLim.more {w : World} {B B' : Nat} {v : Value} {l : List Nat} (h : readsLim w B v l) (hB : B ≤ B') : readsLim w B' v l := by
  obtain ⟨ao, cp, hv, hc, h⟩ := h
  refine ⟨ao, cp, hv, hc, fun i hi => ?_⟩
  obtain ⟨b, o, e, hb, h1⟩ := h i hi
  exact ⟨b, o, e, by omega, h1⟩
end Go.Proofs.YtndpjdmfkhjiiaaGreatDoor.Rl
