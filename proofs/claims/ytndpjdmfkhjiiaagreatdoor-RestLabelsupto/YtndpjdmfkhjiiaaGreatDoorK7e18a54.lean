/- 1 texts in one. -/
import Derived.Test.YtndpjdmfkhjiiaaGreatDoorRows
import Derived.Test.YtndpjdmfkhjiiaaGreatDoorProg
import Derived.Test.YtndpjdmfkhjiiaaGreatDoorK97fdc06
import Derived.Test.YtndpjdmfkhjiiaaGreatDoorK3fb6336
import Derived.Test.YtndpjdmfkhjiiaaGreatDoorKbbbf357
import Derived.Test.YtndpjdmfkhjiiaaGreatDoorK2a1fb44
import Derived.Test.YtndpjdmfkhjiiaaGreatDoorKbfd4df7
import Derived.Lib.LaidTab
import Derived.Stop.LaidErr
import Derived.ProofKit
import Derived.Deep.Slices
set_option linter.unusedVariables false
set_option linter.unusedSimpArgs false
namespace Go.Proofs.YtndpjdmfkhjiiaaGreatDoor.Rl
open Go.RowKit Go.ChangeShapes Go.WideShapes
theorem pow_tab : (Rows.laid_internal_strconv_uint64pow10 : DataW Unit) = Lib.tabData .u64 Lib.pow10Tab := by kernel_rfl
theorem gPow : Tryz.prog.globalNamed "internal/strconv.uint64pow10" = some 0 := by kernel_rfl
theorem gPowType : (Tryz.prog.globals[0]?).map (·.type) = some 205 := by kernel_rfl
theorem powCells : Tryz.prog.cellsOf 205 = 20 := by kernel_rfl
theorem oneCells : Tryz.prog.cellsOf 78 = 1 := by kernel_rfl
/-- The table of powers, out of the row's list. -/
theorem tab_of {W : World} {a b : String × DataW Unit} (h : laidMet Tryz.prog [a, b, ("internal/strconv.uint64pow10", Rows.laid_internal_strconv_uint64pow10)] W) : tabOk W := by
  have h2 := h.tail.tail
  rw [pow_tab] at h2
  exact Lib.tabIs_of_head (rest := []) gPow gPowType Tryz.underlying205 Tryz.underlying78 oneCells powCells h2
section
variable {H : Type} {enc : TypeId × Value → H} {w : World} {spare : Nat → Bool} {held : Bool}
set_option maxRecDepth 20000 in
theorem open_rulesU {fuel : Nat} {v : Value} {x : DataW H × List MemPlace} (h : DataW.trod enc Tryz.prog w 0 spare held fuel 30 [v] = some x) :
    ∃ rs, readsRules w w.heap.size v rs ∧ rs.length ≤ Rows.uptoBulk x.1 ∧ okRs rs := by
  obtain ⟨rs, h1, _, h3⟩ := open_rules h
  refine ⟨rs, h1, ?_, h3⟩
  obtain ⟨ao, cp, e, _⟩ := h1
  rcases Go.Deep.open_slice Tryz.underlying30 h with ⟨h4, _⟩ | ⟨a, len, cap, m, n, D, Pl, h4, _, hl, hm, hmm, rfl, hx⟩
  · simp at h4
    rw [h4] at e
    simp only [Value.slice.injEq] at e
    omega
  · simp at h4
    rw [h4] at e
    simp only [Value.slice.injEq] at e
    have hb := bulk_slice ((List.range len).map D) ((List.range (m - len)).map fun j => D (len + j))
    obtain ⟨hb1, _⟩ := bulk_all ((List.range len).map D)
    rw [List.length_map, List.length_range] at hb1
    show _ ≤ Rows.uptoBulk (DataW.slice _ _)
    omega
end
end Go.Proofs.YtndpjdmfkhjiiaaGreatDoor.Rl
