/- Guarded operations of a region that draws its order. -/
import Derived.Test.YtnlkfehnmijimaaProg
import Derived.Test.YtnlkfehnmijimaaKit
import Derived.Test.YtnlkfehnmijimaaReg
set_option linter.unusedVariables false
set_option linter.unusedSimpArgs false
namespace Go.Proofs.Ytnlkfehnmijimaa.Rc
open Go.RowKit

/-- Whether a guarded operation is wanted. -/
theorem gwanted {ops : Array Oper} {a : Act} {o : Oper} {i g : Nat} {bb : Bool} (ho : ops[i]? = some o) (hg : (ops[i]?).bind (·.guard) = some (g, bb)) (hs : slotOf ops a g = .bool bb) : Region.wanted o (yielded ops a.tmps) = true := by
  rw [ho] at hg
  have hg : o.guard = some (g, bb) := hg
  unfold slotOf at hs
  cases hd : dstOf ops g with
  | none => rw [hd] at hs; simp [undef] at hs
  | some d =>
    rw [hd] at hs
    simp only at hs
    have : a.tmps[d]? = some (.bool bb) := by
      cases h : a.tmps[d]? with
      | none => simp [Array.getD_eq_getD_getElem?, h, undef] at hs
      | some v => simp [Array.getD_eq_getD_getElem?, h] at hs; rw [hs]
    have hy : yielded ops a.tmps g = some bb := by
      have hd' : (ops[g]?).bind (·.dst) = some d := hd
      simp [yielded, hd', this]
    simp [Region.wanted, hg, hy]
end Go.Proofs.Ytnlkfehnmijimaa.Rc
