/- 1 texts in one. -/
import Derived.Test.YtmdakfmecfcbhaaGreatProg
import Derived.Test.YtmdakfmecfcbhaaGreatK7e06493
import Derived.Test.YtmdakfmecfcbhaaGreatK85cc7d6
import Derived.Test.YtmdakfmecfcbhaaGreatK6ada7ca
import Derived.Test.YtmdakfmecfcbhaaGreatK0d2d33e
import Derived.Test.YtmdakfmecfcbhaaGreatK2303fdd
import Derived.Test.YtmdakfmecfcbhaaGreatKa0be031
set_option linter.unusedVariables false
set_option linter.unusedSimpArgs false
namespace Go.Proofs.YtmdakfmecfcbhaaGreat.Lb
open Go.RowKit
attribute [local go_sem] bs_size bs_toList bs_append bs_get bs_extract
set_option maxHeartbeats 400000 in
theorem clone_any (s : List UInt8) (w : World) (hs : s.length ≤ 1000) : Calls Tryz.prog 104 #[.string (bs s)] w fun e w' => e = .returned (.string (bs s)) ∧ Below w.heap.size w w' := by
  have hc := Tryz.stringslite_Clone (bs s) w (by rw [bs_size]; omega)
  have HC := hide hc
  clear hc
  go_enter Tryz.func104, Tryz.ntmps104
  go_wp2_with (go_at_call 119; refine HC.out.mono ?_; rintro e w' ⟨rfl, hb⟩)
  go_ret
  exact ⟨rfl, hb⟩
end Go.Proofs.YtmdakfmecfcbhaaGreat.Lb
