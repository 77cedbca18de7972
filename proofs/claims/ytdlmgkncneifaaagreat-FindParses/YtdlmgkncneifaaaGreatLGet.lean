/- labels: Get. -/
import Derived.Test.YtdlmgkncneifaaaGreatProg
import Derived.Test.YtdlmgkncneifaaaGreatKit
import Derived.Test.YtdlmgkncneifaaaGreatLSpec
import Derived.Test.YtdlmgkncneifaaaGreatReg
import Derived.Test.YtdlmgkncneifaaaGreatLRow
import Derived.Test.YtdlmgkncneifaaaGreatLChk
import Derived.Test.YtdlmgkncneifaaaGreatLTwi
import Derived.Test.YtdlmgkncneifaaaGreatShelf
set_option linter.unusedVariables false
set_option linter.unusedSimpArgs false
namespace Go.Proofs.YtdlmgkncneifaaaGreat.Lb
open Go.RowKit
attribute [local go_sem] bs_size bs_toList bs_append bs_get bs_extract

set_option maxHeartbeats 400000 in
theorem clone_any (s : List UInt8) (w : World) (hs : s.length ≤ 1000) : Calls Tryz.prog 75 #[.string (bs s)] w fun e w' => e = .returned (.string (bs s)) ∧ Below w.heap.size w w' := by
  have hc := Tryz.stringslite_Clone (bs s) w (by rw [bs_size]; omega)
  have HC := hide hc
  clear hc
  go_enter Tryz.func75, Tryz.ntmps75
  go_wp2_with (go_at_call 99; refine HC.out.mono ?_; rintro e w' ⟨rfl, hb⟩)
  go_ret
  exact ⟨rfl, hb⟩

theorem getAns_ok {l : List Lab} {n : List UInt8} (h : getErr l n = 0) : getAns l n = valueB l n := by unfold getAns; rw [if_pos h]
theorem getAns_no {l : List Lab} {n : List UInt8} (h : getErr l n ≠ 0) : getAns l n = [] := by unfold getAns; rw [if_neg h]

end Go.Proofs.YtdlmgkncneifaaaGreat.Lb
