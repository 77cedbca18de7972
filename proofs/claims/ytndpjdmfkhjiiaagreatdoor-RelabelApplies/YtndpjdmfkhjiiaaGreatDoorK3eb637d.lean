/- 1 texts in one. -/
import Derived.Test.YtndpjdmfkhjiiaaGreatDoorProg
import Derived.Test.YtndpjdmfkhjiiaaGreatDoorK06d19db
set_option linter.unusedVariables false
set_option linter.unusedSimpArgs false
namespace Go.Proofs.YtndpjdmfkhjiiaaGreatDoor.Rl
open Go.RowKit
attribute [local go_sem] bs_size bs_toList bs_append bs_get bs_extract
set_option maxHeartbeats 1000000 in
theorem rCut_any (s : List UInt8) (n : Nat) (w : World) (hs : s.length ≤ 9223372036854775807) (hn : n ≤ 9223372036854775807) : Calls Tryz.prog 43 #[.string (bs s), .int .i64 n] w fun e w' => e = .returned (.string (bs (s.take n))) ∧ w' = w := by
 by_cases h : n < s.length
 ·
  have h1 : (n : Int) < s.length := by omega
  go_enter Tryz.func43, Tryz.ntmps43
  go_wp2
  go_ret
  refine ⟨?_, rfl⟩
  simp
 ·
  have h1 : ¬ (n : Int) < s.length := by omega
  rw [List.take_of_length_le (by omega)]
  go_enter Tryz.func43, Tryz.ntmps43
  go_wp2
  go_ret
  exact ⟨rfl, rfl⟩
end Go.Proofs.YtndpjdmfkhjiiaaGreatDoor.Rl
