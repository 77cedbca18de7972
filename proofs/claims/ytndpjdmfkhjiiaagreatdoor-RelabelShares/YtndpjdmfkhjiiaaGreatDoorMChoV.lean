/- Which of so many is chosen: the statements' own helper. -/
import Derived.Test.YtndpjdmfkhjiiaaGreatDoorProg
import Derived.Test.YtndpjdmfkhjiiaaGreatDoorQ74d152
import Derived.Test.YtndpjdmfkhjiiaaGreatDoorQ082284
import Derived.BigQuiet
set_option linter.unusedVariables false
set_option linter.unusedSimpArgs false
namespace Go.Proofs.YtndpjdmfkhjiiaaGreatDoor
open Go.RowKit
attribute [local go_sem] bs_size bs_toList bs_append bs_get bs_extract

theorem choose_is (c : Int) (n : Nat) (w : World) (h0 : -9223372036854775808 ≤ c) (h1 : c ≤ 9223372036854775807) (hn : 0 < n) (hn2 : n ≤ 100000) : ∃ k : Nat, k < n ∧ ∀ w, Calls Tryz.prog 18 #[.int .i64 c, .int .i64 n] w fun e w' => e = .returned (.int .i64 k) ∧ w' = w := by
  have hn0 : ((n : Int) == 0) = false := beq_eq_false_iff_ne.2 (by omega)
  have hn1 : ((n : Int) == -1) = false := beq_eq_false_iff_ne.2 (by omega)
  by_cases hc : c < 0
  · have e1 : IntKind.i64.wrap (c + 1) = c + 1 := wrap_i64_small _ (by omega) (by omega)
    have e2 : IntKind.i64.wrap (-(c + 1)) = -(c + 1) := wrap_i64_small _ (by omega) (by omega)
    have h3 := Int.emod_nonneg (-(c + 1)) (show (n : Int) ≠ 0 by omega)
    have h4 := Int.emod_lt_of_pos (-(c + 1)) (show (0 : Int) < n by omega)
    refine ⟨((-(c + 1)) % n).toNat, by omega, fun w => ?_⟩
    have E3 : Hid ((-(c + 1)).tmod n = (((-(c + 1)) % n).toNat : Int)) := by show _ = _; rw [Int.tmod_eq_emod_of_nonneg (by omega)]; omega
    have E4 : Hid ((c + 1).tmod n = -(((-(c + 1)) % n).toNat : Int)) := by
      show _ = _
      have := Int.neg_tmod (-(c + 1)) n
      rw [Int.neg_neg] at this
      rw [this, E3.out]
    generalize ((-(c + 1)) % n).toNat = k at *
    clear h3 h4
    go_enter Tryz.func18, Tryz.ntmps18
    go_wp2
    go_ret
    exact ⟨ret_int (by first | rw [E3.out] | (rw [E4.out]; omega)), rfl⟩
  · have h3 := Int.emod_nonneg c (show (n : Int) ≠ 0 by omega)
    have h4 := Int.emod_lt_of_pos c (show (0 : Int) < n by omega)
    refine ⟨(c % n).toNat, by omega, fun w => ?_⟩
    have E3 : Hid (c.tmod n = ((c % n).toNat : Int)) := by show _ = _; rw [Int.tmod_eq_emod_of_nonneg (by omega)]; omega
    have E4 : Hid (c % n = ((c % n).toNat : Int)) := by show _ = _; omega
    generalize (c % n).toNat = k at *
    clear h3 h4
    go_enter Tryz.func18, Tryz.ntmps18
    go_wp2
    go_ret
    exact ⟨ret_int (by first | rw [E3.out] | rw [E4.out]), rfl⟩

end Go.Proofs.YtndpjdmfkhjiiaaGreatDoor
