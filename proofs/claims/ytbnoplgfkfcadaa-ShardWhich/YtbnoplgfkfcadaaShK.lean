/- shard: Which. -/
import Derived.Laws.OwnMore
import Derived.Test.YtbnoplgfkfcadaaProg
import Derived.Test.YtbnoplgfkfcadaaKit
import Derived.Test.YtbnoplgfkfcadaaReg
import Derived.Test.YtbnoplgfkfcadaaLSpec
import Derived.Test.YtbnoplgfkfcadaaLRow
import Derived.Test.YtbnoplgfkfcadaaLSum
import Derived.BigQuiet
set_option linter.unusedVariables false
set_option linter.unusedSimpArgs false
namespace Go.Proofs.Ytbnoplgfkfcadaa.Sh
open Go.RowKit Lb
attribute [local go_sem] bs_size bs_toList bs_append bs_get bs_extract

theorem sumAns_lt (ls : List Lab) : sumAns ls < 18446744073709551616 := by
  by_cases h : checkB ls = 0
  · rw [sumAns_ok h]; exact sumGo_lt sum0_lt ls
  · rw [sumAns_no h]; decide
def whichE (ls : List Lab) (k : Int) : Nat := if 1 ≤ k ∧ k ≤ 8 then checkB ls else 3
def whichN (ls : List Lab) (k : Int) : Nat := if (1 ≤ k ∧ k ≤ 8) ∧ checkB ls = 0 then sumB ls % k.toNat else 0
set_option maxRecDepth 20000 in
set_option maxHeartbeats 1000000 in
theorem which_any (w : World) (v : Value) (ls : List Lab) (k : Int) (hv : readsLabels w w.heap.size v ls) (hl : ls.length ≤ 9223372036854775807) (hi : lensOk ls) :
    Calls Try.prog 12 #[v, .int .i64 k] w fun e w' => e = .returned (.tuple #[.int .i64 (whichN ls k : Nat), .int .i64 (whichE ls k : Nat)]) ∧ Grow w w' := by
  have HS := hide (sum_any w v ls hv hl hi)
  obtain ⟨vo, vc, rfl⟩ := readsLabels_len hv
  obtain ⟨E, HE⟩ : ∃ E, Hid (whichE ls k = E) := ⟨_, hide rfl⟩
  obtain ⟨N, HN⟩ : ∃ N, Hid (whichN ls k = N) := ⟨_, hide rfl⟩
  rw [HE.out, HN.out]
  unfold whichE at HE
  unfold whichN at HN
  obtain ⟨ce, hce⟩ : ∃ ce, checkB ls = ce := ⟨_, rfl⟩
  obtain ⟨su, hsu⟩ : ∃ su, sumAns ls = su := ⟨_, rfl⟩
  obtain ⟨ln, hln⟩ : ∃ ln, ls.length = ln := ⟨_, rfl⟩
  have HSU : Hid (ce = 0 → sumB ls = su) := hide fun h => by rw [← hsu, sumAns_ok (by rw [hce]; exact h)]
  have hsl : Hid (su < 18446744073709551616) := by rw [← hsu]; exact hide (sumAns_lt ls)
  rw [hce] at HE HN
  rw [hce, hsu, hln] at HS
  rw [hln]
  clear hv hi hce hsu hln hl
  by_cases h1 : k < 1
  · rw [if_neg (by omega)] at HE
    rw [if_neg (by omega)] at HN
    go_enter Try.func12, Try.ntmps12
    go_wp2
    go_ret2
    exact ⟨by rw [← HE.out, ← HN.out]; rfl, Grow.refl _⟩
  · by_cases h2 : 8 < k
    · rw [if_neg (by omega)] at HE
      rw [if_neg (by omega)] at HN
      go_enter Try.func12, Try.ntmps12
      go_wp2
      go_ret2
      exact ⟨by rw [← HE.out, ← HN.out]; rfl, Grow.refl _⟩
    · rw [if_pos (by omega)] at HE
      by_cases h0 : ce = 0
      · rw [if_pos ⟨by omega, h0⟩] at HN
        have hz : ((ce : Int) != 0) = false := by simp [h0]
        obtain ⟨m, rfl⟩ : ∃ m : Nat, k = (m : Int) := ⟨k.toNat, by omega⟩
        have HN2 : Hid (su % m = N) := hide (by rw [← HN.out, HSU.out h0]; simp)
        have hsl2 := hsl.out
        have hm1 : 1 ≤ m := by omega
        have hm8 : m ≤ 8 := by omega
        have hmw : IntKind.u64.wrap (m : Int) = m := by rw [IntKind.wrap_u64]; omega
        have hmm : (su : Int).tmod m = ((su % m : Nat) : Int) := by rw [Int.tmod_eq_emod_of_nonneg (by omega)]; simp
        have hlt := Nat.mod_lt su (show m > 0 by omega)
        have hw2 : IntKind.u64.wrap ((su % m : Nat) : Int) = ((su % m : Nat) : Int) := by rw [IntKind.wrap_u64]; omega
        have hw3 : IntKind.i64.wrap ((su % m : Nat) : Int) = ((su % m : Nat) : Int) := by rw [IntKind.wrap_i64]; omega
        have hne : ((m : Int) == 0) = false := by rw [beq_eq_false_iff_ne]; omega
        have HZ := hide h0
        clear h0 HN
        go_enter Try.func12, Try.ntmps12
        go_wp2_with fail
        refine HS.out.mono ?_
        rintro e w2 ⟨rfl, hb⟩
        have HB := hide hb
        clear hb
        go_wp2
        go_ret2
        exact ⟨by rw [← HE.out, ← HN2.out, HZ.out]; simp, HB.out⟩
      · rw [if_neg (fun h => h0 h.2)] at HN
        have hz : ((ce : Int) != 0) = true := by simp; exact h0
        clear h0
        go_enter Try.func12, Try.ntmps12
        go_wp2_with fail
        refine HS.out.mono ?_
        rintro e w2 ⟨rfl, hb⟩
        have HB := hide hb
        clear hb
        go_wp2
        go_ret2
        exact ⟨by rw [← HE.out, ← HN.out]; rfl, HB.out⟩
end Go.Proofs.Ytbnoplgfkfcadaa.Sh
