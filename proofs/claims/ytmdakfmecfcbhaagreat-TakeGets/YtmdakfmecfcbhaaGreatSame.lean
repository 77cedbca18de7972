/- The reference's SameLabels, SameSamples, SameSeries of what is the same. -/
import Derived.Test.YtmdakfmecfcbhaaGreatProg
import Derived.Test.YtmdakfmecfcbhaaGreatKit
import Derived.Test.YtmdakfmecfcbhaaGreatSpec
import Derived.Test.YtmdakfmecfcbhaaGreatReg
import Derived.Test.YtmdakfmecfcbhaaGreatWSer
import Derived.Test.YtmdakfmecfcbhaaGreatRdA
import Derived.Test.YtmdakfmecfcbhaaGreatRdC
import Derived.BigQuiet
set_option linter.unusedVariables false
set_option linter.unusedSimpArgs false
namespace Go.Proofs.YtmdakfmecfcbhaaGreat
open Go.RowKit
attribute [local go_sem] bs_size bs_toList bs_append bs_get bs_extract

set_option maxRecDepth 20000 in
set_option maxHeartbeats 2000000 in
theorem sameLabels_yes (w : World) (B : Nat) (va vb : Value) (ls : List Lab) (ha : readsLabels w B va ls) (hb : readsLabels w B vb ls) (hl : ls.length ≤ 1000000) :
    Calls Tryz.prog 20 #[va, vb] w fun e w' => e = .returned (.bool true) ∧ ∃ n, w' = w.drewN n := by
  obtain ⟨ao, ac, rfl, acells⟩ := ha
  obtain ⟨bo, bc, rfl, bcells⟩ := hb
  go_enter Tryz.func20, Tryz.ntmps20
  go_wp2
  go_loopw [5] (fun i wr => ∃ k n : Nat, k ≤ ls.length ∧ i = .int .i64 k ∧ wr = w.drewN n) (fun i _ => ls.length - (intOf i).toNat)
  case atStart => exact ⟨0, 0, by omega, rfl, rfl⟩
  case round =>
    obtain ⟨k, n, hk, rfl, hw⟩ := hrel
    have HW := hide hw
    clear hw
    by_cases hlt : k < ls.length
    · obtain ⟨ab, aof, rfl, haB, a0, a1⟩ := acells k hlt
      obtain ⟨bb, bof, rfl, hbB, b0, b1⟩ := bcells k hlt
      have d0 : wr.cell? ⟨ab, aof + k * 2, none⟩ = some (.string (bs ls[k].1)) := by rw [HW.out]; exact a0
      have d1 : wr.cell? ⟨ab, aof + k * 2 + 1, none⟩ = some (.string (bs ls[k].2)) := by rw [HW.out]; exact a1
      have e0 : wr.cell? ⟨bb, bof + k * 2, none⟩ = some (.string (bs ls[k].1)) := by rw [HW.out]; exact b0
      have e1 : wr.cell? ⟨bb, bof + k * 2 + 1, none⟩ = some (.string (bs ls[k].2)) := by rw [HW.out]; exact b1
      clear a0 a1 b0 b1 acells bcells
      go_wp2
      go_quiet (fail)
      go_wp2
      go_roundw
      case rel => exact ⟨k + 1, _, by omega, by go_num, by rw [HW.out, World.drewN_drewN]⟩
      case measure => simp [intOf]; omega
    · go_wp2
      go_ret
      exact ⟨rfl, n, HW.out⟩

set_option maxRecDepth 20000 in
set_option maxHeartbeats 2000000 in
theorem sameSamples_yes (w : World) (B : Nat) (va vb : Value) (ls : List Sam) (ha : readsSamples w B va ls) (hb : readsSamples w B vb ls) (hl : ls.length ≤ 1000000) :
    Calls Tryz.prog 21 #[va, vb] w fun e w' => e = .returned (.bool true) ∧ ∃ n, w' = w.drewN n := by
  obtain ⟨ao, ac, rfl, acells⟩ := ha
  obtain ⟨bo, bc, rfl, bcells⟩ := hb
  go_enter Tryz.func21, Tryz.ntmps21
  go_wp2
  go_loopw [5] (fun i wr => ∃ k n : Nat, k ≤ ls.length ∧ i = .int .i64 k ∧ wr = w.drewN n) (fun i _ => ls.length - (intOf i).toNat)
  case atStart => exact ⟨0, 0, by omega, rfl, rfl⟩
  case round =>
    obtain ⟨k, n, hk, rfl, hw⟩ := hrel
    have HW := hide hw
    clear hw
    by_cases hlt : k < ls.length
    · obtain ⟨ab, aof, rfl, haB, a0, a1⟩ := acells k hlt
      obtain ⟨bb, bof, rfl, hbB, b0, b1⟩ := bcells k hlt
      have d0 : wr.cell? ⟨ab, aof + k * 2, none⟩ = some (.int .i64 ls[k].1) := by rw [HW.out]; exact a0
      have d1 : wr.cell? ⟨ab, aof + k * 2 + 1, none⟩ = some (.int .u64 ls[k].2) := by rw [HW.out]; exact a1
      have e0 : wr.cell? ⟨bb, bof + k * 2, none⟩ = some (.int .i64 ls[k].1) := by rw [HW.out]; exact b0
      have e1 : wr.cell? ⟨bb, bof + k * 2 + 1, none⟩ = some (.int .u64 ls[k].2) := by rw [HW.out]; exact b1
      clear a0 a1 b0 b1 acells bcells
      go_wp2
      go_quiet (fail)
      go_wp2
      go_roundw
      case rel => exact ⟨k + 1, _, by omega, by go_num, by rw [HW.out, World.drewN_drewN]⟩
      case measure => simp [intOf]; omega
    · go_wp2
      go_ret
      exact ⟨rfl, n, HW.out⟩

set_option maxRecDepth 20000 in
set_option maxHeartbeats 4000000 in
theorem sameSeries_yes (w : World) (B : Nat) (va vb : Value) (ls : List Ser) (ha : readsSeries w B va ls) (hb : readsSeries w B vb ls) (hl : ls.length ≤ 1000000) (hin : ∀ x ∈ ls, x.1.length ≤ 1000000 ∧ x.2.length ≤ 1000000) :
    Calls Tryz.prog 13 #[va, vb] w fun e w' => e = .returned (.bool true) ∧ ∃ n, w' = w.drewN n := by
  obtain ⟨ao, ac, rfl, acells⟩ := ha
  obtain ⟨bo, bc, rfl, bcells⟩ := hb
  have HI := hide hin
  clear hin
  go_enter Tryz.func13, Tryz.ntmps13
  go_wp2
  go_loopw [5] (fun i wr => ∃ k n : Nat, k ≤ ls.length ∧ i = .int .i64 k ∧ wr = w.drewN n) (fun i _ => ls.length - (intOf i).toNat)
  case atStart => exact ⟨0, 0, by omega, rfl, rfl⟩
  case round =>
    obtain ⟨k, n, hk, rfl, hw⟩ := hrel
    have HW := hide hw
    clear hw
    by_cases hlt : k < ls.length
    · obtain ⟨ab, aof, ax, ay, rfl, haB, a0, a1, ra, rb⟩ := acells k hlt
      obtain ⟨bb, bof, bx, bw, rfl, hbB, b0, b1, rc, rd⟩ := bcells k hlt
      have d0 : wr.cell? ⟨ab, aof + k * 2, none⟩ = some ax := by rw [HW.out]; exact a0
      have d1 : wr.cell? ⟨ab, aof + k * 2 + 1, none⟩ = some ay := by rw [HW.out]; exact a1
      have e0 : wr.cell? ⟨bb, bof + k * 2, none⟩ = some bx := by rw [HW.out]; exact b0
      have e1 : wr.cell? ⟨bb, bof + k * 2 + 1, none⟩ = some bw := by rw [HW.out]; exact b1
      have r1 : ∀ W : World, (∀ a, W.cell? a = w.cell? a) → readsLabels W B ax ls[k].1 := fun W h => by unfold readsLabels; simp only [h]; exact ra
      have r2 : ∀ W : World, (∀ a, W.cell? a = w.cell? a) → readsLabels W B bx ls[k].1 := fun W h => by unfold readsLabels; simp only [h]; exact rc
      have r3 : ∀ W : World, (∀ a, W.cell? a = w.cell? a) → readsSamples W B ay ls[k].2 := fun W h => by unfold readsSamples; simp only [h]; exact rb
      have r4 : ∀ W : World, (∀ a, W.cell? a = w.cell? a) → readsSamples W B bw ls[k].2 := fun W h => by unfold readsSamples; simp only [h]; exact rd
      have hi := HI.out _ (List.getElem_mem hlt)
      obtain ⟨q1, q2, rfl, _⟩ := id ra
      obtain ⟨q3, q4, rfl, _⟩ := id rb
      obtain ⟨q5, q6, rfl, _⟩ := id rc
      obtain ⟨q7, q8, rfl, _⟩ := id rd
      clear a0 a1 b0 b1 acells bcells ra rb rc rd
      go_wp2
      have hwc : Hid (∀ n a, (wr.drewN n).cell? a = w.cell? a) := fun n a => by rw [HW.out]; rfl
      go_quiet (first
        | exact Calls.quiet_of (sameLabels_yes _ B _ _ ls[k].1 (r1 _ (hwc.out _)) (r2 _ (hwc.out _)) hi.1)
        | exact Calls.quiet_of (sameSamples_yes _ B _ _ ls[k].2 (r3 _ (hwc.out _)) (r4 _ (hwc.out _)) hi.2))
      go_wp2
      go_roundw
      case rel => exact ⟨k + 1, _, by omega, by go_num, by rw [HW.out, World.drewN_drewN]⟩
      case measure => simp [intOf]; omega
    · go_wp2
      go_ret
      exact ⟨rfl, n, HW.out⟩

end Go.Proofs.YtmdakfmecfcbhaaGreat
