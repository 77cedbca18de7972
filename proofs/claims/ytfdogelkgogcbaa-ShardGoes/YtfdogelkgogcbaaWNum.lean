/- wire.Number, numberSize, ReadNumber; gleanerref.NumberOf, NumberAt. -/
import Derived.Test.YtfdogelkgogcbaaProg
import Derived.Test.YtfdogelkgogcbaaKit
import Derived.Test.YtfdogelkgogcbaaSpec
set_option linter.unusedVariables false
set_option linter.unusedSimpArgs false
namespace Go.Proofs.Ytfdogelkgogcbaa
open Go.RowKit
attribute [local go_sem] bs_size bs_toList bs_append bs_get bs_extract

theorem Try.info5 : (Try.prog.info? 5).map (fun i => (i.zero, i.size, i.bytes)) = some (some (.int .u8 0), 1, 1) := by kernel_rfl

set_option maxRecDepth 20000 in
set_option maxHeartbeats 400000 in
theorem number_any (n : Nat) (w : World) (hn : n < 18446744073709551616) :
    Calls Try.prog 71 #[.int .u64 n] w fun e w' => e = .returned (.string (bs (numB n))) ∧ Below w.heap.size w w' := by
  obtain ⟨i0, hi, hz0, hz1, hz2⟩ := info_parts Try.info5
  have HN : Hid (n < 128^(9+1)) := by show n < 128^(9+1); omega
  clear hn
  go_enter Try.func71, Try.ntmps71
  go_wp2
  go_loopw [0, 3] (fun n3 v wr => ∃ (f n' : Nat) (done : List UInt8), Hid (numB n = done ++ numF f n' ∧ n' < 128^(f+1)) ∧ n3 = .int .u64 n' ∧ wr.ownsRow w.heap.size 5 1 v done.length (bytesV done) ∧ Below w.heap.size w wr) (fun n3 _ _ => (intOf n3).toNat)
  case atStart => exact ⟨9, n, [], ⟨rfl, HN⟩, rfl, World.ownsRow_nil _ _ _ _, Below.refl _ _⟩
  case round =>
    obtain ⟨f, n', done, hlt, rfl, hown, hb⟩ := hrel
    have hlen : done.length ≤ 9 := by
      have h1 := congrArg List.length hlt.out.1
      have h2 := numB_length n
      have h3 := numF_length f n'
      simp at h1
      omega
    have hsz := hb.size
    by_cases h : n' < 128
    · have h' : (n' : Int) < 128 := by omega
      go_wp2_with (at_builtin; refine wpList_append_own _ rfl _ _ 89 rfl w.heap.size 5 i0 (.int .u8 0) 1 1 Try.underlying89 hi hz0 hz1 hz2 rfl (by decide) _ done.length (bytesV done) rfl (hown.alloc _) ⟨wr.heap.size, 0, none⟩ 1 1 (bytesV [UInt8.ofNat n']) rfl rfl (bcell _ _ _ _ (ofNat_toNat _ (by omega))) (bytesV_oneCell _) (by unfold maxLen; omega) (by omega) (by simp; omega) ?_; intro v' w1 hown' hgrow _; rw [← bytesV_append] at hown'; have hcv := run_bytesStr (P := Try.prog) Try.underlying89 Try.underlying5 Try.underlying9 (l := done ++ [UInt8.ofNat n']) (by simpa using hown'))
      go_ret
      exact ⟨by rw [hlt.out.1, numF_small _ _ h]; rfl, (hb.alloc hsz _).grown hgrow (by simp; omega) (fun k hk => (hown.lt k hk).1)⟩
    · have h' : ¬ (n' : Int) < 128 := by omega
      have ho := or128 n'
      obtain ⟨g, rfl⟩ : ∃ g, f = g + 1 := by
        cases f with
        | zero => have := hlt.out.2; omega
        | succ g => exact ⟨g, rfl⟩
      go_wp2_with (at_builtin; refine wpList_append_own _ rfl _ _ 89 rfl w.heap.size 5 i0 (.int .u8 0) 1 1 Try.underlying89 hi hz0 hz1 hz2 rfl (by decide) _ done.length (bytesV done) rfl (hown.alloc _) ⟨wr.heap.size, 0, none⟩ 1 1 (bytesV [hiByte n']) rfl rfl (bcell _ _ _ _ (by rw [hiByte_toNat]; first | rfl | omega)) (bytesV_oneCell _) (by unfold maxLen; omega) (by omega) (by simp; omega) ?_; intro v' w1 hown' hgrow _; rw [← bytesV_append] at hown')
      go_roundw
      case rel => exact ⟨g, n' / 128, done ++ [hiByte n'], ⟨by rw [hlt.out.1, numF_big _ _ h]; simp, by have := hlt.out.2; rw [Nat.pow_succ] at this; omega⟩, by go_num, by simpa using hown', (hb.alloc hsz _).grown hgrow (by simp; omega) (fun k hk => (hown.lt k hk).1)⟩
      case measure => simp [intOf]; omega

theorem readNum_none {l : List UInt8} (h : numSize l = 0) : readNum l = (0, 0, 1) := by simp [readNum, h]
theorem readNum_long {l : List UInt8} (h0 : ¬ numSize l = 0) (h : 10 < numSize l ∨ (numSize l = 10 ∧ 1 < (l.getD 9 0).toNat)) : readNum l = (0, 0, 3) := by simp only [readNum, h0, h, if_false, if_true]
theorem readNum_ok {l : List UInt8} (h0 : ¬ numSize l = 0) (h : ¬ (10 < numSize l ∨ (numSize l = 10 ∧ 1 < (l.getD 9 0).toNat))) : readNum l = (numVal (l.take (numSize l)), numSize l, 0) := by simp only [readNum, h0, h, if_false]

set_option maxRecDepth 20000 in
set_option maxHeartbeats 400000 in
theorem numberOf_any (n : Nat) (w : World) (hn : n < 18446744073709551616) :
    Calls Try.prog 58 #[.int .u64 n] w fun e w' => e = .returned (.string (bs (numB n))) ∧ Below w.heap.size w w' := by
  have HN : Hid (n < 128^(9+1)) := by show n < 128^(9+1); omega
  have HM : Hid (n < 18446744073709551616) := hn
  clear hn
  go_enter Try.func58, Try.ntmps58
  go_wp2
  go_loopw [0, 3] (fun n3 v wr => ∃ (f n' : Nat) (done : List UInt8), Hid (numB n = done ++ numF f n' ∧ n' < 128^(f+1) ∧ n' ≤ n) ∧ n3 = .int .u64 n' ∧ v = .string (bs done) ∧ Below w.heap.size w wr) (fun n3 _ _ => (intOf n3).toNat)
  case atStart => exact ⟨9, n, [], ⟨rfl, HN, Nat.le_refl _⟩, rfl, rfl, Below.refl _ _⟩
  case round =>
    obtain ⟨f, n', done, hlt, rfl, rfl, hb⟩ := hrel
    have hlen : done.length ≤ 9 := by
      have h1 := congrArg List.length hlt.out.1
      have h2 := numB_length n
      have h3 := numF_length f n'
      simp at h1
      omega
    have hsz := hb.size
    by_cases h : n' < 128
    · have h' : (n' : Int) < 128 := by omega
      have hcv := run_oneByte (P := Try.prog) wr Try.underlying89 Try.underlying5 Try.underlying9 5 (n' : Int) (UInt8.ofNat n') (ofNat_toNat _ (by omega))
      go_wp2
      go_ret
      exact ⟨by rw [hlt.out.1, numF_small _ _ h]; rfl, hb.alloc hsz _⟩
    · have h' : ¬ (n' : Int) < 128 := by omega
      have hcv := run_oneByte (P := Try.prog) wr Try.underlying89 Try.underlying5 Try.underlying9 5 ((n' : Int) % 128 + 128) (hiByte n') (by rw [hiByte_toNat]; omega)
      obtain ⟨g, rfl⟩ : ∃ g, f = g + 1 := by
        cases f with
        | zero => have := hlt.out.2.1; omega
        | succ g => exact ⟨g, rfl⟩
      have hq : IntKind.u64.wrap ((n' : Int) / 128) = ((n' / 128 : Nat) : Int) := by
        have h1 := hlt.out.2.2
        have h2 := HM.out
        rw [wrap_u64_small _ (by omega) (by omega)]; omega
      go_wp2
      go_roundw
      case rel => exact ⟨g, n' / 128, done ++ [hiByte n'], ⟨by rw [hlt.out.1, numF_big _ _ h]; simp, by have := hlt.out.2.1; rw [Nat.pow_succ] at this; omega, by have := hlt.out.2.2; omega⟩, by go_num, rfl, hb.alloc hsz _⟩
      case measure => simp [intOf]; omega

end Go.Proofs.Ytfdogelkgogcbaa
