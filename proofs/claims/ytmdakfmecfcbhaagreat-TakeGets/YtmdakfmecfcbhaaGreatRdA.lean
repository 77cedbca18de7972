/- The reader: cutNumber, cutHead, cut, lowestFirst. -/
import Derived.Test.YtmdakfmecfcbhaaGreatProg
import Derived.Test.YtmdakfmecfcbhaaGreatKit
import Derived.Test.YtmdakfmecfcbhaaGreatSpec
import Derived.Test.YtmdakfmecfcbhaaGreatSpec2
import Derived.Test.YtmdakfmecfcbhaaGreatWNum
import Derived.Test.YtmdakfmecfcbhaaGreatWWri
import Derived.Deep.QuietTactic
import Derived.BigQuiet
set_option linter.unusedVariables false
set_option linter.unusedSimpArgs false
namespace Go.Proofs.YtmdakfmecfcbhaaGreat
open Go.RowKit
attribute [local go_sem] bs_size bs_toList bs_append bs_get bs_extract

theorem below_drewN (w : World) (n : Nat) : Below w.heap.size w (w.drewN n) := ⟨rfl, rfl, rfl, Nat.le_refl _, fun _ _ => rfl⟩
theorem take_self {l : List UInt8} {n : Nat} (h : l.length ≤ n) : l.take n = l := List.take_of_length_le h

set_option maxRecDepth 20000 in
set_option maxHeartbeats 1000000 in
theorem cutNumber_some (l r : List UInt8) (n : Nat) (w : World) (hs : l.length ≤ 9223372036854775807) (h : cutNum l = some (n, r)) :
    Calls Tryz.prog 123 #[.string (bs l)] w fun e w' => e = .returned (.tuple #[.int .u64 n, .string (bs r)]) ∧ Below w.heap.size w w' := by
  have hle := (readNum_le l).1
  have h0 : (readNum l).2.2 = 0 := by
    unfold cutNum at h
    split at h
    · assumption
    · simp at h
  have e1 : Hid ((readNum l).1 = n ∧ l.drop (readNum l).2.1 = r) := by
    unfold cutNum at h
    rw [if_pos h0] at h
    simp at h
    exact hide h
  obtain ⟨z, HZ⟩ : ∃ z, Hid ((readNum l).2.1 = z) := ⟨_, hide rfl⟩
  rw [HZ.out] at hle
  have H0 := hide h0
  clear h h0
  go_enter Tryz.func123, Tryz.ntmps123
  go_wp2_with fail
  refine (readNumber_any l w (by unfold maxLen; omega)).mono ?_
  rintro e w1 ⟨rfl, rfl⟩
  rw [H0.out, HZ.out, e1.out.1]
  go_wp2
  go_quiet (fail)
  go_wp2
  go_ret2
  refine ⟨?_, below_drewN _ _⟩
  have e2 : List.take (l.length - z) (List.drop z l) = r := by rw [take_self (by rw [List.length_drop]; exact Nat.le_refl _), ← HZ.out]; exact e1.out.2
  rw [← e2]
  rfl

set_option maxRecDepth 20000 in
set_option maxHeartbeats 1000000 in
theorem cutNumber_none (l : List UInt8) (w : World) (hs : l.length ≤ 9223372036854775807) (h : cutNum l = none) :
    Calls Tryz.prog 123 #[.string (bs l)] w fun e w' => e = gaveUp 1 ∧ w' = w := by
  have h0 : ¬ (readNum l).2.2 = 0 := by
    intro h0
    unfold cutNum at h
    rw [if_pos h0] at h
    simp at h
  have hne : (((readNum l).2.2 : Int) != 0) = true := by simpa using h0
  clear h h0
  go_enter Tryz.func123, Tryz.ntmps123
  go_wp2_with fail
  refine (readNumber_any l w (by unfold maxLen; omega)).mono ?_
  rintro e w1 ⟨rfl, rfl⟩
  go_wp2
  exact ⟨rfl, rfl, rfl⟩

/-- The head of a field. -/
def cutHd (l : List UInt8) : Option (Nat × List UInt8) :=
  match cutNum l with
  | none => none
  | some (h, r) => if h / 8 < 1 ∨ 536870911 < h / 8 then none else some (h, r)

set_option maxRecDepth 20000 in
set_option maxHeartbeats 1000000 in
theorem cutHead_some (l r : List UInt8) (h : Nat) (w : World) (hs : l.length ≤ 9223372036854775807) (hh : cutHd l = some (h, r)) :
    Calls Tryz.prog 122 #[.string (bs l)] w fun e w' => e = .returned (.tuple #[.int .u64 h, .string (bs r)]) ∧ Below w.heap.size w w' := by
  unfold cutHd at hh
  split at hh
  · simp at hh
  · rename_i h' r' hc
    split at hh
    · simp at hh
    · rename_i hb
      simp at hh
      obtain ⟨rfl, rfl⟩ := hh
      have HC := hide hc
      have HB := hide hb
      clear hc hb
      go_enter Tryz.func122, Tryz.ntmps122
      go_wp2_with fail
      refine (cutNumber_some l r' h' w hs HC.out).mono ?_
      rintro e w1 ⟨rfl, hb1⟩
      have hb := HB.out
      have b1 : ¬ (h' : Int) / 8 < 1 := by omega
      have b2 : ¬ 536870911 < (h' : Int) / 8 := by omega
      clear hb
      go_wp2
      go_ret2
      exact ⟨rfl, hb1⟩

set_option maxRecDepth 20000 in
set_option maxHeartbeats 1000000 in
theorem cutHead_none (l : List UInt8) (w : World) (hs : l.length ≤ 9223372036854775807) (hh : cutHd l = none) :
    Calls Tryz.prog 122 #[.string (bs l)] w fun e w' => e = gaveUp 1 ∧ Below w.heap.size w w' := by
  unfold cutHd at hh
  split at hh
  · rename_i hc
    have HC := hide hc
    clear hc hh
    go_enter Tryz.func122, Tryz.ntmps122
    go_wp2_with fail
    refine (cutNumber_none l w hs HC.out).mono ?_
    rintro e w1 ⟨rfl, rfl⟩
    exact ⟨rfl, rfl, Below.refl _ _⟩
  · rename_i h' r' hc
    split at hh
    · rename_i hb
      have HC := hide hc
      have hb' := hb
      clear hc hh hb
      go_enter Tryz.func122, Tryz.ntmps122
      go_wp2_with fail
      refine (cutNumber_some l r' h' w hs HC.out).mono ?_
      rintro e w1 ⟨rfl, hb1⟩
      have hq : IntKind.u64.wrap ((h' : Int) / 8) = (h' : Int) / 8 := wrap_u64_small _ (by omega) (by have := (cutNum_some HC.out).1; omega)
      by_cases b1 : (h' : Int) / 8 < 1
      · clear hb'
        go_wp2
        exact ⟨rfl, rfl, hb1⟩
      · have b2 : 536870911 < (h' : Int) / 8 := by omega
        clear hb'
        go_wp2
        exact ⟨rfl, rfl, hb1⟩
    · simp at hh

set_option maxRecDepth 20000 in
set_option maxHeartbeats 1000000 in
theorem cut_some (l : List UInt8) (n : Nat) (w : World) (hs : l.length ≤ 9223372036854775807) (hn : n ≤ l.length) :
    Calls Tryz.prog 124 #[.string (bs l), .int .u64 n] w fun e w' => e = .returned (.tuple #[.string (bs (l.take n)), .string (bs (l.drop n))]) ∧ Below w.heap.size w w' := by
  have h1 : ¬ (l.length : Int) < n := by omega
  go_enter Tryz.func124, Tryz.ntmps124
  go_wp2
  go_quiet (fail)
  go_wp2
  go_ret2
  refine ⟨?_, below_drewN _ _⟩
  have e2 : List.take (l.length - n) (List.drop n l) = List.drop n l := take_self (by rw [List.length_drop]; exact Nat.le_refl _)
  rw [e2]
  rfl

set_option maxRecDepth 20000 in
set_option maxHeartbeats 1000000 in
theorem cut_none (l : List UInt8) (n : Nat) (w : World) (hs : l.length ≤ 9223372036854775807) (hn : l.length < n) :
    Calls Tryz.prog 124 #[.string (bs l), .int .u64 n] w fun e w' => e = gaveUp 1 ∧ w' = w := by
  have h1 : (l.length : Int) < n := by omega
  go_enter Tryz.func124, Tryz.ntmps124
  go_wp2
  exact ⟨rfl, rfl, rfl⟩

set_option maxRecDepth 20000 in
set_option maxHeartbeats 1000000 in
theorem lowestFirst_any (l : List UInt8) (w : World) (hl : l.length ≤ 8) :
    Calls Tryz.prog 125 #[.string (bs l)] w fun e w' => e = .returned (.int .u64 (lowB l)) ∧ w' = w := by
  go_enter Tryz.func125, Tryz.ntmps125
  go_wp2
  go_loop [3, 4] (fun n i => ∃ (k : Int) (N : Nat), -1 ≤ k ∧ k < l.length ∧ i = .int .i64 k ∧ n = .int .u64 N ∧ Hid (N = lowB (l.drop (k + 1).toNat))) (fun _ i => (intOf i + 1).toNat)
  case atStart => exact ⟨(l.length : Int) - 1, 0, by omega, by omega, rfl, rfl, by show _ = _; rw [List.drop_eq_nil_of_le (by omega)]; rfl⟩
  case round =>
    obtain ⟨k, N, hk1, hk2, rfl, rfl, HN⟩ := hrel
    by_cases hk : 0 ≤ k
    · obtain ⟨j, rfl⟩ := Int.eq_ofNat_of_zero_le hk
      have hjl : j < l.length := by omega
      have HD : Hid (bits .or .u64 (IntKind.u64.wrap ((N : Int) * 256)) (IntKind.u64.wrap (l[j].toNat : Int)) = ((lowB (l.drop j) : Nat) : Int)) := by
        have := low_step l j hjl hl
        have hc := l[j].toNat_lt
        show _ = _
        rw [wrap_u64_small (l[j].toNat : Int) (by omega) (by omega), HN.out]; exact this
      go_wp2
      go_roundw
      case rel => exact ⟨(j : Int) - 1, lowB (l.drop j), by omega, by omega, rfl, by rw [HD.out], by show _ = _; rw [show ((j : Int) - 1 + 1).toNat = j from by omega]⟩
      case measure => simp [intOf]
    · go_wp2
      go_ret
      obtain rfl : k = -1 := by omega
      exact ⟨by rw [HN.out]; rfl, rfl⟩

end Go.Proofs.YtmdakfmecfcbhaaGreat
