/- Append of package log. -/
import Derived.Test.YtjjjncainakbiaaProg
import Derived.Test.YtjjjncainakbiaaKit
import Derived.Test.YtjjjncainakbiaaLgP
import Derived.Test.YtjjjncainakbiaaLgW
import Derived.Test.YtjjjncainakbiaaLgX
set_option linter.unusedVariables false
set_option linter.unusedSimpArgs false
namespace Go.Proofs.Ytjjjncainakbiaa.Lg
open Go.RowKit
attribute [local go_sem] bs_size bs_toList bs_append bs_get bs_extract

set_option maxRecDepth 20000 in
set_option maxHeartbeats 1000000 in
theorem logAppend_any (l s : List UInt8) (w : World) (hl : l.length ≤ 140737488355328) (hs : s.length ≤ 9223372036854775807) :
    Calls Try.prog 11 #[.string (bs l), .string (bs s)] w fun e w' => e = .returned (.tuple #[.string (bs (appendR l s).1), .int .i64 (appendR l s).2]) ∧ Below w.heap.size w w' := by
  go_enter Try.func11, Try.ntmps11
  by_cases hb : 20000 < s.length
  · have hb' : (20000 : Int) < s.length := by omega
    have HA := hide (show appendR l s = ([], 2) from by unfold appendR; rw [if_pos hb])
    clear hb
    go_wp2
    go_ret2
    exact ⟨by rw [HA.out]; rfl, Below.refl _ _⟩
  · have hb' : ¬ (20000 : Int) < s.length := by omega
    have hs2 : s.length ≤ 20000 := by omega
    have hal := appB_length l.length s
    have HA : Hid (appendR l s = if 1000000 < l.length + (appB l.length s).length then ([], 2) else (l ++ appB l.length s, 0)) := hide (by unfold appendR; rw [if_neg hb])
    clear hb
    go_wp2_with fail
    refine (logRecord_any _ (w.heap.size + 1) w.heap.size l.length [] s ⟨by simp, .slice none 0 0, heap_alloc_new w _, World.ownsRow_nil _ _ _ _⟩ (by simp) hs2 (by omega)).mono ?_
    rintro e w1 ⟨hk1, rfl, hh1⟩
    have HK1 : Hid (Below w.heap.size w w1) := hide (((Below.refl _ w).alloc (Nat.le_refl _) _).trans (hk1.below (by omega) (Nat.le_refl _)))
    rw [List.nil_append, List.length_nil, Nat.add_zero] at hh1
    have HH1 := hide hh1
    clear hk1 hh1
    generalize hB : appB l.length s = A at *
    clear hB
    go_wp2_with fail
    refine (logAt_any w1 _ _ _ _ HH1.out (by omega) (by omega)).mono ?_
    rintro e w2 ⟨n, rfl, rfl⟩
    have HK2 : Hid (Below w.heap.size w (w1.drewN n)) := hide (Go.below_drewN HK1.out n)
    have hh2 := holdsL_drew HH1.out n
    generalize w1.drewN n = w2 at *
    clear HK1 HH1
    obtain ⟨hB, v, hb, hown⟩ := hh2
    obtain ⟨c0, c1, z0, z1⟩ := lgTwo hb
    have hcv := run_bytesStr (P := Try.prog) (dst := 9) Try.underlying44 Try.underlying5 Try.underlying9 hown
    obtain ⟨ao, cp, rfl⟩ := own_shape hown
    clear hb hown
    by_cases hm : 1000000 < l.length + A.length
    · have hm' : (1000000 : Int) < ((l.length + A.length : Nat) : Int) := by omega
      have HA2 := hide (HA.out.trans (if_pos hm))
      clear HA hm
      go_wp2
      go_ret2
      exact ⟨by rw [HA2.out]; rfl, HK2.out⟩
    · have hm' : ¬ (1000000 : Int) < ((l.length + A.length : Nat) : Int) := by omega
      have HA2 := hide (HA.out.trans (if_neg hm))
      clear HA hm
      go_wp2
      go_ret2
      exact ⟨by rw [HA2.out]; rfl, HK2.out⟩

end Go.Proofs.Ytjjjncainakbiaa.Lg
