/- Pack. -/
import Derived.Test.YtmdakfmecfcbhaaGreatProg
import Derived.Test.YtmdakfmecfcbhaaGreatKit
import Derived.Test.YtmdakfmecfcbhaaGreatSpec
import Derived.Test.YtmdakfmecfcbhaaGreatSpec2
import Derived.Test.YtmdakfmecfcbhaaGreatReg
import Derived.Test.YtmdakfmecfcbhaaGreatWNum
import Derived.Test.YtmdakfmecfcbhaaGreatWWri
import Derived.Test.YtmdakfmecfcbhaaGreatRdB
import Derived.Test.YtmdakfmecfcbhaaGreatRdC
import Derived.Test.YtmdakfmecfcbhaaGreatPaA
import Derived.Test.YtmdakfmecfcbhaaGreatPaB
import Derived.Test.YtmdakfmecfcbhaaGreatPaM
import Derived.Test.YtmdakfmecfcbhaaGreatPaC
import Derived.Test.YtmdakfmecfcbhaaGreatRowG
set_option linter.unusedVariables false
set_option linter.unusedSimpArgs false
namespace Go.Proofs.YtmdakfmecfcbhaaGreat
open Go.RowKit Go.Maps
attribute [local go_sem] bs_size bs_toList bs_append bs_get bs_extract

set_option maxRecDepth 20000 in
set_option maxHeartbeats 4000000 in
theorem pack_any (w : World) (s : List UInt8) (hs : s.length ≤ 140737488355328) :
    Calls Tryz.prog 17 #[.string (bs s)] w fun e w' => Below w.heap.size w w' ∧
      ((s.length ≤ 20000 ∧ ∃ E, Packs s E ∧ e = .returned (.tuple #[.string (bs (numB s.length ++ E)), .int .i64 0])) ∨ (20000 < s.length ∧ e = .returned (.tuple #[.string (bs []), .int .i64 2]))) := by
  by_cases hlen : s.length ≤ 20000
  · have hmm := @run_makeMap Tryz.prog
    have hlen' : ¬ (20000 : Int) < s.length := by omega
    go_enter Tryz.func17, Tryz.ntmps17
    go_wp2_with fail
    have hmap0 : holdsMap (w.alloc (.map #[] 0)) w.heap.size 0 (.map []) := World.ownsMap_made w _ _ _
    have hb0 : Below w.heap.size w (w.alloc (.map #[] 0)) := (Below.refl _ _).alloc (Nat.le_refl _) _
    have hs0 : (w.alloc (.map #[] 0)).heap.size = w.heap.size + 1 := by simp
    have HM0 := hide hmap0
    have HB0 := hide hb0
    have HS0 := hide hs0
    clear hmap0 hb0 hs0
    refine (number_any s.length _ (by omega)).mono ?_
    rintro e w1 ⟨rfl, hb1⟩
    have hs1 := hb1.size
    rw [HS0.out] at hs1
    obtain ⟨v, w2, hrun, hrow, hg2⟩ := made_G (w := w1) (base := w.heap.size + 1) (d := numB s.length) hs1 (by have := numB_length s.length; omega)
    have hm1 : holdsMap w1 w.heap.size 0 (.map []) := World.ownsMap.kept HM0.out (grown_of (row := none) hb1) (by simp)
    have hm2 : holdsMap w2 w.heap.size 0 (.map []) := World.ownsMap.kept hm1 (grown_of (row := none) hg2) (by simp)
    have hb2 : Below w.heap.size w w2 := (HB0.out.trans (hb1.mono (by rw [HS0.out]; omega))).trans (hg2.mono (by omega))
    have hs2 := hg2.size
    have HB2 := hide hb2
    clear hb2 hb1 hm1
    obtain ⟨ao, cp, rfl⟩ := rowG_shape hrow
    have hpbW := heap_alloc_new w2 (.cells #[.string (bs s), .map (some w.heap.size), .slice ao (numB s.length).length cp] 70)
    have hrowW : rowG (w2.alloc (.cells #[.string (bs s), .map (some w.heap.size), .slice ao (numB s.length).length cp] 70)) (w.heap.size + 1) (.slice ao (numB s.length).length cp) (numB s.length) := rowG_keep hrow fun g hg => Below.heap_alloc _ _ _ (rowG_lt hrow g hg).2
    have hmW := World.ownsMap.alloc hm2 (.cells #[.string (bs s), .map (some w.heap.size), .slice ao (numB s.length).length cp] 70)
    have hbW := HB2.out.alloc (by omega) (.cells #[.string (bs s), .map (some w.heap.size), .slice ao (numB s.length).length cp] 70)
    have HPK := hide (show pkRow _ (w.heap.size + 1) w2.heap.size s (.map (some w.heap.size)) (numB s.length) from ⟨by simp; omega, _, hpbW, hrowW⟩)
    have HMW := hide hmW
    have HBW := hide hbW
    clear hpbW hrowW hmW hbW hrow hm2
    obtain ⟨hl, HL⟩ : ∃ hl, Hid ((numB s.length).length = hl) := ⟨_, hide rfl⟩
    have hnl := numB_length s.length
    rw [HL.out] at hrun HPK HMW HBW
    go_wp2_with fail
    refine (pkall_any _ w.heap.size (w.heap.size + 1) w2.heap.size w.heap.size s (numB s.length) HPK.out HMW.out (by omega) (by omega) (Nat.le_refl _) (by omega) hlen (by omega)).mono ?_
    rintro e w3 ⟨rfl, hb3, E, hE, hB3, v3, hx3, hr3⟩
    have hcv := run_rowG (P := Tryz.prog) Tryz.underlying63 Tryz.underlying5 Tryz.underlying9 hr3
    obtain ⟨x0, x1, x2, _⟩ := three_cells hx3
    have HE := hide hE
    have HB3 := hide hb3
    clear hE hb3 hr3 hx3 hrun
    go_wp2
    go_ret2
    exact ⟨HBW.out.trans HB3.out, .inl ⟨hlen, E, HE.out, rfl⟩⟩
  · have hlen' : (20000 : Int) < s.length := by omega
    go_enter Tryz.func17, Tryz.ntmps17
    go_wp2
    go_ret2
    exact ⟨Below.refl _ _, .inr ⟨by omega, rfl⟩⟩

end Go.Proofs.YtmdakfmecfcbhaaGreat
