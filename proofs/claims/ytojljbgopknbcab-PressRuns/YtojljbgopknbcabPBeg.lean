/- pressBegun, textIs. -/
import Derived.Test.YtojljbgopknbcabProg
import Derived.Test.YtojljbgopknbcabKit
import Derived.Test.YtojljbgopknbcabSpec
import Derived.Test.YtojljbgopknbcabSpec2
import Derived.Test.YtojljbgopknbcabReg
import Derived.Test.YtojljbgopknbcabUnG
import Derived.Test.YtojljbgopknbcabPaM
import Derived.Test.YtojljbgopknbcabPaD
set_option linter.unusedVariables false
set_option linter.unusedSimpArgs false
namespace Go.Proofs.Ytojljbgopknbcab
open Go.RowKit
attribute [local go_sem] bs_size bs_toList bs_append bs_get bs_extract

theorem packs_len {s E : List UInt8} (h : Packs s E) (hs : s.length ≤ 20000) : (numB s.length ++ E).length ≤ s.length + s.length / 6 + 16 := by
  have h2 := h.2.1
  have := numB_length s.length
  rw [List.length_append]
  omega

set_option maxRecDepth 20000 in
set_option maxHeartbeats 1000000 in
theorem pressBegun_any (w : World) :
    Calls Try.prog 16 #[] w fun e w' => e = .returned (.bool true) ∧ Below w.heap.size w w' := by
  go_enter Try.func16, Try.ntmps16
  go_wp2_with fail
  refine (pack_any w [97, 98, 99, 97, 98, 99, 97, 98, 99, 97, 98, 99] (by simp)).mono ?_
  rintro e w1 ⟨hb1, (⟨_, E, hE, rfl⟩ | ⟨h, _⟩)⟩
  · have hl := packs_len hE (by simp)
    have HU := hide (packs_unpack hE (by simp) 12 (by simp) (by omega))
    obtain ⟨t, HT⟩ : ∃ t, Hid (numB ([97, 98, 99, 97, 98, 99, 97, 98, 99, 97, 98, 99] : List UInt8).length ++ E = t) := ⟨_, hide rfl⟩
    rw [HT.out] at HU hl ⊢
    simp only [List.length_cons, List.length_nil] at hl
    clear hE
    go_wp2_with fail
    refine (unpack_any w1 t 12 (by omega) (by omega) (by omega)).mono ?_
    rintro e w2 ⟨rfl, hb2⟩
    rw [HU.out]
    go_wp2
    go_ret
    exact ⟨by rfl, hb1.trans (hb2.mono hb1.size)⟩
  · simp at h

set_option maxRecDepth 20000 in
set_option maxHeartbeats 1000000 in
theorem textIs_same (w : World) (s : List UInt8) (e : Int) (h : e ≠ 0 → s = []) :
    Calls Try.prog 17 #[.string (bs s), .int .i64 e, .int .i64 e, .string (bs s)] w fun e w' => e = .returned (.bool true) ∧ w' = w := by
  by_cases h0 : e = 0
  · subst h0
    go_enter Try.func17, Try.ntmps17
    go_wp2
    go_ret
    exact ⟨by simp, rfl⟩
  · have hs := h h0
    subst hs
    have hne : (e != 0) = true := by simpa using h0
    clear h h0
    go_enter Try.func17, Try.ntmps17
    go_wp2
    go_ret
    exact ⟨by rfl, rfl⟩

end Go.Proofs.Ytojljbgopknbcab
