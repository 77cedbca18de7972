/- wireBegun. -/
import Derived.Test.YtojljbgopknbcabProg
import Derived.Test.YtojljbgopknbcabKit
import Derived.Test.YtojljbgopknbcabSpec
import Derived.Test.YtojljbgopknbcabWNum
import Derived.Test.YtojljbgopknbcabWTop
set_option linter.unusedVariables false
set_option linter.unusedSimpArgs false
namespace Go.Proofs.Ytojljbgopknbcab
open Go.RowKit
attribute [local go_sem] bs_size bs_toList bs_append bs_get bs_extract

set_option maxRecDepth 20000 in
set_option maxHeartbeats 1000000 in
theorem wireBegun_any (w : World) :
    Calls Try.prog 9 #[] w fun e w' => e = .returned (.bool true) ∧ Below w.heap.size w w' := by
  go_enter Try.func9, Try.ntmps9
  go_wp2_with fail
  refine (number_any 300 w (by omega)).mono ?_
  rintro e w1 ⟨rfl, hb1⟩
  have hadd : (Op.stringOp .add (bs (numB 300)) { data := #[120] }).run Try.prog w1 = .ok (.string (bs (numB 300 ++ [120]))) w1 := by
    have h := run_string_add_sum (P := Try.prog) w1 (bs (numB 300)) { data := #[120] } (by rw [bs_size]; have := numB_length 300; show _ + 1 ≤ _; omega)
    rw [h]
    exact congrArg (fun s => Result.ok (Value.string s) w1) (bs_append (numB 300) [120])
  go_wp2_with fail
  refine (readNumber_any (numB 300 ++ [120]) w1 (by have := numB_length 300; simp [maxLen]; omega)).mono ?_
  rintro e w2 ⟨rfl, rfl⟩
  have e1 : readNum (numB 300 ++ [120]) = (300, 2, 0) := by decide +kernel
  rw [e1]
  go_wp2_with fail
  have hs2 := hb1.size
  have h0 : Below w.heap.size w ((w2.alloc (.cells #[.string { data := #[97] }, .string { data := #[98] }] 45)).alloc (.cells #[.slice (some ⟨w2.heap.size, 0, none⟩) 1 1, .slice none 0 0] 49)) := (hb1.alloc hs2 _).alloc (by simp; omega) _
  have c0 : ((w2.alloc (.cells #[.string { data := #[97] }, .string { data := #[98] }] 45)).alloc (.cells #[.slice (some ⟨w2.heap.size, 0, none⟩) 1 1, .slice none 0 0] 49)).heap[w2.heap.size]? = some (.cells #[.string { data := #[97] }, .string { data := #[98] }] 45 (0, 0)) := by
    rw [Below.heap_alloc _ _ _ (by simp)]; exact heap_alloc_new _ _
  have c1 : ((w2.alloc (.cells #[.string { data := #[97] }, .string { data := #[98] }] 45)).alloc (.cells #[.slice (some ⟨w2.heap.size, 0, none⟩) 1 1, .slice none 0 0] 49)).heap[w2.heap.size + 1]? = some (.cells #[.slice (some ⟨w2.heap.size, 0, none⟩) 1 1, .slice none 0 0] 49 (0, 0)) := by
    have := heap_alloc_new (w2.alloc (.cells #[.string { data := #[97] }, .string { data := #[98] }] 45)) (.cells #[.slice (some ⟨w2.heap.size, 0, none⟩) 1 1, .slice none 0 0] 49)
    simpa using this
  have hr : readsSeries ((w2.alloc (.cells #[.string { data := #[97] }, .string { data := #[98] }] 45)).alloc (.cells #[.slice (some ⟨w2.heap.size, 0, none⟩) 1 1, .slice none 0 0] 49)) ((w2.alloc (.cells #[.string { data := #[97] }, .string { data := #[98] }] 45)).alloc (.cells #[.slice (some ⟨w2.heap.size, 0, none⟩) 1 1, .slice none 0 0] 49)).heap.size (.slice (some ⟨w2.heap.size + 1, 0, none⟩) 1 1) [([([97], [98])], [])] := by
    refine ⟨_, 1, rfl, fun i hi => ?_⟩
    obtain rfl : i = 0 := by simpa using hi
    refine ⟨_, _, _, _, rfl, by simp, (two_cells c1).1, (two_cells c1).2, ⟨_, 1, rfl, fun j hj => ?_⟩, ⟨none, 0, rfl, fun j hj => by simp at hj⟩⟩
    obtain rfl : j = 0 := by simpa using hj
    exact ⟨_, _, rfl, by simp; omega, (two_cells c0).1, (two_cells c0).2⟩
  refine (write_any _ _ [([([97], [98])], [])] hr (by simp [bitsFit]) (by simp [lensFit])).mono ?_
  rintro e w4 ⟨rfl, hb4⟩
  have hbel : Below w.heap.size w w4 := h0.trans (hb4.mono h0.size)
  have e2 : writeErr [([([97], [98])], [])] = 0 := by decide +kernel
  have e3 : (writeTxt [([([97], [98])], [])]).length = 10 := by decide +kernel
  rw [e2]
  clear c0 c1 hr h0 hb4 hb1 hs2 e2 hadd e1
  go_wp2
  go_ret
  exact ⟨rfl, hbel⟩

end Go.Proofs.Ytojljbgopknbcab
