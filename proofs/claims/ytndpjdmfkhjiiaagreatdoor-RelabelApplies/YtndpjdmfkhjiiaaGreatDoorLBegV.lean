/- The law's labelsBegun, textIs. -/
import Derived.Test.YtndpjdmfkhjiiaaGreatDoorProg
import Derived.Test.YtndpjdmfkhjiiaaGreatDoorQ74d152
import Derived.Test.YtndpjdmfkhjiiaaGreatDoorQ3d7cfc
import Derived.Test.YtndpjdmfkhjiiaaGreatDoorLSpecTV
import Derived.Test.YtndpjdmfkhjiiaaGreatDoorLRowV
import Derived.Test.YtndpjdmfkhjiiaaGreatDoorLTxtV
import Derived.Test.YtndpjdmfkhjiiaaGreatDoorQ53e3ed
import Derived.Test.YtndpjdmfkhjiiaaGreatDoorQe64d52
set_option linter.unusedVariables false
set_option linter.unusedSimpArgs false
namespace Go.Proofs.YtndpjdmfkhjiiaaGreatDoor.Lb
open Go.RowKit
attribute [local go_sem] bs_size bs_toList bs_append bs_get bs_extract

/-- The labels that must be told in any case. -/
def begL : List Lab := [([95, 95, 110, 97, 109, 101, 95, 95], [117, 112]), ([106, 111, 98], [120])]
theorem begL_text : textAns begL = [117, 112, 123, 106, 111, 98, 61, 34, 120, 34, 125] := by decide +kernel
theorem begL_check : checkB begL = 0 := by decide +kernel
theorem none_check : checkB [] = 0 := rfl
theorem none_sum : ((sumAns [] : Nat) : Int) = 14695981039346656037 := by rw [sumAns_ok none_check, sumB, sumGo, sum0_int]

theorem four_cells {w : World} {b : Nat} {x y z u : Value} {t : TypeId} (h : w.heap[b]? = some (.cells #[x, y, z, u] t (0, 0))) : w.cell? ⟨b, 0, none⟩ = some x ∧ w.cell? ⟨b, 1, none⟩ = some y ∧ w.cell? ⟨b, 2, none⟩ = some z ∧ w.cell? ⟨b, 3, none⟩ = some u := by simp [World.cell?, h]

theorem begL_reads (w : World) (t : TypeId) : readsLabels (w.alloc (.cells #[.string { data := #[95, 95, 110, 97, 109, 101, 95, 95] }, .string { data := #[117, 112] }, .string { data := #[106, 111, 98] }, .string { data := #[120] }] t)) (w.alloc (.cells #[.string { data := #[95, 95, 110, 97, 109, 101, 95, 95] }, .string { data := #[117, 112] }, .string { data := #[106, 111, 98] }, .string { data := #[120] }] t)).heap.size (.slice (some ⟨w.heap.size, 0, none⟩) 2 2) begL := by
  obtain ⟨c0, c1, c2, c3⟩ := four_cells (heap_alloc_new w (.cells #[.string { data := #[95, 95, 110, 97, 109, 101, 95, 95] }, .string { data := #[117, 112] }, .string { data := #[106, 111, 98] }, .string { data := #[120] }] t))
  refine ⟨_, _, rfl, fun i hi => ?_⟩
  match i, hi with
  | 0, _ => exact ⟨_, _, rfl, by simp, c0, c1⟩
  | 1, _ => exact ⟨_, _, rfl, by simp, c2, c3⟩

set_option maxRecDepth 20000 in
set_option maxHeartbeats 1000000 in
theorem labelsBegun_any (w : World) : Calls Tryz.prog 16 #[] w fun e w' => e = .returned (.bool true) ∧ Below w.heap.size w w' := by
  have H1 := hide (begL_reads w 39)
  have hbl : Below w.heap.size w (w.alloc (.cells #[.string { data := #[95, 95, 110, 97, 109, 101, 95, 95] }, .string { data := #[117, 112] }, .string { data := #[106, 111, 98] }, .string { data := #[120] }] 39)) := (Below.refl _ _).alloc (Nat.le_refl _) _
  have HB := hide hbl
  have hsz := hbl.size
  clear hbl
  go_enter Tryz.func16, Tryz.ntmps16
  go_wp2_with fail
  generalize (w.alloc (.cells #[.string { data := #[95, 95, 110, 97, 109, 101, 95, 95] }, .string { data := #[117, 112] }, .string { data := #[106, 111, 98] }, .string { data := #[120] }] 39)) = w1 at H1 HB hsz ⊢
  refine (text_any w1 _ begL H1.out (by decide) (by intro x hx; simp [begL] at hx; rcases hx with rfl | rfl <;> exact ⟨by decide, by decide⟩)).mono ?_
  rintro e w2 ⟨rfl, hb2⟩
  have hb02 : Below w.heap.size w w2 := HB.out.trans (hb2.mono hsz)
  rw [begL_text, begL_check]
  go_wp2_with fail
  refine (sum_any w2 (.slice none 0 0) [] ⟨none, 0, rfl, fun i hi => by simp at hi⟩ (by simp) (by intro x hx; simp at hx)).mono ?_
  rintro e w3 ⟨rfl, hb3⟩
  have hb03 : Below w.heap.size w w3 := hb02.trans (hb3.mono hb02.size)
  rw [none_sum, none_check]
  go_wp2
  go_ret
  exact ⟨rfl, hb03⟩

end Go.Proofs.YtndpjdmfkhjiiaaGreatDoor.Lb
