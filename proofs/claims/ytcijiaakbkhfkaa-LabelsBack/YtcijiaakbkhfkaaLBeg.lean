/- The law's labelsBegun, textIs. -/
import Derived.Test.YtcijiaakbkhfkaaProg
import Derived.Test.YtcijiaakbkhfkaaKit
import Derived.Test.YtcijiaakbkhfkaaLSpec
import Derived.Test.YtcijiaakbkhfkaaLSpecT
import Derived.Test.YtcijiaakbkhfkaaReg
import Derived.Test.YtcijiaakbkhfkaaLRow
import Derived.Test.YtcijiaakbkhfkaaLTxt
import Derived.Test.YtcijiaakbkhfkaaLSum
import Derived.Test.YtcijiaakbkhfkaaLRefB
set_option linter.unusedVariables false
set_option linter.unusedSimpArgs false
namespace Go.Proofs.Ytcijiaakbkhfkaa
open Go.RowKit
attribute [local go_sem] bs_size bs_toList bs_append bs_get bs_extract

/-- The labels that must be told in any case. -/
def begL : List Lab := [([95, 95, 110, 97, 109, 101, 95, 95], [117, 112]), ([106, 111, 98], [120])]
theorem begL_text : textAns begL = [117, 112, 123, 106, 111, 98, 61, 34, 120, 34, 125] := by decide +kernel
theorem begL_check : checkB begL = 0 := by decide +kernel
theorem none_check : checkB [] = 0 := rfl
theorem none_sum : ((sumAns [] : Nat) : Int) = 14695981039346656037 := by rw [sumAns_ok none_check, sumB, sumGo, sum0_int]

theorem four_cells {w : World} {b : Nat} {x y z u : Value} {t : TypeId} (h : w.heap[b]? = some (.cells #[x, y, z, u] t (0, 0))) : w.cell? ⟨b, 0, none⟩ = some x ∧ w.cell? ⟨b, 1, none⟩ = some y ∧ w.cell? ⟨b, 2, none⟩ = some z ∧ w.cell? ⟨b, 3, none⟩ = some u := by simp [World.cell?, h]

theorem begL_reads (w : World) (t : TypeId) : readsLabels (w.alloc (.cells #[.string { data := #[95, 95, 110, 97, 109, 101, 95, 95] }, .string { data := #[117, 112] }, .string { data := #[106, 111, 98] }, .string { data := #[120] }] t)) (w.alloc (.cells #[.string { data := #[95, 95, 110, 97, 109, 101, 95, 95] }, .string { data := #[117, 112] }, .string { data := #[106, 111, 98] }, .string { data := #[120] }] t)).heap.size (.slice (some ⟨w.heap.size, 0, none⟩) 2 2) begL := by
  obtain ⟨c0, c1, c2, c3⟩ := four_cells (heap_alloc_new w (.cells #[.string { data := #[95, 95, 110, 97, 109, 101, 95, 95] }, .string { data := #[117, 112] }, .string { data := #[106, 111, 98] }, .string { data := #[120] }] t))
  refine ⟨_, _, rfl, fun i hi => ?_⟩
  match i, hi with
  | 0, _ => exact ⟨_, _, rfl, by simp, c0, c1⟩
  | 1, _ => exact ⟨_, _, rfl, by simp, c2, c3⟩

set_option maxRecDepth 20000 in
set_option maxHeartbeats 1000000 in
theorem labelsBegun_any (w : World) : Calls Try.prog 13 #[] w fun e w' => e = .returned (.bool true) ∧ Below w.heap.size w w' := by
  have H1 := hide (begL_reads w 54)
  have hbl : Below w.heap.size w (w.alloc (.cells #[.string { data := #[95, 95, 110, 97, 109, 101, 95, 95] }, .string { data := #[117, 112] }, .string { data := #[106, 111, 98] }, .string { data := #[120] }] 54)) := (Below.refl _ _).alloc (Nat.le_refl _) _
  have HB := hide hbl
  have hsz := hbl.size
  clear hbl
  go_enter Try.func13, Try.ntmps13
  go_wp2_with fail
  generalize (w.alloc (.cells #[.string { data := #[95, 95, 110, 97, 109, 101, 95, 95] }, .string { data := #[117, 112] }, .string { data := #[106, 111, 98] }, .string { data := #[120] }] 54)) = w1 at H1 HB hsz ⊢
  refine (text_any w1 _ begL H1.out (by decide) (by intro x hx; simp [begL] at hx; rcases hx with rfl | rfl <;> exact ⟨by decide, by decide⟩)).mono ?_
  rintro e w2 ⟨rfl, hb2⟩
  have hb02 : Below w.heap.size w w2 := HB.out.trans (hb2.mono hsz)
  rw [begL_text, begL_check]
  go_wp2_with fail
  refine (sum_any w2 (.slice none 0 0) [] ⟨none, 0, rfl, fun i hi => by simp at hi⟩ (by simp) (by intro x hx; simp at hx)).mono ?_
  rintro e w3 ⟨rfl, hb3⟩
  have hb03 : Below w.heap.size w w3 := hb02.trans (hb3.mono hb02.size)
  rw [none_sum, none_check]
  go_wp2
  go_ret
  exact ⟨rfl, hb03⟩

theorem textIs_same (w : World) (s : List UInt8) (e : Int) (h : e ≠ 0 → s = []) :
    Calls Try.prog 23 #[.string (bs s), .int .i64 e, .int .i64 e, .string (bs s)] w fun e w' => e = .returned (.bool true) ∧ w' = w := by
  by_cases h0 : e = 0
  · subst h0
    go_enter Try.func23, Try.ntmps23
    go_wp2
    go_ret
    exact ⟨by simp, rfl⟩
  · have hs := h h0
    subst hs
    have hne : (e != 0) = true := by simpa using h0
    clear h h0
    go_enter Try.func23, Try.ntmps23
    go_wp2
    go_ret
    exact ⟨by rfl, rfl⟩
/-- As above, where the text that is wanted is given up with an error. -/
theorem textIs_any (w : World) (s t : List UInt8) (e : Int) (h : (e ≠ 0 ∧ s = []) ∨ (e = 0 ∧ s = t)) :
    Calls Try.prog 23 #[.string (bs s), .int .i64 e, .int .i64 e, .string (bs t)] w fun e w' => e = .returned (.bool true) ∧ w' = w := by
  rcases h with ⟨h0, rfl⟩ | ⟨rfl, rfl⟩
  · have hne : (e != 0) = true := by simpa using h0
    clear h0
    go_enter Try.func23, Try.ntmps23
    go_wp2
    go_ret
    exact ⟨by rfl, rfl⟩
  · exact textIs_same w s 0 (fun h => absurd rfl h)

set_option maxRecDepth 20000 in
set_option maxHeartbeats 1000000 in
/-- Labels are what they must be: those that are wanted are given up with an error. -/
theorem labelsAre_any (w : World) (va vb : Value) (a b : List Lab) (e : Int) (ha : readsLabels w w.heap.size va a) (hb : readsLabels w w.heap.size vb b) (hl : a.length ≤ 1000) (hl2 : b.length ≤ 1000) (h : (e ≠ 0 ∧ a = []) ∨ (e = 0 ∧ a = b)) :
    Calls Try.prog 21 #[va, .int .i64 e, .int .i64 e, vb] w fun e w' => e = .returned (.bool true) ∧ Below w.heap.size w w' := by
  have HA := hide ha
  have HB := hide hb
  clear ha hb
  rcases h with ⟨h0, rfl⟩ | ⟨rfl, rfl⟩
  · have hne : (e != 0) = true := by simpa using h0
    clear h0
    have hr : readsLabels w w.heap.size (.slice none 0 0) [] := ⟨none, 0, rfl, fun i hi => by simp at hi⟩
    have HR := hide hr
    clear hr
    go_enter Try.func21, Try.ntmps21
    go_wp2_with fail
    refine (sameLabels_any w va (.slice none 0 0) [] [] HA.out HR.out (by simp) (by simp)).mono ?_
    rintro e w1 ⟨rfl, n, rfl⟩
    go_wp2
    go_ret
    exact ⟨ret_bool (by simp), ⟨rfl, rfl, rfl, Nat.le_refl _, fun _ _ => rfl⟩⟩
  · go_enter Try.func21, Try.ntmps21
    go_wp2_with fail
    refine (sameLabels_any w va vb a a HA.out HB.out (by omega) (by omega)).mono ?_
    rintro e w1 ⟨rfl, n, rfl⟩
    go_wp2
    go_ret
    exact ⟨ret_bool (by simp), ⟨rfl, rfl, rfl, Nat.le_refl _, fun _ _ => rfl⟩⟩

end Go.Proofs.Ytcijiaakbkhfkaa
