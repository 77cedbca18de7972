/- What the statements on logs begin with; textIs, choose, logOf. -/
import Derived.Test.YtjjjncainakbiaaProg
import Derived.Test.YtjjjncainakbiaaKit
import Derived.Test.YtjjjncainakbiaaLgP
import Derived.Test.YtjjjncainakbiaaLgT
import Derived.Test.YtjjjncainakbiaaLgG
import Derived.Test.YtjjjncainakbiaaLgO
import Derived.Test.YtjjjncainakbiaaLgI
import Derived.Test.YtjjjncainakbiaaLgX
import Derived.Test.YtjjjncainakbiaaLgY
import Derived.BigQuiet
set_option linter.unusedVariables false
set_option linter.unusedSimpArgs false
namespace Go.Proofs.Ytjjjncainakbiaa.Lg
open Go.RowKit
attribute [local go_sem] bs_size bs_toList bs_append bs_get bs_extract

theorem begA_len : (appB 0 [97, 98]).length = 9 := by decide +kernel
theorem begA_app : appendR [] [97, 98] = (appB 0 [97, 98], 0) := by
  unfold appendR
  rw [if_neg (by decide), if_neg (by rw [List.length_nil, begA_len]; decide)]
  rfl
theorem lastE_eq : ∀ L : List (List UInt8 × Nat), lastE L = endF 0 L := by
  have key : ∀ (L : List (List UInt8 × Nat)) (p : Nat), endF p L = match L.getLast? with | none => p | some x => x.2 := by
    intro L
    induction L with
    | nil => intro p; rfl
    | cons x L ih =>
      intro p
      show endF x.2 L = _
      rw [ih, List.getLast?_cons]
      cases L.getLast? <;> rfl
  intro L
  rw [key]
  rfl
theorem begA_ents : entA (appB 0 [97, 98]) 0 = [([97, 98], 9)] := by
  have h := entA_one [] [97, 98]
  simp only [List.nil_append, List.length_nil] at h
  rw [h, begA_len]

set_option maxRecDepth 20000 in
set_option maxHeartbeats 1000000 in
theorem logBegun_any (w : World) : Calls Try.prog 8 #[] w fun e w' => e = .returned (.bool true) ∧ Below w.heap.size w w' := by
  have HL := hide begA_len
  have HE := hide begA_ents
  have HA := hide begA_app
  go_enter Try.func8, Try.ntmps8
  go_wp2_with fail
  refine (logAppend_any [] [97, 98] w (by decide) (by decide)).mono ?_
  rintro e w1 ⟨rfl, hb1⟩
  rw [HA.out]
  generalize appB 0 [97, 98] = A at HL HE
  have hA9 : A.length = 9 := HL.out
  have hA9i : (A.length : Int) = 9 := by omega
  have HB1 := hide hb1
  clear hb1
  go_wp2_with fail
  refine (logRead_any A w1 (by omega)).mono ?_
  rintro e w2 ⟨v, rfl, ho, hb2⟩
  rw [HE.out] at ho ⊢
  have HB2 : Hid (Below w.heap.size w w2) := hide (HB1.out.trans (hb2.mono HB1.out.size))
  have HO := hide (readsStrs_own ho)
  obtain ⟨ao, cp, rfl⟩ := own_shape ho
  clear hb2 ho
  have h9 : lastE [(([97, 98] : List UInt8), 9)] = 9 := rfl
  rw [h9]
  go_wp2_with fail
  have HB3 : Hid (Below w.heap.size w (w2.alloc (.cells #[.string { data := #[97, 98] }] 9))) := hide (HB2.out.alloc HB2.out.size _)
  have hg3 : Grow w2 (w2.alloc (.cells #[.string { data := #[97, 98] }] 9)) := (Grow.refl w2).alloc _
  have hnew := heap_alloc_new w2 (.cells #[.string { data := #[97, 98] }] 9)
  have hr3 := (HO.out.keep hg3).more hg3.size
  generalize w2.alloc (.cells #[.string { data := #[97, 98] }] 9) = w3 at *
  refine (sameTexts_any w3 _ (.slice (some ⟨w2.heap.size, 0, none⟩) 1 1) [[97, 98]] [[97, 98]] hr3 ⟨_, _, rfl, fun i hi => ⟨w2.heap.size, 0, rfl, lt_of_block hnew, ?_⟩⟩ (by decide) (by decide)).mono ?_
  · obtain rfl : i = 0 := by simp at hi; omega
    simp [World.cell?, hnew]
    rfl
  rintro e w4 ⟨rfl, n, rfl⟩
  go_wp2_with fail
  go_ret
  exact ⟨rfl, Go.below_drewN HB3.out n⟩

theorem lgTextIs_same (w : World) (s : List UInt8) (e : Int) (h : e ≠ 0 → s = []) :
    Calls Try.prog 13 #[.string (bs s), .int .i64 e, .int .i64 e, .string (bs s)] w fun e w' => e = .returned (.bool true) ∧ w' = w := by
  by_cases h0 : e = 0
  · subst h0
    go_enter Try.func13, Try.ntmps13
    go_wp2
    go_ret
    exact ⟨by simp, rfl⟩
  · have hs := h h0
    subst hs
    have hne : (e != 0) = true := by simpa using h0
    clear h h0
    go_enter Try.func13, Try.ntmps13
    go_wp2
    go_ret
    exact ⟨by rfl, rfl⟩

end Go.Proofs.Ytjjjncainakbiaa.Lg
