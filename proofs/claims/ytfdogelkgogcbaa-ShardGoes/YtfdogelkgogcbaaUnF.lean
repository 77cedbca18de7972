/- The unpacker's elements, one behind the other; what gives up is caught. -/
import Derived.Test.YtfdogelkgogcbaaProg
import Derived.Test.YtfdogelkgogcbaaKit
import Derived.Test.YtfdogelkgogcbaaSpec
import Derived.Test.YtfdogelkgogcbaaSpec2
import Derived.Test.YtfdogelkgogcbaaReg
import Derived.Test.YtfdogelkgogcbaaWWri
import Derived.Test.YtfdogelkgogcbaaWTop
import Derived.Test.YtfdogelkgogcbaaUnA
import Derived.Test.YtfdogelkgogcbaaRowK
import Derived.Test.YtfdogelkgogcbaaUnE
set_option linter.unusedVariables false
set_option linter.unusedSimpArgs false
namespace Go.Proofs.Ytfdogelkgogcbaa
open Go.RowKit
attribute [local go_sem] bs_size bs_toList bs_append bs_get bs_extract

theorem plainB_some {told n : Nat} {r made r' m' : List UInt8} (h : plainB told n r made = some (r', m')) : r'.length ≤ r.length ∧ m'.length ≤ told := by
  unfold plainB at h
  split at h
  · rename_i hc
    simp at h
    obtain ⟨rfl, rfl⟩ := h
    simp; omega
  · simp at h
theorem againB_some {told n back : Nat} {r made r' m' : List UInt8} (h : againB told n back r made = some (r', m')) : r'.length ≤ r.length ∧ m'.length ≤ told := by
  unfold againB at h
  split at h
  · rename_i hc
    simp at h
    obtain ⟨rfl, rfl⟩ := h
    rw [copyB_length]; omega
  · simp at h
theorem elemB_some {told : Nat} {r made r' m' : List UInt8} (h : elemB told r made = some (r', m')) : r'.length < r.length ∧ m'.length ≤ told := by
  unfold elemB at h
  split at h
  · simp at h
  · rename_i hd r1 h1
    have c1 := (cutLow_some h1).2.2.2.2
    split at h
    · split at h
      · split at h
        · simp at h
        · rename_i m r2 h2
          have c2 := (cutLow_some h2).2.2.2.2
          have := plainB_some h
          omega
      · have := plainB_some h
        omega
    · split at h
      · split at h
        · simp at h
        · rename_i m r2 h2
          have c2 := (cutLow_some h2).2.2.2.2
          have := againB_some h
          omega
      · split at h
        · split at h
          · simp at h
          · rename_i m r2 h2
            have c2 := (cutLow_some h2).2.2.2.2
            have := againB_some h
            omega
        · split at h
          · simp at h
          · rename_i m r2 h2
            have c2 := (cutLow_some h2).2.2.2.2
            have := againB_some h
            omega

/-- All elements of a text, behind what is made. -/
def unpF (told : Nat) : Nat → List UInt8 → List UInt8 → Option (List UInt8)
  | 0, r, made => if made.length < told then none else some made
  | k + 1, r, made =>
    if r = [] then (if made.length < told then none else some made)
    else
      match elemB told r made with
      | none => none
      | some (r', m') => unpF told k r' m'
def unpB (told : Nat) (r made : List UInt8) : Option (List UInt8) := unpF told r.length r made
theorem unpF_any (told : Nat) : ∀ (k k' : Nat) (r made : List UInt8), r.length ≤ k → r.length ≤ k' → unpF told k r made = unpF told k' r made := by
  intro k
  induction k with
  | zero =>
    intro k' r made h h'
    have : r = [] := List.eq_nil_of_length_eq_zero (by omega)
    subst this
    cases k' <;> rfl
  | succ k ih =>
    intro k' r made h h'
    cases k' with
    | zero =>
      have : r = [] := List.eq_nil_of_length_eq_zero (by omega)
      subst this
      rfl
    | succ k' =>
      simp only [unpF]
      split
      · rfl
      · split
        · rfl
        · rename_i r' m' he
          have := (elemB_some he).1
          exact ih k' r' m' (by omega) (by omega)
theorem unpB_nil (told : Nat) (made : List UInt8) : unpB told [] made = if made.length < told then none else some made := rfl
theorem unpB_none {told : Nat} {r made : List UInt8} (h0 : r ≠ []) (h : elemB told r made = none) : unpB told r made = none := by
  cases r with
  | nil => exact absurd rfl h0
  | cons c r => simp [unpB, unpF, h]
theorem unpB_some {told : Nat} {r made r' m' : List UInt8} (h0 : r ≠ []) (h : elemB told r made = some (r', m')) : unpB told r made = unpB told r' m' := by
  have hl := (elemB_some h).1
  cases r with
  | nil => exact absurd rfl h0
  | cons c r =>
    simp only [List.length_cons] at hl
    simp only [unpB, List.length_cons, unpF, List.cons_ne_nil, if_false, h]
    exact unpF_any told _ _ _ _ (by omega) (Nat.le_refl _)
theorem unpB_full {told : Nat} : ∀ (k : Nat) {r made m : List UInt8}, made.length ≤ told → unpF told k r made = some m → m.length = told
  | 0, r, made, m, hm, h => by
    unfold unpF at h
    split at h
    · cases h
    · cases h; omega
  | k + 1, r, made, m, hm, h => by
    unfold unpF at h
    split at h
    · split at h
      · cases h
      · cases h; omega
    · split at h
      · cases h
      · rename_i r' m' he
        exact unpB_full k (elemB_some he).2 h

/-- How much is left. -/
def restLen (w : World) (ub : Nat) : Nat := match w.heap[ub]? with | some (.cells c _ _) => strLen (c.getD 0 undef) | _ => 0

theorem keepDraw {B ub n : Nat} {w w' : World} (h : KeptX B ub w w') : KeptX B ub w (w'.drewN n) := ⟨h.os, h.tape, h.output, h.size, h.block⟩
theorem keepSet {w w' : World} {ub n : Nat} {u : Value} (h : KeptX w.heap.size ub w w') : KeptX w.heap.size ub w (w'.setCell ⟨w.heap.size, n, none⟩ u) :=
  ⟨h.os, h.tape, h.output, by simpa [World.setCell] using h.size, fun k hk hn => (Below.heap_setCell _ _ _ _ (by show k ≠ w.heap.size; omega)).trans (h.block k hk hn)⟩

end Go.Proofs.Ytfdogelkgogcbaa
