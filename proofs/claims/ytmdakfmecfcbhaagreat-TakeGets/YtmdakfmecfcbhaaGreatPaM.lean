/- What the packer's elements make when they are unpacked: plain mathematics. -/
import Derived.Test.YtmdakfmecfcbhaaGreatKit
import Derived.Test.YtmdakfmecfcbhaaGreatSpec
import Derived.Test.YtmdakfmecfcbhaaGreatSpec2
import Derived.Test.YtmdakfmecfcbhaaGreatUnD
import Derived.Test.YtmdakfmecfcbhaaGreatUnE
import Derived.Test.YtmdakfmecfcbhaaGreatUnF
import Derived.Test.YtmdakfmecfcbhaaGreatUnG
import Derived.Test.YtmdakfmecfcbhaaGreatPaB
set_option linter.unusedVariables false
set_option linter.unusedSimpArgs false
namespace Go.Proofs.YtmdakfmecfcbhaaGreat

/-- Elements that make one text out of another. -/
def Runs (told : Nat) (p m m' : List UInt8) : Prop := ∀ rest, unpB told (p ++ rest) m = unpB told rest m'
theorem runs_nil (told : Nat) (m : List UInt8) : Runs told [] m m := fun _ => rfl
theorem runs_append {told : Nat} {p q a b c : List UInt8} (h : Runs told p a b) (k : Runs told q b c) : Runs told (p ++ q) a c := fun rest => by
  rw [List.append_assoc, h, k]
theorem runs_elem {told : Nat} {p m m' : List UInt8} (hp : p ≠ []) (h : ∀ rest, elemB told (p ++ rest) m = some (rest, m')) : Runs told p m m' := fun rest => unpB_some (by simp [hp]) (h rest)

theorem cut_one (n : Nat) (h : n < 256) (r : List UInt8) : cutLow 1 (UInt8.ofNat n :: r) = some (n, r) := by
  unfold cutLow
  rw [if_pos (by simp)]
  have : (UInt8.ofNat n).toNat = n := by simp; omega
  simp [lowB, this]
theorem cut_two (n : Nat) (h : n < 65536) (r : List UInt8) : cutLow 2 (UInt8.ofNat n :: UInt8.ofNat (n / 256) :: r) = some (n, r) := by
  unfold cutLow
  rw [if_pos (by simp)]
  have e1 : (UInt8.ofNat n).toNat = n % 256 := by simp
  have e2 : (UInt8.ofNat (n / 256)).toNat = n / 256 % 256 := by simp
  simp only [List.take, List.drop, lowB, List.foldr, e1, e2]
  congr 2
  omega
theorem plainB_all (told : Nat) (l rest m : List UInt8) (h : m.length + l.length ≤ told) : plainB told l.length (l ++ rest) m = some (rest, m ++ l) := by
  unfold plainB
  rw [if_pos ⟨by omega, by simp⟩]
  simp

theorem runs_plain (told : Nat) (l m : List UInt8) (hl : l.length ≤ 20000) (h : m.length + l.length ≤ told) : Runs told (plainE l) m (m ++ l) := by
  unfold plainE
  by_cases h0 : l.length = 0
  · have : l = [] := List.eq_nil_of_length_eq_zero h0
    subst this
    rw [if_pos h0, List.append_nil]
    exact runs_nil _ _
  · rw [if_neg h0]
    by_cases h60 : l.length - 1 < 60
    · rw [if_pos h60]
      refine runs_elem (by simp) fun rest => ?_
      unfold elemB
      rw [List.cons_append, cut_one _ (by omega)]
      simp only
      rw [if_pos (by omega), if_neg (by omega), show (l.length - 1) * 4 / 4 + 1 = l.length from by omega]
      exact plainB_all told l rest m h
    · rw [if_neg h60]
      by_cases h256 : l.length - 1 < 256
      · rw [if_pos h256]
        refine runs_elem (by simp) fun rest => ?_
        unfold elemB
        have e : cutLow 1 (240 :: UInt8.ofNat (l.length - 1) :: l ++ rest) = some (240, UInt8.ofNat (l.length - 1) :: (l ++ rest)) := cut_one 240 (by omega) _
        rw [e]
        change (match cutLow 1 (UInt8.ofNat (l.length - 1) :: (l ++ rest)) with | none => none | some (n, r2) => plainB told (n + 1) r2 m) = _
        rw [cut_one _ h256]
        simp only
        rw [show l.length - 1 + 1 = l.length from by omega]
        exact plainB_all told l rest m h
      · rw [if_neg h256]
        refine runs_elem (by simp) fun rest => ?_
        unfold elemB
        have e : cutLow 1 (244 :: UInt8.ofNat (l.length - 1) :: UInt8.ofNat ((l.length - 1) / 256) :: l ++ rest) = some (244, UInt8.ofNat (l.length - 1) :: UInt8.ofNat ((l.length - 1) / 256) :: (l ++ rest)) := cut_one 244 (by omega) _
        rw [e]
        change (match cutLow 2 (UInt8.ofNat (l.length - 1) :: UInt8.ofNat ((l.length - 1) / 256) :: (l ++ rest)) with | none => none | some (n, r2) => plainB told (n + 1) r2 m) = _
        rw [cut_two _ (by omega)]
        simp only
        rw [show l.length - 1 + 1 = l.length from by omega]
        exact plainB_all told l rest m h
theorem plainE_length (l : List UInt8) : (plainE l).length ≤ l.length + 3 ∧ (l.length ≤ 60 → (plainE l).length ≤ l.length + 1) ∧ (l.length ≤ 256 → (plainE l).length ≤ l.length + 2) := by
  unfold plainE
  split
  · simp
  · split
    · simp <;> omega
    · split
      · simp <;> omega
      · simp <;> omega

theorem runs_one (told k back : Nat) (m : List UInt8) (hk1 : 1 ≤ k) (hk : k ≤ 64) (hb1 : 1 ≤ back) (hb : back ≤ m.length) (hb2 : back ≤ 20000) (h : m.length + k ≤ told) : Runs told (againOne k back) m (copyB back k m) := by
  unfold againOne
  split
  · rename_i hc
    refine runs_elem (by simp) fun rest => ?_
    unfold elemB
    rw [List.cons_append, cut_one _ (by omega)]
    simp only
    rw [if_neg (by omega), if_pos (by omega)]
    have e : cutLow 1 ([UInt8.ofNat back] ++ rest) = some (back % 256, rest) := by
      have := cut_one (back % 256) (by omega) rest
      have e2 : UInt8.ofNat (back % 256) = UInt8.ofNat back := by apply UInt8.toNat_inj.1; simp
      rw [e2] at this
      exact this
    rw [e]
    simp only
    rw [show (back / 256 * 32 + (k - 4) * 4 + 1) / 4 % 8 + 4 = k from by omega, show (back / 256 * 32 + (k - 4) * 4 + 1) / 32 * 256 + back % 256 = back from by omega, againB, if_pos ⟨by omega, hb1, hb⟩]
  · rename_i hc
    refine runs_elem (by simp) fun rest => ?_
    unfold elemB
    rw [List.cons_append, cut_one _ (by omega)]
    simp only
    rw [if_neg (by omega), if_neg (by omega), if_pos (by omega)]
    have e : cutLow 2 ([UInt8.ofNat back, UInt8.ofNat (back / 256)] ++ rest) = some (back, rest) := cut_two back (by omega) rest
    rw [e]
    simp only
    rw [show ((k - 1) * 4 + 2) / 4 + 1 = k from by omega, againB, if_pos ⟨by omega, hb1, hb⟩]
theorem copyB_add (back : Nat) : ∀ (a b : Nat) (m : List UInt8), copyB back (a + b) m = copyB back b (copyB back a m)
  | 0, b, m => by simp [copyB]
  | a + 1, b, m => by
    rw [show a + 1 + b = (a + b) + 1 from by omega, copyB, copyB, copyB_add back a b]
theorem runs_again (told back : Nat) : ∀ (n : Nat) (m : List UInt8), 1 ≤ back → back ≤ m.length → back ≤ 20000 → m.length + n ≤ told → Runs told (againB' back n) m (copyB back n m) := by
  intro n
  induction n using Nat.strongRecOn with
  | _ n ih =>
    intro m hb1 hb hb2 h
    by_cases h0 : n = 0
    · subst h0
      exact runs_nil _ _
    · rw [againB'_step back n (by omega)]
      have h1 := runs_one told (min n 64) back m (by omega) (by omega) hb1 hb hb2 (by omega)
      have h2 := ih (n - min n 64) (by omega) (copyB back (min n 64) m) hb1 (by rw [copyB_length]; omega) hb2 (by rw [copyB_length]; omega)
      have h3 := runs_append h1 h2
      rw [← copyB_add, show min n 64 + (n - min n 64) = n from by omega] at h3
      exact h3
theorem againOne_length (k back : Nat) : (againOne k back).length ≤ 3 := by
  unfold againOne
  split <;> simp
theorem againB'_length (back : Nat) : ∀ (n : Nat), (againB' back n).length ≤ 3 * ((n + 63) / 64) := by
  intro n
  induction n using Nat.strongRecOn with
  | _ n ih =>
    by_cases h0 : n = 0
    · subst h0; simp [againB'_zero]
    · rw [againB'_step back n (by omega), List.length_append]
      have := againOne_length (min n 64) back
      have := ih (n - min n 64) (by omega)
      omega

/-- Bytes from back are those that stand there. -/
theorem copyB_text (s : List UInt8) (f t : Nat) (hft : f < t) : ∀ (n : Nat), t + n ≤ s.length → (∀ i, i < n → s.getD (f + i) 0 = s.getD (t + i) 0) → copyB (t - f) n (s.take t) = s.take (t + n)
  | 0, _, _ => rfl
  | n + 1, h, he => by
    have ih := copyB_text s f t hft n (by omega) (fun i hi => he i (by omega))
    rw [copyB_snoc, ih, ← Nat.add_assoc, List.take_succ_eq_append_getElem (by omega)]
    congr 2
    have hl : (s.take (t + n)).length = t + n := by rw [List.length_take]; omega
    rw [hl, show t + n - (t - f) = f + n from by omega, getD_get _ _ (by rw [hl]; omega), List.getElem_take]
    have := he n (by omega)
    rw [getD_get _ _ (by omega), getD_get _ _ (by omega)] at this
    exact this

/-- A text of one byte. -/
def constB (s : List UInt8) : Prop := ∀ i, i < s.length → s.getD i 0 = s.getD 0 0

/-- What Pack's elements come to. -/
def Packs (s E : List UInt8) : Prop := Runs s.length E [] s ∧ 6 * E.length ≤ 7 * s.length + 18 ∧ (constB s → 64 ≤ s.length → E.length ≤ 2 + 3 * ((s.length + 62) / 64))
theorem packs_unpack {s E : List UInt8} (h : Packs s E) (hs : s.length ≤ 20000) (most : Int) (h0 : (s.length : Int) ≤ most) (h1 : most ≤ 20000) : unpackB (numB s.length ++ E) most = (0, s) := by
  unfold unpackB
  rw [if_neg (by omega)]
  have hc : cutNum (numB s.length ++ E) = some (s.length, E) := by
    unfold cutNum
    rw [numB_read s.length (by omega) E, if_pos rfl]
    simp
  rw [hc]
  simp only
  rw [if_neg (by omega)]
  have := h.1 []
  rw [List.append_nil] at this
  rw [this, unpB_nil, if_neg (by omega)]
theorem packs_less {s E : List UInt8} (hs : s.length ≤ 20000) (most : Int) (h0 : 0 ≤ most) (h1 : most < s.length) : unpackB (numB s.length ++ E) most = (2, []) := by
  unfold unpackB
  rw [if_neg (by omega)]
  have hc : cutNum (numB s.length ++ E) = some (s.length, E) := by
    unfold cutNum
    rw [numB_read s.length (by omega) E, if_pos rfl]
    simp
  rw [hc]
  simp only
  rw [if_pos h1]

end Go.Proofs.YtmdakfmecfcbhaaGreat
