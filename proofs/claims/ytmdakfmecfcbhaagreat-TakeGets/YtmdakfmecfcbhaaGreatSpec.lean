/- What the wire and press functions compute, on lists of bytes: plain mathematics, no program. -/
import Derived.WalkKit
set_option linter.unusedVariables false
set_option linter.unusedSimpArgs false
namespace Go.Proofs.YtmdakfmecfcbhaaGreat

/-- A digit with more behind it. -/
def hiByte (n : Nat) : UInt8 := UInt8.ofNat (n % 128 + 128)
theorem hiByte_toNat (n : Nat) : (hiByte n).toNat = n % 128 + 128 := by simp [hiByte]; omega
def numF : Nat → Nat → List UInt8
  | 0, n => [UInt8.ofNat n]
  | f + 1, n => if n < 128 then [UInt8.ofNat n] else hiByte n :: numF f (n / 128)
/-- A number as bytes. -/
def numB (n : Nat) : List UInt8 := numF 9 n

theorem numF_small (f n : Nat) (h : n < 128) : numF f n = [UInt8.ofNat n] := by cases f <;> simp [numF, h]
theorem numF_big (f n : Nat) (h : ¬ n < 128) : numF (f + 1) n = hiByte n :: numF f (n / 128) := by simp [numF, h]
theorem numF_length (f n : Nat) : 1 ≤ (numF f n).length ∧ (numF f n).length ≤ f + 1 := by
  induction f generalizing n with
  | zero => simp [numF]
  | succ f ih =>
    by_cases h : n < 128
    · simp [numF_small _ _ h]
    · have := ih (n / 128)
      simp [numF_big _ _ h]; omega
theorem numB_length (n : Nat) : 1 ≤ (numB n).length ∧ (numB n).length ≤ 10 := numF_length 9 n

/-- How many bytes the number at a list's beginning has; 0: none. -/
def numSize (l : List UInt8) : Nat := match l.findIdx? (fun c => decide (c.toNat < 128)) with | some i => i + 1 | none => 0

theorem numSize_hit (l : List UInt8) (k : Nat) (hk : k < l.length) (h : ∀ j (hj : j < l.length), j < k → ¬ (l[j].toNat : Int) < 128) (hc : (l[k].toNat : Int) < 128) : numSize l = k + 1 := by
  have : l.findIdx? (fun c => decide (c.toNat < 128)) = some k := by
    rw [List.findIdx?_eq_some_iff_getElem]
    refine ⟨hk, by simpa using (by omega : l[k].toNat < 128), fun j hj => ?_⟩
    have := h j (by omega) hj
    simp; omega
  simp [numSize, this]
theorem numSize_miss (l : List UInt8) (h : ∀ j (hj : j < l.length), ¬ (l[j].toNat : Int) < 128) : numSize l = 0 := by
  have : l.findIdx? (fun c => decide (c.toNat < 128)) = none := by
    rw [List.findIdx?_eq_none_iff]
    intro c hc
    obtain ⟨j, hj, rfl⟩ := List.getElem_of_mem hc
    have := h j hj
    simp; omega
  simp [numSize, this]
theorem numSize_le (l : List UInt8) : numSize l ≤ l.length := by
  unfold numSize
  split
  · rename_i i h
    rw [List.findIdx?_eq_some_iff_getElem] at h
    obtain ⟨hk, _⟩ := h
    omega
  · omega

/-- The number that digits make, the lowest first. -/
def numVal (l : List UInt8) : Nat := l.foldr (fun c n => c.toNat % 128 + 128 * n) 0
theorem numVal_cons (c : UInt8) (l : List UInt8) : numVal (c :: l) = c.toNat % 128 + 128 * numVal l := rfl
theorem numVal_nil : numVal [] = 0 := rfl
theorem numVal_lt (l : List UInt8) : numVal l < 128 ^ l.length := by
  induction l with
  | nil => simp [numVal]
  | cons c l ih => rw [numVal_cons, List.length_cons, Nat.pow_succ]; omega

/-- What ReadNumber answers: the number, its size, the error. -/
def readNum (l : List UInt8) : Nat × Nat × Nat :=
  if numSize l = 0 then (0, 0, 1)
  else if 10 < numSize l ∨ (numSize l = 10 ∧ 1 < (l.getD 9 0).toNat) then (0, 0, 3)
  else (numVal (l.take (numSize l)), numSize l, 0)

theorem bits_or_u8_nat (a b : Nat) (ha : a < 256) (hb : b < 256) : bits .or .u8 (a : Int) (b : Int) = ((a ||| b : Nat) : Int) := by
  have hx : a ||| b < 2 ^ 8 := Nat.or_lt_two_pow (by omega) (by omega)
  have h1 : (BitVec.ofInt 8 (a : Int)).toNat = a := by
    rw [BitVec.ofInt_natCast, BitVec.toNat_ofNat]; exact Nat.mod_eq_of_lt (by omega)
  have h2 : (BitVec.ofInt 8 (b : Int)).toNat = b := by
    rw [BitVec.ofInt_natCast, BitVec.toNat_ofNat]; exact Nat.mod_eq_of_lt (by omega)
  show IntKind.u8.wrap ((BitVec.ofInt 8 (a : Int) ||| BitVec.ofInt 8 (b : Int)).toNat : Int) = _
  rw [BitVec.toNat_or, h1, h2]
  show ((_ : Int) % 256) = _
  omega
theorem bits_and_u8_nat (a b : Nat) (ha : a < 256) (hb : b < 256) : bits .and .u8 (a : Int) (b : Int) = ((a &&& b : Nat) : Int) := by
  have hx : a &&& b < 2 ^ 8 := Nat.and_lt_two_pow _ (by omega)
  have h1 : (BitVec.ofInt 8 (a : Int)).toNat = a := by
    rw [BitVec.ofInt_natCast, BitVec.toNat_ofNat]; exact Nat.mod_eq_of_lt (by omega)
  have h2 : (BitVec.ofInt 8 (b : Int)).toNat = b := by
    rw [BitVec.ofInt_natCast, BitVec.toNat_ofNat]; exact Nat.mod_eq_of_lt (by omega)
  show IntKind.u8.wrap ((BitVec.ofInt 8 (a : Int) &&& BitVec.ofInt 8 (b : Int)).toNat : Int) = _
  rw [BitVec.toNat_and, h1, h2]
  show ((_ : Int) % 256) = _
  omega

set_option maxRecDepth 10000 in
theorem or128_fin : ∀ a : Fin 256, (a.val ||| 128) = a.val % 128 + 128 := by decide +kernel
set_option maxRecDepth 10000 in
theorem and127_fin : ∀ a : Fin 256, (a.val &&& 127) = a.val % 128 := by decide +kernel
theorem or128 (n : Nat) : bits .or .u8 ((n : Int) % 256) 128 = ((n % 128 + 128 : Nat) : Int) := by
  have h := bits_or_u8_nat (n % 256) 128 (by omega) (by omega)
  have h2 := or128_fin ⟨n % 256, by omega⟩
  simp only at h2
  rw [h2] at h
  rw [show ((n : Int) % 256) = ((n % 256 : Nat) : Int) from by omega]
  refine h.trans ?_
  omega
theorem and127 (c : UInt8) : bits .and .u8 (c.toNat : Int) 127 = ((c.toNat % 128 : Nat) : Int) := by
  have hc := c.toNat_lt
  have h := bits_and_u8_nat c.toNat 127 (by omega) (by omega)
  have h2 := and127_fin ⟨c.toNat, by omega⟩
  simp only at h2
  rw [h2] at h
  exact h

theorem wrap_u64_small (x : Int) (h0 : 0 ≤ x) (h : x < 18446744073709551616) : IntKind.u64.wrap x = x := by
  rw [IntKind.wrap_u64]; omega

theorem wrap_i64_small (x : Int) (h0 : -9223372036854775808 ≤ x) (h : x < 9223372036854775808) : IntKind.i64.wrap x = x := by
  rw [IntKind.wrap_i64]; omega
theorem wrap_u8_small (x : Int) (h0 : 0 ≤ x) (h : x < 256) : IntKind.u8.wrap x = x := by
  rw [IntKind.wrap_u8]; omega

theorem getD_get (l : List UInt8) (i : Nat) (h : i < l.length) : l.getD i 0 = l[i] := by simp [List.getD, h]

theorem or_add_128 (a b : Nat) (hb : b < 128) : (a * 128 ||| b) = b + 128 * a := by
  have h := Nat.two_pow_add_eq_or_of_lt (i := 7) (b := b) (by omega) a
  have e : a * 128 = 2 ^ 7 * a := by omega
  rw [e, ← h]; omega

theorem numVal_drop (T : List UInt8) (j : Nat) (h : j < T.length) : numVal (T.drop j) = T[j].toNat % 128 + 128 * numVal (T.drop (j + 1)) := by
  rw [List.drop_eq_getElem_cons h, numVal_cons]
theorem numVal_drop_le (T : List UInt8) : ∀ j, numVal (T.drop j) ≤ numVal T := by
  intro j
  induction j with
  | zero => simp
  | succ j ih =>
    by_cases h : j < T.length
    · have := numVal_drop T j h; omega
    · rw [List.drop_eq_nil_of_le (by omega)]; simp [numVal]

theorem digit_step (T : List UInt8) (j : Nat) (h : j < T.length) (hT : numVal T < 18446744073709551616) :
    bits .or .u64 (IntKind.u64.wrap (((numVal (T.drop (j + 1)) : Nat) : Int) * 128)) (IntKind.u64.wrap (bits .and .u8 (T[j].toNat : Int) 127)) = ((numVal (T.drop j) : Nat) : Int) := by
  have h1 := numVal_drop T j h
  have h2 := numVal_drop_le T j
  have h3 : T[j].toNat % 128 < 128 := by omega
  rw [and127, wrap_u64_small _ (by omega) (by omega), wrap_u64_small _ (by omega) (by omega)]
  have h4 := bits_or_u64_nat (numVal (T.drop (j + 1)) * 128) (T[j].toNat % 128) (by omega) (by omega)
  rw [or_add_128 _ _ h3] at h4
  rw [h1, ← h4]
  rfl

theorem numVal_ten (T : List UInt8) (h : T.length = 10) (h9 : ¬ 1 < (T.getD 9 0).toNat) : numVal T < 18446744073709551616 := by
  match T, h with
  | [a, b, c, d, e, f, g, i, j, k], _ =>
    simp only [numVal, List.foldr]
    simp at h9
    omega
theorem numVal_nine (T : List UInt8) (h : T.length ≤ 9) : numVal T < 18446744073709551616 := by
  have h1 := numVal_lt T
  have h2 : 128 ^ T.length ≤ 128 ^ 9 := Nat.pow_le_pow_right (by omega) h
  omega

/-- How many bytes ahead have more to come, at most nine. -/
def numMany (l : List UInt8) : Nat := ((l.take 9).takeWhile (fun c => decide (128 ≤ c.toNat))).length
/-- What the document's own NumberAt answers. -/
def numAt (l : List UInt8) : Nat × Nat × Nat :=
  if numMany l = l.length then (0, 0, 1)
  else if numMany l = 9 ∧ 1 < (l.getD 9 0).toNat then (0, 0, 3)
  else (numVal (l.take (numMany l + 1)), numMany l + 1, 0)

theorem numSize_cons (c : UInt8) (l : List UInt8) : numSize (c :: l) = if c.toNat < 128 then 1 else if numSize l = 0 then 0 else numSize l + 1 := by
  unfold numSize
  rw [List.findIdx?_cons]
  by_cases h : c.toNat < 128
  · simp [h]
  · simp only [h, decide_false, Bool.false_eq_true, if_false]
    cases List.findIdx? (fun c => decide (c.toNat < 128)) l <;> simp

theorem numF_read (f n : Nat) (h : n < 128 ^ (f + 1)) (b : List UInt8) : numSize (numF f n ++ b) = (numF f n).length ∧ numVal (numF f n) = n := by
  induction f generalizing n with
  | zero =>
    have h' : n < 128 := by simpa using h
    have e : (UInt8.ofNat n).toNat = n := by simp; omega
    simp [numF, numSize_cons, numVal, e, h']
  | succ f ih =>
    by_cases hs : n < 128
    · have e : (UInt8.ofNat n).toNat = n := by simp; omega
      simp [numF_small _ _ hs, numSize_cons, numVal, e, hs]
    · have := ih (n / 128) (by rw [Nat.pow_succ] at h; omega)
      have hl := (numF_length f (n / 128)).1
      rw [numF_big _ _ hs, List.cons_append, numSize_cons, numVal_cons, hiByte_toNat, this.1, this.2, List.length_cons]
      refine ⟨?_, by omega⟩
      rw [if_neg (by omega), if_neg (by omega)]

theorem numF_last (f n : Nat) (h : n < 128 ^ (f + 1)) : ∃ init last, numF f n = init ++ [last] ∧ last.toNat < 128 := by
  induction f generalizing n with
  | zero =>
    have h' : n < 128 := by simpa using h
    exact ⟨[], UInt8.ofNat n, rfl, by simp; omega⟩
  | succ f ih =>
    by_cases hs : n < 128
    · exact ⟨[], UInt8.ofNat n, by rw [numF_small _ _ hs]; rfl, by simp; omega⟩
    · obtain ⟨i, l, e, hl⟩ := ih (n / 128) (by rw [Nat.pow_succ] at h; omega)
      exact ⟨hiByte n :: i, l, by rw [numF_big _ _ hs, e]; rfl, hl⟩

theorem numVal_snoc (i : List UInt8) (l : UInt8) : numVal (i ++ [l]) = numVal i + 128 ^ i.length * (l.toNat % 128) := by
  induction i with
  | nil => simp [numVal]
  | cons c i ih => rw [List.cons_append, numVal_cons, numVal_cons, ih, List.length_cons, Nat.pow_succ, Nat.mul_add, Nat.mul_comm (128 ^ i.length) 128, Nat.mul_assoc]; omega

theorem numB_read (n : Nat) (h : n < 18446744073709551616) (b : List UInt8) : readNum (numB n ++ b) = (n, (numB n).length, 0) := by
  have h1 := numF_read 9 n (by omega) b
  have hl := numB_length n
  have e1 : numSize (numB n ++ b) = (numB n).length := h1.1
  have e2 : numVal (numB n) = n := h1.2
  obtain ⟨i, l, e3, hlast⟩ := numF_last 9 n (by omega)
  have e3' : numB n = i ++ [l] := e3
  unfold readNum
  rw [e1, if_neg (by omega), if_neg, List.take_left, e2]
  rintro (h' | ⟨h10, h9⟩)
  · omega
  · rw [getD_get _ _ (by simp; omega), List.getElem_append_left (by omega)] at h9
    have hi : i.length = 9 := by have := congrArg List.length e3'; simp at this; omega
    have hg : (numB n)[9] = l := by simp [e3', hi]
    rw [hg] at h9
    rw [e3', numVal_snoc, hi] at e2
    omega

end Go.Proofs.YtmdakfmecfcbhaaGreat
