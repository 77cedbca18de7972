/- 4 texts in one. -/
import Derived.WalkKit
set_option linter.unusedVariables false
set_option linter.unusedSimpArgs false
namespace Go.Proofs.YtkaeogldielkfaaGreat
/-- A digit with more behind it. -/
def hiByte (n : Nat) : UInt8 := UInt8.ofNat (n % 128 + 128)
theorem hiByte_toNat (n : Nat) : (hiByte n).toNat = n % 128 + 128 := by simp [hiByte]; omega
def numF : Nat → Nat → List UInt8
  | 0, n => [UInt8.ofNat n]
  | f + 1, n => if n < 128 then [UInt8.ofNat n] else hiByte n :: numF f (n / 128)
/-- A number as bytes. -/
def numB (n : Nat) : List UInt8 := numF 9 n
theorem numF_small (f n : Nat) (h : n < 128) : numF f n = [UInt8.ofNat n] := by cases f <;> simp [numF, h]
theorem numF_big (f n : Nat) (h : ¬ n < 128) : numF (f + 1) n = hiByte n :: numF f (n / 128) := by simp [numF, h]
theorem numF_length (f n : Nat) : 1 ≤ (numF f n).length ∧ (numF f n).length ≤ f + 1 := by
  induction f generalizing n with
  | zero => simp [numF]
  | succ f ih =>
    by_cases h : n < 128
    · simp [numF_small _ _ h]
    · have := ih (n / 128)
      simp [numF_big _ _ h]; omega
theorem numB_length (n : Nat) : 1 ≤ (numB n).length ∧ (numB n).length ≤ 10 := numF_length 9 n
/-- How many bytes the number at a list's beginning has; 0: none. -/
def numSize (l : List UInt8) : Nat := match l.findIdx? (fun c => decide (c.toNat < 128)) with | some i => i + 1 | none => 0
theorem numSize_hit (l : List UInt8) (k : Nat) (hk : k < l.length) (h : ∀ j (hj : j < l.length), j < k → ¬ (l[j].toNat : Int) < 128) (hc : (l[k].toNat : Int) < 128) : numSize l = k + 1 := by
  have : l.findIdx? (fun c => decide (c.toNat < 128)) = some k := by
    rw [List.findIdx?_eq_some_iff_getElem]
    refine ⟨hk, by simpa using (by omega : l[k].toNat < 128), fun j hj => ?_⟩
    have := h j (by omega) hj
    simp; omega
  simp [numSize, this]
theorem numSize_miss (l : List UInt8) (h : ∀ j (hj : j < l.length), ¬ (l[j].toNat : Int) < 128) : numSize l = 0 := by
  have : l.findIdx? (fun c => decide (c.toNat < 128)) = none := by
    rw [List.findIdx?_eq_none_iff]
    intro c hc
    obtain ⟨j, hj, rfl⟩ := List.getElem_of_mem hc
    have := h j hj
    simp; omega
  simp [numSize, this]
theorem numSize_le (l : List UInt8) : numSize l ≤ l.length := by
  unfold numSize
  split
  · rename_i i h
    rw [List.findIdx?_eq_some_iff_getElem] at h
    obtain ⟨hk, _⟩ := h
    omega
  · omega
/-- The number that digits make, the lowest first. -/
def numVal (l : List UInt8) : Nat := l.foldr (fun c n => c.toNat % 128 + 128 * n) 0
theorem numVal_cons (c : UInt8) (l : List UInt8) : numVal (c :: l) = c.toNat % 128 + 128 * numVal l := rfl
theorem numVal_lt (l : List UInt8) : numVal l < 128 ^ l.length := by
  induction l with
  | nil => simp [numVal]
  | cons c l ih => rw [numVal_cons, List.length_cons, Nat.pow_succ]; omega
/-- What ReadNumber answers: the number, its size, the error. -/
def readNum (l : List UInt8) : Nat × Nat × Nat :=
  if numSize l = 0 then (0, 0, 1)
  else if 10 < numSize l ∨ (numSize l = 10 ∧ 1 < (l.getD 9 0).toNat) then (0, 0, 3)
  else (numVal (l.take (numSize l)), numSize l, 0)
theorem bits_or_u8_nat (a b : Nat) (ha : a < 256) (hb : b < 256) : bits .or .u8 (a : Int) (b : Int) = ((a ||| b : Nat) : Int) := by
  have hx : a ||| b < 2 ^ 8 := Nat.or_lt_two_pow (by omega) (by omega)
  have h1 : (BitVec.ofInt 8 (a : Int)).toNat = a := by
    rw [BitVec.ofInt_natCast, BitVec.toNat_ofNat]; exact Nat.mod_eq_of_lt (by omega)
  have h2 : (BitVec.ofInt 8 (b : Int)).toNat = b := by
    rw [BitVec.ofInt_natCast, BitVec.toNat_ofNat]; exact Nat.mod_eq_of_lt (by omega)
  show IntKind.u8.wrap ((BitVec.ofInt 8 (a : Int) ||| BitVec.ofInt 8 (b : Int)).toNat : Int) = _
  rw [BitVec.toNat_or, h1, h2]
  show ((_ : Int) % 256) = _
  omega
theorem bits_and_u8_nat (a b : Nat) (ha : a < 256) (hb : b < 256) : bits .and .u8 (a : Int) (b : Int) = ((a &&& b : Nat) : Int) := by
  have hx : a &&& b < 2 ^ 8 := Nat.and_lt_two_pow _ (by omega)
  have h1 : (BitVec.ofInt 8 (a : Int)).toNat = a := by
    rw [BitVec.ofInt_natCast, BitVec.toNat_ofNat]; exact Nat.mod_eq_of_lt (by omega)
  have h2 : (BitVec.ofInt 8 (b : Int)).toNat = b := by
    rw [BitVec.ofInt_natCast, BitVec.toNat_ofNat]; exact Nat.mod_eq_of_lt (by omega)
  show IntKind.u8.wrap ((BitVec.ofInt 8 (a : Int) &&& BitVec.ofInt 8 (b : Int)).toNat : Int) = _
  rw [BitVec.toNat_and, h1, h2]
  show ((_ : Int) % 256) = _
  omega
set_option maxRecDepth 10000 in
theorem or128_fin : ∀ a : Fin 256, (a.val ||| 128) = a.val % 128 + 128 := by decide +kernel
set_option maxRecDepth 10000 in
theorem and127_fin : ∀ a : Fin 256, (a.val &&& 127) = a.val % 128 := by decide +kernel
theorem or128 (n : Nat) : bits .or .u8 ((n : Int) % 256) 128 = ((n % 128 + 128 : Nat) : Int) := by
  have h := bits_or_u8_nat (n % 256) 128 (by omega) (by omega)
  have h2 := or128_fin ⟨n % 256, by omega⟩
  simp only at h2
  rw [h2] at h
  rw [show ((n : Int) % 256) = ((n % 256 : Nat) : Int) from by omega]
  refine h.trans ?_
  omega
theorem and127 (c : UInt8) : bits .and .u8 (c.toNat : Int) 127 = ((c.toNat % 128 : Nat) : Int) := by
  have hc := c.toNat_lt
  have h := bits_and_u8_nat c.toNat 127 (by omega) (by omega)
  have h2 := and127_fin ⟨c.toNat, by omega⟩
  simp only at h2
  rw [h2] at h
  exact h
theorem wrap_u64_small (x : Int) (h0 : 0 ≤ x) (h : x < 18446744073709551616) : IntKind.u64.wrap x = x := by
  rw [IntKind.wrap_u64]; omega
theorem getD_get (l : List UInt8) (i : Nat) (h : i < l.length) : l.getD i 0 = l[i] := by simp [List.getD, h]
theorem or_add_128 (a b : Nat) (hb : b < 128) : (a * 128 ||| b) = b + 128 * a := by
  have h := Nat.two_pow_add_eq_or_of_lt (i := 7) (b := b) (by omega) a
  have e : a * 128 = 2 ^ 7 * a := by omega
  rw [e, ← h]; omega
theorem numVal_drop (T : List UInt8) (j : Nat) (h : j < T.length) : numVal (T.drop j) = T[j].toNat % 128 + 128 * numVal (T.drop (j + 1)) := by
  rw [List.drop_eq_getElem_cons h, numVal_cons]
theorem numVal_drop_le (T : List UInt8) : ∀ j, numVal (T.drop j) ≤ numVal T := by
  intro j
  induction j with
  | zero => simp
  | succ j ih =>
    by_cases h : j < T.length
    · have := numVal_drop T j h; omega
    · rw [List.drop_eq_nil_of_le (by omega)]; simp [numVal]
theorem digit_step (T : List UInt8) (j : Nat) (h : j < T.length) (hT : numVal T < 18446744073709551616) :
    bits .or .u64 (IntKind.u64.wrap (((numVal (T.drop (j + 1)) : Nat) : Int) * 128)) (IntKind.u64.wrap (bits .and .u8 (T[j].toNat : Int) 127)) = ((numVal (T.drop j) : Nat) : Int) := by
  have h1 := numVal_drop T j h
  have h2 := numVal_drop_le T j
  have h3 : T[j].toNat % 128 < 128 := by omega
  rw [and127, wrap_u64_small _ (by omega) (by omega), wrap_u64_small _ (by omega) (by omega)]
  have h4 := bits_or_u64_nat (numVal (T.drop (j + 1)) * 128) (T[j].toNat % 128) (by omega) (by omega)
  rw [or_add_128 _ _ h3] at h4
  rw [h1, ← h4]
  rfl
theorem numVal_ten (T : List UInt8) (h : T.length = 10) (h9 : ¬ 1 < (T.getD 9 0).toNat) : numVal T < 18446744073709551616 := by
  match T, h with
  | [a, b, c, d, e, f, g, i, j, k], _ =>
    simp only [numVal, List.foldr]
    simp at h9
    omega
theorem numVal_nine (T : List UInt8) (h : T.length ≤ 9) : numVal T < 18446744073709551616 := by
  have h1 := numVal_lt T
  have h2 : 128 ^ T.length ≤ 128 ^ 9 := Nat.pow_le_pow_right (by omega) h
  omega
/-- How many bytes ahead have more to come, at most nine. -/
def numMany (l : List UInt8) : Nat := ((l.take 9).takeWhile (fun c => decide (128 ≤ c.toNat))).length
/-- What the document's own NumberAt answers. -/
def numAt (l : List UInt8) : Nat × Nat × Nat :=
  if numMany l = l.length then (0, 0, 1)
  else if numMany l = 9 ∧ 1 < (l.getD 9 0).toNat then (0, 0, 3)
  else (numVal (l.take (numMany l + 1)), numMany l + 1, 0)
theorem numSize_cons (c : UInt8) (l : List UInt8) : numSize (c :: l) = if c.toNat < 128 then 1 else if numSize l = 0 then 0 else numSize l + 1 := by
  unfold numSize
  rw [List.findIdx?_cons]
  by_cases h : c.toNat < 128
  · simp [h]
  · simp only [h, decide_false, Bool.false_eq_true, if_false]
    cases List.findIdx? (fun c => decide (c.toNat < 128)) l <;> simp
theorem numF_read (f n : Nat) (h : n < 128 ^ (f + 1)) (b : List UInt8) : numSize (numF f n ++ b) = (numF f n).length ∧ numVal (numF f n) = n := by
  induction f generalizing n with
  | zero =>
    have h' : n < 128 := by simpa using h
    have e : (UInt8.ofNat n).toNat = n := by simp; omega
    simp [numF, numSize_cons, numVal, e, h']
  | succ f ih =>
    by_cases hs : n < 128
    · have e : (UInt8.ofNat n).toNat = n := by simp; omega
      simp [numF_small _ _ hs, numSize_cons, numVal, e, hs]
    · have := ih (n / 128) (by rw [Nat.pow_succ] at h; omega)
      have hl := (numF_length f (n / 128)).1
      rw [numF_big _ _ hs, List.cons_append, numSize_cons, numVal_cons, hiByte_toNat, this.1, this.2, List.length_cons]
      refine ⟨?_, by omega⟩
      rw [if_neg (by omega), if_neg (by omega)]
theorem numF_last (f n : Nat) (h : n < 128 ^ (f + 1)) : ∃ init last, numF f n = init ++ [last] ∧ last.toNat < 128 := by
  induction f generalizing n with
  | zero =>
    have h' : n < 128 := by simpa using h
    exact ⟨[], UInt8.ofNat n, rfl, by simp; omega⟩
  | succ f ih =>
    by_cases hs : n < 128
    · exact ⟨[], UInt8.ofNat n, by rw [numF_small _ _ hs]; rfl, by simp; omega⟩
    · obtain ⟨i, l, e, hl⟩ := ih (n / 128) (by rw [Nat.pow_succ] at h; omega)
      exact ⟨hiByte n :: i, l, by rw [numF_big _ _ hs, e]; rfl, hl⟩
theorem numVal_snoc (i : List UInt8) (l : UInt8) : numVal (i ++ [l]) = numVal i + 128 ^ i.length * (l.toNat % 128) := by
  induction i with
  | nil => simp [numVal]
  | cons c i ih => rw [List.cons_append, numVal_cons, numVal_cons, ih, List.length_cons, Nat.pow_succ, Nat.mul_add, Nat.mul_comm (128 ^ i.length) 128, Nat.mul_assoc]; omega
theorem numB_read (n : Nat) (h : n < 18446744073709551616) (b : List UInt8) : readNum (numB n ++ b) = (n, (numB n).length, 0) := by
  have h1 := numF_read 9 n (by omega) b
  have hl := numB_length n
  have e1 : numSize (numB n ++ b) = (numB n).length := h1.1
  have e2 : numVal (numB n) = n := h1.2
  obtain ⟨i, l, e3, hlast⟩ := numF_last 9 n (by omega)
  have e3' : numB n = i ++ [l] := e3
  unfold readNum
  rw [e1, if_neg (by omega), if_neg, List.take_left, e2]
  rintro (h' | ⟨h10, h9⟩)
  · omega
  · rw [getD_get _ _ (by simp; omega), List.getElem_append_left (by omega)] at h9
    have hi : i.length = 9 := by have := congrArg List.length e3'; simp at this; omega
    have hg : (numB n)[9] = l := by simp [e3', hi]
    rw [hg] at h9
    rw [e3', numVal_snoc, hi] at e2
    omega
end Go.Proofs.YtkaeogldielkfaaGreat
namespace Go.Proofs.YtkaeogldielkfaaGreat.Lb
/-- A label: name and value. -/
abbrev Lab := List UInt8 × List UInt8
/-! ### the order of texts -/
theorem bl_irrefl : ∀ x : List UInt8, Op.bytesLess x x = false
  | [] => rfl
  | a :: x => by simp [Op.bytesLess, bl_irrefl x]
theorem bl_trans : ∀ {x y z : List UInt8}, Op.bytesLess x y = true → Op.bytesLess y z = true → Op.bytesLess x z = true
  | _, [], _, h, _ => by cases ‹List UInt8› <;> simp [Op.bytesLess] at h
  | _, _ :: _, [], _, h => by simp [Op.bytesLess] at h
  | [], _ :: _, _ :: _, _, _ => rfl
  | a :: x, b :: y, c :: z, h, k => by
    simp only [Op.bytesLess, Bool.or_eq_true, Bool.and_eq_true, decide_eq_true_eq, beq_iff_eq] at h k ⊢
    rcases h with h | ⟨rfl, h⟩
    · rcases k with k | ⟨rfl, k⟩
      · exact .inl (UInt8.lt_trans h k)
      · exact .inl h
    · rcases k with k | ⟨rfl, k⟩
      · exact .inl k
      · exact .inr ⟨rfl, bl_trans h k⟩
theorem bl_tri : ∀ {x y : List UInt8}, Op.bytesLess x y = false → Op.bytesLess y x = false → x = y
  | [], [], _, _ => rfl
  | [], _ :: _, h, _ => by simp [Op.bytesLess] at h
  | _ :: _, [], _, h => by simp [Op.bytesLess] at h
  | a :: x, b :: y, h, k => by
    simp only [Op.bytesLess, Bool.or_eq_false_iff, Bool.and_eq_false_iff, decide_eq_false_iff_not, beq_eq_false_iff_ne] at h k
    have e : a = b := UInt8.toNat_inj.1 (by have h1 := h.1; have k1 := k.1; rw [UInt8.lt_iff_toNat_lt] at h1 k1; omega)
    subst e
    rw [bl_tri (h.2.resolve_left (by simp)) (k.2.resolve_left (by simp))]
theorem bl_asymm {x y : List UInt8} (h : Op.bytesLess x y = true) : Op.bytesLess y x = false := by
  cases e : Op.bytesLess y x with
  | false => rfl
  | true => have := bl_trans h e; rw [bl_irrefl] at this; cases this
theorem bl_ne {x y : List UInt8} (h : Op.bytesLess x y = true) : x ≠ y := by
  rintro rfl; rw [bl_irrefl] at h; cases h
/-! ### names -/
def letB (c : UInt8) : Bool := (decide (97 ≤ c.toNat) && decide (c.toNat ≤ 122)) || (decide (65 ≤ c.toNat) && decide (c.toNat ≤ 90)) || decide (c.toNat = 95)
def digB (c : UInt8) : Bool := decide (48 ≤ c.toNat) && decide (c.toNat ≤ 57)
def nameB (s : List UInt8) : Bool := decide (1 ≤ s.length) && decide (s.length ≤ 40) && s.all (fun c => letB c || digB c) && !digB (s.getD 0 0)
theorem let_dig (c : UInt8) (h : digB c = true) : letB c = false := by
  simp only [digB, letB, Bool.and_eq_true, decide_eq_true_eq] at *
  simp; omega
theorem nameB_iff (s : List UInt8) : nameB s = true ↔ (1 ≤ s.length ∧ s.length ≤ 40 ∧ (∀ i (h : i < s.length), letB s[i] = true ∨ digB s[i] = true) ∧ digB (s.getD 0 0) = false) := by
  simp only [nameB, Bool.and_eq_true, decide_eq_true_eq, List.all_eq_true, Bool.or_eq_true, Bool.not_eq_true']
  constructor
  · rintro ⟨⟨⟨h1, h2⟩, h3⟩, h4⟩
    exact ⟨h1, h2, fun i h => h3 _ (List.getElem_mem h), h4⟩
  · rintro ⟨h1, h2, h3, h4⟩
    refine ⟨⟨⟨h1, h2⟩, fun x hx => ?_⟩, h4⟩
    obtain ⟨i, hi, rfl⟩ := List.getElem_of_mem hx
    exact h3 i hi
theorem nameB_no {s : List UInt8} (h : ¬ (1 ≤ s.length ∧ s.length ≤ 40 ∧ (∀ i (h : i < s.length), letB s[i] = true ∨ digB s[i] = true) ∧ digB (s.getD 0 0) = false)) : nameB s = false := by
  cases e : nameB s with
  | false => rfl
  | true => exact absurd ((nameB_iff s).1 e) h
theorem nameB_len {s : List UInt8} (h : nameB s = true) : 1 ≤ s.length ∧ s.length ≤ 40 := ⟨((nameB_iff s).1 h).1, ((nameB_iff s).1 h).2.1⟩
/-! ### checks -/
/-- What is wrong with a label by itself, if a value has so many bytes at least. -/
def labErr (least : Nat) (x : Lab) : Nat := if nameB x.1 = true ∧ least ≤ x.2.length then (if x.2.length ≤ 100 then 0 else 2) else 1
def eachB (least : Nat) : List Lab → Nat
  | [] => 0
  | x :: l => if labErr least x = 0 then eachB least l else labErr least x
def eachErr (least : Nat) (l : List Lab) : Nat := if l.length ≤ 20 then eachB least l else 2
def twiceB (l : List Lab) : Bool := !decide ((l.map (·.1)).Nodup)
def riseB : List Lab → Bool
  | x :: y :: l => Op.bytesLess x.1 y.1 && riseB (y :: l)
  | _ => true
def checkB (l : List Lab) : Nat := if eachErr 1 l = 0 then (if twiceB l = false then (if riseB l = true then 0 else 4) else 6) else eachErr 1 l
def makeErr (l : List Lab) : Nat := if eachErr 0 l = 0 then (if twiceB l = false then 0 else 6) else eachErr 0 l
theorem eachB_zero {least : Nat} {l : List Lab} : eachB least l = 0 ↔ ∀ x ∈ l, labErr least x = 0 := by
  induction l with
  | nil => simp [eachB]
  | cons x l ih =>
    unfold eachB
    by_cases h : labErr least x = 0
    · rw [if_pos h, ih]; simp [h]
    · rw [if_neg h]; simp [h]
/-- The first fault. -/
theorem eachB_at {least : Nat} {l : List Lab} {k : Nat} (hk : k < l.length) (h : ∀ j (hj : j < l.length), j < k → labErr least l[j] = 0) (hf : labErr least l[k] ≠ 0) : eachB least l = labErr least l[k] := by
  induction l generalizing k with
  | nil => simp at hk
  | cons x l ih =>
    unfold eachB
    cases k with
    | zero => rw [if_neg (show ¬ labErr least x = 0 from hf)]; rfl
    | succ k =>
      rw [if_pos (show labErr least x = 0 from h 0 (by simp) (by omega))]
      exact ih (k := k) (Nat.lt_of_succ_lt_succ hk) (fun j hj hjk => h (j + 1) (Nat.succ_lt_succ hj) (by omega)) hf
theorem eachB_all {least : Nat} {l : List Lab} (h : ∀ j (hj : j < l.length), labErr least l[j] = 0) : eachB least l = 0 :=
  eachB_zero.2 fun x hx => by obtain ⟨i, hi, rfl⟩ := List.getElem_of_mem hx; exact h i hi
theorem labErr_zero {least : Nat} {x : Lab} : labErr least x = 0 ↔ (nameB x.1 = true ∧ least ≤ x.2.length ∧ x.2.length ≤ 100) := by
  unfold labErr
  by_cases h : nameB x.1 = true ∧ least ≤ x.2.length
  · rw [if_pos h]
    by_cases h2 : x.2.length ≤ 100
    · rw [if_pos h2]; simp [h, h2]
    · rw [if_neg h2]; simp [h2]
  · rw [if_neg h]
    constructor
    · intro h; omega
    · rintro ⟨h1, h2, h3⟩; exact absurd ⟨h1, h2⟩ h
theorem eachErr_zero {least : Nat} {l : List Lab} : eachErr least l = 0 ↔ (l.length ≤ 20 ∧ ∀ x ∈ l, nameB x.1 = true ∧ least ≤ x.2.length ∧ x.2.length ≤ 100) := by
  unfold eachErr
  by_cases h : l.length ≤ 20
  · rw [if_pos h, eachB_zero]; simp [labErr_zero, h]
  · rw [if_neg h]; simp [h]
theorem eachErr_names {least : Nat} {l : List Lab} (h : eachErr least l = 0) : l.length ≤ 20 ∧ ∀ x ∈ l, x.1.length ≤ 40 ∧ x.2.length ≤ 100 := by
  obtain ⟨h1, h2⟩ := eachErr_zero.1 h
  exact ⟨h1, fun x hx => ⟨(nameB_len (h2 x hx).1).2, (h2 x hx).2.2⟩⟩
theorem twiceB_false {l : List Lab} : twiceB l = false ↔ ∀ i j (hi : i < l.length) (hj : j < l.length), i < j → l[i].1 ≠ l[j].1 := by
  unfold twiceB
  rw [Bool.not_eq_false', decide_eq_true_iff]
  unfold List.Nodup
  rw [List.pairwise_map, List.pairwise_iff_getElem]
theorem twiceB_true {l : List Lab} {i j : Nat} (hi : i < l.length) (hj : j < l.length) (hij : i < j) (h : l[i].1 = l[j].1) : twiceB l = true := by
  cases e : twiceB l with
  | true => rfl
  | false => exact absurd h (twiceB_false.1 e i j hi hj hij)
theorem riseB_iff : ∀ {l : List Lab}, riseB l = true ↔ ∀ i (hi : i + 1 < l.length), Op.bytesLess l[i].1 l[i + 1].1 = true
  | [] => by simp [riseB]
  | [x] => by simp [riseB]
  | x :: y :: l => by
    rw [riseB, Bool.and_eq_true, riseB_iff]
    constructor
    · rintro ⟨h1, h2⟩ i hi
      cases i with
      | zero => exact h1
      | succ i => exact h2 i (by simpa using hi)
    · intro h
      exact ⟨h 0 (by simp), fun i hi => h (i + 1) (by simpa using hi)⟩
theorem riseB_no {l : List Lab} {i : Nat} (hi : i + 1 < l.length) (h : Op.bytesLess l[i].1 l[i + 1].1 = false) : riseB l = false := by
  cases e : riseB l with
  | false => rfl
  | true => have := riseB_iff.1 e i hi; rw [h] at this; cases this
theorem riseB_far {l : List Lab} (h : riseB l = true) : ∀ i j (hi : i < l.length) (hj : j < l.length), i < j → Op.bytesLess l[i].1 l[j].1 = true := by
  intro i j hi hj hij
  induction j with
  | zero => omega
  | succ j ih =>
    have h1 := riseB_iff.1 h j hj
    by_cases e : i = j
    · subst e; exact h1
    · exact bl_trans (ih (by omega) (by omega)) h1
theorem rise_once {l : List Lab} (h : riseB l = true) : twiceB l = false :=
  twiceB_false.2 fun i j hi hj hij => bl_ne (riseB_far h i j hi hj hij)
theorem checkB_zero {l : List Lab} : checkB l = 0 ↔ (eachErr 1 l = 0 ∧ riseB l = true) := by
  unfold checkB
  by_cases h : eachErr 1 l = 0
  · rw [if_pos h]
    by_cases h2 : riseB l = true
    · rw [if_pos (rise_once h2), if_pos h2]; simp [h, h2]
    · rw [if_neg h2]
      constructor
      · intro h; split at h <;> omega
      · intro h; exact absurd h.2 h2
  · rw [if_neg h]; simp [h]
/-- Labels that rise, as a property that is handy to lead through lists. -/
def Rise (l : List Lab) : Prop := l.Pairwise fun x y => Op.bytesLess x.1 y.1 = true
theorem rise_iff {l : List Lab} : Rise l ↔ riseB l = true := by
  unfold Rise
  rw [List.pairwise_iff_getElem]
  constructor
  · intro h; exact riseB_iff.2 fun i hi => h i (i + 1) (by omega) hi (by omega)
  · intro h i j hi hj hij; exact riseB_far h i j hi hj hij
theorem rise_ext : ∀ {a b : List Lab}, Rise a → Rise b → (∀ y, y ∈ a ↔ y ∈ b) → a = b
  | [], [], _, _, _ => rfl
  | [], y :: b, _, _, h => by have := (h y).2 (by simp); simp at this
  | x :: a, [], _, _, h => by have := (h x).1 (by simp); simp at this
  | x :: a, y :: b, ha, hb, h => by
    unfold Rise at ha hb
    rw [List.pairwise_cons] at ha hb
    have e : x = y := by
      have h1 := (h x).1 (by simp)
      have h2 := (h y).2 (by simp)
      rw [List.mem_cons] at h1 h2
      rcases h1 with h1 | h1
      · exact h1
      · rcases h2 with h2 | h2
        · exact h2.symm
        · have k1 := hb.1 x h1
          have k2 := ha.1 y h2
          rw [bl_asymm k1] at k2
          cases k2
    subst e
    have e2 : a = b := rise_ext ha.2 hb.2 fun z => by
      have hz := h z
      rw [List.mem_cons, List.mem_cons] at hz
      constructor
      · intro hm
        rcases hz.1 (.inr hm) with e | e
        · subst e; have := ha.1 z hm; rw [bl_irrefl] at this; cases this
        · exact e
      · intro hm
        rcases hz.2 (.inr hm) with e | e
        · subst e; have := hb.1 z hm; rw [bl_irrefl] at this; cases this
        · exact e
    rw [e2]
/-! ### a label has a value -/
/-- As the document's package goes: put: is it there already (or not to be there)? -/
def putGo (n v : List UInt8) : Bool → List Lab → List Lab
  | put, [] => if put = true then [] else [(n, v)]
  | put, x :: l =>
    if put = false ∧ Op.bytesLess x.1 n = false then (n, v) :: (if x.1 = n then putGo n v true l else x :: putGo n v true l)
    else if x.1 = n then putGo n v put l else x :: putGo n v put l
def putB (l : List Lab) (n v : List UInt8) : List Lab := putGo n v (decide (v = [])) l
theorem putGo_mem (n v : List UInt8) : ∀ (l : List Lab) (put : Bool) (y : Lab), y ∈ putGo n v put l ↔ (y ∈ l ∧ y.1 ≠ n) ∨ (put = false ∧ y = (n, v))
  | [], put, y => by cases put <;> simp [putGo]
  | x :: l, put, y => by
    unfold putGo
    by_cases h : put = false ∧ Op.bytesLess x.1 n = false
    · rw [if_pos h]
      by_cases e : x.1 = n
      · rw [if_pos e, List.mem_cons, putGo_mem n v l true y]
        constructor
        · rintro (rfl | ⟨hm, hn⟩ | ⟨hf, _⟩)
          · exact .inr ⟨h.1, rfl⟩
          · exact .inl ⟨List.mem_cons_of_mem _ hm, hn⟩
          · cases hf
        · rintro (⟨hm, hn⟩ | ⟨_, rfl⟩)
          · rw [List.mem_cons] at hm
            rcases hm with rfl | hm
            · exact absurd e hn
            · exact .inr (.inl ⟨hm, hn⟩)
          · exact .inl rfl
      · rw [if_neg e, List.mem_cons, List.mem_cons, putGo_mem n v l true y]
        constructor
        · rintro (rfl | rfl | ⟨hm, hn⟩ | ⟨hf, _⟩)
          · exact .inr ⟨h.1, rfl⟩
          · exact .inl ⟨List.mem_cons_self .., e⟩
          · exact .inl ⟨List.mem_cons_of_mem _ hm, hn⟩
          · cases hf
        · rintro (⟨hm, hn⟩ | ⟨_, rfl⟩)
          · rw [List.mem_cons] at hm
            rcases hm with rfl | hm
            · exact .inr (.inl rfl)
            · exact .inr (.inr (.inl ⟨hm, hn⟩))
          · exact .inl rfl
    · rw [if_neg h]
      by_cases e : x.1 = n
      · rw [if_pos e, putGo_mem n v l put y]
        constructor
        · rintro (⟨hm, hn⟩ | h)
          · exact .inl ⟨List.mem_cons_of_mem _ hm, hn⟩
          · exact .inr h
        · rintro (⟨hm, hn⟩ | h)
          · rw [List.mem_cons] at hm
            rcases hm with rfl | hm
            · exact absurd e hn
            · exact .inl ⟨hm, hn⟩
          · exact .inr h
      · rw [if_neg e, List.mem_cons, putGo_mem n v l put y]
        constructor
        · rintro (rfl | ⟨hm, hn⟩ | h)
          · exact .inl ⟨List.mem_cons_self .., e⟩
          · exact .inl ⟨List.mem_cons_of_mem _ hm, hn⟩
          · exact .inr h
        · rintro (⟨hm, hn⟩ | h)
          · rw [List.mem_cons] at hm
            rcases hm with rfl | hm
            · exact .inl rfl
            · exact .inr (.inl ⟨hm, hn⟩)
          · exact .inr (.inr h)
theorem putB_mem (l : List Lab) (n v : List UInt8) (y : Lab) : y ∈ putB l n v ↔ (y ∈ l ∧ y.1 ≠ n) ∨ (v ≠ [] ∧ y = (n, v)) := by
  unfold putB
  rw [putGo_mem]
  simp
theorem putGo_rise (n v : List UInt8) : ∀ (l : List Lab) (put : Bool), Rise l → Rise (putGo n v put l)
  | [], put, _ => by cases put <;> simp [putGo, Rise]
  | x :: l, put, hr => by
    have hr' := hr
    unfold Rise at hr'
    rw [List.pairwise_cons] at hr'
    unfold putGo
    by_cases h : put = false ∧ Op.bytesLess x.1 n = false
    · rw [if_pos h]
      by_cases e : x.1 = n
      · rw [if_pos e]
        unfold Rise
        rw [List.pairwise_cons]
        refine ⟨fun y hy => ?_, putGo_rise n v l true hr'.2⟩
        rw [putGo_mem] at hy
        rcases hy with ⟨hm, _⟩ | ⟨hf, _⟩
        · have := hr'.1 y hm; rw [e] at this; exact this
        · cases hf
      · rw [if_neg e]
        have hxn : Op.bytesLess n x.1 = true := by
          cases k : Op.bytesLess n x.1 with
          | true => rfl
          | false => exact absurd (bl_tri h.2 k) e
        unfold Rise
        rw [List.pairwise_cons, List.pairwise_cons]
        refine ⟨fun y hy => ?_, fun y hy => ?_, putGo_rise n v l true hr'.2⟩
        · rw [List.mem_cons] at hy
          rcases hy with rfl | hy
          · exact hxn
          · rw [putGo_mem] at hy
            rcases hy with ⟨hm, _⟩ | ⟨hf, _⟩
            · exact bl_trans hxn (hr'.1 y hm)
            · cases hf
        · rw [putGo_mem] at hy
          rcases hy with ⟨hm, _⟩ | ⟨hf, _⟩
          · exact hr'.1 y hm
          · cases hf
    · rw [if_neg h]
      by_cases e : x.1 = n
      · rw [if_pos e]; exact putGo_rise n v l put hr'.2
      · rw [if_neg e]
        unfold Rise
        rw [List.pairwise_cons]
        refine ⟨fun y hy => ?_, putGo_rise n v l put hr'.2⟩
        rw [putGo_mem] at hy
        rcases hy with ⟨hm, _⟩ | ⟨hf, rfl⟩
        · exact hr'.1 y hm
        · cases k : Op.bytesLess x.1 n with
          | true => rfl
          | false => exact absurd ⟨hf, k⟩ h
theorem putB_rise {l : List Lab} (h : Rise l) (n v : List UInt8) : Rise (putB l n v) := putGo_rise n v l _ h
def makeStep (out : List Lab) (x : Lab) : List Lab := if x.2 = [] then out else putB out x.1 x.2
def makeL (l : List Lab) : List Lab := l.foldl makeStep []
theorem makeStep_rise {out : List Lab} (h : Rise out) (x : Lab) : Rise (makeStep out x) := by
  unfold makeStep; split; exact h; exact putB_rise h _ _
theorem foldl_rise : ∀ (l out : List Lab), Rise out → Rise (l.foldl makeStep out)
  | [], _, h => h
  | x :: l, out, h => foldl_rise l _ (makeStep_rise h x)
theorem makeL_rise (l : List Lab) : Rise (makeL l) := foldl_rise l [] List.Pairwise.nil
theorem foldl_mem : ∀ (l out : List Lab), (∀ x ∈ l, ∀ y ∈ out, x.1 ≠ y.1) → (l.map (·.1)).Nodup → ∀ y, y ∈ l.foldl makeStep out ↔ y ∈ out ∨ (y ∈ l ∧ y.2 ≠ [])
  | [], out, _, _, y => by simp
  | x :: l, out, h, hn, y => by
    rw [List.map_cons, List.nodup_cons] at hn
    have hx : ∀ z ∈ l, z.1 ≠ x.1 := fun z hz e => hn.1 (e ▸ List.mem_map_of_mem hz)
    have hmem : ∀ z, z ∈ makeStep out x ↔ z ∈ out ∨ (z = x ∧ x.2 ≠ []) := by
      intro z
      unfold makeStep
      split
      · rename_i e; simp [e]
      · rename_i e
        rw [putB_mem]
        constructor
        · rintro (⟨hm, _⟩ | ⟨_, rfl⟩)
          · exact .inl hm
          · exact .inr ⟨rfl, e⟩
        · rintro (hm | ⟨rfl, _⟩)
          · exact .inl ⟨hm, fun e => h x (List.mem_cons_self ..) z hm e.symm⟩
          · exact .inr ⟨e, rfl⟩
    rw [List.foldl_cons, foldl_mem l (makeStep out x) (fun z hz w hw => ?_) hn.2 y, hmem]
    · constructor
      · rintro ((hm | ⟨rfl, hne⟩) | ⟨hm, hne⟩)
        · exact .inl hm
        · exact .inr ⟨List.mem_cons_self .., hne⟩
        · exact .inr ⟨List.mem_cons_of_mem _ hm, hne⟩
      · rintro (hm | ⟨hm, hne⟩)
        · exact .inl (.inl hm)
        · rw [List.mem_cons] at hm
          rcases hm with rfl | hm
          · exact .inl (.inr ⟨rfl, hne⟩)
          · exact .inr ⟨hm, hne⟩
    · rw [hmem] at hw
      rcases hw with hw | ⟨rfl, _⟩
      · exact h z (List.mem_cons_of_mem _ hz) w hw
      · exact hx z hz
theorem makeL_mem {l : List Lab} (h : twiceB l = false) (y : Lab) : y ∈ makeL l ↔ y ∈ l ∧ y.2 ≠ [] := by
  have hn : (l.map (·.1)).Nodup := by simpa [twiceB] using h
  rw [makeL, foldl_mem l [] (by simp) hn y]
  simp
/-- What is left out and sorted is what the document makes. -/
theorem makeL_uniq {l d : List Lab} (h : twiceB l = false) (hd : Rise d) (hm : ∀ y, y ∈ d ↔ y ∈ l ∧ y.2 ≠ []) : d = makeL l :=
  rise_ext hd (makeL_rise l) fun y => by rw [hm, makeL_mem h]
/-! ### values -/
def valueB (l : List Lab) (n : List UInt8) : List UInt8 := match l.find? (fun x => decide (x.1 = n)) with | some x => x.2 | none => []
theorem valueB_at {l : List Lab} {n : List UInt8} {k : Nat} (hk : k < l.length) (h : ∀ j (hj : j < l.length), j < k → l[j].1 ≠ n) (he : l[k].1 = n) : valueB l n = l[k].2 := by
  have : l.find? (fun x => decide (x.1 = n)) = some l[k] := by
    rw [List.find?_eq_some_iff_getElem]
    exact ⟨by simpa using he, k, hk, rfl, fun j hj => by simpa using h j (by omega) hj⟩
  simp [valueB, this]
theorem valueB_mem {l : List Lab} (hr : Rise l) {x : Lab} (hx : x ∈ l) : valueB l x.1 = x.2 := by
  obtain ⟨k, hk, rfl⟩ := List.getElem_of_mem hx
  exact valueB_at hk (fun j hj hjk => bl_ne (riseB_far (rise_iff.1 hr) j k hj hk hjk)) rfl
theorem valueB_le {l : List Lab} {n : List UInt8} {m : Nat} (h : ∀ x ∈ l, x.2.length ≤ m) : (valueB l n).length ≤ m := by
  unfold valueB
  split
  · rename_i x hx
    exact h x (List.mem_of_find?_eq_some hx)
  · simp
def makeAns (l : List Lab) : List Lab := if makeErr l = 0 then makeL l else []
/-! ### sums -/
/-! ### the order of labels -/
def cmpStr (x y : List UInt8) : Int := if Op.bytesLess x y = true then -1 else if Op.bytesLess y x = true then 1 else 0
theorem cmpStr_zero {x y : List UInt8} : cmpStr x y = 0 ↔ x = y := by
  unfold cmpStr
  constructor
  · intro h
    cases h1 : Op.bytesLess x y <;> cases h2 : Op.bytesLess y x <;> simp [h1, h2] at h
    exact bl_tri h1 h2
  · rintro rfl; simp [bl_irrefl]
theorem cmpStr_lt {x y : List UInt8} : cmpStr x y < 0 ↔ Op.bytesLess x y = true := by
  unfold cmpStr
  cases h1 : Op.bytesLess x y <;> cases h2 : Op.bytesLess y x <;> simp
end Go.Proofs.YtkaeogldielkfaaGreat.Lb
namespace Go.Proofs.YtkaeogldielkfaaGreat
/-! ### reading -/
theorem readNum_le (l : List UInt8) : (readNum l).2.1 ≤ l.length ∧ ((readNum l).2.2 = 0 → 1 ≤ (readNum l).2.1) ∧ (readNum l).1 < 18446744073709551616 := by
  have hs := numSize_le l
  unfold readNum
  split
  · simp
  · split
    · simp
    · rename_i h1 h2
      refine ⟨hs, fun _ => by show 1 ≤ numSize l; omega, ?_⟩
      have h3 : numSize l ≤ 10 := by omega
      by_cases h : numSize l = 10
      · exact numVal_ten _ (by rw [List.length_take]; omega) (by rw [List.getD_eq_getElem?_getD, List.getElem?_take_of_lt (by omega), ← List.getD_eq_getElem?_getD]; omega)
      · exact numVal_nine _ (by rw [List.length_take]; omega)
end Go.Proofs.YtkaeogldielkfaaGreat
namespace Go.Proofs.YtkaeogldielkfaaGreat.Lg
/-- One bit of a check. -/
def ckBit (c : Nat) : Nat := if c % 2 = 1 then (c / 2) ^^^ 2197175160 else c / 2
def ckIt : Nat → Nat → Nat
  | 0, c => c
  | k + 1, c => ckBit (ckIt k c)
def ckByte (c : Nat) (b : UInt8) : Nat := ckIt 8 (c ^^^ b.toNat)
def ckFrom (c : Nat) (l : List UInt8) : Nat := l.foldl ckByte c
def ckSum (l : List UInt8) : Nat := ckFrom 4294967295 l ^^^ 4294967295
theorem xor_lt32 {a b : Nat} (ha : a < 4294967296) (hb : b < 4294967296) : a ^^^ b < 4294967296 := Nat.xor_lt_two_pow (n := 32) ha hb
theorem ckBit_lt {c : Nat} (h : c < 4294967296) : ckBit c < 4294967296 := by
  unfold ckBit
  split
  · exact xor_lt32 (by omega) (by decide)
  · omega
theorem ckIt_lt {c : Nat} (h : c < 4294967296) : ∀ k, ckIt k c < 4294967296
  | 0 => h
  | k + 1 => ckBit_lt (ckIt_lt h k)
theorem ckByte_lt {c : Nat} (h : c < 4294967296) (b : UInt8) : ckByte c b < 4294967296 := ckIt_lt (xor_lt32 h (by have := b.toNat_lt; omega)) 8
theorem ckFrom_lt : ∀ (l : List UInt8) {c : Nat}, c < 4294967296 → ckFrom c l < 4294967296
  | [], _, h => h
  | b :: l, _, h => ckFrom_lt l (ckByte_lt h b)
theorem ckSum_lt (l : List UInt8) : ckSum l < 4294967296 := xor_lt32 (ckFrom_lt l (by decide)) (by decide)
theorem ckFrom_snoc (c : Nat) (l : List UInt8) (b : UInt8) : ckFrom c (l ++ [b]) = ckByte (ckFrom c l) b := by simp [ckFrom]
theorem ckFrom_take (c : Nat) (l : List UInt8) (k : Nat) (h : k < l.length) : ckFrom c (l.take (k + 1)) = ckByte (ckFrom c (l.take k)) l[k] := by
  rw [List.take_succ_eq_append_getElem h, ckFrom_snoc]
/-- The lowest eight bits turned by a byte, as the document's own package does it. -/
theorem xor_low (c : Nat) (b : Nat) (hb : b < 256) : c / 256 * 256 + ((c % 256) ^^^ b) = c ^^^ b := by
  have h1 : c = c / 256 * 256 + c % 256 := by omega
  have h2 : (c % 256) ^^^ b < 256 := Nat.xor_lt_two_pow (n := 8) (by omega) hb
  apply Nat.eq_of_testBit_eq
  intro i
  have e : c / 256 * 256 + ((c % 256) ^^^ b) = 2 ^ 8 * (c / 256) + ((c % 256) ^^^ b) := by omega
  rw [e, Nat.testBit_two_pow_mul_add _ h2, Nat.testBit_xor, Nat.testBit_xor]
  have hc : c % 256 = c % 2 ^ 8 := rfl
  by_cases hi : i < 8
  · rw [if_pos hi, hc, Nat.testBit_mod_two_pow]
    simp [hi]
  · rw [if_neg hi]
    have hb2 : b.testBit i = false := Nat.testBit_lt_two_pow (Nat.lt_of_lt_of_le hb (by rw [show 256 = 2 ^ 8 from rfl]; exact Nat.pow_le_pow_right (by decide) (by omega)))
    have h3 : c / 256 = c >>> 8 := by rw [Nat.shiftRight_eq_div_pow]
    rw [hb2, h3, Nat.testBit_shiftRight]
    simp
    congr 1
    omega
/-- Exclusive or by halves. -/
theorem xor_half (a b : Nat) : a ^^^ b = 2 * ((a / 2) ^^^ (b / 2)) + (if a % 2 = b % 2 then 0 else 1) := by
  have h1 : (a ^^^ b) / 2 = (a / 2) ^^^ (b / 2) := Nat.xor_div_two
  have h2 : (a ^^^ b) % 2 = (a % 2) ^^^ (b % 2) := Nat.xor_mod_two_pow (n := 1)
  have key : a ^^^ b = 2 * ((a ^^^ b) / 2) + (a ^^^ b) % 2 := by omega
  have ha : a % 2 = 0 ∨ a % 2 = 1 := by omega
  have hb : b % 2 = 0 ∨ b % 2 = 1 := by omega
  have e : (a % 2) ^^^ (b % 2) = if a % 2 = b % 2 then 0 else 1 := by
    rcases ha with ha | ha <;> rcases hb with hb | hb <;> rw [ha, hb] <;> rfl
  rw [← e, ← h2, ← h1]
  exact key
end Go.Proofs.YtkaeogldielkfaaGreat.Lg
