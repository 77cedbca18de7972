/- What is read: fields of a text; plain mathematics, no program. -/
import Derived.WalkKit
import Derived.Test.YtmdakfmecfcbhaaGreatSpec
set_option linter.unusedVariables false
set_option linter.unusedSimpArgs false
namespace Go.Proofs.YtmdakfmecfcbhaaGreat

/-! ### reading -/
/-- The number that bytes make, the lowest first. -/
def lowB (l : List UInt8) : Nat := l.foldr (fun c n => c.toNat + 256 * n) 0
theorem lowB_lt (l : List UInt8) : lowB l < 256 ^ l.length := by
  induction l with
  | nil => simp [lowB]
  | cons c l ih =>
    have hc := c.toNat_lt
    have e : lowB (c :: l) = c.toNat + 256 * lowB l := rfl
    rw [e, List.length_cons, Nat.pow_succ]; omega
theorem lowB_drop (T : List UInt8) (j : Nat) (h : j < T.length) : lowB (T.drop j) = T[j].toNat + 256 * lowB (T.drop (j + 1)) := by
  rw [List.drop_eq_getElem_cons h]; rfl
theorem lowB_drop_le (T : List UInt8) : ∀ j, lowB (T.drop j) ≤ lowB T := by
  intro j
  induction j with
  | zero => simp
  | succ j ih =>
    by_cases h : j < T.length
    · have := lowB_drop T j h; omega
    · rw [List.drop_eq_nil_of_le (by omega)]; simp [lowB]
theorem or_add_256 (a b : Nat) (hb : b < 256) : (a * 256 ||| b) = b + 256 * a := by
  have h := Nat.two_pow_add_eq_or_of_lt (i := 8) (b := b) (by omega) a
  have e : a * 256 = 2 ^ 8 * a := by omega
  rw [e, ← h]; omega
theorem low_step (T : List UInt8) (j : Nat) (h : j < T.length) (hT : T.length ≤ 8) :
    bits .or .u64 (IntKind.u64.wrap (((lowB (T.drop (j + 1)) : Nat) : Int) * 256)) (T[j].toNat : Int) = ((lowB (T.drop j) : Nat) : Int) := by
  have h1 := lowB_drop T j h
  have h2 := lowB_drop_le T j
  have h3 := T[j].toNat_lt
  have h4 := lowB_lt T
  have h5 : 256 ^ T.length ≤ 256 ^ 8 := Nat.pow_le_pow_right (by omega) hT
  rw [wrap_u64_small _ (by omega) (by omega)]
  have h6 := bits_or_u64_nat (lowB (T.drop (j + 1)) * 256) T[j].toNat (by omega) (by omega)
  rw [or_add_256 _ _ h3] at h6
  rw [h1, ← h6]
  rfl

theorem readNum_le (l : List UInt8) : (readNum l).2.1 ≤ l.length ∧ ((readNum l).2.2 = 0 → 1 ≤ (readNum l).2.1) ∧ (readNum l).1 < 18446744073709551616 := by
  have hs := numSize_le l
  unfold readNum
  split
  · simp
  · split
    · simp
    · rename_i h1 h2
      refine ⟨hs, fun _ => by show 1 ≤ numSize l; omega, ?_⟩
      have h3 : numSize l ≤ 10 := by omega
      by_cases h : numSize l = 10
      · exact numVal_ten _ (by rw [List.length_take]; omega) (by rw [List.getD_eq_getElem?_getD, List.getElem?_take_of_lt (by omega), ← List.getD_eq_getElem?_getD]; omega)
      · exact numVal_nine _ (by rw [List.length_take]; omega)

/-- The number at a beginning, and what is behind it. -/
def cutNum (l : List UInt8) : Option (Nat × List UInt8) := if (readNum l).2.2 = 0 then some ((readNum l).1, l.drop (readNum l).2.1) else none
theorem cutNum_some {l r : List UInt8} {n : Nat} (h : cutNum l = some (n, r)) : n < 18446744073709551616 ∧ r.length + 1 ≤ l.length := by
  unfold cutNum at h
  have hr := readNum_le l
  split at h
  · rename_i h0
    simp at h
    obtain ⟨rfl, rfl⟩ := h
    have := hr.2.1 h0
    exact ⟨hr.2.2, by rw [List.length_drop]; omega⟩
  · simp at h

/-- A field: its head, its number, its bytes. -/
abbrev Fld := Nat × Nat × List UInt8
def oneField (l : List UInt8) : Option (Fld × List UInt8) :=
  match cutNum l with
  | none => none
  | some (h, r) =>
    if h / 8 < 1 ∨ 536870911 < h / 8 then none
    else if h % 8 = 0 then
      match cutNum r with
      | none => none
      | some (n, r') => some ((h, n, []), r')
    else if h % 8 = 1 then (if 8 ≤ r.length then some ((h, lowB (r.take 8), []), r.drop 8) else none)
    else if h % 8 = 2 then
      match cutNum r with
      | none => none
      | some (n, r') => if n ≤ r'.length then some ((h, 0, r'.take n), r'.drop n) else none
    else if h % 8 = 5 then (if 4 ≤ r.length then some ((h, 0, []), r.drop 4) else none)
    else none
/-- The fields of a text, as far as they go, and whether they go to its end. -/
def fieldsF : Nat → List UInt8 → List Fld × Bool
  | 0, _ => ([], true)
  | k + 1, l =>
    if l = [] then ([], true)
    else
      match oneField l with
      | none => ([], false)
      | some (f, r) => (f :: (fieldsF k r).1, (fieldsF k r).2)
def fields (l : List UInt8) : List Fld × Bool := fieldsF l.length l

theorem oneField_shorter {l r : List UInt8} {f : Fld} (h : oneField l = some (f, r)) : r.length < l.length ∧ f.1 < 18446744073709551616 ∧ f.2.1 < 18446744073709551616 ∧ f.2.2.length ≤ l.length := by
  unfold oneField at h
  split at h
  · simp at h
  · rename_i hd r0 h0
    have c0 := cutNum_some h0
    split at h
    · simp at h
    · split at h
      · split at h
        · simp at h
        · rename_i n r1 h1
          have c1 := cutNum_some h1
          simp at h
          obtain ⟨rfl, rfl⟩ := h
          exact ⟨by omega, c0.1, c1.1, by simp⟩
      · split at h
        · split at h
          · rename_i hle
            simp at h
            obtain ⟨rfl, rfl⟩ := h
            have hl := lowB_lt (r0.take 8)
            have : (r0.take 8).length = 8 := by rw [List.length_take]; omega
            rw [this] at hl
            exact ⟨by rw [List.length_drop]; omega, c0.1, by simp at hl ⊢; omega, by simp⟩
          · simp at h
        · split at h
          · split at h
            · simp at h
            · rename_i n r1 h1
              have c1 := cutNum_some h1
              split at h
              · simp at h
                obtain ⟨rfl, rfl⟩ := h
                exact ⟨by rw [List.length_drop]; omega, c0.1, by simp, by simp; omega⟩
              · simp at h
          · split at h
            · split at h
              · simp at h
                obtain ⟨rfl, rfl⟩ := h
                exact ⟨by rw [List.length_drop]; omega, c0.1, by simp, by simp⟩
              · simp at h
            · simp at h

theorem fieldsF_any : ∀ (k k' : Nat) (l : List UInt8), l.length ≤ k → l.length ≤ k' → fieldsF k l = fieldsF k' l := by
  intro k
  induction k with
  | zero =>
    intro k' l h _
    have : l = [] := List.eq_nil_of_length_eq_zero (by omega)
    subst this
    cases k' <;> rfl
  | succ k ih =>
    intro k' l h h'
    cases k' with
    | zero =>
      have : l = [] := List.eq_nil_of_length_eq_zero (by omega)
      subst this
      rfl
    | succ k' =>
      simp only [fieldsF]
      split
      · rfl
      · split
        · rfl
        · rename_i f r hf
          have := (oneField_shorter hf).1
          rw [ih k' r (by omega) (by omega)]
theorem fields_nil : fields [] = ([], true) := rfl
theorem fields_none {l : List UInt8} (h0 : l ≠ []) (h : oneField l = none) : fields l = ([], false) := by
  cases l with
  | nil => exact absurd rfl h0
  | cons c l => simp [fields, fieldsF, h]
theorem fields_some {l r : List UInt8} {f : Fld} (h0 : l ≠ []) (h : oneField l = some (f, r)) : fields l = (f :: (fields r).1, (fields r).2) := by
  have hr := (oneField_shorter h).1
  cases l with
  | nil => exact absurd rfl h0
  | cons c l =>
    simp only [List.length_cons] at hr
    simp only [fields, List.length_cons, fieldsF, List.cons_ne_nil, if_false, h]
    rw [fieldsF_any l.length r.length r (by omega) (Nat.le_refl _)]

end Go.Proofs.YtmdakfmecfcbhaaGreat
