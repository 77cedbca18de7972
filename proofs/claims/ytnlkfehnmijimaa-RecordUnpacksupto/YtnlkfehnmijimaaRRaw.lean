/- The reference's fields, with their bytes as they stand; what they are in the program's: plain mathematics. -/
import Derived.Test.YtnlkfehnmijimaaKit
import Derived.Test.YtnlkfehnmijimaaSpec
import Derived.Test.YtnlkfehnmijimaaSpec2
import Derived.Test.YtnlkfehnmijimaaRNum
set_option linter.unusedVariables false
set_option linter.unusedSimpArgs false
namespace Go.Proofs.Ytnlkfehnmijimaa

theorem takeWhile_ends (p : UInt8 → Bool) : ∀ (l : List UInt8), (∀ j (h : j < l.length), j < (l.takeWhile p).length → p l[j] = true) ∧ ((l.takeWhile p).length = l.length ∨ ∃ h : (l.takeWhile p).length < l.length, p (l[(l.takeWhile p).length]'h) = false)
  | [] => by simp
  | c :: l => by
    have ih := takeWhile_ends p l
    by_cases hc : p c = true
    · simp only [List.takeWhile_cons, hc, if_true, List.length_cons]
      refine ⟨fun j h hj => ?_, ?_⟩
      · cases j with
        | zero => simpa using hc
        | succ j => have := ih.1 j (by simpa using h) (by omega); simpa using this
      · rcases ih.2 with h | ⟨h, h'⟩
        · exact .inl (by omega)
        · exact .inr ⟨by omega, by simpa using h'⟩
    · have hc' : p c = false := by simpa using hc
      simp [List.takeWhile_cons, hc']
theorem numMany_ends (l : List UInt8) : numMany l ≤ l.length ∧ numMany l ≤ 9 ∧ (∀ j (h : j < l.length), j < numMany l → 128 ≤ l[j].toNat) ∧ (numMany l = l.length ∨ numMany l = 9 ∨ ∃ h : numMany l < l.length, (l[numMany l]'h).toNat < 128) := by
  have h := takeWhile_ends (fun c => decide (128 ≤ c.toNat)) (l.take 9)
  have hle : numMany l ≤ (l.take 9).length := by
    unfold numMany
    rcases h.2 with h | ⟨h, _⟩ <;> omega
  rw [List.length_take] at hle
  refine ⟨by omega, by omega, fun j hj hk => ?_, ?_⟩
  · have := h.1 j (by rw [List.length_take]; omega) hk
    rw [List.getElem_take] at this
    simpa using this
  · rcases h.2 with h | ⟨h, h'⟩
    · have : numMany l = min 9 l.length := by unfold numMany; rw [h, List.length_take]
      omega
    · have hm : numMany l < min 9 l.length := by rw [← List.length_take]; exact h
      refine .inr (.inr ⟨by omega, ?_⟩)
      rw [List.getElem_take] at h'
      have h2 : ¬ 128 ≤ (l[numMany l]'(by omega)).toNat := by simpa [numMany] using h'
      omega

/-- Both ways to read a number agree, but for which error. -/
theorem numAt_read (l : List UInt8) : ((numAt l).2.2 = 0 ∧ readNum l = numAt l) ∨ ((numAt l).2.2 ≠ 0 ∧ (readNum l).2.2 ≠ 0) := by
  obtain ⟨h1, h2, h3, h4⟩ := numMany_ends l
  by_cases c1 : numMany l = l.length
  · right
    have hz : numSize l = 0 := numSize_miss l fun j hj => by have := h3 j hj (by omega); omega
    unfold numAt readNum
    rw [if_pos c1, if_pos hz]
    simp
  · by_cases c2 : numMany l = 9 ∧ 1 < (l.getD 9 0).toNat
    · right
      have hl : 9 < l.length := by omega
      have hg := getD_get l 9 hl
      have h9 := c2.2
      rw [hg] at h9
      unfold numAt
      rw [if_neg c1, if_pos c2]
      refine ⟨by simp, ?_⟩
      by_cases c3 : l[9].toNat < 128
      · have hz : numSize l = 10 := numSize_hit l 9 hl (fun j hj hk => by have := h3 j hj (by omega); omega) (by omega)
        unfold readNum
        rw [hz, if_neg (by omega), if_pos (.inr ⟨rfl, c2.2⟩)]
        simp
      · unfold readNum
        by_cases hz : numSize l = 0
        · rw [if_pos hz]; simp
        · by_cases hz2 : 10 < numSize l
          · rw [if_neg hz, if_pos (.inl hz2)]; simp
          · exfalso
            -- a hit at ten or below would be at a byte below 128
            have key : ∀ k, (hk : k < l.length) → numSize l = k + 1 → l[k].toNat < 128 := by
              intro k hk e
              unfold numSize at e
              split at e
              · rename_i i hi
                obtain ⟨hlt, hp, _⟩ := List.findIdx?_eq_some_iff_getElem.1 hi
                have : i = k := by omega
                subst this
                simpa using hp
              · omega
            have hle := numSize_le l
            obtain ⟨k, hk⟩ : ∃ k, numSize l = k + 1 := ⟨numSize l - 1, by omega⟩
            have := key k (by omega) hk
            by_cases e : k = 9
            · subst e; exact c3 this
            · have := h3 k (by omega) (by omega); omega
    · left
      have hlow : ∃ h : numMany l < l.length, (l[numMany l]'h).toNat < 128 := by
        rcases h4 with h | h | h
        · exact absurd h c1
        · have hl : 9 < l.length := by omega
          have h9 : ¬ 1 < (l.getD 9 0).toNat := fun k => c2 ⟨h, k⟩
          rw [getD_get l 9 hl] at h9
          exact ⟨by omega, by simp only [h]; omega⟩
        · exact h
      obtain ⟨hl, hlow⟩ := hlow
      have hz : numSize l = numMany l + 1 := numSize_hit l (numMany l) hl (fun j hj hk => by have := h3 j hj hk; omega) (by omega)
      unfold numAt readNum
      rw [if_neg c1, if_neg c2, hz, if_neg (by omega), if_neg (fun h => by
        rcases h with h | ⟨h, h'⟩
        · omega
        · exact c2 ⟨by omega, h'⟩)]
      exact ⟨rfl, rfl⟩
theorem cutNum_at (l : List UInt8) : cutNum l = if (numAt l).2.2 = 0 then some ((numAt l).1, l.drop (numAt l).2.1) else none := by
  unfold cutNum
  rcases numAt_read l with ⟨h1, h2⟩ | ⟨h1, h2⟩
  · rw [h2, if_pos h1]
  · rw [if_neg h2, if_neg h1]

/-- A field with its bytes as they stand; what it is in the program's. -/
def asFld (f : Fld) : Fld := if f.1 % 8 = 1 then (f.1, lowB f.2.2, []) else if f.1 % 8 = 5 then (f.1, 0, []) else f
def rawField (l : List UInt8) : Option (Fld × List UInt8) :=
  match cutNum l with
  | none => none
  | some (h, r) =>
    if h / 8 < 1 ∨ 536870911 < h / 8 then none
    else if h % 8 = 0 then
      match cutNum r with
      | none => none
      | some (n, r') => some ((h, n, []), r')
    else if h % 8 = 1 then (if 8 ≤ r.length then some ((h, 0, r.take 8), r.drop 8) else none)
    else if h % 8 = 2 then
      match cutNum r with
      | none => none
      | some (n, r') => if n ≤ r'.length then some ((h, 0, r'.take n), r'.drop n) else none
    else if h % 8 = 5 then (if 4 ≤ r.length then some ((h, 0, r.take 4), r.drop 4) else none)
    else none
theorem oneField_raw (l : List UInt8) : oneField l = (rawField l).map fun x => (asFld x.1, x.2) := by
  unfold oneField rawField
  cases cutNum l with
  | none => rfl
  | some x =>
    obtain ⟨h, r⟩ := x
    simp only
    by_cases c0 : h / 8 < 1 ∨ 536870911 < h / 8
    · simp only [c0, if_true, Option.map_none]
    · rw [if_neg c0, if_neg c0]
      by_cases c1 : h % 8 = 0
      · rw [if_pos c1, if_pos c1]
        cases cutNum r with
        | none => rfl
        | some y => simp [asFld, c1]
      · rw [if_neg c1, if_neg c1]
        by_cases c2 : h % 8 = 1
        · rw [if_pos c2, if_pos c2]
          by_cases c : 8 ≤ r.length
          · simp [c, asFld, c2]
          · simp [c]
        · rw [if_neg c2, if_neg c2]
          by_cases c3 : h % 8 = 2
          · rw [if_pos c3, if_pos c3]
            cases cutNum r with
            | none => rfl
            | some y =>
              by_cases c : y.1 ≤ y.2.length
              · simp [c, asFld, c3]
              · simp [c]
          · rw [if_neg c3, if_neg c3]
            by_cases c4 : h % 8 = 5
            · rw [if_pos c4, if_pos c4]
              by_cases c : 4 ≤ r.length
              · simp [c, asFld, c4]
              · simp [c]
            · rw [if_neg c4, if_neg c4]; rfl
def rawF : Nat → List UInt8 → List Fld × Bool
  | 0, _ => ([], true)
  | k + 1, l =>
    if l = [] then ([], true)
    else
      match rawField l with
      | none => ([], false)
      | some (f, r) => (f :: (rawF k r).1, (rawF k r).2)
def raws (l : List UInt8) : List Fld × Bool := rawF l.length l
theorem fieldsF_raw : ∀ (k : Nat) (l : List UInt8), fieldsF k l = ((rawF k l).1.map asFld, (rawF k l).2)
  | 0, l => rfl
  | k + 1, l => by
    simp only [fieldsF, rawF]
    split
    · rfl
    · rw [oneField_raw]
      cases rawField l with
      | none => rfl
      | some x =>
        obtain ⟨f, r⟩ := x
        simp [fieldsF_raw k r]
/-- The program's fields are the reference's, told otherwise. -/
theorem fields_raw (l : List UInt8) : fields l = ((raws l).1.map asFld, (raws l).2) := fieldsF_raw _ _
theorem rawField_shorter {l r : List UInt8} {f : Fld} (h : rawField l = some (f, r)) : r.length < l.length := by
  have e := oneField_raw l
  rw [h] at e
  exact (oneField_shorter e).1
theorem rawF_any : ∀ (k k' : Nat) (l : List UInt8), l.length ≤ k → l.length ≤ k' → rawF k l = rawF k' l := by
  intro k
  induction k with
  | zero =>
    intro k' l h _
    have : l = [] := List.eq_nil_of_length_eq_zero (by omega)
    subst this
    cases k' <;> rfl
  | succ k ih =>
    intro k' l h h'
    cases k' with
    | zero =>
      have : l = [] := List.eq_nil_of_length_eq_zero (by omega)
      subst this
      rfl
    | succ k' =>
      simp only [rawF]
      split
      · rfl
      · split
        · rfl
        · rename_i f r hf
          have := rawField_shorter hf
          rw [ih k' r (by omega) (by omega)]
theorem raws_nil : raws [] = ([], true) := rfl
theorem raws_none {l : List UInt8} (h0 : l ≠ []) (h : rawField l = none) : raws l = ([], false) := by
  cases l with
  | nil => exact absurd rfl h0
  | cons c l => simp [raws, rawF, h]
theorem raws_some {l r : List UInt8} {f : Fld} (h0 : l ≠ []) (h : rawField l = some (f, r)) : raws l = (f :: (raws r).1, (raws r).2) := by
  have hr := rawField_shorter h
  cases l with
  | nil => exact absurd rfl h0
  | cons c l =>
    simp only [List.length_cons] at hr
    simp only [raws, List.length_cons, rawF, List.cons_ne_nil, if_false, h]
    rw [rawF_any l.length r.length r (by omega) (Nat.le_refl _)]

end Go.Proofs.Ytnlkfehnmijimaa
