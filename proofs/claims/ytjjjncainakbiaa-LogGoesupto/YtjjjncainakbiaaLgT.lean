/- Logs: what is read; plain mathematics. -/
import Derived.Test.YtjjjncainakbiaaKit
import Derived.Test.YtjjjncainakbiaaLgS
import Derived.Test.YtjjjncainakbiaaLgP
set_option linter.unusedVariables false
set_option linter.unusedSimpArgs false
namespace Go.Proofs.Ytjjjncainakbiaa.Lg

/-- The number that bytes make, the lowest first. -/
def lowN (l : List UInt8) : Nat := l.foldr (fun c n => c.toNat + 256 * n) 0
theorem lowN_lt (l : List UInt8) : lowN l < 256 ^ l.length := by
  induction l with
  | nil => simp [lowN]
  | cons c l ih =>
    have hc := c.toNat_lt
    have e : lowN (c :: l) = c.toNat + 256 * lowN l := rfl
    rw [e, List.length_cons, Nat.pow_succ]; omega
theorem lowN_drop (T : List UInt8) (j : Nat) (h : j < T.length) : lowN (T.drop j) = T[j].toNat + 256 * lowN (T.drop (j + 1)) := by
  rw [List.drop_eq_getElem_cons h]; rfl
theorem or_add_256n (a b : Nat) (hb : b < 256) : (a * 256 ||| b) = b + 256 * a := by
  have h := Nat.two_pow_add_eq_or_of_lt (i := 8) (b := b) (by omega) a
  have e : a * 256 = 2 ^ 8 * a := by omega
  rw [e, ← h]; omega

/-- The part at a byte, behind noughts: its kind, its bytes, and where it ends. -/
def partAt (l : List UInt8) (at' : Nat) : Option (Nat × List UInt8 × Nat) :=
  if (l.drop at').take (padL at').length ≠ padL at' then none
  else if min (at' + (padL at').length + (128 - (at' + (padL at').length) % 128)) l.length < at' + (padL at').length + 7 then none
  else if min (at' + (padL at').length + (128 - (at' + (padL at').length) % 128)) l.length < at' + (padL at').length + 7 + lowN ((l.drop (at' + (padL at').length + 1)).take 2) then none
  else if ckSum ((l.drop (at' + (padL at').length + 7)).take (lowN ((l.drop (at' + (padL at').length + 1)).take 2))) ≠ lowN ((l.drop (at' + (padL at').length + 3)).take 4) then none
  else some (lowN ((l.drop (at' + (padL at').length)).take 1), (l.drop (at' + (padL at').length + 7)).take (lowN ((l.drop (at' + (padL at').length + 1)).take 2)), at' + (padL at').length + 7 + lowN ((l.drop (at' + (padL at').length + 1)).take 2))
/-- May a part of this kind come? -/
def mayB (k : Nat) (first : Bool) : Bool := if k = 1 ∨ k = 2 then first else if k = 3 ∨ k = 4 then !first else false
def endsB (k : Nat) : Bool := k = 1 ∨ k = 4
/-- A record, from a byte on. -/
def recF : Nat → List UInt8 → Nat → Bool → Option (List UInt8 × Nat)
  | 0, _, _, _ => none
  | f + 1, l, at', first => match partAt l at' with
    | none => none
    | some (k, s, e) => if mayB k first then (if endsB k then some (s, e) else (recF f l e false).map fun r => (s ++ r.1, r.2)) else none
def recA (l : List UInt8) (at' : Nat) (first : Bool) : Option (List UInt8 × Nat) := recF (l.length + 1) l at' first
/-- The records, each with its end. -/
def entF : Nat → List UInt8 → Nat → List (List UInt8 × Nat)
  | 0, _, _ => []
  | f + 1, l, at' => match recA l at' true with
    | none => []
    | some (r, e) => (r, e) :: entF f l e
def entA (l : List UInt8) (at' : Nat) : List (List UInt8 × Nat) := entF (l.length + 1) l at'

theorem partAt_end {l : List UInt8} {at' k e : Nat} {s : List UInt8} (h : partAt l at' = some (k, s, e)) : at' + 7 + s.length ≤ e ∧ e ≤ l.length ∧ s.length ≤ 121 ∧ k < 256 := by
  unfold partAt at h
  split at h
  · cases h
  · split at h
    · cases h
    · split at h
      · cases h
      · split at h
        · cases h
        · rename_i h1 h2 h3 h4
          simp only [Option.some.injEq, Prod.mk.injEq] at h
          obtain ⟨rfl, rfl, rfl⟩ := h
          have := (pad_le at').2
          refine ⟨?_, ?_, ?_, ?_⟩
          · rw [List.length_take]; omega
          · omega
          · rw [List.length_take]; omega
          · have h9 := lowN_lt ((l.drop (at' + (padL at').length)).take 1)
            have h10 : 256 ^ ((l.drop (at' + (padL at').length)).take 1).length ≤ 256 ^ 1 := Nat.pow_le_pow_right (by decide) (by rw [List.length_take]; omega)
            omega
theorem recF_end : ∀ {f : Nat} {l : List UInt8} {at' e : Nat} {first : Bool} {r : List UInt8}, recF f l at' first = some (r, e) → at' + 7 ≤ e ∧ e ≤ l.length ∧ r.length ≤ e - at'
  | 0, _, _, _, _, _, h => by cases h
  | f + 1, l, at', e, first, r, h => by
    unfold recF at h
    split at h
    · cases h
    · rename_i k s e1 hp
      have hpe := partAt_end hp
      split at h
      · split at h
        · cases h; omega
        · cases hq : recF f l e1 false with
          | none => rw [hq] at h; cases h
          | some x =>
            rw [hq] at h
            cases h
            obtain ⟨x1, x2⟩ := x
            have := recF_end hq
            simp only [List.length_append]
            omega
      · cases h
theorem recF_fuel : ∀ {f g : Nat} {l : List UInt8} {at' : Nat} {first : Bool}, l.length < at' + 7 * f → l.length < at' + 7 * g → recF f l at' first = recF g l at' first
  | 0, 0, _, _, _, _, _ => rfl
  | 0, g + 1, l, at', first, hf, hg => by
    unfold recF
    cases hp : partAt l at' with
    | none => rfl
    | some x =>
      obtain ⟨k, s, e⟩ := x
      have := partAt_end hp
      omega
  | f + 1, 0, l, at', first, hf, hg => by
    unfold recF
    cases hp : partAt l at' with
    | none => rfl
    | some x =>
      obtain ⟨k, s, e⟩ := x
      have := partAt_end hp
      omega
  | f + 1, g + 1, l, at', first, hf, hg => by
    unfold recF
    cases hp : partAt l at' with
    | none => rfl
    | some x =>
      obtain ⟨k, s, e⟩ := x
      have := partAt_end hp
      simp only
      rw [recF_fuel (f := f) (g := g) (by omega) (by omega)]
theorem recA_eq (l : List UInt8) (at' : Nat) (first : Bool) : recA l at' first = match partAt l at' with
    | none => none
    | some (k, s, e) => if mayB k first then (if endsB k then some (s, e) else (recA l e false).map fun r => (s ++ r.1, r.2)) else none := by
  rw [recA, recF]
  cases hp : partAt l at' with
  | none => rfl
  | some x =>
    obtain ⟨k, s, e⟩ := x
    have := partAt_end hp
    simp only [recA]
    rw [recF_fuel (f := l.length) (g := l.length + 1) (by omega) (by omega)]
theorem recA_end {l : List UInt8} {at' e : Nat} {first : Bool} {r : List UInt8} (h : recA l at' first = some (r, e)) : at' + 7 ≤ e ∧ e ≤ l.length ∧ r.length ≤ e - at' := recF_end h
theorem entF_fuel : ∀ {f g : Nat} {l : List UInt8} {at' : Nat}, l.length < at' + 7 * f → l.length < at' + 7 * g → entF f l at' = entF g l at'
  | 0, 0, _, _, _, _ => rfl
  | 0, g + 1, l, at', hf, hg => by
    unfold entF
    cases hp : recA l at' true with
    | none => rfl
    | some x =>
      obtain ⟨r, e⟩ := x
      have := recA_end hp
      omega
  | f + 1, 0, l, at', hf, hg => by
    unfold entF
    cases hp : recA l at' true with
    | none => rfl
    | some x =>
      obtain ⟨r, e⟩ := x
      have := recA_end hp
      omega
  | f + 1, g + 1, l, at', hf, hg => by
    unfold entF
    cases hp : recA l at' true with
    | none => rfl
    | some x =>
      obtain ⟨r, e⟩ := x
      have := recA_end hp
      simp only
      rw [entF_fuel (f := f) (g := g) (by omega) (by omega)]
theorem entA_eq (l : List UInt8) (at' : Nat) : entA l at' = match recA l at' true with
    | none => []
    | some (r, e) => (r, e) :: entA l e := by
  rw [entA, entF]
  cases hp : recA l at' true with
  | none => rfl
  | some x =>
    obtain ⟨r, e⟩ := x
    have := recA_end hp
    simp only [entA]
    rw [entF_fuel (f := l.length) (g := l.length + 1) (by omega) (by omega)]
end Go.Proofs.Ytjjjncainakbiaa.Lg
