/- Logs: the records of a log that is made of records, of one that is cut off, and of one that goes on: plain mathematics. -/
import Derived.Test.YtjjjncainakbiaaKit
import Derived.Test.YtjjjncainakbiaaLgP
import Derived.Test.YtjjjncainakbiaaLgT
import Derived.Test.YtjjjncainakbiaaLgN
set_option linter.unusedVariables false
set_option linter.unusedSimpArgs false
namespace Go.Proofs.Ytjjjncainakbiaa.Lg

/-- Where the last record ends, or where the first one begins. -/
def endF : Nat → List (List UInt8 × Nat) → Nat
  | p, [] => p
  | _, x :: X => endF x.2 X
theorem entA_cons {l : List UInt8} {p e : Nat} {r : List UInt8} {X : List (List UInt8 × Nat)} (h : entA l p = (r, e) :: X) : recA l p true = some (r, e) ∧ entA l e = X := by
  rw [entA_eq] at h
  cases hq : recA l p true with
  | none => rw [hq] at h; cases h
  | some y =>
    obtain ⟨r2, e2⟩ := y
    rw [hq] at h
    simp only [List.cons.injEq, Prod.mk.injEq] at h
    obtain ⟨⟨rfl, rfl⟩, h⟩ := h
    exact ⟨rfl, h⟩
theorem endF_ge : ∀ {X : List (List UInt8 × Nat)} {l : List UInt8} {p : Nat}, entA l p = X → p ≤ endF p X ∧ (p ≤ l.length → endF p X ≤ l.length)
  | [], l, p, h => ⟨Nat.le_refl _, fun h => h⟩
  | (r, e) :: X, l, p, h => by
    obtain ⟨h1, h2⟩ := entA_cons h
    have h3 := recA_end h1
    have h4 := endF_ge h2
    exact ⟨by show p ≤ endF e X; omega, fun _ => h4.2 h3.2.1⟩
theorem ents_len : ∀ {X : List (List UInt8 × Nat)} {l : List UInt8} {p : Nat}, entA l p = X → p + 7 * X.length ≤ endF p X
  | [], l, p, h => by simp [endF]
  | (r, e) :: X, l, p, h => by
    obtain ⟨h1, h2⟩ := entA_cons h
    have h3 := recA_end h1
    have h4 := ents_len h2
    show p + 7 * (X.length + 1) ≤ endF e X
    omega
theorem entA_done : ∀ {X : List (List UInt8 × Nat)} {l : List UInt8} {p : Nat}, entA l p = X → entA l (endF p X) = []
  | [], l, p, h => h
  | (r, e) :: X, l, p, h => by
    show entA l (endF e X) = []
    exact entA_done (entA_cons h).2
theorem entA_local : ∀ {X : List (List UInt8 × Nat)} {l m : List UInt8} {p : Nat}, entA l p = X → m.take (endF p X) = l.take (endF p X) → entA m p = X ++ entA m (endF p X)
  | [], l, m, p, h, hm => rfl
  | (r, e) :: X, l, m, p, h, hm => by
    obtain ⟨h1, h2⟩ := entA_cons h
    have h4 := endF_ge h2
    have hm' : m.take (endF e X) = l.take (endF e X) := hm
    have h5 := recA_local l.length (by omega) h1 (take_le hm' h4.1)
    rw [entA_eq, h5]
    simp only [List.cons_append]
    rw [entA_local h2 hm']
    rfl
theorem entA_past (l : List UInt8) (p : Nat) (h : l.length < p + 7) : entA l p = [] := by
  rw [entA_eq]
  cases hq : recA l p true with
  | none => rfl
  | some y =>
    obtain ⟨r, e⟩ := y
    have := recA_end hq
    omega
/-- A record that stands at a byte is read there. -/
theorem recA_app (z t s : List UInt8) : recA (z ++ (appB z.length s ++ t)) z.length true = some (s, z.length + (appB z.length s).length) := by
  have h := recA_cont (2 * s.length + 1) (l := z ++ (appB z.length s ++ t)) (s := s) (p := z.length) (first := true) (by simp) (fun h => by cases h) (by
    rw [List.drop_left]
    show List.take (appB z.length s).length _ = appB z.length s
    exact List.take_left)
  exact h
theorem entA_one (z s : List UInt8) : entA (z ++ appB z.length s) z.length = [(s, (z ++ appB z.length s).length)] := by
  have h := recA_app z [] s
  rw [List.append_nil] at h
  rw [entA_eq, h]
  simp only [List.length_append]
  rw [entA_past _ _ (by rw [List.length_append]; omega)]

/-- A log of records, behind what there is. -/
def logK : List UInt8 → List (List UInt8) → List UInt8
  | z, [] => z
  | z, x :: l => logK (z ++ appB z.length x) l
def entsK : Nat → List (List UInt8) → List (List UInt8 × Nat)
  | _, [] => []
  | n, x :: l => (x, n + (appB n x).length) :: entsK (n + (appB n x).length) l
theorem logK_more : ∀ (l : List (List UInt8)) (z : List UInt8), ∃ t, logK z l = z ++ t
  | [], z => ⟨[], by simp [logK]⟩
  | x :: l, z => by
    obtain ⟨t, ht⟩ := logK_more l (z ++ appB z.length x)
    exact ⟨appB z.length x ++ t, by rw [logK, ht, List.append_assoc]⟩
theorem logK_append : ∀ (a b : List (List UInt8)) (z : List UInt8), logK z (a ++ b) = logK (logK z a) b
  | [], b, z => rfl
  | x :: a, b, z => logK_append a b _
theorem entsK_fst : ∀ (l : List (List UInt8)) (n : Nat), (entsK n l).map (·.1) = l
  | [], n => rfl
  | x :: l, n => by simp [entsK, entsK_fst l]
theorem entsK_length (l : List (List UInt8)) (n : Nat) : (entsK n l).length = l.length := by
  have := congrArg List.length (entsK_fst l n)
  simpa using this
theorem entsK_take : ∀ (l : List (List UInt8)) (n k : Nat), (entsK n l).take k = entsK n (l.take k)
  | l, n, 0 => by simp [entsK]
  | [], n, k + 1 => by simp [entsK]
  | x :: l, n, k + 1 => by simp [entsK, entsK_take l]
theorem entsK_end : ∀ (l : List (List UInt8)) (z : List UInt8), endF z.length (entsK z.length l) = (logK z l).length
  | [], z => rfl
  | x :: l, z => by
    have := entsK_end l (z ++ appB z.length x)
    rw [List.length_append] at this
    exact this
theorem entA_logK : ∀ (l : List (List UInt8)) (z : List UInt8), entA (logK z l) z.length = entsK z.length l
  | [], z => entA_past _ _ (by simp [logK])
  | x :: l, z => by
    obtain ⟨t, ht⟩ := logK_more l (z ++ appB z.length x)
    have h := recA_app z t x
    rw [← List.append_assoc, ← ht] at h
    have ih := entA_logK l (z ++ appB z.length x)
    rw [List.length_append] at ih
    rw [entA_eq]
    show (match recA (logK (z ++ appB z.length x) l) z.length true with | none => [] | some (r, e) => (r, e) :: entA (logK (z ++ appB z.length x) l) e) = _
    rw [h]
    simp only [entsK]
    rw [ih]

/-- A log that is cut off: the records that were whole, and no others. -/
theorem entA_cut (l : List (List UInt8)) (c : Nat) : ∃ k, k ≤ l.length ∧ entA ((logK [] l).take c) 0 = entsK 0 (l.take k) ∧ (logK [] (l.take k)).length ≤ c ∧ (logK [] l).take (logK [] (l.take k)).length = logK [] (l.take k) ∧ (k < l.length → c < (logK [] (l.take (k + 1))).length) := by
  obtain ⟨X, hX⟩ : ∃ X, entA ((logK [] l).take c) 0 = X := ⟨_, rfl⟩
  have hge := endF_ge hX
  have hle := hge.2 (Nat.zero_le _)
  rw [List.length_take] at hle
  have hloc := entA_local (m := logK [] l) hX (by rw [List.take_take, Nat.min_eq_left (by omega)])
  have hS := entA_logK l []
  simp only [List.length_nil] at hS
  rw [hS] at hloc
  have hXk : X = entsK 0 (l.take X.length) := by
    have := congrArg (List.take X.length) hloc
    rw [List.take_left, entsK_take] at this
    exact this.symm
  have hXl : X.length ≤ l.length := by
    have := congrArg List.length hloc
    rw [entsK_length, List.length_append] at this
    omega
  have hend := entsK_end (l.take X.length) []
  simp only [List.length_nil] at hend
  have hpre : ∀ k, (logK [] l).take (logK [] (l.take k)).length = logK [] (l.take k) := fun k => by
    obtain ⟨t, ht⟩ := logK_more (l.drop k) (logK [] (l.take k))
    rw [← logK_append, List.take_append_drop] at ht
    rw [ht]
    exact List.take_left
  refine ⟨X.length, hXl, by rw [hX]; exact hXk, ?_, hpre _, fun hk => ?_⟩
  · rw [← hend, ← hXk]; omega
  · apply Nat.lt_of_not_le
    intro hc
    have h1 := entA_logK (l.take (X.length + 1)) []
    simp only [List.length_nil] at h1
    have hend1 := entsK_end (l.take (X.length + 1)) []
    simp only [List.length_nil] at hend1
    have h2 := entA_local (m := (logK [] l).take c) h1 (by
      rw [hend1, List.take_take, Nat.min_eq_left hc, hpre, List.take_length])
    rw [hX] at h2
    have := congrArg List.length h2
    rw [List.length_append, entsK_length, List.length_take] at this
    omega

/-- What is appended to what is whole is read behind it. -/
theorem entA_goes (s r : List UInt8) : entA (s.take (endF 0 (entA s 0)) ++ appB (endF 0 (entA s 0)) r) 0 = entA s 0 ++ [(r, (s.take (endF 0 (entA s 0)) ++ appB (endF 0 (entA s 0)) r).length)] ∧ endF 0 (entA s 0) ≤ s.length := by
  obtain ⟨X, hX⟩ : ∃ X, entA s 0 = X := ⟨_, rfl⟩
  have hle := (endF_ge hX).2 (Nat.zero_le _)
  rw [hX]
  obtain ⟨n, hn⟩ : ∃ n, n = endF 0 X := ⟨_, rfl⟩
  have hl : (s.take n).length = n := by rw [List.length_take]; omega
  have h1 := entA_local (m := s.take n ++ appB n r) hX (by
    rw [← hn, List.take_append_of_le_length (by omega), List.take_take, Nat.min_self])
  rw [← hn] at h1 hle ⊢
  have h2 := entA_one (s.take n) r
  rw [hl] at h2
  refine ⟨?_, hle⟩
  rw [h1, h2]
end Go.Proofs.Ytjjjncainakbiaa.Lg
