/- 5 texts in one. -/
import Derived.Test.YtkaeogldielkfaaGreatKabe2b5f
import Derived.Test.YtkaeogldielkfaaGreatKa96aaab
set_option linter.unusedVariables false
set_option linter.unusedSimpArgs false
namespace Go.Proofs.YtkaeogldielkfaaGreat.Lg
/-- Noughts up to a page's end, where no head fits. -/
def padL (at' : Nat) : List UInt8 := if 128 - at' % 128 < 7 then List.replicate (128 - at' % 128) 0 else []
def le4 (n : Nat) : List UInt8 := [UInt8.ofNat n, UInt8.ofNat (n / 256), UInt8.ofNat (n / 65536), UInt8.ofNat (n / 16777216)]
def headB (k n c : Nat) : List UInt8 := UInt8.ofNat k :: UInt8.ofNat n :: UInt8.ofNat (n / 256) :: le4 c
def partB (k : Nat) (s : List UInt8) : List UInt8 := headB k s.length (ckSum s) ++ s
/-- How many bytes a part may have, behind the noughts. -/
def room (at' : Nat) : Nat := 121 - (at' + (padL at').length) % 128
/-- Parts behind the first one: each in a page of its own. -/
def restB (s : List UInt8) : List UInt8 := if h : s.length ≤ 121 then partB 4 s else partB 3 (s.take 121) ++ restB (s.drop 121)
termination_by s.length
decreasing_by rw [List.length_drop]; omega
def appB (at' : Nat) (s : List UInt8) : List UInt8 := padL at' ++ (if s.length ≤ room at' then partB 1 s else partB 2 (s.take (room at')) ++ restB (s.drop (room at')))
theorem headB_length (k n c : Nat) : (headB k n c).length = 7 := rfl
theorem partB_length (k : Nat) (s : List UInt8) : (partB k s).length = 7 + s.length := by rw [partB, List.length_append, headB_length]
theorem padL_length (at' : Nat) : (padL at').length = if 128 - at' % 128 < 7 then 128 - at' % 128 else 0 := by
  unfold padL
  split <;> simp
theorem pad_le (at' : Nat) : (padL at').length ≤ 6 ∧ (at' + (padL at').length) % 128 ≤ 121 := by
  rw [padL_length]
  split <;> omega
/-- The number that bytes make, the lowest first. -/
def lowN (l : List UInt8) : Nat := l.foldr (fun c n => c.toNat + 256 * n) 0
theorem lowN_lt (l : List UInt8) : lowN l < 256 ^ l.length := by
  induction l with
  | nil => simp [lowN]
  | cons c l ih =>
    have hc := c.toNat_lt
    have e : lowN (c :: l) = c.toNat + 256 * lowN l := rfl
    rw [e, List.length_cons, Nat.pow_succ]; omega
theorem lowN_drop (T : List UInt8) (j : Nat) (h : j < T.length) : lowN (T.drop j) = T[j].toNat + 256 * lowN (T.drop (j + 1)) := by
  rw [List.drop_eq_getElem_cons h]; rfl
theorem or_add_256n (a b : Nat) (hb : b < 256) : (a * 256 ||| b) = b + 256 * a := by
  have h := Nat.two_pow_add_eq_or_of_lt (i := 8) (b := b) (by omega) a
  have e : a * 256 = 2 ^ 8 * a := by omega
  rw [e, ← h]; omega
/-- The part at a byte, behind noughts: its kind, its bytes, and where it ends. -/
def partAt (l : List UInt8) (at' : Nat) : Option (Nat × List UInt8 × Nat) :=
  if (l.drop at').take (padL at').length ≠ padL at' then none
  else if min (at' + (padL at').length + (128 - (at' + (padL at').length) % 128)) l.length < at' + (padL at').length + 7 then none
  else if min (at' + (padL at').length + (128 - (at' + (padL at').length) % 128)) l.length < at' + (padL at').length + 7 + lowN ((l.drop (at' + (padL at').length + 1)).take 2) then none
  else if ckSum ((l.drop (at' + (padL at').length + 7)).take (lowN ((l.drop (at' + (padL at').length + 1)).take 2))) ≠ lowN ((l.drop (at' + (padL at').length + 3)).take 4) then none
  else some (lowN ((l.drop (at' + (padL at').length)).take 1), (l.drop (at' + (padL at').length + 7)).take (lowN ((l.drop (at' + (padL at').length + 1)).take 2)), at' + (padL at').length + 7 + lowN ((l.drop (at' + (padL at').length + 1)).take 2))
/-- May a part of this kind come? -/
def mayB (k : Nat) (first : Bool) : Bool := if k = 1 ∨ k = 2 then first else if k = 3 ∨ k = 4 then !first else false
def endsB (k : Nat) : Bool := k = 1 ∨ k = 4
/-- A record, from a byte on. -/
def recF : Nat → List UInt8 → Nat → Bool → Option (List UInt8 × Nat)
  | 0, _, _, _ => none
  | f + 1, l, at', first => match partAt l at' with
    | none => none
    | some (k, s, e) => if mayB k first then (if endsB k then some (s, e) else (recF f l e false).map fun r => (s ++ r.1, r.2)) else none
def recA (l : List UInt8) (at' : Nat) (first : Bool) : Option (List UInt8 × Nat) := recF (l.length + 1) l at' first
/-- The records, each with its end. -/
def entF : Nat → List UInt8 → Nat → List (List UInt8 × Nat)
  | 0, _, _ => []
  | f + 1, l, at' => match recA l at' true with
    | none => []
    | some (r, e) => (r, e) :: entF f l e
def entA (l : List UInt8) (at' : Nat) : List (List UInt8 × Nat) := entF (l.length + 1) l at'
theorem partAt_end {l : List UInt8} {at' k e : Nat} {s : List UInt8} (h : partAt l at' = some (k, s, e)) : at' + 7 + s.length ≤ e ∧ e ≤ l.length ∧ s.length ≤ 121 ∧ k < 256 := by
  unfold partAt at h
  split at h
  · cases h
  · split at h
    · cases h
    · split at h
      · cases h
      · split at h
        · cases h
        · rename_i h1 h2 h3 h4
          simp only [Option.some.injEq, Prod.mk.injEq] at h
          obtain ⟨rfl, rfl, rfl⟩ := h
          have := (pad_le at').2
          refine ⟨?_, ?_, ?_, ?_⟩
          · rw [List.length_take]; omega
          · omega
          · rw [List.length_take]; omega
          · have h9 := lowN_lt ((l.drop (at' + (padL at').length)).take 1)
            have h10 : 256 ^ ((l.drop (at' + (padL at').length)).take 1).length ≤ 256 ^ 1 := Nat.pow_le_pow_right (by decide) (by rw [List.length_take]; omega)
            omega
theorem recF_end : ∀ {f : Nat} {l : List UInt8} {at' e : Nat} {first : Bool} {r : List UInt8}, recF f l at' first = some (r, e) → at' + 7 ≤ e ∧ e ≤ l.length ∧ r.length ≤ e - at'
  | 0, _, _, _, _, _, h => by cases h
  | f + 1, l, at', e, first, r, h => by
    unfold recF at h
    split at h
    · cases h
    · rename_i k s e1 hp
      have hpe := partAt_end hp
      split at h
      · split at h
        · cases h; omega
        · cases hq : recF f l e1 false with
          | none => rw [hq] at h; cases h
          | some x =>
            rw [hq] at h
            cases h
            obtain ⟨x1, x2⟩ := x
            have := recF_end hq
            simp only [List.length_append]
            omega
      · cases h
theorem recF_fuel : ∀ {f g : Nat} {l : List UInt8} {at' : Nat} {first : Bool}, l.length < at' + 7 * f → l.length < at' + 7 * g → recF f l at' first = recF g l at' first
  | 0, 0, _, _, _, _, _ => rfl
  | 0, g + 1, l, at', first, hf, hg => by
    unfold recF
    cases hp : partAt l at' with
    | none => rfl
    | some x =>
      obtain ⟨k, s, e⟩ := x
      have := partAt_end hp
      omega
  | f + 1, 0, l, at', first, hf, hg => by
    unfold recF
    cases hp : partAt l at' with
    | none => rfl
    | some x =>
      obtain ⟨k, s, e⟩ := x
      have := partAt_end hp
      omega
  | f + 1, g + 1, l, at', first, hf, hg => by
    unfold recF
    cases hp : partAt l at' with
    | none => rfl
    | some x =>
      obtain ⟨k, s, e⟩ := x
      have := partAt_end hp
      simp only
      rw [recF_fuel (f := f) (g := g) (by omega) (by omega)]
theorem recA_eq (l : List UInt8) (at' : Nat) (first : Bool) : recA l at' first = match partAt l at' with
    | none => none
    | some (k, s, e) => if mayB k first then (if endsB k then some (s, e) else (recA l e false).map fun r => (s ++ r.1, r.2)) else none := by
  rw [recA, recF]
  cases hp : partAt l at' with
  | none => rfl
  | some x =>
    obtain ⟨k, s, e⟩ := x
    have := partAt_end hp
    simp only [recA]
    rw [recF_fuel (f := l.length) (g := l.length + 1) (by omega) (by omega)]
theorem recA_end {l : List UInt8} {at' e : Nat} {first : Bool} {r : List UInt8} (h : recA l at' first = some (r, e)) : at' + 7 ≤ e ∧ e ≤ l.length ∧ r.length ≤ e - at' := recF_end h
theorem entF_fuel : ∀ {f g : Nat} {l : List UInt8} {at' : Nat}, l.length < at' + 7 * f → l.length < at' + 7 * g → entF f l at' = entF g l at'
  | 0, 0, _, _, _, _ => rfl
  | 0, g + 1, l, at', hf, hg => by
    unfold entF
    cases hp : recA l at' true with
    | none => rfl
    | some x =>
      obtain ⟨r, e⟩ := x
      have := recA_end hp
      omega
  | f + 1, 0, l, at', hf, hg => by
    unfold entF
    cases hp : recA l at' true with
    | none => rfl
    | some x =>
      obtain ⟨r, e⟩ := x
      have := recA_end hp
      omega
  | f + 1, g + 1, l, at', hf, hg => by
    unfold entF
    cases hp : recA l at' true with
    | none => rfl
    | some x =>
      obtain ⟨r, e⟩ := x
      have := recA_end hp
      simp only
      rw [entF_fuel (f := f) (g := g) (by omega) (by omega)]
theorem entA_eq (l : List UInt8) (at' : Nat) : entA l at' = match recA l at' true with
    | none => []
    | some (r, e) => (r, e) :: entA l e := by
  rw [entA, entF]
  cases hp : recA l at' true with
  | none => rfl
  | some x =>
    obtain ⟨r, e⟩ := x
    have := recA_end hp
    simp only [entA]
    rw [entF_fuel (f := l.length) (g := l.length + 1) (by omega) (by omega)]
theorem lowN_cons (c : UInt8) (l : List UInt8) : lowN (c :: l) = c.toNat + 256 * lowN l := rfl
theorem byte_back (c : UInt8) (n : Nat) (h : n = c.toNat) : UInt8.ofNat n = c := by subst h; simp
theorem byte_back2 (c : UInt8) (n : Nat) (h : n % 256 = c.toNat) : UInt8.ofNat n = c := by
  apply UInt8.toNat_inj.1
  simpa using h
theorem le4_low (a b c d : UInt8) : le4 (lowN [a, b, c, d]) = [a, b, c, d] := by
  have ha := a.toNat_lt
  have hb := b.toNat_lt
  have hc := c.toNat_lt
  have hd := d.toNat_lt
  simp only [le4, lowN_cons]
  have e : lowN [] = 0 := rfl
  rw [e, byte_back2 a _ (by omega), byte_back2 b _ (by omega), byte_back2 c _ (by omega), byte_back2 d _ (by omega)]
theorem low_le4 (n : Nat) (h : n < 4294967296) : lowN (le4 n) = n := by
  simp only [le4, lowN_cons]
  have e : lowN [] = 0 := rfl
  rw [e]
  simp
  omega
theorem drop_get (l : List UInt8) (i : Nat) (h : i < l.length) : l.drop i = l[i] :: l.drop (i + 1) := List.drop_eq_getElem_cons h
theorem take_succ (l : List UInt8) (i k : Nat) (h : i < l.length) : (l.drop i).take (k + 1) = l[i] :: (l.drop (i + 1)).take k := by rw [drop_get l i h]; rfl
/-- The bytes of a head and what is behind it. -/
theorem head_is (l : List UInt8) (a n : Nat) (h : a + 7 + n ≤ l.length) : (l.drop a).take (7 + n) = [l[a], l[a + 1], l[a + 2], l[a + 3], l[a + 4], l[a + 5], l[a + 6]] ++ (l.drop (a + 7)).take n := by
  rw [show 7 + n = n + 6 + 1 from by omega, take_succ l a _ (by omega), take_succ l (a + 1) _ (by omega), take_succ l (a + 1 + 1) _ (by omega), take_succ l (a + 1 + 1 + 1) _ (by omega), take_succ l (a + 1 + 1 + 1 + 1) _ (by omega), take_succ l (a + 1 + 1 + 1 + 1 + 1) _ (by omega), take_succ l (a + 1 + 1 + 1 + 1 + 1 + 1) _ (by omega)]
  rfl
theorem low_one (l : List UInt8) (a : Nat) (h : a < l.length) : lowN ((l.drop a).take 1) = l[a].toNat := by
  rw [take_succ l a 0 h]; rfl
theorem low_two (l : List UInt8) (a : Nat) (h : a + 1 < l.length) : lowN ((l.drop a).take 2) = l[a].toNat + 256 * l[a + 1].toNat := by
  rw [take_succ l a 1 (by omega), take_succ l (a + 1) 0 h]; rfl
theorem low_four (l : List UInt8) (a : Nat) (h : a + 3 < l.length) : (l.drop a).take 4 = [l[a], l[a + 1], l[a + 2], l[a + 3]] := by
  rw [take_succ l a 3 (by omega), take_succ l (a + 1) 2 (by omega), take_succ l (a + 1 + 1) 1 (by omega), take_succ l (a + 1 + 1 + 1) 0 (by omega)]; rfl
/-- A part stands there just if its own bytes do. -/
theorem partAt_ref {l : List UInt8} {p a : Nat} (ha : a = p + (padL p).length) (hz : (l.drop p).take (padL p).length = padL p) (h7 : a + 7 ≤ l.length) :
    partAt l p = if l.length < a + 7 + (l[a + 1].toNat + 256 * l[a + 2].toNat) ∨ 128 < a % 128 + 7 + (l[a + 1].toNat + 256 * l[a + 2].toNat) then none
      else if partB l[a].toNat ((l.drop (a + 7)).take (l[a + 1].toNat + 256 * l[a + 2].toNat)) = (l.drop a).take (7 + (l[a + 1].toNat + 256 * l[a + 2].toNat)) then some (l[a].toNat, (l.drop (a + 7)).take (l[a + 1].toNat + 256 * l[a + 2].toNat), a + 7 + (l[a + 1].toNat + 256 * l[a + 2].toNat)) else none := by
  have hm := (pad_le p).2
  rw [← ha] at hm
  unfold partAt
  rw [if_neg (fun h => h hz), ← ha, if_neg (by omega), low_two l (a + 1) (by omega), low_one l a (by omega), low_four l (a + 3) (by omega)]
  generalize hn : l[a + 1].toNat + 256 * l[a + 2].toNat = n
  by_cases h1 : l.length < a + 7 + n ∨ 128 < a % 128 + 7 + n
  · rw [if_pos h1, if_pos (by omega)]
  · rw [if_neg h1, if_neg (by omega)]
    have hlen : ((l.drop (a + 7)).take n).length = n := by rw [List.length_take, List.length_drop]; omega
    have hpb : partB l[a].toNat ((l.drop (a + 7)).take n) = [l[a], l[a + 1], l[a + 2]] ++ le4 (ckSum ((l.drop (a + 7)).take n)) ++ (l.drop (a + 7)).take n := by
      unfold partB headB
      rw [hlen, byte_back l[a] _ rfl, byte_back2 l[a + 1] n (by have := l[a + 1].toNat_lt; omega), byte_back2 l[a + 2] (n / 256) (by have := l[a + 1].toNat_lt; have := l[a + 2].toNat_lt; omega)]
      rfl
    rw [hpb, head_is l a n (by omega)]
    have hiff : ([l[a], l[a + 1], l[a + 2]] ++ le4 (ckSum ((l.drop (a + 7)).take n)) ++ (l.drop (a + 7)).take n = [l[a], l[a + 1], l[a + 2], l[a + 3], l[a + 4], l[a + 5], l[a + 6]] ++ (l.drop (a + 7)).take n) ↔ ckSum ((l.drop (a + 7)).take n) = lowN [l[a + 3], l[a + 3 + 1], l[a + 3 + 2], l[a + 3 + 3]] := by
      constructor
      · intro h
        have h2 := List.append_cancel_right h
        have h3 : le4 (ckSum ((l.drop (a + 7)).take n)) = [l[a + 3], l[a + 4], l[a + 5], l[a + 6]] := by
          have := congrArg (List.drop 3) h2
          exact this
        have h4 := low_le4 _ (ckSum_lt ((l.drop (a + 7)).take n))
        rw [h3] at h4
        exact h4.symm
      · intro h
        rw [h, le4_low]
        rfl
    by_cases hc : ckSum ((l.drop (a + 7)).take n) = lowN [l[a + 3], l[a + 3 + 1], l[a + 3 + 2], l[a + 3 + 3]]
    · rw [if_neg (fun h => h hc), if_pos (hiff.2 hc)]
    · rw [if_pos hc, if_neg (fun h => hc (hiff.1 h))]
/-- What is still to be read, with what has been read of a record. -/
def restE (l : List UInt8) (p : Nat) (inn : Bool) (opn : List UInt8) : List (List UInt8 × Nat) := match recA l p (!inn) with
  | none => []
  | some (r, e) => (opn ++ r, e) :: entA l e
theorem restE_none {l : List UInt8} {p : Nat} {inn : Bool} {opn : List UInt8} (h : partAt l p = none) : restE l p inn opn = [] := by
  unfold restE
  rw [recA_eq, h]
theorem restE_bad {l : List UInt8} {p k e : Nat} {inn : Bool} {opn s : List UInt8} (h : partAt l p = some (k, s, e)) (hm : mayB k (!inn) = false) : restE l p inn opn = [] := by
  unfold restE
  rw [recA_eq, h]
  simp [hm]
theorem restE_end {l : List UInt8} {p k e : Nat} {inn : Bool} {opn s : List UInt8} (h : partAt l p = some (k, s, e)) (hm : mayB k (!inn) = true) (he : endsB k = true) : restE l p inn opn = (opn ++ s, e) :: entA l e := by
  unfold restE
  rw [recA_eq, h]
  simp [hm, he]
theorem restE_on {l : List UInt8} {p k e : Nat} {inn : Bool} {opn s : List UInt8} (h : partAt l p = some (k, s, e)) (hm : mayB k (!inn) = true) (he : endsB k = false) : restE l p inn opn = restE l e true (opn ++ s) := by
  unfold restE
  rw [recA_eq, h]
  simp only [hm, he, if_true, Bool.not_true, Bool.false_eq_true, if_false]
  cases recA l e false with
  | none => rfl
  | some x => simp [List.append_assoc]
theorem restE_new (l : List UInt8) (p : Nat) : restE l p false [] = entA l p := by
  unfold restE
  rw [entA_eq]
  simp only [Bool.not_false, List.nil_append]
  all_goals (cases recA l p true <;> rfl)
/-- A part stands at a byte just if the noughts and its bytes do. -/
theorem stands {l s : List UInt8} {p k e : Nat} : partAt l p = some (k, s, e) ↔ k < 256 ∧ (p + (padL p).length) % 128 + 7 + s.length ≤ 128 ∧ e = p + (padL p).length + 7 + s.length ∧ (l.drop p).take ((padL p).length + (7 + s.length)) = padL p ++ partB k s := by
  constructor
  · intro h
    by_cases hz : (l.drop p).take (padL p).length = padL p
    · have hpe := partAt_end h
      have hl : (padL p).length ≤ l.length - p := by
        have := congrArg List.length hz
        rw [List.length_take, List.length_drop] at this
        omega
      obtain ⟨a, ha⟩ : ∃ a, a = p + (padL p).length := ⟨_, rfl⟩
      by_cases h7 : a + 7 ≤ l.length
      · rw [partAt_ref ha hz h7] at h
        split at h
        · cases h
        · split at h
          · rename_i h1 h2
            simp only [Option.some.injEq, Prod.mk.injEq] at h
            obtain ⟨hk, hs, he⟩ := h
            have hn : s.length = l[a + 1].toNat + 256 * l[a + 2].toNat := by
              rw [← hs, List.length_take, List.length_drop]
              omega
            rw [← hn] at h1 h2 he hs
            rw [hk, hs] at h2
            refine ⟨hpe.2.2.2, by rw [← ha]; omega, by rw [← ha]; exact he.symm, ?_⟩
            rw [List.take_add, hz, List.drop_drop, ← ha, ← h2]
          · cases h
      · unfold partAt at h
        rw [if_neg (fun h => h hz), ← ha, if_pos (by omega)] at h
        cases h
    · unfold partAt at h
      rw [if_pos hz] at h
      cases h
  · rintro ⟨hk, hm, he, ht⟩
    have hlen := congrArg List.length ht
    rw [List.length_take, List.length_drop, List.length_append, partB_length] at hlen
    have hz : (l.drop p).take (padL p).length = padL p := by
      have := congrArg (List.take (padL p).length) ht
      rw [List.take_take, Nat.min_eq_left (by omega), List.take_left] at this
      exact this
    obtain ⟨a, ha⟩ : ∃ a, a = p + (padL p).length := ⟨_, rfl⟩
    have h7 : a + 7 ≤ l.length := by omega
    have hb : (l.drop a).take (7 + s.length) = partB k s := by
      have := congrArg (List.drop (padL p).length) ht
      rw [List.drop_left, ← List.take_drop, List.drop_drop, ← ha] at this
      rw [← this]
    rw [← ha] at he hm
    have hb2 := hb
    rw [head_is l a s.length (by omega)] at hb2
    unfold partB headB at hb2
    simp only [List.cons_append, List.cons.injEq, List.nil_append] at hb2
    obtain ⟨e0, e1, e2, e3⟩ := hb2
    have e7 : (l.drop (a + 7)).take s.length = s := by
      have h4 : (le4 (ckSum s)).length = 4 := rfl
      have := congrArg (List.drop 4) (show [l[a + 3], l[a + 4], l[a + 5], l[a + 6]] ++ (l.drop (a + 7)).take s.length = le4 (ckSum s) ++ s from by
        simp only [List.cons_append, List.nil_append]
        simpa using e3)
      exact this
    have hn : l[a + 1].toNat + 256 * l[a + 2].toNat = s.length := by
      rw [e1, e2]
      simp
      omega
    rw [partAt_ref ha hz h7, hn, if_neg (by omega), e7, e0]
    have hk2 : (UInt8.ofNat k).toNat = k := by simp; omega
    rw [hk2, if_pos hb.symm, he]
/-- What is read hangs on the bytes up to its end alone. -/
theorem partAt_local {l m s : List UInt8} {p k e : Nat} (h : partAt l p = some (k, s, e)) (hm : m.take e = l.take e) : partAt m p = some (k, s, e) := by
  rw [stands] at h ⊢
  obtain ⟨h1, h2, h3, h4⟩ := h
  refine ⟨h1, h2, h3, ?_⟩
  rw [← h4]
  have e1 : ∀ x : List UInt8, (x.drop p).take ((padL p).length + (7 + s.length)) = (x.take e).drop p := fun x => by
    rw [List.drop_take]
    congr 1
    omega
  rw [e1, e1, hm]
theorem take_le {l m : List UInt8} {a b : Nat} (h : m.take b = l.take b) (hab : a ≤ b) : m.take a = l.take a := by
  have := congrArg (List.take a) h
  rw [List.take_take, List.take_take, Nat.min_eq_left hab] at this
  exact this
theorem recA_local : ∀ (f : Nat) {l m r : List UInt8} {p e : Nat} {first : Bool}, l.length ≤ p + f → recA l p first = some (r, e) → m.take e = l.take e → recA m p first = some (r, e) := by
  intro f
  induction f with
  | zero =>
    intro l m r p e first hf h hm
    have := recA_end h
    omega
  | succ f ih =>
    intro l m r p e first hf h hm
    rw [recA_eq] at h ⊢
    cases hq : partAt l p with
    | none => rw [hq] at h; cases h
    | some x =>
      obtain ⟨k, s, e1⟩ := x
      have hpe := partAt_end hq
      rw [hq] at h
      simp only at h
      split at h
      · rename_i hmay
        split at h
        · rename_i hends
          simp only [Option.some.injEq, Prod.mk.injEq] at h
          obtain ⟨rfl, rfl⟩ := h
          rw [partAt_local hq hm]
          simp [hmay, hends]
        · rename_i hends
          cases hr : recA l e1 false with
          | none => rw [hr] at h; cases h
          | some y =>
            obtain ⟨r2, e2⟩ := y
            rw [hr] at h
            simp only [Option.map_some, Option.some.injEq, Prod.mk.injEq] at h
            obtain ⟨rfl, rfl⟩ := h
            have hre := recA_end hr
            rw [partAt_local hq (take_le hm (by omega))]
            simp only [hmay, if_true, hends, if_false]
            rw [ih (by omega) hr hm]
            rfl
      · cases h
/-- Where the last record ends, or where the first one begins. -/
def endF : Nat → List (List UInt8 × Nat) → Nat
  | p, [] => p
  | _, x :: X => endF x.2 X
theorem entA_cons {l : List UInt8} {p e : Nat} {r : List UInt8} {X : List (List UInt8 × Nat)} (h : entA l p = (r, e) :: X) : recA l p true = some (r, e) ∧ entA l e = X := by
  rw [entA_eq] at h
  cases hq : recA l p true with
  | none => rw [hq] at h; cases h
  | some y =>
    obtain ⟨r2, e2⟩ := y
    rw [hq] at h
    simp only [List.cons.injEq, Prod.mk.injEq] at h
    obtain ⟨⟨rfl, rfl⟩, h⟩ := h
    exact ⟨rfl, h⟩
theorem endF_ge : ∀ {X : List (List UInt8 × Nat)} {l : List UInt8} {p : Nat}, entA l p = X → p ≤ endF p X ∧ (p ≤ l.length → endF p X ≤ l.length)
  | [], l, p, h => ⟨Nat.le_refl _, fun h => h⟩
  | (r, e) :: X, l, p, h => by
    obtain ⟨h1, h2⟩ := entA_cons h
    have h3 := recA_end h1
    have h4 := endF_ge h2
    exact ⟨by show p ≤ endF e X; omega, fun _ => h4.2 h3.2.1⟩
theorem ents_len : ∀ {X : List (List UInt8 × Nat)} {l : List UInt8} {p : Nat}, entA l p = X → p + 7 * X.length ≤ endF p X
  | [], l, p, h => by simp [endF]
  | (r, e) :: X, l, p, h => by
    obtain ⟨h1, h2⟩ := entA_cons h
    have h3 := recA_end h1
    have h4 := ents_len h2
    show p + 7 * (X.length + 1) ≤ endF e X
    omega
/-- A log of records, behind what there is. -/
def logK : List UInt8 → List (List UInt8) → List UInt8
  | z, [] => z
  | z, x :: l => logK (z ++ appB z.length x) l
end Go.Proofs.YtkaeogldielkfaaGreat.Lg
