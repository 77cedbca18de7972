/- Masks as they are read: their parts, faults first met, and the steps that are laid out for them. Plain mathematics, no program. -/
import Derived.Test.YtndpjdmfkhjiiaaGreatDoorMSem
set_option linter.unusedVariables false
set_option linter.unusedSimpArgs false
namespace Go.Proofs.YtndpjdmfkhjiiaaGreatDoor

/-- What is read: an answer, or a fault (its number, its byte); none: not known with so much fuel. -/
abbrev Out (α : Type) := Option (Except (Nat × Nat) α)
def bindO {α β : Type} : Out α → (α → Out β) → Out β
  | none, _ => none
  | some (.error e), _ => some (.error e)
  | some (.ok x), k => k x
theorem bindO_eq {α β : Type} {a : Out α} {k : α → Out β} {y} (h : bindO a k = some y) : (∃ e, a = some (.error e) ∧ y = .error e) ∨ ∃ x, a = some (.ok x) ∧ k x = some y := by
  match a, h with
  | some (.error e), h => exact .inl ⟨e, rfl, (Option.some.inj h).symm⟩
  | some (.ok x), h => exact .inr ⟨x, rfl, h⟩

/-- A mask's rows, row by row, piece by piece: nothing more; a piece of one byte and the row's rest; a group's piece and the row's rest; a row and the rows behind it. -/
inductive Tr where
  | nil
  | set (s : UInt8 → Bool) (sg : Nat) (rest : Tr)
  | grp (n : Nat) (rows : Tr) (sg : Nat) (rest : Tr)
  | row (r rest : Tr)

def signed (sg : Nat) (r : Re) : Re := if sg = 42 then .star r else if sg = 43 then .plus r else if sg = 63 then .alt r .eps else r
def grpRe (n : Nat) (r : Re) : Re := .seq (.mk (2 * n)) (.seq r (.mk (2 * n + 1)))
def re : Tr → Re
  | .nil => .eps
  | .set s sg rest => .seq (signed sg (.set s)) (re rest)
  | .grp n rows sg rest => .seq (signed sg (grpRe n (re rows))) (re rest)
  | .row r .nil => re r
  | .row r rest => .alt (re r) (re rest)

/-- May a row, or one of rows, take nothing? -/
def nothing : Tr → Bool
  | .nil => true
  | .set _ sg rest => (sg = 42 || sg = 63) && nothing rest
  | .grp _ rows sg rest => (sg = 42 || sg = 63 || nothing rows) && nothing rest
  | .row r .nil => nothing r
  | .row r rest => nothing r || nothing rest

theorem nullable_signed (sg : Nat) (r : Re) : nullable (signed sg r) = (decide (sg = 42) || decide (sg = 63) || nullable r) := by
  unfold signed
  by_cases h1 : sg = 42
  · simp [h1, nullable]
  · by_cases h2 : sg = 43
    · simp [h2, nullable]
    · by_cases h3 : sg = 63 <;> simp [h1, h2, h3, nullable]
theorem nothing_re (T : Tr) : nullable (re T) = nothing T := by
  induction T with
  | nil => rfl
  | set s sg rest ih => simp [re, nothing, nullable, nullable_signed, ih]
  | grp n rows sg rest ih1 ih2 => simp [re, nothing, nullable, nullable_signed, grpRe, ih1, ih2]
  | row r rest ih1 ih2 => cases rest <;> simp_all [re, nothing, nullable]

/-- A sign behind a piece: one of `*`, `+`, `?`. -/
def isSign (c : UInt8) : Bool := c.toNat = 42 || c.toNat = 43 || c.toNat = 63
/-- A byte that may not stand between brackets: `[`, `]`, a backslash, `^`, `-`. -/
def badIn (c : UInt8) : Bool := c.toNat = 91 || c.toNat = 93 || c.toNat = 92 || c.toNat = 94 || c.toNat = 45
def isAl (c : UInt8) : Bool := (97 ≤ c.toNat && c.toNat ≤ 122) || (65 ≤ c.toNat && c.toNat ≤ 90)
def isNu (c : UInt8) : Bool := 48 ≤ c.toNat && c.toNat ≤ 57
/-- Does this byte stand there? -/
def isAt (m : List UInt8) (at' : Nat) (c : Nat) : Bool := match m[at']? with | some b => b.toNat = c | none => false

def between (a b : UInt8) : UInt8 → Bool := fun c => a.toNat ≤ c.toNat && c.toNat ≤ b.toNat
def union (s t : UInt8 → Bool) : UInt8 → Bool := fun c => s c || t c
def butAll (s : UInt8 → Bool) : UInt8 → Bool := fun c => !s c

/-- A byte between brackets. -/
def pBr (m : List UInt8) (i : Nat) : Out UInt8 := match m[i]? with
  | none => some (.error (1, i))
  | some c => if badIn c then some (.error (1, i)) else some (.ok c)
/-- A byte between brackets, or two with a `-` between them: the set, and where they end. -/
def pSpan (m : List UInt8) (i : Nat) : Out ((UInt8 → Bool) × Nat) :=
  bindO (pBr m i) fun a =>
    if isAt m (i + 1) 45 then bindO (pBr m (i + 2)) fun b => if b.toNat < a.toNat then some (.error (3, i + 2)) else some (.ok (between a b, i + 3))
    else some (.ok (between a a, i + 1))
/-- What is between brackets from the second span on. -/
def pSpans (m : List UInt8) : Nat → (UInt8 → Bool) → Nat → Out ((UInt8 → Bool) × Nat)
  | 0, _, _ => none
  | f + 1, s, i => if isAt m i 93 then some (.ok (s, i + 1)) else bindO (pSpan m i) fun x => pSpans m f (union s x.1) x.2
/-- Brackets, from the byte behind the first one on. -/
def pBrackets (m : List UInt8) (i : Nat) : Out ((UInt8 → Bool) × Nat) :=
  let j := if isAt m i 94 then i + 1 else i
  bindO (pSpan m j) fun x => bindO (pSpans m (m.length + 1) x.1 x.2) fun y => some (.ok (if isAt m i 94 then butAll y.1 else y.1, y.2))

/-- A piece that is no group, without its sign. -/
def pSet (m : List UInt8) (i : Nat) (c : UInt8) : Out ((UInt8 → Bool) × Nat) :=
  if c.toNat = 91 then pBrackets m (i + 1)
  else if c.toNat = 46 then some (.ok (fun _ => true, i + 1))
  else if c.toNat = 92 then match m[i + 1]? with
    | none => some (.error (1, i + 1))
    | some d => if isAl d || isNu d then some (.error (1, i + 1)) else some (.ok (between d d, i + 2))
  else if isSign c || c.toNat = 93 then some (.error (1, i))
  else some (.ok (between c c, i + 1))

/-- The sign behind a piece (0: none), and where it ends. -/
def pSign (m : List UInt8) (null : Bool) (i : Nat) : Out (Nat × Nat) := match m[i]? with
  | some c => if isSign c then (if null && !decide (c.toNat = 63) then some (.error (4, i)) else some (.ok (c.toNat, i + 1))) else some (.ok (0, i))
  | none => some (.ok (0, i))

/-- Rows (true), or a row (false), from a byte on, with so many groups ahead: what they are, where they end, how many groups there are then. -/
def pM (m : List UInt8) : Nat → Bool → Nat → Nat → Out (Tr × Nat × Nat)
  | 0, _, _, _ => none
  | f + 1, true, i, g => bindO (pM m f false i g) fun x =>
      if isAt m x.2.1 124 then bindO (pM m f true (x.2.1 + 1) x.2.2) fun y => some (.ok (.row x.1 y.1, y.2)) else some (.ok (.row x.1 .nil, x.2))
  | f + 1, false, i, g => match m[i]? with
    | none => some (.ok (.nil, i, g))
    | some c =>
      if c.toNat = 124 || c.toNat = 41 then some (.ok (.nil, i, g))
      else if c.toNat = 40 then
        if g = 9 then some (.error (2, i))
        else bindO (pM m f true (i + 1) (g + 1)) fun x =>
          if isAt m x.2.1 41 then bindO (pSign m (nothing x.1) (x.2.1 + 1)) fun s => bindO (pM m f false s.2 x.2.2) fun y => some (.ok (.grp g x.1 s.1 y.1, y.2))
          else some (.error (1, x.2.1))
      else bindO (pSet m i c) fun x => bindO (pSign m false x.2) fun s => bindO (pM m f false s.2 g) fun y => some (.ok (.set x.1 s.1 y.1, y.2))

/-- A whole mask: its rows, and how many groups it has. -/
def pMask (m : List UInt8) (f : Nat) : Out (Tr × Nat) :=
  if 60 < m.length then some (.error (2, 0))
  else bindO (pM m f true 0 0) fun x => if x.2.1 < m.length then some (.error (1, x.2.1)) else some (.ok (x.1, x.2.2))

/-! ### where what is read ends -/
theorem pBr_ok {m i c} (h : pBr m i = some (.ok c)) : m[i]? = some c ∧ badIn c = false := by
  unfold pBr at h
  split at h
  · cases h
  · rename_i d e
    split at h
    · cases h
    · rename_i hb
      cases h
      exact ⟨e, by simpa using hb⟩
theorem get_lt {m : List UInt8} {i : Nat} {c} (h : m[i]? = some c) : i < m.length := (List.getElem?_eq_some_iff.1 h).1
theorem isAt_lt {m : List UInt8} {i c} (h : isAt m i c = true) : i < m.length := by
  unfold isAt at h
  split at h
  · rename_i e; exact get_lt e
  · cases h
theorem pSpan_ok {m i x} (h : pSpan m i = some (.ok x)) : i < x.2 ∧ x.2 ≤ m.length := by
  unfold pSpan at h
  rcases bindO_eq h with ⟨_, _, e⟩ | ⟨a, ha, h⟩
  · cases e
  have l1 := get_lt (pBr_ok ha).1
  split at h
  · rcases bindO_eq h with ⟨_, _, e⟩ | ⟨b, hb, h⟩
    · cases e
    have l2 := get_lt (pBr_ok hb).1
    split at h
    · cases h
    · cases h; exact ⟨by omega, by omega⟩
  · cases h; exact ⟨by omega, by omega⟩
theorem pSpan_some (m i) : ∃ y, pSpan m i = some y := by
  unfold pSpan pBr
  cases m[i]? with
  | none => exact ⟨_, rfl⟩
  | some c =>
    by_cases hb : badIn c = true
    · simp [hb, bindO]
    · simp only [hb, bindO, Bool.false_eq_true, if_false]
      split
      · cases m[i + 2]? with
        | none => exact ⟨_, rfl⟩
        | some d =>
          by_cases hd : badIn d = true
          · simp [hd, bindO]
          · simp only [hd, bindO, Bool.false_eq_true, if_false]
            split <;> exact ⟨_, rfl⟩
      · exact ⟨_, rfl⟩
theorem pSpans_some (m) : ∀ f s i, 0 < f → m.length < f + i → ∃ y, pSpans m f s i = some y := by
  intro f
  induction f with
  | zero =>
    intro s i h0 h
    omega
  | succ f ih =>
    intro s i h0 h
    rw [pSpans]
    split
    · exact ⟨_, rfl⟩
    · obtain ⟨y, hy⟩ := pSpan_some m i
      rw [hy]
      match y, hy with
      | .error e, _ => exact ⟨_, rfl⟩
      | .ok x, hy =>
        have := pSpan_ok hy
        exact ih _ _ (by omega) (by omega)
theorem pSpans_ok {m} : ∀ {f s i x}, pSpans m f s i = some (.ok x) → i < x.2 ∧ x.2 ≤ m.length := by
  intro f
  induction f with
  | zero => intro s i x h; cases h
  | succ f ih =>
    intro s i x h
    rw [pSpans] at h
    split at h
    · rename_i e
      have := isAt_lt e
      cases h; exact ⟨by omega, by omega⟩
    · rcases bindO_eq h with ⟨_, _, e⟩ | ⟨y, hy, h⟩
      · cases e
      have := pSpan_ok hy
      have := ih h
      omega
theorem pSet_ok {m i c x} (hc : m[i]? = some c) (h : pSet m i c = some (.ok x)) : i < x.2 ∧ x.2 ≤ m.length := by
  have li := get_lt hc
  unfold pSet at h
  split at h
  · unfold pBrackets at h
    rcases bindO_eq h with ⟨_, _, e⟩ | ⟨y, hy, h⟩
    · cases e
    rcases bindO_eq h with ⟨_, _, e⟩ | ⟨z, hz, h⟩
    · cases e
    have h1 := pSpan_ok hy
    have h2 := pSpans_ok hz
    cases h
    simp only
    have : i + 1 ≤ (if isAt m (i + 1) 94 = true then i + 1 + 1 else i + 1) := by split <;> omega
    omega
  · split at h
    · cases h; exact ⟨by simp, by simp; omega⟩
    · split at h
      · split at h
        · cases h
        · rename_i d e
          have := get_lt e
          split at h
          · cases h
          · cases h; exact ⟨by simp, by simp; omega⟩
      · split at h
        · cases h
        · cases h; exact ⟨by simp, by simp; omega⟩
theorem pSet_some (m i c) : ∃ y, pSet m i c = some y := by
  unfold pSet
  split
  · unfold pBrackets
    obtain ⟨y, hy⟩ := pSpan_some m (if isAt m (i + 1) 94 = true then i + 1 + 1 else i + 1)
    simp only [hy]
    match y, hy with
    | .error e, _ => exact ⟨_, rfl⟩
    | .ok x, hy =>
      obtain ⟨z, hz⟩ := pSpans_some m (m.length + 1) x.1 x.2 (by omega) (by omega)
      simp only [bindO, hz]
      match z with
      | .error e => exact ⟨_, rfl⟩
      | .ok u => exact ⟨_, rfl⟩
  · split
    · exact ⟨_, rfl⟩
    · split
      · split
        · exact ⟨_, rfl⟩
        · split <;> exact ⟨_, rfl⟩
      · split <;> exact ⟨_, rfl⟩
theorem pSign_ok {m n i x} (h : pSign m n i = some (.ok x)) (hi : i ≤ m.length) : i ≤ x.2 ∧ x.2 ≤ m.length := by
  unfold pSign at h
  split at h
  · rename_i c e
    have := get_lt e
    split at h
    · split at h
      · cases h
      · cases h; exact ⟨by simp, by simp; omega⟩
    · cases h; exact ⟨by simp, by simp; omega⟩
  · cases h; exact ⟨by simp, by simpa using hi⟩
theorem pSign_some (m n i) : ∃ y, pSign m n i = some y := by
  unfold pSign
  split
  · split
    · split <;> exact ⟨_, rfl⟩
    · exact ⟨_, rfl⟩
  · exact ⟨_, rfl⟩

theorem pM_ok {m} : ∀ {f rows i g x}, pM m f rows i g = some (.ok x) → i ≤ m.length → i ≤ x.2.1 ∧ x.2.1 ≤ m.length := by
  intro f
  induction f with
  | zero => intro rows i g x h; cases h
  | succ f ih =>
    intro rows i g x h hi
    cases rows with
    | true =>
      rw [pM] at h
      rcases bindO_eq h with ⟨_, _, e⟩ | ⟨y, hy, h⟩
      · cases e
      have h1 := ih hy hi
      split at h
      · rename_i e
        have := isAt_lt e
        rcases bindO_eq h with ⟨_, _, e⟩ | ⟨z, hz, h⟩
        · cases e
        have h2 := ih hz (by omega)
        cases h
        simp only
        omega
      · cases h; exact h1
    | false =>
      rw [pM] at h
      split at h
      · cases h; exact ⟨by simp, by simpa using hi⟩
      · rename_i c hc
        have li := get_lt hc
        split at h
        · cases h; exact ⟨by simp, by simpa using hi⟩
        · split at h
          · split at h
            · cases h
            · rcases bindO_eq h with ⟨_, _, e⟩ | ⟨y, hy, h⟩
              · cases e
              have h1 := ih hy (by omega)
              split at h
              · rename_i e
                have := isAt_lt e
                rcases bindO_eq h with ⟨_, _, e⟩ | ⟨z, hz, h⟩
                · cases e
                have h2 := pSign_ok hz (by omega)
                rcases bindO_eq h with ⟨_, _, e⟩ | ⟨u, hu, h⟩
                · cases e
                have h3 := ih hu (by omega)
                cases h
                simp only
                omega
              · cases h
          · rcases bindO_eq h with ⟨_, _, e⟩ | ⟨y, hy, h⟩
            · cases e
            have h1 := pSet_ok hc hy
            rcases bindO_eq h with ⟨_, _, e⟩ | ⟨z, hz, h⟩
            · cases e
            have h2 := pSign_ok hz (by omega)
            rcases bindO_eq h with ⟨_, _, e⟩ | ⟨u, hu, h⟩
            · cases e
            have h3 := ih hu (by omega)
            cases h
            simp only
            omega

/-- With so much fuel it is known what a mask is. -/
theorem pM_some {m : List UInt8} : ∀ f rows i g, i ≤ m.length → 2 * (m.length - i) + (if rows then 1 else 0) < f → ∃ y, pM m f rows i g = some y := by
  intro f
  induction f with
  | zero => intro rows i g hi h; omega
  | succ f ih =>
    intro rows i g hi h
    cases rows with
    | true =>
      rw [pM]
      obtain ⟨y, hy⟩ := ih false i g hi (by simp at h ⊢; omega)
      rw [hy]
      match y, hy with
      | .error e, _ => exact ⟨_, rfl⟩
      | .ok x, hy =>
        have h1 := pM_ok hy hi
        simp only [bindO]
        split
        · rename_i e
          have := isAt_lt e
          obtain ⟨z, hz⟩ := ih true (x.2.1 + 1) x.2.2 (by omega) (by simp at h ⊢; omega)
          rw [hz]
          match z with
          | .error e => exact ⟨_, rfl⟩
          | .ok u => exact ⟨_, rfl⟩
        · exact ⟨_, rfl⟩
    | false =>
      rw [pM]
      split
      · exact ⟨_, rfl⟩
      · rename_i c hc
        have li := get_lt hc
        split
        · exact ⟨_, rfl⟩
        · split
          · split
            · exact ⟨_, rfl⟩
            · obtain ⟨y, hy⟩ := ih true (i + 1) (g + 1) (by omega) (by simp at h ⊢; omega)
              rw [hy]
              match y, hy with
              | .error e, _ => exact ⟨_, rfl⟩
              | .ok x, hy =>
                have h1 := pM_ok hy (by omega)
                simp only [bindO]
                split
                · rename_i e
                  have := isAt_lt e
                  obtain ⟨z, hz⟩ := pSign_some m (nothing x.1) (x.2.1 + 1)
                  rw [hz]
                  match z, hz with
                  | .error e, _ => exact ⟨_, rfl⟩
                  | .ok s, hz =>
                    have h2 := pSign_ok hz (by omega)
                    obtain ⟨u, hu⟩ := ih false s.2 x.2.2 (by omega) (by simp at h ⊢; omega)
                    simp only [hu]
                    match u with
                    | .error e => exact ⟨_, rfl⟩
                    | .ok v => exact ⟨_, rfl⟩
                · exact ⟨_, rfl⟩
          · obtain ⟨y, hy⟩ := pSet_some m i c
            rw [hy]
            match y, hy with
            | .error e, _ => exact ⟨_, rfl⟩
            | .ok x, hy =>
              have h1 := pSet_ok hc hy
              obtain ⟨z, hz⟩ := pSign_some m false x.2
              simp only [bindO, hz]
              match z, hz with
              | .error e, _ => exact ⟨_, rfl⟩
              | .ok s, hz =>
                have h2 := pSign_ok hz (by omega)
                obtain ⟨u, hu⟩ := ih false s.2 g (by omega) (by simp at h ⊢; omega)
                simp only [hu]
                match u with
                | .error e => exact ⟨_, rfl⟩
                | .ok v => exact ⟨_, rfl⟩

/-- What each mask is. -/
theorem pMask_some (m : List UInt8) : ∃ f y, pMask m f = some y := by
  unfold pMask
  by_cases h : 60 < m.length
  · exact ⟨0, _, by rw [if_pos h]⟩
  · obtain ⟨y, hy⟩ := pM_some (m := m) (2 * m.length + 2) true 0 0 (by omega) (by simp)
    refine ⟨2 * m.length + 2, ?_⟩
    rw [if_neg h, hy]
    match y with
    | .error e => exact ⟨_, rfl⟩
    | .ok x =>
      simp only [bindO]
      split <;> exact ⟨_, rfl⟩

end Go.Proofs.YtndpjdmfkhjiiaaGreatDoor
