/- Which texts a mask is like, by its parts: a way leads on just if the parts take the text. Plain mathematics, no program. -/
import Derived.Test.YtndpjdmfkhjiiaaGreatDoorQ3d7cfc
set_option linter.unusedVariables false
set_option linter.unusedSimpArgs false
namespace Go.Proofs.YtndpjdmfkhjiiaaGreatDoor

/-- A part takes a text from a place to a place. -/
inductive Mt (t : List UInt8) : Re → Nat → Nat → Prop where
  | eps {p} : Mt t .eps p p
  | set {s p} : hits t s p = true → Mt t (.set s) p (p + 1)
  | mk {n p} : Mt t (.mk n) p p
  | seq {a b p q r} : Mt t a p q → Mt t b q r → Mt t (.seq a b) p r
  | altL {a b p q} : Mt t a p q → Mt t (.alt a b) p q
  | altR {a b p q} : Mt t b p q → Mt t (.alt a b) p q
  | star0 {r p} : Mt t (.star r) p p
  | star1 {r p q u} : Mt t r p q → Mt t (.star r) q u → Mt t (.star r) p u
  | plus {r p q u} : Mt t r p q → Mt t (.star r) q u → Mt t (.plus r) p u
/-- Parts behind one another take all that is left. -/
def MtL (t : List UInt8) : List Re → Nat → Prop
  | [], p => p = t.length
  | r :: ks, p => ∃ q, Mt t r p q ∧ MtL t ks q

theorem run_yes {t : List UInt8} : ∀ f ks p l, run t f ks p = some (some l) → MtL t ks p := by
  intro f
  induction f with
  | zero => intro ks p l h; cases h
  | succ f ih =>
    intro ks p l h
    match ks, h with
    | [], h =>
      rw [run] at h
      split at h
      · rename_i e; exact e
      · cases h
    | .eps :: ks, h => exact ⟨p, .eps, ih _ _ _ h⟩
    | .set s :: ks, h =>
      rw [run] at h
      split at h
      · rename_i e; exact ⟨p + 1, .set e, ih _ _ _ h⟩
      · cases h
    | .mk n :: ks, h =>
      rw [run] at h
      obtain ⟨y, hy, e⟩ := map_some h
      cases y with
      | none => cases e
      | some y => exact ⟨p, .mk, ih _ _ _ hy⟩
    | .seq a b :: ks, h =>
      obtain ⟨q, h1, r, h2, h3⟩ := ih (a :: b :: ks) p l h
      exact ⟨r, .seq h1 h2, h3⟩
    | .alt a b :: ks, h =>
      rw [run] at h
      rcases first_eq h with ⟨e, h1, h2⟩ | ⟨h1, h2⟩
      · obtain ⟨q, h3, h4⟩ := ih _ _ _ h1
        exact ⟨q, .altL h3, h4⟩
      · obtain ⟨q, h3, h4⟩ := ih _ _ _ h2
        exact ⟨q, .altR h3, h4⟩
    | .star r :: ks, h =>
      rw [run] at h
      rcases first_eq h with ⟨e, h1, h2⟩ | ⟨h1, h2⟩
      · obtain ⟨q, h3, u, h4, h5⟩ := ih _ _ _ h1
        exact ⟨u, .star1 h3 h4, h5⟩
      · exact ⟨p, .star0, ih _ _ _ h2⟩
    | .plus r :: ks, h =>
      rw [run] at h
      obtain ⟨q, h3, u, h4, h5⟩ := ih _ _ _ h
      exact ⟨u, .plus h3 h4, h5⟩

theorem run_no {t : List UInt8} : ∀ f ks p, run t f ks p = some none → ¬ MtL t ks p := by
  intro f
  induction f with
  | zero => intro ks p h; cases h
  | succ f ih =>
    intro ks p h
    match ks, h with
    | [], h =>
      rw [run] at h
      split at h
      · cases h
      · rename_i e; exact e
    | .eps :: ks, h =>
      rintro ⟨q, h1, h2⟩
      cases h1
      exact ih _ _ h h2
    | .set s :: ks, h =>
      rintro ⟨q, h1, h2⟩
      cases h1 with
      | set e =>
        rw [run, if_pos e] at h
        exact ih _ _ h h2
    | .mk n :: ks, h =>
      rintro ⟨q, h1, h2⟩
      cases h1
      rw [run] at h
      obtain ⟨y, hy, e⟩ := map_some h
      cases y with
      | none => exact ih _ _ hy h2
      | some y => cases e
    | .seq a b :: ks, h =>
      rintro ⟨q, h1, h2⟩
      cases h1 with
      | seq k1 k2 => exact ih (a :: b :: ks) p h ⟨_, k1, _, k2, h2⟩
    | .alt a b :: ks, h =>
      rw [run] at h
      rcases first_eq h with ⟨e, k1, k2⟩ | ⟨k1, k2⟩
      · cases k2
      · rintro ⟨q, h1, h2⟩
        cases h1 with
        | altL h1 => exact ih _ _ k1 ⟨_, h1, h2⟩
        | altR h1 => exact ih _ _ k2 ⟨_, h1, h2⟩
    | .star r :: ks, h =>
      rw [run] at h
      rcases first_eq h with ⟨e, k1, k2⟩ | ⟨k1, k2⟩
      · cases k2
      · rintro ⟨q, h1, h2⟩
        cases h1 with
        | star0 => exact ih _ _ k2 h2
        | star1 h1 h3 => exact ih _ _ k1 ⟨_, h1, _, h3, h2⟩
    | .plus r :: ks, h =>
      rw [run] at h
      rintro ⟨q, h1, h2⟩
      cases h1 with
      | plus h1 h3 => exact ih _ _ h ⟨_, h1, _, h3, h2⟩

/-- A way leads on just if the parts take all. -/
theorem run_iff {t : List UInt8} {f ks p x} (h : run t f ks p = some x) : x.isSome = true ↔ MtL t ks p := by
  cases x with
  | none => exact ⟨fun h => (by cases h), fun k => absurd k (run_no _ _ _ ‹_›)⟩
  | some l => exact ⟨fun _ => run_yes _ _ _ _ h, fun _ => rfl⟩

/-- The same parts, but for the groups' numbers. -/
inductive Alike : Re → Re → Prop where
  | eps : Alike .eps .eps
  | set {s} : Alike (.set s) (.set s)
  | mk {n n'} : Alike (.mk n) (.mk n')
  | seq {a a' b b'} : Alike a a' → Alike b b' → Alike (.seq a b) (.seq a' b')
  | alt {a a' b b'} : Alike a a' → Alike b b' → Alike (.alt a b) (.alt a' b')
  | star {r r'} : Alike r r' → Alike (.star r) (.star r')
  | plus {r r'} : Alike r r' → Alike (.plus r) (.plus r')
theorem Alike.mt {t : List UInt8} {r r' : Re} (h : Alike r r') : ∀ p q, Mt t r p q → Mt t r' p q := by
  induction h with
  | eps => exact fun p q h => h
  | set => exact fun p q h => h
  | mk => intro p q h; cases h; exact .mk
  | seq _ _ i j => intro p q h; cases h with | seq h k => exact .seq (i _ _ h) (j _ _ k)
  | alt _ _ i j => intro p q h; cases h with | altL h => exact .altL (i _ _ h) | altR h => exact .altR (j _ _ h)
  | @star r r' _ i =>
    have key : ∀ x p q, Mt t x p q → x = .star r → Mt t (.star r') p q := by
      intro x p q h
      induction h with
      | star0 => intro e; exact .star0
      | star1 h1 h2 _ ih2 => intro e; cases e; exact .star1 (i _ _ h1) (ih2 rfl)
      | _ => intro e; cases e
    exact fun p q h => key _ p q h rfl
  | @plus r r' _ i =>
    have key : ∀ x p q, Mt t x p q → x = .star r → Mt t (.star r') p q := by
      intro x p q h
      induction h with
      | star0 => intro e; exact .star0
      | star1 h1 h2 _ ih2 => intro e; cases e; exact .star1 (i _ _ h1) (ih2 rfl)
      | _ => intro e; cases e
    intro p q h
    cases h with
    | plus h1 h2 => exact .plus (i _ _ h1) (key _ _ _ h2 rfl)
theorem Alike.symm {r r' : Re} (h : Alike r r') : Alike r' r := by
  induction h with
  | eps => exact .eps
  | set => exact .set
  | mk => exact .mk
  | seq _ _ i j => exact .seq i j
  | alt _ _ i j => exact .alt i j
  | star _ i => exact .star i
  | plus _ i => exact .plus i
theorem Alike.signed {sg : Nat} {r r' : Re} (h : Alike r r') : Alike (signed sg r) (Go.Proofs.YtndpjdmfkhjiiaaGreatDoor.signed sg r') := by
  unfold Go.Proofs.YtndpjdmfkhjiiaaGreatDoor.signed
  split
  · exact .star h
  · split
    · exact .plus h
    · split
      · exact .alt h .eps
      · exact h

end Go.Proofs.YtndpjdmfkhjiiaaGreatDoor
