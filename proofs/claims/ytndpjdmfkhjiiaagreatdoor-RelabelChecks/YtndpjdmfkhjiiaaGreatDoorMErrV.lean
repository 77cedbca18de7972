/- A fault of a mask has a number. Plain mathematics, no program. -/
import Derived.Test.YtndpjdmfkhjiiaaGreatDoorQ3d7cfc
set_option linter.unusedVariables false
set_option linter.unusedSimpArgs false
namespace Go.Proofs.YtndpjdmfkhjiiaaGreatDoor

theorem eBr {m i e} (h : pBr m i = some (.error e)) : e.1 ≠ 0 := by
  unfold pBr at h
  split at h
  · cases h; simp
  · split at h
    · cases h; simp
    · cases h
theorem eSpan {m i e} (h : pSpan m i = some (.error e)) : e.1 ≠ 0 := by
  unfold pSpan at h
  rcases bindO_eq h with ⟨e', h1, h2⟩ | ⟨a, ha, h⟩
  · cases h2; exact eBr h1
  · split at h
    · rcases bindO_eq h with ⟨e', h1, h2⟩ | ⟨b, hb, h⟩
      · cases h2; exact eBr h1
      · split at h
        · cases h; simp
        · cases h
    · cases h
theorem eSpans {m} : ∀ {f s i e}, pSpans m f s i = some (.error e) → e.1 ≠ 0 := by
  intro f
  induction f with
  | zero => intro s i e h; cases h
  | succ f ih =>
    intro s i e h
    rw [pSpans] at h
    split at h
    · cases h
    · rcases bindO_eq h with ⟨e', h1, h2⟩ | ⟨y, hy, h⟩
      · cases h2; exact eSpan h1
      · exact ih h
theorem eSet {m i c e} (h : pSet m i c = some (.error e)) : e.1 ≠ 0 := by
  unfold pSet at h
  split at h
  · unfold pBrackets at h
    rcases bindO_eq h with ⟨e', h1, h2⟩ | ⟨y, hy, h⟩
    · cases h2; exact eSpan h1
    · rcases bindO_eq h with ⟨e', h1, h2⟩ | ⟨z, hz, h⟩
      · cases h2; exact eSpans h1
      · cases h
  · split at h
    · cases h
    · split at h
      · split at h
        · cases h; simp
        · split at h
          · cases h; simp
          · cases h
      · split at h
        · cases h; simp
        · cases h
theorem eSign {m n i e} (h : pSign m n i = some (.error e)) : e = (4, i) ∧ n = true := by
  unfold pSign at h
  split at h
  · split at h
    · split at h
      · rename_i hh
        cases h
        simp at hh
        exact ⟨rfl, hh.1⟩
      · cases h
    · cases h
  · cases h
theorem eM {m} : ∀ {f rows i g e}, pM m f rows i g = some (.error e) → e.1 ≠ 0 := by
  intro f
  induction f with
  | zero => intro rows i g e h; cases h
  | succ f ih =>
    intro rows i g e h
    cases rows with
    | true =>
      rw [pM] at h
      rcases bindO_eq h with ⟨e', h1, h2⟩ | ⟨y, hy, h⟩
      · cases h2; exact ih h1
      · split at h
        · rcases bindO_eq h with ⟨e', h1, h2⟩ | ⟨z, hz, h⟩
          · cases h2; exact ih h1
          · cases h
        · cases h
    | false =>
      rw [pM] at h
      split at h
      · cases h
      · split at h
        · cases h
        · split at h
          · split at h
            · cases h; simp
            · rcases bindO_eq h with ⟨e', h1, h2⟩ | ⟨y, hy, h⟩
              · cases h2; exact ih h1
              · split at h
                · rcases bindO_eq h with ⟨e', h1, h2⟩ | ⟨z, hz, h⟩
                  · cases h2; rw [(eSign h1).1]; simp
                  · rcases bindO_eq h with ⟨e', h1, h2⟩ | ⟨u, hu, h⟩
                    · cases h2; exact ih h1
                    · cases h
                · cases h; simp
          · rcases bindO_eq h with ⟨e', h1, h2⟩ | ⟨y, hy, h⟩
            · cases h2; exact eSet h1
            · rcases bindO_eq h with ⟨e', h1, h2⟩ | ⟨z, hz, h⟩
              · cases h2; rw [(eSign h1).1]; simp
              · rcases bindO_eq h with ⟨e', h1, h2⟩ | ⟨u, hu, h⟩
                · cases h2; exact ih h1
                · cases h
end Go.Proofs.YtndpjdmfkhjiiaaGreatDoor
