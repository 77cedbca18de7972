/- Two masks with a bar between them, as mathematics. -/
import Derived.Test.YtpfifboeoleocaaMSem
import Derived.Test.YtpfifboeoleocaaMPar
import Derived.Test.YtpfifboeoleocaaMLay
import Derived.Test.YtpfifboeoleocaaMLng
set_option linter.unusedVariables false
set_option linter.unusedSimpArgs false
namespace Go.Proofs.Ytpfifboeoleocaa

/-! ### more fuel tells the same -/
theorem pSpans_succ {m : List UInt8} : ∀ {f s i y}, pSpans m f s i = some y → pSpans m (f + 1) s i = some y := by
  intro f
  induction f with
  | zero => intro s i y h; cases h
  | succ f ih =>
    intro s i y h
    rw [pSpans] at h ⊢
    split at h
    · rename_i e; rw [if_pos e]; exact h
    · rename_i e
      rw [if_neg e]
      rcases bindO_eq h with ⟨x, hx, rfl⟩ | ⟨x, hx, h⟩
      · rw [hx]; rfl
      · rw [hx]; exact ih h
theorem pSpans_more {m : List UInt8} {f k s i y} (h : pSpans m f s i = some y) : pSpans m (f + k) s i = some y := by
  induction k with
  | zero => exact h
  | succ k ih => exact pSpans_succ ih
theorem pM_succ {m : List UInt8} : ∀ {f rows i g y}, pM m f rows i g = some y → pM m (f + 1) rows i g = some y := by
  intro f
  induction f with
  | zero => intro rows i g y h; cases h
  | succ f ih =>
    intro rows i g y h
    cases rows with
    | true =>
      rw [pM] at h ⊢
      rcases bindO_eq h with ⟨x, hx, rfl⟩ | ⟨x, hx, h⟩
      · rw [ih hx]; rfl
      · rw [ih hx]
        simp only [bindO]
        split at h
        · rename_i e
          rw [if_pos e]
          rcases bindO_eq h with ⟨z, hz, rfl⟩ | ⟨z, hz, h⟩
          · simp [ih hz, bindO]
          · rw [ih hz]; exact h
        · rename_i e; rw [if_neg e]; exact h
    | false =>
      rw [pM] at h ⊢
      split at h
      · exact h
      · rename_i c hc
        split at h
        · rename_i e; rw [if_pos e]; exact h
        · rename_i e
          rw [if_neg e]
          split at h
          · rename_i e40
            rw [if_pos e40]
            split at h
            · rename_i e9; rw [if_pos e9]; exact h
            · rename_i e9
              rw [if_neg e9]
              rcases bindO_eq h with ⟨x, hx, rfl⟩ | ⟨x, hx, h⟩
              · rw [ih hx]; rfl
              · rw [ih hx]
                simp only [bindO]
                split at h
                · rename_i e41
                  rw [if_pos e41]
                  rcases bindO_eq h with ⟨s, hs, rfl⟩ | ⟨s, hs, h⟩
                  · rw [hs]
                  · rw [hs]
                    simp only
                    rcases bindO_eq h with ⟨u, hu, rfl⟩ | ⟨u, hu, h⟩
                    · rw [ih hu]
                    · rw [ih hu]; exact h
                · rename_i e41; rw [if_neg e41]; exact h
          · rename_i e40
            rw [if_neg e40]
            rcases bindO_eq h with ⟨x, hx, rfl⟩ | ⟨x, hx, h⟩
            · rw [hx]; rfl
            · rw [hx]
              simp only [bindO]
              rcases bindO_eq h with ⟨s, hs, rfl⟩ | ⟨s, hs, h⟩
              · rw [hs]
              · rw [hs]
                simp only
                rcases bindO_eq h with ⟨u, hu, rfl⟩ | ⟨u, hu, h⟩
                · rw [ih hu]
                · rw [ih hu]; exact h
theorem pM_more {m : List UInt8} {f k rows i g y} (h : pM m f rows i g = some y) : pM m (f + k) rows i g = some y := by
  induction k with
  | zero => exact h
  | succ k ih => exact pM_succ ih
theorem pM_le {m : List UInt8} {f f' rows i g y} (h : pM m f rows i g = some y) (hf : f ≤ f') : pM m f' rows i g = some y := by
  obtain ⟨d, rfl⟩ := Nat.exists_eq_add_of_le hf
  exact pM_more h

/-! ### behind another text -/
def shG (d : Nat) : Tr → Tr
  | .nil => .nil
  | .set s sg rest => .set s sg (shG d rest)
  | .grp n rows sg rest => .grp (n + d) (shG d rows) sg (shG d rest)
  | .row r rest => .row (shG d r) (shG d rest)
theorem shG_row_nil (d : Nat) (r : Tr) : shG d (.row r .nil) = .row (shG d r) .nil := rfl
theorem nothing_shG (d : Nat) : ∀ T, nothing (shG d T) = nothing T
  | .nil => rfl
  | .set s sg rest => by simp [shG, nothing, nothing_shG d rest]
  | .grp n rows sg rest => by simp [shG, nothing, nothing_shG d rest, nothing_shG d rows]
  | .row r rest => by
    have h1 := nothing_shG d r
    have h2 := nothing_shG d rest
    cases rest <;> simp_all [shG, nothing]
theorem alike_shG (d : Nat) : ∀ T, Alike (re (shG d T)) (re T)
  | .nil => .eps
  | .set s sg rest => .seq (Alike.signed .set) (alike_shG d rest)
  | .grp n rows sg rest => .seq (Alike.signed (.seq .mk (.seq (alike_shG d rows) .mk))) (alike_shG d rest)
  | .row r .nil => alike_shG d r
  | .row r (.set s sg rest) => .alt (alike_shG d r) (alike_shG d (.set s sg rest))
  | .row r (.grp n rows sg rest) => .alt (alike_shG d r) (alike_shG d (.grp n rows sg rest))
  | .row r (.row a b) => .alt (alike_shG d r) (alike_shG d (.row a b))

section
variable {pre b : List UInt8}
theorem get_suf (i : Nat) : (pre ++ b)[pre.length + i]? = b[i]? := by rw [List.getElem?_append_right (by omega)]; simp
theorem isAt_suf (i c : Nat) : isAt (pre ++ b) (pre.length + i) c = isAt b i c := by unfold isAt; rw [get_suf]
theorem pBr_suf {i : Nat} {c} (h : pBr b i = some (.ok c)) : pBr (pre ++ b) (pre.length + i) = some (.ok c) := by
  obtain ⟨h1, h2⟩ := pBr_ok h
  unfold pBr
  rw [get_suf, h1]
  simp [h2]
theorem pSpan_suf {i : Nat} {x} (h : pSpan b i = some (.ok x)) : pSpan (pre ++ b) (pre.length + i) = some (.ok (x.1, pre.length + x.2)) := by
  unfold pSpan at h ⊢
  rcases bindO_eq h with ⟨_, _, e⟩ | ⟨a, ha, h⟩
  · cases e
  rw [pBr_suf ha]
  simp only [bindO]
  rw [show pre.length + i + 1 = pre.length + (i + 1) by omega, isAt_suf]
  split at h
  · rename_i e
    rw [if_pos e]
    rcases bindO_eq h with ⟨_, _, e⟩ | ⟨d, hd, h⟩
    · cases e
    rw [show pre.length + i + 2 = pre.length + (i + 2) by omega, pBr_suf hd]
    simp only
    split at h
    · cases h
    · rename_i e2
      rw [if_neg e2]
      cases h
      rfl
  · rename_i e
    rw [if_neg e]
    cases h
    rfl
theorem pSpans_suf : ∀ {f s i x}, pSpans b f s i = some (.ok x) → pSpans (pre ++ b) f s (pre.length + i) = some (.ok (x.1, pre.length + x.2)) := by
  intro f
  induction f with
  | zero => intro s i x h; cases h
  | succ f ih =>
    intro s i x h
    rw [pSpans] at h ⊢
    rw [isAt_suf]
    split at h
    · rename_i e
      rw [if_pos e]
      cases h
      rfl
    · rename_i e
      rw [if_neg e]
      rcases bindO_eq h with ⟨_, _, e⟩ | ⟨y, hy, h⟩
      · cases e
      rw [pSpan_suf hy]
      exact ih h
theorem pSet_suf {i : Nat} {c x} (h : pSet b i c = some (.ok x)) : pSet (pre ++ b) (pre.length + i) c = some (.ok (x.1, pre.length + x.2)) := by
  unfold pSet at h ⊢
  split at h
  · rename_i e
    rw [if_pos e]
    unfold pBrackets at h ⊢
    rw [show pre.length + i + 1 = pre.length + (i + 1) by omega, isAt_suf]
    rcases bindO_eq h with ⟨_, _, e⟩ | ⟨y, hy, h⟩
    · cases e
    have hj : (if isAt b (i + 1) 94 = true then pre.length + (i + 1) + 1 else pre.length + (i + 1)) = pre.length + (if isAt b (i + 1) 94 = true then i + 1 + 1 else i + 1) := by split <;> omega
    simp only [hj]
    rw [pSpan_suf hy]
    simp only [bindO]
    rcases bindO_eq h with ⟨_, _, e⟩ | ⟨z, hz, h⟩
    · cases e
    have := pSpans_more (k := pre.length) (pSpans_suf (pre := pre) hz)
    rw [show (pre ++ b).length + 1 = b.length + 1 + pre.length by simp; omega, this]
    simp only
    cases h
    rfl
  · rename_i e
    rw [if_neg e]
    split at h
    · rename_i e2; rw [if_pos e2]; cases h; rfl
    · rename_i e2
      rw [if_neg e2]
      split at h
      · rename_i e3
        rw [if_pos e3, show pre.length + i + 1 = pre.length + (i + 1) by omega, get_suf]
        cases hd : b[i + 1]? with
        | none => rw [hd] at h; cases h
        | some d =>
          rw [hd] at h
          simp only at h ⊢
          split at h
          · cases h
          · rename_i e4; rw [if_neg e4]; cases h; rfl
      · rename_i e3
        rw [if_neg e3]
        split at h
        · cases h
        · rename_i e4; rw [if_neg e4]; cases h; rfl
theorem pSign_suf {null : Bool} {i : Nat} {x} (h : pSign b null i = some (.ok x)) : pSign (pre ++ b) null (pre.length + i) = some (.ok (x.1, pre.length + x.2)) := by
  unfold pSign at h ⊢
  rw [get_suf]
  cases hc : b[i]? with
  | none => rw [hc] at h; simp only at h ⊢; cases h; rfl
  | some c =>
    rw [hc] at h
    simp only at h ⊢
    split at h
    · rename_i e
      rw [if_pos e]
      split at h
      · cases h
      · rename_i e2; rw [if_neg e2]; cases h; rfl
    · rename_i e; rw [if_neg e]; cases h; rfl

/-- Behind another text, with groups ahead of it: the same, or too many groups. -/
theorem pM_suf (d : Nat) : ∀ {f rows i g x}, pM b f rows i g = some (.ok x) →
    pM (pre ++ b) f rows (pre.length + i) (g + d) = some (.ok (shG d x.1, pre.length + x.2.1, x.2.2 + d)) ∨ ∃ a, pM (pre ++ b) f rows (pre.length + i) (g + d) = some (.error (2, a)) := by
  intro f
  induction f with
  | zero => intro rows i g x h; cases h
  | succ f ih =>
    intro rows i g x h
    cases rows with
    | true =>
      rw [pM] at h ⊢
      rcases bindO_eq h with ⟨_, _, e⟩ | ⟨y, hy, h⟩
      · cases e
      rcases ih hy with h1 | ⟨a, h1⟩
      · rw [h1]
        simp only [bindO]
        rw [isAt_suf]
        split at h
        · rename_i e
          rw [if_pos e]
          rcases bindO_eq h with ⟨_, _, e⟩ | ⟨z, hz, h⟩
          · cases e
          rw [show pre.length + y.2.1 + 1 = pre.length + (y.2.1 + 1) by omega]
          rcases ih hz with h2 | ⟨a, h2⟩
          · rw [h2]; cases h; exact .inl rfl
          · rw [h2]; exact .inr ⟨a, rfl⟩
        · rename_i e; rw [if_neg e]; cases h; exact .inl rfl
      · rw [h1]; exact .inr ⟨a, rfl⟩
    | false =>
      rw [pM] at h ⊢
      rw [get_suf]
      cases hc : b[i]? with
      | none => rw [hc] at h; simp only at h ⊢; cases h; exact .inl rfl
      | some c =>
        rw [hc] at h
        simp only at h ⊢
        split at h
        · rename_i e; rw [if_pos e]; cases h; exact .inl rfl
        · rename_i e
          rw [if_neg e]
          split at h
          · rename_i e40
            rw [if_pos e40]
            by_cases e9 : g + d = 9
            · rw [if_pos e9]; exact .inr ⟨_, rfl⟩
            · rw [if_neg e9]
              split at h
              · cases h
              · rcases bindO_eq h with ⟨_, _, e⟩ | ⟨y, hy, h⟩
                · cases e
                rw [show pre.length + i + 1 = pre.length + (i + 1) by omega, show g + d + 1 = g + 1 + d by omega]
                rcases ih hy with h1 | ⟨a, h1⟩
                · rw [h1]
                  simp only [bindO]
                  rw [isAt_suf]
                  split at h
                  · rename_i e41
                    rw [if_pos e41]
                    rcases bindO_eq h with ⟨_, _, e⟩ | ⟨s, hs, h⟩
                    · cases e
                    rw [show pre.length + y.2.1 + 1 = pre.length + (y.2.1 + 1) by omega, nothing_shG, pSign_suf hs]
                    simp only
                    rcases bindO_eq h with ⟨_, _, e⟩ | ⟨u, hu, h⟩
                    · cases e
                    rcases ih hu with h2 | ⟨a, h2⟩
                    · rw [h2]; cases h; exact .inl rfl
                    · rw [h2]; exact .inr ⟨a, rfl⟩
                  · cases h
                · rw [h1]; exact .inr ⟨a, rfl⟩
          · rename_i e40
            rw [if_neg e40]
            rcases bindO_eq h with ⟨_, _, e⟩ | ⟨y, hy, h⟩
            · cases e
            rw [pSet_suf hy]
            simp only [bindO]
            rcases bindO_eq h with ⟨_, _, e⟩ | ⟨s, hs, h⟩
            · cases e
            rw [pSign_suf hs]
            simp only
            rcases bindO_eq h with ⟨_, _, e⟩ | ⟨u, hu, h⟩
            · cases e
            rcases ih hu with h2 | ⟨a, h2⟩
            · rw [h2]; cases h; exact .inl rfl
            · rw [h2]; exact .inr ⟨a, rfl⟩
end

end Go.Proofs.Ytpfifboeoleocaa
