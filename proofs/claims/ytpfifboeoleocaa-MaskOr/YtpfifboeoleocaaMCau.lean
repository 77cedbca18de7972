/- A mask ahead of a bar and another mask, as mathematics: what both together are. -/
import Derived.Test.YtpfifboeoleocaaMSem
import Derived.Test.YtpfifboeoleocaaMPar
import Derived.Test.YtpfifboeoleocaaMLay
import Derived.Test.YtpfifboeoleocaaMLng
import Derived.Test.YtpfifboeoleocaaMCat
import Derived.Test.YtpfifboeoleocaaMMat
import Derived.Test.YtpfifboeoleocaaMLik
set_option linter.unusedVariables false
set_option linter.unusedSimpArgs false
namespace Go.Proofs.Ytpfifboeoleocaa

/-- Rows, and rows behind them. -/
def appR : Tr → Tr → Tr
  | .row r .nil, T => .row r T
  | .row r rest, T => .row r (appR rest T)
  | x, _ => x
theorem appR_row {r rest T : Tr} (h : wf true rest) : appR (.row r rest) T = .row r (appR rest T) := by
  cases rest with
  | nil => exact h.elim
  | set s sg rest => rfl
  | grp n rows sg rest => rfl
  | row a c => rfl

section
variable {a b : List UInt8}
theorem get_pre {i : Nat} (h : i < a.length) : (a ++ 124 :: b)[i]? = a[i]? := List.getElem?_append_left h
theorem get_bar : (a ++ 124 :: b)[a.length]? = some 124 := by simp
theorem isAt_pre {i c : Nat} (h : i ≤ a.length) (hc : c ≠ 124) : isAt (a ++ 124 :: b) i c = isAt a i c := by
  unfold isAt
  by_cases e : i < a.length
  · rw [get_pre e]
  · obtain rfl : i = a.length := by omega
    rw [get_bar, List.getElem?_eq_none_iff.2 (Nat.le_refl _)]
    simp
    omega
theorem pBr_pre {i : Nat} {c} (h : pBr a i = some (.ok c)) : pBr (a ++ 124 :: b) i = some (.ok c) := by
  obtain ⟨h1, h2⟩ := pBr_ok h
  unfold pBr
  rw [get_pre (get_lt h1), h1]
  simp [h2]
theorem pSpan_pre {i : Nat} {x} (h : pSpan a i = some (.ok x)) : pSpan (a ++ 124 :: b) i = some (.ok x) := by
  unfold pSpan at h ⊢
  rcases bindO_eq h with ⟨_, _, e⟩ | ⟨c, hc, h⟩
  · cases e
  have hl := get_lt (pBr_ok hc).1
  rw [pBr_pre hc]
  simp only [bindO]
  rw [isAt_pre (by omega) (by decide)]
  split at h
  · rename_i e
    rw [if_pos e]
    rcases bindO_eq h with ⟨_, _, e⟩ | ⟨d, hd, h⟩
    · cases e
    rw [pBr_pre hd]
    exact h
  · rename_i e
    rw [if_neg e]
    exact h
theorem pSpans_pre : ∀ {f s i x}, pSpans a f s i = some (.ok x) → i ≤ a.length → pSpans (a ++ 124 :: b) f s i = some (.ok x) := by
  intro f
  induction f with
  | zero => intro s i x h; cases h
  | succ f ih =>
    intro s i x h hi
    rw [pSpans] at h ⊢
    rw [isAt_pre hi (by decide)]
    split at h
    · rename_i e; rw [if_pos e]; exact h
    · rename_i e
      rw [if_neg e]
      rcases bindO_eq h with ⟨_, _, e⟩ | ⟨y, hy, h⟩
      · cases e
      rw [pSpan_pre hy]
      exact ih h (pSpan_ok hy).2
theorem pSet_pre {i : Nat} {c x} (hc : a[i]? = some c) (h : pSet a i c = some (.ok x)) : pSet (a ++ 124 :: b) i c = some (.ok x) := by
  have hi := get_lt hc
  unfold pSet at h ⊢
  split at h
  · rename_i e
    rw [if_pos e]
    unfold pBrackets at h ⊢
    rw [isAt_pre (by omega) (by decide)]
    rcases bindO_eq h with ⟨_, _, e⟩ | ⟨y, hy, h⟩
    · cases e
    simp only
    rw [pSpan_pre hy]
    simp only [bindO]
    rcases bindO_eq h with ⟨_, _, e⟩ | ⟨z, hz, h⟩
    · cases e
    have := pSpans_more (k := b.length + 1) (pSpans_pre (b := b) hz (pSpan_ok hy).2)
    rw [show (a ++ 124 :: b).length + 1 = a.length + 1 + (b.length + 1) by simp; omega, this]
    exact h
  · rename_i e
    rw [if_neg e]
    split at h
    · rename_i e2; rw [if_pos e2]; exact h
    · rename_i e2
      rw [if_neg e2]
      split at h
      · rename_i e3
        rw [if_pos e3]
        cases hd : a[i + 1]? with
        | none => rw [hd] at h; cases h
        | some d =>
          rw [hd] at h
          rw [get_pre (get_lt hd), hd]
          exact h
      · rename_i e3
        rw [if_neg e3]
        exact h
theorem pSign_pre {null : Bool} {i : Nat} {x} (h : pSign a null i = some (.ok x)) (hi : i ≤ a.length) : pSign (a ++ 124 :: b) null i = some (.ok x) := by
  unfold pSign at h ⊢
  by_cases e : i < a.length
  · rw [get_pre e]; exact h
  · obtain rfl : i = a.length := by omega
    rw [get_bar]
    rw [List.getElem?_eq_none_iff.2 (Nat.le_refl _)] at h
    exact h

theorem pM_pre : ∀ {f rows i g x}, pM a f rows i g = some (.ok x) → i ≤ a.length →
    (rows = false → pM (a ++ 124 :: b) f false i g = some (.ok x)) ∧ (rows = true → x.2.1 < a.length → pM (a ++ 124 :: b) f true i g = some (.ok x)) ∧
    (rows = true → x.2.1 = a.length → ∀ F y, pM (a ++ 124 :: b) F true (a.length + 1) x.2.2 = some y → pM (a ++ 124 :: b) (f + F) true i g = bindO (some y) fun z => some (.ok (appR x.1 z.1, z.2))) := by
  intro f
  induction f with
  | zero => intro rows i g x h; cases h
  | succ f ih =>
    intro rows i g x h hi
    cases rows with
    | true =>
      refine ⟨fun e => (by cases e), fun _ hx => ?_, fun _ hx F Y hF => ?_⟩
      · rw [pM] at h ⊢
        rcases bindO_eq h with ⟨_, _, e⟩ | ⟨y, hy, h⟩
        · cases e
        have hyo := (pM_ok hy hi).2
        rw [(ih hy hi).1 rfl]
        simp only [bindO]
        split at h
        · rename_i e
          have hlt := isAt_lt e
          have e' : isAt (a ++ 124 :: b) y.2.1 124 = true := by unfold isAt at e ⊢; rw [get_pre hlt]; exact e
          rw [if_pos e']
          rcases bindO_eq h with ⟨_, _, e⟩ | ⟨z, hz, h⟩
          · cases e
          have hzx : z.2.1 < a.length := by cases h; exact hx
          rw [(ih hz (by omega)).2.1 rfl hzx]
          exact h
        · rename_i e
          have hlt : y.2.1 < a.length := by cases h; exact hx
          have e' : ¬ isAt (a ++ 124 :: b) y.2.1 124 = true := by unfold isAt at e ⊢; rw [get_pre hlt]; exact e
          rw [if_neg e']
          exact h
      · rw [show f + 1 + F = f + F + 1 by omega]
        rw [pM] at h ⊢
        rcases bindO_eq h with ⟨_, _, e⟩ | ⟨y, hy, h⟩
        · cases e
        have hyo := (pM_ok hy hi).2
        rw [pM_more (k := F) ((ih hy hi).1 rfl)]
        simp only [bindO]
        split at h
        · rename_i e
          have hlt := isAt_lt e
          have e' : isAt (a ++ 124 :: b) y.2.1 124 = true := by unfold isAt at e ⊢; rw [get_pre hlt]; exact e
          rw [if_pos e']
          rcases bindO_eq h with ⟨_, _, e⟩ | ⟨z, hz, h⟩
          · cases e
          have hzx : z.2.1 = a.length := by cases h; exact hx
          have hg : z.2.2 = x.2.2 := by cases h; rfl
          rw [(ih hz (by omega)).2.2 rfl hzx F Y (by rw [hg]; exact hF)]
          have hw := (pM_is hz).1
          cases h
          cases Y with
          | error e => rfl
          | ok u => simp only [bindO]; rw [appR_row hw]
        · rename_i e
          have hyx : y.2.1 = a.length := by cases h; exact hx
          have hg : y.2.2 = x.2.2 := by cases h; rfl
          have e' : isAt (a ++ 124 :: b) y.2.1 124 = true := by unfold isAt; rw [hyx, get_bar]; rfl
          rw [if_pos e', hyx, hg, pM_le hF (by omega)]
          cases h
          cases Y with
          | error e => rfl
          | ok u => rfl
    | false =>
      refine ⟨fun _ => ?_, fun e => (by cases e), fun e => (by cases e)⟩
      rw [pM] at h ⊢
      by_cases hlt : i < a.length
      · rw [get_pre hlt]
        cases hc : a[i]? with
        | none => rw [hc] at h; exact h
        | some c =>
          rw [hc] at h
          simp only at h ⊢
          split at h
          · rename_i e; rw [if_pos e]; exact h
          · rename_i e
            rw [if_neg e]
            split at h
            · rename_i e40
              rw [if_pos e40]
              split at h
              · cases h
              · rename_i e9
                rw [if_neg e9]
                rcases bindO_eq h with ⟨_, _, e⟩ | ⟨y, hy, h⟩
                · cases e
                have hyo := (pM_ok hy (by omega)).2
                split at h
                · rename_i e41
                  have hl := isAt_lt e41
                  rw [(ih hy (by omega)).2.1 rfl hl]
                  simp only [bindO]
                  rw [isAt_pre (by omega) (by decide), if_pos e41]
                  rcases bindO_eq h with ⟨_, _, e⟩ | ⟨s, hs, h⟩
                  · cases e
                  have hso := pSign_ok hs (by omega)
                  rw [pSign_pre hs (by omega)]
                  simp only
                  rcases bindO_eq h with ⟨_, _, e⟩ | ⟨u, hu, h⟩
                  · cases e
                  rw [(ih hu (by omega)).1 rfl]
                  exact h
                · cases h
            · rename_i e40
              rw [if_neg e40]
              rcases bindO_eq h with ⟨_, _, e⟩ | ⟨y, hy, h⟩
              · cases e
              have hyo := pSet_ok hc hy
              rw [pSet_pre hc hy]
              simp only [bindO]
              rcases bindO_eq h with ⟨_, _, e⟩ | ⟨s, hs, h⟩
              · cases e
              have hso := pSign_ok hs (by omega)
              rw [pSign_pre hs (by omega)]
              simp only
              rcases bindO_eq h with ⟨_, _, e⟩ | ⟨u, hu, h⟩
              · cases e
              rw [(ih hu (by omega)).1 rfl]
              exact h
      · obtain rfl : i = a.length := by omega
        rw [get_bar]
        rw [List.getElem?_eq_none_iff.2 (Nat.le_refl _)] at h
        simp only at h ⊢
        rw [if_pos (by decide)]
        exact h
end

theorem appR_takes {t : List UInt8} : ∀ {T T' : Tr}, wf true T → wf true T' → wf true (appR T T') ∧ ∀ p q, Mt t (re (appR T T')) p q ↔ Mt t (re T) p q ∨ Mt t (re T') p q := by
  intro T
  induction T with
  | nil => intro T' h; exact h.elim
  | set s sg rest ih => intro T' h; cases h
  | grp n rows sg rest ih1 ih2 => intro T' h; cases h
  | row r rest ih1 ih2 =>
    intro T' h h'
    have hr : wf false r := by
      cases rest with
      | nil => exact h
      | set s sg rest => exact h.1
      | grp n rows sg rest => exact h.1
      | row a b => exact h.1
    have halt : ∀ (x y : Re) p q, Mt t (.alt x y) p q ↔ Mt t x p q ∨ Mt t y p q := fun x y p q =>
      ⟨fun h => by cases h with | altL h => exact .inl h | altR h => exact .inr h, fun h => h.elim .altL .altR⟩
    by_cases hn : wf true rest
    · obtain ⟨h1, h2⟩ := ih2 hn h'
      rw [appR_row hn]
      refine ⟨wf_row hr h1, fun p q => ?_⟩
      rw [re_row h1, re_row hn, halt, halt, h2 p q]
      exact ⟨fun h => by rcases h with h | h | h; exact .inl (.inl h); exact .inl (.inr h); exact .inr h, fun h => by rcases h with (h | h) | h; exact .inl h; exact .inr (.inl h); exact .inr (.inr h)⟩
    · have : rest = .nil := by
        cases rest with
        | nil => rfl
        | set s sg rest => exact (hn h.2).elim
        | grp n rows sg rest => exact (hn h.2).elim
        | row a b => exact (hn h.2).elim
      subst this
      show wf true (.row r T') ∧ _
      refine ⟨wf_row hr h', fun p q => ?_⟩
      show Mt t (re (.row r T')) p q ↔ _
      rw [re_row h', halt]
      rfl

/-- WHO IS LIKE ONE OF TWO MASKS IS LIKE BOTH WITH A BAR BETWEEN THEM, and nothing else is. -/
theorem or_like {a b : List UInt8} {Ta Tb : Tr} {ga gb : Nat} (ha : maskIs a = .ok (Ta, ga)) (hb : maskIs b = .ok (Tb, gb)) :
    (∃ x, maskIs (a ++ 124 :: b) = .error (2, x)) ∨ ∃ T g, maskIs (a ++ 124 :: b) = .ok (T, g) ∧ ∀ t, likeB T t = (likeB Ta t || likeB Tb t) := by
  obtain ⟨wa, gda, _, _, _, hal⟩ := maskIs_ok ha
  obtain ⟨wb, gdb, _, _, _, hbl⟩ := maskIs_ok hb
  have ea := maskIs_eq a
  have eb := maskIs_eq b
  have em := maskIs_eq (a ++ 124 :: b)
  rw [ha] at ea
  rw [hb] at eb
  unfold pMask at ea eb em
  rw [if_neg (by omega)] at ea eb
  by_cases h60 : 60 < (a ++ 124 :: b).length
  · rw [if_pos h60] at em
    exact .inl ⟨0, (Option.some.inj em).symm⟩
  · rw [if_neg h60] at em
    rcases bindO_eq ea with ⟨_, _, e⟩ | ⟨x, hx, ea⟩
    · cases e
    rcases bindO_eq eb with ⟨_, _, e⟩ | ⟨y, hy, eb⟩
    · cases e
    have hxo := (pM_ok hx (by omega)).2
    have hyo := (pM_ok hy (by omega)).2
    split at ea
    · cases ea
    · rename_i hxe
      split at eb
      · cases eb
      · rename_i hye
        cases ea
        cases eb
        have hxl : x.2.1 = a.length := by omega
        have hyl : y.2.1 = b.length := by omega
        have hwt := (pM_is hy).1
        have hpre := (pM_pre (b := b) hx (by omega)).2.2 rfl hxl
        have hml : (a ++ 124 :: b).length = a.length + (b.length + 1) := by simp
        have hsuf := pM_suf (pre := a ++ [124]) (b := b) x.2.2 hy
        have hpl : (a ++ [124] : List UInt8).length = a.length + 1 := by simp
        have hpa : (a ++ [124] : List UInt8) ++ b = a ++ 124 :: b := by simp
        rw [hpa, hpl, Nat.add_zero, Nat.zero_add] at hsuf
        have hfu : 2 * a.length + 2 + (2 * b.length + 2) ≤ 2 * (a ++ 124 :: b).length + 2 := by omega
        rcases hsuf with h1 | ⟨z, h1⟩
        · have h2 := pM_le (hpre _ _ h1) hfu
          simp only [bindO] at h2
          rw [h2] at em
          simp only [bindO] at em
          rw [if_neg (by omega)] at em
          have hme := (Option.some.inj em).symm
          refine .inr ⟨_, _, hme, fun t => ?_⟩
          obtain ⟨_, gdm, _⟩ := maskIs_ok hme
          have hws : wf true (shG x.2.2 y.1) := (pM_is h1).1
          rw [Bool.eq_iff_iff, Bool.or_eq_true, likeB_iff gdm, likeB_iff gda, likeB_iff gdb, (appR_takes (t := t) wa hws).2]
          have hal := alike_shG x.2.2 y.1
          exact ⟨fun h => h.imp id (hal.mt _ _), fun h => h.imp id (hal.symm.mt _ _)⟩
        · have h2 := pM_le (hpre _ _ h1) hfu
          rw [h2] at em
          exact .inl ⟨z, (Option.some.inj em).symm⟩

end Go.Proofs.Ytpfifboeoleocaa
