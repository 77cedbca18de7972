/- Masks of letters alone, by themselves and in brackets. Plain mathematics, no program. -/
import Derived.Test.YtpfifboeoleocaaMPar
import Derived.Test.YtpfifboeoleocaaMLay
import Derived.Test.YtpfifboeoleocaaMLng
import Derived.Test.YtpfifboeoleocaaMMat
import Derived.Test.YtpfifboeoleocaaMLik
set_option linter.unusedVariables false
set_option linter.unusedSimpArgs false
namespace Go.Proofs.Ytpfifboeoleocaa

/-- A row of bytes, each itself. -/
def plainRow : List UInt8 → Tr
  | [] => .nil
  | c :: l => .set (between c c) 0 (plainRow l)
def isLow (c : UInt8) : Prop := 97 ≤ c.toNat ∧ c.toNat ≤ 122
theorem isLow_letter {k : Nat} (h : k < 26) : isLow (letter k) := by
  unfold isLow letter
  simp
  omega
/-- A byte that ends a row. -/
def stopAt (m : List UInt8) (e : Nat) : Prop := m[e]? = none ∨ m[e]? = some 41

theorem pSet_low {m : List UInt8} {i : Nat} {c : UInt8} (h : isLow c) : pSet m i c = some (.ok (between c c, i + 1)) := by
  unfold isLow at h
  have hs : isSign c = false := by simp [isSign]; omega
  unfold pSet
  rw [if_neg (by omega), if_neg (by omega), if_neg (by omega), if_neg (by rw [hs]; simp; omega)]
theorem pSign_next {m : List UInt8} {i : Nat} (h : m[i]? = none ∨ ∃ c, m[i]? = some c ∧ isSign c = false) : pSign m false i = some (.ok (0, i)) := by
  unfold pSign
  rcases h with h | ⟨c, h, hs⟩
  · rw [h]
  · rw [h]; simp [hs]
theorem pM_plain {m : List UInt8} : ∀ {l : List UInt8} {i g f : Nat}, (∀ c ∈ l, isLow c) → (∀ k, k < l.length → m[i + k]? = l[k]?) → stopAt m (i + l.length) → l.length < f →
    pM m f false i g = some (.ok (plainRow l, i + l.length, g)) := by
  intro l
  induction l with
  | nil =>
    intro i g f _ _ hst hf
    obtain ⟨f, rfl⟩ : ∃ k, f = k + 1 := ⟨f - 1, by simp at hf; omega⟩
    rw [pM]
    rcases hst with h | h
    · rw [show m[i]? = none from h]; rfl
    · rw [show m[i]? = some 41 from h]; rfl
  | cons c l ih =>
    intro i g f hl hm hst hf
    obtain ⟨f, rfl⟩ : ∃ k, f = k + 1 := ⟨f - 1, by omega⟩
    have hc : m[i]? = some c := hm 0 (by simp)
    have hlow := hl c (by simp)
    have hm' : ∀ k, k < l.length → m[i + 1 + k]? = l[k]? := fun k hk => by
      have := hm (k + 1) (by simp; omega)
      rw [show i + 1 + k = i + (k + 1) by omega, this]
      simp
    have hst' : stopAt m (i + 1 + l.length) := by
      rw [show i + 1 + l.length = i + (c :: l).length by simp; omega]
      exact hst
    have hnext : m[i + 1]? = none ∨ ∃ d, m[i + 1]? = some d ∧ isSign d = false := by
      cases l with
      | nil =>
        rcases hst' with h | h
        · exact .inl h
        · exact .inr ⟨41, h, rfl⟩
      | cons d l =>
        have := hl d (by simp)
        unfold isLow at this
        exact .inr ⟨d, hm' 0 (by simp), by simp [isSign]; omega⟩
    have hr := ih (i := i + 1) (g := g) (f := f) (fun d hd => hl d (by simp [hd])) hm' hst' (by simp at hf; omega)
    unfold isLow at hlow
    rw [pM, hc]
    simp only
    rw [if_neg (by simp; omega), if_neg (by omega), pSet_low (by unfold isLow; exact hlow)]
    simp only [bindO]
    rw [pSign_next hnext]
    simp only
    rw [hr]
    simp only [plainRow, List.length_cons]
    rw [show i + 1 + l.length = i + (l.length + 1) by omega]

theorem plain_is {s : List UInt8} (hl : ∀ c ∈ s, isLow c) (h40 : s.length ≤ 40) : maskIs s = .ok (.row (plainRow s) .nil, 0) := by
  have h := maskIs_eq s
  have hr := pM_plain (m := s) (l := s) (i := 0) (g := 0) (f := 2 * s.length + 1) hl (fun k hk => by simp) (.inl (by simp)) (by omega)
  unfold pMask at h
  rw [if_neg (by omega), pM, hr] at h
  simp only [bindO] at h
  rw [show isAt s (0 + s.length) 124 = false by simp [isAt]] at h
  simp only [Bool.false_eq_true, if_false] at h
  rw [if_neg (by simp)] at h
  exact (Option.some.inj h).symm
theorem group_is {s : List UInt8} (hl : ∀ c ∈ s, isLow c) (h40 : s.length ≤ 40) : maskIs (40 :: (s ++ [41])) = .ok (.row (.grp 0 (.row (plainRow s) .nil) 0 .nil) .nil, 1) := by
  have hml : (40 :: (s ++ [41]) : List UInt8).length = s.length + 2 := by simp
  have h := maskIs_eq (40 :: (s ++ [41]))
  have hg : ∀ k, k < s.length → (40 :: (s ++ [41]) : List UInt8)[1 + k]? = s[k]? := fun k hk => by
    rw [Nat.add_comm, List.getElem?_cons_succ, List.getElem?_append_left hk]
  have he : (40 :: (s ++ [41]) : List UInt8)[1 + s.length]? = some 41 := by
    rw [Nat.add_comm, List.getElem?_cons_succ, List.getElem?_append_right (Nat.le_refl _)]
    simp
  have hend : (40 :: (s ++ [41]) : List UInt8)[1 + s.length + 1]? = none := List.getElem?_eq_none_iff.2 (by rw [hml]; omega)
  have hr := pM_plain (m := 40 :: (s ++ [41])) (l := s) (i := 1) (g := 1) (f := 2 * s.length + 3) hl hg (.inr he) (by omega)
  have hrows : pM (40 :: (s ++ [41])) (2 * s.length + 4) true 1 1 = some (.ok (.row (plainRow s) .nil, 1 + s.length, 1)) := by
    rw [pM, hr]
    simp only [bindO]
    rw [show isAt (40 :: (s ++ [41])) (1 + s.length) 124 = false by simp only [isAt, he]; rfl]
    rfl
  have hnil : pM (40 :: (s ++ [41])) (2 * s.length + 4) false (1 + s.length + 1) 1 = some (.ok (.nil, 1 + s.length + 1, 1)) := by
    rw [pM, hend]
  have hrow : pM (40 :: (s ++ [41])) (2 * s.length + 5) false 0 0 = some (.ok (.grp 0 (.row (plainRow s) .nil) 0 .nil, 1 + s.length + 1, 1)) := by
    rw [pM, show (40 :: (s ++ [41]) : List UInt8)[0]? = some 40 from rfl]
    simp only
    rw [if_neg (by decide), if_pos (by decide), if_neg (by decide)]
    show bindO (pM (40 :: (s ++ [41])) (2 * s.length + 4) true 1 1) _ = _
    rw [hrows]
    simp only [bindO]
    rw [show isAt (40 :: (s ++ [41])) (1 + s.length) 41 = true by simp only [isAt, he]; rfl]
    simp only [if_true]
    have hsg : pSign (40 :: (s ++ [41])) (nothing (.row (plainRow s) .nil)) (1 + s.length + 1) = some (.ok (0, 1 + s.length + 1)) := by
      unfold pSign
      rw [hend]
    rw [hsg]
    simp only
    rw [hnil]
  unfold pMask at h
  rw [if_neg (by omega), hml, show 2 * (s.length + 2) + 2 = 2 * s.length + 5 + 1 by omega, pM, hrow] at h
  simp only [bindO] at h
  rw [show isAt (40 :: (s ++ [41])) (1 + s.length + 1) 124 = false by simp only [isAt, hend]] at h
  simp only [Bool.false_eq_true, if_false] at h
  rw [if_neg (by omega)] at h
  exact (Option.some.inj h).symm

/-! ### what they take -/
theorem mt_plain {t : List UInt8} : ∀ {l : List UInt8} {p q : Nat}, Mt t (re (plainRow l)) p q ↔ q = p + l.length ∧ ∀ k, k < l.length → t[p + k]? = l[k]?
  | [], p, q => ⟨fun h => by cases h; exact ⟨rfl, fun k hk => by simp at hk⟩, fun ⟨h, _⟩ => by subst h; exact .eps⟩
  | c :: l, p, q => by
    have hone : ∀ p, hits t (between c c) p = true ↔ t[p]? = some c := fun p => by
      unfold hits
      cases hp : t[p]? with
      | none => simp
      | some d =>
        simp only [between, Bool.and_eq_true, decide_eq_true_eq, Option.some.injEq]
        exact ⟨fun h => UInt8.toNat_inj.1 (by omega), fun h => by subst h; exact ⟨Nat.le_refl _, Nat.le_refl _⟩⟩
    constructor
    · intro h
      cases h with
      | seq h1 h2 =>
        have h1' : Mt t (.set (between c c)) p _ := h1
        cases h1' with
        | set e =>
          obtain ⟨h3, h4⟩ := mt_plain.1 h2
          refine ⟨by simp; omega, fun k hk => ?_⟩
          cases k with
          | zero => exact (hone p).1 e
          | succ k =>
            have := h4 k (by simp at hk; omega)
            rw [show p + (k + 1) = p + 1 + k by omega, this]
            simp
    · rintro ⟨h1, h2⟩
      refine .seq (q := p + 1) (show Mt t (.set (between c c)) p (p + 1) from .set ((hone p).2 (h2 0 (by simp)))) (mt_plain.2 ⟨by simp at h1; omega, fun k hk => ?_⟩)
      have := h2 (k + 1) (by simp; omega)
      rw [show p + 1 + k = p + (k + 1) by omega, this]
      simp
theorem plain_like {s t : List UInt8} (hl : ∀ c ∈ s, isLow c) (h40 : s.length ≤ 40) : likeB (.row (plainRow s) .nil) t = decide (s = t) := by
  have hg := (maskIs_ok (plain_is hl h40)).2.1
  rw [Bool.eq_iff_iff, likeB_iff hg, decide_eq_true_eq]
  show Mt t (re (plainRow s)) 0 t.length ↔ _
  rw [mt_plain]
  constructor
  · rintro ⟨h1, h2⟩
    apply List.ext_getElem?
    intro k
    by_cases hk : k < s.length
    · have := h2 k hk
      rw [Nat.zero_add] at this
      exact this.symm
    · rw [List.getElem?_eq_none_iff.2 (by omega), List.getElem?_eq_none_iff.2 (by omega)]
  · rintro rfl
    exact ⟨by simp, fun k _ => by simp⟩

theorem run_plain {t : List UInt8} {ks : List Re} {x : Option Evs} : ∀ {l : List UInt8} {p F : Nat}, (∀ k, k < l.length → t[p + k]? = l[k]?) → run t F ks (p + l.length) = some x → run t (F + (2 * l.length + 1)) (re (plainRow l) :: ks) p = some x
  | [], p, F, _, h => h
  | c :: l, p, F, hm, h => by
    have hc : hits t (between c c) p = true := by
      have : t[p]? = some c := hm 0 (by simp)
      simp [hits, this, between]
    have h2 := run_plain (l := l) (p := p + 1) (F := F) (fun k hk => by
      have := hm (k + 1) (by simp; omega)
      rw [show p + 1 + k = p + (k + 1) by omega, this]
      simp) (by rw [show p + 1 + l.length = p + (c :: l).length by simp; omega]; exact h)
    rw [show F + (2 * (c :: l).length + 1) = (F + (2 * l.length + 1)) + 1 + 1 by simp; omega]
    show run t _ (.set (between c c) :: re (plainRow l) :: ks) p = some x
    rw [run, if_pos hc]
    exact h2
theorem group_way {s : List UInt8} : wayOf (.row (.grp 0 (.row (plainRow s) .nil) 0 .nil) .nil) s = some [(0, 0), (1, s.length)] := by
  refine wayOf_eq (f := 3 + (2 * s.length + 1) + 1 + 1 + 1 + 1) ?_
  show run s _ (.mk 0 :: .seq (re (plainRow s)) (.mk 1) :: re .nil :: []) 0 = _
  rw [run]
  have h := run_plain (t := s) (ks := [.mk 1, .eps]) (x := some [(1, s.length)]) (l := s) (p := 0) (F := 3) (fun k _ => by simp) (by
    rw [Nat.zero_add, run, run, run]
    simp [marked])
  show (run s (3 + (2 * s.length + 1)) (re (plainRow s) :: [.mk 1, .eps]) 0).map (marked 0 0) = _
  rw [h]
  rfl
theorem group_took (s : List UInt8) : tookL s [(0, 0), (1, s.length)] 1 = [s] := by
  simp [tookL, lastOf, tookB, List.range_succ]

end Go.Proofs.Ytpfifboeoleocaa
