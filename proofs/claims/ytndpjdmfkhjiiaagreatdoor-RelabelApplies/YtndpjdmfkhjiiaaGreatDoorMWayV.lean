/- Where the groups of a mask begin and end along its first way: in order, each that begins ends. Plain mathematics, no program. -/
import Derived.Test.YtndpjdmfkhjiiaaGreatDoorQ3d7cfc
set_option linter.unusedVariables false
set_option linter.unusedSimpArgs false
namespace Go.Proofs.YtndpjdmfkhjiiaaGreatDoor

/-- All places lie from the one to the other, and rise. -/
def rising : Nat → Nat → Evs → Prop
  | lo, hi, [] => lo ≤ hi
  | lo, hi, (_, p) :: l => lo ≤ p ∧ rising p hi l
theorem rising.ge {hi : Nat} : ∀ {l lo}, rising lo hi l → lo ≤ hi
  | [], _, h => h
  | (_, p) :: l, _, h => Nat.le_trans h.1 (rising.ge h.2)
theorem rising.less {hi : Nat} : ∀ {l lo lo'}, rising lo hi l → lo' ≤ lo → rising lo' hi l
  | [], _, _, h, k => Nat.le_trans k h
  | (_, p) :: l, _, _, h, k => ⟨Nat.le_trans k h.1, h.2⟩
theorem rising.append {lo mid hi : Nat} : ∀ {l l'}, rising lo mid l → rising mid hi l' → rising lo hi (l ++ l')
  | [], l', h, k => k.less h
  | (_, p) :: l, l', h, k => ⟨h.1, rising.append (lo := p) h.2 k⟩
theorem rising.mem {hi : Nat} : ∀ {l lo}, rising lo hi l → ∀ e ∈ l, lo ≤ e.2 ∧ e.2 ≤ hi
  | [], _, _, e, he => by cases he
  | (s, p) :: l, _, h, e, he => by
    rcases List.mem_cons.1 he with rfl | he
    · exact ⟨h.1, h.2.ge⟩
    · have := rising.mem h.2 e he
      exact ⟨Nat.le_trans h.1 this.1, this.2⟩
theorem rising.part {hi : Nat} : ∀ {a b lo}, rising lo hi (a ++ b) → rising lo hi b
  | [], b, _, h => h
  | (s, p) :: a, b, _, h => rising.less (rising.part (a := a) h.2) h.1

/-- Where a group begins, it ends behind that. -/
def closed (l : Evs) : Prop := ∀ a b n p, l = a ++ (2 * n, p) :: b → ∃ q, (2 * n + 1, q) ∈ b
theorem closed_nil : closed [] := fun a b n p h => by simp at h
theorem closed.append {l l' : Evs} (h : closed l) (k : closed l') : closed (l ++ l') := by
  intro a b n p e
  rcases List.append_eq_append_iff.1 e with ⟨c, rfl, e2⟩ | ⟨c, rfl, e2⟩
  · exact k c b n p e2
  · cases c with
    | nil =>
      simp at e2
      exact k [] b n p (by simpa using e2.symm)
    | cons x c =>
      simp at e2
      obtain ⟨rfl, rfl⟩ := e2
      obtain ⟨q, hq⟩ := h a c n p rfl
      exact ⟨q, by simp [hq]⟩
theorem closed_group {n p q : Nat} {l : Evs} (h : closed l) : closed ((2 * n, p) :: (l ++ [(2 * n + 1, q)])) := by
  intro a b m p' e
  cases a with
  | nil =>
    simp at e
    obtain ⟨⟨hn, _⟩, rfl⟩ := e
    obtain rfl : n = m := by omega
    exact ⟨q, by simp⟩
  | cons x a =>
    simp at e
    obtain ⟨rfl, e⟩ := e
    rcases List.append_eq_append_iff.1 e with ⟨c, rfl, e2⟩ | ⟨c, rfl, e2⟩
    · cases c with
      | nil => simp at e2; omega
      | cons y c => simp at e2
    · cases c with
      | nil => simp at e2; omega
      | cons y c =>
        simp at e2
        obtain ⟨rfl, rfl⟩ := e2
        obtain ⟨q', hq⟩ := h a c m p' rfl
        exact ⟨q', by simp [hq]⟩

/-- A part's way: it rises, its groups end, and what is behind goes on where it ends. -/
def Goes (t : List UInt8) (r : Re) : Prop := ∀ f ks p l, run t f (r :: ks) p = some (some l) → p ≤ t.length → ∃ f' l1 l2 q, f' < f ∧ l = l1 ++ l2 ∧ rising p q l1 ∧ q ≤ t.length ∧ closed l1 ∧ run t f' ks q = some (some l2)

theorem goes_eps (t : List UInt8) : Goes t .eps := by
  intro f ks p l h hp
  obtain _ | f := f
  · cases h
  exact ⟨f, [], l, p, by omega, rfl, Nat.le_refl _, hp, closed_nil, h⟩
theorem goes_set (t : List UInt8) (s) : Goes t (.set s) := by
  intro f ks p l h hp
  obtain _ | f := f
  · cases h
  rw [run] at h
  split at h
  · rename_i c
    exact ⟨f, [], l, p + 1, by omega, rfl, Nat.le_succ _, hits_lt c, closed_nil, h⟩
  · cases h
theorem first_got {a b : Ans} {e : Evs} (h : first a b = some (some e)) : a = some (some e) ∨ b = some (some e) := by
  rcases first_eq h with ⟨e', h1, h2⟩ | ⟨h1, h2⟩
  · cases h2; exact .inl h1
  · exact .inr h2
theorem goes_alt {t : List UInt8} {a b : Re} (ha : Goes t a) (hb : Goes t b) : Goes t (.alt a b) := by
  intro f ks p l h hp
  obtain _ | f := f
  · cases h
  rw [run] at h
  rcases first_got h with h | h
  · obtain ⟨f', l1, l2, q, h0, h1⟩ := ha f ks p l h hp
    exact ⟨f', l1, l2, q, by omega, h1⟩
  · obtain ⟨f', l1, l2, q, h0, h1⟩ := hb f ks p l h hp
    exact ⟨f', l1, l2, q, by omega, h1⟩
theorem goes_seq {t : List UInt8} {a b : Re} (ha : Goes t a) (hb : Goes t b) : Goes t (.seq a b) := by
  intro f ks p l h hp
  obtain _ | f := f
  · cases h
  rw [run] at h
  obtain ⟨f1, l1, l2, q, h0, rfl, h1, h2, h3, h4⟩ := ha f _ p l h hp
  obtain ⟨f2, l3, l4, q', k0, rfl, k1, k2, k3, k4⟩ := hb f1 _ q l2 h4 h2
  exact ⟨f2, l1 ++ l3, l4, q', by omega, by simp, h1.append k1, k2, h3.append k3, k4⟩
theorem goes_star {t : List UInt8} {r : Re} (hr : Goes t r) : ∀ f ks p l, run t f (.star r :: ks) p = some (some l) → p ≤ t.length → ∃ f' l1 l2 q, f' < f ∧ l = l1 ++ l2 ∧ rising p q l1 ∧ q ≤ t.length ∧ closed l1 ∧ run t f' ks q = some (some l2) := by
  intro f
  induction f using Nat.strongRecOn with
  | _ f ih =>
    intro ks p l h hp
    obtain _ | f := f
    · cases h
    rw [run] at h
    rcases first_got h with h | h
    · obtain ⟨f1, l1, l2, q, h0, rfl, h1, h2, h3, h4⟩ := hr f _ p l h hp
      obtain ⟨f2, l3, l4, q', k0, rfl, k1, k2, k3, k4⟩ := ih f1 (by omega) ks q l2 h4 h2
      exact ⟨f2, l1 ++ l3, l4, q', by omega, by simp, h1.append k1, k2, h3.append k3, k4⟩
    · exact ⟨f, [], l, p, by omega, rfl, Nat.le_refl _, hp, closed_nil, h⟩
theorem goes_plus {t : List UInt8} {r : Re} (hr : Goes t r) : Goes t (.plus r) := by
  intro f ks p l h hp
  obtain _ | f := f
  · cases h
  rw [run] at h
  obtain ⟨f1, l1, l2, q, h0, rfl, h1, h2, h3, h4⟩ := hr f _ p l h hp
  obtain ⟨f2, l3, l4, q', k0, rfl, k1, k2, k3, k4⟩ := goes_star hr f1 ks q l2 h4 h2
  exact ⟨f2, l1 ++ l3, l4, q', by omega, by simp, h1.append k1, k2, h3.append k3, k4⟩
theorem goes_signed {t : List UInt8} {sg : Nat} {r : Re} (h : Goes t r) : Goes t (signed sg r) := by
  unfold signed
  split
  · exact goes_star h
  · split
    · exact goes_plus h
    · split
      · exact goes_alt h (goes_eps t)
      · exact h
theorem goes_group {t : List UInt8} {n : Nat} {r : Re} (h : Goes t r) : Goes t (grpRe n r) := by
  intro f ks p l e hp
  obtain _ | f := f
  · cases e
  rw [grpRe, run] at e
  obtain _ | f := f
  · cases e
  rw [run] at e
  obtain ⟨y, hy, e⟩ := map_some e
  cases y with
  | none => cases e
  | some y =>
    simp [marked] at e
    subst e
    obtain _ | f := f
    · cases hy
    rw [run] at hy
    obtain ⟨f1, l1, l2, q, h0, rfl, h1, h2, h3, h4⟩ := h f _ p y hy hp
    obtain _ | f1 := f1
    · cases h4
    rw [run] at h4
    obtain ⟨z, hz, e⟩ := map_some h4
    cases z with
    | none => cases e
    | some z =>
      simp [marked] at e
      subst e
      refine ⟨f1, (2 * n, p) :: (l1 ++ [(2 * n + 1, q)]), z, q, by omega, by simp, ⟨Nat.le_refl _, h1.append ⟨Nat.le_refl _, Nat.le_refl _⟩⟩, h2, closed_group h3, hz⟩
theorem goes_re (t : List UInt8) : ∀ T, Goes t (re T)
  | .nil => goes_eps t
  | .set s sg rest => goes_seq (goes_signed (goes_set t s)) (goes_re t rest)
  | .grp n rows sg rest => goes_seq (goes_signed (goes_group (goes_re t rows))) (goes_re t rest)
  | .row r rest => by
    cases h : rest with
    | nil => exact goes_re t r
    | set s sg rest' => exact goes_alt (goes_re t r) (h ▸ goes_re t rest)
    | grp n rows sg rest' => exact goes_alt (goes_re t r) (h ▸ goes_re t rest)
    | row a b => exact goes_alt (goes_re t r) (h ▸ goes_re t rest)

/-- A whole mask's way. -/
theorem way_is {t : List UInt8} {T : Tr} {f l} (h : run t f [re T] 0 = some (some l)) : rising 0 t.length l ∧ closed l := by
  obtain ⟨f', l1, l2, q, h0, rfl, h1, h2, h3, h4⟩ := goes_re t T f [] 0 l h (Nat.zero_le _)
  obtain _ | f' := f'
  · cases h4
  rw [run] at h4
  split at h4
  · cases h4
    simp
    exact ⟨by simpa using h1.append (l' := []) h2, h3⟩
  · cases h4

/-- The last place of each slot. -/
theorem lastOf_append (sl : Nat) : ∀ (a b : Evs) (d : Int), lastOf d sl (a ++ b) = lastOf (lastOf d sl a) sl b
  | [], b, d => rfl
  | (s, p) :: a, b, d => lastOf_append sl a b _
theorem lastOf_not {sl : Nat} : ∀ {l : Evs} {d : Int}, (∀ p, (sl, p) ∉ l) → lastOf d sl l = d
  | [], d, _ => rfl
  | (s, p) :: l, d, h => by
    rw [lastOf, if_neg (fun e => h p (by simp [e])), lastOf_not fun q hq => h q (by simp [hq])]
/-- Either there is none, or the last one stands there and none behind it. -/
theorem lastOf_cases (sl : Nat) (d : Int) : ∀ l : Evs, ((∀ p : Nat, (sl, p) ∉ l) ∧ lastOf d sl l = d) ∨ ∃ (a b : Evs) (p : Nat), l = a ++ (sl, p) :: b ∧ (∀ q, (sl, q) ∉ b) ∧ lastOf d sl l = (p : Int)
  | [] => .inl ⟨fun p h => (by cases h), rfl⟩
  | (s, p) :: l => by
    by_cases e : s = sl
    · subst e
      rcases lastOf_cases s (p : Int) l with ⟨h1, h2⟩ | ⟨a, b, q, rfl, h1, h2⟩
      · exact .inr ⟨[], l, p, rfl, h1, by rw [lastOf, if_pos rfl, h2]⟩
      · exact .inr ⟨(s, p) :: a, b, q, rfl, h1, by rw [lastOf, if_pos rfl, h2]⟩
    · rcases lastOf_cases sl d l with ⟨h1, h2⟩ | ⟨a, b, q, rfl, h1, h2⟩
      · refine .inl ⟨fun q hq => ?_, by rw [lastOf, if_neg e, h2]⟩
        rcases List.mem_cons.1 hq with hq | hq
        · cases hq; exact e rfl
        · exact h1 q hq
      · exact .inr ⟨(s, p) :: a, b, q, rfl, h1, by rw [lastOf, if_neg e, h2]⟩

/-- A group's places: nowhere, or from the one to the other. -/
theorem group_places {len : Nat} {l : Evs} (h : rising 0 len l) (hc : closed l) (n : Nat) :
    lastOf (-1) (2 * n) l = -1 ∨ ∃ a b : Nat, lastOf (-1) (2 * n) l = a ∧ lastOf (-1) (2 * n + 1) l = b ∧ a ≤ b ∧ b ≤ len := by
  rcases lastOf_cases (2 * n) (-1) l with ⟨h1, h2⟩ | ⟨a, b, p, rfl, h1, h2⟩
  · exact .inl h2
  · right
    obtain ⟨q, hq⟩ := hc a b n p rfl
    have hr := rising.part h
    rw [show a ++ (2 * n, p) :: b = (a ++ [(2 * n, p)]) ++ b by simp, lastOf_append (2 * n + 1)]
    rcases lastOf_cases (2 * n + 1) (lastOf (-1) (2 * n + 1) (a ++ [(2 * n, p)])) b with ⟨k1, k2⟩ | ⟨c, d, u, rfl, k1, k2⟩
    · exact absurd hq (k1 q)
    · have := rising.mem hr.2 (2 * n + 1, u) (by simp)
      exact ⟨p, u, by simpa using h2, k2, this.1, this.2⟩

end Go.Proofs.YtndpjdmfkhjiiaaGreatDoor
