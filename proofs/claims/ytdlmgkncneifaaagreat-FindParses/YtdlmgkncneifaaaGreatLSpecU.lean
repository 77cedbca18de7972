/- Two labels' texts are the same just if they are. Plain mathematics. -/
import Derived.WalkKit
import Derived.Lib.Join
import Derived.Test.YtdlmgkncneifaaaGreatLSpec
import Derived.Test.YtdlmgkncneifaaaGreatLSpecT
set_option linter.unusedVariables false
set_option linter.unusedSimpArgs false
namespace Go.Proofs.YtdlmgkncneifaaaGreat.Lb

theorem split_at {c : UInt8} : ∀ {a b x y : List UInt8}, c ∉ a → c ∉ b → a ++ c :: x = b ++ c :: y → a = b ∧ x = y
  | [], [], _, _, _, _, h => by simpa using h
  | [], d :: b, _, _, _, hb, h => by
    simp only [List.nil_append, List.cons_append, List.cons.injEq] at h
    exact absurd (by rw [h.1]; simp) hb
  | d :: a, [], _, _, ha, _, h => by
    simp only [List.nil_append, List.cons_append, List.cons.injEq] at h
    exact absurd (by rw [h.1]; simp) ha
  | d :: a, e :: b, x, y, ha, hb, h => by
    simp only [List.cons_append, List.cons.injEq] at h
    obtain ⟨rfl, h⟩ := h
    obtain ⟨h1, h2⟩ := split_at (fun k => ha (List.mem_cons_of_mem _ k)) (fun k => hb (List.mem_cons_of_mem _ k)) h
    exact ⟨by rw [h1], h2⟩

theorem escC_cases (c : UInt8) : (c.toNat = 92 ∨ c.toNat = 34) ∧ escC c = [92, c] ∨ c.toNat = 10 ∧ escC c = [92, 110] ∨ (c.toNat ≠ 92 ∧ c.toNat ≠ 34 ∧ c.toNat ≠ 10) ∧ escC c = [c] := by
  by_cases h : c.toNat = 92 ∨ c.toNat = 34
  · exact .inl ⟨h, escC_sign h⟩
  · by_cases h2 : c.toNat = 10
    · exact .inr (.inl ⟨h2, escC_feed h2⟩)
    · exact .inr (.inr ⟨⟨by omega, by omega, h2⟩, escC_plain (by omega) (by omega) h2⟩)

theorem escC_inj {c d : UInt8} {x y : List UInt8} (h : escC c ++ x = escC d ++ y) : c = d ∧ x = y := by
  rcases escC_cases c with ⟨hc, ec⟩ | ⟨hc, ec⟩ | ⟨hc, ec⟩ <;> rcases escC_cases d with ⟨hd, ed⟩ | ⟨hd, ed⟩ | ⟨hd, ed⟩ <;> rw [ec, ed] at h <;> simp only [List.cons_append, List.nil_append, List.cons.injEq, true_and] at h
  · exact h
  · exact absurd h.1 (by intro e; subst e; revert hc; decide)
  · exact absurd h.1 (by intro e; subst e; revert hd; decide)
  · exact absurd h.1 (by intro e; subst e; revert hd; decide)
  · exact ⟨UInt8.toNat_inj.1 (by omega), h⟩
  · exact absurd h.1 (by intro e; subst e; revert hd; decide)
  · exact absurd h.1 (by intro e; subst e; revert hc; decide)
  · exact absurd h.1 (by intro e; subst e; revert hc; decide)
  · exact h
theorem escC_not {c : UInt8} {x y : List UInt8} (h : 34 :: x = escC c ++ y) : False := by
  rcases escC_cases c with ⟨hc, ec⟩ | ⟨hc, ec⟩ | ⟨hc, ec⟩ <;> rw [ec] at h <;> simp only [List.cons_append, List.nil_append, List.cons.injEq] at h
  · exact absurd h.1 (by decide)
  · exact absurd h.1 (by decide)
  · obtain ⟨e, _⟩ := h; subst e; revert hc; decide
theorem escB_inj : ∀ {u v x y : List UInt8}, escB u ++ 34 :: x = escB v ++ 34 :: y → u = v ∧ x = y
  | [], [], _, _, h => by simpa [escB] using h
  | [], d :: v, x, y, h => by
    rw [escB_nil, List.nil_append, escB_cons, List.append_assoc] at h
    exact (escC_not h).elim
  | c :: u, [], x, y, h => by
    rw [escB_nil, List.nil_append, escB_cons, List.append_assoc] at h
    exact (escC_not h.symm).elim
  | c :: u, d :: v, x, y, h => by
    rw [escB_cons, escB_cons, List.append_assoc, List.append_assoc] at h
    obtain ⟨e, h'⟩ := escC_inj h
    obtain ⟨h1, h2⟩ := escB_inj h'
    exact ⟨by rw [e, h1], h2⟩

theorem name_not {s : List UInt8} {c : UInt8} (h : nameB s = true) (h1 : letB c = false) (h2 : digB c = false) : c ∉ s := by
  intro hc
  obtain ⟨i, hi, rfl⟩ := List.getElem_of_mem hc
  rcases ((nameB_iff s).1 h).2.2.1 i hi with k | k
  · rw [h1] at k; cases k
  · rw [h2] at k; cases k
theorem name_esc {s : List UInt8} (h : nameB s = true) : escB s = s := by
  have hm : ∀ c ∈ s, escC c = [c] := by
    intro c hc
    refine escC_plain ?_ ?_ ?_ <;> intro e
    · exact name_not h (c := c) (by unfold letB; simp; omega) (by unfold digB; simp; omega) hc
    · exact name_not h (c := c) (by unfold letB; simp; omega) (by unfold digB; simp; omega) hc
    · exact name_not h (c := c) (by unfold letB; simp; omega) (by unfold digB; simp; omega) hc
  clear h
  induction s with
  | nil => rfl
  | cons c s ih => rw [escB_cons, hm c (by simp), ih (fun d hd => hm d (by simp [hd]))]; rfl

theorem item_inj {x y : Lab} {S T : List UInt8} (hx : nameB x.1 = true) (hy : nameB y.1 = true) (h : itemB x ++ S = itemB y ++ T) : x = y ∧ S = T := by
  unfold itemB at h
  simp only [List.append_assoc, List.cons_append, List.nil_append] at h
  obtain ⟨h1, h2⟩ := split_at (c := 61) (name_not hx (by decide) (by decide)) (name_not hy (by decide) (by decide)) h
  simp only [List.cons.injEq, true_and] at h2
  obtain ⟨h3, h4⟩ := escB_inj h2
  exact ⟨Prod.ext h1 h3, h4⟩

theorem tail_cons (x : Lab) (r : List Lab) : Lib.joinTail [44] ((x :: r).map itemB) = 44 :: (itemB x ++ Lib.joinTail [44] (r.map itemB)) := by simp [Lib.joinTail]
theorem tail_inj : ∀ {a b : List Lab}, (∀ x ∈ a, nameB x.1 = true) → (∀ x ∈ b, nameB x.1 = true) → Lib.joinTail [44] (a.map itemB) = Lib.joinTail [44] (b.map itemB) → a = b
  | [], [], _, _, _ => rfl
  | [], y :: b, _, _, h => by rw [tail_cons] at h; simp [Lib.joinTail] at h
  | x :: a, [], _, _, h => by rw [tail_cons] at h; simp [Lib.joinTail] at h
  | x :: a, y :: b, ha, hb, h => by
    rw [tail_cons, tail_cons] at h
    simp only [List.cons.injEq, true_and] at h
    obtain ⟨e, h'⟩ := item_inj (ha x (by simp)) (hb y (by simp)) h
    rw [e, tail_inj (fun z hz => ha z (List.mem_cons_of_mem _ hz)) (fun z hz => hb z (List.mem_cons_of_mem _ hz)) h']
theorem item_ne (x : Lab) (s : List UInt8) : itemB x ++ s ≠ [] := by unfold itemB; simp
theorem join_inj {a b : List Lab} (ha : ∀ x ∈ a, nameB x.1 = true) (hb : ∀ x ∈ b, nameB x.1 = true) (h : Lib.join (a.map itemB) [44] = Lib.join (b.map itemB) [44]) : a = b := by
  match a, b with
  | [], [] => rfl
  | [], y :: b => rw [List.map_cons, List.map_nil, Lib.join_nil, Lib.join_cons] at h; exact absurd h.symm (item_ne _ _)
  | x :: a, [] => rw [List.map_cons, List.map_nil, Lib.join_nil, Lib.join_cons] at h; exact absurd h (item_ne _ _)
  | x :: a, y :: b =>
    rw [List.map_cons, List.map_cons, Lib.join_cons, Lib.join_cons] at h
    obtain ⟨e, h'⟩ := item_inj (ha x (by simp)) (hb y (by simp)) h
    rw [e, tail_inj (fun z hz => ha z (List.mem_cons_of_mem _ hz)) (fun z hz => hb z (List.mem_cons_of_mem _ hz)) h']

theorem valueB_in {l : List Lab} {n : List UInt8} (h : valueB l n ≠ []) : (n, valueB l n) ∈ l := by
  unfold valueB at h ⊢
  cases e : l.find? (fun x => decide (x.1 = n)) with
  | none => rw [e] at h; exact absurd rfl h
  | some x =>
    have h1 := List.mem_of_find?_eq_some e
    have h2 := List.find?_some e
    simp at h2
    simp only
    rw [← h2]
    exact h1
theorem by_parts {a b : List Lab} (ha : checkB a = 0) (hb : checkB b = 0) (h1 : others a = others b) (h2 : valueB a ownN = valueB b ownN) : a = b := by
  have one : ∀ {a b : List Lab}, checkB a = 0 → checkB b = 0 → others a = others b → valueB a ownN = valueB b ownN → ∀ y ∈ a, y ∈ b := by
    intro a b ha hb h1 h2 y hy
    obtain ⟨ea, ra⟩ := checkB_zero.1 ha
    by_cases e : y.1 = ownN
    · have hv := valueB_mem (rise_iff.2 ra) hy
      rw [e, h2] at hv
      have hne : y.2 ≠ [] := by
        have := ((eachErr_zero.1 ea).2 y hy).2.1
        intro h; rw [h] at this; simp at this
      have := valueB_in (l := b) (n := ownN) (by rw [hv]; exact hne)
      rw [hv, ← e] at this
      exact this
    · have : y ∈ others a := List.mem_filter.2 ⟨hy, by simpa using e⟩
      rw [h1] at this
      exact (List.mem_filter.1 this).1
  exact rise_ext (rise_iff.2 (checkB_zero.1 ha).2) (rise_iff.2 (checkB_zero.1 hb).2) fun y => ⟨one ha hb h1 h2 y, one hb ha h1.symm h2.symm y⟩

/-- A name without signs, or none. -/
def plainB (l : List Lab) : Bool := decide (valueB l ownN = []) || nameB (valueB l ownN)
theorem plain_esc {l : List Lab} (h : plainB l = true) : escB (valueB l ownN) = valueB l ownN ∧ (123 : UInt8) ∉ valueB l ownN := by
  simp only [plainB, Bool.or_eq_true, decide_eq_true_eq] at h
  rcases h with h | h
  · rw [h]; exact ⟨rfl, by simp⟩
  · exact ⟨name_esc h, name_not h (by decide) (by decide)⟩
theorem others_name {l : List Lab} (h : checkB l = 0) : ∀ x ∈ others l, nameB x.1 = true := fun x hx => ((eachErr_zero.1 (checkB_zero.1 h).1).2 x (List.mem_filter.1 hx).1).1

theorem text_inj {a b : List Lab} (ha : checkB a = 0) (hb : checkB b = 0) (pa : plainB a = true) (pb : plainB b = true) (h : textB a = textB b) : a = b := by
  obtain ⟨ea, na⟩ := plain_esc pa
  obtain ⟨eb, nb⟩ := plain_esc pb
  unfold textB at h
  rw [ea, eb] at h
  have hmap : ∀ {l : List Lab}, othersB l = [] → others l = [] := fun h => by unfold othersB at h; simpa using h
  by_cases ca : othersB a = [] ∧ a ≠ [] <;> by_cases cb : othersB b = [] ∧ b ≠ []
  · rw [if_pos ca, if_pos cb] at h
    exact by_parts ha hb (by rw [hmap ca.1, hmap cb.1]) h
  · rw [if_pos ca, if_neg cb] at h
    exact absurd (by rw [h]; simp) na
  · rw [if_neg ca, if_pos cb] at h
    exact absurd (by rw [← h]; simp) nb
  · rw [if_neg ca, if_neg cb] at h
    simp only [List.cons_append, List.nil_append] at h
    obtain ⟨h1, h2⟩ := split_at na nb h
    exact by_parts ha hb (join_inj (others_name ha) (others_name hb) (List.append_cancel_right h2)) h1

end Go.Proofs.YtdlmgkncneifaaaGreat.Lb
