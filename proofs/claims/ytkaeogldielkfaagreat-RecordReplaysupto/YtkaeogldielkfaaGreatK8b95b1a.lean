/- 2 texts in one. -/
import Derived.WalkKit
import Derived.Lib.Join
import Derived.Test.YtkaeogldielkfaaGreatKa96aaab
set_option linter.unusedVariables false
set_option linter.unusedSimpArgs false
namespace Go.Proofs.YtkaeogldielkfaaGreat.Lb
/-- `__name__`. -/
def ownN : List UInt8 := [95, 95, 110, 97, 109, 101, 95, 95]
def escC (c : UInt8) : List UInt8 := if c.toNat = 92 ∨ c.toNat = 34 then [92, c] else if c.toNat = 10 then [92, 110] else [c]
def escB (s : List UInt8) : List UInt8 := s.flatMap escC
theorem escC_sign {c : UInt8} (h : c.toNat = 92 ∨ c.toNat = 34) : escC c = [92, c] := by unfold escC; rw [if_pos h]
theorem escC_feed {c : UInt8} (h : c.toNat = 10) : escC c = [92, 110] := by unfold escC; rw [if_neg (by omega), if_pos h]
theorem escC_plain {c : UInt8} (h1 : c.toNat ≠ 92) (h2 : c.toNat ≠ 34) (h3 : c.toNat ≠ 10) : escC c = [c] := by unfold escC; rw [if_neg (by omega), if_neg h3]
theorem escC_len (c : UInt8) : 1 ≤ (escC c).length ∧ (escC c).length ≤ 2 := by unfold escC; split; exact ⟨by simp, by simp⟩; split <;> exact ⟨by simp, by simp⟩
theorem escB_nil : escB [] = [] := rfl
theorem escB_cons (c : UInt8) (s : List UInt8) : escB (c :: s) = escC c ++ escB s := rfl
theorem escB_append (a b : List UInt8) : escB (a ++ b) = escB a ++ escB b := List.flatMap_append
theorem escB_le (s : List UInt8) : (escB s).length ≤ 2 * s.length := by
  induction s with
  | nil => simp [escB]
  | cons c s ih => rw [escB_cons, List.length_append, List.length_cons]; have := escC_len c; omega
theorem escB_take (s : List UInt8) (k : Nat) (h : k < s.length) : escB (s.take (k + 1)) = escB (s.take k) ++ escC s[k] := by
  rw [List.take_succ_eq_append_getElem h, escB_append, escB_cons, escB_nil, List.append_nil]
def itemB (x : Lab) : List UInt8 := x.1 ++ ([61, 34] ++ (escB x.2 ++ [34]))
def others (l : List Lab) : List Lab := l.filter fun x => decide (x.1 ≠ ownN)
def othersB (l : List Lab) : List (List UInt8) := (others l).map itemB
def textB (l : List Lab) : List UInt8 :=
  if othersB l = [] ∧ l ≠ [] then escB (valueB l ownN) else escB (valueB l ownN) ++ ([123] ++ (Lib.join (othersB l) [44] ++ [125]))
/-- What Text answers beside the error. -/
def textAns (l : List Lab) : List UInt8 := if checkB l = 0 then textB l else []
theorem textAns_ok {l : List Lab} (h : checkB l = 0) : textAns l = textB l := by unfold textAns; rw [if_pos h]
theorem textAns_no {l : List Lab} (h : checkB l ≠ 0) : textAns l = [] := by unfold textAns; rw [if_neg h]
theorem others_take_own (l : List Lab) (k : Nat) (h : k < l.length) (he : l[k].1 = ownN) : othersB (l.take (k + 1)) = othersB (l.take k) := by
  unfold othersB others
  rw [List.take_succ_eq_append_getElem h, List.filter_append]
  simp [he]
theorem others_take (l : List Lab) (k : Nat) (h : k < l.length) (he : l[k].1 ≠ ownN) : othersB (l.take (k + 1)) = othersB (l.take k) ++ [itemB l[k]] := by
  unfold othersB others
  rw [List.take_succ_eq_append_getElem h, List.filter_append, List.map_append]
  simp [he]
theorem othersB_len (l : List Lab) : (othersB l).length ≤ l.length := by
  unfold othersB others
  rw [List.length_map]
  exact List.length_filter_le _ _
/-- What stands ahead, of the first k labels. -/
def aheadB (l : List Lab) (k : Nat) : List UInt8 := escB (valueB (l.take k) ownN)
theorem aheadB_all (l : List Lab) : aheadB l l.length = escB (valueB l ownN) := by unfold aheadB; rw [List.take_of_length_le (Nat.le_refl _)]
theorem aheadB_own {l : List Lab} (hr : Rise l) {k : Nat} (h : k < l.length) (he : l[k].1 = ownN) : aheadB l (k + 1) = escB l[k].2 := by
  unfold aheadB
  have hf := riseB_far (rise_iff.1 hr)
  have hl : k < (l.take (k + 1)).length := by rw [List.length_take]; omega
  have hg : (l.take (k + 1))[k]'hl = l[k] := List.getElem_take ..
  rw [valueB_at (l := l.take (k + 1)) (k := k) hl (fun j hj hjk => ?_) (by rw [hg]; exact he), hg]
  have hgj : (l.take (k + 1))[j]'hj = l[j]'(by omega) := List.getElem_take ..
  rw [hgj, ← he]
  exact bl_ne (hf j k (by omega) h hjk)
theorem aheadB_other {l : List Lab} {k : Nat} (h : k < l.length) (he : l[k].1 ≠ ownN) : aheadB l (k + 1) = aheadB l k := by
  unfold aheadB
  rw [List.take_succ_eq_append_getElem h]
  congr 1
  unfold valueB
  rw [List.find?_append]
  simp [he]
/-! ### lengths -/
theorem join_len (L : List (List UInt8)) (sep : List UInt8) : (Lib.join L sep).length ≤ Lib.lens L + sep.length * L.length := by
  cases L with
  | nil => simp [Lib.join_nil]
  | cons x r =>
    rw [Lib.join_cons, List.length_append, Lib.joinTail_length]
    have e : Lib.lens (x :: r) = x.length + Lib.lens r := by simp [Lib.lens]
    have e2 : sep.length * (x :: r).length = sep.length * r.length + sep.length := by rw [List.length_cons, Nat.mul_succ]
    omega
theorem lens_le (L : List (List UInt8)) (m : Nat) (h : ∀ s ∈ L, s.length ≤ m) : Lib.lens L ≤ m * L.length := by
  induction L with
  | nil => simp [Lib.lens]
  | cons x r ih =>
    have e : Lib.lens (x :: r) = x.length + Lib.lens r := by simp [Lib.lens]
    have h1 := h x (by simp)
    have h2 := ih fun s hs => h s (by simp [hs])
    rw [e, List.length_cons, Nat.mul_succ]
    omega
theorem itemB_len {x : Lab} (h1 : x.1.length ≤ 40) (h2 : x.2.length ≤ 100) : (itemB x).length ≤ 300 := by
  have := escB_le x.2
  unfold itemB
  simp; omega
theorem othersB_short {l : List Lab} (h : ∀ x ∈ l, x.1.length ≤ 40 ∧ x.2.length ≤ 100) : ∀ s ∈ othersB l, s.length ≤ 300 := by
  intro s hs
  obtain ⟨x, hx, rfl⟩ := List.mem_map.1 hs
  have := h x (List.mem_filter.1 hx).1
  exact itemB_len this.1 this.2
theorem split_at {c : UInt8} : ∀ {a b x y : List UInt8}, c ∉ a → c ∉ b → a ++ c :: x = b ++ c :: y → a = b ∧ x = y
  | [], [], _, _, _, _, h => by simpa using h
  | [], d :: b, _, _, _, hb, h => by
    simp only [List.nil_append, List.cons_append, List.cons.injEq] at h
    exact absurd (by rw [h.1]; simp) hb
  | d :: a, [], _, _, ha, _, h => by
    simp only [List.nil_append, List.cons_append, List.cons.injEq] at h
    exact absurd (by rw [h.1]; simp) ha
  | d :: a, e :: b, x, y, ha, hb, h => by
    simp only [List.cons_append, List.cons.injEq] at h
    obtain ⟨rfl, h⟩ := h
    obtain ⟨h1, h2⟩ := split_at (fun k => ha (List.mem_cons_of_mem _ k)) (fun k => hb (List.mem_cons_of_mem _ k)) h
    exact ⟨by rw [h1], h2⟩
theorem escC_cases (c : UInt8) : (c.toNat = 92 ∨ c.toNat = 34) ∧ escC c = [92, c] ∨ c.toNat = 10 ∧ escC c = [92, 110] ∨ (c.toNat ≠ 92 ∧ c.toNat ≠ 34 ∧ c.toNat ≠ 10) ∧ escC c = [c] := by
  by_cases h : c.toNat = 92 ∨ c.toNat = 34
  · exact .inl ⟨h, escC_sign h⟩
  · by_cases h2 : c.toNat = 10
    · exact .inr (.inl ⟨h2, escC_feed h2⟩)
    · exact .inr (.inr ⟨⟨by omega, by omega, h2⟩, escC_plain (by omega) (by omega) h2⟩)
theorem escC_inj {c d : UInt8} {x y : List UInt8} (h : escC c ++ x = escC d ++ y) : c = d ∧ x = y := by
  rcases escC_cases c with ⟨hc, ec⟩ | ⟨hc, ec⟩ | ⟨hc, ec⟩ <;> rcases escC_cases d with ⟨hd, ed⟩ | ⟨hd, ed⟩ | ⟨hd, ed⟩ <;> rw [ec, ed] at h <;> simp only [List.cons_append, List.nil_append, List.cons.injEq, true_and] at h
  · exact h
  · exact absurd h.1 (by intro e; subst e; revert hc; decide)
  · exact absurd h.1 (by intro e; subst e; revert hd; decide)
  · exact absurd h.1 (by intro e; subst e; revert hd; decide)
  · exact ⟨UInt8.toNat_inj.1 (by omega), h⟩
  · exact absurd h.1 (by intro e; subst e; revert hd; decide)
  · exact absurd h.1 (by intro e; subst e; revert hc; decide)
  · exact absurd h.1 (by intro e; subst e; revert hc; decide)
  · exact h
theorem escC_not {c : UInt8} {x y : List UInt8} (h : 34 :: x = escC c ++ y) : False := by
  rcases escC_cases c with ⟨hc, ec⟩ | ⟨hc, ec⟩ | ⟨hc, ec⟩ <;> rw [ec] at h <;> simp only [List.cons_append, List.nil_append, List.cons.injEq] at h
  · exact absurd h.1 (by decide)
  · exact absurd h.1 (by decide)
  · obtain ⟨e, _⟩ := h; subst e; revert hc; decide
theorem escB_inj : ∀ {u v x y : List UInt8}, escB u ++ 34 :: x = escB v ++ 34 :: y → u = v ∧ x = y
  | [], [], _, _, h => by simpa [escB] using h
  | [], d :: v, x, y, h => by
    rw [escB_nil, List.nil_append, escB_cons, List.append_assoc] at h
    exact (escC_not h).elim
  | c :: u, [], x, y, h => by
    rw [escB_nil, List.nil_append, escB_cons, List.append_assoc] at h
    exact (escC_not h.symm).elim
  | c :: u, d :: v, x, y, h => by
    rw [escB_cons, escB_cons, List.append_assoc, List.append_assoc] at h
    obtain ⟨e, h'⟩ := escC_inj h
    obtain ⟨h1, h2⟩ := escB_inj h'
    exact ⟨by rw [e, h1], h2⟩
theorem name_not {s : List UInt8} {c : UInt8} (h : nameB s = true) (h1 : letB c = false) (h2 : digB c = false) : c ∉ s := by
  intro hc
  obtain ⟨i, hi, rfl⟩ := List.getElem_of_mem hc
  rcases ((nameB_iff s).1 h).2.2.1 i hi with k | k
  · rw [h1] at k; cases k
  · rw [h2] at k; cases k
theorem name_esc {s : List UInt8} (h : nameB s = true) : escB s = s := by
  have hm : ∀ c ∈ s, escC c = [c] := by
    intro c hc
    refine escC_plain ?_ ?_ ?_ <;> intro e
    · exact name_not h (c := c) (by unfold letB; simp; omega) (by unfold digB; simp; omega) hc
    · exact name_not h (c := c) (by unfold letB; simp; omega) (by unfold digB; simp; omega) hc
    · exact name_not h (c := c) (by unfold letB; simp; omega) (by unfold digB; simp; omega) hc
  clear h
  induction s with
  | nil => rfl
  | cons c s ih => rw [escB_cons, hm c (by simp), ih (fun d hd => hm d (by simp [hd]))]; rfl
theorem item_inj {x y : Lab} {S T : List UInt8} (hx : nameB x.1 = true) (hy : nameB y.1 = true) (h : itemB x ++ S = itemB y ++ T) : x = y ∧ S = T := by
  unfold itemB at h
  simp only [List.append_assoc, List.cons_append, List.nil_append] at h
  obtain ⟨h1, h2⟩ := split_at (c := 61) (name_not hx (by decide) (by decide)) (name_not hy (by decide) (by decide)) h
  simp only [List.cons.injEq, true_and] at h2
  obtain ⟨h3, h4⟩ := escB_inj h2
  exact ⟨Prod.ext h1 h3, h4⟩
theorem tail_cons (x : Lab) (r : List Lab) : Lib.joinTail [44] ((x :: r).map itemB) = 44 :: (itemB x ++ Lib.joinTail [44] (r.map itemB)) := by simp [Lib.joinTail]
theorem tail_inj : ∀ {a b : List Lab}, (∀ x ∈ a, nameB x.1 = true) → (∀ x ∈ b, nameB x.1 = true) → Lib.joinTail [44] (a.map itemB) = Lib.joinTail [44] (b.map itemB) → a = b
  | [], [], _, _, _ => rfl
  | [], y :: b, _, _, h => by rw [tail_cons] at h; simp [Lib.joinTail] at h
  | x :: a, [], _, _, h => by rw [tail_cons] at h; simp [Lib.joinTail] at h
  | x :: a, y :: b, ha, hb, h => by
    rw [tail_cons, tail_cons] at h
    simp only [List.cons.injEq, true_and] at h
    obtain ⟨e, h'⟩ := item_inj (ha x (by simp)) (hb y (by simp)) h
    rw [e, tail_inj (fun z hz => ha z (List.mem_cons_of_mem _ hz)) (fun z hz => hb z (List.mem_cons_of_mem _ hz)) h']
theorem item_ne (x : Lab) (s : List UInt8) : itemB x ++ s ≠ [] := by unfold itemB; simp
theorem join_inj {a b : List Lab} (ha : ∀ x ∈ a, nameB x.1 = true) (hb : ∀ x ∈ b, nameB x.1 = true) (h : Lib.join (a.map itemB) [44] = Lib.join (b.map itemB) [44]) : a = b := by
  match a, b with
  | [], [] => rfl
  | [], y :: b => rw [List.map_cons, List.map_nil, Lib.join_nil, Lib.join_cons] at h; exact absurd h.symm (item_ne _ _)
  | x :: a, [] => rw [List.map_cons, List.map_nil, Lib.join_nil, Lib.join_cons] at h; exact absurd h (item_ne _ _)
  | x :: a, y :: b =>
    rw [List.map_cons, List.map_cons, Lib.join_cons, Lib.join_cons] at h
    obtain ⟨e, h'⟩ := item_inj (ha x (by simp)) (hb y (by simp)) h
    rw [e, tail_inj (fun z hz => ha z (List.mem_cons_of_mem _ hz)) (fun z hz => hb z (List.mem_cons_of_mem _ hz)) h']
theorem valueB_in {l : List Lab} {n : List UInt8} (h : valueB l n ≠ []) : (n, valueB l n) ∈ l := by
  unfold valueB at h ⊢
  cases e : l.find? (fun x => decide (x.1 = n)) with
  | none => rw [e] at h; exact absurd rfl h
  | some x =>
    have h1 := List.mem_of_find?_eq_some e
    have h2 := List.find?_some e
    simp at h2
    simp only
    rw [← h2]
    exact h1
theorem by_parts {a b : List Lab} (ha : checkB a = 0) (hb : checkB b = 0) (h1 : others a = others b) (h2 : valueB a ownN = valueB b ownN) : a = b := by
  have one : ∀ {a b : List Lab}, checkB a = 0 → checkB b = 0 → others a = others b → valueB a ownN = valueB b ownN → ∀ y ∈ a, y ∈ b := by
    intro a b ha hb h1 h2 y hy
    obtain ⟨ea, ra⟩ := checkB_zero.1 ha
    by_cases e : y.1 = ownN
    · have hv := valueB_mem (rise_iff.2 ra) hy
      rw [e, h2] at hv
      have hne : y.2 ≠ [] := by
        have := ((eachErr_zero.1 ea).2 y hy).2.1
        intro h; rw [h] at this; simp at this
      have := valueB_in (l := b) (n := ownN) (by rw [hv]; exact hne)
      rw [hv, ← e] at this
      exact this
    · have : y ∈ others a := List.mem_filter.2 ⟨hy, by simpa using e⟩
      rw [h1] at this
      exact (List.mem_filter.1 this).1
  exact rise_ext (rise_iff.2 (checkB_zero.1 ha).2) (rise_iff.2 (checkB_zero.1 hb).2) fun y => ⟨one ha hb h1 h2 y, one hb ha h1.symm h2.symm y⟩
theorem others_name {l : List Lab} (h : checkB l = 0) : ∀ x ∈ others l, nameB x.1 = true := fun x hx => ((eachErr_zero.1 (checkB_zero.1 h).1).2 x (List.mem_filter.1 hx).1).1
end Go.Proofs.YtkaeogldielkfaaGreat.Lb
