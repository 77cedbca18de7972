/- record: what is known: what it is, what is wrong with it; texts of labels tell them apart. -/
import Derived.Lib.Join
import Derived.Test.YtnlkfehnmijimaaProg
import Derived.Test.YtnlkfehnmijimaaKit
import Derived.Test.YtnlkfehnmijimaaSpec
import Derived.Test.YtnlkfehnmijimaaLSpec
import Derived.Test.YtnlkfehnmijimaaLSpecT
import Derived.Test.YtnlkfehnmijimaaLSpecU
import Derived.Test.YtnlkfehnmijimaaLRow
import Derived.Test.YtnlkfehnmijimaaRcA
import Derived.Test.YtnlkfehnmijimaaRcM
set_option linter.unusedVariables false
set_option linter.unusedSimpArgs false
namespace Go.Proofs.Ytnlkfehnmijimaa.Rc
open Go.RowKit Lb

theorem text_form {a : List Lab} (ha : checkB a = 0) (na : a ≠ []) : (others a = [] ∧ Lb.textB a = escB (valueB a ownN)) ∨
    ∃ x q, x ∈ others a ∧ Lb.textB a = escB (valueB a ownN ++ 123 :: (x.1 ++ [61])) ++ 34 :: q ∧ q ≠ [] ∧ Lb.textB a = escB (valueB a ownN) ++ ([123] ++ (Lib.join (othersB a) [44] ++ [125])) := by
  cases ho : others a with
  | nil =>
    refine .inl ⟨rfl, ?_⟩
    unfold Lb.textB
    rw [if_pos ⟨by unfold othersB; rw [ho]; rfl, na⟩]
  | cons x r =>
    have hx : x ∈ others a := by rw [ho]; simp
    have hn := others_name ha x hx
    have e0 : Lb.textB a = escB (valueB a ownN) ++ ([123] ++ (Lib.join (othersB a) [44] ++ [125])) := by
      unfold Lb.textB
      rw [if_neg (fun h => by have := h.1; unfold othersB at this; rw [ho] at this; simp at this)]
    refine .inr ⟨x, escB x.2 ++ 34 :: (Lib.joinTail [44] (r.map itemB) ++ [125]), by simp, ?_, by simp, e0⟩
    rw [e0]
    have e1 : othersB a = itemB x :: r.map itemB := by unfold othersB; rw [ho]; rfl
    rw [e1, Lib.join_cons, escB_append, escB_cons, escB_append, name_esc hn]
    have h1 : escC 123 = [123] := by decide
    have h2 : escB [61] = [61] := by decide
    rw [h1, h2]
    unfold itemB
    simp
theorem esc_one {u v : List UInt8} (h : escB u = escB v) : u = v := (escB_inj (u := u) (v := v) (x := []) (y := []) (by rw [h])).1
theorem split_last {c : UInt8} {a b x y : List UInt8} (hx : c ∉ x) (hy : c ∉ y) (h : a ++ c :: x = b ++ c :: y) : a = b := by
  have h2 := congrArg List.reverse h
  simp only [List.reverse_append, List.reverse_cons, List.append_assoc, List.cons_append, List.nil_append] at h2
  have := (split_at (c := c) (by simpa using hx) (by simpa using hy) h2).2
  exact List.reverse_inj.1 this
/-- Labels that are right, and some, have a text of their own. -/
theorem text_inj2 {a b : List Lab} (ha : checkB a = 0) (hb : checkB b = 0) (na : a ≠ []) (nb : b ≠ []) (h : Lb.textB a = Lb.textB b) : a = b := by
  rcases text_form ha na with ⟨oa, ta⟩ | ⟨x, q, hx, ta, hq, ja⟩ <;> rcases text_form hb nb with ⟨ob, tb⟩ | ⟨y, r, hy, tb, hr, jb⟩
  · rw [ta, tb] at h
    exact by_parts ha hb (by rw [oa, ob]) (esc_one h)
  · exfalso
    rw [ta, tb] at h
    have h2 : escB (valueB a ownN) ++ 34 :: [] = escB (valueB b ownN ++ 123 :: (y.1 ++ [61])) ++ 34 :: (r ++ [34]) := by rw [h]; simp
    have := (escB_inj h2).2
    simp at this
  · exfalso
    rw [ta, tb] at h
    have h2 : escB (valueB b ownN) ++ 34 :: [] = escB (valueB a ownN ++ 123 :: (x.1 ++ [61])) ++ 34 :: (q ++ [34]) := by rw [← h]; simp
    have := (escB_inj h2).2
    simp at this
  · have hv : valueB a ownN = valueB b ownN := by
      rw [ta, tb] at h
      have h1 := (escB_inj h).1
      have hnx : (123 : UInt8) ∉ x.1 ++ [61] := by
        have := name_not (c := 123) (others_name ha x hx) (by decide) (by decide)
        simp [this]
      have hny : (123 : UInt8) ∉ y.1 ++ [61] := by
        have := name_not (c := 123) (others_name hb y hy) (by decide) (by decide)
        simp [this]
      exact split_last hnx hny h1
    rw [ja, jb, hv] at h
    have h3 := List.append_cancel_left (List.append_cancel_left h)
    have h4 := List.append_cancel_right h3
    exact by_parts ha hb (join_inj (others_name ha) (others_name hb) h4) hv
theorem textAns_inj {a b : List Lab} (ha : checkB a = 0) (hb : checkB b = 0) (na : 0 < a.length) (nb : 0 < b.length) (h : textAns a = textAns b) : a = b := by
  rw [textAns_ok ha, textAns_ok hb] at h
  exact text_inj2 ha hb (List.length_pos_iff.1 na) (List.length_pos_iff.1 nb) h

/-! ### what is known -/
structure Knw where
  refs : List RefL
  lasts : List Int
  has : List Bool
def readsInt (w : World) (B : Nat) (v : Value) (ns : List Int) : Prop := ∃ ao cp, v = .slice ao ns.length cp ∧ ∀ i (h : i < ns.length), ∃ b o, ao = some ⟨b, o, none⟩ ∧ b < B ∧ w.cell? ⟨b, o + i, none⟩ = some (.int .i64 ns[i])
def readsBool (w : World) (B : Nat) (v : Value) (ns : List Bool) : Prop := ∃ ao cp, v = .slice ao ns.length cp ∧ ∀ i (h : i < ns.length), ∃ b o, ao = some ⟨b, o, none⟩ ∧ b < B ∧ w.cell? ⟨b, o + i, none⟩ = some (.bool ns[i])
theorem readsInt.keep {w w' : World} {B : Nat} {v : Value} {ns : List Int} (h : readsInt w B v ns) (g : Below B w w') : readsInt w' B v ns := by
  obtain ⟨ao, cp, hv, h⟩ := h
  refine ⟨ao, cp, hv, fun i hi => ?_⟩
  obtain ⟨b, o, e, hb, c⟩ := h i hi
  exact ⟨b, o, e, hb, (g.cell (p := ⟨b, _, none⟩) hb).trans c⟩
theorem readsInt.more {w : World} {B B' : Nat} {v : Value} {ns : List Int} (h : readsInt w B v ns) (hB : B ≤ B') : readsInt w B' v ns := by
  obtain ⟨ao, cp, hv, h⟩ := h
  exact ⟨ao, cp, hv, fun i hi => by obtain ⟨b, o, e, hb, c⟩ := h i hi; exact ⟨b, o, e, by omega, c⟩⟩
theorem readsBool.keep {w w' : World} {B : Nat} {v : Value} {ns : List Bool} (h : readsBool w B v ns) (g : Below B w w') : readsBool w' B v ns := by
  obtain ⟨ao, cp, hv, h⟩ := h
  refine ⟨ao, cp, hv, fun i hi => ?_⟩
  obtain ⟨b, o, e, hb, c⟩ := h i hi
  exact ⟨b, o, e, hb, (g.cell (p := ⟨b, _, none⟩) hb).trans c⟩
theorem readsBool.more {w : World} {B B' : Nat} {v : Value} {ns : List Bool} (h : readsBool w B v ns) (hB : B ≤ B') : readsBool w B' v ns := by
  obtain ⟨ao, cp, hv, h⟩ := h
  exact ⟨ao, cp, hv, fun i hi => by obtain ⟨b, o, e, hb, c⟩ := h i hi; exact ⟨b, o, e, by omega, c⟩⟩
/-- What is wrong with the i-th one. -/
def oneErr (k : Knw) (i : Nat) : Nat :=
  if refErr (k.refs.getD i (0, [])) ≠ 0 then refErr (k.refs.getD i (0, []))
  else if timeErr (k.lasts.getD i 0) ≠ 0 then 3
  else if k.has.getD i false = false ∧ k.lasts.getD i 0 ≠ 0 then 1
  else if 0 < i ∧ (k.refs.getD i (0, [])).1 ≤ (k.refs.getD (i - 1) (0, [])).1 then 4 else 0
def firstErr (k : Knw) : Nat → Nat
  | 0 => 0
  | n + 1 => if firstErr k n ≠ 0 then firstErr k n else oneErr k n
/-- Have two the same labels? -/
def dupB (l : List RefL) : Bool := !decide ((l.map (·.2)).Nodup)
theorem dupB_false {l : List RefL} : dupB l = false ↔ ∀ i j (hi : i < l.length) (hj : j < l.length), i < j → l[i].2 ≠ l[j].2 := by
  unfold dupB
  rw [Bool.not_eq_false', decide_eq_true_iff]
  unfold List.Nodup
  rw [List.pairwise_map, List.pairwise_iff_getElem]
theorem dupB_true {l : List RefL} {i j : Nat} (hi : i < l.length) (hj : j < l.length) (hij : i < j) (h : l[i].2 = l[j].2) : dupB l = true := by
  cases hd : dupB l with
  | true => rfl
  | false => exact absurd h (dupB_false.1 hd i j hi hj hij)
def knwErr (k : Knw) : Nat :=
  if k.lasts.length ≠ k.refs.length ∨ k.has.length ≠ k.refs.length then 1
  else if 1000 < k.refs.length then 2
  else if firstErr k k.refs.length ≠ 0 then firstErr k k.refs.length
  else if dupB k.refs = true then 6 else 0
theorem firstErr_none {k : Knw} : ∀ {n : Nat}, (∀ i, i < n → oneErr k i = 0) → firstErr k n = 0
  | 0, _ => rfl
  | n + 1, h => by
    rw [firstErr, firstErr_none (n := n) fun i hi => h i (by omega), if_neg (by simp)]
    exact h n (by omega)
theorem firstErr_at {k : Knw} : ∀ {n i : Nat}, i < n → (∀ j, j < i → oneErr k j = 0) → oneErr k i ≠ 0 → firstErr k n = oneErr k i
  | n + 1, i, hi, h, he => by
    rw [firstErr]
    by_cases e : i = n
    · subst e
      rw [firstErr_none h, if_neg (by simp)]
    · have := firstErr_at (n := n) (i := i) (by omega) h he
      rw [this, if_pos he]
theorem oneErr_of {k : Knw} {n : Nat} (h : firstErr k n = 0) : ∀ i, i < n → oneErr k i = 0 := by
  induction n with
  | zero => intro i hi; omega
  | succ n ih =>
    intro i hi
    rw [firstErr] at h
    by_cases h0 : firstErr k n = 0
    · rw [if_neg (by omega)] at h
      by_cases e : i = n
      · subst e; exact h
      · exact ih h0 i (by omega)
    · rw [if_pos h0] at h; exact absurd h h0
theorem oneErr_ref {k : Knw} {i : Nat} (h : oneErr k i = 0) : refErr (k.refs.getD i (0, [])) = 0 := by
  unfold oneErr at h
  by_cases h0 : refErr (k.refs.getD i (0, [])) = 0
  · exact h0
  · rw [if_pos h0] at h; exact h
def okKnw (k : Knw) : Prop := k.refs.length ≤ 9223372036854775807 ∧ k.lasts.length ≤ 9223372036854775807 ∧ k.has.length ≤ 9223372036854775807 ∧ (∀ x ∈ k.refs, okRef x) ∧ ∀ t ∈ k.lasts, -9223372036854775808 ≤ t ∧ t ≤ 9223372036854775807
def readsKnw (w : World) (B : Nat) (vr vl vh : Value) (k : Knw) : Prop := readsRefs w B vr k.refs ∧ readsInt w B vl k.lasts ∧ readsBool w B vh k.has
theorem readsKnw.keep {w w' : World} {B : Nat} {vr vl vh : Value} {k : Knw} (h : readsKnw w B vr vl vh k) (g : Below B w w') : readsKnw w' B vr vl vh k := ⟨h.1.keep g, h.2.1.keep g, h.2.2.keep g⟩
theorem readsKnw.more {w : World} {B B' : Nat} {vr vl vh : Value} {k : Knw} (h : readsKnw w B vr vl vh k) (hB : B ≤ B') : readsKnw w B' vr vl vh k := ⟨h.1.more hB, h.2.1.more hB, h.2.2.more hB⟩
end Go.Proofs.Ytnlkfehnmijimaa.Rc
