/- labels: texts of labels tell them apart. -/
import Derived.Lib.Join
import Derived.Test.YtdlmgkncneifaaaGreatProg
import Derived.Test.YtdlmgkncneifaaaGreatKit
import Derived.Test.YtdlmgkncneifaaaGreatLSpec
import Derived.Test.YtdlmgkncneifaaaGreatLSpecT
import Derived.Test.YtdlmgkncneifaaaGreatLSpecU
import Derived.Test.YtdlmgkncneifaaaGreatLRow
set_option linter.unusedVariables false
set_option linter.unusedSimpArgs false
namespace Go.Proofs.YtdlmgkncneifaaaGreat.Lb
open Go.RowKit

theorem check_small {l : List Lab} (h : checkB l = 0) : l.length ≤ 20 ∧ ∀ y ∈ l, y.1.length ≤ 40 ∧ y.2.length ≤ 100 := eachErr_names (checkB_zero.1 h).1
theorem text_form {a : List Lab} (ha : checkB a = 0) (na : a ≠ []) : (others a = [] ∧ textB a = escB (valueB a ownN)) ∨
    ∃ x q, x ∈ others a ∧ textB a = escB (valueB a ownN ++ 123 :: (x.1 ++ [61])) ++ 34 :: q ∧ q ≠ [] ∧ textB a = escB (valueB a ownN) ++ ([123] ++ (Lib.join (othersB a) [44] ++ [125])) := by
  cases ho : others a with
  | nil =>
    refine .inl ⟨rfl, ?_⟩
    unfold textB
    rw [if_pos ⟨by unfold othersB; rw [ho]; rfl, na⟩]
  | cons x r =>
    have hx : x ∈ others a := by rw [ho]; simp
    have hn := others_name ha x hx
    have e0 : textB a = escB (valueB a ownN) ++ ([123] ++ (Lib.join (othersB a) [44] ++ [125])) := by
      unfold textB
      rw [if_neg (fun h => by have := h.1; unfold othersB at this; rw [ho] at this; simp at this)]
    refine .inr ⟨x, escB x.2 ++ 34 :: (Lib.joinTail [44] (r.map itemB) ++ [125]), by simp, ?_, by simp, e0⟩
    rw [e0]
    have e1 : othersB a = itemB x :: r.map itemB := by unfold othersB; rw [ho]; rfl
    rw [e1, Lib.join_cons, escB_append, escB_cons, escB_append, name_esc hn]
    have h1 : escC 123 = [123] := by decide
    have h2 : escB [61] = [61] := by decide
    rw [h1, h2]
    unfold itemB
    simp
theorem esc_one {u v : List UInt8} (h : escB u = escB v) : u = v := (escB_inj (u := u) (v := v) (x := []) (y := []) (by rw [h])).1
theorem split_last {c : UInt8} {a b x y : List UInt8} (hx : c ∉ x) (hy : c ∉ y) (h : a ++ c :: x = b ++ c :: y) : a = b := by
  have h2 := congrArg List.reverse h
  simp only [List.reverse_append, List.reverse_cons, List.append_assoc, List.cons_append, List.nil_append] at h2
  have := (split_at (c := c) (by simpa using hx) (by simpa using hy) h2).2
  exact List.reverse_inj.1 this
/-- Labels that are right, and some, have a text of their own. -/
theorem text_inj2 {a b : List Lab} (ha : checkB a = 0) (hb : checkB b = 0) (na : a ≠ []) (nb : b ≠ []) (h : textB a = textB b) : a = b := by
  rcases text_form ha na with ⟨oa, ta⟩ | ⟨x, q, hx, ta, hq, ja⟩ <;> rcases text_form hb nb with ⟨ob, tb⟩ | ⟨y, r, hy, tb, hr, jb⟩
  · rw [ta, tb] at h
    exact by_parts ha hb (by rw [oa, ob]) (esc_one h)
  · exfalso
    rw [ta, tb] at h
    have h2 : escB (valueB a ownN) ++ 34 :: [] = escB (valueB b ownN ++ 123 :: (y.1 ++ [61])) ++ 34 :: (r ++ [34]) := by rw [h]; simp
    have := (escB_inj h2).2
    simp at this
  · exfalso
    rw [ta, tb] at h
    have h2 : escB (valueB b ownN) ++ 34 :: [] = escB (valueB a ownN ++ 123 :: (x.1 ++ [61])) ++ 34 :: (q ++ [34]) := by rw [← h]; simp
    have := (escB_inj h2).2
    simp at this
  · have hv : valueB a ownN = valueB b ownN := by
      rw [ta, tb] at h
      have h1 := (escB_inj h).1
      have hnx : (123 : UInt8) ∉ x.1 ++ [61] := by
        have := name_not (c := 123) (others_name ha x hx) (by decide) (by decide)
        simp [this]
      have hny : (123 : UInt8) ∉ y.1 ++ [61] := by
        have := name_not (c := 123) (others_name hb y hy) (by decide) (by decide)
        simp [this]
      exact split_last hnx hny h1
    rw [ja, jb, hv] at h
    have h3 := List.append_cancel_left (List.append_cancel_left h)
    have h4 := List.append_cancel_right h3
    exact by_parts ha hb (join_inj (others_name ha) (others_name hb) h4) hv
theorem textAns_inj {a b : List Lab} (ha : checkB a = 0) (hb : checkB b = 0) (na : 0 < a.length) (nb : 0 < b.length) (h : textAns a = textAns b) : a = b := by
  rw [textAns_ok ha, textAns_ok hb] at h
  exact text_inj2 ha hb (List.length_pos_iff.1 na) (List.length_pos_iff.1 nb) h

theorem text_short {l : List Lab} (h : checkB l = 0) : (textAns l).length ≤ 10000 := by
  obtain ⟨hl, hs⟩ := check_small h
  rw [textAns_ok h]
  have h1 := escB_le (valueB l ownN)
  have h2 := valueB_le (l := l) (n := ownN) (m := 100) fun x hx => (hs x hx).2
  have h3 := join_len (othersB l) [44]
  have h4 := lens_le (othersB l) 300 (othersB_short hs)
  have h5 := othersB_len l
  unfold textB
  split
  · omega
  · simp only [List.length_append, List.length_cons, List.length_nil] at h3 ⊢
    omega

end Go.Proofs.YtdlmgkncneifaaaGreat.Lb
