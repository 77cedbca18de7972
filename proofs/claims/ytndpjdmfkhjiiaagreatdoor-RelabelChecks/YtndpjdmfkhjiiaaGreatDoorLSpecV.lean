/- Who takes a label away, and puts it there again, has the same. Plain mathematics. -/
import Derived.WalkKit
import Derived.Test.YtndpjdmfkhjiiaaGreatDoorLSpec
set_option linter.unusedVariables false
set_option linter.unusedSimpArgs false
namespace Go.Proofs.YtndpjdmfkhjiiaaGreatDoor.Lb

theorem checkB_put {l : List Lab} {n v : List UInt8} (h : checkB l = 0) (hn : nameB n = true) (hv : v.length ≤ 100) (hl : (putB l n v).length ≤ 20) : checkB (putB l n v) = 0 := by
  obtain ⟨he, hr⟩ := checkB_zero.1 h
  refine checkB_zero.2 ⟨eachErr_zero.2 ⟨hl, fun x hx => ?_⟩, rise_iff.1 (putB_rise (rise_iff.2 hr) n v)⟩
  rcases (putB_mem l n v x).1 hx with ⟨hm, _⟩ | ⟨hne, rfl⟩
  · exact (eachErr_zero.1 he).2 x hm
  · refine ⟨hn, ?_, hv⟩
    have : v.length ≠ 0 := fun e => hne (List.eq_nil_of_length_eq_zero e)
    show 1 ≤ v.length
    omega
theorem putB_none (l : List Lab) (n : List UInt8) : putB l n [] = l.filter fun x => decide (x.1 ≠ n) := by
  unfold putB
  rw [show decide (([] : List UInt8) = []) = true from rfl, putGo_true]
theorem put_gone {l : List Lab} {n : List UInt8} (h : checkB l = 0) : (putB l n []).length ≤ 20 := by
  rw [putB_none]
  have h1 := List.length_filter_le (fun x : Lab => decide (x.1 ≠ n)) l
  have h2 := (eachErr_zero.1 (checkB_zero.1 h).1).1
  omega
theorem valueB_mem' {l : List Lab} {n : List UInt8} (h : valueB l n ≠ []) : (n, valueB l n) ∈ l := by
  unfold valueB at h ⊢
  cases e : l.find? (fun x => decide (x.1 = n)) with
  | none => rw [e] at h; exact absurd rfl h
  | some x =>
    have h1 := List.mem_of_find?_eq_some e
    have h2 := List.find?_some e
    simp at h2
    simp only
    rw [← h2]
    exact h1
theorem put_back {l : List Lab} {n : List UInt8} (h : checkB l = 0) : putB (putB l n []) n (valueB l n) = l := by
  obtain ⟨he, hr⟩ := checkB_zero.1 h
  have hr := rise_iff.2 hr
  refine rise_ext (putB_rise (putB_rise hr n []) n _) hr fun y => ?_
  rw [putB_mem, putB_mem]
  constructor
  · rintro (⟨⟨hm, _⟩ | ⟨hne, _⟩, _⟩ | ⟨hne, rfl⟩)
    · exact hm
    · exact absurd rfl hne
    · exact valueB_mem' hne
  · intro hy
    by_cases e : y.1 = n
    · have hv := valueB_mem hr hy
      rw [e] at hv
      have h1 := ((eachErr_zero.1 he).2 y hy).2.1
      refine .inr ⟨?_, by rw [hv, ← e]⟩
      rw [hv]
      intro e2
      rw [e2] at h1
      simp at h1
    · exact .inl ⟨.inl ⟨hy, e⟩, e⟩
theorem value_same {l : List Lab} {n v : List UInt8} (h : checkB l = 0) : valueB (putB l n v) n = v := by
  have hr := putB_rise (rise_iff.2 (checkB_zero.1 h).2) n v
  by_cases hv : v = []
  · subst hv
    refine valueB_not fun x hx => ?_
    rcases (putB_mem l n [] x).1 hx with ⟨_, h2⟩ | ⟨hne, _⟩
    · exact h2
    · exact absurd rfl hne
  · exact valueB_mem hr ((putB_mem l n v (n, v)).2 (.inr ⟨hv, rfl⟩))
theorem value_other {l : List Lab} {n v o : List UInt8} (h : checkB l = 0) (ho : o ≠ n) : valueB (putB l n v) o = valueB l o := by
  have hr0 := rise_iff.2 (checkB_zero.1 h).2
  have hr := putB_rise hr0 n v
  by_cases hm : ∃ x ∈ l, x.1 = o
  · obtain ⟨x, hx, rfl⟩ := hm
    rw [valueB_mem hr0 hx]
    exact valueB_mem hr ((putB_mem l n v x).2 (.inl ⟨hx, ho⟩))
  · have h1 : ∀ x ∈ l, x.1 ≠ o := fun x hx e => hm ⟨x, hx, e⟩
    rw [valueB_not h1]
    refine valueB_not fun x hx => ?_
    rcases (putB_mem l n v x).1 hx with ⟨hxm, _⟩ | ⟨_, rfl⟩
    · exact h1 x hxm
    · exact fun e => ho e.symm
theorem getErr_zero {l : List Lab} {n : List UInt8} : getErr l n = 0 ↔ checkB l = 0 ∧ nameB n = true := by
  unfold getErr
  by_cases h : checkB l = 0
  · rw [if_pos h]
    by_cases h2 : nameB n = true
    · rw [if_pos h2]; simp [h, h2]
    · rw [if_neg h2]; simp [h2]
  · rw [if_neg h]; simp [h]
theorem withErr_zero {l : List Lab} {n v : List UInt8} : withErr l n v = 0 ↔ getErr l n = 0 ∧ v.length ≤ 100 ∧ (putB l n v).length ≤ 20 := by
  unfold withErr
  by_cases h : getErr l n = 0
  · rw [if_pos h]
    by_cases h2 : v.length ≤ 100
    · rw [if_pos h2]
      by_cases h3 : (putB l n v).length ≤ 20
      · rw [if_pos h3]; simp [h, h2, h3]
      · rw [if_neg h3]; simp [h3]
    · rw [if_neg h2]; simp [h2]
  · rw [if_neg h]; simp [h]

/-- Taken away: no error, and what comes is right. -/
theorem back_gone {l : List Lab} {n : List UInt8} (h : getErr l n = 0) : withErr l n [] = 0 ∧ checkB (putB l n []) = 0 := by
  obtain ⟨h1, h2⟩ := getErr_zero.1 h
  exact ⟨withErr_zero.2 ⟨h, by simp, put_gone h1⟩, checkB_put h1 h2 (by simp) (put_gone h1)⟩
theorem back_again {l : List Lab} {n : List UInt8} (h : getErr l n = 0) : withErr (putB l n []) n (valueB l n) = 0 ∧ putB (putB l n []) n (valueB l n) = l := by
  obtain ⟨h1, h2⟩ := getErr_zero.1 h
  have h3 := eachErr_zero.1 (checkB_zero.1 h1).1
  refine ⟨withErr_zero.2 ⟨getErr_zero.2 ⟨(back_gone h).2, h2⟩, valueB_le (fun x hx => (h3.2 x hx).2.2), ?_⟩, put_back h1⟩
  rw [put_back h1]
  exact h3.1
theorem back_put {l : List Lab} {n v : List UInt8} (h : withErr l n v = 0) : checkB l = 0 ∧ checkB (putB l n v) = 0 ∧ getErr (putB l n v) n = 0 ∧ valueB (putB l n v) n = v := by
  obtain ⟨h1, h2, h3⟩ := withErr_zero.1 h
  obtain ⟨h4, h5⟩ := getErr_zero.1 h1
  have h6 := checkB_put h4 h5 h2 h3
  exact ⟨h4, h6, getErr_zero.2 ⟨h6, h5⟩, value_same h4⟩
theorem back_other {l : List Lab} {n v o : List UInt8} (h : withErr l n v = 0) : getErr (putB l n v) o = getErr l o ∧ (o = n ∨ getAns l o = getAns (putB l n v) o) := by
  obtain ⟨h1, h2, _, _⟩ := back_put h
  have e : getErr (putB l n v) o = getErr l o := by unfold getErr; rw [if_pos h1, if_pos h2]
  refine ⟨e, ?_⟩
  by_cases ho : o = n
  · exact .inl ho
  · refine .inr ?_
    unfold getAns
    rw [e]
    split
    · exact (value_other h1 ho).symm
    · rfl

end Go.Proofs.YtndpjdmfkhjiiaaGreatDoor.Lb
