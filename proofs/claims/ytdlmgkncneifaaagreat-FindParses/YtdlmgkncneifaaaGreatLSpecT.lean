/- Texts of labels: what they are; two labels' texts are the same just if they are. Plain mathematics. -/
import Derived.WalkKit
import Derived.Lib.Join
import Derived.Test.YtdlmgkncneifaaaGreatLSpec
set_option linter.unusedVariables false
set_option linter.unusedSimpArgs false
namespace Go.Proofs.YtdlmgkncneifaaaGreat.Lb

/-- `__name__`. -/
def ownN : List UInt8 := [95, 95, 110, 97, 109, 101, 95, 95]
def escC (c : UInt8) : List UInt8 := if c.toNat = 92 ∨ c.toNat = 34 then [92, c] else if c.toNat = 10 then [92, 110] else [c]
def escB (s : List UInt8) : List UInt8 := s.flatMap escC
theorem escC_sign {c : UInt8} (h : c.toNat = 92 ∨ c.toNat = 34) : escC c = [92, c] := by unfold escC; rw [if_pos h]
theorem escC_feed {c : UInt8} (h : c.toNat = 10) : escC c = [92, 110] := by unfold escC; rw [if_neg (by omega), if_pos h]
theorem escC_plain {c : UInt8} (h1 : c.toNat ≠ 92) (h2 : c.toNat ≠ 34) (h3 : c.toNat ≠ 10) : escC c = [c] := by unfold escC; rw [if_neg (by omega), if_neg h3]
theorem escC_len (c : UInt8) : 1 ≤ (escC c).length ∧ (escC c).length ≤ 2 := by unfold escC; split; exact ⟨by simp, by simp⟩; split <;> exact ⟨by simp, by simp⟩
theorem escB_nil : escB [] = [] := rfl
theorem escB_cons (c : UInt8) (s : List UInt8) : escB (c :: s) = escC c ++ escB s := rfl
theorem escB_append (a b : List UInt8) : escB (a ++ b) = escB a ++ escB b := List.flatMap_append
theorem escB_le (s : List UInt8) : (escB s).length ≤ 2 * s.length := by
  induction s with
  | nil => simp [escB]
  | cons c s ih => rw [escB_cons, List.length_append, List.length_cons]; have := escC_len c; omega
theorem escB_take (s : List UInt8) (k : Nat) (h : k < s.length) : escB (s.take (k + 1)) = escB (s.take k) ++ escC s[k] := by
  rw [List.take_succ_eq_append_getElem h, escB_append, escB_cons, escB_nil, List.append_nil]

def itemB (x : Lab) : List UInt8 := x.1 ++ ([61, 34] ++ (escB x.2 ++ [34]))
def others (l : List Lab) : List Lab := l.filter fun x => decide (x.1 ≠ ownN)
def othersB (l : List Lab) : List (List UInt8) := (others l).map itemB
def textB (l : List Lab) : List UInt8 :=
  if othersB l = [] ∧ l ≠ [] then escB (valueB l ownN) else escB (valueB l ownN) ++ ([123] ++ (Lib.join (othersB l) [44] ++ [125]))

/-- What Text answers beside the error. -/
def textAns (l : List Lab) : List UInt8 := if checkB l = 0 then textB l else []
theorem textAns_ok {l : List Lab} (h : checkB l = 0) : textAns l = textB l := by unfold textAns; rw [if_pos h]
theorem textAns_no {l : List Lab} (h : checkB l ≠ 0) : textAns l = [] := by unfold textAns; rw [if_neg h]
theorem others_take_own (l : List Lab) (k : Nat) (h : k < l.length) (he : l[k].1 = ownN) : othersB (l.take (k + 1)) = othersB (l.take k) := by
  unfold othersB others
  rw [List.take_succ_eq_append_getElem h, List.filter_append]
  simp [he]
theorem others_take (l : List Lab) (k : Nat) (h : k < l.length) (he : l[k].1 ≠ ownN) : othersB (l.take (k + 1)) = othersB (l.take k) ++ [itemB l[k]] := by
  unfold othersB others
  rw [List.take_succ_eq_append_getElem h, List.filter_append, List.map_append]
  simp [he]
theorem othersB_len (l : List Lab) : (othersB l).length ≤ l.length := by
  unfold othersB others
  rw [List.length_map]
  exact List.length_filter_le _ _
/-- What stands ahead, of the first k labels. -/
def aheadB (l : List Lab) (k : Nat) : List UInt8 := escB (valueB (l.take k) ownN)
theorem aheadB_zero (l : List Lab) : aheadB l 0 = [] := rfl
theorem aheadB_all (l : List Lab) : aheadB l l.length = escB (valueB l ownN) := by unfold aheadB; rw [List.take_of_length_le (Nat.le_refl _)]
theorem aheadB_own {l : List Lab} (hr : Rise l) {k : Nat} (h : k < l.length) (he : l[k].1 = ownN) : aheadB l (k + 1) = escB l[k].2 := by
  unfold aheadB
  have hf := riseB_far (rise_iff.1 hr)
  have hl : k < (l.take (k + 1)).length := by rw [List.length_take]; omega
  have hg : (l.take (k + 1))[k]'hl = l[k] := List.getElem_take ..
  rw [valueB_at (l := l.take (k + 1)) (k := k) hl (fun j hj hjk => ?_) (by rw [hg]; exact he), hg]
  have hgj : (l.take (k + 1))[j]'hj = l[j]'(by omega) := List.getElem_take ..
  rw [hgj, ← he]
  exact bl_ne (hf j k (by omega) h hjk)
theorem aheadB_other {l : List Lab} {k : Nat} (h : k < l.length) (he : l[k].1 ≠ ownN) : aheadB l (k + 1) = aheadB l k := by
  unfold aheadB
  rw [List.take_succ_eq_append_getElem h]
  congr 1
  unfold valueB
  rw [List.find?_append]
  simp [he]

/-! ### lengths -/
theorem join_len (L : List (List UInt8)) (sep : List UInt8) : (Lib.join L sep).length ≤ Lib.lens L + sep.length * L.length := by
  cases L with
  | nil => simp [Lib.join_nil]
  | cons x r =>
    rw [Lib.join_cons, List.length_append, Lib.joinTail_length]
    have e : Lib.lens (x :: r) = x.length + Lib.lens r := by simp [Lib.lens]
    have e2 : sep.length * (x :: r).length = sep.length * r.length + sep.length := by rw [List.length_cons, Nat.mul_succ]
    omega
theorem lens_le (L : List (List UInt8)) (m : Nat) (h : ∀ s ∈ L, s.length ≤ m) : Lib.lens L ≤ m * L.length := by
  induction L with
  | nil => simp [Lib.lens]
  | cons x r ih =>
    have e : Lib.lens (x :: r) = x.length + Lib.lens r := by simp [Lib.lens]
    have h1 := h x (by simp)
    have h2 := ih fun s hs => h s (by simp [hs])
    rw [e, List.length_cons, Nat.mul_succ]
    omega
theorem itemB_len {x : Lab} (h1 : x.1.length ≤ 40) (h2 : x.2.length ≤ 100) : (itemB x).length ≤ 300 := by
  have := escB_le x.2
  unfold itemB
  simp; omega
theorem othersB_short {l : List Lab} (h : ∀ x ∈ l, x.1.length ≤ 40 ∧ x.2.length ≤ 100) : ∀ s ∈ othersB l, s.length ≤ 300 := by
  intro s hs
  obtain ⟨x, hx, rfl⟩ := List.mem_map.1 hs
  have := h x (List.mem_filter.1 hx).1
  exact itemB_len this.1 this.2

end Go.Proofs.YtdlmgkncneifaaaGreat.Lb
