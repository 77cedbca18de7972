/- 1 texts in one. -/
import Derived.WalkKit
import Derived.Lib.Join
import Derived.Test.YtndpjdmfkhjiiaaGreatDoorKf4a3d8c
set_option linter.unusedVariables false
set_option linter.unusedSimpArgs false
namespace Go.Proofs.YtndpjdmfkhjiiaaGreatDoor.Lb
def escC (c : UInt8) : List UInt8 := if c.toNat = 92 ∨ c.toNat = 34 then [92, c] else if c.toNat = 10 then [92, 110] else [c]
def escB (s : List UInt8) : List UInt8 := s.flatMap escC
theorem escC_sign {c : UInt8} (h : c.toNat = 92 ∨ c.toNat = 34) : escC c = [92, c] := by unfold escC; rw [if_pos h]
theorem escC_feed {c : UInt8} (h : c.toNat = 10) : escC c = [92, 110] := by unfold escC; rw [if_neg (by omega), if_pos h]
theorem escC_plain {c : UInt8} (h1 : c.toNat ≠ 92) (h2 : c.toNat ≠ 34) (h3 : c.toNat ≠ 10) : escC c = [c] := by unfold escC; rw [if_neg (by omega), if_neg h3]
theorem escC_len (c : UInt8) : 1 ≤ (escC c).length ∧ (escC c).length ≤ 2 := by unfold escC; split; exact ⟨by simp, by simp⟩; split <;> exact ⟨by simp, by simp⟩
theorem escB_nil : escB [] = [] := rfl
theorem escB_cons (c : UInt8) (s : List UInt8) : escB (c :: s) = escC c ++ escB s := rfl
theorem escB_append (a b : List UInt8) : escB (a ++ b) = escB a ++ escB b := List.flatMap_append
theorem escB_le (s : List UInt8) : (escB s).length ≤ 2 * s.length := by
 induction s with
 | nil => simp [escB]
 | cons c s ih => rw [escB_cons, List.length_append, List.length_cons]; have := escC_len c; omega
theorem escB_take (s : List UInt8) (k : Nat) (h : k < s.length) : escB (s.take (k + 1)) = escB (s.take k) ++ escC s[k] := by
 rw [List.take_succ_eq_append_getElem h, escB_append, escB_cons, escB_nil, List.append_nil]
/-! ### lengths -/
theorem join_len (L : List (List UInt8)) (sep : List UInt8) : (Lib.join L sep).length ≤ Lib.lens L + sep.length * L.length := by
 cases L with
 | nil => simp [Lib.join_nil]
 | cons x r =>
  rw [Lib.join_cons, List.length_append, Lib.joinTail_length]
  have e : Lib.lens (x :: r) = x.length + Lib.lens r := by simp [Lib.lens]
  have e2 : sep.length * (x :: r).length = sep.length * r.length + sep.length := by rw [List.length_cons, Nat.mul_succ]
  omega
theorem lens_le (L : List (List UInt8)) (m : Nat) (h : ∀ s ∈ L, s.length ≤ m) : Lib.lens L ≤ m * L.length := by
 induction L with
 | nil => simp [Lib.lens]
 | cons x r ih =>
  have e : Lib.lens (x :: r) = x.length + Lib.lens r := by simp [Lib.lens]
  have h1 := h x (by simp)
  have h2 := ih fun s hs => h s (by simp [hs])
  rw [e, List.length_cons, Nat.mul_succ]
  omega
end Go.Proofs.YtndpjdmfkhjiiaaGreatDoor.Lb
