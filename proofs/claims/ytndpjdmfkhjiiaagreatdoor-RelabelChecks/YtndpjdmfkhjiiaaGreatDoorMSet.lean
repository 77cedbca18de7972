/- Sets of bytes as the program has them: four numbers of 64 bits. -/
import Derived.Test.YtndpjdmfkhjiiaaGreatDoorProg
import Derived.Test.YtndpjdmfkhjiiaaGreatDoorKit
import Derived.Test.YtndpjdmfkhjiiaaGreatDoorMPar
import Derived.Test.YtndpjdmfkhjiiaaGreatDoorReg
import Derived.Laws.BitsAll
import Derived.Laws.ShiftsVar
set_option linter.unusedVariables false
set_option linter.unusedSimpArgs false
namespace Go.Proofs.YtndpjdmfkhjiiaaGreatDoor
open Go.RowKit
attribute [local go_sem] bs_size bs_toList bs_append bs_get bs_extract

/-- One of the four: its bits are the set's. -/
def wordIs (v : Nat) (s : UInt8 → Bool) (i : Nat) : Prop := v < 18446744073709551616 ∧ ∀ j, j < 64 → v.testBit j = s (UInt8.ofNat (64 * i + j))
def wordsIs (v : List Nat) (s : UInt8 → Bool) : Prop := v.length = 4 ∧ ∀ i (h : i < v.length), wordIs v[i] s i
def setV (v : List Nat) : Value := .agg (v.map (fun n : Nat => Value.int .u64 (n : Int))).toArray

theorem words_four {v : List Nat} {s} (h : wordsIs v s) : ∃ a b c d, v = [a, b, c, d] := by
  match v, h.1 with
  | [a, b, c, d], _ => exact ⟨a, b, c, d, rfl⟩

theorem bit_of (v j : Nat) : ((v / 2 ^ j) % 2 == 1) = v.testBit j := by
  rw [Nat.testBit_eq_decide_div_mod_eq]
  rfl

set_option maxRecDepth 20000 in
set_option maxHeartbeats 1000000 in
theorem has_any (v : List Nat) (s : UInt8 → Bool) (c : UInt8) (w : World) (hv : wordsIs v s) : Calls Tryz.prog 101 #[setV v, .int .u8 c.toNat] w fun e w' => e = .returned (.bool (s c)) ∧ Grow w w' := by
  obtain ⟨a, b, x, d, rfl⟩ := words_four hv
  have hc : c.toNat < 256 := c.toNat_lt
  obtain ⟨m, hm⟩ : ∃ m, [a, b, x, d][c.toNat / 64]? = some m := by
    rw [List.getElem?_eq_getElem (by simp; omega)]; exact ⟨_, rfl⟩
  have hw : wordIs m s (c.toNat / 64) := by
    have h := hv.2 (c.toNat / 64) (by simp; omega)
    have e := hm
    rw [List.getElem?_eq_getElem (by simp; omega)] at e
    rw [Option.some.inj e] at h
    exact h
  have hbit := hw.2 (c.toNat % 64) (by omega)
  rw [show 64 * (c.toNat / 64) + c.toNat % 64 = c.toNat from by omega, show UInt8.ofNat c.toNat = c from by simp] at hbit
  have hlt := hw.1
  obtain ⟨q, hq⟩ : ∃ q, c.toNat / 64 = q := ⟨_, rfl⟩
  obtain ⟨r, hr⟩ : ∃ r, c.toNat % 64 = r := ⟨_, rfl⟩
  rw [hq] at hm
  rw [hr] at hbit
  have hq4 : q < 4 := by omega
  have hr6 : r < 64 := by omega
  have e1 : Int.tdiv (c.toNat : Int) 64 = q := by rw [Int.tdiv_eq_ediv_of_nonneg (by omega)]; omega
  have e2 : Int.tmod (c.toNat : Int) 64 = r := by rw [Int.tmod_eq_emod_of_nonneg (by omega)]; omega
  go_enter Tryz.func101, Tryz.ntmps101
  rw [show setV [a, b, x, d] = .agg #[.int .u64 (a : Int), .int .u64 (b : Int), .int .u64 (x : Int), .int .u64 (d : Int)] from rfl]
  have hval : ∀ h, [Value.int .u64 (a : Int), .int .u64 (b : Int), .int .u64 (x : Int), .int .u64 (d : Int)][q]'h = .int .u64 (m : Int) := by
    intro h
    match q, hq4, hm with
    | 0, _, hm => simp at hm; subst hm; rfl
    | 1, _, hm => simp at hm; subst hm; rfl
    | 2, _, hm => simp at hm; subst hm; rfl
    | 3, _, hm => simp at hm; subst hm; rfl
  clear hm hv
  have hand : bits .and .u64 ((m : Int) / 2 ^ r) 1 = (((m / 2 ^ r) % 2 : Nat) : Int) := by
    have h := u64_and_nat (m / 2 ^ r) 1 (Nat.lt_of_le_of_lt (Nat.div_le_self _ _) hlt) (by omega)
    rw [Nat.and_one_is_mod] at h
    simpa using h
  have hfin : ((((m / 2 ^ r) % 2 : Nat) : Int) == 1) = s c := by
    rw [← hbit, ← bit_of]
    rcases Nat.mod_two_eq_zero_or_one (m / 2 ^ r) with h | h <;> rw [h] <;> rfl
  have HF := hide hfin
  have HA := hide hand
  clear hfin hand hbit
  go_wp2
  go_ret
  exact ⟨ret_bool (by rw [HA.out, HF.out]), (Grow.refl _).alloc _⟩

end Go.Proofs.YtndpjdmfkhjiiaaGreatDoor
