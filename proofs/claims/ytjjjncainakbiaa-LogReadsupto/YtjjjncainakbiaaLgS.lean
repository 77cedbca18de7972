/- The check of a text, over numbers. -/
import Derived.WalkKit
namespace Go.Proofs.Ytjjjncainakbiaa.Lg

/-- One bit of a check. -/
def ckBit (c : Nat) : Nat := if c % 2 = 1 then (c / 2) ^^^ 2197175160 else c / 2
def ckIt : Nat → Nat → Nat
  | 0, c => c
  | k + 1, c => ckBit (ckIt k c)
def ckByte (c : Nat) (b : UInt8) : Nat := ckIt 8 (c ^^^ b.toNat)
def ckFrom (c : Nat) (l : List UInt8) : Nat := l.foldl ckByte c
def ckSum (l : List UInt8) : Nat := ckFrom 4294967295 l ^^^ 4294967295

theorem xor_lt32 {a b : Nat} (ha : a < 4294967296) (hb : b < 4294967296) : a ^^^ b < 4294967296 := Nat.xor_lt_two_pow (n := 32) ha hb
theorem ckBit_lt {c : Nat} (h : c < 4294967296) : ckBit c < 4294967296 := by
  unfold ckBit
  split
  · exact xor_lt32 (by omega) (by decide)
  · omega
theorem ckIt_lt {c : Nat} (h : c < 4294967296) : ∀ k, ckIt k c < 4294967296
  | 0 => h
  | k + 1 => ckBit_lt (ckIt_lt h k)
theorem ckByte_lt {c : Nat} (h : c < 4294967296) (b : UInt8) : ckByte c b < 4294967296 := ckIt_lt (xor_lt32 h (by have := b.toNat_lt; omega)) 8
theorem ckFrom_lt : ∀ (l : List UInt8) {c : Nat}, c < 4294967296 → ckFrom c l < 4294967296
  | [], _, h => h
  | b :: l, _, h => ckFrom_lt l (ckByte_lt h b)
theorem ckSum_lt (l : List UInt8) : ckSum l < 4294967296 := xor_lt32 (ckFrom_lt l (by decide)) (by decide)
theorem ckFrom_snoc (c : Nat) (l : List UInt8) (b : UInt8) : ckFrom c (l ++ [b]) = ckByte (ckFrom c l) b := by simp [ckFrom]
theorem ckFrom_take (c : Nat) (l : List UInt8) (k : Nat) (h : k < l.length) : ckFrom c (l.take (k + 1)) = ckByte (ckFrom c (l.take k)) l[k] := by
  rw [List.take_succ_eq_append_getElem h, ckFrom_snoc]
/-- The lowest eight bits turned by a byte, as the document's own package does it. -/
theorem xor_low (c : Nat) (b : Nat) (hb : b < 256) : c / 256 * 256 + ((c % 256) ^^^ b) = c ^^^ b := by
  have h1 : c = c / 256 * 256 + c % 256 := by omega
  have h2 : (c % 256) ^^^ b < 256 := Nat.xor_lt_two_pow (n := 8) (by omega) hb
  apply Nat.eq_of_testBit_eq
  intro i
  have e : c / 256 * 256 + ((c % 256) ^^^ b) = 2 ^ 8 * (c / 256) + ((c % 256) ^^^ b) := by omega
  rw [e, Nat.testBit_two_pow_mul_add _ h2, Nat.testBit_xor, Nat.testBit_xor]
  have hc : c % 256 = c % 2 ^ 8 := rfl
  by_cases hi : i < 8
  · rw [if_pos hi, hc, Nat.testBit_mod_two_pow]
    simp [hi]
  · rw [if_neg hi]
    have hb2 : b.testBit i = false := Nat.testBit_lt_two_pow (Nat.lt_of_lt_of_le hb (by rw [show 256 = 2 ^ 8 from rfl]; exact Nat.pow_le_pow_right (by decide) (by omega)))
    have h3 : c / 256 = c >>> 8 := by rw [Nat.shiftRight_eq_div_pow]
    rw [hb2, h3, Nat.testBit_shiftRight]
    simp
    congr 1
    omega
/-- Exclusive or by halves. -/
theorem xor_half (a b : Nat) : a ^^^ b = 2 * ((a / 2) ^^^ (b / 2)) + (if a % 2 = b % 2 then 0 else 1) := by
  have h1 : (a ^^^ b) / 2 = (a / 2) ^^^ (b / 2) := Nat.xor_div_two
  have h2 : (a ^^^ b) % 2 = (a % 2) ^^^ (b % 2) := Nat.xor_mod_two_pow (n := 1)
  have key : a ^^^ b = 2 * ((a ^^^ b) / 2) + (a ^^^ b) % 2 := by omega
  have ha : a % 2 = 0 ∨ a % 2 = 1 := by omega
  have hb : b % 2 = 0 ∨ b % 2 = 1 := by omega
  have e : (a % 2) ^^^ (b % 2) = if a % 2 = b % 2 then 0 else 1 := by
    rcases ha with ha | ha <;> rcases hb with hb | hb <;> rw [ha, hb] <;> rfl
  rw [← e, ← h2, ← h1]
  exact key
end Go.Proofs.Ytjjjncainakbiaa.Lg
