/- The document's sums by four digits: mathematics. -/
import Derived.WalkKit
import Derived.Test.YtbnoplgfkfcadaaLSpec
set_option linter.unusedVariables false
set_option linter.unusedSimpArgs false
namespace Go.Proofs.Ytbnoplgfkfcadaa.Lb

theorem xor_step (x y : Nat) : x ^^^ y = 2 * ((x / 2) ^^^ (y / 2)) + (if x % 2 = y % 2 then 0 else 1) := by
  have h1 : (x ^^^ y) / 2 = x / 2 ^^^ y / 2 := Nat.xor_div_two
  have h2 : (x ^^^ y) % 2 = (x % 2 + y % 2) % 2 := by
    have := Nat.xor_mod_two_pow (a := x) (b := y) (n := 1)
    simp only [Nat.reducePow] at this
    rw [this]
    rcases Nat.mod_two_eq_zero_or_one x with h | h <;> rcases Nat.mod_two_eq_zero_or_one y with k | k <;> rw [h, k] <;> decide
  rw [← h1]
  split <;> omega

/-- The digit i to the base of 65536. -/
def gd (h i : Nat) : Nat := h / 65536 ^ i % 65536
theorem gd_lt (h i : Nat) : gd h i < 65536 := Nat.mod_lt _ (by decide)
def sd (g i : Nat) : Nat := if i = 2 then gd g 0 % 256 * 256 else if i = 3 then gd g 0 / 256 + gd g 1 % 256 * 256 else 0
theorem sd_lt (g i : Nat) : sd g i < 65536 := by
  have h0 := gd_lt g 0
  have h1 := gd_lt g 1
  unfold sd
  split
  · omega
  · split <;> omega
def car (g : Nat) : Nat → Nat
  | 0 => 0
  | k + 1 => (car g k + (gd g k * 435 + sd g k)) / 65536
def res (g k : Nat) : Nat := (car g k + (gd g k * 435 + sd g k)) % 65536
theorem car_le (g : Nat) : ∀ k, car g k ≤ 500
  | 0 => by simp [car]
  | k + 1 => by
    have h1 := car_le g k
    have h2 := gd_lt g k
    have h3 := sd_lt g k
    rw [car]; omega
theorem gd_parts (g : Nat) (hg : g < 18446744073709551616) : g = gd g 0 + 65536 * gd g 1 + 4294967296 * gd g 2 + 281474976710656 * gd g 3 := by
  simp only [gd, Nat.reducePow]
  omega
theorem gd_of (a b c d : Nat) (ha : a < 65536) (hb : b < 65536) (hc : c < 65536) (hd : d < 65536) (n : Nat) (hn : n = a + 65536 * b + 4294967296 * c + 281474976710656 * d) : gd n 0 = a ∧ gd n 1 = b ∧ gd n 2 = c ∧ gd n 3 = d := by
  simp only [gd, Nat.reducePow]
  subst hn
  refine ⟨?_, ?_, ?_, ?_⟩ <;> omega
theorem res_lt (g k : Nat) : res g k < 65536 := Nat.mod_lt _ (by decide)
theorem times_digits (g0 g1 g2 g3 q1 q2 q3 q4 r0 r1 r2 r3 : Nat) (h0 : r0 + 65536 * q1 = g0 * 435) (h1 : r1 + 65536 * q2 = q1 + g1 * 435) (h2 : r2 + 65536 * q3 = q2 + (g2 * 435 + g0 % 256 * 256))
    (h3 : r3 + 65536 * q4 = q3 + (g3 * 435 + (g0 / 256 + g1 % 256 * 256))) (k0 : r0 < 65536) (k1 : r1 < 65536) (k2 : r2 < 65536) (k3 : r3 < 65536) :
    (g0 + 65536 * g1 + 4294967296 * g2 + 281474976710656 * g3) * 1099511628211 % 18446744073709551616 = r0 + 65536 * r1 + 4294967296 * r2 + 281474976710656 * r3 := by
  have e : (g0 + 65536 * g1 + 4294967296 * g2 + 281474976710656 * g3) * 1099511628211 = (r0 + 65536 * r1 + 4294967296 * r2 + 281474976710656 * r3) + 18446744073709551616 * (q4 + g1 / 256 + 256 * 65536 * 0 + g2 * 256 + g3 * 16777216) := by omega
  rw [e]; omega
theorem times_res (g : Nat) (hg : g < 18446744073709551616) (j : Nat) (hj : j < 4) : res g j = gd (g * 1099511628211 % 18446744073709551616) j := by
  have hp := gd_parts g hg
  have ht := times_digits (gd g 0) (gd g 1) (gd g 2) (gd g 3) (car g 1) (car g 2) (car g 3) (car g 4) (res g 0) (res g 1) (res g 2) (res g 3)
    (by simp only [res, car, sd]; simp; omega) (by simp only [res, car, sd]; simp; omega) (by simp only [res, car, sd]; simp; omega) (by simp only [res, car, sd]; simp; omega) (res_lt _ _) (res_lt _ _) (res_lt _ _) (res_lt _ _)
  rw [← hp] at ht
  have hd := gd_of _ _ _ _ (res_lt g 0) (res_lt g 1) (res_lt g 2) (res_lt g 3) _ ht
  match j, hj with
  | 0, _ => exact hd.1.symm
  | 1, _ => exact hd.2.1.symm
  | 2, _ => exact hd.2.2.1.symm
  | 3, _ => exact hd.2.2.2.symm

/-- A byte turned into the lowest digit. -/
theorem xor_low (h c : Nat) (hc : c < 256) : gd (h ^^^ c) 0 = gd h 0 / 256 * 256 + (gd h 0 % 256 ^^^ c) ∧ gd (h ^^^ c) 1 = gd h 1 ∧ gd (h ^^^ c) 2 = gd h 2 ∧ gd (h ^^^ c) 3 = gd h 3 := by
  have e1 : (h ^^^ c) / 256 = h / 256 := by
    have := Nat.xor_div_two_pow (a := h) (b := c) (n := 8)
    simp only [Nat.reducePow] at this
    rw [this, show c / 256 = 0 by omega, Nat.xor_zero]
  have e2 : (h ^^^ c) % 256 = (h % 256) ^^^ c := by
    have := Nat.xor_mod_two_pow (a := h) (b := c) (n := 8)
    simp only [Nat.reducePow] at this
    rw [this, Nat.mod_eq_of_lt hc]
  have e3 : gd h 0 % 256 = h % 256 := by simp only [gd, Nat.reducePow]; omega
  rw [e3, ← e2]
  simp only [gd, Nat.reducePow]
  refine ⟨?_, ?_, ?_, ?_⟩ <;> omega

end Go.Proofs.Ytbnoplgfkfcadaa.Lb
