/- record: the reader's words, points. -/
import Derived.Laws.OwnMore
import Derived.Test.YtnlkfehnmijimaaProg
import Derived.Test.YtnlkfehnmijimaaKit
import Derived.Test.YtnlkfehnmijimaaSpec
import Derived.Test.YtnlkfehnmijimaaReg
import Derived.Test.YtnlkfehnmijimaaRcA
import Derived.Test.YtnlkfehnmijimaaRcE
import Derived.Test.YtnlkfehnmijimaaRcM
import Derived.Test.YtnlkfehnmijimaaRcN
import Derived.Test.YtnlkfehnmijimaaRcS
import Derived.Test.YtnlkfehnmijimaaRcT
import Derived.Test.YtnlkfehnmijimaaRcU
import Derived.BigQuiet
set_option linter.unusedVariables false
set_option linter.unusedSimpArgs false
namespace Go.Proofs.Ytnlkfehnmijimaa.Rc
open Go.RowKit
attribute [local go_sem] bs_size bs_toList bs_append bs_get bs_extract

/-- A word of its bytes, the lowest first. -/
def wordI : List UInt8 → Nat
  | [] => 0
  | c :: l => c.toNat + 256 * wordI l
theorem wordI_lt : ∀ l : List UInt8, wordI l < 256 ^ l.length
  | [] => by simp [wordI]
  | c :: l => by
    have ih := wordI_lt l
    have hc : c.toNat < 256 := c.toNat_lt
    rw [wordI, List.length_cons, Nat.pow_succ]
    omega
theorem wordI_snoc : ∀ (l : List UInt8) (c : UInt8), wordI (l ++ [c]) = wordI l + c.toNat * 256 ^ l.length
  | [], c => by simp [wordI]
  | x :: l, c => by
    rw [List.cons_append, wordI, wordI, wordI_snoc l c, List.length_cons, Nat.pow_succ, Nat.mul_add, ← Nat.mul_assoc c.toNat, Nat.mul_comm 256 (c.toNat * 256 ^ l.length)]
    omega
theorem bits_or_u64 (a b : Nat) (ha : a < 18446744073709551616) (hb : b < 18446744073709551616) : bits .or .u64 (a : Int) (b : Int) = ((a ||| b : Nat) : Int) := by
  have hx : a ||| b < 2 ^ 64 := Nat.or_lt_two_pow (by omega) (by omega)
  have h1 : (BitVec.ofInt 64 (a : Int)).toNat = a := by
    rw [BitVec.ofInt_natCast, BitVec.toNat_ofNat]; exact Nat.mod_eq_of_lt (by omega)
  have h2 : (BitVec.ofInt 64 (b : Int)).toNat = b := by
    rw [BitVec.ofInt_natCast, BitVec.toNat_ofNat]; exact Nat.mod_eq_of_lt (by omega)
  show IntKind.u64.wrap ((BitVec.ofInt 64 (a : Int) ||| BitVec.ofInt 64 (b : Int)).toNat : Int) = _
  rw [BitVec.toNat_or, h1, h2, IntKind.wrap_u64]
  omega
theorem or_step {a c j : Nat} (ha : a < 256 ^ j) (hc : c < 256) (hj : j < 8) : bits .or .u64 (a : Int) (IntKind.u64.wrap (IntKind.u64.wrap (c : Int) * 2 ^ (8 * j))) = ((a + c * 256 ^ j : Nat) : Int) := by
  have e2 : (256 : Nat) ^ j = 2 ^ (8 * j) := by rw [Nat.pow_mul]
  have e3 : (2 : Int) ^ (8 * j) = ((2 ^ (8 * j) : Nat) : Int) := by simp
  have hp : c * 2 ^ (8 * j) < 18446744073709551616 := by
    have h1 : c * 2 ^ (8 * j) < 256 * 2 ^ (8 * j) := Nat.mul_lt_mul_of_pos_right hc (Nat.pos_of_ne_zero (by simp))
    have h2 : 256 * 2 ^ (8 * j) = 2 ^ (8 * (j + 1)) := by rw [show 8 * (j + 1) = 8 * j + 8 by omega, Nat.pow_add]; omega
    have h3 : 2 ^ (8 * (j + 1)) ≤ 2 ^ 64 := Nat.pow_le_pow_right (by decide) (by omega)
    omega
  have ha2 : a < 18446744073709551616 := by
    have h3 : 2 ^ (8 * j) ≤ 2 ^ 64 := Nat.pow_le_pow_right (by decide) (by omega)
    omega
  have w1 : IntKind.u64.wrap (c : Int) = c := by rw [IntKind.wrap_u64]; omega
  have w2 : IntKind.u64.wrap ((c * 2 ^ (8 * j) : Nat) : Int) = ((c * 2 ^ (8 * j) : Nat) : Int) := by rw [IntKind.wrap_u64]; omega
  rw [w1, e3, ← Int.natCast_mul, w2, bits_or_u64 a _ ha2 hp, e2]
  rw [e2] at ha
  have h := Nat.two_pow_add_eq_or_of_lt ha c
  rw [Nat.or_comm, Nat.mul_comm c, ← h, Nat.add_comm]
def cut8 (s : List UInt8) : Option (Nat × List UInt8) := if 8 ≤ s.length then some (wordI (s.take 8), s.drop 8) else none

set_option maxRecDepth 20000 in
set_option maxHeartbeats 4000000 in
theorem eight_r (w : World) (b : Nat) (s : List UInt8) (h : InAt w b s) (hs : s.length ≤ 140737488355328) :
    Calls Try.prog 62 #[.pointer (some ⟨b, 0, none⟩)] w (readAs b (fun n => .int .u64 (n : Nat)) (cut8 s) w) := by
  have HT := hide (take_any w b 8 s h hs (by omega))
  unfold readAs at HT ⊢
  unfold cut8
  by_cases hl : 8 ≤ s.length
  · rw [if_pos hl] at HT ⊢
    simp only at HT ⊢
    obtain ⟨t, ht⟩ : ∃ t, s.take 8 = t := ⟨_, rfl⟩
    have htl : t.length = 8 := by rw [← ht, List.length_take]; omega
    rw [ht] at HT ⊢
    clear h ht hl
    go_enter Try.func62, Try.ntmps62
    go_wp2_with fail
    refine HT.out.mono ?_
    rintro e w1 ⟨hk, rfl, hi⟩
    have HK := hide hk
    have HI := hide hi
    clear hk hi HT
    go_wp2
    go_loopw [4, 8] (fun nv jv wr => ∃ j : Nat, j ≤ 8 ∧ jv = .int .i64 j ∧ nv = .int .u64 (wordI (t.take j) : Nat) ∧ wr = w1) (fun _ jv _ => 8 - (intOf jv).toNat)
    case atStart => exact ⟨0, by omega, rfl, rfl, rfl⟩
    case round =>
      obtain ⟨j, hj, rfl, rfl, rfl⟩ := hrel
      by_cases hlt : j < 8
      · have hlti : (j : Int) < 8 := by omega
        have hjt : j < t.length := by omega
        have htk : t.take (j + 1) = t.take j ++ [t[j]] := List.take_succ_eq_append_getElem hjt
        have hws := wordI_snoc (t.take j) t[j]
        rw [← htk, show (t.take j).length = j by rw [List.length_take]; omega] at hws
        have HWS := hide hws
        obtain ⟨c, HC⟩ : ∃ c, Hid (t[j] = c) := ⟨_, hide rfl⟩
        have hjl : (j : Int) < (t.length : Int) := by omega
        have hwl := wordI_lt (t.take j)
        rw [show (t.take j).length = j by rw [List.length_take]; omega] at hwl
        have hor := or_step hwl (t[j]).toNat_lt hlt
        have HOR := hide hor
        clear hws htk hor hwl
        go_wp2
        go_roundw
        case rel => exact ⟨j + 1, by omega, by go_num, by rw [HOR.out, HWS.out], trivial⟩
        case measure => simp [intOf]; omega
      · obtain rfl : j = 8 := by omega
        rw [List.take_of_length_le (by omega)]
        go_wp2
        go_ret
        exact ⟨HK.out, rfl, HI.out⟩
  · rw [if_neg hl] at HT ⊢
    simp only at HT
    clear h hl
    go_enter Try.func62, Try.ntmps62
    go_wp2_with fail
    refine HT.out.mono ?_
    rintro e w1 ⟨hk, E, hE, rfl⟩
    exact ⟨rfl, hk, E, hE, rfl⟩
end Go.Proofs.Ytnlkfehnmijimaa.Rc
