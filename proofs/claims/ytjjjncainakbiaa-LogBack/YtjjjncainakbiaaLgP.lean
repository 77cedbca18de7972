/- Logs: what an appended record is; plain mathematics. -/
import Derived.Test.YtjjjncainakbiaaKit
import Derived.Test.YtjjjncainakbiaaLgS
set_option linter.unusedVariables false
set_option linter.unusedSimpArgs false
namespace Go.Proofs.Ytjjjncainakbiaa.Lg

/-- Noughts up to a page's end, where no head fits. -/
def padL (at' : Nat) : List UInt8 := if 128 - at' % 128 < 7 then List.replicate (128 - at' % 128) 0 else []
def le4 (n : Nat) : List UInt8 := [UInt8.ofNat n, UInt8.ofNat (n / 256), UInt8.ofNat (n / 65536), UInt8.ofNat (n / 16777216)]
def headB (k n c : Nat) : List UInt8 := UInt8.ofNat k :: UInt8.ofNat n :: UInt8.ofNat (n / 256) :: le4 c
def partB (k : Nat) (s : List UInt8) : List UInt8 := headB k s.length (ckSum s) ++ s
/-- How many bytes a part may have, behind the noughts. -/
def room (at' : Nat) : Nat := 121 - (at' + (padL at').length) % 128
/-- Parts behind the first one: each in a page of its own. -/
def restB (s : List UInt8) : List UInt8 := if h : s.length ≤ 121 then partB 4 s else partB 3 (s.take 121) ++ restB (s.drop 121)
termination_by s.length
decreasing_by rw [List.length_drop]; omega
def appB (at' : Nat) (s : List UInt8) : List UInt8 := padL at' ++ (if s.length ≤ room at' then partB 1 s else partB 2 (s.take (room at')) ++ restB (s.drop (room at')))
/-- What is still to come. -/
def contB (first : Bool) (at' : Nat) (s : List UInt8) : List UInt8 := if first then appB at' s else restB s

theorem headB_length (k n c : Nat) : (headB k n c).length = 7 := rfl
theorem partB_length (k : Nat) (s : List UInt8) : (partB k s).length = 7 + s.length := by rw [partB, List.length_append, headB_length]
theorem padL_length (at' : Nat) : (padL at').length = if 128 - at' % 128 < 7 then 128 - at' % 128 else 0 := by
  unfold padL
  split <;> simp
theorem pad_le (at' : Nat) : (padL at').length ≤ 6 ∧ (at' + (padL at').length) % 128 ≤ 121 := by
  rw [padL_length]
  split <;> omega
theorem restB_small {s : List UInt8} (h : s.length ≤ 121) : restB s = partB 4 s := by rw [restB, dif_pos h]
theorem restB_big {s : List UInt8} (h : ¬ s.length ≤ 121) : restB s = partB 3 (s.take 121) ++ restB (s.drop 121) := by rw [restB, dif_neg h]
theorem pad_zero {at' : Nat} (h : at' % 128 = 0) : padL at' = [] := by
  unfold padL
  rw [if_neg (by omega)]
theorem room_zero {at' : Nat} (h : at' % 128 = 0) : room at' = 121 := by
  unfold room
  rw [pad_zero h]
  simp [h]
/-- A step of the writer: the noughts, the part, and what comes then. -/
theorem contB_last (first : Bool) (at' : Nat) (s : List UInt8) (hf : first = false → at' % 128 = 0) (h : s.length ≤ room at') : contB first at' s = padL at' ++ partB (if first then 1 else 4) s := by
  cases first with
  | true => simp [contB, appB, h]
  | false =>
    have h0 := hf rfl
    rw [room_zero h0] at h
    simp [contB, restB_small h, pad_zero h0]
theorem contB_more (first : Bool) (at' : Nat) (s : List UInt8) (hf : first = false → at' % 128 = 0) (h : ¬ s.length ≤ room at') : contB first at' s = padL at' ++ partB (if first then 2 else 3) (s.take (room at')) ++ contB false (at' + (padL at').length + 7 + room at') (s.drop (room at')) := by
  cases first with
  | true => simp [contB, appB, h]
  | false =>
    have h0 := hf rfl
    rw [room_zero h0] at h ⊢
    simp [contB, restB_big h, pad_zero h0]
theorem room_le (at' : Nat) : room at' ≤ 121 := by unfold room; omega
theorem room_next (at' : Nat) : (at' + (padL at').length + 7 + room at') % 128 = 0 := by
  have := (pad_le at').2
  unfold room
  omega
theorem room_is (at' : Nat) : room at' = 128 - (at' + (padL at').length) % 128 - 7 := by unfold room; omega
end Go.Proofs.Ytjjjncainakbiaa.Lg
