/- logOf and choose of the statements on logs. -/
import Derived.Test.YtjjjncainakbiaaProg
import Derived.Test.YtjjjncainakbiaaKit
import Derived.Test.YtjjjncainakbiaaLgP
import Derived.Test.YtjjjncainakbiaaLgG
import Derived.Test.YtjjjncainakbiaaLgO
import Derived.Test.YtjjjncainakbiaaLgX
import Derived.Test.YtjjjncainakbiaaLgY
import Derived.BigQuiet
set_option linter.unusedVariables false
set_option linter.unusedSimpArgs false
namespace Go.Proofs.Ytjjjncainakbiaa.Lg
open Go.RowKit
attribute [local go_sem] bs_size bs_toList bs_append bs_get bs_extract

/-- Records appended one by one; none: there are too many. -/
def logFold : List UInt8 → List (List UInt8) → Option (List UInt8)
  | z, [] => some z
  | z, x :: l => if (appendR z x).2 = 0 then logFold (appendR z x).1 l else none
theorem appendR_ok {z x : List UInt8} (h : (appendR z x).2 = 0) : (appendR z x).1 = z ++ appB z.length x ∧ (z ++ appB z.length x).length ≤ 1000000 := by
  unfold appendR at h ⊢
  split at h
  · cases h
  · split at h
    · cases h
    · rename_i h1 h2
      rw [if_neg h1, if_neg h2]
      exact ⟨rfl, by rw [List.length_append]; omega⟩
theorem appendR_no {z x : List UInt8} (h : ¬ (appendR z x).2 = 0) : appendR z x = ([], 2) := by
  unfold appendR at h ⊢
  split at h
  · rename_i h1; rw [if_pos h1]
  · split at h
    · rename_i h1 h2; rw [if_neg h1, if_pos h2]
    · exact absurd rfl h
theorem logFold_some : ∀ {l : List (List UInt8)} {z t : List UInt8}, logFold z l = some t → t = logK z l ∧ (z.length ≤ 1000000 → t.length ≤ 1000000)
  | [], z, t, h => by cases h; exact ⟨rfl, fun h => h⟩
  | x :: l, z, t, h => by
    unfold logFold at h
    split at h
    · rename_i h0
      obtain ⟨h1, h2⟩ := appendR_ok h0
      rw [h1] at h
      have := logFold_some h
      exact ⟨this.1, fun _ => this.2 h2⟩
    · cases h
theorem logFold_take : ∀ {l : List (List UInt8)} {z t : List UInt8} (k : Nat), logFold z l = some t → logFold z (l.take k) = some (logK z (l.take k))
  | l, z, t, 0, h => by simp [logFold, logK]
  | [], z, t, k + 1, h => by simp [logFold, logK]
  | x :: l, z, t, k + 1, h => by
    unfold logFold at h
    split at h
    · rename_i h0
      obtain ⟨h1, h2⟩ := appendR_ok h0
      rw [h1] at h
      have := logFold_take k h
      simp only [List.take_succ_cons, logFold, h0, if_true, h1, this, logK]
    · cases h

def logOfA (l : List (List UInt8)) : Value := match logFold [] l with
  | some t => .tuple #[.string (bs t), .bool true]
  | none => .tuple #[.string { data := #[] }, .bool false]

set_option maxRecDepth 20000 in
set_option maxHeartbeats 1000000 in
theorem logOf_any (w : World) (v : Value) (l : List (List UInt8)) (hv : readsStrs w w.heap.size v l) (hl : l.length ≤ 30) (hls : ∀ x ∈ l, x.length ≤ 9223372036854775807) :
    Calls Try.prog 17 #[v] w fun e w' => e = .returned (logOfA l) ∧ Below w.heap.size w w' := by
  obtain ⟨ao, cp, rfl, hc⟩ := hv
  have HC := hide hc
  have HLS := hide hls
  clear hc hls
  go_enter Try.func17, Try.ntmps17
  go_wp2
  go_loopw [4, 5] (fun x i wr => ∃ (z : List UInt8) (k : Nat), k ≤ l.length ∧ i = .int .i64 k ∧ x = .string (bs z) ∧ z.length ≤ 1000000 ∧ Hid (logFold [] l = logFold z (l.drop k)) ∧ Hid (Below w.heap.size w wr)) (fun _ i _ => l.length - (intOf i).toNat)
  case atStart => exact ⟨[], 0, by omega, rfl, rfl, by simp, hide rfl, hide (Below.refl _ _)⟩
  case round =>
    obtain ⟨z, k, hk, rfl, rfl, hz, HF, HB⟩ := hrel
    rename World => wr
    by_cases hlt : k < l.length
    · obtain ⟨p, po, rfl, hp, hcp⟩ := HC.out k hlt
      have dcp : wr.cell? ⟨p, po + k, none⟩ = some (.string (bs l[k])) := by
        rw [cell_keepL (HB.out.block p hp)]; exact hcp
      have hxl := HLS.out l[k] (List.getElem_mem hlt)
      have HF2 : Hid (logFold [] l = if (appendR z l[k]).2 = 0 then logFold (appendR z l[k]).1 (l.drop (k + 1)) else none) := hide (by
        rw [HF.out, List.drop_eq_getElem_cons hlt]; rfl)
      clear hcp
      generalize l[k] = x at dcp hxl HF2
      have d1 : decide ((k : Int) < (l.length : Int)) = true := by rw [decide_eq_true_iff]; omega
      have d2 : decide ((k : Int) < 30) = true := by rw [decide_eq_true_iff]; omega
      have hlti : (k : Int) < (l.length : Int) := by omega
      go_wp2_with fail
      refine (logAppend_any z x wr (by omega) hxl).mono ?_
      rintro e w2 ⟨rfl, hb2⟩
      have HB2 : Hid (Below w.heap.size w w2) := hide (HB.out.trans (hb2.mono HB.out.size))
      clear hb2 dcp
      by_cases h0 : (appendR z x).2 = 0
      · obtain ⟨h1, h2⟩ := appendR_ok h0
        rw [h0, h1]
        have HF3 : Hid (logFold [] l = logFold (z ++ appB z.length x) (l.drop (k + 1))) := hide (by rw [HF2.out, if_pos h0, h1])
        clear h0 h1
        go_wp2_with fail
        go_roundw
        case rel => exact ⟨z ++ appB z.length x, k + 1, by omega, by go_num, rfl, h2, HF3, HB2⟩
        case measure => simp [intOf]; omega
      · have h1 := appendR_no h0
        have HF3 : Hid (logFold [] l = none) := hide (by rw [HF2.out, if_neg h0])
        rw [h1]
        clear h0 h1
        go_wp2_with fail
        go_ret2
        exact ⟨by unfold logOfA; rw [HF3.out]; rfl, HB2.out⟩
    · have hkl : k = l.length := by omega
      have HF3 : Hid (logFold [] l = some z) := hide (by rw [HF.out, hkl, List.drop_length]; rfl)
      have d1 : decide ((k : Int) < (l.length : Int)) = false := by rw [decide_eq_false_iff_not]; omega
      clear hkl
      go_wp2_with fail
      go_ret2
      exact ⟨by unfold logOfA; rw [HF3.out]; rfl, HB.out⟩

/-- A number chosen below another one. -/
def chooseN (c : Int) (n : Nat) : Nat := ((if c < 0 then -(c + 1) else c).toNat) % n
theorem choose_any (c : Int) (n : Nat) (w : World) (hn : 0 < n) (hn2 : n ≤ 9223372036854775807) (h1 : -9223372036854775808 ≤ c) (h2 : c ≤ 9223372036854775807) :
    Calls Try.prog 18 #[.int .i64 c, .int .i64 n] w fun e w' => e = .returned (.int .i64 (chooseN c n)) ∧ w' = w := by
  by_cases hc : c < 0
  · obtain ⟨m, hm⟩ : ∃ m : Nat, -(c + 1) = m := Int.eq_ofNat_of_zero_le (by omega)
    have HQ : Hid ((chooseN c n : Int) = (m : Int) % n) := hide (by unfold chooseN; rw [if_pos hc, hm]; simp)
    have hne : ((n : Int) == 0) = false := by rw [beq_eq_false_iff_ne]; omega
    go_enter Try.func18, Try.ntmps18
    go_wp2
    go_ret
    exact ⟨ret_int HQ.out.symm, rfl⟩
  · obtain ⟨m, rfl⟩ : ∃ m : Nat, c = m := Int.eq_ofNat_of_zero_le (by omega)
    have HQ : Hid ((chooseN (m : Int) n : Int) = (m : Int) % n) := hide (by unfold chooseN; rw [if_neg hc]; simp)
    have hne : ((n : Int) == 0) = false := by rw [beq_eq_false_iff_ne]; omega
    go_enter Try.func18, Try.ntmps18
    go_wp2
    go_ret
    exact ⟨ret_int HQ.out.symm, rfl⟩

end Go.Proofs.Ytjjjncainakbiaa.Lg
