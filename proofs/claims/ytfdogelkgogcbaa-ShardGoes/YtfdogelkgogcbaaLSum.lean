/- labels: summed, Sum. -/
import Derived.Test.YtfdogelkgogcbaaProg
import Derived.Test.YtfdogelkgogcbaaKit
import Derived.Test.YtfdogelkgogcbaaLSpec
import Derived.Test.YtfdogelkgogcbaaReg
import Derived.Test.YtfdogelkgogcbaaLRow
import Derived.Test.YtfdogelkgogcbaaLChk
import Derived.Test.YtfdogelkgogcbaaLTwi
import Derived.BigQuiet
set_option linter.unusedVariables false
set_option linter.unusedSimpArgs false
namespace Go.Proofs.Ytfdogelkgogcbaa.Lb
open Go.RowKit
attribute [local go_sem] bs_size bs_toList bs_append bs_get bs_extract

theorem bits_xor_u64_le (a b : Nat) (ha : a < 18446744073709551616) (hb : b < 18446744073709551616) : bits .xor .u64 (a : Int) (b : Int) = ((a ^^^ b : Nat) : Int) := by
  have hx : a ^^^ b < 2 ^ 64 := Nat.xor_lt_two_pow (by omega) (by omega)
  have h1 : (BitVec.ofInt 64 (a : Int)).toNat = a := by
    rw [BitVec.ofInt_natCast, BitVec.toNat_ofNat]; exact Nat.mod_eq_of_lt (by omega)
  have h2 : (BitVec.ofInt 64 (b : Int)).toNat = b := by
    rw [BitVec.ofInt_natCast, BitVec.toNat_ofNat]; exact Nat.mod_eq_of_lt (by omega)
  show IntKind.u64.wrap ((BitVec.ofInt 64 (a : Int) ^^^ BitVec.ofInt 64 (b : Int)).toNat : Int) = _
  rw [BitVec.toNat_xor, h1, h2, IntKind.wrap_u64]
  omega
theorem sumStep_run (h c : Nat) (hh : h < 18446744073709551616) (hc : c < 256) : IntKind.u64.wrap (bits .xor .u64 (h : Int) (c : Int) * 1099511628211) = ((sumStep h c : Nat) : Int) := by
  rw [bits_xor_u64_le h c hh (by omega), IntKind.wrap_u64, sumStep]
  generalize h ^^^ c = x
  omega
def sumTake (h : Nat) (s : List UInt8) (k : Nat) : Nat := (s.take k).foldl (fun h c => sumStep h c.toNat) h
theorem sumTake_zero (h : Nat) (s : List UInt8) : sumTake h s 0 = h := rfl
theorem sumTake_succ (h : Nat) (s : List UInt8) (k : Nat) (hk : k < s.length) : sumTake h s (k + 1) = sumStep (sumTake h s k) s[k].toNat := by
  unfold sumTake
  rw [List.take_succ_eq_append_getElem hk, List.foldl_append, List.foldl_cons, List.foldl_nil]
theorem sumTake_lt {h : Nat} (hh : h < 18446744073709551616) (s : List UInt8) : ∀ k, sumTake h s k < 18446744073709551616
  | 0 => hh
  | k + 1 => by
    by_cases hk : k < s.length
    · rw [sumTake_succ _ _ _ hk]; exact sumStep_lt _ _
    · have : s.take (k + 1) = s.take k := by rw [List.take_of_length_le (by omega), List.take_of_length_le (by omega)]
      unfold sumTake; rw [this]; exact sumTake_lt hh s k
theorem sumTake_all (h : Nat) (s : List UInt8) : sumStep (sumTake h s s.length) 255 = sumTxt h s := by
  unfold sumTake sumTxt; rw [List.take_of_length_le (Nat.le_refl _)]

set_option maxRecDepth 20000 in
set_option maxHeartbeats 1000000 in
theorem summed_any (h : Nat) (s : List UInt8) (w : World) (hh : h < 18446744073709551616) (hs : s.length ≤ 9223372036854775807) :
    Calls Try.prog 41 #[.int .u64 h, .string (bs s)] w fun e w' => e = .returned (.int .u64 (sumTxt h s)) ∧ w' = w := by
  have HH := hide hh
  clear hh
  go_enter Try.func41, Try.ntmps41
  go_wp2
  go_loop [0, 8] (fun x i => ∃ (k H : Nat), k ≤ s.length ∧ i = .int .i64 k ∧ x = .int .u64 H ∧ Hid (H = sumTake h s k)) (fun _ i => s.length - (intOf i).toNat)
  case atStart => exact ⟨0, h, by omega, rfl, rfl, rfl⟩
  case round =>
    obtain ⟨k, H, hk, rfl, rfl, HT⟩ := hrel
    have HB : Hid (H < 18446744073709551616) := by show _ < _; rw [HT.out]; exact sumTake_lt HH.out s k
    by_cases hlt : k < s.length
    · have hc := s[k].toNat_lt
      have hw : IntKind.u64.wrap (s[k].toNat : Int) = (s[k].toNat : Int) := by rw [IntKind.wrap_u64]; omega
      have HR := hide (sumStep_run H s[k].toNat HB.out hc)
      go_wp2
      go_round
      case rel => exact ⟨k + 1, sumStep H s[k].toNat, by omega, by go_num, by rw [HR.out], by show _ = _; rw [sumTake_succ h s k hlt, HT.out]⟩
      case measure => simp [intOf]; omega
    · obtain rfl : k = s.length := by omega
      have HR := hide (sumStep_run H 255 HB.out (by omega))
      go_wp2
      go_ret
      exact ⟨ret_int (by have := HR.out; rw [← sumTake_all, ← HT.out]; exact this), rfl⟩

theorem sumGo_take (h : Nat) (l : List Lab) (k : Nat) (hk : k < l.length) : sumGo h (l.take (k + 1)) = sumTxt (sumTxt (sumGo h (l.take k)) l[k].1) l[k].2 := by
  rw [List.take_succ_eq_append_getElem hk, sumGo_append, sumGo, sumGo]

set_option maxRecDepth 20000 in
set_option maxHeartbeats 400000 in
theorem sum_any (w : World) (v : Value) (ls : List Lab) (hv : readsLabels w w.heap.size v ls) (hlen : ls.length ≤ 9223372036854775807) (hin : lensOk ls) :
    Calls Try.prog 27 #[v] w fun e w' => e = .returned (.tuple #[.int .u64 (sumAns ls : Nat), .int .i64 (checkB ls)]) ∧ Below w.heap.size w w' := by
  obtain ⟨ao, cp, hvv⟩ := readsLabels_len hv
  have HV := hide hv
  have HI := hide hin
  clear hv hin
  subst hvv
  go_enter Try.func27, Try.ntmps27
  go_wp2_with fail
  refine (check_any w _ ls HV.out hlen HI.out).mono ?_
  rintro e w1 ⟨rfl, hb1⟩
  have hs1 := hb1.size
  by_cases h0 : checkB ls = 0
  · have HL : Hid (ls.length ≤ 20 ∧ ∀ x ∈ ls, x.1.length ≤ 40 ∧ x.2.length ≤ 100) := eachErr_names (checkB_zero.1 h0).1
    have H0 := hide h0
    rw [h0]
    clear h0
    obtain ⟨_, _, _, hcells⟩ := id (readsLabels_below HV.out hb1)
    go_wp2
    go_loopw [5, 15] (fun x i wr => ∃ k : Nat, k ≤ ls.length ∧ i = .int .i64 k ∧ x = .int .u64 (sumGo sum0 (ls.take k)) ∧ Below w.heap.size w wr) (fun _ i _ => ls.length - (intOf i).toNat)
    case atStart => exact ⟨0, by omega, rfl, by rw [← sum0_int]; rfl, hb1⟩
    case round =>
      obtain ⟨k, hk, rfl, rfl, hb⟩ := hrel
      have hbs := hb.size
      have HLt := hide (sumGo_lt (h := sum0) sum0_lt (ls.take k))
      have HSucc := fun hk => hide (sumGo_take sum0 ls k hk)
      have HF0 : Hid (k = ls.length → sumGo sum0 (ls.take k) = sumGo sum0 ls) := by rintro rfl; rw [List.take_of_length_le (Nat.le_refl _)]
      generalize sumGo sum0 (ls.take k) = H at HLt HSucc HF0
      by_cases hlt : k < ls.length
      · obtain ⟨_, _, hev, hc0⟩ := id HV.out
        simp at hev
        obtain ⟨rfl, rfl⟩ := hev
        obtain ⟨lb, lo, rfl, hlB, c0, c1⟩ := hc0 k hlt
        have d0 := (hb.cell (p := ⟨lb, lo + k * 2, none⟩) hlB).trans c0
        have d1 := (hb.cell (p := ⟨lb, lo + k * 2 + 1, none⟩) hlB).trans c1
        clear c0 c1 hc0 hcells
        have HSucc := HSucc hlt
        obtain ⟨hl0, hl1⟩ := HL.out.2 _ (List.getElem_mem hlt)
        obtain ⟨x, HX⟩ : ∃ x : Lab, Hid (ls[k] = x) := ⟨_, hide rfl⟩
        rw [HX.out] at d0 d1 hl0 hl1 HSucc
        have hx0 : x.1.length ≤ 9223372036854775807 := by omega
        have hx1 : x.2.length ≤ 9223372036854775807 := by omega
        have HB : Hid (∀ h, h = H ∨ h = sumTxt H x.1 → h < 18446744073709551616) := by
          intro h hh
          rcases hh with rfl | rfl
          · exact HLt.out
          · exact sumTxt_lt _ _
        have HS : Hid (∀ s, s = x.1 ∨ s = x.2 → s.length ≤ 9223372036854775807) := by
          intro s hs
          rcases hs with rfl | rfl
          · exact hx0
          · exact hx1
        go_wp2
        go_quiet ((go_at_call 41; exact Calls.quiet_of_same (summed_any _ _ _ (HB.out _ (by simp)) (HS.out _ (by simp)))))
        go_wp2
        go_roundw
        case rel =>
          refine ⟨k + 1, by omega, by go_num, ?_, ?_⟩
          · rw [HSucc.out]
          · exact (hb.alloc hbs _).trans ⟨rfl, rfl, rfl, Nat.le_refl _, fun _ _ => rfl⟩
        case measure => simp [intOf]; omega
      · have HF := hide (HF0.out (by omega))
        obtain rfl : k = ls.length := by omega
        go_wp2
        go_ret2
        exact ⟨ret2 (vint (by rw [sumAns_ok H0.out, sumB, ← HF.out])) (vint (by rw [H0.out]; rfl)), hb⟩
  · have H0 := hide h0
    have hne : ((checkB ls : Int) != 0) = true := by simpa using h0
    clear h0
    go_wp2
    go_ret2
    exact ⟨ret2 (vint (by rw [sumAns_no H0.out]; rfl)) rfl, hb1⟩

end Go.Proofs.Ytfdogelkgogcbaa.Lb
