/- record: the reader's numbers, refs, times, texts. -/
import Derived.Laws.OwnMore
import Derived.Test.YtnlkfehnmijimaaProg
import Derived.Test.YtnlkfehnmijimaaKit
import Derived.Test.YtnlkfehnmijimaaSpec
import Derived.Test.YtnlkfehnmijimaaSpec2
import Derived.Test.YtnlkfehnmijimaaReg
import Derived.Test.YtnlkfehnmijimaaWNum
import Derived.Test.YtnlkfehnmijimaaRcA
import Derived.Test.YtnlkfehnmijimaaRcN
import Derived.Test.YtnlkfehnmijimaaRcS
import Derived.BigQuiet
set_option linter.unusedVariables false
set_option linter.unusedSimpArgs false
namespace Go.Proofs.Ytnlkfehnmijimaa.Rc
open Go.RowKit
attribute [local go_sem] bs_size bs_toList bs_append bs_get bs_extract

/-- A number as Number writes it, and what stands behind it. -/
def cutN (s : List UInt8) : Option (Nat × List UInt8) := if (readNum s).2.2 = 0 ∧ s.take (readNum s).2.1 = numB (readNum s).1 then some ((readNum s).1, s.drop (readNum s).2.1) else none
theorem cutN_lt {s r : List UInt8} {n : Nat} (h : cutN s = some (n, r)) : n < 18446744073709551616 ∧ r.length < s.length := by
  unfold cutN at h
  obtain ⟨h1, h2, h3⟩ := readNum_le s
  by_cases hc : (readNum s).2.2 = 0 ∧ s.take (readNum s).2.1 = numB (readNum s).1
  · rw [if_pos hc] at h
    cases h
    have := h2 hc.1
    exact ⟨h3, by rw [List.length_drop]; omega⟩
  · rw [if_neg hc] at h; cases h

set_option maxRecDepth 20000 in
set_option maxHeartbeats 2000000 in
theorem number_r (w : World) (b : Nat) (s : List UInt8) (h : InAt w b s) (hs : s.length ≤ 140737488355328) :
    Calls Try.prog 57 #[.pointer (some ⟨b, 0, none⟩)] w (readAs b (fun n => .int .u64 (n : Nat)) (cutN s) w) := by
  obtain ⟨O, HO⟩ : ∃ O, Hid (cutN s = O) := ⟨_, hide rfl⟩
  have HO1 : Hid ((if (readNum s).2.2 = 0 ∧ s.take (readNum s).2.1 = numB (readNum s).1 then some ((readNum s).1, s.drop (readNum s).2.1) else none) = O) := HO
  rw [HO.out]
  obtain ⟨hle, hpos, hlt⟩ := readNum_le s
  have HRN := hide (readNumber_any s w (by unfold maxLen; omega))
  obtain ⟨n, size, e, hrd⟩ : ∃ n size e, readNum s = (n, size, e) := ⟨_, _, _, rfl⟩
  rw [hrd] at HO1 HRN hle hpos hlt
  simp only at HO1 HRN hle hpos hlt
  have hc := cell_of_one h
  have hz := free_of_one h
  have H := hide h
  clear HO h hrd hpos
  go_enter Try.func57, Try.ntmps57
  go_wp2_with fail
  refine HRN.out.mono ?_
  rintro e' w1 ⟨rfl, hw1⟩
  subst hw1
  by_cases he : e = 0
  · subst he
    have HT := hide (take_any w1 b size s H.out hs (by omega))
    rw [if_pos hle] at HT
    unfold readAs at HT
    simp only at HT
    have hws : IntKind.u64.wrap (size : Int) = size := by rw [IntKind.wrap_u64]; omega
    go_wp2_with fail
    refine (refuse_any false 0 w1 (by decide)).mono ?_
    rintro e w2 ⟨rfl, hw2⟩
    subst hw2
    rw [if_neg (by simp), outc_ok]
    go_wp2_with fail
    refine HT.out.mono ?_
    rintro e w3 ⟨hk3, rfl, hin3⟩
    have HK3 := hide hk3
    have HI3 := hide hin3
    have HNB := hide (number_any n w3 hlt)
    clear hk3 hin3 HT hc hz
    go_wp2_with fail
    refine HNB.out.mono ?_
    rintro e w4 ⟨rfl, hg4⟩
    have HK4 := hide (HK3.out.trans (KI.grow hg4))
    have HI4 := hide (HI3.out.grow hg4)
    clear hg4 HNB
    by_cases hq : s.take size = numB n
    · have hO : O = some (n, s.drop size) := by rw [← HO1.out, if_pos ⟨trivial, hq⟩]
      have HOE := hide hO
      have hqb : (s.take size == numB n) = true := by rw [hq]; exact beq_self_eq_true _
      have hqc : (s.take size != numB n) = false := by rw [hq]; simp
      clear hq hO
      go_wp2_with fail
      refine (refuse_any false 1 w4 (by decide)).mono ?_
      rintro e w5 ⟨rfl, hw5⟩
      subst hw5
      rw [if_neg (by simp), outc_ok]
      go_wp2
      go_ret
      rw [HOE.out]
      exact ⟨HK4.out, rfl, HI4.out⟩
    · have hO : O = none := by rw [← HO1.out, if_neg (fun h => hq h.2)]
      have HOE := hide hO
      have hqb : (s.take size == numB n) = false := by rw [beq_eq_false_iff_ne]; exact hq
      have hqc : (s.take size != numB n) = true := by rw [bne, hqb]; rfl
      clear hq hO
      go_wp2_with fail
      refine (refuse_any true 1 w4 (by decide)).mono ?_
      rintro e w5 ⟨rfl, hw5⟩
      subst hw5
      rw [if_pos rfl, outc_no (by decide)]
      refine ⟨rfl, ?_⟩
      rw [HOE.out]
      exact ⟨HK4.out, 1, by decide, rfl⟩
  · have hO : O = none := by rw [← HO1.out, if_neg (fun h => he h.1)]
    have HOE := hide hO
    have hne : ((e : Int) != 0) = true := by simp; exact he
    have HE := hide he
    clear he hO
    go_wp2_with fail
    refine (refuse_any true e w1 (fun _ => HE.out)).mono ?_
    rintro e2 w2 ⟨rfl, hw2⟩
    subst hw2
    rw [if_pos rfl, outc_no HE.out]
    refine ⟨rfl, ?_⟩
    rw [HOE.out]
    exact ⟨KI.refl _ _, e, HE.out, rfl⟩
end Go.Proofs.Ytnlkfehnmijimaa.Rc
