/- record: the reader's refs' numbers, times, texts. -/
import Derived.Laws.OwnMore
import Derived.Test.YtnlkfehnmijimaaShelf
import Derived.Test.YtnlkfehnmijimaaProg
import Derived.Test.YtnlkfehnmijimaaKit
import Derived.Test.YtnlkfehnmijimaaSpec
import Derived.Test.YtnlkfehnmijimaaSpec2
import Derived.Test.YtnlkfehnmijimaaReg
import Derived.Test.YtnlkfehnmijimaaRcA
import Derived.Test.YtnlkfehnmijimaaRcN
import Derived.Test.YtnlkfehnmijimaaRcS
import Derived.Test.YtnlkfehnmijimaaRcT
import Derived.BigQuiet
set_option linter.unusedVariables false
set_option linter.unusedSimpArgs false
namespace Go.Proofs.Ytnlkfehnmijimaa.Rc
open Go.RowKit
attribute [local go_sem] bs_size bs_toList bs_append bs_get bs_extract

/-- A ref's number, as an int has it. -/
def numI (n : Nat) : Int := if n < 9223372036854775808 then n else (n : Int) - 18446744073709551616
theorem wrap_numI {n : Nat} (h : n < 18446744073709551616) : IntKind.i64.wrap (n : Int) = numI n := by
  rw [IntKind.wrap_i64]
  unfold numI
  split <;> omega
def mapO {α β : Type} (f : α → β) (o : Option (α × List UInt8)) : Option (β × List UInt8) := o.map fun x => (f x.1, x.2)

set_option maxHeartbeats 1000000 in
theorem refNumber_r (w : World) (b : Nat) (s : List UInt8) (h : InAt w b s) (hs : s.length ≤ 140737488355328) :
    Calls Try.prog 58 #[.pointer (some ⟨b, 0, none⟩)] w (readAs b (fun n : Int => .int .i64 n) (mapO numI (cutN s)) w) := by
  have HN := hide (number_r w b s h hs)
  unfold readAs at HN ⊢
  cases hc : cutN s with
  | none =>
    rw [hc] at HN
    simp only at HN
    clear hc h
    go_enter Try.func58, Try.ntmps58
    go_wp2_with fail
    refine HN.out.mono ?_
    rintro e w1 ⟨hk, E, hE, rfl⟩
    exact ⟨rfl, hk, E, hE, rfl⟩
  | some x =>
    obtain ⟨n, r⟩ := x
    have hlt := (cutN_lt hc).1
    rw [hc] at HN
    simp only [mapO, Option.map_some] at HN ⊢
    have hw := wrap_numI hlt
    clear hc h hlt
    go_enter Try.func58, Try.ntmps58
    go_wp2_with fail
    refine HN.out.mono ?_
    rintro e w1 ⟨hk, rfl, hi⟩
    go_wp2
    go_ret
    exact ⟨hk, rfl, hi⟩

/-- A time's number, turned back. -/
def timeI (n : Nat) : Int := if n % 2 = 1 then -((n / 2 : Nat) : Int) - 1 else ((n / 2 : Nat) : Int)
set_option maxHeartbeats 1000000 in
theorem time_r (w : World) (b : Nat) (s : List UInt8) (h : InAt w b s) (hs : s.length ≤ 140737488355328) :
    Calls Try.prog 61 #[.pointer (some ⟨b, 0, none⟩)] w (readAs b (fun n : Int => .int .i64 n) (mapO timeI (cutN s)) w) := by
  have HN := hide (number_r w b s h hs)
  unfold readAs at HN ⊢
  cases hc : cutN s with
  | none =>
    rw [hc] at HN
    simp only at HN
    clear hc h
    go_enter Try.func61, Try.ntmps61
    go_wp2_with fail
    refine HN.out.mono ?_
    rintro e w1 ⟨hk, E, hE, rfl⟩
    exact ⟨rfl, hk, E, hE, rfl⟩
  | some x =>
    obtain ⟨n, r⟩ := x
    have hlt := (cutN_lt hc).1
    rw [hc] at HN
    simp only [mapO, Option.map_some] at HN ⊢
    have hdiv : Int.tdiv (n : Int) 2 = ((n / 2 : Nat) : Int) := by rw [Int.tdiv_eq_ediv_of_nonneg (by omega)]; omega
    have hmod : Int.tmod (n : Int) 2 = ((n % 2 : Nat) : Int) := by rw [Int.tmod_eq_emod_of_nonneg (by omega)]; omega
    have hw : IntKind.i64.wrap ((n / 2 : Nat) : Int) = ((n / 2 : Nat) : Int) := by rw [IntKind.wrap_i64]; omega
    by_cases ho : n % 2 = 1
    · have ht : timeI n = -((n / 2 : Nat) : Int) - 1 := if_pos ho
      have hob : (((n % 2 : Nat) : Int) == 1) = true := by simp; omega
      have HT := hide ht
      clear hc h ho ht
      go_enter Try.func61, Try.ntmps61
      go_wp2_with fail
      refine HN.out.mono ?_
      rintro e w1 ⟨hk, rfl, hi⟩
      go_wp2
      go_ret
      exact ⟨hk, by rw [HT.out, Int.natCast_ediv]; rfl, hi⟩
    · have ht : timeI n = ((n / 2 : Nat) : Int) := if_neg ho
      have hob : (((n % 2 : Nat) : Int) == 1) = false := by rw [beq_eq_false_iff_ne]; omega
      have HT := hide ht
      clear hc h ho ht
      go_enter Try.func61, Try.ntmps61
      go_wp2_with fail
      refine HN.out.mono ?_
      rintro e w1 ⟨hk, rfl, hi⟩
      go_wp2
      go_ret
      exact ⟨hk, by rw [HT.out, Int.natCast_ediv]; rfl, hi⟩

/-- A text, as it is read. -/
def cutT (s : List UInt8) : Option (List UInt8 × List UInt8) := match cutN s with
  | none => none
  | some x => if x.1 ≤ x.2.length then some (x.2.take x.1, x.2.drop x.1) else none
theorem cutT_lt {s t r : List UInt8} (h : cutT s = some (t, r)) : t.length + r.length < s.length := by
  unfold cutT at h
  cases hc : cutN s with
  | none => rw [hc] at h; cases h
  | some x =>
    obtain ⟨n, q⟩ := x
    rw [hc] at h
    simp only at h
    have := (cutN_lt hc).2
    by_cases hl : n ≤ q.length
    · rw [if_pos hl] at h
      cases h
      rw [List.length_take, List.length_drop]
      omega
    · rw [if_neg hl] at h; cases h
set_option maxHeartbeats 1000000 in
theorem cloneR_any (s : List UInt8) (w : World) (hs : s.length ≤ 140737488355328) : Calls Try.prog 70 #[.string (bs s)] w fun e w' => e = .returned (.string (bs s)) ∧ Grow w w' := by
  have hc := Try.stringslite_Clone (bs s) w (by rw [bs_size]; omega)
  have HC := hide hc
  clear hc
  go_enter Try.func70, Try.ntmps70
  go_wp2_with (go_at_call 76; refine HC.out.mono ?_; rintro e w' ⟨rfl, hb⟩)
  go_ret
  exact ⟨rfl, hb⟩
set_option maxHeartbeats 2000000 in
theorem bytes_r (w : World) (b : Nat) (s : List UInt8) (h : InAt w b s) (hs : s.length ≤ 140737488355328) :
    Calls Try.prog 60 #[.pointer (some ⟨b, 0, none⟩)] w (readAs b (fun t => .string (bs t)) (cutT s) w) := by
  have HN := hide (number_r w b s h hs)
  unfold readAs at HN ⊢
  unfold cutT
  cases hc : cutN s with
  | none =>
    rw [hc] at HN
    simp only at HN
    clear hc h
    go_enter Try.func60, Try.ntmps60
    go_wp2_with fail
    refine HN.out.mono ?_
    rintro e w1 ⟨hk, E, hE, rfl⟩
    exact ⟨rfl, hk, E, hE, rfl⟩
  | some x =>
    obtain ⟨n, q⟩ := x
    obtain ⟨hlt, hql⟩ := cutN_lt hc
    rw [hc] at HN
    simp only at HN ⊢
    have HTK : Hid (∀ W, InAt W b q → Calls Try.prog 43 #[.pointer (some ⟨b, 0, none⟩), .int .u64 n] W (readAs b (fun t => .string (bs t)) (if n ≤ q.length then some (q.take n, q.drop n) else none) W)) := hide fun W hW => take_any W b n q hW (by omega) hlt
    unfold readAs at HTK
    clear hc h
    by_cases hl : n ≤ q.length
    · rw [if_pos hl]
      have HCL := hide fun W => cloneR_any (q.take n) W (by rw [List.length_take]; omega)
      simp only [if_pos hl] at HTK
      clear hl
      go_enter Try.func60, Try.ntmps60
      go_wp2_with fail
      refine HN.out.mono ?_
      rintro e w1 ⟨hk, rfl, hi⟩
      have HT := hide (HTK.out w1 hi)
      have HK := hide hk
      clear hk hi HTK HN
      go_wp2_with fail
      refine HT.out.mono ?_
      rintro e w2 ⟨hk2, rfl, hi2⟩
      have HK2 := hide (HK.out.trans hk2)
      have HI2 := hide hi2
      clear hk2 hi2 HT
      go_wp2_with fail
      refine (HCL.out w2).mono ?_
      rintro e w3 ⟨rfl, hg3⟩
      have HG3 := hide hg3
      clear hg3
      go_wp2
      go_ret
      exact ⟨HK2.out.trans (KI.grow HG3.out), rfl, HI2.out.grow HG3.out⟩
    · rw [if_neg hl]
      simp only [if_neg hl] at HTK
      clear hl
      go_enter Try.func60, Try.ntmps60
      go_wp2_with fail
      refine HN.out.mono ?_
      rintro e w1 ⟨hk, rfl, hi⟩
      have HT := hide (HTK.out w1 hi)
      have HK := hide hk
      clear hk hi HTK HN
      go_wp2_with fail
      refine HT.out.mono ?_
      rintro e w2 ⟨hk2, E, hE, rfl⟩
      exact ⟨rfl, HK.out.trans hk2, E, hE, rfl⟩
end Go.Proofs.Ytnlkfehnmijimaa.Rc
