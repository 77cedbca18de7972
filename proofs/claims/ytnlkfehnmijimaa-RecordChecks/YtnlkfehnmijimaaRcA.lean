/- record: what gives up is caught; the small checks. -/
import Derived.Test.YtnlkfehnmijimaaProg
import Derived.Test.YtnlkfehnmijimaaKit
import Derived.Test.YtnlkfehnmijimaaSpec
import Derived.Test.YtnlkfehnmijimaaReg
set_option linter.unusedVariables false
set_option linter.unusedSimpArgs false
namespace Go.Proofs.Ytnlkfehnmijimaa.Rc
open Go.RowKit
attribute [local go_sem] bs_size bs_toList bs_append bs_get bs_extract

/-- A panic with one of the program's errors. -/
abbrev gaveUp (e : Int) : Ending := .panicked [{ v := .iface 26 (.int .i64 e), recovered := false }]
/-- What a check comes to: it comes back, or gives up with an error. -/
def outc (E : Nat) : Ending := if E = 0 then .returned (.tuple #[]) else gaveUp E
theorem outc_ok : outc 0 = .returned (.tuple #[]) := rfl
theorem outc_no {E : Nat} (h : E ≠ 0) : outc E = gaveUp E := if_neg h

theorem assert_yes (v : Value) (w : World) : (Instr.typeAssert (.iface 26 v) 20 26 true).run Try.prog w = .ok (.tuple #[v, .bool true]) w := by kernel_rfl

set_option maxRecDepth 20000 in
set_option maxHeartbeats 1000000 in
theorem catch_panicking (p : Addr) (x err : Int) (older : List PanicEntry) (w : World) (hc : w.cell? p = some (.int .i64 x)) (hz : w.frozen? p = false) :
    CallsD Try.prog 34 #[.pointer (some p)] (.panicking ({ v := .iface 26 (.int .i64 err), recovered := false } :: older)) w fun e u' w' =>
      e = .returned (.tuple #[]) ∧ u' = .panicking ({ v := .iface 26 (.int .i64 err), recovered := true } :: older) ∧ w' = w.setCell p (.int .i64 err) := by
  refine callsD_of_wpS Try.func34 rfl fun c₀ cs hu => ?_
  simp only [Try.ntmps34, List.size_toArray, List.length_cons, List.length_nil, Nat.reduceAdd, Nat.reduceSub, Array.replicate_succ,
     Array.replicate_zero, List.push_toArray, List.append_toArray, List.nil_append, List.cons_append]
  apply wpS_seq
  apply wpS_region
  simp [wpOpsS, go_sem, recoverD, hu, Exit.thenS]
  apply wpS_seq
  apply wpS_region
  simp [wpOpsS, go_sem, Exit.thenS]
  refine wpS_cond (t := true) (by simp [Act.eval, Array.replicate]) ?_
  simp only [if_true]
  refine wpS_of_wp ?_
  have has := assert_yes
  have hnot : ∀ (x : Bool) (w : World), (Op.unary .not (.bool x)).run Try.prog w = .ok (.bool (!x)) w := fun _ _ => rfl
  go_wp2
  cases c₀
  simp_all [bodyPostS, results, Try.results34]

set_option maxRecDepth 20000 in
set_option maxHeartbeats 1000000 in
theorem catch_idle (p : Addr) (w : World) :
    CallsD Try.prog 34 #[.pointer (some p)] .returning w fun e u' w' => e = .returned (.tuple #[]) ∧ u' = .returning ∧ w' = w := by
  refine callsD_of_wpS Try.func34 rfl fun c₀ cs hu => ?_
  simp only [Try.ntmps34, List.size_toArray, List.length_cons, List.length_nil, Nat.reduceAdd, Nat.reduceSub, Array.replicate_succ,
     Array.replicate_zero, List.push_toArray, List.append_toArray, List.nil_append, List.cons_append]
  apply wpS_seq
  apply wpS_region
  simp [wpOpsS, go_sem, recoverD, hu, Exit.thenS]
  apply wpS_seq
  apply wpS_region
  simp [wpOpsS, go_sem, Exit.thenS]
  refine wpS_cond (t := false) (by simp [Act.eval, Array.replicate]) ?_
  simp only [Bool.false_eq_true, if_false]
  refine wpS_of_wp (wp_skip ?_)
  cases c₀
  simp_all [bodyPostS, results, Try.results34]

/-- What work came to: it came back, or gave up with an error. -/
def worked (R : Nat → World → Prop) (e : Ending) (w' : World) : Prop := ∃ E, e = outc E ∧ R E w'

set_option maxRecDepth 20000 in
set_option maxHeartbeats 1000000 in
/-- 'attempt': the error with which work gave up, in a world that is work's but for attempt's own variable. -/
theorem attempt_any (w : World) (g : Nat) (cap : Array Value) (R : Nat → World → Prop)
    (hcf : ∀ (args : Array Value) (w : World), (callFunc g args).run Try.prog w = .ok (.enter g args) w)
    (hwork : Calls Try.prog g cap (w.alloc (.cells #[.int .i64 0] 26)) (worked fun E w' => R E w' ∧ w'.heap[w.heap.size]? = some (.cells #[.int .i64 0] 26 (0, 0)))) :
    Calls Try.prog 17 #[.func (.func g) #[] cap] w fun e w' => ∃ (E : Nat) (w1 : World), e = .returned (.int .i64 E) ∧ R E w1 ∧ w' = w1.setCell ⟨w.heap.size, 0, none⟩ (.int .i64 E) := by
  have HF := hide hwork
  clear hwork
  have hmf : ∀ (fn : Fn) (first cap : Array Value) (w : World), (Instr.makeFunc fn first cap).run Try.prog w = .ok (.func fn first cap) w := fun _ _ _ _ => rfl
  go_enter_defers Try.func17, Try.ntmps17
  go_wp2_with fail
  refine HF.out.mono ?_
  clear HF hcf
  rintro e w1 ⟨E, rfl, hR, hh⟩
  have hc := cell_of_one hh
  have hz := free_of_one hh
  by_cases hE : E = 0
  · subst hE
    rw [outc_ok]
    go_wp2
    refine leaves_cons (f := 34) (args := #[.pointer (some ⟨w.heap.size, 0, none⟩)]) (by simp) (by simp [go_sem]) ?_
    refine (catch_idle ⟨w.heap.size, 0, none⟩ _).mono ?_
    rintro e u' w'' ⟨rfl, rfl, rfl⟩
    have hc2 := cell_of_one (one_setCell (u := .int .i64 0) hh)
    simp [Leaves, settle, results, Try.results17, go_sem, hc2]
    exact ⟨0, rfl, w1, hR, rfl⟩
  · rw [outc_no hE]
    refine leaves_cons (f := 34) (args := #[.pointer (some ⟨w.heap.size, 0, none⟩)]) (by simp) (by simp [go_sem]) ?_
    refine (catch_panicking ⟨w.heap.size, 0, none⟩ 0 E [] w1 hc hz).mono ?_
    rintro e u' w'' ⟨rfl, rfl, rfl⟩
    have hc2 := cell_of_one (one_setCell (u := .int .i64 E) hh)
    simp [Leaves, settle, results, Try.results17, go_sem, hc2]
    exact ⟨E, rfl, w1, hR, rfl⟩

theorem refuse_any (b : Bool) (x : Nat) (w : World) (hx : b = true → x ≠ 0) :
    Calls Try.prog 35 #[.bool b, .int .i64 x] w fun e w' => e = outc (if b = true then x else 0) ∧ w' = w := by
  cases b with
  | false =>
    rw [if_neg (by simp), outc_ok]
    go_enter Try.func35, Try.ntmps35
    go_wp2
    go_end0
    exact ⟨rfl, rfl⟩
  | true =>
    rw [if_pos rfl, outc_no (hx rfl)]
    go_enter Try.func35, Try.ntmps35
    go_wp2
    exact ⟨rfl, rfl, rfl⟩

/-- What is wrong with a ref's number, and with a time. -/
def numErr (n : Int) : Nat := if 1 ≤ n ∧ n ≤ 1000000 then 0 else 3
def timeErr (n : Int) : Nat := if -9007199254740991 ≤ n ∧ n ≤ 9007199254740991 then 0 else 3

set_option maxHeartbeats 1000000 in
theorem checkNumber_any (n : Int) (w : World) : Calls Try.prog 37 #[.int .i64 n] w fun e w' => e = outc (numErr n) ∧ w' = w := by
  unfold numErr
  by_cases h1 : n < 1
  · rw [if_neg (by omega), outc_no (by decide)]
    go_enter Try.func37, Try.ntmps37
    go_wp2_with (go_at_call 35; refine (refuse_any true 3 _ (by decide)).mono ?_; rintro e w' ⟨rfl, rfl⟩; rw [if_pos rfl, outc_no (by decide)])
    exact ⟨rfl, rfl, rfl⟩
  · by_cases h2 : 1000000 < n
    · rw [if_neg (by omega), outc_no (by decide)]
      go_enter Try.func37, Try.ntmps37
      go_wp2_with (go_at_call 35; refine (refuse_any true 3 _ (by decide)).mono ?_; rintro e w' ⟨rfl, rfl⟩; rw [if_pos rfl, outc_no (by decide)])
      exact ⟨rfl, rfl, rfl⟩
    · rw [if_pos (by omega), outc_ok]
      go_enter Try.func37, Try.ntmps37
      go_wp2_with (go_at_call 35; refine (refuse_any false 3 _ (by decide)).mono ?_; rintro e w' ⟨rfl, rfl⟩; rw [if_neg (by simp), outc_ok])
      go_end0
      exact ⟨rfl, rfl⟩
set_option maxHeartbeats 1000000 in
theorem checkTime_any (n : Int) (w : World) : Calls Try.prog 38 #[.int .i64 n] w fun e w' => e = outc (timeErr n) ∧ w' = w := by
  unfold timeErr
  by_cases h1 : n < -9007199254740991
  · rw [if_neg (by omega), outc_no (by decide)]
    go_enter Try.func38, Try.ntmps38
    go_wp2_with (go_at_call 35; refine (refuse_any true 3 _ (by decide)).mono ?_; rintro e w' ⟨rfl, rfl⟩; rw [if_pos rfl, outc_no (by decide)])
    exact ⟨rfl, rfl, rfl⟩
  · by_cases h2 : 9007199254740991 < n
    · rw [if_neg (by omega), outc_no (by decide)]
      go_enter Try.func38, Try.ntmps38
      go_wp2_with (go_at_call 35; refine (refuse_any true 3 _ (by decide)).mono ?_; rintro e w' ⟨rfl, rfl⟩; rw [if_pos rfl, outc_no (by decide)])
      exact ⟨rfl, rfl, rfl⟩
    · rw [if_pos (by omega), outc_ok]
      go_enter Try.func38, Try.ntmps38
      go_wp2_with (go_at_call 35; refine (refuse_any false 3 _ (by decide)).mono ?_; rintro e w' ⟨rfl, rfl⟩; rw [if_neg (by simp), outc_ok])
      go_end0
      exact ⟨rfl, rfl⟩
end Go.Proofs.Ytnlkfehnmijimaa.Rc
