/- 5 texts in one. -/
import Derived.Test.YtkaeogldielkfaaGreatProg
import Derived.Test.YtkaeogldielkfaaGreatKabe2b5f
import Derived.Test.YtkaeogldielkfaaGreatKa96aaab
set_option linter.unusedVariables false
set_option linter.unusedSimpArgs false
namespace Go.Proofs.YtkaeogldielkfaaGreat.Rc
open Go.RowKit
attribute [local go_sem] bs_size bs_toList bs_append bs_get bs_extract
/-- A panic with one of the program's errors. -/
abbrev gaveUp (e : Int) : Ending := .panicked [{ v := .iface 30 (.int .i64 e), recovered := false }]
/-- What a check comes to: it comes back, or gives up with an error. -/
def outc (E : Nat) : Ending := if E = 0 then .returned (.tuple #[]) else gaveUp E
theorem outc_ok : outc 0 = .returned (.tuple #[]) := rfl
theorem outc_no {E : Nat} (h : E ≠ 0) : outc E = gaveUp E := if_neg h
theorem assert_yes (v : Value) (w : World) : (Instr.typeAssert (.iface 30 v) 20 30 true).run Tryz.prog w = .ok (.tuple #[v, .bool true]) w := by kernel_rfl
set_option maxRecDepth 20000 in
set_option maxHeartbeats 1000000 in
theorem catch_panicking (p : Addr) (x err : Int) (older : List PanicEntry) (w : World) (hc : w.cell? p = some (.int .i64 x)) (hz : w.frozen? p = false) :
    CallsD Tryz.prog 47 #[.pointer (some p)] (.panicking ({ v := .iface 30 (.int .i64 err), recovered := false } :: older)) w fun e u' w' =>
      e = .returned (.tuple #[]) ∧ u' = .panicking ({ v := .iface 30 (.int .i64 err), recovered := true } :: older) ∧ w' = w.setCell p (.int .i64 err) := by
  refine callsD_of_wpS Tryz.func47 rfl fun c₀ cs hu => ?_
  simp only [Tryz.ntmps47, List.size_toArray, List.length_cons, List.length_nil, Nat.reduceAdd, Nat.reduceSub, Array.replicate_succ,
     Array.replicate_zero, List.push_toArray, List.append_toArray, List.nil_append, List.cons_append]
  apply wpS_seq
  apply wpS_region
  simp [wpOpsS, go_sem, recoverD, hu, Exit.thenS]
  apply wpS_seq
  apply wpS_region
  simp [wpOpsS, go_sem, Exit.thenS]
  refine wpS_cond (t := true) (by simp [Act.eval, Array.replicate]) ?_
  simp only [if_true]
  refine wpS_of_wp ?_
  have has := assert_yes
  have hnot : ∀ (x : Bool) (w : World), (Op.unary .not (.bool x)).run Tryz.prog w = .ok (.bool (!x)) w := fun _ _ => rfl
  go_wp2
  cases c₀
  simp_all [bodyPostS, results, Tryz.results47]
set_option maxRecDepth 20000 in
set_option maxHeartbeats 1000000 in
theorem catch_idle (p : Addr) (w : World) :
    CallsD Tryz.prog 47 #[.pointer (some p)] .returning w fun e u' w' => e = .returned (.tuple #[]) ∧ u' = .returning ∧ w' = w := by
  refine callsD_of_wpS Tryz.func47 rfl fun c₀ cs hu => ?_
  simp only [Tryz.ntmps47, List.size_toArray, List.length_cons, List.length_nil, Nat.reduceAdd, Nat.reduceSub, Array.replicate_succ,
     Array.replicate_zero, List.push_toArray, List.append_toArray, List.nil_append, List.cons_append]
  apply wpS_seq
  apply wpS_region
  simp [wpOpsS, go_sem, recoverD, hu, Exit.thenS]
  apply wpS_seq
  apply wpS_region
  simp [wpOpsS, go_sem, Exit.thenS]
  refine wpS_cond (t := false) (by simp [Act.eval, Array.replicate]) ?_
  simp only [Bool.false_eq_true, if_false]
  refine wpS_of_wp (wp_skip ?_)
  cases c₀
  simp_all [bodyPostS, results, Tryz.results47]
/-- What work came to: it came back, or gave up with an error. -/
def worked (R : Nat → World → Prop) (e : Ending) (w' : World) : Prop := ∃ E, e = outc E ∧ R E w'
set_option maxRecDepth 20000 in
set_option maxHeartbeats 1000000 in
/-- 'attempt': the error with which work gave up, in a world that is work's but for attempt's own variable. -/
theorem attempt_any (w : World) (g : Nat) (cap : Array Value) (R : Nat → World → Prop)
    (hcf : ∀ (args : Array Value) (w : World), (callFunc g args).run Tryz.prog w = .ok (.enter g args) w)
    (hwork : Calls Tryz.prog g cap (w.alloc (.cells #[.int .i64 0] 30)) (worked fun E w' => R E w' ∧ w'.heap[w.heap.size]? = some (.cells #[.int .i64 0] 30 (0, 0)))) :
    Calls Tryz.prog 21 #[.func (.func g) #[] cap] w fun e w' => ∃ (E : Nat) (w1 : World), e = .returned (.int .i64 E) ∧ R E w1 ∧ w' = w1.setCell ⟨w.heap.size, 0, none⟩ (.int .i64 E) := by
  have HF := hide hwork
  clear hwork
  have hmf : ∀ (fn : Fn) (first cap : Array Value) (w : World), (Instr.makeFunc fn first cap).run Tryz.prog w = .ok (.func fn first cap) w := fun _ _ _ _ => rfl
  go_enter_defers Tryz.func21, Tryz.ntmps21
  go_wp2_with fail
  refine HF.out.mono ?_
  clear HF hcf
  rintro e w1 ⟨E, rfl, hR, hh⟩
  have hc := cell_of_one hh
  have hz := free_of_one hh
  by_cases hE : E = 0
  · subst hE
    rw [outc_ok]
    go_wp2
    refine leaves_cons (f := 47) (args := #[.pointer (some ⟨w.heap.size, 0, none⟩)]) (by simp) (by simp [go_sem]) ?_
    refine (catch_idle ⟨w.heap.size, 0, none⟩ _).mono ?_
    rintro e u' w'' ⟨rfl, rfl, rfl⟩
    have hc2 := cell_of_one (one_setCell (u := .int .i64 0) hh)
    simp [Leaves, settle, results, Tryz.results21, go_sem, hc2]
    exact ⟨0, rfl, w1, hR, rfl⟩
  · rw [outc_no hE]
    refine leaves_cons (f := 47) (args := #[.pointer (some ⟨w.heap.size, 0, none⟩)]) (by simp) (by simp [go_sem]) ?_
    refine (catch_panicking ⟨w.heap.size, 0, none⟩ 0 E [] w1 hc hz).mono ?_
    rintro e u' w'' ⟨rfl, rfl, rfl⟩
    have hc2 := cell_of_one (one_setCell (u := .int .i64 E) hh)
    simp [Leaves, settle, results, Tryz.results21, go_sem, hc2]
    exact ⟨E, rfl, w1, hR, rfl⟩
theorem refuse_any (b : Bool) (x : Nat) (w : World) (hx : b = true → x ≠ 0) :
    Calls Tryz.prog 48 #[.bool b, .int .i64 x] w fun e w' => e = outc (if b = true then x else 0) ∧ w' = w := by
  cases b with
  | false =>
    rw [if_neg (by simp), outc_ok]
    go_enter Tryz.func48, Tryz.ntmps48
    go_wp2
    go_end0
    exact ⟨rfl, rfl⟩
  | true =>
    rw [if_pos rfl, outc_no (hx rfl)]
    go_enter Tryz.func48, Tryz.ntmps48
    go_wp2
    exact ⟨rfl, rfl, rfl⟩
/-- What is wrong with a ref's number, and with a time. -/
def numErr (n : Int) : Nat := if 1 ≤ n ∧ n ≤ 1000000 then 0 else 3
def timeErr (n : Int) : Nat := if -9007199254740991 ≤ n ∧ n ≤ 9007199254740991 then 0 else 3
set_option maxHeartbeats 1000000 in
theorem checkNumber_any (n : Int) (w : World) : Calls Tryz.prog 52 #[.int .i64 n] w fun e w' => e = outc (numErr n) ∧ w' = w := by
  unfold numErr
  by_cases h1 : n < 1
  · rw [if_neg (by omega), outc_no (by decide)]
    go_enter Tryz.func52, Tryz.ntmps52
    go_wp2_with (go_at_call 48; refine (refuse_any true 3 _ (by decide)).mono ?_; rintro e w' ⟨rfl, rfl⟩; rw [if_pos rfl, outc_no (by decide)])
    exact ⟨rfl, rfl, rfl⟩
  · by_cases h2 : 1000000 < n
    · rw [if_neg (by omega), outc_no (by decide)]
      go_enter Tryz.func52, Tryz.ntmps52
      go_wp2_with (go_at_call 48; refine (refuse_any true 3 _ (by decide)).mono ?_; rintro e w' ⟨rfl, rfl⟩; rw [if_pos rfl, outc_no (by decide)])
      exact ⟨rfl, rfl, rfl⟩
    · rw [if_pos (by omega), outc_ok]
      go_enter Tryz.func52, Tryz.ntmps52
      go_wp2_with (go_at_call 48; refine (refuse_any false 3 _ (by decide)).mono ?_; rintro e w' ⟨rfl, rfl⟩; rw [if_neg (by simp), outc_ok])
      go_end0
      exact ⟨rfl, rfl⟩
set_option maxHeartbeats 1000000 in
theorem checkTime_any (n : Int) (w : World) : Calls Tryz.prog 50 #[.int .i64 n] w fun e w' => e = outc (timeErr n) ∧ w' = w := by
  unfold timeErr
  by_cases h1 : n < -9007199254740991
  · rw [if_neg (by omega), outc_no (by decide)]
    go_enter Tryz.func50, Tryz.ntmps50
    go_wp2_with (go_at_call 48; refine (refuse_any true 3 _ (by decide)).mono ?_; rintro e w' ⟨rfl, rfl⟩; rw [if_pos rfl, outc_no (by decide)])
    exact ⟨rfl, rfl, rfl⟩
  · by_cases h2 : 9007199254740991 < n
    · rw [if_neg (by omega), outc_no (by decide)]
      go_enter Tryz.func50, Tryz.ntmps50
      go_wp2_with (go_at_call 48; refine (refuse_any true 3 _ (by decide)).mono ?_; rintro e w' ⟨rfl, rfl⟩; rw [if_pos rfl, outc_no (by decide)])
      exact ⟨rfl, rfl, rfl⟩
    · rw [if_pos (by omega), outc_ok]
      go_enter Tryz.func50, Tryz.ntmps50
      go_wp2_with (go_at_call 48; refine (refuse_any false 3 _ (by decide)).mono ?_; rintro e w' ⟨rfl, rfl⟩; rw [if_neg (by simp), outc_ok])
      go_end0
      exact ⟨rfl, rfl⟩
end Go.Proofs.YtkaeogldielkfaaGreat.Rc
namespace Go.Proofs.YtkaeogldielkfaaGreat
open Go.RowKit
attribute [local go_sem] bs_size bs_toList bs_append bs_get bs_extract
theorem Tryz.info5 : (Tryz.prog.info? 5).map (fun i => (i.zero, i.size, i.bytes)) = some (some (.int .u8 0), 1, 1) := by kernel_rfl
set_option maxRecDepth 20000 in
set_option maxHeartbeats 400000 in
theorem number_any (n : Nat) (w : World) (hn : n < 18446744073709551616) :
    Calls Tryz.prog 126 #[.int .u64 n] w fun e w' => e = .returned (.string (bs (numB n))) ∧ Below w.heap.size w w' := by
  obtain ⟨i0, hi, hz0, hz1, hz2⟩ := info_parts Tryz.info5
  have HN : Hid (n < 128^(9+1)) := by show n < 128^(9+1); omega
  clear hn
  go_enter Tryz.func126, Tryz.ntmps126
  go_wp2
  go_loopw [0, 3] (fun n3 v wr => ∃ (f n' : Nat) (done : List UInt8), Hid (numB n = done ++ numF f n' ∧ n' < 128^(f+1)) ∧ n3 = .int .u64 n' ∧ wr.ownsRow w.heap.size 5 1 v done.length (bytesV done) ∧ Below w.heap.size w wr) (fun n3 _ _ => (intOf n3).toNat)
  case atStart => exact ⟨9, n, [], ⟨rfl, HN⟩, rfl, World.ownsRow_nil _ _ _ _, Below.refl _ _⟩
  case round =>
    obtain ⟨f, n', done, hlt, rfl, hown, hb⟩ := hrel
    have hlen : done.length ≤ 9 := by
      have h1 := congrArg List.length hlt.out.1
      have h2 := numB_length n
      have h3 := numF_length f n'
      simp at h1
      omega
    have hsz := hb.size
    by_cases h : n' < 128
    · have h' : (n' : Int) < 128 := by omega
      go_wp2_with (at_builtin; refine wpList_append_own _ rfl _ _ 77 rfl w.heap.size 5 i0 (.int .u8 0) 1 1 Tryz.underlying77 hi hz0 hz1 hz2 rfl (by decide) _ done.length (bytesV done) rfl (hown.alloc _) ⟨wr.heap.size, 0, none⟩ 1 1 (bytesV [UInt8.ofNat n']) rfl rfl (bcell _ _ _ _ (ofNat_toNat _ (by omega))) (bytesV_oneCell _) (by unfold maxLen; omega) (by omega) (by simp; omega) ?_; intro v' w1 hown' hgrow _; rw [← bytesV_append] at hown'; have hcv := run_bytesStr (P := Tryz.prog) Tryz.underlying77 Tryz.underlying5 Tryz.underlying9 (l := done ++ [UInt8.ofNat n']) (by simpa using hown'))
      go_ret
      exact ⟨by rw [hlt.out.1, numF_small _ _ h]; rfl, (hb.alloc hsz _).grown hgrow (by simp; omega) (fun k hk => (hown.lt k hk).1)⟩
    · have h' : ¬ (n' : Int) < 128 := by omega
      have ho := or128 n'
      obtain ⟨g, rfl⟩ : ∃ g, f = g + 1 := by
        cases f with
        | zero => have := hlt.out.2; omega
        | succ g => exact ⟨g, rfl⟩
      go_wp2_with (at_builtin; refine wpList_append_own _ rfl _ _ 77 rfl w.heap.size 5 i0 (.int .u8 0) 1 1 Tryz.underlying77 hi hz0 hz1 hz2 rfl (by decide) _ done.length (bytesV done) rfl (hown.alloc _) ⟨wr.heap.size, 0, none⟩ 1 1 (bytesV [hiByte n']) rfl rfl (bcell _ _ _ _ (by rw [hiByte_toNat]; first | rfl | omega)) (bytesV_oneCell _) (by unfold maxLen; omega) (by omega) (by simp; omega) ?_; intro v' w1 hown' hgrow _; rw [← bytesV_append] at hown')
      go_roundw
      case rel => exact ⟨g, n' / 128, done ++ [hiByte n'], ⟨by rw [hlt.out.1, numF_big _ _ h]; simp, by have := hlt.out.2; rw [Nat.pow_succ] at this; omega⟩, by go_num, by simpa using hown', (hb.alloc hsz _).grown hgrow (by simp; omega) (fun k hk => (hown.lt k hk).1)⟩
      case measure => simp [intOf]; omega
set_option maxHeartbeats 400000 in
theorem numberSize_any (l : List UInt8) (w : World) (hs : l.length ≤ maxLen) :
    Calls Tryz.prog 149 #[.string (bs l)] w fun e w' => e = .returned (.int .i64 (numSize l)) ∧ w' = w := by
  unfold maxLen at hs
  go_enter Tryz.func149, Tryz.ntmps149
  go_wp2
  go_loop [3] (fun i => ∃ k : Nat, k ≤ l.length ∧ i = .int .i64 k ∧ Hid (∀ j (hj : j < l.length), j < k → ¬ (l[j].toNat : Int) < 128)) (fun i => l.length - (intOf i).toNat)
  case atStart => exact ⟨0, Nat.zero_le _, rfl, fun j _ h => by omega⟩
  case round =>
    obtain ⟨k, hk, rfl, H⟩ := hrel
    by_cases hlt : k < l.length
    · by_cases hc : (l[k].toNat : Int) < 128
      · have hr : Hid (numSize l = k + 1) := numSize_hit l k hlt H.out hc
        go_wp2
        go_ret
        exact ⟨ret_int (by rw [hr.out]; simp), rfl⟩
      · go_wp2
        go_round
        case rel => exact ⟨k + 1, by omega, by go_num, fun j hj h => by
          by_cases e : j = k
          · subst e; exact hc
          · exact H.out j hj (by omega)⟩
        case measure => simp [intOf]; omega
    · have hr : Hid (numSize l = 0) := numSize_miss l (fun j hj => H.out j hj (by omega))
      go_wp2
      go_ret
      exact ⟨ret_int (by rw [hr.out]; simp), rfl⟩
theorem readNum_none {l : List UInt8} (h : numSize l = 0) : readNum l = (0, 0, 1) := by simp [readNum, h]
theorem readNum_long {l : List UInt8} (h0 : ¬ numSize l = 0) (h : 10 < numSize l ∨ (numSize l = 10 ∧ 1 < (l.getD 9 0).toNat)) : readNum l = (0, 0, 3) := by simp only [readNum, h0, h, if_false, if_true]
theorem readNum_ok {l : List UInt8} (h0 : ¬ numSize l = 0) (h : ¬ (10 < numSize l ∨ (numSize l = 10 ∧ 1 < (l.getD 9 0).toNat))) : readNum l = (numVal (l.take (numSize l)), numSize l, 0) := by simp only [readNum, h0, h, if_false]
set_option maxRecDepth 20000 in
set_option maxHeartbeats 400000 in
theorem readNumber_any (l : List UInt8) (w : World) (hs : l.length ≤ maxLen) :
    Calls Tryz.prog 125 #[.string (bs l)] w fun e w' => e = .returned (.tuple #[.int .u64 (readNum l).1, .int .i64 (readNum l).2.1, .int .i64 (readNum l).2.2]) ∧ w' = w := by
  have hs' := hs
  unfold maxLen at hs
  have hle := numSize_le l
  obtain ⟨z, HZ⟩ : ∃ z, Hid (numSize l = z) := ⟨_, rfl⟩
  rw [HZ.out] at hle
  go_enter Tryz.func125, Tryz.ntmps125
  by_cases h0 : z = 0
  · subst h0
    go_wp2_with (go_at_call 149; refine (numberSize_any l _ hs').mono ?_; rintro e w' ⟨rfl, rfl⟩; rw [HZ.out])
    go_ret3
    exact ⟨by rw [readNum_none HZ.out]; rfl, rfl⟩
  · have h0' : ((z : Int) == 0) = false := by simp; omega
    by_cases h10 : 10 < z
    · have h10' : (10 : Int) < (z : Int) := by omega
      go_wp2_with (go_at_call 149; refine (numberSize_any l _ hs').mono ?_; rintro e w' ⟨rfl, rfl⟩; rw [HZ.out])
      go_ret3
      exact ⟨by rw [readNum_long (by rw [HZ.out]; exact h0) (by rw [HZ.out]; exact .inl h10)]; rfl, rfl⟩
    · have h10' : ¬ (10 : Int) < (z : Int) := by omega
      have HT : Hid ((l.take (numSize l)).length = z) := by show _ = _; rw [List.length_take, HZ.out]; omega
      have HG : Hid (∀ j (hj : j < z) (hl : j < l.length), (l.take (numSize l))[j]'(by rw [HT.out]; exact hj) = l[j]) := fun j hj hl => List.getElem_take ..
      by_cases h1 : z = 10 ∧ 1 < (l.getD 9 0).toNat
      · obtain ⟨h1, h9⟩ := h1
        subst h1
        have h9' : (1 : Int) < (l[9].toNat : Int) := by rw [getD_get _ _ (by omega)] at h9; omega
        have H9 : Hid (1 < (l.getD 9 0).toNat) := h9
        clear h9
        go_wp2_with (go_at_call 149; refine (numberSize_any l _ hs').mono ?_; rintro e w' ⟨rfl, rfl⟩; rw [HZ.out])
        go_ret3
        exact ⟨by rw [readNum_long (by rw [HZ.out]; omega) (.inr ⟨HZ.out, H9.out⟩)]; rfl, rfl⟩
      · have HO : Hid (readNum l = (numVal (l.take (numSize l)), numSize l, 0)) := readNum_ok (by rw [HZ.out]; exact h0) (by rw [HZ.out]; omega)
        have HV : Hid (numVal (l.take (numSize l)) < 18446744073709551616) := by
          by_cases h : z = 10
          · exact numVal_ten _ (by rw [HT.out]; exact h) (by rw [List.getD_eq_getElem?_getD, List.getElem?_take_of_lt (by rw [HZ.out]; omega), ← List.getD_eq_getElem?_getD]; exact fun h9 => h1 ⟨h, h9⟩)
          · exact numVal_nine _ (by rw [HT.out]; omega)
        have HB : Hid (z = 10 → ¬ (1 < (l.getD 9 0).toNat)) := fun h h9 => h1 ⟨h, h9⟩
        clear h1
        generalize l.take (numSize l) = T at HT HG HO HV
        by_cases h : z = 10
        · subst h
          have h9' : ¬ (1 : Int) < (l[9].toNat : Int) := by have := HB.out rfl; rw [getD_get _ _ (by omega)] at this; omega
          clear HB
          go_wp2_with (go_at_call 149; refine (numberSize_any l _ hs').mono ?_; rintro e w' ⟨rfl, rfl⟩; rw [HZ.out])
          go_loop [6, 7] (fun n i => ∃ (k : Int) (N : Nat), -1 ≤ k ∧ k < 10 ∧ i = .int .i64 k ∧ n = .int .u64 N ∧ Hid (N = numVal (T.drop (k + 1).toNat))) (fun _ i => (intOf i + 1).toNat)
          case atStart => exact ⟨9, 0, by omega, by omega, rfl, rfl, by show _ = _; rw [List.drop_eq_nil_of_le (by rw [HT.out]; omega)]; rfl⟩
          case round =>
            obtain ⟨k, N, hk1, hk2, rfl, rfl, HN⟩ := hrel
            by_cases hk : 0 ≤ k
            · obtain ⟨j, rfl⟩ := Int.eq_ofNat_of_zero_le hk
              have hjl : j < l.length := by omega
              have HD : Hid (bits .or .u64 (IntKind.u64.wrap ((N : Int) * 128)) (IntKind.u64.wrap (bits .and .u8 (l[j].toNat : Int) 127)) = ((numVal (T.drop j) : Nat) : Int)) := by
                have := digit_step T j (by rw [HT.out]; omega) HV.out
                rw [HG.out j (by omega) hjl] at this
                rw [HN.out]; exact this
              go_wp2
              go_roundw
              case rel => exact ⟨(j : Int) - 1, numVal (T.drop j), by omega, by omega, rfl, by rw [HD.out], by show _ = _; rw [show ((j : Int) - 1 + 1).toNat = j from by omega]⟩
              case measure => simp [intOf]
            · go_wp2
              go_ret3
              obtain rfl : k = -1 := by omega
              exact ⟨by rw [HO.out, HN.out, HZ.out]; rfl, rfl⟩
        · have h' : ((z : Int) == 10) = false := by simp; omega
          have H : Hid (¬ z = 10) := h
          have H0 : Hid (¬ z = 0) := h0
          clear HB h h0
          go_wp2_with (go_at_call 149; refine (numberSize_any l _ hs').mono ?_; rintro e w' ⟨rfl, rfl⟩; rw [HZ.out])
          go_loop [6, 7] (fun n i => ∃ (k : Int) (N : Nat), -1 ≤ k ∧ k < z ∧ i = .int .i64 k ∧ n = .int .u64 N ∧ Hid (N = numVal (T.drop (k + 1).toNat))) (fun _ i => (intOf i + 1).toNat)
          case atStart => exact ⟨(z : Int) - 1, 0, by omega, by omega, rfl, rfl, by show _ = _; rw [List.drop_eq_nil_of_le (by rw [HT.out]; omega)]; rfl⟩
          case round =>
            obtain ⟨k, N, hk1, hk2, rfl, rfl, HN⟩ := hrel
            by_cases hk : 0 ≤ k
            · obtain ⟨j, rfl⟩ := Int.eq_ofNat_of_zero_le hk
              have hjl : j < l.length := by omega
              have HD : Hid (bits .or .u64 (IntKind.u64.wrap ((N : Int) * 128)) (IntKind.u64.wrap (bits .and .u8 (l[j].toNat : Int) 127)) = ((numVal (T.drop j) : Nat) : Int)) := by
                have := digit_step T j (by rw [HT.out]; omega) HV.out
                rw [HG.out j (by omega) hjl] at this
                rw [HN.out]; exact this
              go_wp2
              go_roundw
              case rel => exact ⟨(j : Int) - 1, numVal (T.drop j), by omega, by omega, rfl, by rw [HD.out], by show _ = _; rw [show ((j : Int) - 1 + 1).toNat = j from by omega]⟩
              case measure => simp [intOf]
            · go_wp2
              go_ret3
              obtain rfl : k = -1 := by omega
              exact ⟨by rw [HO.out, HN.out, HZ.out]; rfl, rfl⟩
set_option maxRecDepth 20000 in
set_option maxHeartbeats 400000 in
theorem numberOf_any (n : Nat) (w : World) (hn : n < 18446744073709551616) :
    Calls Tryz.prog 104 #[.int .u64 n] w fun e w' => e = .returned (.string (bs (numB n))) ∧ Below w.heap.size w w' := by
  have HN : Hid (n < 128^(9+1)) := by show n < 128^(9+1); omega
  have HM : Hid (n < 18446744073709551616) := hn
  clear hn
  go_enter Tryz.func104, Tryz.ntmps104
  go_wp2
  go_loopw [0, 3] (fun n3 v wr => ∃ (f n' : Nat) (done : List UInt8), Hid (numB n = done ++ numF f n' ∧ n' < 128^(f+1) ∧ n' ≤ n) ∧ n3 = .int .u64 n' ∧ v = .string (bs done) ∧ Below w.heap.size w wr) (fun n3 _ _ => (intOf n3).toNat)
  case atStart => exact ⟨9, n, [], ⟨rfl, HN, Nat.le_refl _⟩, rfl, rfl, Below.refl _ _⟩
  case round =>
    obtain ⟨f, n', done, hlt, rfl, rfl, hb⟩ := hrel
    have hlen : done.length ≤ 9 := by
      have h1 := congrArg List.length hlt.out.1
      have h2 := numB_length n
      have h3 := numF_length f n'
      simp at h1
      omega
    have hsz := hb.size
    by_cases h : n' < 128
    · have h' : (n' : Int) < 128 := by omega
      have hcv := run_oneByte (P := Tryz.prog) wr Tryz.underlying77 Tryz.underlying5 Tryz.underlying9 5 (n' : Int) (UInt8.ofNat n') (ofNat_toNat _ (by omega))
      go_wp2
      go_ret
      exact ⟨by rw [hlt.out.1, numF_small _ _ h]; rfl, hb.alloc hsz _⟩
    · have h' : ¬ (n' : Int) < 128 := by omega
      have hcv := run_oneByte (P := Tryz.prog) wr Tryz.underlying77 Tryz.underlying5 Tryz.underlying9 5 ((n' : Int) % 128 + 128) (hiByte n') (by rw [hiByte_toNat]; omega)
      obtain ⟨g, rfl⟩ : ∃ g, f = g + 1 := by
        cases f with
        | zero => have := hlt.out.2.1; omega
        | succ g => exact ⟨g, rfl⟩
      have hq : IntKind.u64.wrap ((n' : Int) / 128) = ((n' / 128 : Nat) : Int) := by
        have h1 := hlt.out.2.2
        have h2 := HM.out
        rw [wrap_u64_small _ (by omega) (by omega)]; omega
      go_wp2
      go_roundw
      case rel => exact ⟨g, n' / 128, done ++ [hiByte n'], ⟨by rw [hlt.out.1, numF_big _ _ h]; simp, by have := hlt.out.2.1; rw [Nat.pow_succ] at this; omega, by have := hlt.out.2.2; omega⟩, by go_num, rfl, hb.alloc hsz _⟩
      case measure => simp [intOf]; omega
end Go.Proofs.YtkaeogldielkfaaGreat
namespace Go.Proofs.YtkaeogldielkfaaGreat.Rc
open Go.RowKit
/-- Whether a guarded operation is wanted. -/
theorem gwanted {ops : Array Oper} {a : Act} {o : Oper} {i g : Nat} {bb : Bool} (ho : ops[i]? = some o) (hg : (ops[i]?).bind (·.guard) = some (g, bb)) (hs : slotOf ops a g = .bool bb) : Region.wanted o (yielded ops a.tmps) = true := by
  rw [ho] at hg
  have hg : o.guard = some (g, bb) := hg
  unfold slotOf at hs
  cases hd : dstOf ops g with
  | none => rw [hd] at hs; simp [undef] at hs
  | some d =>
    rw [hd] at hs
    simp only at hs
    have : a.tmps[d]? = some (.bool bb) := by
      cases h : a.tmps[d]? with
      | none => simp [Array.getD_eq_getD_getElem?, h, undef] at hs
      | some v => simp [Array.getD_eq_getD_getElem?, h] at hs; rw [hs]
    have hy : yielded ops a.tmps g = some bb := by
      have hd' : (ops[g]?).bind (·.dst) = some d := hd
      simp [yielded, hd', this]
    simp [Region.wanted, hg, hy]
end Go.Proofs.YtkaeogldielkfaaGreat.Rc
namespace Go.Proofs.YtkaeogldielkfaaGreat
open Go.RowKit
attribute [local go_sem] bs_size bs_toList bs_append bs_get bs_extract
theorem takeWhile_len (p : UInt8 → Bool) : ∀ (l : List UInt8) (k : Nat), k ≤ l.length → (∀ j (h : j < l.length), j < k → p l[j] = true) → (k = l.length ∨ ∃ h : k < l.length, p l[k] = false) → (l.takeWhile p).length = k
  | [], k, hk, _, _ => by simp at hk; simp [hk]
  | c :: l, 0, hk, ha, hs => by
    rcases hs with hs | ⟨h, hs⟩
    · simp at hs
    · simp at hs
      simp [List.takeWhile_cons, hs]
  | c :: l, k + 1, hk, ha, hs => by
    have h0 := ha 0 (by simp) (by omega)
    simp at h0
    have ih := takeWhile_len p l k (by simpa using hk) (fun j h hj => by have := ha (j + 1) (by simp; omega) (by omega); simpa using this) (by
      rcases hs with hs | ⟨h, hs⟩
      · exact .inl (by simpa using hs)
      · exact .inr ⟨by simpa using h, by simpa using hs⟩)
    simp [List.takeWhile_cons, h0, ih]
theorem numMany_eq (l : List UInt8) (k : Nat) (hk : k ≤ l.length) (h9 : k ≤ 9) (ha : ∀ j (h : j < l.length), j < k → 128 ≤ l[j].toNat) (hs : k = l.length ∨ k = 9 ∨ ∃ h : k < l.length, l[k].toNat < 128) : numMany l = k := by
  unfold numMany
  refine takeWhile_len _ _ k (by simp; omega) (fun j h hj => ?_) ?_
  · simp at h
    simp [List.getElem_take, ha j (by omega) hj]
  · by_cases e : k = (l.take 9).length
    · exact .inl e
    · rw [List.length_take] at e
      right
      refine ⟨by simp; omega, ?_⟩
      rcases hs with hs | hs | ⟨h, hs⟩
      · omega
      · omega
      · simp [List.getElem_take]; omega
set_option maxRecDepth 20000 in
set_option maxHeartbeats 2000000 in
theorem numberAt_any (l : List UInt8) (w : World) (hs : l.length ≤ 9223372036854775807) :
    Calls Tryz.prog 103 #[.string (bs l)] w fun e w' => e = .returned (.tuple #[.int .u64 (numAt l).1, .int .i64 (numAt l).2.1, .int .i64 (numAt l).2.2]) ∧ w' = w := by
  go_enter Tryz.func103, Tryz.ntmps103
  go_wp2
  go_loop [5] (fun i => ∃ k : Nat, k ≤ l.length ∧ k ≤ 9 ∧ i = .int .i64 k ∧ Hid (∀ j (h : j < l.length), j < k → 128 ≤ l[j].toNat)) (fun i => 9 - (intOf i).toNat)
  case atStart => exact ⟨0, by omega, by omega, rfl, hide (fun j _ h => by omega)⟩
  case round =>
    obtain ⟨k, hk, hk9, rfl, HA⟩ := hrel
    by_cases hgo : ∃ h : k < l.length, 128 ≤ l[k].toNat ∧ k < 9
    · obtain ⟨h1, h2, h3⟩ := hgo
      have t1 : (128 : Int) ≤ (l[k].toNat : Int) := by omega
      go_wp2
      go_round
      case rel => exact ⟨k + 1, by omega, by omega, by go_num, hide (fun j hj h => by
        by_cases e : j = k
        · subst e; exact h2
        · exact HA.out j hj (by omega))⟩
      case measure => simp [intOf]; omega
    · have hstop : k = l.length ∨ k = 9 ∨ ∃ h : k < l.length, l[k].toNat < 128 := by
        by_cases c1 : k = l.length
        · exact .inl c1
        · by_cases c2 : k = 9
          · exact .inr (.inl c2)
          · refine .inr (.inr ⟨by omega, ?_⟩)
            by_cases c3 : l[k].toNat < 128
            · exact c3
            · exact absurd ⟨by omega, by omega, by omega⟩ hgo
      have HM := hide (numMany_eq l k hk hk9 HA.out hstop)
      by_cases c1 : k = l.length
      · have HN : Hid (numAt l = (0, 0, 1)) := by show _ = _; simp [numAt, HM.out, c1]
        go_wp2
        go_ret3
        exact ⟨by rw [HN.out]; rfl, rfl⟩
      · have hkl : k < l.length := by omega
        have c1' : ((k : Int) == (l.length : Int)) = false := by rw [beq_eq_false_iff_ne]; omega
        have HT : Hid ((l.take (k + 1)).length = k + 1) := by show _ = _; rw [List.length_take]; omega
        have HG : Hid (∀ j (hj : j < k + 1) (hl : j < l.length), (l.take (k + 1))[j]'(by rw [HT.out]; exact hj) = l[j]) := fun j hj hl => List.getElem_take ..
        by_cases c2 : k = 9
        · subst c2
          have t9 : ((9 : Int) == (l.length : Int)) = false := by rw [beq_eq_false_iff_ne]; omega
          by_cases d : 1 < l[9].toNat
          · have d' : (1 : Int) < (l[9].toNat : Int) := by omega
            have HN : Hid (numAt l = (0, 0, 3)) := by show _ = _; unfold numAt; rw [HM.out, if_neg c1, if_pos ⟨rfl, by rw [getD_get _ _ hkl]; exact d⟩]
            clear c1 d hgo hstop
            go_wp2
            all_goals go_ret3
            all_goals exact ⟨by rw [HN.out]; rfl, rfl⟩
          · have d' : ¬ (1 : Int) < (l[9].toNat : Int) := by omega
            have HO : Hid (numAt l = (numVal (l.take 10), 10, 0)) := by show _ = _; unfold numAt; rw [HM.out, if_neg c1, if_neg (fun h => d (by have := h.2; rw [getD_get _ _ hkl] at this; exact this))]
            have HV : Hid (numVal (l.take 10) < 18446744073709551616) := numVal_ten _ HT.out (by rw [List.getD_eq_getElem?_getD, List.getElem?_take_of_lt (by omega), ← List.getD_eq_getElem?_getD, getD_get _ _ hkl]; exact d)
            clear c1 d hgo hstop
            generalize l.take 10 = T at HT HG HO HV
            go_wp2
            go_loop [6, 7] (fun n i => ∃ (m : Int) (N : Nat), -1 ≤ m ∧ m < 10 ∧ i = .int .i64 m ∧ n = .int .u64 N ∧ Hid (N = numVal (T.drop (m + 1).toNat))) (fun _ i => (intOf i + 1).toNat)
            case atStart => exact ⟨9, 0, by omega, by omega, rfl, rfl, by show _ = _; rw [List.drop_eq_nil_of_le (by rw [HT.out]; omega)]; rfl⟩
            case round =>
              obtain ⟨m, N, hm1, hm2, rfl, rfl, HN⟩ := hrel
              by_cases hm : 0 ≤ m
              · obtain ⟨j, rfl⟩ := Int.eq_ofNat_of_zero_le hm
                have hjl : j < l.length := by omega
                have HD : Hid (IntKind.u64.wrap (IntKind.u64.wrap ((N : Int) * 128) + (l[j].toNat : Int) % 128) = ((numVal (T.drop j) : Nat) : Int)) := by
                  have e := numVal_drop T j (by rw [HT.out]; omega)
                  have e2 := numVal_drop_le T j
                  have e3 := HV.out
                  have e4 : N = numVal (T.drop (j + 1)) := HN.out
                  rw [HG.out j (by omega) hjl] at e
                  show _ = _
                  rw [wrap_u64_small ((N : Int) * 128) (by omega) (by omega), wrap_u64_small _ (by omega) (by omega)]
                  omega
                go_wp2
                go_round
                case rel => exact ⟨(j : Int) - 1, numVal (T.drop j), by omega, by omega, rfl, by rw [HD.out], by show _ = _; rw [show ((j : Int) - 1 + 1).toNat = j from by omega]⟩
                case measure => simp [intOf]
              · go_wp2
                go_ret3
                obtain rfl : m = -1 := by omega
                exact ⟨by rw [HO.out, HN.out]; rfl, rfl⟩
        · have hlow : l[k].toNat < 128 := by
            rcases hstop with h | h | ⟨_, h⟩
            · omega
            · omega
            · exact h
          have t1 : ¬ (128 : Int) ≤ (l[k].toNat : Int) := by omega
          have t9 : ((k : Int) == 9) = false := by rw [beq_eq_false_iff_ne]; omega
          have HO : Hid (numAt l = (numVal (l.take (k + 1)), k + 1, 0)) := by show _ = _; simp [numAt, HM.out, c1, c2]
          have HV : Hid (numVal (l.take (k + 1)) < 18446744073709551616) := numVal_nine _ (by rw [HT.out]; omega)
          have C2 := hide c2
          clear c1 hgo hstop c2
          generalize l.take (k + 1) = T at HT HG HO HV
          go_wp2
          go_loop [6, 7] (fun n i => ∃ (m : Int) (N : Nat), -1 ≤ m ∧ m < k + 1 ∧ i = .int .i64 m ∧ n = .int .u64 N ∧ Hid (N = numVal (T.drop (m + 1).toNat))) (fun _ i => (intOf i + 1).toNat)
          case atStart => exact ⟨k, 0, by omega, by omega, rfl, rfl, by show _ = _; rw [List.drop_eq_nil_of_le (by rw [HT.out]; omega)]; rfl⟩
          case round =>
            obtain ⟨m, N, hm1, hm2, rfl, rfl, HN⟩ := hrel
            by_cases hm : 0 ≤ m
            · obtain ⟨j, rfl⟩ := Int.eq_ofNat_of_zero_le hm
              have hjl : j < l.length := by omega
              have HD : Hid (IntKind.u64.wrap (IntKind.u64.wrap ((N : Int) * 128) + (l[j].toNat : Int) % 128) = ((numVal (T.drop j) : Nat) : Int)) := by
                have e := numVal_drop T j (by rw [HT.out]; omega)
                have e2 := numVal_drop_le T j
                have e3 := HV.out
                have e4 : N = numVal (T.drop (j + 1)) := HN.out
                rw [HG.out j (by omega) hjl] at e
                show _ = _
                rw [wrap_u64_small ((N : Int) * 128) (by omega) (by omega), wrap_u64_small _ (by omega) (by omega)]
                omega
              go_wp2
              go_round
              case rel => exact ⟨(j : Int) - 1, numVal (T.drop j), by omega, by omega, rfl, by rw [HD.out], by show _ = _; rw [show ((j : Int) - 1 + 1).toNat = j from by omega]⟩
              case measure => simp [intOf]
            · go_wp2
              go_ret3
              obtain rfl : m = -1 := by omega
              exact ⟨by rw [HO.out, HN.out]; rfl, rfl⟩
end Go.Proofs.YtkaeogldielkfaaGreat
namespace Go.Proofs.YtkaeogldielkfaaGreat
theorem takeWhile_ends (p : UInt8 → Bool) : ∀ (l : List UInt8), (∀ j (h : j < l.length), j < (l.takeWhile p).length → p l[j] = true) ∧ ((l.takeWhile p).length = l.length ∨ ∃ h : (l.takeWhile p).length < l.length, p (l[(l.takeWhile p).length]'h) = false)
  | [] => by simp
  | c :: l => by
    have ih := takeWhile_ends p l
    by_cases hc : p c = true
    · simp only [List.takeWhile_cons, hc, if_true, List.length_cons]
      refine ⟨fun j h hj => ?_, ?_⟩
      · cases j with
        | zero => simpa using hc
        | succ j => have := ih.1 j (by simpa using h) (by omega); simpa using this
      · rcases ih.2 with h | ⟨h, h'⟩
        · exact .inl (by omega)
        · exact .inr ⟨by omega, by simpa using h'⟩
    · have hc' : p c = false := by simpa using hc
      simp [List.takeWhile_cons, hc']
theorem numMany_ends (l : List UInt8) : numMany l ≤ l.length ∧ numMany l ≤ 9 ∧ (∀ j (h : j < l.length), j < numMany l → 128 ≤ l[j].toNat) ∧ (numMany l = l.length ∨ numMany l = 9 ∨ ∃ h : numMany l < l.length, (l[numMany l]'h).toNat < 128) := by
  have h := takeWhile_ends (fun c => decide (128 ≤ c.toNat)) (l.take 9)
  have hle : numMany l ≤ (l.take 9).length := by
    unfold numMany
    rcases h.2 with h | ⟨h, _⟩ <;> omega
  rw [List.length_take] at hle
  refine ⟨by omega, by omega, fun j hj hk => ?_, ?_⟩
  · have := h.1 j (by rw [List.length_take]; omega) hk
    rw [List.getElem_take] at this
    simpa using this
  · rcases h.2 with h | ⟨h, h'⟩
    · have : numMany l = min 9 l.length := by unfold numMany; rw [h, List.length_take]
      omega
    · have hm : numMany l < min 9 l.length := by rw [← List.length_take]; exact h
      refine .inr (.inr ⟨by omega, ?_⟩)
      rw [List.getElem_take] at h'
      have h2 : ¬ 128 ≤ (l[numMany l]'(by omega)).toNat := by simpa [numMany] using h'
      omega
/-- Both ways to read a number agree, but for which error. -/
theorem numAt_read (l : List UInt8) : ((numAt l).2.2 = 0 ∧ readNum l = numAt l) ∨ ((numAt l).2.2 ≠ 0 ∧ (readNum l).2.2 ≠ 0) := by
  obtain ⟨h1, h2, h3, h4⟩ := numMany_ends l
  by_cases c1 : numMany l = l.length
  · right
    have hz : numSize l = 0 := numSize_miss l fun j hj => by have := h3 j hj (by omega); omega
    unfold numAt readNum
    rw [if_pos c1, if_pos hz]
    simp
  · by_cases c2 : numMany l = 9 ∧ 1 < (l.getD 9 0).toNat
    · right
      have hl : 9 < l.length := by omega
      have hg := getD_get l 9 hl
      have h9 := c2.2
      rw [hg] at h9
      unfold numAt
      rw [if_neg c1, if_pos c2]
      refine ⟨by simp, ?_⟩
      by_cases c3 : l[9].toNat < 128
      · have hz : numSize l = 10 := numSize_hit l 9 hl (fun j hj hk => by have := h3 j hj (by omega); omega) (by omega)
        unfold readNum
        rw [hz, if_neg (by omega), if_pos (.inr ⟨rfl, c2.2⟩)]
        simp
      · unfold readNum
        by_cases hz : numSize l = 0
        · rw [if_pos hz]; simp
        · by_cases hz2 : 10 < numSize l
          · rw [if_neg hz, if_pos (.inl hz2)]; simp
          · exfalso
            -- a hit at ten or below would be at a byte below 128
            have key : ∀ k, (hk : k < l.length) → numSize l = k + 1 → l[k].toNat < 128 := by
              intro k hk e
              unfold numSize at e
              split at e
              · rename_i i hi
                obtain ⟨hlt, hp, _⟩ := List.findIdx?_eq_some_iff_getElem.1 hi
                have : i = k := by omega
                subst this
                simpa using hp
              · omega
            have hle := numSize_le l
            obtain ⟨k, hk⟩ : ∃ k, numSize l = k + 1 := ⟨numSize l - 1, by omega⟩
            have := key k (by omega) hk
            by_cases e : k = 9
            · subst e; exact c3 this
            · have := h3 k (by omega) (by omega); omega
    · left
      have hlow : ∃ h : numMany l < l.length, (l[numMany l]'h).toNat < 128 := by
        rcases h4 with h | h | h
        · exact absurd h c1
        · have hl : 9 < l.length := by omega
          have h9 : ¬ 1 < (l.getD 9 0).toNat := fun k => c2 ⟨h, k⟩
          rw [getD_get l 9 hl] at h9
          exact ⟨by omega, by simp only [h]; omega⟩
        · exact h
      obtain ⟨hl, hlow⟩ := hlow
      have hz : numSize l = numMany l + 1 := numSize_hit l (numMany l) hl (fun j hj hk => by have := h3 j hj hk; omega) (by omega)
      unfold numAt readNum
      rw [if_neg c1, if_neg c2, hz, if_neg (by omega), if_neg (fun h => by
        rcases h with h | ⟨h, h'⟩
        · omega
        · exact c2 ⟨by omega, h'⟩)]
      exact ⟨rfl, rfl⟩
end Go.Proofs.YtkaeogldielkfaaGreat
