/- labels: cmp.Compare, cmp.Or, Compare$1, slices.CompareFunc, checkLists, Compare. -/
import Derived.Test.YtdlmgkncneifaaaGreatProg
import Derived.Test.YtdlmgkncneifaaaGreatKit
import Derived.Test.YtdlmgkncneifaaaGreatLSpec
import Derived.Test.YtdlmgkncneifaaaGreatReg
import Derived.Test.YtdlmgkncneifaaaGreatLRow
import Derived.Test.YtdlmgkncneifaaaGreatLChk
import Derived.Test.YtdlmgkncneifaaaGreatLTwi
import Derived.Test.YtdlmgkncneifaaaGreatLRefB
import Derived.BigQuiet
import Derived.Deep.RegionHeld3
set_option linter.unusedVariables false
set_option linter.unusedSimpArgs false
namespace Go.Proofs.YtdlmgkncneifaaaGreat.Lb
open Go.RowKit
attribute [local go_sem] bs_size bs_toList bs_append bs_get bs_extract

set_option maxHeartbeats 400000 in
theorem isNaN_any (s : List UInt8) (w : World) : Calls Tryz.prog 101 #[.string (bs s)] w fun e w' => e = .returned (.bool false) ∧ w' = w := by
  go_enter Tryz.func101, Tryz.ntmps101
  go_wp2
  go_ret
  exact ⟨ret_bool (by simp), rfl⟩

set_option maxHeartbeats 1000000 in
theorem cmpString_any (x y : List UInt8) (w : World) : Calls Tryz.prog 78 #[.string (bs x), .string (bs y)] w fun e w' => e = .returned (.int .i64 (cmpStr x y)) ∧ w' = w := by
  cases h1 : Op.bytesLess x y with
  | true =>
    have HC : Hid (cmpStr x y = -1) := by show _ = _; unfold cmpStr; rw [if_pos h1]
    go_enter Tryz.func78, Tryz.ntmps78
    go_wp2_with (go_at_call 101; refine (isNaN_any _ _).mono ?_; rintro e w' ⟨rfl, rfl⟩)
    go_ret
    exact ⟨ret_int (by rw [HC.out]), rfl⟩
  | false =>
    by_cases he : x = y
    · subst he
      have HC : Hid (cmpStr x x = 0) := cmpStr_zero.2 rfl
      go_enter Tryz.func78, Tryz.ntmps78
      go_wp2_with (go_at_call 101; refine (isNaN_any _ _).mono ?_; rintro e w' ⟨rfl, rfl⟩)
      go_ret
      exact ⟨ret_int (by rw [HC.out]), rfl⟩
    · have h2 : Op.bytesLess y x = true := by
        cases h : Op.bytesLess y x with
        | true => rfl
        | false => exact absurd (bl_tri h1 h) he
      have HC : Hid (cmpStr x y = 1) := by show _ = _; unfold cmpStr; rw [if_neg (by rw [h1]; simp), if_pos h2]
      have he' : (x == y) = false := by simpa using he
      clear he h2
      go_enter Tryz.func78, Tryz.ntmps78
      go_wp2_with (go_at_call 101; refine (isNaN_any _ _).mono ?_; rintro e w' ⟨rfl, rfl⟩)
      go_ret
      exact ⟨ret_int (by rw [HC.out]), rfl⟩

def orInt (x y : Int) : Int := if x = 0 then y else x
theorem orInt_zero (y : Int) : orInt 0 y = y := by unfold orInt; rw [if_pos rfl]
theorem orInt_ne {x : Int} (y : Int) (h : x ≠ 0) : orInt x y = x := by unfold orInt; rw [if_neg h]

set_option maxRecDepth 20000 in
set_option maxHeartbeats 1000000 in
theorem cmpOr_any (w : World) (b : Nat) (x y : Int) (t : TypeId) (h : w.heap[b]? = some (.cells #[.int .i64 x, .int .i64 y] t (0, 0))) :
    Calls Tryz.prog 94 #[.slice (some ⟨b, 0, none⟩) 2 2] w fun e w' => e = .returned (.int .i64 (orInt x y)) ∧ w' = w := by
  obtain ⟨c0, c1⟩ := two_cells h
  by_cases hx : x = 0
  · subst hx
    rw [orInt_zero]
    by_cases hy : y = 0
    · subst hy
      go_enter Tryz.func94, Tryz.ntmps94
      go_wp2
      refine wp_loop_rounds 3 ?_
      rw [rounds_succ]
      go_wp2
      rw [rounds_succ]
      go_wp2
      rw [rounds_succ]
      go_wp2
      go_ret
      exact ⟨rfl, rfl⟩
    · have hy' : (y != 0) = true := by simpa using hy
      go_enter Tryz.func94, Tryz.ntmps94
      go_wp2
      refine wp_loop_rounds 2 ?_
      rw [rounds_succ]
      go_wp2
      rw [rounds_succ]
      go_wp2
      go_ret
      exact ⟨rfl, rfl⟩
  · rw [orInt_ne y hx]
    have hx' : (x != 0) = true := by simpa using hx
    go_enter Tryz.func94, Tryz.ntmps94
    go_wp2
    refine wp_loop_rounds 1 ?_
    rw [rounds_succ]
    go_wp2
    go_ret
    exact ⟨rfl, rfl⟩

theorem cmpLab_or (x y : Lab) : cmpLab x y = orInt (cmpStr x.1 y.1) (cmpStr x.2 y.2) := by
  unfold cmpLab orInt
  by_cases h : x.1 = y.1
  · rw [if_pos h, if_pos (cmpStr_zero.2 h)]
  · rw [if_neg h, if_neg (fun e => h (cmpStr_zero.1 e))]

set_option maxRecDepth 20000 in
set_option maxHeartbeats 1000000 in
theorem compare1_any (w : World) (x y : Lab) : Calls Tryz.prog 93 #[.agg #[.string (bs x.1), .string (bs x.2)], .agg #[.string (bs y.1), .string (bs y.2)]] w fun e w' => e = .returned (.int .i64 (cmpLab x y)) ∧ Below w.heap.size w w' := by
  have HC := hide (cmpLab_or x y)
  obtain ⟨w2, HW⟩ : ∃ w2, Hid ((w.alloc (.cells #[.string (bs x.1), .string (bs x.2)] 69)).alloc (.cells #[.string (bs y.1), .string (bs y.2)] 69) = w2) := ⟨_, hide rfl⟩
  have hb2 : Below w.heap.size w w2 := by rw [← HW.out]; exact ((Below.refl _ _).alloc (Nat.le_refl _) _).alloc (by simp) _
  have c0 : w2.cell? ⟨w.heap.size, 0, none⟩ = some (.string (bs x.1)) := by rw [← HW.out]; simp
  have c1 : w2.cell? ⟨w.heap.size, 1, none⟩ = some (.string (bs x.2)) := by rw [← HW.out]; simp
  have c2 : w2.cell? ⟨w.heap.size + 1, 0, none⟩ = some (.string (bs y.1)) := by rw [← HW.out]; simp
  have c3 : w2.cell? ⟨w.heap.size + 1, 1, none⟩ = some (.string (bs y.2)) := by rw [← HW.out]; simp
  have hsz : w.heap.size + 1 < w2.heap.size := by rw [← HW.out]; simp
  have HB := hide hb2
  clear hb2
  generalize hr1 : cmpStr x.1 y.1 = r1 at HC
  generalize hr2 : cmpStr x.2 y.2 = r2 at HC
  have q1 : ∀ W, Calls Tryz.prog 78 #[.string (bs x.1), .string (bs y.1)] W fun e w' => e = .returned (.int .i64 r1) ∧ w' = W := fun W => by rw [← hr1]; exact cmpString_any _ _ W
  have q2 : ∀ W, Calls Tryz.prog 78 #[.string (bs x.2), .string (bs y.2)] W fun e w' => e = .returned (.int .i64 r2) ∧ w' = W := fun W => by rw [← hr2]; exact cmpString_any _ _ W
  have Q1 := hide q1
  have Q2 := hide q2
  clear q1 q2 hr1 hr2
  go_enter Tryz.func93, Tryz.ntmps93
  go_wp2_with fail
  rw [HW.out]
  go_region_held3 (fun w' => w'.cell? ⟨w.heap.size, 0, none⟩ = some (.string (bs x.1)) ∧ w'.cell? ⟨w.heap.size, 1, none⟩ = some (.string (bs x.2)) ∧ w'.cell? ⟨w.heap.size + 1, 0, none⟩ = some (.string (bs y.1)) ∧ w'.cell? ⟨w.heap.size + 1, 1, none⟩ = some (.string (bs y.2))) (go_keep)
    ((first
      | (go_at_call_of 78 (Value.string (bs x.1)); refine (Q1.out _).mono ?_; rintro e w' ⟨rfl, rfl⟩)
      | (go_at_call_of 78 (Value.string (bs x.2)); refine (Q2.out _).mono ?_; rintro e w' ⟨rfl, rfl⟩)
      | (go_at_call 94; refine (cmpOr_any _ _ r1 r2 3 (by exact heap_alloc_new _ _)).mono ?_; rintro e w' ⟨rfl, rfl⟩)))
  go_wp2
  go_ret
  have hfin := HB.out.trans (Below.mono (Grow.alloc (Grow.refl w2) (.cells #[.int .i64 r1, .int .i64 r2] 3)) (show w.heap.size ≤ w2.heap.size by omega))
  exact ⟨ret_int (by rw [HC.out]), ⟨hfin.os, hfin.tape, hfin.output, hfin.size, hfin.block⟩⟩

set_option maxRecDepth 20000 in
set_option maxHeartbeats 2000000 in
theorem compareFunc_any (w : World) (va vb : Value) (a b : List Lab) (ha : readsLabels w w.heap.size va a) (hb : readsLabels w w.heap.size vb b) (hal : a.length ≤ 20) (hbl : b.length ≤ 20) :
    Calls Tryz.prog 92 #[va, vb, .func (.func 93) #[] #[]] w fun e w' => e = .returned (.int .i64 (ordB a b)) ∧ Below w.heap.size w w' := by
  obtain ⟨ao, ac, rfl, acells⟩ := id ha
  obtain ⟨bo, bc, rfl, bcells⟩ := id hb
  clear ha hb
  go_enter Tryz.func92, Tryz.ntmps92
  go_wp2
  go_loopw [13] (fun i wr => ∃ k : Nat, k ≤ a.length ∧ k ≤ b.length ∧ i = .int .i64 k ∧ Below w.heap.size w wr ∧ Hid (∀ j (ha : j < a.length) (hb : j < b.length), j < k → a[j] = b[j])) (fun i _ => a.length - (intOf i).toNat)
  case atStart => exact ⟨0, by omega, by omega, rfl, Below.refl _ _, hide (fun j _ _ h => by omega)⟩
  case round =>
    obtain ⟨k, hka, hkb, rfl, hbw, HD⟩ := hrel
    have hbs := hbw.size
    by_cases hlt : k < a.length
    · by_cases hlt2 : k < b.length
      · obtain ⟨ab, aof, rfl, haB, a0, a1⟩ := acells k hlt
        obtain ⟨bb, bof, rfl, hbB, b0, b1⟩ := bcells k hlt2
        have d0 := (hbw.cell (p := ⟨ab, aof + k * 2, none⟩) haB).trans a0
        have d1 := (hbw.cell (p := ⟨ab, aof + k * 2 + 1, none⟩) haB).trans a1
        have e0 := (hbw.cell (p := ⟨bb, bof + k * 2, none⟩) hbB).trans b0
        have e1 := (hbw.cell (p := ⟨bb, bof + k * 2 + 1, none⟩) hbB).trans b1
        clear a0 a1 b0 b1 acells bcells
        have HAt := hide (ordB_at hlt hlt2 HD.out)
        have HEq : Hid (a[k] = b[k] ↔ cmpLab a[k] b[k] = 0) := cmpLab_zero.symm
        obtain ⟨x, HX⟩ : ∃ x : Lab, Hid (a[k] = x) := ⟨_, hide rfl⟩
        obtain ⟨y, HY⟩ : ∃ y : Lab, Hid (b[k] = y) := ⟨_, hide rfl⟩
        rw [HX.out] at d0 d1 HAt HEq
        rw [HY.out] at e0 e1 HAt HEq
        have hg := (Grow.refl wr).alloc (.cells #[.string (bs x.1), .string (bs x.2)] 69)
        have f0 := (hg.cell (p := ⟨bb, bof + k * 2, none⟩) (show bb < wr.heap.size by omega)).trans e0
        have f1 := (hg.cell (p := ⟨bb, bof + k * 2 + 1, none⟩) (show bb < wr.heap.size by omega)).trans e1
        clear hg
        have q1 : ∀ W, Calls Tryz.prog 93 #[.agg #[.string (bs x.1), .string (bs x.2)], .agg #[.string (bs y.1), .string (bs y.2)]] W fun e w' => e = .returned (.int .i64 (cmpLab x y)) ∧ Below W.heap.size W w' := fun W => compare1_any W x y
        generalize cmpLab x y = r at q1 HAt HEq
        have Q1 := hide q1
        clear q1
        by_cases hr : r = 0
        · subst hr
          go_wp2_with fail
          refine (Q1.out _).mono ?_
          rintro e w2 ⟨rfl, hb2⟩
          go_wp2
          go_roundw
          case rel => exact ⟨k + 1, by omega, by omega, by go_num, ((hbw.alloc hbs _).alloc (by simp; omega) _).trans (hb2.mono (by simp; omega)), hide (fun j ha hb h => by
            by_cases e : j = k
            · subst e; rw [HX.out, HY.out]; exact HEq.out.2 (by trivial)
            · exact HD.out j ha hb (by omega))⟩
          case measure => simp [intOf]; omega
        · have hr' : (r != 0) = true := by simpa using hr
          have HR := hide hr
          clear hr
          go_wp2_with fail
          refine (Q1.out _).mono ?_
          rintro e w2 ⟨rfl, hb2⟩
          go_wp2
          go_ret
          exact ⟨ret_int (by rw [HAt.out (fun e => HR.out (HEq.out.1 e))]), ((hbw.alloc hbs _).alloc (by simp; omega) _).trans (hb2.mono (by simp; omega))⟩
      · have HS := hide (ordB_short (a := a) (b := b) (fun j ha hb => HD.out j ha hb (by omega)))
        obtain rfl : k = b.length := by omega
        obtain ⟨ab, aof, rfl, haB, a0, a1⟩ := acells b.length hlt
        have d0 := (hbw.cell (p := ⟨ab, aof + b.length * 2, none⟩) haB).trans a0
        have d1 := (hbw.cell (p := ⟨ab, aof + b.length * 2 + 1, none⟩) haB).trans a1
        clear a0 a1 acells bcells
        go_wp2
        go_ret
        exact ⟨ret_int (by rw [HS.out, if_neg (by omega), if_pos (by omega)]), hbw.alloc hbs _⟩
    · have HS := hide (ordB_short (a := a) (b := b) (fun j ha hb => HD.out j ha hb (by omega)))
      by_cases h1 : a.length < b.length
      · have h1' : (a.length : Int) < b.length := by omega
        go_wp2
        go_ret
        exact ⟨ret_int (by rw [HS.out, if_pos (by omega)]), hbw⟩
      · have h1' : ¬ (a.length : Int) < b.length := by omega
        go_wp2
        go_ret
        exact ⟨ret_int (by rw [HS.out, if_neg (by omega), if_neg (by omega)]), hbw⟩

theorem cmpErr_a {a b : List Lab} (h : checkB a ≠ 0) : cmpErr a b = checkB a := by unfold cmpErr; rw [if_neg h]
theorem cmpErr_b {a b : List Lab} (h : checkB a = 0) : cmpErr a b = checkB b := by unfold cmpErr; rw [if_pos h]

set_option maxRecDepth 20000 in
set_option maxHeartbeats 1000000 in
theorem checkLists_any (w : World) (g : Nat) (va vb : Value) (t : TypeId) (a b : List Lab) (hg : w.heap[g]? = some (.cells #[va, vb] t (0, 0))) (ha : readsLabels w w.heap.size va a) (hb : readsLabels w w.heap.size vb b) (hal : a.length ≤ 9223372036854775807) (hai : lensOk a) (hbl : b.length ≤ 9223372036854775807) (hbi : lensOk b) :
    Calls Tryz.prog 91 #[.slice (some ⟨g, 0, none⟩) 2 2] w fun e w' => e = .returned (.int .i64 (cmpErr a b)) ∧ Below w.heap.size w w' := by
  obtain ⟨c0, c1⟩ := two_cells hg
  have hgl := lt_of_block hg
  obtain ⟨ao, ac, hva⟩ := readsLabels_len ha
  obtain ⟨bo, bc, hvb⟩ := readsLabels_len hb
  have HA := hide ha
  have HB := hide hb
  have HAI := hide hai
  have HBI := hide hbi
  clear ha hb hai hbi hg
  subst hva hvb
  go_enter Tryz.func91, Tryz.ntmps91
  go_wp2
  refine wp_loop_rounds 3 ?_
  rw [rounds_succ]
  go_wp2_with fail
  refine (check_any w _ a HA.out hal HAI.out).mono ?_
  rintro e w1 ⟨rfl, hb1⟩
  have hs1 := hb1.size
  by_cases h0 : checkB a = 0
  · have H0 := hide h0
    have d1 := (hb1.cell (p := ⟨g, 1, none⟩) hgl).trans c1
    rw [h0]
    clear h0 c0 c1
    go_wp2
    rw [rounds_succ]
    go_wp2_with fail
    refine (check_any w1 _ b (readsLabels_mono (readsLabels_below HB.out hb1) hs1) hbl HBI.out).mono ?_
    rintro e w2 ⟨rfl, hb2⟩
    have hb02 : Below w.heap.size w w2 := hb1.trans (hb2.mono hs1)
    by_cases h1 : checkB b = 0
    · have H1 := hide h1
      rw [h1]
      clear h1
      go_wp2
      rw [rounds_succ]
      go_wp2
      go_ret
      exact ⟨ret_int (by rw [cmpErr_b H0.out, H1.out]; rfl), hb02⟩
    · have H1 := hide h1
      have hne : ((checkB b : Int) != 0) = true := by simpa using h1
      clear h1
      go_wp2
      go_ret
      exact ⟨ret_int (by rw [cmpErr_b H0.out]), hb02⟩
  · have H0 := hide h0
    have hne : ((checkB a : Int) != 0) = true := by simpa using h0
    clear h0
    go_wp2
    go_ret
    exact ⟨ret_int (by rw [cmpErr_a H0.out]), hb1⟩

theorem cmpErr_zero {a b : List Lab} : cmpErr a b = 0 ↔ checkB a = 0 ∧ checkB b = 0 := by
  unfold cmpErr
  by_cases h : checkB a = 0
  · rw [if_pos h]; simp [h]
  · rw [if_neg h]; simp [h]
theorem cmpAns_ok {a b : List Lab} (h : cmpErr a b = 0) : cmpAns a b = ordB a b := by unfold cmpAns; rw [if_pos h]
theorem cmpAns_no {a b : List Lab} (h : cmpErr a b ≠ 0) : cmpAns a b = 0 := by unfold cmpAns; rw [if_neg h]

set_option maxRecDepth 20000 in
set_option maxHeartbeats 1000000 in
theorem compare_any (w : World) (va vb : Value) (a b : List Lab) (ha : readsLabels w w.heap.size va a) (hal : a.length ≤ 9223372036854775807) (hai : lensOk a) (hb : readsLabels w w.heap.size vb b) (hbl : b.length ≤ 9223372036854775807) (hbi : lensOk b) :
    Calls Tryz.prog 68 #[va, vb] w fun e w' => e = .returned (.tuple #[.int .i64 (cmpAns a b), .int .i64 (cmpErr a b)]) ∧ Below w.heap.size w w' := by
  obtain ⟨ao, ac, hva⟩ := readsLabels_len ha
  obtain ⟨bo, bc, hvb⟩ := readsLabels_len hb
  have HA := hide ha
  have HB := hide hb
  have HAI := hide hai
  have HBI := hide hbi
  clear ha hb hai hbi
  subst hva hvb
  obtain ⟨w1, HW⟩ : ∃ w1, Hid (w.alloc (.cells #[.slice ao a.length ac, .slice bo b.length bc] 34) = w1) := ⟨_, hide rfl⟩
  have hb1 : Below w.heap.size w w1 := by rw [← HW.out]; exact (Below.refl _ _).alloc (Nat.le_refl _) _
  have hg : w1.heap[w.heap.size]? = some (.cells #[.slice ao a.length ac, .slice bo b.length bc] 34 (0, 0)) := by rw [← HW.out]; exact heap_alloc_new w _
  have HG := hide hg
  have hs1 := hb1.size
  have HB1 := hide hb1
  clear hg hb1
  go_enter Tryz.func68, Tryz.ntmps68
  go_wp2_with fail
  rw [HW.out]
  refine (checkLists_any w1 w.heap.size _ _ _ a b HG.out (readsLabels_mono (readsLabels_below HA.out HB1.out) hs1) (readsLabels_mono (readsLabels_below HB.out HB1.out) hs1) hal HAI.out hbl HBI.out).mono ?_
  rintro e w2 ⟨rfl, hb2⟩
  have hb02 : Below w.heap.size w w2 := HB1.out.trans (hb2.mono hs1)
  by_cases h0 : cmpErr a b = 0
  · obtain ⟨hca, hcb⟩ := cmpErr_zero.1 h0
    have h20a := (eachErr_names (checkB_zero.1 hca).1).1
    have h20b := (eachErr_names (checkB_zero.1 hcb).1).1
    have H0 := hide h0
    rw [h0]
    clear h0 hca hcb
    go_wp2_with fail
    refine (compareFunc_any w2 _ _ a b (readsLabels_mono (readsLabels_below HA.out hb02) hb02.size) (readsLabels_mono (readsLabels_below HB.out hb02) hb02.size) h20a h20b).mono ?_
    rintro e w3 ⟨rfl, hb3⟩
    go_wp2
    go_ret2
    exact ⟨ret2 (vint (by rw [cmpAns_ok H0.out])) (vint (by rw [H0.out]; rfl)), hb02.trans (hb3.mono hb02.size)⟩
  · have H0 := hide h0
    have hne : ((cmpErr a b : Int) != 0) = true := by simpa using h0
    clear h0
    go_wp2
    go_ret2
    exact ⟨ret2 (vint (by rw [cmpAns_no H0.out])) rfl, hb02⟩

end Go.Proofs.YtdlmgkncneifaaaGreat.Lb
