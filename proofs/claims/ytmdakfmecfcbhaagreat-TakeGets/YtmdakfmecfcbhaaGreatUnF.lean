/- The unpacker's elements, one behind the other; what gives up is caught. -/
import Derived.Test.YtmdakfmecfcbhaaGreatProg
import Derived.Test.YtmdakfmecfcbhaaGreatKit
import Derived.Test.YtmdakfmecfcbhaaGreatSpec
import Derived.Test.YtmdakfmecfcbhaaGreatSpec2
import Derived.Test.YtmdakfmecfcbhaaGreatReg
import Derived.Test.YtmdakfmecfcbhaaGreatWWri
import Derived.Test.YtmdakfmecfcbhaaGreatWTop
import Derived.Test.YtmdakfmecfcbhaaGreatUnA
import Derived.Test.YtmdakfmecfcbhaaGreatRowK
import Derived.Test.YtmdakfmecfcbhaaGreatUnE
set_option linter.unusedVariables false
set_option linter.unusedSimpArgs false
namespace Go.Proofs.YtmdakfmecfcbhaaGreat
open Go.RowKit
attribute [local go_sem] bs_size bs_toList bs_append bs_get bs_extract

theorem plainB_some {told n : Nat} {r made r' m' : List UInt8} (h : plainB told n r made = some (r', m')) : r'.length ≤ r.length ∧ m'.length ≤ told := by
  unfold plainB at h
  split at h
  · rename_i hc
    simp at h
    obtain ⟨rfl, rfl⟩ := h
    simp; omega
  · simp at h
theorem againB_some {told n back : Nat} {r made r' m' : List UInt8} (h : againB told n back r made = some (r', m')) : r'.length ≤ r.length ∧ m'.length ≤ told := by
  unfold againB at h
  split at h
  · rename_i hc
    simp at h
    obtain ⟨rfl, rfl⟩ := h
    rw [copyB_length]; omega
  · simp at h
theorem elemB_some {told : Nat} {r made r' m' : List UInt8} (h : elemB told r made = some (r', m')) : r'.length < r.length ∧ m'.length ≤ told := by
  unfold elemB at h
  split at h
  · simp at h
  · rename_i hd r1 h1
    have c1 := (cutLow_some h1).2.2.2.2
    split at h
    · split at h
      · split at h
        · simp at h
        · rename_i m r2 h2
          have c2 := (cutLow_some h2).2.2.2.2
          have := plainB_some h
          omega
      · have := plainB_some h
        omega
    · split at h
      · split at h
        · simp at h
        · rename_i m r2 h2
          have c2 := (cutLow_some h2).2.2.2.2
          have := againB_some h
          omega
      · split at h
        · split at h
          · simp at h
          · rename_i m r2 h2
            have c2 := (cutLow_some h2).2.2.2.2
            have := againB_some h
            omega
        · split at h
          · simp at h
          · rename_i m r2 h2
            have c2 := (cutLow_some h2).2.2.2.2
            have := againB_some h
            omega

/-- All elements of a text, behind what is made. -/
def unpF (told : Nat) : Nat → List UInt8 → List UInt8 → Option (List UInt8)
  | 0, r, made => if made.length < told then none else some made
  | k + 1, r, made =>
    if r = [] then (if made.length < told then none else some made)
    else
      match elemB told r made with
      | none => none
      | some (r', m') => unpF told k r' m'
def unpB (told : Nat) (r made : List UInt8) : Option (List UInt8) := unpF told r.length r made
theorem unpF_any (told : Nat) : ∀ (k k' : Nat) (r made : List UInt8), r.length ≤ k → r.length ≤ k' → unpF told k r made = unpF told k' r made := by
  intro k
  induction k with
  | zero =>
    intro k' r made h h'
    have : r = [] := List.eq_nil_of_length_eq_zero (by omega)
    subst this
    cases k' <;> rfl
  | succ k ih =>
    intro k' r made h h'
    cases k' with
    | zero =>
      have : r = [] := List.eq_nil_of_length_eq_zero (by omega)
      subst this
      rfl
    | succ k' =>
      simp only [unpF]
      split
      · rfl
      · split
        · rfl
        · rename_i r' m' he
          have := (elemB_some he).1
          exact ih k' r' m' (by omega) (by omega)
theorem unpB_nil (told : Nat) (made : List UInt8) : unpB told [] made = if made.length < told then none else some made := rfl
theorem unpB_none {told : Nat} {r made : List UInt8} (h0 : r ≠ []) (h : elemB told r made = none) : unpB told r made = none := by
  cases r with
  | nil => exact absurd rfl h0
  | cons c r => simp [unpB, unpF, h]
theorem unpB_some {told : Nat} {r made r' m' : List UInt8} (h0 : r ≠ []) (h : elemB told r made = some (r', m')) : unpB told r made = unpB told r' m' := by
  have hl := (elemB_some h).1
  cases r with
  | nil => exact absurd rfl h0
  | cons c r =>
    simp only [List.length_cons] at hl
    simp only [unpB, List.length_cons, unpF, List.cons_ne_nil, if_false, h]
    exact unpF_any told _ _ _ _ (by omega) (Nat.le_refl _)
theorem unpB_full {told : Nat} : ∀ (k : Nat) {r made m : List UInt8}, made.length ≤ told → unpF told k r made = some m → m.length = told
  | 0, r, made, m, hm, h => by
    unfold unpF at h
    split at h
    · cases h
    · cases h; omega
  | k + 1, r, made, m, hm, h => by
    unfold unpF at h
    split at h
    · split at h
      · cases h
      · cases h; omega
    · split at h
      · cases h
      · rename_i r' m' he
        exact unpB_full k (elemB_some he).2 h

/-- How much is left. -/
def restLen (w : World) (ub : Nat) : Nat := match w.heap[ub]? with | some (.cells c _ _) => strLen (c.getD 0 undef) | _ => 0

set_option maxRecDepth 20000 in
set_option maxHeartbeats 1000000 in
theorem uncatch_panicking (p : Addr) (x err : Int) (older : List PanicEntry) (w : World) (hc : w.cell? p = some (.int .i64 x)) (hz : w.frozen? p = false) :
    CallsD Tryz.prog 88 #[.pointer (some p)] (.panicking ({ v := .iface 24 (.int .i64 err), recovered := false } :: older)) w fun e u' w' =>
      e = .returned (.tuple #[]) ∧ u' = .panicking ({ v := .iface 24 (.int .i64 err), recovered := true } :: older) ∧ w' = w.setCell p (.int .i64 err) := by
  refine callsD_of_wpS Tryz.func88 rfl fun c₀ cs hu => ?_
  simp only [Tryz.ntmps88, List.size_toArray, List.length_cons, List.length_nil, Nat.reduceAdd, Nat.reduceSub, Array.replicate_succ,
     Array.replicate_zero, List.push_toArray, List.append_toArray, List.nil_append, List.cons_append]
  apply wpS_seq
  apply wpS_region
  simp [wpOpsS, go_sem, recoverD, hu, Exit.thenS]
  apply wpS_seq
  apply wpS_region
  simp [wpOpsS, go_sem, Exit.thenS]
  refine wpS_cond (t := true) (by simp [Act.eval, Array.replicate]) ?_
  simp only [if_true]
  refine wpS_of_wp ?_
  have has := assert_yes
  have hnot : ∀ (x : Bool) (w : World), (Op.unary .not (.bool x)).run Tryz.prog w = .ok (.bool (!x)) w := fun _ _ => rfl
  go_wp2
  cases c₀
  simp_all [bodyPostS, results, Tryz.results88]

set_option maxRecDepth 20000 in
set_option maxHeartbeats 1000000 in
theorem uncatch_idle (p : Addr) (w : World) :
    CallsD Tryz.prog 88 #[.pointer (some p)] .returning w fun e u' w' => e = .returned (.tuple #[]) ∧ u' = .returning ∧ w' = w := by
  refine callsD_of_wpS Tryz.func88 rfl fun c₀ cs hu => ?_
  simp only [Tryz.ntmps88, List.size_toArray, List.length_cons, List.length_nil, Nat.reduceAdd, Nat.reduceSub, Array.replicate_succ,
     Array.replicate_zero, List.push_toArray, List.append_toArray, List.nil_append, List.cons_append]
  apply wpS_seq
  apply wpS_region
  simp [wpOpsS, go_sem, recoverD, hu, Exit.thenS]
  apply wpS_seq
  apply wpS_region
  simp [wpOpsS, go_sem, Exit.thenS]
  refine wpS_cond (t := false) (by simp [Act.eval, Array.replicate]) ?_
  simp only [Bool.false_eq_true, if_false]
  refine wpS_of_wp (wp_skip ?_)
  cases c₀
  simp_all [bodyPostS, results, Tryz.results88]

theorem keepDraw {B ub n : Nat} {w w' : World} (h : KeptX B ub w w') : KeptX B ub w (w'.drewN n) := ⟨h.os, h.tape, h.output, h.size, h.block⟩
theorem keepSet {w w' : World} {ub n : Nat} {u : Value} (h : KeptX w.heap.size ub w w') : KeptX w.heap.size ub w (w'.setCell ⟨w.heap.size, n, none⟩ u) :=
  ⟨h.os, h.tape, h.output, by simpa [World.setCell] using h.size, fun k hk hn => (Below.heap_setCell _ _ _ _ (by show k ≠ w.heap.size; omega)).trans (h.block k hk hn)⟩

set_option maxRecDepth 20000 in
set_option maxHeartbeats 2000000 in
theorem unpAll_any (w : World) (ub told : Nat) (r : List UInt8) (hub : w.heap[ub]? = some (.cells #[.string (bs r), .int .i64 told, .slice none 0 0] 92 (0, 0))) (hr : r.length ≤ 140737488355328) (ht : told ≤ 1000000) :
    Calls Tryz.prog 62 #[.pointer (some ⟨ub, 0, none⟩)] w fun e w' => KeptX w.heap.size ub w w' ∧
      ((∃ m v, unpB told r [] = some m ∧ e = .returned (.int .i64 0) ∧ (∃ s, w'.heap[ub]? = some (.cells #[.string s, .int .i64 told, v] 92 (0, 0))) ∧ w'.ownsRow w.heap.size 5 1 v m.length (bytesV m)) ∨ (unpB told r [] = none ∧ e = .returned (.int .i64 1))) := by
  have hlt := lt_of_block hub
  have hmf : ∀ (fn : Fn) (first cap : Array Value) (w : World), (Instr.makeFunc fn first cap).run Tryz.prog w = .ok (.func fn first cap) w := fun _ _ _ _ => rfl
  obtain ⟨W, HW⟩ : ∃ W, Hid (W = w.alloc (.cells #[.int .i64 0] 24)) := ⟨_, hide rfl⟩
  have gW : Grow w W := by rw [HW.out]; exact (Grow.refl _).alloc _
  have hWe : W.heap[w.heap.size]? = some (.cells #[.int .i64 0] 24 (0, 0)) := by rw [HW.out]; exact heap_alloc_new _ _
  have hWs : W.heap.size = w.heap.size + 1 := by rw [HW.out]; simp
  have hWu := gW.get hub
  go_enter_defers Tryz.func62, Tryz.ntmps62
  go_wp2
  rw [← HW.out]
  go_loopw [] (fun wr => ∃ r1 made, unpAt wr (w.heap.size + 1) ub r1 told made ∧ KeptX (w.heap.size + 1) ub W wr ∧ r1.length ≤ r.length ∧ made.length ≤ told ∧ Hid (unpB told r [] = unpB told r1 made)) (fun wr => restLen wr ub)
  case atStart => exact ⟨r, [], ⟨by omega, _, hWu, World.ownsRow_nil _ _ _ _⟩, KeptX.refl _ _ _, Nat.le_refl _, by simp, hide rfl⟩
  case round =>
    obtain ⟨r1, made, hu, hk, hl1, hm, HE⟩ := hrel
    rename World => wr
    have hwe := hk.get hWe (by omega) (by omega)
    have hkw : KeptX w.heap.size ub w wr := ⟨hk.os.trans gW.os, hk.tape.trans gW.tape, hk.output.trans gW.output, Nat.le_trans gW.size hk.size, fun k hk1 hk2 => (hk.block k (by omega) hk2).trans (gW.block k hk1)⟩
    obtain ⟨hB, v, hb, ho⟩ := id hu
    obtain ⟨ao, cp, rfl⟩ := own_shape ho
    obtain ⟨c0, c1, c2, z0, z1, z2⟩ := three_cells hb
    by_cases h0 : r1 = []
    · subst h0
      by_cases hlt2 : made.length < told
      · have hlt3 : (made.length : Int) < told := by omega
        go_wp2
        go_quiet (fail)
        go_wp2
        have hn : unpB told r [] = none := by rw [HE.out, unpB_nil, if_pos hlt2]
        refine leaves_cons (f := 88) (args := #[.pointer (some ⟨w.heap.size, 0, none⟩)]) (by simp) (by simp [go_sem]) ?_
        refine (uncatch_panicking ⟨w.heap.size, 0, none⟩ 0 1 [] (wr.drewN nq) (cell_of_one (show (wr.drewN nq).heap[w.heap.size]? = _ from hwe)) (free_of_one (show (wr.drewN nq).heap[w.heap.size]? = _ from hwe))).mono ?_
        rintro e u' w'' ⟨rfl, rfl, rfl⟩
        have hc2 := cell_of_one (one_setCell (u := .int .i64 1) (show (wr.drewN nq).heap[w.heap.size]? = _ from hwe))
        simp [Leaves, settle, results, Tryz.results62, go_sem, hc2]
        exact ⟨keepSet (keepDraw hkw), hn⟩
      · have hlt3 : ¬ (made.length : Int) < told := by omega
        have e0 := cell_of_one hwe
        have ez := free_of_one hwe
        go_wp2
        go_quiet (fail)
        go_wp2
        have hn : unpB told r [] = some made := by rw [HE.out, unpB_nil, if_neg hlt2]
        refine leaves_cons (f := 88) (args := #[.pointer (some ⟨w.heap.size, 0, none⟩)]) (by simp) (by simp [go_sem]) ?_
        refine (uncatch_idle ⟨w.heap.size, 0, none⟩ _).mono ?_
        rintro e u' w'' ⟨rfl, rfl, rfl⟩
        have hc2 := cell_of_one (one_setCell (u := .int .i64 0) (show (wr.drewN nq).heap[w.heap.size]? = _ from hwe))
        simp [Leaves, settle, results, Tryz.results62, go_sem, hc2]
        have ho2 : (wr.drewN nq).ownsRow w.heap.size 5 1 (.slice ao made.length cp) made.length (bytesV made) := own_le ho (by omega)
        refine ⟨keepSet (keepDraw hkw), made, hn, .slice ao made.length cp, ⟨bs [], ?_⟩, ownsRow_setCell_other (a := ⟨w.heap.size, 0, none⟩) ho2 (own_apart ho2 (show (wr.drewN nq).heap[w.heap.size]? = _ from hwe) (by decide)) _⟩
        rw [Below.heap_setCell _ _ _ _ (by show ub ≠ w.heap.size; omega)]
        exact hb
    · have hpos : 0 < r1.length := List.length_pos_iff.2 h0
      have hpos2 : (0 : Int) < r1.length := by omega
      have H0 := hide h0
      clear h0
      go_wp2_with fail
      refine (element_any wr (w.heap.size + 1) ub told r1 made (by omega) hu (by omega) (by omega) ht).mono ?_
      rintro e w3 ⟨hk3, (⟨r', m', h1, rfl, h3⟩ | ⟨h1, rfl⟩)⟩
      · have H1 := hide h1
        have hs := elemB_some h1
        have H3 := hide h3
        clear h1 h3
        go_wp2
        go_roundw
        case rel => exact ⟨r', m', H3.out, hk.trans hk3, by omega, by omega, by show _ = _; rw [HE.out, unpB_some H0.out H1.out]⟩
        case measure =>
          obtain ⟨_, v3, hb3, _⟩ := H3.out
          simp only [restLen, hb, hb3]
          simp [strLen, bs_size]
          omega
      · have hn : unpB told r [] = none := by rw [HE.out, unpB_none H0.out h1]
        have hwe3 := hk3.get hwe (by omega) (by omega)
        have hkw3 : KeptX w.heap.size ub w w3 := ⟨hk3.os.trans hkw.os, hk3.tape.trans hkw.tape, hk3.output.trans hkw.output, Nat.le_trans hkw.size hk3.size, fun k h1 h2 => (hk3.block k (by omega) h2).trans (hkw.block k h1 h2)⟩
        refine leaves_cons (f := 88) (args := #[.pointer (some ⟨w.heap.size, 0, none⟩)]) (by simp) (by simp [go_sem]) ?_
        refine (uncatch_panicking ⟨w.heap.size, 0, none⟩ 0 1 [] w3 (cell_of_one hwe3) (free_of_one hwe3)).mono ?_
        rintro e u' w'' ⟨rfl, rfl, rfl⟩
        have hc2 := cell_of_one (one_setCell (u := .int .i64 1) hwe3)
        simp [Leaves, settle, results, Tryz.results62, go_sem, hc2]
        exact ⟨keepSet hkw3, hn⟩

end Go.Proofs.YtmdakfmecfcbhaaGreat
