/- line: Each. -/
import Derived.Laws.OwnMore
import Derived.Test.YtdlmgkncneifaaaGreatProg
import Derived.Test.YtdlmgkncneifaaaGreatKit
import Derived.Test.YtdlmgkncneifaaaGreatReg
import Derived.Test.YtdlmgkncneifaaaGreatLSpec
import Derived.Test.YtdlmgkncneifaaaGreatLRow
import Derived.Test.YtdlmgkncneifaaaGreatLnA
import Derived.Test.YtdlmgkncneifaaaGreatLnB
import Derived.Test.YtdlmgkncneifaaaGreatLnD
import Derived.Test.YtdlmgkncneifaaaGreatShelf
import Derived.BigQuiet
set_option linter.unusedVariables false
set_option linter.unusedSimpArgs false
namespace Go.Proofs.YtdlmgkncneifaaaGreat.Ln
open Go.RowKit Lb
attribute [local go_sem] bs_size bs_toList bs_append bs_get bs_extract

theorem assert_fault (v : Value) (w : World) : (Instr.typeAssert (.iface 25 v) 20 25 true).run Tryz.prog w = .ok (.tuple #[v, .bool true]) w := by kernel_rfl
theorem infoF : (Tryz.prog.info? 25).map (·.size) = some 2 := by kernel_rfl

set_option maxRecDepth 20000 in
set_option maxHeartbeats 1000000 in
theorem catchF_panicking (z : Nat) (x y : Int) (older : List PanicEntry) (w : World) (a b : Value) (hz : w.heap[z]? = some (.cells #[a, b] 25 (0, 0))) :
    CallsD Tryz.prog 35 #[.pointer (some ⟨z, 0, none⟩)] (.panicking ({ v := .iface 25 (.agg #[.int .i64 x, .int .i64 y]), recovered := false } :: older)) w fun e u' w' =>
      e = .returned (.tuple #[]) ∧ u' = .panicking ({ v := .iface 25 (.agg #[.int .i64 x, .int .i64 y]), recovered := true } :: older) ∧ w' = ((w.setCell ⟨z, 0, none⟩ (.int .i64 x)).setCell ⟨z, 1, none⟩ (.int .i64 y)).alloc (.cells #[.int .i64 x, .int .i64 y] 25) := by
  refine callsD_of_wpS Tryz.func35 rfl fun c₀ cs hu => ?_
  simp only [Tryz.ntmps35, List.size_toArray, List.length_cons, List.length_nil, Nat.reduceAdd, Nat.reduceSub, Array.replicate_succ,
     Array.replicate_zero, List.push_toArray, List.append_toArray, List.nil_append, List.cons_append]
  apply wpS_seq
  apply wpS_region
  simp [wpOpsS, go_sem, recoverD, hu, Exit.thenS]
  apply wpS_seq
  apply wpS_region
  simp [wpOpsS, go_sem, Exit.thenS]
  refine wpS_cond (t := true) (by simp [Act.eval, Array.replicate]) ?_
  simp only [if_true]
  refine wpS_of_wp ?_
  have has := assert_fault
  have hnot : ∀ (x : Bool) (w : World), (Op.unary .not (.bool x)).run Tryz.prog w = .ok (.bool (!x)) w := fun _ _ => rfl
  obtain ⟨c0, c1, z0, z1⟩ := two_free hz
  have hlz := lt_of_block hz
  go_wp2
  cases c₀
  simp_all [bodyPostS, results, Tryz.results35]
set_option maxRecDepth 20000 in
set_option maxHeartbeats 1000000 in
theorem catchF_idle (p : Addr) (w : World) :
    CallsD Tryz.prog 35 #[.pointer (some p)] .returning w fun e u' w' => e = .returned (.tuple #[]) ∧ u' = .returning ∧ w' = w := by
  refine callsD_of_wpS Tryz.func35 rfl fun c₀ cs hu => ?_
  simp only [Tryz.ntmps35, List.size_toArray, List.length_cons, List.length_nil, Nat.reduceAdd, Nat.reduceSub, Array.replicate_succ,
     Array.replicate_zero, List.push_toArray, List.append_toArray, List.nil_append, List.cons_append]
  apply wpS_seq
  apply wpS_region
  simp [wpOpsS, go_sem, recoverD, hu, Exit.thenS]
  apply wpS_seq
  apply wpS_region
  simp [wpOpsS, go_sem, Exit.thenS]
  refine wpS_cond (t := false) (by simp [Act.eval, Array.replicate]) ?_
  simp only [Bool.false_eq_true, if_false]
  refine wpS_of_wp (wp_skip ?_)
  cases c₀
  simp_all [bodyPostS, results, Tryz.results35]

/-- Where a line that begins at f ends. -/
def lineEnd (s : List UInt8) (f : Nat) : Nat := if 0 ≤ Lib.indexByte (s.drop f) 10 then f + (Lib.indexByte (s.drop f) 10).toNat else s.length
theorem indexByte_le {l : List UInt8} {c : UInt8} (h : 0 ≤ Lib.indexByte l c) : (Lib.indexByte l c).toNat < l.length := by
  induction l with
  | nil => simp [Lib.indexByte] at h
  | cons x l ih =>
    unfold Lib.indexByte at h ⊢
    split
    · simp
    · rename_i hx
      rw [if_neg hx] at h
      split
      · rename_i h1; rw [if_pos h1] at h; simp at h
      · rename_i h1
        have hge := Lib.indexByte_ge l c
        have h1' : Lib.indexByte l c ≠ -1 := by simpa using h1
        have := ih (by omega)
        rw [List.length_cons]
        omega
theorem lineEnd_le {s : List UInt8} {f : Nat} (h : f ≤ s.length) : f ≤ lineEnd s f ∧ lineEnd s f ≤ s.length := by
  unfold lineEnd
  split
  · rename_i h0
    have := indexByte_le h0
    rw [List.length_drop] at this
    omega
  · exact ⟨h, Nat.le_refl _⟩
def linesG {σ : Type} (step : List UInt8 → Nat → σ → Except (Nat × Nat) σ) (s : List UInt8) : Nat → Nat → σ → Except (Nat × Nat) σ
  | 0, _, st => .ok st
  | n + 1, f, st => if f < s.length then match step (s.take (lineEnd s f)) f st with
      | .error x => .error x
      | .ok st' => linesG step s n (lineEnd s f + 1) st'
    else .ok st
/-- What the lines of a text come to, one by one. -/
def eachF {σ : Type} (step : List UInt8 → Nat → σ → Except (Nat × Nat) σ) (s : List UInt8) (st : σ) : Except (Nat × Nat) σ := if 20000 < s.length then .error (2, 0) else linesG step s (s.length + 1) 0 st
/-- What a line's function comes to. -/
def lineTurn {σ : Type} (I : σ → World → Prop) (F : World → Prop) (o : Except (Nat × Nat) σ) (e : Ending) (w' : World) : Prop := match o with
  | .ok st => e = .returned (.tuple #[]) ∧ I st w'
  | .error x => e = gaveF x.1 x.2 ∧ F w'
/-- What Each comes to. -/
def eachTurn {σ : Type} (I : σ → World → Prop) (F : World → Prop) (o : Except (Nat × Nat) σ) (e : Ending) (w' : World) : Prop := match o with
  | .ok st => e = .returned (.agg #[.int .i64 0, .int .i64 0]) ∧ I st w'
  | .error x => e = .returned (.agg #[.int .i64 x.1, .int .i64 x.2]) ∧ F w'
theorem zero_set {w : World} {z : Nat} {a b : Value} {t : TypeId} (h : w.heap[z]? = some (.cells #[a, b] t (0, 0))) (x y : Value) : ((w.setCell ⟨z, 0, none⟩ x).setCell ⟨z, 1, none⟩ y).heap[z]? = some (.cells #[x, y] t (0, 0)) := by simp [World.setCell, Array.getElem?_modify, h]
set_option maxRecDepth 20000 in
set_option maxHeartbeats 1200000 in
theorem each_any {σ : Type} (w : World) (s : List UInt8) (g : Nat) (cap : Array Value) (I : σ → World → Prop) (F : World → Prop) (step : List UInt8 → Nat → σ → Except (Nat × Nat) σ) (st : σ)
    (hcf : ∀ (args : Array Value) (w : World), (callFunc g args).run Tryz.prog w = .ok (.enter g args) w)
    (hlen : s.length ≤ 9223372036854775807) (hI : I st w)
    (hIA : ∀ st W o, w.heap.size ≤ W.heap.size → I st W → I st (W.alloc o)) (hIS : ∀ st W i u, I st W → I st (W.setCell ⟨w.heap.size, i, none⟩ u))
    (hFA : ∀ W o, w.heap.size ≤ W.heap.size → F W → F (W.alloc o)) (hFS : ∀ W i u, F W → F (W.setCell ⟨w.heap.size, i, none⟩ u)) (hIF : ∀ st W, I st W → F W)
    (hstep : ∀ st W b t f, w.heap.size < b → I st W → f ≤ t.length → InL W b t f (t.drop f) → w.heap.size < W.heap.size → Calls Tryz.prog g (#[.pointer (some ⟨b, 0, none⟩)] ++ cap) W (fun e W' => W.heap.size ≤ W'.heap.size ∧ W'.heap[w.heap.size]? = W.heap[w.heap.size]? ∧ lineTurn I F (step t f st) e W')) :
    Calls Tryz.prog 14 #[.string (bs s), .func (.func g) #[] cap] w (eachTurn I F (eachF step s st)) := by
  obtain ⟨O, HO⟩ : ∃ O, Hid (eachF step s st = O) := ⟨_, hide rfl⟩
  rw [HO.out]
  have hO := HO.out
  unfold eachF at hO
  have HI0 := hide hI
  have HIA := hide hIA
  have HIS := hide hIS
  have HFA := hide hFA
  have HFS := hide hFS
  have HIF := hide hIF
  have HST := hide hstep
  obtain ⟨V, HV⟩ : ∃ V, Hid (w.alloc (.cells #[.int .i64 0, .int .i64 0] 25) = V) := ⟨_, hide rfl⟩
  have HZ0 : Hid (V.heap[w.heap.size]? = some (.cells #[.int .i64 0, .int .i64 0] 25 (0, 0))) := hide (by rw [← HV.out]; exact heap_alloc_new _ _)
  have HIV : Hid (I st V) := hide (by rw [← HV.out]; exact hIA st w _ (Nat.le_refl _) hI)
  have hmf : ∀ (fn : Fn) (first cap : Array Value) (w : World), (Instr.makeFunc fn first cap).run Tryz.prog w = .ok (.func fn first cap) w := fun _ _ _ _ => rfl
  clear hI hIA hIS hFA hFS hIF hstep
  by_cases hl : 20000 < s.length
  · rw [if_pos hl] at hO
    subst hO
    have hli : (20000 : Int) < (s.length : Int) := by omega
    clear hl
    go_enter_defers Tryz.func14, Tryz.ntmps14
    go_wp2_with fail
    rw [HV.out]
    refine (giveF_any _ _ V).mono ?_
    rintro e w1 ⟨rfl, hw1⟩
    subst hw1
    refine leaves_cons (f := 35) (args := #[.pointer (some ⟨w.heap.size, 0, none⟩)]) (by simp) (by simp [go_sem]) ?_
    refine (catchF_panicking w.heap.size 2 0 [] w1 _ _ HZ0.out).mono ?_
    rintro e u' w'' ⟨rfl, rfl, rfl⟩
    simp [Leaves, settle, go_sem]
    exact ⟨_, results_cell_row (p := 4) (ty := 25) rfl _ _ w.heap.size _ _ _ _ rfl ((Grow.alloc (Grow.refl _) _).get (zero_set HZ0.out _ _)) Tryz.underlying25 rfl infoF, rfl, HFA.out _ _ (by rw [← HV.out]; simp [World.setCell]) (HFS.out _ _ _ (HFS.out _ _ _ (HIF.out _ _ HIV.out)))⟩
  · rw [if_neg hl] at hO
    have hli : ¬ (20000 : Int) < (s.length : Int) := by omega
    have HO1 := hide hO
    clear hO
    go_enter_defers Tryz.func14, Tryz.ntmps14
    go_wp2
    rw [HV.out]
    go_loopw [5] (fun fv wr => ∃ (f n : Nat) (st' : σ), fv = .int .i64 f ∧ s.length < f + n ∧ f ≤ s.length + 1 ∧ Hid (linesG step s n f st' = O) ∧ Hid (I st' wr) ∧ Hid (wr.heap[w.heap.size]? = some (.cells #[.int .i64 0, .int .i64 0] 25 (0, 0)))) (fun fv _ => s.length + 1 - (intOf fv).toNat)
    case atStart => exact ⟨0, s.length + 1, st, rfl, by omega, by omega, HO1, HIV, HZ0⟩
    case round =>
      obtain ⟨f, n, st', rfl, hfn, hfl, HR, HI, HZ⟩ := hrel
      have hzl := lt_of_block HZ.out
      by_cases hlt : f < s.length
      · have hlti : (f : Int) < (s.length : Int) := by omega
        have hfi : (f : Int) ≤ (s.length : Int) := by omega
        obtain ⟨m, rfl⟩ : ∃ m, n = m + 1 := ⟨n - 1, by omega⟩
        have hr := HR.out
        rw [linesG, if_pos hlt] at hr
        obtain ⟨X, HX⟩ : ∃ X, Hid (Lib.indexByte (s.drop f) 10 = X) := ⟨_, hide rfl⟩
        have hge : -1 ≤ X := by rw [← HX.out]; exact Lib.indexByte_ge _ _
        have hixb : ∀ W, Calls Tryz.prog 36 #[.string (bs (s.drop f)), .int .u8 10] W fun e w' => e = .returned (.int .i64 X) ∧ w' = W := fun W => by
          have := Tryz.strings_IndexByte (bs (s.drop f)) 10 W
          rw [bs_data, show Int.toNat 10 = 10 from rfl] at this
          rw [← HX.out]
          exact this
        have HIX := hide hixb
        have hE := lineEnd_le (Nat.le_of_lt hlt)
        obtain ⟨E, HE⟩ : ∃ E, Hid (lineEnd s f = E) := ⟨_, hide rfl⟩
        have hEX : E = if 0 ≤ X then f + X.toNat else s.length := by rw [← HE.out, ← HX.out]; rfl
        rw [HE.out] at hr hE
        have htk : (s.drop f).take (s.length - f) = s.drop f := List.take_of_length_le (by rw [List.length_drop]; exact Nat.le_refl _)
        have hlE : (s.take E).length = E := by rw [List.length_take]; omega
        obtain ⟨V2, HV2⟩ : ∃ V2, Hid (wr.alloc (.cells #[.string (bs (s.take E)), .int .i64 (f : Int), .int .i64 (f : Int)] 74) = V2) := ⟨_, hide rfl⟩
        have hg2 : Grow wr V2 := by rw [← HV2.out]; exact (Grow.refl wr).alloc _
        have hin : InL V2 wr.heap.size (s.take E) f ((s.take E).drop f) := ⟨List.drop_suffix _ _, by omega, by omega, by
          have hp : pos (s.take E) ((s.take E).drop f) = f := by unfold pos; rw [List.length_drop, hlE]; omega
          rw [hp, ← HV2.out]; exact heap_alloc_new _ _⟩
        have HC := hide (HST.out st' V2 wr.heap.size (s.take E) f hzl (by rw [← HV2.out]; exact HIA.out _ _ _ (by omega) HI.out) (by omega) hin (by have := hg2.size; omega))
        have HZ2 : Hid (V2.heap[w.heap.size]? = some (.cells #[.int .i64 0, .int .i64 0] 25 (0, 0))) := hide (hg2.get HZ.out)
        have hEi : (E : Int) ≤ (s.length : Int) := by omega
        clear hin hg2 hixb hlE
        have hcond : 0 ≤ X ∨ X = -1 := by omega
        cases hst : step (s.take E) f st' with
        | error x =>
          rw [hst] at HC hr
          simp only at hr
          subst hr
          have HCC : Hid (Calls Tryz.prog g (#[.pointer (some ⟨wr.heap.size, 0, none⟩)] ++ cap) V2 fun e W' => V2.heap.size ≤ W'.heap.size ∧ W'.heap[w.heap.size]? = V2.heap[w.heap.size]? ∧ e = gaveF x.1 x.2 ∧ F W') := HC
          clear HC hst
          rcases hcond with h0 | h0
          · rw [if_pos h0] at hEX
            subst hEX
            obtain ⟨k, rfl⟩ : ∃ k : Nat, X = (k : Int) := ⟨X.toNat, by omega⟩
            simp only [Int.toNat_natCast] at *
            have hadd : (f : Int) + (k : Int) ≤ (s.length : Int) := by omega
            go_wp2_with fail
            refine (HIX.out _).mono ?_
            rintro e w3 ⟨rfl, rfl⟩
            go_wp2_with fail
            rw [HV2.out]
            refine HCC.out.mono ?_
            rintro e w4 ⟨hs4, hz4, rfl, hF4⟩
            have hz5 := hz4.trans HZ2.out
            refine leaves_cons (f := 35) (args := #[.pointer (some ⟨w.heap.size, 0, none⟩)]) (by simp) (by simp [go_sem]) ?_
            refine (catchF_panicking w.heap.size x.1 x.2 [] w4 _ _ hz5).mono ?_
            rintro e u' w'' ⟨rfl, rfl, rfl⟩
            simp [Leaves, settle, go_sem]
            exact ⟨_, results_cell_row (p := 4) (ty := 25) rfl _ _ w.heap.size _ _ _ _ rfl ((Grow.alloc (Grow.refl _) _).get (zero_set hz5 _ _)) Tryz.underlying25 rfl infoF, rfl, HFA.out _ _ (by have := lt_of_block hz5; simp [World.setCell]; omega) (HFS.out _ _ _ (HFS.out _ _ _ hF4))⟩
          · rw [if_neg (by omega)] at hEX
            subst hEX h0
            rw [List.take_length] at HV2
            go_wp2_with fail
            refine (HIX.out _).mono ?_
            rintro e w3 ⟨rfl, rfl⟩
            go_wp2_with fail
            rw [HV2.out]
            refine HCC.out.mono ?_
            rintro e w4 ⟨hs4, hz4, rfl, hF4⟩
            have hz5 := hz4.trans HZ2.out
            refine leaves_cons (f := 35) (args := #[.pointer (some ⟨w.heap.size, 0, none⟩)]) (by simp) (by simp [go_sem]) ?_
            refine (catchF_panicking w.heap.size x.1 x.2 [] w4 _ _ hz5).mono ?_
            rintro e u' w'' ⟨rfl, rfl, rfl⟩
            simp [Leaves, settle, go_sem]
            exact ⟨_, results_cell_row (p := 4) (ty := 25) rfl _ _ w.heap.size _ _ _ _ rfl ((Grow.alloc (Grow.refl _) _).get (zero_set hz5 _ _)) Tryz.underlying25 rfl infoF, rfl, HFA.out _ _ (by have := lt_of_block hz5; simp [World.setCell]; omega) (HFS.out _ _ _ (HFS.out _ _ _ hF4))⟩
        | ok st2 =>
          rw [hst] at HC hr
          simp only at hr
          have HR2 := hide hr
          have HCC : Hid (Calls Tryz.prog g (#[.pointer (some ⟨wr.heap.size, 0, none⟩)] ++ cap) V2 fun e W' => V2.heap.size ≤ W'.heap.size ∧ W'.heap[w.heap.size]? = V2.heap[w.heap.size]? ∧ e = .returned (.tuple #[]) ∧ I st2 W') := HC
          clear HC hst hr
          rcases hcond with h0 | h0
          · rw [if_pos h0] at hEX
            subst hEX
            obtain ⟨k, rfl⟩ : ∃ k : Nat, X = (k : Int) := ⟨X.toNat, by omega⟩
            simp only [Int.toNat_natCast] at *
            have hadd : (f : Int) + (k : Int) ≤ (s.length : Int) := by omega
            go_wp2_with fail
            refine (HIX.out _).mono ?_
            rintro e w3 ⟨rfl, rfl⟩
            go_wp2_with fail
            rw [HV2.out]
            refine HCC.out.mono ?_
            rintro e w4 ⟨hs4, hz4, rfl, hI4⟩
            have HZ5 := hide (hz4.trans HZ2.out)
            have HI4 := hide hI4
            clear hs4 hz4 hI4
            go_wp2
            go_roundw
            case rel => exact ⟨f + k + 1, m, st2, by go_num, by omega, by omega, HR2, HI4, HZ5⟩
            case measure => simp [intOf]; omega
          · rw [if_neg (by omega)] at hEX
            subst hEX h0
            rw [List.take_length] at HV2
            go_wp2_with fail
            refine (HIX.out _).mono ?_
            rintro e w3 ⟨rfl, rfl⟩
            go_wp2_with fail
            rw [HV2.out]
            refine HCC.out.mono ?_
            rintro e w4 ⟨hs4, hz4, rfl, hI4⟩
            have HZ5 := hide (hz4.trans HZ2.out)
            have HI4 := hide hI4
            clear hs4 hz4 hI4
            go_wp2
            go_roundw
            case rel => exact ⟨s.length + 1, m, st2, by go_num, by omega, by omega, HR2, HI4, HZ5⟩
            case measure => simp [intOf]; omega
      · have hnl : ¬ (f : Int) < (s.length : Int) := by omega
        have hr := HR.out
        have hO2 : O = .ok st' := by
          rw [← hr]
          cases n with
          | zero => rfl
          | succ n => rw [linesG, if_neg hlt]
        subst hO2
        obtain ⟨c0, c1, z0, z1⟩ := two_free HZ.out
        go_wp2
        refine leaves_cons (f := 35) (args := #[.pointer (some ⟨w.heap.size, 0, none⟩)]) (by simp) (by simp [go_sem]) ?_
        refine (catchF_idle ⟨w.heap.size, 0, none⟩ _).mono ?_
        rintro e u' w'' ⟨rfl, rfl, rfl⟩
        simp [Leaves, settle, go_sem]
        exact ⟨_, results_cell_row (p := 4) (ty := 25) rfl _ _ w.heap.size _ _ _ _ rfl (zero_set HZ.out _ _) Tryz.underlying25 rfl infoF, rfl, HIS.out _ _ _ _ (HIS.out _ _ _ _ HI.out)⟩
end Go.Proofs.YtdlmgkncneifaaaGreat.Ln
