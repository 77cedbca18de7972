/- 1 texts in one. -/
import Derived.Test.YtndpjdmfkhjiiaaGreatDoorProg
import Derived.Test.YtndpjdmfkhjiiaaGreatDoorK97fdc06
import Derived.Test.YtndpjdmfkhjiiaaGreatDoorKbff346a
import Derived.Test.YtndpjdmfkhjiiaaGreatDoorK395e834
import Derived.Test.YtndpjdmfkhjiiaaGreatDoorKac5e9b6
import Derived.Test.YtndpjdmfkhjiiaaGreatDoorKbd7ef7d
import Derived.Test.YtndpjdmfkhjiiaaGreatDoorKa2d19b0
import Derived.Test.YtndpjdmfkhjiiaaGreatDoorKbc2f978
import Derived.BigQuiet
set_option linter.unusedVariables false
set_option linter.unusedSimpArgs false
namespace Go.Proofs.YtndpjdmfkhjiiaaGreatDoor
open Go.RowKit
attribute [local go_sem] bs_size bs_toList bs_append bs_get bs_extract
/-- What a whole mask does. -/
def wholePost (F : Nat → Prop) (pb : Nat) (m : List UInt8) (y : Except (Nat × Nat) (Tr × Nat)) (w : World) (e : Ending) (w' : World) : Prop :=
  KeptX F pb w w' ∧ match y with
    | .error x => e = faulted x.1 x.2
    | .ok x => e = .returned (.tuple #[]) ∧ ∃ j, parserAt w' F pb m j (layC x.1) x.2
set_option maxRecDepth 20000 in
set_option maxHeartbeats 4000000 in
theorem whole_any {m : List UInt8} {f : Nat} (w : World) (F : Nat → Prop) (pb : Nat) (y : Except (Nat × Nat) (Tr × Nat)) (hp : parserAt w F pb m 0 [] 0) (hml : m.length ≤ 9223372036854775807) (hy : pMask m f = some y) :
    Calls Tryz.prog 100 #[.pointer (some ⟨pb, 0, none⟩)] w (wholePost F pb m y w) := by
  have HP := hide hp
  have HY := hide hy
  obtain ⟨_, _, ao, cp, hblk⟩ := hp.cells
  obtain ⟨c0, c1, c2, c3⟩ := four_cells hblk
  clear hp hy hblk c1 c2 c3
  go_enter Tryz.func100, Tryz.ntmps100
  by_cases h60 : 60 < m.length
  · have h60' : (60 : Int) < m.length := by omega
    have HE : Hid (y = .error (2, 0)) := by show _ = _; have h := HY.out; unfold pMask at h; rw [if_pos h60] at h; exact (Option.some.inj h).symm
    go_wp2_with fail
    refine (giveUp_any w F pb m 0 0 [] 2 HP.out).mono ?_
    rintro e w1 ⟨rfl, rfl⟩
    rw [HE.out]
    exact ⟨rfl, .refl _ _ _, rfl⟩
  · have h60' : ¬ (60 : Int) < m.length := by omega
    have HM : Hid (pMask m f = bindO (pM m f true 0 0) fun x => if x.2.1 < m.length then some (.error (1, x.2.1)) else some (.ok (x.1, x.2.2))) := by show _ = _; unfold pMask; rw [if_neg h60]
    have hm : m.length ≤ 60 := by omega
    clear h60
    go_wp2_with fail
    clear c0
    have h := HY.out
    rw [HM.out] at h
    rcases bindO_eq h with ⟨x, hx, e⟩ | ⟨x, hx, h⟩
    · subst e
      refine (rows_ok (by omega) f w F pb 0 0 [] (.error x) HP.out (by omega) (by omega) (by simp; omega) hx).mono ?_
      rintro e w1 ⟨hk, rfl⟩
      exact ⟨rfl, hk, rfl⟩
    · have HX := hide hx
      have hjo := (pM_ok hx (by omega)).2
      have hjs := pM_sz hx (by omega)
      refine (rows_ok (by omega) f w F pb 0 0 [] (.ok x) HP.out (by omega) (by omega) (by simp; omega) hx).mono ?_
      clear hx
      obtain ⟨T, j, g⟩ := x
      rintro e w1 ⟨hk, he⟩
      simp only at he h hjo hjs
      simp at hjs
      obtain ⟨rfl, hp1⟩ := he
      have HK := hide hk
      have HP1 : Hid (∀ n, parserAt (w1.drewN n) F pb m j (rowsSteps [] T) g) := hide fun n => hp1
      obtain ⟨_, _, ao1, cp1, hblk⟩ := hp1.cells
      obtain ⟨c0, c1, c2, c3⟩ := four_cells hblk
      clear hk hp1 hblk c2 c3
      by_cases hlt : j < m.length
      · rw [if_pos hlt] at h
        have HE : Hid (y = .error (1, j)) := (Option.some.inj h).symm
        have hlt2 : (j : Int) < m.length := by omega
        clear h
        go_wp2
        go_quiet (fail)
        go_wp2_with fail
        refine (giveUp_any _ F pb m j g _ 1 (HP1.out nq)).mono ?_
        rintro e w2 ⟨rfl, rfl⟩
        exact ⟨rfl, HK.out.drawN, by rw [HE.out]; rfl⟩
      · rw [if_neg hlt] at h
        have HE : Hid (y = .ok (T, g)) := (Option.some.inj h).symm
        have hlt2 : ¬ (j : Int) < m.length := by omega
        clear h
        go_wp2
        go_quiet (fail)
        go_wp2_with fail
        refine (add_any _ F pb m j g _ ⟨.fin, 0, 0, 0, 0, 0, .slice none 0 0⟩ (HP1.out nq) rfl (fun w => ⟨World.ownsRow_nil _ _ _ _, trivial⟩) (by rw [rowsSteps_length]; simp; omega)).mono ?_
        rintro e w2 ⟨rfl, hk2, hp2⟩
        have HP2 : Hid (parserAt w2 F pb m j (layC T) g) := by
          have e : layC T = rowsSteps [] T ++ [.fin] := by simp [layC, rowsSteps]
          rw [e]
          exact hide hp2
        have HK2 : Hid (KeptX F pb w w2) := hide (HK.out.trans ⟨hk2.os, hk2.tape, hk2.output, hk2.size, hk2.block⟩)
        clear hp2 hk2
        go_wp2
        go_end0
        rw [HE.out]
        exact ⟨HK2.out, rfl, j, HP2.out⟩
theorem cells_two {w : World} {b : Nat} {x y : Value} {t : TypeId} (h : w.heap[b]? = some (.cells #[x, y] t (0, 0))) : w.cell? ⟨b, 0, none⟩ = some x ∧ w.cell? ⟨b, 1, none⟩ = some y := by simp [World.cell?, h]
theorem assert_fault (v : Value) (w : World) : (Instr.typeAssert (.iface 65 v) 20 65 true).run Tryz.prog w = .ok (.tuple #[v, .bool true]) w := by kernel_rfl
set_option maxRecDepth 20000 in
set_option maxHeartbeats 1000000 in
theorem catch_panicking (fb : Nat) (x0 x1 er at' : Int) (older : List PanicEntry) (w : World) (hc : w.heap[fb]? = some (.cells #[.int .i64 x0, .int .i64 x1] 65 (0, 0))) :
    CallsD Tryz.prog 99 #[.pointer (some ⟨fb, 0, none⟩)] (.panicking ({ v := .iface 65 (.agg #[.int .i64 er, .int .i64 at']), recovered := false } :: older)) w fun e u' w' =>
      e = .returned (.tuple #[]) ∧ u' = .panicking ({ v := .iface 65 (.agg #[.int .i64 er, .int .i64 at']), recovered := true } :: older) ∧ w'.heap[fb]? = some (.cells #[.int .i64 er, .int .i64 at'] 65 (0, 0)) ∧ Kept2 fb fb w w' := by
  refine callsD_of_wpS Tryz.func99 rfl fun c₀ cs hu => ?_
  simp only [Tryz.ntmps99, List.size_toArray, List.length_cons, List.length_nil, Nat.reduceAdd, Nat.reduceSub, Array.replicate_succ,
     Array.replicate_zero, List.push_toArray, List.append_toArray, List.nil_append, List.cons_append]
  apply wpS_seq
  apply wpS_region
  simp [wpOpsS, go_sem, recoverD, hu, Exit.thenS]
  apply wpS_seq
  apply wpS_region
  simp [wpOpsS, go_sem, Exit.thenS]
  refine wpS_cond (t := true) (by simp [Act.eval, Array.replicate]) ?_
  simp only [if_true]
  refine wpS_of_wp ?_
  have has := assert_fault
  have hnot : ∀ (x : Bool) (w : World), (Op.unary .not (.bool x)).run Tryz.prog w = .ok (.bool (!x)) w := fun _ _ => rfl
  have hlt := lt_of_block hc
  obtain ⟨Z, HZ⟩ : ∃ Z, Hid (Z = w.alloc (.cells #[.int .i64 0, .int .i64 0] 65)) := ⟨_, hide rfl⟩
  have gZ : Grow w Z := by rw [HZ.out]; exact (Grow.refl _).alloc _
  have hZb : Z.heap[w.heap.size]? = some (.cells #[.int .i64 0, .int .i64 0] 65 (0, 0)) := by rw [HZ.out]; exact heap_alloc_new _ _
  have zf0 := not_frozen (k := 0) hZb
  have zf1 := not_frozen (k := 1) hZb
  obtain ⟨zc0, zc1⟩ := cells_two hZb
  obtain ⟨Z1, HZ1⟩ : ∃ Z1, Hid (Z1 = (Z.setCell ⟨w.heap.size, 0, none⟩ (.int .i64 er)).setCell ⟨w.heap.size, 1, none⟩ (.int .i64 at')) := ⟨_, hide rfl⟩
  have hZ1b : Z1.heap[w.heap.size]? = some (.cells #[.int .i64 er, .int .i64 at'] 65 (0, 0)) := by rw [HZ1.out, set_blk (set_blk hZb _)]; simp
  obtain ⟨yc0, yc1⟩ := cells_two hZ1b
  have hk1 : ∀ k, k ≠ w.heap.size → Z1.heap[k]? = Z.heap[k]? := fun k hk => by rw [HZ1.out, Below.heap_setCell _ _ _ _ hk, Below.heap_setCell _ _ _ _ hk]
  have hZ1f : Z1.heap[fb]? = some (.cells #[.int .i64 x0, .int .i64 x1] 65 (0, 0)) := by rw [hk1 fb (by omega)]; exact gZ.get hc
  have ff0 := not_frozen (k := 0) hZ1f
  have ff1 := not_frozen (k := 1) hZ1f
  obtain ⟨fc0, fc1⟩ := cells_two hZ1f
  obtain ⟨Z2, HZ2⟩ : ∃ Z2, Hid (Z2 = (Z1.setCell ⟨fb, 0, none⟩ (.int .i64 er)).setCell ⟨fb, 1, none⟩ (.int .i64 at')) := ⟨_, hide rfl⟩
  have hZ2b : Z2.heap[fb]? = some (.cells #[.int .i64 er, .int .i64 at'] 65 (0, 0)) := by rw [HZ2.out, set_blk (set_blk hZ1f _)]; simp
  have hK : Kept2 fb fb w Z2 := by
    have h2 : Z2.heap.size = Z.heap.size := by rw [HZ2.out, HZ1.out]; simp [World.setCell]
    refine ⟨by rw [HZ2.out, HZ1.out]; exact gZ.os, by rw [HZ2.out, HZ1.out]; exact gZ.tape, by rw [HZ2.out, HZ1.out]; exact gZ.output, by rw [h2]; exact gZ.size, fun k hk hn _ => ?_⟩
    rw [HZ2.out, Below.heap_setCell _ _ _ _ hn, Below.heap_setCell _ _ _ _ hn, hk1 k (by omega)]
    exact gZ.block k hk
  have HK := hide hK
  have HB2 := hide hZ2b
  have eZ := HZ.out.symm
  have eZ1 := HZ1.out.symm
  have eZ2 := HZ2.out.symm
  clear hK hZ2b hZb hZ1b hZ1f hc hk1
  go_wp2
  clear eZ eZ1 eZ2 zf0 zf1 zc0 zc1 yc0 yc1 ff0 ff1 fc0 fc1 has hnot
  cases c₀
  have h1 := HB2.out
  have h2 := HK.out
  clear HB2 HK HZ HZ1 HZ2
  simp_all [bodyPostS, results, Tryz.results99]
set_option maxRecDepth 20000 in
set_option maxHeartbeats 1000000 in
theorem catch_idle (p : Addr) (w : World) :
    CallsD Tryz.prog 99 #[.pointer (some p)] .returning w fun e u' w' => e = .returned (.tuple #[]) ∧ u' = .returning ∧ w' = w := by
  refine callsD_of_wpS Tryz.func99 rfl fun c₀ cs hu => ?_
  simp only [Tryz.ntmps99, List.size_toArray, List.length_cons, List.length_nil, Nat.reduceAdd, Nat.reduceSub, Array.replicate_succ,
     Array.replicate_zero, List.push_toArray, List.append_toArray, List.nil_append, List.cons_append]
  apply wpS_seq
  apply wpS_region
  simp [wpOpsS, go_sem, recoverD, hu, Exit.thenS]
  apply wpS_seq
  apply wpS_region
  simp [wpOpsS, go_sem, Exit.thenS]
  refine wpS_cond (t := false) (by simp [Act.eval, Array.replicate]) ?_
  simp only [Bool.false_eq_true, if_false]
  refine wpS_of_wp (wp_skip ?_)
  cases c₀
  simp_all [bodyPostS, results, Tryz.results99]
/-- Steps that were laid out, in a row. -/
def stepsIn (w : World) (sv : Value) (S : List St) : Prop :=
  ∃ rs : List Raw, w.ownsRow 0 150 7 sv rs.length (rawCells rs) ∧ (∀ (j : Nat) (r : Raw), rs[j]? = some r → rawOk w 0 r) ∧ rs.map (·.st) = S
theorem stepsIn.keep {w w' : World} {sv : Value} {S : List St} (h : stepsIn w sv S) (g : Grow w w') : stepsIn w' sv S := by
  obtain ⟨rs, h1, h2, h3⟩ := h
  exact ⟨rs, own_grow h1 g, fun j r hr => (h2 j r hr).keep fun b hb => g.block b ((h2 j r hr).1.lt b hb).2, h3⟩
/-- What parse answers. -/
def parseAns (m : List UInt8) (y : Except (Nat × Nat) (Tr × Nat)) (e : Ending) (w' : World) : Prop := match y with
  | .error x => e = .returned (.tuple #[.agg #[.slice none 0 0, .int .i64 0], .agg #[.int .i64 x.1, .int .i64 x.2]])
  | .ok x => ∃ sv, e = .returned (.tuple #[.agg #[sv, .int .i64 x.2], .agg #[.int .i64 0, .int .i64 0]]) ∧ stepsIn w' sv (layC x.1)
set_option maxRecDepth 20000 in
set_option maxHeartbeats 4000000 in
theorem parse_any {m : List UInt8} {f : Nat} (w : World) (y : Except (Nat × Nat) (Tr × Nat)) (hml : m.length ≤ 9223372036854775807) (hy : pMask m f = some y) :
    Calls Tryz.prog 56 #[.string (bs m)] w fun e w' => Grow w w' ∧ parseAns m y e w' := by
  have HY := hide hy
  clear hy
  have hmf : ∀ (fn : Fn) (first cap : Array Value) (w : World), (Instr.makeFunc fn first cap).run Tryz.prog w = .ok (.func fn first cap) w := fun _ _ _ _ => rfl
  obtain ⟨n, hn⟩ : ∃ n, w.heap.size = n := ⟨_, rfl⟩
  obtain ⟨A, HA⟩ : ∃ A, Hid (A = w.alloc (.cells #[.slice none 0 0, .int .i64 0] 96)) := ⟨_, hide rfl⟩
  have gA : Grow w A := by rw [HA.out]; exact (Grow.refl _).alloc _
  have hAs : A.heap.size = n + 1 := by rw [HA.out, ← hn]; simp
  have hA0 : A.heap[n]? = some (.cells #[.slice none 0 0, .int .i64 0] 96 (0, 0)) := by rw [HA.out, ← hn]; exact heap_alloc_new _ _
  obtain ⟨C, HC⟩ : ∃ C, Hid (C = A.alloc (.cells #[.int .i64 0, .int .i64 0] 65)) := ⟨_, hide rfl⟩
  have gC : Grow A C := by rw [HC.out]; exact (Grow.refl _).alloc _
  have hCs : C.heap.size = n + 2 := by rw [HC.out]; simp [hAs]
  have hC0 := gC.get hA0
  have hC1 : C.heap[n + 1]? = some (.cells #[.int .i64 0, .int .i64 0] 65 (0, 0)) := by rw [HC.out, ← hAs]; exact heap_alloc_new _ _
  obtain ⟨D, HD⟩ : ∃ D, Hid (D = C.alloc (.cells #[.string (bs m), .int .i64 0, .slice none 0 0, .int .i64 0] 143)) := ⟨_, hide rfl⟩
  have gD : Grow C D := by rw [HD.out]; exact (Grow.refl _).alloc _
  have hDs : D.heap.size = n + 3 := by rw [HD.out]; simp [hCs]
  have hD2 : D.heap[n + 2]? = some (.cells #[.string (bs m), .int .i64 0, .slice none 0 0, .int .i64 0] 143 (0, 0)) := by rw [HD.out, ← hCs]; exact heap_alloc_new _ _
  have eA := HA.out.symm
  have eC := HC.out.symm
  go_enter_defers Tryz.func56, Tryz.ntmps56
  go_wp2_with fail
  rw [show C.alloc (.cells #[.string (bs m), .int .i64 0, .slice none 0 0, .int .i64 0] 143) = D from HD.out.symm]
  have hp : parserAt D (fun k => k < n + 2) (n + 2) m 0 [] 0 := ⟨.slice none 0 0, [], ⟨fun k hk => by omega, hD2, World.ownsRow_nil _ _ _ _, fun j r h => (by simp at h), fun j k r r' _ h => (by simp at h), fun b h => (by cases h), fun j r b h => by simp at h⟩, rfl⟩
  have hW0 : D.heap[n]? = some (.cells #[.slice none 0 0, .int .i64 0] 96 (0, 0)) := gD.get hC0
  have hW1 : D.heap[n + 1]? = some (.cells #[.int .i64 0, .int .i64 0] 65 (0, 0)) := gD.get hC1
  have gwD : Grow w D := (gA.trans gC).trans gD
  have GWD := hide gwD
  refine (whole_any D (fun k => k < n + 2) (n + 2) y hp hml HY.out).mono ?_
  rintro e w3 ⟨hk, he⟩
  have h0 : w3.heap[n]? = some (.cells #[.slice none 0 0, .int .i64 0] 96 (0, 0)) := (hk.block n (by omega) (by omega)).trans hW0
  have h1 : w3.heap[n + 1]? = some (.cells #[.int .i64 0, .int .i64 0] 65 (0, 0)) := (hk.block (n + 1) (by omega) (by omega)).trans hW1
  have hs3 : n + 3 ≤ w3.heap.size := by rw [← hDs]; exact hk.size
  have hout : ∀ w4 : World, w4.os = w3.os → w4.tape = w3.tape → w4.output = w3.output → w3.heap.size ≤ w4.heap.size → (∀ k, k < n → w4.heap[k]? = w3.heap[k]?) → Grow w w4 := fun w4 a1 a2 a3 a4 a5 =>
    ⟨a1.trans (hk.os.trans gwD.os), a2.trans (hk.tape.trans gwD.tape), a3.trans (hk.output.trans gwD.output), by omega, fun k hkk => (a5 k (by omega)).trans ((hk.block k (by omega) (by omega)).trans (gwD.block k hkk))⟩
  have HOUT := hide hout
  clear hk hout gwD gA gC gD hA0 hC0 hC1 hD2 hW0 hW1 hp eA eC HA HC HD GWD
  rcases hyy : y with x | x
  · rw [hyy] at he
    simp only at he
    subst he
    have HYY := hide hyy
    clear hyy
    obtain ⟨er, at'⟩ := x
    refine leaves_cons (f := 99) (args := #[.pointer (some ⟨n + 1, 0, none⟩)]) (by simp) (by simp [go_sem]) ?_
    refine (catch_panicking (n + 1) 0 0 er at' [] w3 h1).mono ?_
    rintro e u' w'' ⟨rfl, rfl, hf, hk4⟩
    have hp4 : w''.heap[n]? = some (.cells #[.slice none 0 0, .int .i64 0] 96 (0, 0)) := (hk4.block n (by omega) (by omega) (by omega)).trans h0
    obtain ⟨p0, p1⟩ := cells_two hp4
    obtain ⟨f0, f1⟩ := cells_two hf
    simp [Leaves, settle, results, Tryz.results56, go_sem, p0, p1, f0, f1]
    rw [HYY.out]
    exact ⟨HOUT.out w'' hk4.os hk4.tape hk4.output hk4.size (fun k hk => hk4.block k (by omega) (by omega) (by omega)), rfl⟩
  · rw [hyy] at he
    simp only at he
    obtain ⟨rfl, jj, sv, rs, ⟨q1, q2, q3, q4, q5, q6⟩, hS⟩ := he
    obtain ⟨T, g⟩ := x
    have HYY := hide hyy
    clear hyy
    obtain ⟨ao, cp, rfl⟩ := own_shape q3
    obtain ⟨c0, c1, c2, c3⟩ := four_cells q2
    obtain ⟨p0, p1⟩ := cells_two h0
    have pf0 := not_frozen (k := 0) h0
    have pf1 := not_frozen (k := 1) h0
    obtain ⟨W4, HW4⟩ : ∃ W4, Hid (W4 = (w3.setCell ⟨n, 0, none⟩ (.slice ao rs.length cp)).setCell ⟨n, 1, none⟩ (.int .i64 (g : Int))) := ⟨_, hide rfl⟩
    have k4 : ∀ k, k ≠ n → W4.heap[k]? = w3.heap[k]? := fun k hk => by rw [HW4.out, Below.heap_setCell _ _ _ _ hk, Below.heap_setCell _ _ _ _ hk]
    have hW4n : W4.heap[n]? = some (.cells #[.slice ao rs.length cp, .int .i64 (g : Int)] 96 (0, 0)) := by rw [HW4.out, set_blk (set_blk h0 _)]; simp
    have hW4f : W4.heap[n + 1]? = some (.cells #[.int .i64 0, .int .i64 0] 65 (0, 0)) := (k4 (n + 1) (by omega)).trans h1
    obtain ⟨f0, f1⟩ := cells_two hW4f
    have ff0 := not_frozen (k := 0) hW4f
    have ff1 := not_frozen (k := 1) hW4f
    obtain ⟨W5, HW5⟩ : ∃ W5, Hid (W5 = (W4.setCell ⟨n + 1, 0, none⟩ (.int .i64 0)).setCell ⟨n + 1, 1, none⟩ (.int .i64 0)) := ⟨_, hide rfl⟩
    have k5 : ∀ k, k ≠ n + 1 → W5.heap[k]? = W4.heap[k]? := fun k hk => by rw [HW5.out, Below.heap_setCell _ _ _ _ hk, Below.heap_setCell _ _ _ _ hk]
    have hW5n := (k5 n (by omega)).trans hW4n
    have hW5f : W5.heap[n + 1]? = some (.cells #[.int .i64 0, .int .i64 0] 65 (0, 0)) := by rw [HW5.out, set_blk (set_blk hW4f _)]; simp
    have hsz : W5.heap.size = w3.heap.size := by rw [HW5.out, HW4.out]; simp [World.setCell]
    have hG : Grow w W5 := HOUT.out W5 (by rw [HW5.out, HW4.out]; rfl) (by rw [HW5.out, HW4.out]; rfl) (by rw [HW5.out, HW4.out]; rfl) (by omega) (fun k hk => (k5 k (by omega)).trans (k4 k (by omega)))
    have hst : stepsIn W5 (.slice ao rs.length cp) (layC T) := by
      refine ⟨rs, own_keep q3 (fun b hb => ?_), fun j r hr => (q4 j r hr).keep fun b hb => ?_, hS⟩
      · have hne1 : b ≠ n := by rintro rfl; exact own_apart q3 h0 (by decide) hb
        have hne2 : b ≠ n + 1 := by rintro rfl; exact own_apart q3 h1 (by decide) hb
        rw [k5 b hne2, k4 b hne1]
      · have hne1 : b ≠ n := by rintro rfl; exact (q4 j r hr).apart h0 (by decide) hb
        have hne2 : b ≠ n + 1 := by rintro rfl; exact (q4 j r hr).apart h1 (by decide) hb
        rw [k5 b hne2, k4 b hne1]
    obtain ⟨r0, r1⟩ := cells_two hW5n
    obtain ⟨s0, s1⟩ := cells_two hW5f
    have HG := hide hG
    have HST := hide hst
    have R0 := hide r0
    have R1 := hide r1
    have S0 := hide s0
    have S1 := hide s1
    have eW4 := HW4.out.symm
    have eW5 := HW5.out.symm
    clear q2 q3 q4 q5 q6 h0 h1 c0 c1 hW4n hW4f hW5n hW5f k4 k5 hG hst r0 r1 s0 s1 hS
    go_wp2
    clear eW4 eW5 p0 p1 f0 f1
    refine leaves_cons (f := 99) (args := #[.pointer (some ⟨n + 1, 0, none⟩)]) (by simp) (by simp [go_sem]) ?_
    refine (catch_idle ⟨n + 1, 0, none⟩ W5).mono ?_
    rintro e u' w'' ⟨rfl, rfl, rfl⟩
    have r0 := R0.out
    have r1 := R1.out
    have s0 := S0.out
    have s1 := S1.out
    simp [Leaves, settle, results, Tryz.results56, go_sem, r0, r1, s0, s1]
    rw [HYY.out]
    exact ⟨HG.out, _, rfl, HST.out⟩
end Go.Proofs.YtndpjdmfkhjiiaaGreatDoor
