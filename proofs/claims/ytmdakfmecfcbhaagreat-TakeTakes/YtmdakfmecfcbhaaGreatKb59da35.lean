/- 12 texts in one. -/
import Derived.Test.YtmdakfmecfcbhaaGreatProg
import Derived.Test.YtmdakfmecfcbhaaGreatK7e06493
import Derived.Test.YtmdakfmecfcbhaaGreatK85cc7d6
import Derived.Test.YtmdakfmecfcbhaaGreatK8ae92a4
import Derived.Test.YtmdakfmecfcbhaaGreatK2326a0d
import Derived.Lib.Strings
import Derived.Lib.Walk
import Derived.Lib.BufferWrite
import Derived.Lib.UnsafeStr
import Derived.Laws.MakeOwn
import Derived.BigQuiet
set_option linter.unusedVariables false
set_option linter.unusedSimpArgs false
namespace Go.Proofs.YtmdakfmecfcbhaaGreat
open Go.RowKit
attribute [local go_sem] bs_size bs_toList bs_append bs_get bs_extract
theorem Tryz.mixed2 : Tryz.prog.follows .mixedOrders = true := by kernel_rfl
theorem Tryz.cells5 : Tryz.prog.cellsOf 5 = 1 := by kernel_rfl
set_option maxHeartbeats 4000000 in
set_option maxRecDepth 100000 in
theorem lite_clone (s : ByteArray) (w : World) (hlim : s.size ≤ 281474976710656) :
    Calls Tryz.prog 119 #[.string s] w fun e w' => e = .returned (.string s) ∧ Below w.heap.size w w' := by
  by_cases h0 : s.size = 0
  · have hs : s = ⟨#[]⟩ := ByteArray.ext (Array.eq_empty_of_size_eq_zero h0)
    subst hs
    go_enter Tryz.func119, Tryz.ntmps119
    go_wp2
    go_ret
    exact ⟨rfl, Below.refl _ _⟩
  · obtain ⟨i0, hi, hz0, hz1, hz2⟩ := info_parts Tryz.info5
    have hinfo : (Tryz.prog.info? 5).map (·.size) = some 1 := by rw [hi]; simp [hz1]
    obtain ⟨M, hM⟩ : ∃ M, M = madeCells (Value.int .u8 0).cells (((s.size : Nat) : Int).toNat * i0.size) := ⟨_, rfl⟩
    have hMs : M.size = s.size := by rw [hM, size_madeCells, hz1]; simp
    have hmk : ∀ W : World, (Instr.makeSlice 63 (.int .i64 (s.size : Int)) (.int .i64 (s.size : Int))).run Tryz.prog W = .ok (.slice (some ⟨W.heap.size, 0, none⟩) s.size s.size) (W.alloc (.cells M 5)) := fun W => by
      have h := run_make (P := Tryz.prog) W 63 5 i0 (.int .u8 0) Tryz.underlying63 hi hz0 .i64 .i64 (s.size : Int) (s.size : Int) (by omega) (by omega) (by rw [hz2]; omega) (by omega)
      rw [← hM] at h
      simpa using h
    clear hM
    have hcp := Lib.run_copy_row_string (P := Tryz.prog) (w.alloc (.cells M 5)) 63 9 3 5 w.heap.size 0 s.size s.size s M 5 Tryz.underlying63 hinfo (heap_alloc_new w _) (Nat.le_refl _) (by omega)
    obtain ⟨Y, hY⟩ : ∃ Y, Y = (M.toList.take 0 ++ Lib.byteCells s.data.toList ++ M.toList.drop (0 + s.size)).toArray := ⟨_, rfl⟩
    rw [← hY] at hcp
    have hYl : Y.toList = Lib.byteCells s.data.toList := by
      rw [hY, List.toList_toArray, List.take_zero, List.nil_append, List.drop_of_length_le (by rw [Array.length_toList]; omega), List.append_nil]
    have hYs : Y.size = s.size := by rw [← Array.length_toList, hYl, Lib.byteCells_length, ← Lib.size_eq]
    have hgY : ((w.alloc (.cells M 5)).setRow w.heap.size Y).heap[w.heap.size]? = some (.cells Y 5 (0, 0)) := setRow_heap _ _ M _ 5 (0, 0) (heap_alloc_new w _)
    have hne : s.data.toList ≠ [] := fun e => h0 (by rw [Lib.size_eq, e]; rfl)
    have hUS := Lib.run_unsafeString_row (P := Tryz.prog) ((w.alloc (.cells M 5)).setRow w.heap.size Y) 151 3 9 5 Tryz.underlying151 Tryz.cells5 w.heap.size Y.size (by unfold World.shape?; rw [hgY]) s.data.toList hne (by rw [← Lib.size_eq]; omega) (by rw [← Lib.size_eq]; omega)
      (fun j x hx => Lib.cells_of_row hgY Y.size j _ (by rw [List.take_of_length_le (by rw [Array.length_toList]; exact Nat.le_refl _), hYl]; simp [Lib.byteCells, hx]))
    rw [← Lib.size_eq] at hUS
    clear hY
    go_enter Tryz.func119, Tryz.ntmps119
    go_wp2
    go_ret
    have hb1 : Below w.heap.size w (w.alloc (.cells M 5)) := (Below.refl _ w).alloc (Nat.le_refl _) _
    have hb2 : Below w.heap.size (w.alloc (.cells M 5)) ((w.alloc (.cells M 5)).setRow w.heap.size Y) := ⟨rfl, rfl, rfl, by simp, fun k hk => setRow_other _ _ _ _ (by omega)⟩
    exact ⟨rfl, Lib.below_freeze (hb1.trans hb2) (p := ⟨w.heap.size, 0, none⟩) (Nat.le_refl _) _⟩
theorem clone_any (s : List UInt8) (w : World) (hlim : s.length ≤ 281474976710656) :
    Calls Tryz.prog 104 #[.string (bs s)] w fun e w' => e = .returned (.string (bs s)) ∧ Below w.heap.size w w' := by
  go_enter Tryz.func104, Tryz.ntmps104
  go_wp2_with fail
  refine (lite_clone (bs s) w (by rw [bs_size]; exact hlim)).mono ?_
  rintro e w1 ⟨rfl, hb⟩
  go_wp2
  go_ret
  exact ⟨rfl, hb⟩
theorem KeptX.setAt {B b : Nat} {w w' : World} (h : KeptX B b w w') (o : Nat) (v : Value) : KeptX B b w (w'.setCell ⟨b, o, none⟩ v) :=
  ⟨h.os, h.tape, h.output, by simpa [World.setCell] using h.size, fun k hk hn => (Below.heap_setCell _ _ _ _ hn).trans (h.block k hk hn)⟩
theorem KeptX.alloc {B b : Nat} {w w' : World} (h : KeptX B b w w') (hB : B ≤ w'.heap.size) (o : Obj) : KeptX B b w (w'.alloc o) :=
  h.trans (keptX_of ((Below.refl B w').alloc hB o))
/-- What a label's fields tell: the last of each. -/
def labStep (x : Lab) (f : Fld) : Lab := if f.1 = 10 then (f.2.2, x.2) else if f.1 = 18 then (x.1, f.2.2) else x
def labOf (l : List Fld) : Lab := l.foldl labStep ([], [])
set_option maxRecDepth 20000 in
set_option maxHeartbeats 1000000 in
theorem readLabel1_any (w : World) (xb : Nat) (x : Lab) (f : Fld) (hx : w.heap[xb]? = some (.cells #[.string (bs x.1), .string (bs x.2)] 62 (0, 0))) :
    Calls Tryz.prog 142 #[fldV f, .pointer (some ⟨xb, 0, none⟩)] w fun e w' => e = .returned (.tuple #[]) ∧ KeptX w.heap.size xb w w' ∧ w'.heap[xb]? = some (.cells #[.string (bs (labStep x f).1), .string (bs (labStep x f).2)] 62 (0, 0)) := by
  obtain ⟨h, n, b⟩ := f
  have hxlt := lt_of_block hx
  have h0 : Below w.heap.size w (w.alloc (.cells #[.int .u64 h, .int .u64 n, .string (bs b)] 133)) := (Below.refl _ _).alloc (Nat.le_refl _) _
  have hx1 := below_block h0 hx hxlt
  obtain ⟨c0, c1⟩ := two_cells hx1
  have z0 : (w.alloc (.cells #[.int .u64 h, .int .u64 n, .string (bs b)] 133)).frozen? ⟨xb, 0, none⟩ = false := by simp only [World.frozen?, hx1]; rfl
  have z1 : (w.alloc (.cells #[.int .u64 h, .int .u64 n, .string (bs b)] 133)).frozen? ⟨xb, 1, none⟩ = false := by simp only [World.frozen?, hx1]; rfl
  unfold fldV
  go_enter Tryz.func142, Tryz.ntmps142
  have hk := keptX_of (b := xb) h0
  by_cases m1 : h = 10
  · have t1 : ((h : Int) == 10) = true := by rw [beq_iff_eq]; omega
    have M := hide m1
    clear m1
    go_wp2
    go_end0
    refine ⟨rfl, ((KeptX.refl _ _ _).setAt _ _).alloc (by simp [World.setCell]) _, ?_⟩
    rw [Below.heap_alloc _ _ _ (by simpa [World.setCell] using hxlt), set_block hx]
    simp only [labStep, M.out, if_true]
    rfl
  · have t1 : ((h : Int) == 10) = false := by rw [beq_eq_false_iff_ne]; omega
    by_cases m2 : h = 18
    · have t2 : ((h : Int) == 18) = true := by rw [beq_iff_eq]; omega
      have M := hide m2
      clear m1 m2
      go_wp2
      go_end0
      refine ⟨rfl, ((KeptX.refl _ _ _).setAt _ _).alloc (by simp [World.setCell]) _, ?_⟩
      rw [Below.heap_alloc _ _ _ (by simpa [World.setCell] using hxlt), set_block hx]
      simp only [labStep, M.out]
      rfl
    · have t2 : ((h : Int) == 18) = false := by rw [beq_eq_false_iff_ne]; omega
      have M := hide (And.intro m1 m2)
      clear m1 m2
      go_wp2
      go_end0
      refine ⟨rfl, hk, ?_⟩
      simp only [labStep, M.out.1, M.out.2, if_false]
      exact hx1
theorem labOf_snoc (d : List Fld) (f : Fld) : labOf (d ++ [f]) = labStep (labOf d) f := by simp [labOf]
theorem labStep_len {x : Lab} {f : Fld} {n : Nat} (hx : x.1.length ≤ n ∧ x.2.length ≤ n) (hf : f.2.2.length ≤ n) : (labStep x f).1.length ≤ n ∧ (labStep x f).2.length ≤ n := by
  unfold labStep
  split
  · exact ⟨hf, hx.2⟩
  · split
    · exact ⟨hx.1, hf⟩
    · exact hx
/-- A label's text tells one. -/
def labRead (s : List UInt8) : Option Lab := if (fields s).2 = true then some (labOf (fields s).1) else none
set_option maxRecDepth 20000 in
set_option maxHeartbeats 2000000 in
theorem readLabel_any (w : World) (s : List UInt8) (hs : s.length ≤ 1000000) :
    Calls Tryz.prog 127 #[.string (bs s)] w fun e w' => Below w.heap.size w w' ∧
      ((∃ x, labRead s = some x ∧ x.1.length ≤ s.length ∧ x.2.length ≤ s.length ∧ e = .returned (.agg #[.string (bs x.1), .string (bs x.2)])) ∨ (labRead s = none ∧ e = gaveUp 1)) := by
  have hcf : ∀ (args : Array Value) (w : World), (callFunc 142 args).run Tryz.prog w = .ok (.enter 142 args) w := fun args w => by simp [go_sem]
  obtain ⟨W, HW⟩ : ∃ W, Hid (W = (w.alloc (.cells #[.string { data := #[] }, .string { data := #[] }] 62)).alloc (.cells #[.string { data := #[] }, .string { data := #[] }] 62)) := ⟨_, hide rfl⟩
  have hW0 : Below w.heap.size w W := by rw [HW.out]; exact ((Below.refl _ _).alloc (Nat.le_refl _) _).alloc (by simp) _
  have hW1 : W.heap[w.heap.size]? = some (.cells #[.string (bs []), .string (bs [])] 62 (0, 0)) := by
    rw [HW.out, Below.heap_alloc _ _ _ (by simp)]; exact heap_alloc_new _ _
  have hW2 : W.heap[w.heap.size + 1]? = some (.cells #[.string (bs []), .string (bs [])] 62 (0, 0)) := by
    rw [HW.out]
    have := heap_alloc_new (w.alloc (.cells #[.string { data := #[] }, .string { data := #[] }] 62)) (.cells #[.string { data := #[] }, .string { data := #[] }] 62)
    simpa [bs] using this
  have HE := hide (eachField_any s W 142 #[.pointer (some ⟨w.heap.size + 1, 0, none⟩)]
    (fun d wi => Below w.heap.size w wi ∧ wi.heap[w.heap.size]? = some (.cells #[.string (bs []), .string (bs [])] 62 (0, 0)) ∧ wi.heap[w.heap.size + 1]? = some (.cells #[.string (bs (labOf d).1), .string (bs (labOf d).2)] 62 (0, 0)) ∧ (labOf d).1.length ≤ s.length ∧ (labOf d).2.length ≤ s.length)
    (fun _ => true) (fun wi => Below w.heap.size w wi) (by omega) hcf ⟨hW0, hW1, hW2, by simp [labOf], by simp [labOf]⟩
    (fun d w1 w2 ⟨h1, h2, h3, h4⟩ hg => ⟨h1.trans (hg.mono h1.size), hg.get h2, hg.get h3, h4⟩)
    (fun d w1 h => h.1)
    (fun d f w1 ⟨h1, h2, h3, h4⟩ _ _ hf _ => (readLabel1_any w1 (w.heap.size + 1) (labOf d) f h3).mono fun e w2 ⟨he, hk, hb⟩ => .inl ⟨rfl, he, (h1.trans (hk.below h1.size (by omega))), hk.get h2 (lt_of_block h2) (by omega), by rw [labOf_snoc]; exact hb, by rw [labOf_snoc]; exact labStep_len h4 hf⟩))
  clear hW0 hW1 hW2
  rw [HW.out] at HE
  go_enter Tryz.func127, Tryz.ntmps127
  go_wp2_with fail
  refine HE.out.mono ?_
  clear HE hcf HW
  rintro e w1 (⟨hok, rfl, hb1, h2, h3, h4, h5⟩ | ⟨hok, rfl, hb1⟩)
  · have HOk : Hid (labRead s = some (labOf (fields s).1)) := by
      show _ = _
      simp [fieldsOk] at hok
      simp [labRead, hok]
    clear hok
    generalize labOf (fields s).1 = x at *
    go_wp2
    refine wp_region_free 7 14 Tryz.mixed2 rfl (by decide +kernel) Grow (fun _ _ _ => Grow.trans) (Grow.refl _)
      (fun i v _ => match i with
        | 0 => v = .pointer (some ⟨w.heap.size + 1, 0, none⟩)
        | 1 => v = .string (bs x.1)
        | 2 => v = .string (bs x.1)
        | 3 => v = .pointer (some ⟨w.heap.size + 1, 1, none⟩)
        | 4 => v = .string (bs x.2)
        | 5 => v = .string (bs x.2)
        | _ => v = .agg #[.string (bs x.1), .string (bs x.2)])
      (fun i v w w' h hg => h) (fun _ _ => False) (fun _ _ _ _ h => h.elim) (fun i hi o ho a w2 hG hoff hdep => ?_) (fun vals w2 hG hvals => ?_)
    · obtain ⟨x0, x1⟩ := two_cells (below_block hG.undrew h3 (lt_of_block h3))
      match i, hi with
      | 0, _ =>
        obtain rfl := Option.some.inj ho
        have o3 := hoff 3 (by decide +kernel)
        simp at o3
        simp [opYields, go_sem, o3]
        exact Grow.refl _
      | 1, _ =>
        obtain rfl := Option.some.inj ho
        have d0 := hdep 0 (by decide +kernel)
        simp [slotOf, dstOf] at d0
        simp [opYields, go_sem, d0, x0]
        exact Grow.refl _
      | 2, _ =>
        obtain rfl := Option.some.inj ho
        have d1 := hdep 1 (by decide +kernel)
        simp [slotOf, dstOf] at d1
        simp [opYields, go_sem, d1]
        refine (clone_any x.1 w2 (by omega)).mono ?_
        rintro e w3 ⟨rfl, hb⟩
        exact ⟨hb, rfl⟩
      | 3, _ =>
        obtain rfl := Option.some.inj ho
        have o3 := hoff 3 (by decide +kernel)
        simp at o3
        simp [opYields, go_sem, o3]
        exact Grow.refl _
      | 4, _ =>
        obtain rfl := Option.some.inj ho
        have d3 := hdep 3 (by decide +kernel)
        simp [slotOf, dstOf] at d3
        simp [opYields, go_sem, d3, x1]
        exact Grow.refl _
      | 5, _ =>
        obtain rfl := Option.some.inj ho
        have d4 := hdep 4 (by decide +kernel)
        simp [slotOf, dstOf] at d4
        simp [opYields, go_sem, d4]
        refine (clone_any x.2 w2 (by omega)).mono ?_
        rintro e w3 ⟨rfl, hb⟩
        exact ⟨hb, rfl⟩
      | 6, _ =>
        obtain rfl := Option.some.inj ho
        have d2 := hdep 2 (by decide +kernel)
        simp [slotOf, dstOf] at d2
        have d5 := hdep 5 (by decide +kernel)
        simp [slotOf, dstOf] at d5
        simp [opYields, go_sem, d2, d5]
        exact Grow.refl _
    · have v6 := hvals 6 (by omega)
      simp only at v6
      clear hvals
      have h2' := below_block hG.undrew h2 (lt_of_block h2)
      obtain ⟨c0, c1⟩ := two_cells h2'
      have z0 : w2.frozen? ⟨w.heap.size, 0, none⟩ = false := by simp only [World.frozen?, h2']; rfl
      have z1 : w2.frozen? ⟨w.heap.size, 1, none⟩ = false := by simp only [World.frozen?, h2']; rfl
      simp [over, dstOf, Act.put, v6]
      go_wp2
      have hb3 : ((w2.setCell ⟨w.heap.size, 0, none⟩ (.string (bs x.1))).setCell ⟨w.heap.size, 1, none⟩ (.string (bs x.2))).heap[w.heap.size]? = some (.cells #[.string (bs x.1), .string (bs x.2)] 62 (0, 0)) := by
        rw [set_block (set_block h2' _) _]; rfl
      obtain ⟨r0, r1⟩ := two_cells hb3
      refine bodyPost_ret (v := .agg #[.string (bs x.1), .string (bs x.2)]) (by simp [results, Tryz.results127, go_sem, r0, r1]) rfl ?_
      exact ⟨((hb1.trans (hG.undrew.mono hb1.size)).setCell (p := ⟨w.heap.size, 0, none⟩) (Nat.le_refl _) _).setCell (p := ⟨w.heap.size, 1, none⟩) (Nat.le_refl _) _, .inl ⟨x, HOk.out, h4, h5, rfl⟩⟩
  · have HOk : Hid (labRead s = none) := by
      show _ = _
      have hf : (fields s).2 = false := by simpa [fieldsOk] using hok
      simp [labRead, hf]
    exact ⟨rfl, hb1, .inr ⟨HOk.out, rfl⟩⟩
set_option maxRecDepth 20000 in
set_option maxHeartbeats 2000000 in
theorem sameLabels_yes (w : World) (B : Nat) (va vb : Value) (ls : List Lab) (ha : readsLabels w B va ls) (hb : readsLabels w B vb ls) (hl : ls.length ≤ 1000000) :
    Calls Tryz.prog 20 #[va, vb] w fun e w' => e = .returned (.bool true) ∧ ∃ n, w' = w.drewN n := by
  obtain ⟨ao, ac, rfl, acells⟩ := ha
  obtain ⟨bo, bc, rfl, bcells⟩ := hb
  go_enter Tryz.func20, Tryz.ntmps20
  go_wp2
  go_loopw [5] (fun i wr => ∃ k n : Nat, k ≤ ls.length ∧ i = .int .i64 k ∧ wr = w.drewN n) (fun i _ => ls.length - (intOf i).toNat)
  case atStart => exact ⟨0, 0, by omega, rfl, rfl⟩
  case round =>
    obtain ⟨k, n, hk, rfl, hw⟩ := hrel
    have HW := hide hw
    clear hw
    by_cases hlt : k < ls.length
    · obtain ⟨ab, aof, rfl, haB, a0, a1⟩ := acells k hlt
      obtain ⟨bb, bof, rfl, hbB, b0, b1⟩ := bcells k hlt
      have d0 : wr.cell? ⟨ab, aof + k * 2, none⟩ = some (.string (bs ls[k].1)) := by rw [HW.out]; exact a0
      have d1 : wr.cell? ⟨ab, aof + k * 2 + 1, none⟩ = some (.string (bs ls[k].2)) := by rw [HW.out]; exact a1
      have e0 : wr.cell? ⟨bb, bof + k * 2, none⟩ = some (.string (bs ls[k].1)) := by rw [HW.out]; exact b0
      have e1 : wr.cell? ⟨bb, bof + k * 2 + 1, none⟩ = some (.string (bs ls[k].2)) := by rw [HW.out]; exact b1
      clear a0 a1 b0 b1 acells bcells
      go_wp2
      go_quiet (fail)
      go_wp2
      go_roundw
      case rel => exact ⟨k + 1, _, by omega, by go_num, by rw [HW.out, World.drewN_drewN]⟩
      case measure => simp [intOf]; omega
    · go_wp2
      go_ret
      exact ⟨rfl, n, HW.out⟩
set_option maxRecDepth 20000 in
set_option maxHeartbeats 2000000 in
theorem sameSamples_yes (w : World) (B : Nat) (va vb : Value) (ls : List Sam) (ha : readsSamples w B va ls) (hb : readsSamples w B vb ls) (hl : ls.length ≤ 1000000) :
    Calls Tryz.prog 21 #[va, vb] w fun e w' => e = .returned (.bool true) ∧ ∃ n, w' = w.drewN n := by
  obtain ⟨ao, ac, rfl, acells⟩ := ha
  obtain ⟨bo, bc, rfl, bcells⟩ := hb
  go_enter Tryz.func21, Tryz.ntmps21
  go_wp2
  go_loopw [5] (fun i wr => ∃ k n : Nat, k ≤ ls.length ∧ i = .int .i64 k ∧ wr = w.drewN n) (fun i _ => ls.length - (intOf i).toNat)
  case atStart => exact ⟨0, 0, by omega, rfl, rfl⟩
  case round =>
    obtain ⟨k, n, hk, rfl, hw⟩ := hrel
    have HW := hide hw
    clear hw
    by_cases hlt : k < ls.length
    · obtain ⟨ab, aof, rfl, haB, a0, a1⟩ := acells k hlt
      obtain ⟨bb, bof, rfl, hbB, b0, b1⟩ := bcells k hlt
      have d0 : wr.cell? ⟨ab, aof + k * 2, none⟩ = some (.int .i64 ls[k].1) := by rw [HW.out]; exact a0
      have d1 : wr.cell? ⟨ab, aof + k * 2 + 1, none⟩ = some (.int .u64 ls[k].2) := by rw [HW.out]; exact a1
      have e0 : wr.cell? ⟨bb, bof + k * 2, none⟩ = some (.int .i64 ls[k].1) := by rw [HW.out]; exact b0
      have e1 : wr.cell? ⟨bb, bof + k * 2 + 1, none⟩ = some (.int .u64 ls[k].2) := by rw [HW.out]; exact b1
      clear a0 a1 b0 b1 acells bcells
      go_wp2
      go_quiet (fail)
      go_wp2
      go_roundw
      case rel => exact ⟨k + 1, _, by omega, by go_num, by rw [HW.out, World.drewN_drewN]⟩
      case measure => simp [intOf]; omega
    · go_wp2
      go_ret
      exact ⟨rfl, n, HW.out⟩
set_option maxRecDepth 20000 in
set_option maxHeartbeats 4000000 in
theorem sameSeries_yes (w : World) (B : Nat) (va vb : Value) (ls : List Ser) (ha : readsSeries w B va ls) (hb : readsSeries w B vb ls) (hl : ls.length ≤ 1000000) (hin : ∀ x ∈ ls, x.1.length ≤ 1000000 ∧ x.2.length ≤ 1000000) :
    Calls Tryz.prog 13 #[va, vb] w fun e w' => e = .returned (.bool true) ∧ ∃ n, w' = w.drewN n := by
  obtain ⟨ao, ac, rfl, acells⟩ := ha
  obtain ⟨bo, bc, rfl, bcells⟩ := hb
  have HI := hide hin
  clear hin
  go_enter Tryz.func13, Tryz.ntmps13
  go_wp2
  go_loopw [5] (fun i wr => ∃ k n : Nat, k ≤ ls.length ∧ i = .int .i64 k ∧ wr = w.drewN n) (fun i _ => ls.length - (intOf i).toNat)
  case atStart => exact ⟨0, 0, by omega, rfl, rfl⟩
  case round =>
    obtain ⟨k, n, hk, rfl, hw⟩ := hrel
    have HW := hide hw
    clear hw
    by_cases hlt : k < ls.length
    · obtain ⟨ab, aof, ax, ay, rfl, haB, a0, a1, ra, rb⟩ := acells k hlt
      obtain ⟨bb, bof, bx, bw, rfl, hbB, b0, b1, rc, rd⟩ := bcells k hlt
      have d0 : wr.cell? ⟨ab, aof + k * 2, none⟩ = some ax := by rw [HW.out]; exact a0
      have d1 : wr.cell? ⟨ab, aof + k * 2 + 1, none⟩ = some ay := by rw [HW.out]; exact a1
      have e0 : wr.cell? ⟨bb, bof + k * 2, none⟩ = some bx := by rw [HW.out]; exact b0
      have e1 : wr.cell? ⟨bb, bof + k * 2 + 1, none⟩ = some bw := by rw [HW.out]; exact b1
      have r1 : ∀ W : World, (∀ a, W.cell? a = w.cell? a) → readsLabels W B ax ls[k].1 := fun W h => by unfold readsLabels; simp only [h]; exact ra
      have r2 : ∀ W : World, (∀ a, W.cell? a = w.cell? a) → readsLabels W B bx ls[k].1 := fun W h => by unfold readsLabels; simp only [h]; exact rc
      have r3 : ∀ W : World, (∀ a, W.cell? a = w.cell? a) → readsSamples W B ay ls[k].2 := fun W h => by unfold readsSamples; simp only [h]; exact rb
      have r4 : ∀ W : World, (∀ a, W.cell? a = w.cell? a) → readsSamples W B bw ls[k].2 := fun W h => by unfold readsSamples; simp only [h]; exact rd
      have hi := HI.out _ (List.getElem_mem hlt)
      obtain ⟨q1, q2, rfl, _⟩ := id ra
      obtain ⟨q3, q4, rfl, _⟩ := id rb
      obtain ⟨q5, q6, rfl, _⟩ := id rc
      obtain ⟨q7, q8, rfl, _⟩ := id rd
      clear a0 a1 b0 b1 acells bcells ra rb rc rd
      go_wp2
      have hwc : Hid (∀ n a, (wr.drewN n).cell? a = w.cell? a) := fun n a => by rw [HW.out]; rfl
      go_quiet (first
        | exact Calls.quiet_of (sameLabels_yes _ B _ _ ls[k].1 (r1 _ (hwc.out _)) (r2 _ (hwc.out _)) hi.1)
        | exact Calls.quiet_of (sameSamples_yes _ B _ _ ls[k].2 (r3 _ (hwc.out _)) (r4 _ (hwc.out _)) hi.2))
      go_wp2
      go_roundw
      case rel => exact ⟨k + 1, _, by omega, by go_num, by rw [HW.out, World.drewN_drewN]⟩
      case measure => simp [intOf]; omega
    · go_wp2
      go_ret
      exact ⟨rfl, n, HW.out⟩
/-- A number from 0 on as a time. -/
def sgn (n : Nat) : Int := if n % 18446744073709551616 < 9223372036854775808 then ((n % 18446744073709551616 : Nat) : Int) else ((n % 18446744073709551616 : Nat) : Int) - 18446744073709551616
theorem sgn_wrap (n : Nat) : IntKind.i64.wrap ((n : Nat) : Int) = sgn n := by
  rw [IntKind.wrap_i64, sgn]; split <;> omega
/-- What a sample's fields tell: the last of each. -/
def samStep (x : Sam) (f : Fld) : Sam := if f.1 = 9 then (x.1, f.2.1) else if f.1 = 16 then (sgn f.2.1, x.2) else x
def samOf (l : List Fld) : Sam := l.foldl samStep (0, 0)
theorem samOf_snoc (d : List Fld) (f : Fld) : samOf (d ++ [f]) = samStep (samOf d) f := by simp [samOf]
theorem samOf_nil : samOf [] = (0, 0) := rfl
set_option maxRecDepth 20000 in
set_option maxHeartbeats 1000000 in
theorem readSample1_any (w : World) (xb : Nat) (x : Sam) (f : Fld) (hx : w.heap[xb]? = some (.cells #[.int .i64 x.1, .int .u64 x.2] 48 (0, 0))) :
    Calls Tryz.prog 143 #[fldV f, .pointer (some ⟨xb, 0, none⟩)] w fun e w' => e = .returned (.tuple #[]) ∧ KeptX w.heap.size xb w w' ∧ w'.heap[xb]? = some (.cells #[.int .i64 (samStep x f).1, .int .u64 (samStep x f).2] 48 (0, 0)) := by
  obtain ⟨h, n, b⟩ := f
  have hxlt := lt_of_block hx
  have h0 : Below w.heap.size w (w.alloc (.cells #[.int .u64 h, .int .u64 n, .string (bs b)] 133)) := (Below.refl _ _).alloc (Nat.le_refl _) _
  have hx1 := below_block h0 hx hxlt
  obtain ⟨c0, c1⟩ := two_cells hx1
  have z0 : (w.alloc (.cells #[.int .u64 h, .int .u64 n, .string (bs b)] 133)).frozen? ⟨xb, 0, none⟩ = false := by simp only [World.frozen?, hx1]; rfl
  have z1 : (w.alloc (.cells #[.int .u64 h, .int .u64 n, .string (bs b)] 133)).frozen? ⟨xb, 1, none⟩ = false := by simp only [World.frozen?, hx1]; rfl
  have hsg := sgn_wrap n
  unfold fldV
  go_enter Tryz.func143, Tryz.ntmps143
  have hk := keptX_of (b := xb) h0
  by_cases m1 : h = 9
  · have t1 : ((h : Int) == 9) = true := by rw [beq_iff_eq]; omega
    have M := hide m1
    clear m1
    go_wp2
    go_end0
    refine ⟨rfl, ((KeptX.refl _ _ _).setAt _ _).alloc (by simp [World.setCell]) _, ?_⟩
    rw [Below.heap_alloc _ _ _ (by simpa [World.setCell] using hxlt), set_block hx]
    simp only [samStep, M.out, if_true]
    rfl
  · have t1 : ((h : Int) == 9) = false := by rw [beq_eq_false_iff_ne]; omega
    by_cases m2 : h = 16
    · have t2 : ((h : Int) == 16) = true := by rw [beq_iff_eq]; omega
      have M := hide m2
      clear m1 m2
      go_wp2
      go_end0
      refine ⟨rfl, ((KeptX.refl _ _ _).setAt _ _).alloc (by simp [World.setCell]) _, ?_⟩
      rw [Below.heap_alloc _ _ _ (by simpa [World.setCell] using hxlt), set_block hx]
      simp only [samStep, M.out]
      rfl
    · have t2 : ((h : Int) == 16) = false := by rw [beq_eq_false_iff_ne]; omega
      have M := hide (And.intro m1 m2)
      clear m1 m2
      go_wp2
      go_end0
      refine ⟨rfl, hk, ?_⟩
      simp only [samStep, M.out.1, M.out.2, if_false]
      exact hx1
/-- A sample's text tells one. -/
def samRead (s : List UInt8) : Option Sam := if (fields s).2 = true then some (samOf (fields s).1) else none
set_option maxRecDepth 20000 in
set_option maxHeartbeats 2000000 in
theorem readSample_any (w : World) (s : List UInt8) (hs : s.length ≤ 1000000) :
    Calls Tryz.prog 128 #[.string (bs s)] w fun e w' => Below w.heap.size w w' ∧
      ((∃ x, samRead s = some x ∧ x.2 < 18446744073709551616 ∧ e = .returned (.agg #[.int .i64 x.1, .int .u64 x.2])) ∨ (samRead s = none ∧ e = gaveUp 1)) := by
  have hcf : ∀ (args : Array Value) (w : World), (callFunc 143 args).run Tryz.prog w = .ok (.enter 143 args) w := fun args w => by simp [go_sem]
  obtain ⟨W, HW⟩ : ∃ W, Hid (W = (w.alloc (.cells #[.int .i64 0, .int .u64 0] 48)).alloc (.cells #[.int .i64 0, .int .u64 0] 48)) := ⟨_, hide rfl⟩
  have hW0 : Below w.heap.size w W := by rw [HW.out]; exact ((Below.refl _ _).alloc (Nat.le_refl _) _).alloc (by simp) _
  have hW1 : W.heap[w.heap.size]? = some (.cells #[.int .i64 0, .int .u64 0] 48 (0, 0)) := by
    rw [HW.out, Below.heap_alloc _ _ _ (by simp)]; exact heap_alloc_new _ _
  have hW2 : W.heap[w.heap.size + 1]? = some (.cells #[.int .i64 (samOf []).1, .int .u64 (samOf []).2] 48 (0, 0)) := by
    rw [HW.out]
    have := heap_alloc_new (w.alloc (.cells #[.int .i64 0, .int .u64 0] 48)) (.cells #[.int .i64 0, .int .u64 0] 48)
    simpa [samOf_nil] using this
  have hlen : ∀ (x : Sam) (f : Fld), x.2 < 18446744073709551616 → f.2.1 < 18446744073709551616 → (samStep x f).2 < 18446744073709551616 := by
    intro x f h1 h2
    unfold samStep
    split
    · exact h2
    · split <;> exact h1
  have HE := hide (eachField_any s W 143 #[.pointer (some ⟨w.heap.size + 1, 0, none⟩)]
    (fun d wi => Below w.heap.size w wi ∧ wi.heap[w.heap.size]? = some (.cells #[.int .i64 0, .int .u64 0] 48 (0, 0)) ∧ wi.heap[w.heap.size + 1]? = some (.cells #[.int .i64 (samOf d).1, .int .u64 (samOf d).2] 48 (0, 0)) ∧ (samOf d).2 < 18446744073709551616)
    (fun _ => true) (fun wi => Below w.heap.size w wi) (by omega) hcf ⟨hW0, hW1, hW2, by simp [samOf]⟩
    (fun d w1 w2 ⟨h1, h2, h3, h4⟩ hg => ⟨h1.trans (hg.mono h1.size), hg.get h2, hg.get h3, h4⟩)
    (fun d w1 h => h.1)
    (fun d f w1 ⟨h1, h2, h3, h4⟩ _ hn hf _ => (readSample1_any w1 (w.heap.size + 1) (samOf d) f h3).mono fun e w2 ⟨he, hk, hb⟩ => .inl ⟨rfl, he, (h1.trans (hk.below h1.size (by omega))), hk.get h2 (lt_of_block h2) (by omega), by rw [samOf_snoc]; exact hb, by rw [samOf_snoc]; exact hlen _ _ h4 hn⟩))
  clear hW0 hW1 hW2 hlen
  rw [HW.out] at HE
  go_enter Tryz.func128, Tryz.ntmps128
  go_wp2_with fail
  refine HE.out.mono ?_
  clear HE hcf HW
  rintro e w1 (⟨hok, rfl, hb1, h2, h3, h4⟩ | ⟨hok, rfl, hb1⟩)
  · have HOk : Hid (samRead s = some (samOf (fields s).1)) := by
      show _ = _
      simp [fieldsOk] at hok
      simp [samRead, hok]
    clear hok
    generalize samOf (fields s).1 = x at *
    have H4 := hide h4
    clear h4
    obtain ⟨x0, x1⟩ := two_cells h3
    obtain ⟨c0, c1⟩ := two_cells h2
    have z0 : w1.frozen? ⟨w.heap.size, 0, none⟩ = false := by simp only [World.frozen?, h2]; rfl
    have z1 : w1.frozen? ⟨w.heap.size, 1, none⟩ = false := by simp only [World.frozen?, h2]; rfl
    have hb3 : ((w1.setCell ⟨w.heap.size, 0, none⟩ (.int .i64 x.1)).setCell ⟨w.heap.size, 1, none⟩ (.int .u64 x.2)).heap[w.heap.size]? = some (.cells #[.int .i64 x.1, .int .u64 x.2] 48 (0, 0)) := by
      rw [set_block (set_block h2 _) _]; rfl
    obtain ⟨r0, r1⟩ := two_cells hb3
    go_wp2
    refine bodyPost_ret (v := .agg #[.int .i64 x.1, .int .u64 x.2]) (by simp [results, Tryz.results128, go_sem, r0, r1]) rfl ?_
    exact ⟨(hb1.setCell (p := ⟨w.heap.size, 0, none⟩) (Nat.le_refl _) _).setCell (p := ⟨w.heap.size, 1, none⟩) (Nat.le_refl _) _, .inl ⟨x, HOk.out, H4.out, rfl⟩⟩
  · have HOk : Hid (samRead s = none) := by
      show _ = _
      have hf : (fields s).2 = false := by simpa [fieldsOk] using hok
      simp [samRead, hf]
    exact ⟨rfl, hb1, .inr ⟨HOk.out, rfl⟩⟩
end Go.Proofs.YtmdakfmecfcbhaaGreat
namespace Go.Proofs.YtmdakfmecfcbhaaGreat
open Go.RowKit
def labCells : List Lab → List Value
  | [] => []
  | x :: l => .string (bs x.1) :: .string (bs x.2) :: labCells l
def samCells : List Sam → List Value
  | [] => []
  | x :: l => .int .i64 x.1 :: .int .u64 x.2 :: samCells l
def pairCells : List (Value × Value) → List Value
  | [] => []
  | x :: l => x.1 :: x.2 :: pairCells l
theorem labCells_snoc (l : List Lab) (x : Lab) : labCells (l ++ [x]) = labCells l ++ [.string (bs x.1), .string (bs x.2)] := by
  induction l with
  | nil => rfl
  | cons y l ih => simp [labCells, ih]
theorem samCells_snoc (l : List Sam) (x : Sam) : samCells (l ++ [x]) = samCells l ++ [.int .i64 x.1, .int .u64 x.2] := by
  induction l with
  | nil => rfl
  | cons y l ih => simp [samCells, ih]
theorem pairCells_snoc (l : List (Value × Value)) (x : Value × Value) : pairCells (l ++ [x]) = pairCells l ++ [x.1, x.2] := by
  induction l with
  | nil => rfl
  | cons y l ih => simp [pairCells, ih]
theorem labCells_at : ∀ (l : List Lab) (i : Nat) (h : i < l.length), (labCells l)[i * 2]? = some (.string (bs l[i].1)) ∧ (labCells l)[i * 2 + 1]? = some (.string (bs l[i].2))
  | [], i, h => by simp at h
  | x :: l, 0, h => ⟨rfl, rfl⟩
  | x :: l, i + 1, h => by
    have e : (i + 1) * 2 = i * 2 + 1 + 1 := by omega
    have := labCells_at l i (by simpa using h)
    rw [e]
    simpa [labCells] using this
theorem samCells_at : ∀ (l : List Sam) (i : Nat) (h : i < l.length), (samCells l)[i * 2]? = some (.int .i64 l[i].1) ∧ (samCells l)[i * 2 + 1]? = some (.int .u64 l[i].2)
  | [], i, h => by simp at h
  | x :: l, 0, h => ⟨rfl, rfl⟩
  | x :: l, i + 1, h => by
    have e : (i + 1) * 2 = i * 2 + 1 + 1 := by omega
    have := samCells_at l i (by simpa using h)
    rw [e]
    simpa [samCells] using this
theorem pairCells_at : ∀ (l : List (Value × Value)) (i : Nat) (h : i < l.length), (pairCells l)[i * 2]? = some l[i].1 ∧ (pairCells l)[i * 2 + 1]? = some l[i].2
  | [], i, h => by simp at h
  | x :: l, 0, h => ⟨rfl, rfl⟩
  | x :: l, i + 1, h => by
    have e : (i + 1) * 2 = i * 2 + 1 + 1 := by omega
    have := pairCells_at l i (by simpa using h)
    rw [e]
    simpa [pairCells] using this
def ownLabels (w : World) (B : Nat) (v : Value) (ls : List Lab) : Prop := w.ownsRow B 62 2 v ls.length (labCells ls)
def ownSamples (w : World) (B : Nat) (v : Value) (ls : List Sam) : Prop := w.ownsRow B 48 2 v ls.length (samCells ls)
/-- Rows stay where blocks of their own do. -/
theorem own_keep {w w' : World} {base e size n : Nat} {v : Value} {xs : List Value} (h : w.ownsRow base e size v n xs) (hb : ∀ g, v.ownBlock = some g → w'.heap[g]? = w.heap[g]?) : w'.ownsRow base e size v n xs := by
  refine ⟨h.1, ?_⟩
  rcases h.2 with ⟨h1, h2⟩ | ⟨g, cap, cur, rfl, h1, h2, h3⟩
  · exact .inl ⟨h1, h2⟩
  · exact .inr ⟨g, cap, cur, rfl, h1, (hb g rfl).trans h2, h3⟩
theorem own_grow {w w' : World} {base e size n : Nat} {v : Value} {xs : List Value} (h : w.ownsRow base e size v n xs) (hg : Grow w w') : w'.ownsRow base e size v n xs :=
  own_keep h fun g hgb => hg.block g (h.lt g hgb).2
theorem own_le {w : World} {B B' e size n : Nat} {v : Value} {xs : List Value} (h : w.ownsRow B e size v n xs) (hb : B' ≤ B) : w.ownsRow B' e size v n xs := by
  refine ⟨h.1, ?_⟩
  rcases h.2 with h1 | ⟨g, cap, cur, h0, h1, h2⟩
  · exact .inl h1
  · exact .inr ⟨g, cap, cur, h0, by omega, h2⟩
/-- Rows of different kinds lie apart. -/
theorem own_two {w : World} {B1 B2 e1 e2 s1 s2 n1 n2 : Nat} {v1 v2 : Value} {x1 x2 : List Value} (h1 : w.ownsRow B1 e1 s1 v1 n1 x1) (h2 : w.ownsRow B2 e2 s2 v2 n2 x2) (he : e1 ≠ e2) : v1.ownBlock = none ∨ v1.ownBlock ≠ v2.ownBlock := by
  rcases h2.2 with ⟨rfl, _⟩ | ⟨g, cap, cur, rfl, _, hg, _⟩
  · cases hv : v1.ownBlock with
    | none => exact .inl rfl
    | some k => exact .inr (by simp [Value.ownBlock])
  · exact .inr (own_apart h1 hg he)
theorem reads_ownLabels {w : World} {B : Nat} {v : Value} {ls : List Lab} (h : ownLabels w B v ls) : readsLabels w w.heap.size v ls := by
  obtain ⟨ao, cp, e⟩ := own_shape h
  refine ⟨ao, cp, e, fun i hi => ?_⟩
  rcases h.2 with ⟨rfl, h0⟩ | ⟨g, cap, cur, rfl, h1, h2, h3⟩
  · omega
  · simp at e
    have hc := World.ownsRow.cells h (g := g) rfl
    have ha := labCells_at ls i hi
    refine ⟨g, 0, e.1.symm, lt_of_block h2, ?_, ?_⟩
    · have := hc _ _ ha.1
      rw [Addr.add_lit] at this
      simpa using this
    · have := hc _ _ ha.2
      rw [Addr.add_lit] at this
      simpa using this
theorem reads_ownSamples {w : World} {B : Nat} {v : Value} {ls : List Sam} (h : ownSamples w B v ls) : readsSamples w w.heap.size v ls := by
  obtain ⟨ao, cp, e⟩ := own_shape h
  refine ⟨ao, cp, e, fun i hi => ?_⟩
  rcases h.2 with ⟨rfl, h0⟩ | ⟨g, cap, cur, rfl, h1, h2, h3⟩
  · omega
  · simp at e
    have hc := World.ownsRow.cells h (g := g) rfl
    have ha := samCells_at ls i hi
    refine ⟨g, 0, e.1.symm, lt_of_block h2, ?_, ?_⟩
    · have := hc _ _ ha.1
      rw [Addr.add_lit] at this
      simpa using this
    · have := hc _ _ ha.2
      rw [Addr.add_lit] at this
      simpa using this
/-- A row of series that a call owns, with the rows of each. -/
def ownSeries (w : World) (B : Nat) (v : Value) (ls : List Ser) : Prop :=
  ∃ vs : List (Value × Value), vs.length = ls.length ∧ w.ownsRow B 41 2 v ls.length (pairCells vs) ∧ ∀ (i : Nat) (x : Value × Value) (s : Ser), vs[i]? = some x → ls[i]? = some s → ownLabels w B x.1 s.1 ∧ ownSamples w B x.2 s.2
theorem reads_ownSeries {w : World} {B : Nat} {v : Value} {ls : List Ser} (h : ownSeries w B v ls) : readsSeries w w.heap.size v ls := by
  obtain ⟨vs, hl, h, hall⟩ := h
  obtain ⟨ao, cp, e⟩ := own_shape h
  refine ⟨ao, cp, e, fun i hi => ?_⟩
  rcases h.2 with ⟨rfl, h0⟩ | ⟨g, cap, cur, rfl, h1, h2, h3⟩
  · omega
  · simp at e
    have hc := World.ownsRow.cells h (g := g) rfl
    have ha := pairCells_at vs i (by omega)
    obtain ⟨k1, k2⟩ := hall i vs[i] ls[i] (List.getElem?_eq_getElem (by omega)) (List.getElem?_eq_getElem hi)
    refine ⟨g, 0, vs[i].1, vs[i].2, e.1.symm, lt_of_block h2, ?_, ?_, reads_ownLabels k1, reads_ownSamples k2⟩
    · have := hc _ _ ha.1
      rw [Addr.add_lit] at this
      simpa using this
    · have := hc _ _ ha.2
      rw [Addr.add_lit] at this
      simpa using this
theorem ownSeries_grow {w w' : World} {B : Nat} {v : Value} {ls : List Ser} (h : ownSeries w B v ls) (hg : Grow w w') : ownSeries w' B v ls := by
  obtain ⟨vs, hl, h, hall⟩ := h
  exact ⟨vs, hl, own_grow h hg, fun i x s h1 h2 => ⟨own_grow (hall i x s h1 h2).1 hg, own_grow (hall i x s h1 h2).2 hg⟩⟩
theorem ownSeries_nil (w : World) (B : Nat) : ownSeries w B (.slice none 0 0) [] := ⟨[], rfl, World.ownsRow_nil _ _ _ _, fun i x s h => by simp at h⟩
end Go.Proofs.YtmdakfmecfcbhaaGreat
namespace Go.Proofs.YtmdakfmecfcbhaaGreat
open Go.RowKit
attribute [local go_sem] bs_size bs_toList bs_append bs_get bs_extract
/-- An unpacker in a block: what is left, what it is to make, what it made. -/
def unpAt (w : World) (B ub : Nat) (r : List UInt8) (told : Int) (made : List UInt8) : Prop :=
  B ≤ w.heap.size ∧ ∃ v, w.heap[ub]? = some (.cells #[.string (bs r), .int .i64 told, v] 92 (0, 0)) ∧ w.ownsRow B 5 1 v made.length (bytesV made)
set_option maxRecDepth 20000 in
set_option maxHeartbeats 1000000 in
theorem room_any (w : World) (B ub n : Nat) (r made : List UInt8) (told : Int) (hu : unpAt w B ub r told made) (hm : made.length ≤ 1000000) (ht : 0 ≤ told ∧ told ≤ 1000000) :
    Calls Tryz.prog 131 #[.pointer (some ⟨ub, 0, none⟩), .int .i64 n] w fun e w' => (∃ k, w' = w.drewN k) ∧ (((n : Int) + made.length ≤ told ∧ e = .returned (.tuple #[])) ∨ (told < (n : Int) + made.length ∧ e = gaveUp 1)) := by
  obtain ⟨hB, v, hb, ho⟩ := hu
  obtain ⟨ao, cp, rfl⟩ := own_shape ho
  obtain ⟨c0, c1, c2, _⟩ := three_cells hb
  go_enter Tryz.func131, Tryz.ntmps131
  by_cases h : (n : Int) + made.length ≤ told
  · have h' : ¬ (told - (made.length : Int) < n) := by omega
    go_wp2
    go_quiet (fail)
    go_wp2
    go_end0
    exact ⟨⟨_, rfl⟩, .inl ⟨h, rfl⟩⟩
  · have h' : told - (made.length : Int) < n := by omega
    go_wp2
    go_quiet (fail)
    go_wp2
    exact ⟨rfl, ⟨_, rfl⟩, .inr ⟨by omega, rfl⟩⟩
/-- The same, with the row's value. -/
def unpIs (w : World) (B ub : Nat) (r : List UInt8) (told : Int) (v : Value) (made : List UInt8) : Prop :=
  B ≤ w.heap.size ∧ w.heap[ub]? = some (.cells #[.string (bs r), .int .i64 told, v] 92 (0, 0)) ∧ w.ownsRow B 5 1 v made.length (bytesV made)
theorem unpIs_set {w : World} {B ub : Nat} {r r' made : List UInt8} {told : Int} {v : Value} (h : unpIs w B ub r told v made) : unpIs (w.setCell ⟨ub, 0, none⟩ (.string (bs r'))) B ub r' told v made := by
  obtain ⟨hB, hb, ho⟩ := h
  exact ⟨by simpa [World.setCell] using hB, set_block hb _, ownsRow_setCell_other (a := ⟨ub, 0, none⟩) ho (own_apart ho hb (by decide)) _⟩
set_option maxRecDepth 20000 in
set_option maxHeartbeats 1000000 in
theorem take_is (w : World) (B ub n : Nat) (r made : List UInt8) (told : Int) (v : Value) (hu : unpIs w B ub r told v made) (hr : r.length ≤ 9223372036854775807) :
    Calls Tryz.prog 130 #[.pointer (some ⟨ub, 0, none⟩), .int .i64 n] w fun e w' => KeptX B ub w w' ∧
      ((n ≤ r.length ∧ e = .returned (.string (bs (r.take n))) ∧ unpIs w' B ub (r.drop n) told v made) ∨ (r.length < n ∧ e = gaveUp 1)) := by
  obtain ⟨hB, hb, ho⟩ := hu
  obtain ⟨ao, cp, rfl⟩ := own_shape ho
  obtain ⟨c0, c1, c2, z0, z1, z2⟩ := three_cells hb
  go_enter Tryz.func130, Tryz.ntmps130
  by_cases h : n ≤ r.length
  · have h' : ¬ (r.length : Int) < n := by omega
    go_wp2
    go_ret
    rw [take_self (l := r.drop n) (by rw [List.length_drop]; exact Nat.le_refl _)]
    exact ⟨(KeptX.refl _ _ _).setAt _ _, .inl ⟨rfl, unpIs_set ⟨hB, hb, ho⟩⟩⟩
  · have h' : (r.length : Int) < n := by omega
    go_wp2
    exact ⟨rfl, KeptX.refl _ _ _, .inr ⟨by omega, rfl⟩⟩
theorem take_any (w : World) (B ub n : Nat) (r made : List UInt8) (told : Int) (hu : unpAt w B ub r told made) (hr : r.length ≤ 9223372036854775807) :
    Calls Tryz.prog 130 #[.pointer (some ⟨ub, 0, none⟩), .int .i64 n] w fun e w' => KeptX B ub w w' ∧
      ((n ≤ r.length ∧ e = .returned (.string (bs (r.take n))) ∧ unpAt w' B ub (r.drop n) told made) ∨ (r.length < n ∧ e = gaveUp 1)) := by
  obtain ⟨hB, v, hb, ho⟩ := hu
  refine (take_is w B ub n r made told v ⟨hB, hb, ho⟩ hr).mono fun e w' ⟨hk, h⟩ => ⟨hk, ?_⟩
  rcases h with ⟨h1, h2, h3, h4, h5⟩ | h
  · exact .inl ⟨h1, h2, h3, v, h4, h5⟩
  · exact .inr h
theorem wrap64_small (x : Int) (h0 : -9223372036854775808 ≤ x) (h : x < 9223372036854775808) : wrap64 x = x := by unfold wrap64; omega
theorem bits_or_i64_nat (a b : Nat) (ha : a < 9223372036854775808) (hb : b < 9223372036854775808) : bits .or .i64 (a : Int) (b : Int) = ((a ||| b : Nat) : Int) := by
  have hx : a ||| b < 2 ^ 63 := Nat.or_lt_two_pow (by omega) (by omega)
  have h1 : (BitVec.ofInt 64 (a : Int)).toNat = a := by
    rw [BitVec.ofInt_natCast, BitVec.toNat_ofNat]; exact Nat.mod_eq_of_lt (by omega)
  have h2 : (BitVec.ofInt 64 (b : Int)).toNat = b := by
    rw [BitVec.ofInt_natCast, BitVec.toNat_ofNat]; exact Nat.mod_eq_of_lt (by omega)
  show IntKind.i64.wrap ((BitVec.ofInt 64 (a : Int) ||| BitVec.ofInt 64 (b : Int)).toNat : Int) = _
  rw [BitVec.toNat_or, h1, h2]
  exact wrap_i64_small _ (by omega) (by omega)
theorem bits_and_i64_nat (a b : Nat) (ha : a < 9223372036854775808) (hb : b < 9223372036854775808) : bits .and .i64 (a : Int) (b : Int) = ((a &&& b : Nat) : Int) := by
  have hx : a &&& b < 2 ^ 63 := Nat.and_lt_two_pow _ (by omega)
  have h1 : (BitVec.ofInt 64 (a : Int)).toNat = a := by
    rw [BitVec.ofInt_natCast, BitVec.toNat_ofNat]; exact Nat.mod_eq_of_lt (by omega)
  have h2 : (BitVec.ofInt 64 (b : Int)).toNat = b := by
    rw [BitVec.ofInt_natCast, BitVec.toNat_ofNat]; exact Nat.mod_eq_of_lt (by omega)
  show IntKind.i64.wrap ((BitVec.ofInt 64 (a : Int) &&& BitVec.ofInt 64 (b : Int)).toNat : Int) = _
  rw [BitVec.toNat_and, h1, h2]
  exact wrap_i64_small _ (by omega) (by omega)
theorem low_step_i (T : List UInt8) (j : Nat) (h : j < T.length) (hT : T.length ≤ 4) :
    bits .or .i64 (wrap64 (((lowB (T.drop (j + 1)) : Nat) : Int) * 256)) (T[j].toNat : Int) = ((lowB (T.drop j) : Nat) : Int) := by
  have h1 := lowB_drop T j h
  have h2 := lowB_drop_le T j
  have h3 := T[j].toNat_lt
  have h4 := lowB_lt T
  have h5 : 256 ^ T.length ≤ 256 ^ 4 := Nat.pow_le_pow_right (by omega) hT
  rw [wrap64_small _ (by omega) (by omega)]
  have h6 := bits_or_i64_nat (lowB (T.drop (j + 1)) * 256) T[j].toNat (by omega) (by omega)
  rw [or_add_256 _ _ h3] at h6
  rw [h1, ← h6]
  rfl
set_option maxRecDepth 20000 in
set_option maxHeartbeats 1000000 in
theorem unnum_any (w : World) (B ub n : Nat) (r made : List UInt8) (told : Int) (hu : unpAt w B ub r told made) (hr : r.length ≤ 9223372036854775807) (hn : n ≤ 4) :
    Calls Tryz.prog 111 #[.pointer (some ⟨ub, 0, none⟩), .int .i64 n] w fun e w' => KeptX B ub w w' ∧
      ((n ≤ r.length ∧ e = .returned (.int .i64 (lowB (r.take n))) ∧ unpAt w' B ub (r.drop n) told made) ∨ (r.length < n ∧ e = gaveUp 1)) := by
  go_enter Tryz.func111, Tryz.ntmps111
  go_wp2_with fail
  refine (take_any w B ub n r made told hu hr).mono ?_
  rintro e w1 ⟨hk, (⟨hle, rfl, hu1⟩ | ⟨hlt, rfl⟩)⟩
  · have HK := hide hk
    have HU := hide hu1
    have HT : Hid ((r.take n).length = n) := by show _ = _; rw [List.length_take]; omega
    clear hk hu1 hu
    obtain ⟨T, HTe⟩ : ∃ T, Hid (r.take n = T) := ⟨_, hide rfl⟩
    rw [HTe.out] at HT ⊢
    go_wp2
    go_loop [6, 7] (fun v i => ∃ (k : Int) (N : Nat), -1 ≤ k ∧ k < n ∧ i = .int .i64 k ∧ v = .int .i64 N ∧ Hid (N = lowB (T.drop (k + 1).toNat))) (fun _ i => (intOf i + 1).toNat)
    case atStart => exact ⟨(n : Int) - 1, 0, by omega, by omega, rfl, rfl, by show _ = _; rw [List.drop_eq_nil_of_le (by rw [HT.out]; omega)]; rfl⟩
    case round =>
      obtain ⟨k, N, hk1, hk2, rfl, rfl, HN⟩ := hrel
      by_cases hk : 0 ≤ k
      · obtain ⟨j, rfl⟩ := Int.eq_ofNat_of_zero_le hk
        have hjl : j < T.length := by rw [HT.out]; omega
        have HD : Hid (bits .or .i64 (wrap64 ((N : Int) * 256)) (wrap64 (T[j].toNat : Int)) = ((lowB (T.drop j) : Nat) : Int)) := by
          have h8 := low_step_i T j hjl (by rw [HT.out]; exact hn)
          have hc := T[j].toNat_lt
          show _ = _
          rw [wrap64_small (T[j].toNat : Int) (by omega) (by omega), HN.out]; exact h8
        go_wp2
        go_roundw
        case rel => exact ⟨(j : Int) - 1, lowB (T.drop j), by omega, by omega, rfl, by rw [HD.out], by show _ = _; rw [show ((j : Int) - 1 + 1).toNat = j from by omega]⟩
        case measure => simp [intOf]
      · go_wp2
        go_ret
        obtain rfl : k = -1 := by omega
        exact ⟨HK.out, .inl ⟨by rw [HTe.out, HN.out]; rfl, HU.out⟩⟩
  · exact ⟨rfl, hk, .inr ⟨hlt, rfl⟩⟩
/-- What holds while a plain element is made: ahead of the take and behind it, ahead of the append and behind it. -/
def plainJ (w : World) (B ub : Nat) (r made : List UInt8) (told : Int) (n : Nat) (v : Value) (b7 b8 : Bool) (x : Value) (w' : World) : Prop :=
  KeptX B ub w w' ∧ B ≤ w'.heap.size ∧ w'.heap[ub]? = some (.cells #[.string (bs (if b7 then r.drop n else r)), .int .i64 told, v] 92 (0, 0)) ∧
    (b8 = false → w'.ownsRow B 5 1 v made.length (bytesV made)) ∧ (b8 = true → w'.ownsRow B 5 1 x (made.length + n) (bytesV (made ++ r.take n)))
set_option maxRecDepth 20000 in
set_option maxHeartbeats 2000000 in
theorem plain_any (w : World) (B ub n : Nat) (r made : List UInt8) (told : Int) (hu : unpAt w B ub r told made) (hr : r.length ≤ 140737488355328) (hm : made.length ≤ 1000000) (ht : 0 ≤ told ∧ told ≤ 1000000) :
    Calls Tryz.prog 112 #[.pointer (some ⟨ub, 0, none⟩), .int .i64 n] w fun e w' => KeptX B ub w w' ∧
      (((n : Int) + made.length ≤ told ∧ n ≤ r.length ∧ e = .returned (.tuple #[]) ∧ unpAt w' B ub (r.drop n) told (made ++ r.take n)) ∨ (¬ ((n : Int) + made.length ≤ told ∧ n ≤ r.length) ∧ e = gaveUp 1)) := by
  go_enter Tryz.func112, Tryz.ntmps112
  go_wp2_with fail
  refine (room_any w B ub n r made told hu hm ht).mono ?_
  rintro e w1 ⟨⟨k, rfl⟩, (⟨h1, rfl⟩ | ⟨h1, rfl⟩)⟩
  · obtain ⟨hB, v, hb, ho⟩ := hu
    obtain ⟨ao, cp, rfl⟩ := own_shape ho
    obtain ⟨i0, hinf, hz0, hz1, hz2⟩ := info_parts Tryz.info5
    have HB := hide hb
    have HO := hide ho
    clear hb ho
    go_wp2
    by_cases hn : n ≤ r.length
    · have hnl : (r.take n).length = n := by rw [List.length_take]; omega
      refine wp_region_state 11 18 Tryz.mixed2 rfl (by decide +kernel) (fun L vals w' => plainJ w B ub r made told n (.slice ao made.length cp) (L 7) (L 8) (vals 8) w')
        (fun L vals h => ?_)
        (fun i v => match i with
          | 0 => v = .pointer (some ⟨ub, 0, none⟩)
          | 1 => v = .pointer (some ⟨ub, 0, none⟩)
          | 2 => v = .pointer (some ⟨ub, 0, none⟩)
          | 3 => v = .pointer (some ⟨ub, 2, none⟩)
          | 4 => v = .slice ao made.length cp
          | 5 => v = .pointer (some ⟨ub, 0, none⟩)
          | 6 => v = .int .i64 n
          | 7 => v = .string (bs (r.take n))
          | 8 => ∃ ao' cp', v = .slice ao' (made.length + n) cp'
          | 9 => v = .pointer (some ⟨ub, 0, none⟩)
          | _ => v = .pointer (some ⟨ub, 2, none⟩))
        (fun _ _ => False) (fun _ _ _ _ h => h.elim) (fun i hi o ho a w2 L vals hLi hLc hLe hJ hoff hval hdep => ?_) (fun vals w2 L hL hJ hvals => ?_)
      · simp only [h]
        exact ⟨⟨rfl, rfl, rfl, Nat.le_refl _, fun _ _ _ => rfl⟩, hB, HB.out, fun _ => HO.out, fun h => by cases h⟩
      · obtain ⟨hk, hB2, hblk, hown, hown2⟩ := id hJ
        obtain ⟨c0, c1, c2, z0, z1, z2⟩ := three_cells hblk
        match i, hi with
        | 0, _ =>
          obtain rfl := Option.some.inj ho
          have o0 := hoff 0 (by decide +kernel)
          simp at o0
          simp [opYields, go_sem, o0]
          exact hJ
        | 1, _ =>
          obtain rfl := Option.some.inj ho
          have o0 := hoff 0 (by decide +kernel)
          simp at o0
          simp [opYields, go_sem, o0]
          exact hJ
        | 2, _ =>
          obtain rfl := Option.some.inj ho
          have d1 := hdep 1 (by decide +kernel)
          simp [slotOf, dstOf] at d1
          simp [opYields, go_sem, d1]
          exact hJ
        | 3, _ =>
          obtain rfl := Option.some.inj ho
          have d2 := hdep 2 (by decide +kernel)
          simp [slotOf, dstOf] at d2
          simp [opYields, go_sem, d2]
          exact hJ
        | 4, _ =>
          obtain rfl := Option.some.inj ho
          have d3 := hdep 3 (by decide +kernel)
          simp [slotOf, dstOf] at d3
          simp [opYields, go_sem, d3, c2]
          exact hJ
        | 5, _ =>
          obtain rfl := Option.some.inj ho
          have o0 := hoff 0 (by decide +kernel)
          simp at o0
          simp [opYields, go_sem, o0]
          exact hJ
        | 6, _ =>
          obtain rfl := Option.some.inj ho
          have o1 := hoff 1 (by decide +kernel)
          simp at o1
          simp [opYields, go_sem, o1]
          exact hJ
        | 7, _ =>
          have h8 : L 8 = false := by
            cases h8 : L 8 with
            | false => rfl
            | true => have := hLc 8 h8 7 (by decide +kernel); rw [hLi] at this; cases this
          rw [hLi] at hblk
          have hown := hown h8
          obtain rfl := Option.some.inj ho
          have d5 := hdep 5 (by decide +kernel)
          have d6 := hdep 6 (by decide +kernel)
          simp [slotOf, dstOf] at d5 d6
          simp [opYields, go_sem, d5, d6]
          refine (take_is w2 B ub n r made told _ ⟨hB2, hblk, hown⟩ (by omega)).mono ?_
          rintro e w3 ⟨hk3, (⟨_, rfl, h4, h5, h6⟩ | ⟨h, _⟩)⟩
          · refine ⟨⟨hk.trans hk3, h4, h5, fun _ => h6, fun h => ?_⟩, rfl⟩
            rw [h8] at h
            cases h
          · omega
        | 8, _ =>
          have h7 := hLe 7 (by decide +kernel)
          rw [h7] at hblk
          have hown := hown hLi
          obtain rfl := Option.some.inj ho
          have d4 := hdep 4 (by decide +kernel)
          have d7 := hdep 7 (by decide +kernel)
          simp [slotOf, dstOf] at d4 d7
          obtain ⟨v', w3, hrun, hown3, hgrow, _⟩ := Lib.run_append_own_string (P := Tryz.prog) w2 B 63 9 63 5 i0 Tryz.underlying63 Tryz.underlying9 hinf hz0 hz1 hz2 _ made.length (bytesV made) hown (bs (r.take n)) (by rw [bs_size, hnl]; unfold maxLen; omega) (by rw [bs_size, hnl]; omega) hB2
          rw [bs_size, hnl, strCells_bs, ← bytesV_append] at hown3
          refine yields_append rfl (.tmp 11) (.tmp 14) _ _ rfl (v1 := .slice ao made.length cp) (v2 := .string (bs (r.take n))) (by simpa [Act.eval] using d4) (by simpa [Act.eval] using d7) hrun ?_
          obtain ⟨ao', cp', rfl⟩ := own_shape hown3
          have hbel : Below B w2 w3 := (Below.refl B w2).grown hgrow hB2 (fun k hk => (hown.lt k hk).1)
          refine ⟨⟨hk.trans (keptX_of hbel), by have := hbel.size; omega, ?_, fun h => by simp at h, fun _ => hown3⟩, ao', cp', rfl⟩
          simp only [h7]
          exact grown_block hgrow hblk (own_apart hown hblk (by decide))
        | 9, _ =>
          obtain rfl := Option.some.inj ho
          have d0 := hdep 0 (by decide +kernel)
          simp [slotOf, dstOf] at d0
          simp [opYields, go_sem, d0]
          exact hJ
        | 10, _ =>
          obtain rfl := Option.some.inj ho
          have d9 := hdep 9 (by decide +kernel)
          simp [slotOf, dstOf] at d9
          simp [opYields, go_sem, d9]
          exact hJ
      · have h7 := hL 7 (by omega)
        have h8 := hL 8 (by omega)
        obtain ⟨hk, hB2, hblk, _, hown2⟩ := hJ
        have hown2 := hown2 h8
        rw [h7] at hblk
        obtain ⟨ao', cp', v8⟩ := hvals 8 (by omega)
        have v10 := hvals 10 (by omega)
        simp only at v10
        rw [v8] at hown2
        clear hvals
        obtain ⟨c0, c1, c2, z0, z1, z2⟩ := three_cells hblk
        simp [over, dstOf, Act.put, v8, v10]
        go_wp2
        go_end0
        refine ⟨hk.setAt _ _, rfl, by simpa [World.setCell] using hB2, _, set_block hblk _, ?_⟩
        have := ownsRow_setCell_other (a := ⟨ub, 2, none⟩) hown2 (own_apart hown2 hblk (by decide)) (.slice ao' (made.length + n) cp')
        rw [List.length_append, hnl]
        exact this
    · refine wp_region_state 11 18 Tryz.mixed2 rfl (by decide +kernel) (fun L vals w' => plainJ w B ub r made told n (.slice ao made.length cp) false false (vals 8) w')
        (fun L vals h => ?_)
        (fun i v => match i with
          | 0 => v = .pointer (some ⟨ub, 0, none⟩)
          | 1 => v = .pointer (some ⟨ub, 0, none⟩)
          | 2 => v = .pointer (some ⟨ub, 0, none⟩)
          | 3 => v = .pointer (some ⟨ub, 2, none⟩)
          | 4 => v = .slice ao made.length cp
          | 5 => v = .pointer (some ⟨ub, 0, none⟩)
          | 6 => v = .int .i64 n
          | 7 => False
          | 8 => False
          | 9 => v = .pointer (some ⟨ub, 0, none⟩)
          | _ => v = .pointer (some ⟨ub, 2, none⟩))
        (fun ch w2 => Ending.panicked ch = gaveUp 1 ∧ KeptX B ub w w2) (fun ch a w2 hd hq => ?_) (fun i hi o ho a w2 L vals hLi hLc hLe hJ hoff hval hdep => ?_) (fun vals w2 L hL hJ hvals => (hvals 7 (by omega)).elim)
      · exact ⟨⟨rfl, rfl, rfl, Nat.le_refl _, fun _ _ _ => rfl⟩, hB, HB.out, fun _ => HO.out, fun h => by cases h⟩
      · obtain ⟨hq1, hq2⟩ := hq
        simp only [Ending.panicked.injEq] at hq1
        subst hq1
        exact ⟨hd, hq2, .inr ⟨fun h => hn h.2, rfl⟩⟩
      · obtain ⟨hk, hB2, hblk, hown, hown2⟩ := id hJ
        obtain ⟨c0, c1, c2, z0, z1, z2⟩ := three_cells hblk
        have hJ2 : ∀ i v, plainJ w B ub r made told n (.slice ao made.length cp) false false (if 8 = i then v else vals 8) w2 := fun i v => ⟨hk, hB2, hblk, hown, fun h => by cases h⟩
        match i, hi with
        | 0, _ =>
          obtain rfl := Option.some.inj ho
          have o0 := hoff 0 (by decide +kernel)
          simp at o0
          simp [opYields, go_sem, o0]
          exact hJ
        | 1, _ =>
          obtain rfl := Option.some.inj ho
          have o0 := hoff 0 (by decide +kernel)
          simp at o0
          simp [opYields, go_sem, o0]
          exact hJ
        | 2, _ =>
          obtain rfl := Option.some.inj ho
          have d1 := hdep 1 (by decide +kernel)
          simp [slotOf, dstOf] at d1
          simp [opYields, go_sem, d1]
          exact hJ
        | 3, _ =>
          obtain rfl := Option.some.inj ho
          have d2 := hdep 2 (by decide +kernel)
          simp [slotOf, dstOf] at d2
          simp [opYields, go_sem, d2]
          exact hJ
        | 4, _ =>
          obtain rfl := Option.some.inj ho
          have d3 := hdep 3 (by decide +kernel)
          simp [slotOf, dstOf] at d3
          simp [opYields, go_sem, d3, c2]
          exact hJ
        | 5, _ =>
          obtain rfl := Option.some.inj ho
          have o0 := hoff 0 (by decide +kernel)
          simp at o0
          simp [opYields, go_sem, o0]
          exact hJ
        | 6, _ =>
          obtain rfl := Option.some.inj ho
          have o1 := hoff 1 (by decide +kernel)
          simp at o1
          simp [opYields, go_sem, o1]
          exact hJ
        | 7, _ =>
          have hown := hown rfl
          obtain rfl := Option.some.inj ho
          have d5 := hdep 5 (by decide +kernel)
          have d6 := hdep 6 (by decide +kernel)
          simp [slotOf, dstOf] at d5 d6
          simp [opYields, go_sem, d5, d6]
          refine (take_is w2 B ub n r made told _ ⟨hB2, hblk, hown⟩ (by omega)).mono ?_
          rintro e w3 ⟨hk3, (⟨h, _⟩ | ⟨_, rfl⟩)⟩
          · omega
          · exact ⟨rfl, hk.trans hk3⟩
        | 8, _ => exact (hdep 7 (by decide +kernel)).elim
        | 9, _ =>
          obtain rfl := Option.some.inj ho
          have d0 := hdep 0 (by decide +kernel)
          simp [slotOf, dstOf] at d0
          simp [opYields, go_sem, d0]
          exact hJ
        | 10, _ =>
          obtain rfl := Option.some.inj ho
          have d9 := hdep 9 (by decide +kernel)
          simp [slotOf, dstOf] at d9
          simp [opYields, go_sem, d9]
          exact hJ
  · exact ⟨rfl, ⟨rfl, rfl, rfl, Nat.le_refl _, fun _ _ _ => rfl⟩, .inr ⟨by omega, rfl⟩⟩
/-- Bytes from back, one by one. -/
def copyB (back : Nat) : Nat → List UInt8 → List UInt8
  | 0, m => m
  | n + 1, m => copyB back n (m ++ [m.getD (m.length - back) 0])
theorem copyB_length (back : Nat) : ∀ (n : Nat) (m : List UInt8), (copyB back n m).length = m.length + n
  | 0, m => rfl
  | n + 1, m => by rw [copyB, copyB_length back n]; simp; omega
theorem copyB_snoc (back : Nat) : ∀ (n : Nat) (m : List UInt8), copyB back (n + 1) m = copyB back n m ++ [(copyB back n m).getD ((copyB back n m).length - back) 0]
  | 0, m => rfl
  | n + 1, m => by
    have := copyB_snoc back n (m ++ [m.getD (m.length - back) 0])
    rw [copyB, this]
    rfl
/-- What holds while a byte from back is put behind: ahead of the append and behind it. -/
def againJ (w : World) (B ub : Nat) (r made : List UInt8) (told : Int) (c : UInt8) (v : Value) (b18 b19 : Bool) (x18 x19 : Value) (w' : World) : Prop :=
  KeptX B ub w w' ∧ B ≤ w'.heap.size ∧ w'.heap[ub]? = some (.cells #[.string (bs r), .int .i64 told, v] 92 (0, 0)) ∧
    (b19 = false → w'.ownsRow B 5 1 v made.length (bytesV made)) ∧ (b18 = true → b19 = false → ∃ g, x18 = .slice (some ⟨g, 0, none⟩) 1 1 ∧ w'.heap[g]? = some (.cells #[.int .u8 c.toNat] 5 (0, 0))) ∧
    (b19 = true → w'.ownsRow B 5 1 x19 (made.length + 1) (bytesV (made ++ [c])))
set_option maxRecDepth 20000 in
set_option maxHeartbeats 4000000 in
theorem again_any (w : World) (B ub n back : Nat) (r made : List UInt8) (told : Int) (hub : ub < B) (hu : unpAt w B ub r told made) (hn : n ≤ 1000000) (hm : made.length ≤ 1000000) (ht : 0 ≤ told ∧ told ≤ 1000000) (hback : back ≤ 9223372036854775807) :
    Calls Tryz.prog 113 #[.pointer (some ⟨ub, 0, none⟩), .int .i64 n, .int .i64 back] w fun e w' => KeptX B ub w w' ∧
      (((n : Int) + made.length ≤ told ∧ 1 ≤ back ∧ back ≤ made.length ∧ e = .returned (.tuple #[]) ∧ unpAt w' B ub r told (copyB back n made)) ∨ (¬ ((n : Int) + made.length ≤ told ∧ 1 ≤ back ∧ back ≤ made.length) ∧ e = gaveUp 1)) := by
  go_enter Tryz.func113, Tryz.ntmps113
  go_wp2_with fail
  refine (room_any w B ub n r made told hu hm ht).mono ?_
  rintro e w1 ⟨⟨k, rfl⟩, (⟨h1, rfl⟩ | ⟨h1, rfl⟩)⟩
  · obtain ⟨hB, v, hb, ho⟩ := id hu
    obtain ⟨ao, cp, rfl⟩ := own_shape ho
    obtain ⟨c0, c1, c2, z0, z1, z2⟩ := three_cells hb
    by_cases g1 : 1 ≤ back
    · have g1' : ¬ (back : Int) < 1 := by omega
      by_cases g2 : back ≤ made.length
      · have g2' : ¬ (made.length : Int) < back := by omega
        have HU := hide hu
        clear hb ho hu
        go_wp2
        go_loopw [22] (fun i wr => ∃ q : Nat, q ≤ n ∧ i = .int .i64 q ∧ KeptX B ub w wr ∧ unpAt wr B ub r told (copyB back q made)) (fun i _ => n - (intOf i).toNat)
        case atStart => exact ⟨0, by omega, rfl, ⟨rfl, rfl, rfl, Nat.le_refl _, fun _ _ _ => rfl⟩, HU.out⟩
        case round =>
          obtain ⟨q, hq, rfl, hkr, hur⟩ := hrel
          rename World => wr
          clear c0 c1 c2 z0 z1 z2
          by_cases hlt : q < n
          · have hml := copyB_length back q made
            have HSn : Hid (copyB back (q + 1) made = copyB back q made ++ [(copyB back q made).getD ((copyB back q made).length - back) 0]) := copyB_snoc back q made
            obtain ⟨M, HM⟩ : ∃ M, Hid (copyB back q made = M) := ⟨_, hide rfl⟩
            rw [HM.out] at hml hur HSn
            obtain ⟨hBr, v, hbr, hor⟩ := hur
            obtain ⟨ao', cp', rfl⟩ := own_shape hor
            obtain ⟨x, hx⟩ : ∃ x, x = M.length - back := ⟨_, rfl⟩
            have hxl : x < M.length := by omega
            have hxi : (M.length : Int) - (back : Int) = (x : Int) := by omega
            have HC : Hid (M.getD (M.length - back) 0 = M[x]) := by show _ = _; rw [← hx]; exact getD_get M x hxl
            obtain ⟨gm, rfl⟩ : ∃ gm, ao' = some ⟨gm, 0, none⟩ := by
              rcases hor.2 with ⟨_, h0⟩ | ⟨g, cap, cur, e, _⟩
              · omega
              · simp at e; exact ⟨g, e.1⟩
            obtain ⟨i0, hinf, hz0, hz1, hz2⟩ := info_parts Tryz.info5
            have HB := hide hbr
            have HO := hide hor
            clear hbr hor
            go_wp2
            refine wp_region_state 22 47 Tryz.mixed2 rfl (by decide +kernel) (fun L vals w' => againJ wr B ub r M told M[x] (.slice (some ⟨gm, 0, none⟩) M.length cp') (L 18) (L 19) (vals 18) (vals 19) w')
              (fun L vals h => ?_)
              (fun i v => match i with
                | 0 => v = .pointer (some ⟨ub, 0, none⟩)
                | 1 => v = .pointer (some ⟨ub, 0, none⟩)
                | 2 => v = .pointer (some ⟨ub, 0, none⟩)
                | 3 => v = .pointer (some ⟨ub, 2, none⟩)
                | 4 => v = .slice (some ⟨gm, 0, none⟩) M.length cp'
                | 5 => v = .pointer (some ⟨ub, 0, none⟩)
                | 6 => v = .pointer (some ⟨ub, 0, none⟩)
                | 7 => v = .pointer (some ⟨ub, 2, none⟩)
                | 8 => v = .slice (some ⟨gm, 0, none⟩) M.length cp'
                | 9 => v = .pointer (some ⟨ub, 0, none⟩)
                | 10 => v = .pointer (some ⟨ub, 0, none⟩)
                | 11 => v = .pointer (some ⟨ub, 2, none⟩)
                | 12 => v = .slice (some ⟨gm, 0, none⟩) M.length cp'
                | 13 => v = .int .i64 M.length
                | 14 => v = .int .i64 back
                | 15 => v = .int .i64 x
                | 16 => v = .pointer (some ⟨gm, x, none⟩)
                | 17 => v = .int .u8 (M[x].toNat : Int)
                | 18 => ∃ g, v = .slice (some ⟨g, 0, none⟩) 1 1
                | 19 => ∃ ao' cp', v = .slice ao' (M.length + 1) cp'
                | 20 => v = .pointer (some ⟨ub, 0, none⟩)
                | _ => v = .pointer (some ⟨ub, 2, none⟩))
              (fun _ _ => False) (fun _ _ _ _ h => h.elim) (fun i hi o ho a w2 L vals hLi hLc hLe hJ hoff hval hdep => ?_) (fun vals w2 L hL hJ hvals => ?_)
            · simp only [h]
              exact ⟨⟨rfl, rfl, rfl, Nat.le_refl _, fun _ _ _ => rfl⟩, hBr, HB.out, fun _ => HO.out, fun h => by simp at h, fun h => by simp at h⟩
            · obtain ⟨hk, hB2, hblk, hown, hone, hown2⟩ := id hJ
              obtain ⟨c0, c1, c2, z0, z1, z2⟩ := three_cells hblk
              have step : ∀ i v, i ≠ 18 → i ≠ 19 → againJ wr B ub r M told M[x] (.slice (some ⟨gm, 0, none⟩) M.length cp') (decide (18 = i) || L 18) (decide (19 = i) || L 19) (if 18 = i then v else vals 18) (if 19 = i then v else vals 19) w2 := fun i v h1 h2 => by
                have e1 : ¬ 18 = i := fun h => h1 h.symm
                have e2 : ¬ 19 = i := fun h => h2 h.symm
                simpa [e1, e2] using hJ
              match i, hi with
              | 0, _ =>
                obtain rfl := Option.some.inj ho
                have o0 := hoff 0 (by decide +kernel)
                simp at o0
                simp [opYields, go_sem, o0]
                exact hJ
              | 1, _ =>
                obtain rfl := Option.some.inj ho
                have o0 := hoff 0 (by decide +kernel)
                simp at o0
                simp [opYields, go_sem, o0]
                exact hJ
              | 2, _ =>
                obtain rfl := Option.some.inj ho
                have d1 := hdep 1 (by decide +kernel)
                simp [slotOf, dstOf] at d1
                simp [opYields, go_sem, d1]
                exact hJ
              | 3, _ =>
                obtain rfl := Option.some.inj ho
                have d2 := hdep 2 (by decide +kernel)
                simp [slotOf, dstOf] at d2
                simp [opYields, go_sem, d2]
                exact hJ
              | 4, _ =>
                obtain rfl := Option.some.inj ho
                have d3 := hdep 3 (by decide +kernel)
                simp [slotOf, dstOf] at d3
                simp [opYields, go_sem, d3, c2]
                exact hJ
              | 5, _ =>
                obtain rfl := Option.some.inj ho
                have o0 := hoff 0 (by decide +kernel)
                simp at o0
                simp [opYields, go_sem, o0]
                exact hJ
              | 6, _ =>
                obtain rfl := Option.some.inj ho
                have d5 := hdep 5 (by decide +kernel)
                simp [slotOf, dstOf] at d5
                simp [opYields, go_sem, d5]
                exact hJ
              | 7, _ =>
                obtain rfl := Option.some.inj ho
                have d6 := hdep 6 (by decide +kernel)
                simp [slotOf, dstOf] at d6
                simp [opYields, go_sem, d6]
                exact hJ
              | 8, _ =>
                obtain rfl := Option.some.inj ho
                have d7 := hdep 7 (by decide +kernel)
                simp [slotOf, dstOf] at d7
                simp [opYields, go_sem, d7, c2]
                exact hJ
              | 9, _ =>
                obtain rfl := Option.some.inj ho
                have o0 := hoff 0 (by decide +kernel)
                simp at o0
                simp [opYields, go_sem, o0]
                exact hJ
              | 10, _ =>
                obtain rfl := Option.some.inj ho
                have d9 := hdep 9 (by decide +kernel)
                simp [slotOf, dstOf] at d9
                simp [opYields, go_sem, d9]
                exact hJ
              | 11, _ =>
                obtain rfl := Option.some.inj ho
                have d10 := hdep 10 (by decide +kernel)
                simp [slotOf, dstOf] at d10
                simp [opYields, go_sem, d10]
                exact hJ
              | 12, _ =>
                obtain rfl := Option.some.inj ho
                have d11 := hdep 11 (by decide +kernel)
                simp [slotOf, dstOf] at d11
                simp [opYields, go_sem, d11, c2]
                exact hJ
              | 13, _ =>
                obtain rfl := Option.some.inj ho
                have d12 := hdep 12 (by decide +kernel)
                simp [slotOf, dstOf] at d12
                simp [opYields, go_sem, d12]
                exact hJ
              | 14, _ =>
                obtain rfl := Option.some.inj ho
                have o2 := hoff 2 (by decide +kernel)
                simp at o2
                simp [opYields, go_sem, o2]
                exact hJ
              | 15, _ =>
                obtain rfl := Option.some.inj ho
                have d13 := hdep 13 (by decide +kernel)
                simp [slotOf, dstOf] at d13
                have d14 := hdep 14 (by decide +kernel)
                simp [slotOf, dstOf] at d14
                simp [opYields, go_sem, d13, d14, hxi]
                exact ⟨hJ, wrap_i64_small _ (by omega) (by omega)⟩
              | 16, _ =>
                obtain rfl := Option.some.inj ho
                have d8 := hdep 8 (by decide +kernel)
                simp [slotOf, dstOf] at d8
                have d15 := hdep 15 (by decide +kernel)
                simp [slotOf, dstOf] at d15
                simp [opYields, go_sem, d8, d15, hxl]
                exact hJ
              | 17, _ =>
                have h19 : L 19 = false := by
                  cases h19 : L 19 with
                  | false => rfl
                  | true => have := hLc 18 (hLc 19 h19 18 (by decide +kernel)) 17 (by decide +kernel); rw [hLi] at this; cases this
                have hcell := World.ownsRow.cells (hown h19) (g := gm) rfl x (.int .u8 (M[x].toNat : Int)) (by simp [bytesV, hxl])
                rw [Addr.add_lit] at hcell
                simp only [Nat.zero_add] at hcell
                obtain rfl := Option.some.inj ho
                have d16 := hdep 16 (by decide +kernel)
                simp [slotOf, dstOf] at d16
                simp [opYields, go_sem, d16, hcell]
                exact hJ
              | 18, _ =>
                have h19 : L 19 = false := by
                  cases h19 : L 19 with
                  | false => rfl
                  | true => have := hLc 19 h19 18 (by decide +kernel); rw [hLi] at this; cases this
                obtain rfl := Option.some.inj ho
                have d17 := hdep 17 (by decide +kernel)
                simp [slotOf, dstOf] at d17
                simp [opYields, go_sem, d17]
                refine ⟨hk.trans (keptX_of ((Below.refl B w2).alloc hB2 _)), by simp; omega, ?_, fun _ => World.ownsRow.alloc (hown h19) _, fun _ _ => ⟨_, rfl, heap_alloc_new _ _⟩, fun h => by rw [h19] at h; cases h⟩
                rw [Below.heap_alloc _ _ _ (lt_of_block hblk)]
                exact hblk
              | 19, _ =>
                have h18 := hLe 18 (by decide +kernel)
                have hown := hown hLi
                obtain ⟨g, e18, hg⟩ := hone h18 hLi
                have s18 := hval 18 (by decide +kernel)
                rw [e18] at s18
                obtain rfl := Option.some.inj ho
                have d4 := hdep 4 (by decide +kernel)
                simp [slotOf, dstOf] at d4 s18
                obtain ⟨v', w3, hrun, hown3, hgrow, _⟩ := run_append_own (P := Tryz.prog) w2 B 63 63 5 i0 (.int .u8 0) 1 1 Tryz.underlying63 hinf hz0 hz1 hz2 rfl (by omega) _ M.length (bytesV M) hown ⟨g, 0, none⟩ 1 1 [.int .u8 (M[x].toNat : Int)] rfl (fun j u hu => by
                  match j, hu with
                  | 0, hu => simp at hu; subst hu; simpa [Addr.add] using cell_of_one hg) (by simp [Value.oneCell']) (by unfold maxLen; omega) (by omega) hB2
                rw [← bytesV_one, ← bytesV_append] at hown3
                refine yields_append rfl (.tmp 28) (.tmp 42) _ _ rfl (v1 := .slice (some ⟨gm, 0, none⟩) M.length cp') (v2 := .slice (some ⟨g, 0, none⟩) 1 1) (by simpa [Act.eval] using d4) (by simpa [Act.eval] using s18) hrun ?_
                obtain ⟨ao2, cp2, rfl⟩ := own_shape hown3
                have hbel : Below B w2 w3 := (Below.refl B w2).grown hgrow hB2 (fun k hk => (hown.lt k hk).1)
                exact ⟨⟨hk.trans (keptX_of hbel), by have := hbel.size; omega, grown_block hgrow hblk (own_apart hown hblk (by decide)), fun h => by simp at h, fun _ h => by simp at h, fun _ => hown3⟩, ao2, cp2, rfl⟩
              | 20, _ =>
                obtain rfl := Option.some.inj ho
                have d0 := hdep 0 (by decide +kernel)
                simp [slotOf, dstOf] at d0
                simp [opYields, go_sem, d0]
                exact hJ
              | 21, _ =>
                obtain rfl := Option.some.inj ho
                have d20 := hdep 20 (by decide +kernel)
                simp [slotOf, dstOf] at d20
                simp [opYields, go_sem, d20]
                exact hJ
              | n + 22, hi => omega
            · clear hml
              have h19 := hL 19 (by omega)
              obtain ⟨hk, hB2, hblk, _, _, hown2⟩ := hJ
              have hown2 := hown2 h19
              obtain ⟨ao2, cp2, v19⟩ := hvals 19 (by omega)
              have v21 := hvals 21 (by omega)
              simp only at v21
              rw [v19] at hown2
              clear hvals
              obtain ⟨c0, c1, c2, z0, z1, z2⟩ := three_cells hblk
              simp [over, dstOf, Act.put, v19, v21]
              go_wp2
              go_roundw
              case rel =>
                refine ⟨q + 1, by omega, by go_num, hkr.trans (hk.setAt _ _), by simpa [World.setCell] using hB2, _, set_block hblk _, ?_⟩
                have := ownsRow_setCell_other (a := ⟨ub, 2, none⟩) hown2 (own_apart hown2 hblk (by decide)) (.slice ao2 (M.length + 1) cp2)
                rw [HSn.out, HC.out, List.length_append]
                exact this
              case measure => simp [intOf]; omega
          · have hqn : q = n := by omega
            subst hqn
            have HK := hide hkr
            have HU2 := hide hur
            clear hkr hur
            go_wp2
            go_end0
            exact ⟨HK.out, .inl ⟨h1, g1, g2, rfl, HU2.out⟩⟩
      · have g2' : (made.length : Int) < back := by omega
        go_wp2
        exact ⟨rfl, ⟨rfl, rfl, rfl, Nat.le_refl _, fun _ _ _ => rfl⟩, .inr ⟨by omega, rfl⟩⟩
    · have g1' : (back : Int) < 1 := by omega
      go_wp2
      exact ⟨rfl, ⟨rfl, rfl, rfl, Nat.le_refl _, fun _ _ _ => rfl⟩, .inr ⟨by omega, rfl⟩⟩
  · exact ⟨rfl, ⟨rfl, rfl, rfl, Nat.le_refl _, fun _ _ _ => rfl⟩, .inr ⟨by omega, rfl⟩⟩
/-- A number of n bytes at a beginning, and what is behind it. -/
def cutLow (n : Nat) (r : List UInt8) : Option (Nat × List UInt8) := if n ≤ r.length then some (lowB (r.take n), r.drop n) else none
def plainB (told n : Nat) (r made : List UInt8) : Option (List UInt8 × List UInt8) := if n + made.length ≤ told ∧ n ≤ r.length then some (r.drop n, made ++ r.take n) else none
def againB (told n back : Nat) (r made : List UInt8) : Option (List UInt8 × List UInt8) := if n + made.length ≤ told ∧ 1 ≤ back ∧ back ≤ made.length then some (r, copyB back n made) else none
/-- An element: what is left behind it, and what is made with it. -/
def elemB (told : Nat) (r made : List UInt8) : Option (List UInt8 × List UInt8) :=
  match cutLow 1 r with
  | none => none
  | some (h, r1) =>
    if h % 4 = 0 then
      if 60 ≤ h / 4 then
        match cutLow (h / 4 - 59) r1 with
        | none => none
        | some (m, r2) => plainB told (m + 1) r2 made
      else plainB told (h / 4 + 1) r1 made
    else if h % 4 = 1 then
      match cutLow 1 r1 with
      | none => none
      | some (b, r2) => againB told (h / 4 % 8 + 4) (h / 32 * 256 + b) r2 made
    else if h % 4 = 2 then
      match cutLow 2 r1 with
      | none => none
      | some (b, r2) => againB told (h / 4 + 1) b r2 made
    else
      match cutLow 4 r1 with
      | none => none
      | some (b, r2) => againB told (h / 4 + 1) b r2 made
theorem cutLow_some {n m : Nat} {r r' : List UInt8} (h : cutLow n r = some (m, r')) : n ≤ r.length ∧ m = lowB (r.take n) ∧ r' = r.drop n ∧ m < 256 ^ n ∧ r'.length + n = r.length := by
  unfold cutLow at h
  split at h
  · rename_i hn
    simp at h
    obtain ⟨rfl, rfl⟩ := h
    have := lowB_lt (r.take n)
    rw [List.length_take, Nat.min_eq_left hn] at this
    exact ⟨hn, rfl, rfl, this, by rw [List.length_drop]; omega⟩
  · simp at h
theorem unnum_some (w : World) (B ub n m : Nat) (r r' made : List UInt8) (told : Int) (hu : unpAt w B ub r told made) (hr : r.length ≤ 140737488355328) (hn : n ≤ 4) (h : cutLow n r = some (m, r')) :
    Calls Tryz.prog 111 #[.pointer (some ⟨ub, 0, none⟩), .int .i64 n] w fun e w' => KeptX B ub w w' ∧ e = .returned (.int .i64 m) ∧ unpAt w' B ub r' told made := by
  obtain ⟨h1, rfl, rfl, _⟩ := cutLow_some h
  refine (unnum_any w B ub n r made told hu (by omega) hn).mono fun e w' ⟨hk, h⟩ => ?_
  rcases h with ⟨_, h2, h3⟩ | ⟨h2, _⟩
  · exact ⟨hk, h2, h3⟩
  · omega
theorem unnum_none (w : World) (B ub n : Nat) (r made : List UInt8) (told : Int) (hu : unpAt w B ub r told made) (hr : r.length ≤ 140737488355328) (hn : n ≤ 4) (h : cutLow n r = none) :
    Calls Tryz.prog 111 #[.pointer (some ⟨ub, 0, none⟩), .int .i64 n] w fun e w' => KeptX B ub w w' ∧ e = gaveUp 1 := by
  unfold cutLow at h
  refine (unnum_any w B ub n r made told hu (by omega) hn).mono fun e w' ⟨hk, h'⟩ => ?_
  rcases h' with ⟨h1, _⟩ | ⟨_, h2⟩
  · rw [if_pos h1] at h; cases h
  · exact ⟨hk, h2⟩
theorem plain_is (w : World) (B ub n told : Nat) (r made : List UInt8) (hu : unpAt w B ub r told made) (hr : r.length ≤ 140737488355328) (hm : made.length ≤ 1000000) (ht : told ≤ 1000000) :
    Calls Tryz.prog 112 #[.pointer (some ⟨ub, 0, none⟩), .int .i64 n] w fun e w' => KeptX B ub w w' ∧
      ((∃ r' m', plainB told n r made = some (r', m') ∧ e = .returned (.tuple #[]) ∧ unpAt w' B ub r' told m') ∨ (plainB told n r made = none ∧ e = gaveUp 1)) := by
  refine (plain_any w B ub n r made told hu hr hm ⟨by omega, by omega⟩).mono fun e w' ⟨hk, h⟩ => ⟨hk, ?_⟩
  unfold plainB
  rcases h with ⟨h1, h2, h3, h4⟩ | ⟨h1, h2⟩
  · exact .inl ⟨_, _, by rw [if_pos ⟨by omega, h2⟩], h3, h4⟩
  · exact .inr ⟨by rw [if_neg (fun h => h1 ⟨by omega, h.2⟩)], h2⟩
theorem again_is (w : World) (B ub n back told : Nat) (r made : List UInt8) (hub : ub < B) (hu : unpAt w B ub r told made) (hn : n ≤ 1000000) (hm : made.length ≤ 1000000) (ht : told ≤ 1000000) (hback : back ≤ 9223372036854775807) :
    Calls Tryz.prog 113 #[.pointer (some ⟨ub, 0, none⟩), .int .i64 n, .int .i64 back] w fun e w' => KeptX B ub w w' ∧
      ((∃ r' m', againB told n back r made = some (r', m') ∧ e = .returned (.tuple #[]) ∧ unpAt w' B ub r' told m') ∨ (againB told n back r made = none ∧ e = gaveUp 1)) := by
  refine (again_any w B ub n back r made told hub hu hn hm ⟨by omega, by omega⟩ hback).mono fun e w' ⟨hk, h⟩ => ⟨hk, ?_⟩
  unfold againB
  rcases h with ⟨h1, h2, h3, h4, h5⟩ | ⟨h1, h2⟩
  · exact .inl ⟨_, _, by rw [if_pos ⟨by omega, h2, h3⟩], h4, h5⟩
  · exact .inr ⟨by rw [if_neg (fun h => h1 ⟨by omega, h.2.1, h.2.2⟩)], h2⟩
theorem and3_i (h : Nat) (hh : h < 256) : bits .and .i64 (h : Int) 3 = ((h % 4 : Nat) : Int) := by
  rw [show (3 : Int) = ((3 : Nat) : Int) from rfl, bits_and_i64_nat h 3 (by omega) (by omega)]
  congr 1
  exact Nat.and_two_pow_sub_one_eq_mod h 2
theorem and7_i (h : Nat) (hh : h < 256) : bits .and .i64 (h : Int) 7 = ((h % 8 : Nat) : Int) := by
  rw [show (7 : Int) = ((7 : Nat) : Int) from rfl, bits_and_i64_nat h 7 (by omega) (by omega)]
  congr 1
  exact Nat.and_two_pow_sub_one_eq_mod h 3
theorem unnum_some_i (w : World) (B ub n m : Nat) (ni : Int) (r r' made : List UInt8) (told : Int) (hu : unpAt w B ub r told made) (hr : r.length ≤ 140737488355328) (hn : n ≤ 4) (hi : ni = (n : Int)) (h : cutLow n r = some (m, r')) :
    Calls Tryz.prog 111 #[.pointer (some ⟨ub, 0, none⟩), .int .i64 ni] w fun e w' => KeptX B ub w w' ∧ e = .returned (.int .i64 m) ∧ unpAt w' B ub r' told made := by
  subst hi; exact unnum_some w B ub n m r r' made told hu hr hn h
theorem unnum_none_i (w : World) (B ub n : Nat) (ni : Int) (r made : List UInt8) (told : Int) (hu : unpAt w B ub r told made) (hr : r.length ≤ 140737488355328) (hn : n ≤ 4) (hi : ni = (n : Int)) (h : cutLow n r = none) :
    Calls Tryz.prog 111 #[.pointer (some ⟨ub, 0, none⟩), .int .i64 ni] w fun e w' => KeptX B ub w w' ∧ e = gaveUp 1 := by
  subst hi; exact unnum_none w B ub n r made told hu hr hn h
theorem plain_i (w : World) (B ub n told : Nat) (ni : Int) (r made : List UInt8) (hu : unpAt w B ub r told made) (hr : r.length ≤ 140737488355328) (hm : made.length ≤ 1000000) (ht : told ≤ 1000000) (hi : ni = (n : Int)) :
    Calls Tryz.prog 112 #[.pointer (some ⟨ub, 0, none⟩), .int .i64 ni] w fun e w' => KeptX B ub w w' ∧
      ((∃ r' m', plainB told n r made = some (r', m') ∧ e = .returned (.tuple #[]) ∧ unpAt w' B ub r' told m') ∨ (plainB told n r made = none ∧ e = gaveUp 1)) := by
  subst hi; exact plain_is w B ub n told r made hu hr hm ht
theorem again_i (w : World) (B ub n back told : Nat) (ni bi : Int) (r made : List UInt8) (hub : ub < B) (hu : unpAt w B ub r told made) (hn : n ≤ 1000000) (hm : made.length ≤ 1000000) (ht : told ≤ 1000000) (hback : back ≤ 9223372036854775807) (hi : ni = (n : Int)) (hbi : bi = (back : Int)) :
    Calls Tryz.prog 113 #[.pointer (some ⟨ub, 0, none⟩), .int .i64 ni, .int .i64 bi] w fun e w' => KeptX B ub w w' ∧
      ((∃ r' m', againB told n back r made = some (r', m') ∧ e = .returned (.tuple #[]) ∧ unpAt w' B ub r' told m') ∨ (againB told n back r made = none ∧ e = gaveUp 1)) := by
  subst hi; subst hbi; exact again_is w B ub n back told r made hub hu hn hm ht hback
set_option maxRecDepth 20000 in
set_option maxHeartbeats 2000000 in
theorem element_any (w : World) (B ub told : Nat) (r made : List UInt8) (hub : ub < B) (hu : unpAt w B ub r told made) (hr : r.length ≤ 140737488355328) (hm : made.length ≤ 1000000) (ht : told ≤ 1000000) :
    Calls Tryz.prog 89 #[.pointer (some ⟨ub, 0, none⟩)] w fun e w' => KeptX B ub w w' ∧
      ((∃ r' m', elemB told r made = some (r', m') ∧ e = .returned (.tuple #[]) ∧ unpAt w' B ub r' told m') ∨ (elemB told r made = none ∧ e = gaveUp 1)) := by
  go_enter Tryz.func89, Tryz.ntmps89
  go_wp2_with fail
  cases hc : cutLow 1 r with
  | none =>
    have HC := hide hc
    refine (unnum_none w B ub 1 r made told hu hr (by omega) hc).mono ?_
    rintro e w1 ⟨hk, rfl⟩
    exact ⟨rfl, hk, .inr ⟨by unfold elemB; rw [HC.out], rfl⟩⟩
  | some x =>
    obtain ⟨h, r1⟩ := x
    have HC := hide hc
    have h256 := (cutLow_some hc).2.2.2.1
    have hlen := (cutLow_some hc).2.2.2.2
    simp only [Nat.pow_one] at h256
    refine (unnum_some w B ub 1 h r r1 made told hu hr (by omega) hc).mono ?_
    rintro e w1 ⟨hk, rfl, hu1⟩
    clear hc hu
    by_cases m0 : h % 4 = 0
    · have a3 : bits .and .i64 (h : Int) 3 = 0 := by rw [and3_i h h256, m0]; rfl
      by_cases m6 : 60 ≤ h / 4
      · have m6' : 60 ≤ (h : Int) / 4 := by omega
        go_wp2_with fail
        cases hc2 : cutLow (h / 4 - 59) r1 with
        | none =>
          have HC2 := hide hc2
          refine (unnum_none_i w1 B ub (h / 4 - 59) _ r1 made told hu1 (by omega) (by omega) (by omega) hc2).mono ?_
          rintro e w2 ⟨hk2, rfl⟩
          exact ⟨rfl, hk.trans hk2, .inr ⟨by unfold elemB; rw [HC.out]; simp only; rw [if_pos m0, if_pos m6, HC2.out], rfl⟩⟩
        | some y =>
          obtain ⟨m, r2⟩ := y
          have HC2 := hide hc2
          have hm2 := (cutLow_some hc2).2.2.2.1
          have hlen2 := (cutLow_some hc2).2.2.2.2
          have hm3 : m < 4294967296 := by
            have : 256 ^ (h / 4 - 59) ≤ 256 ^ 4 := Nat.pow_le_pow_right (by omega) (by omega)
            omega
          clear hm2
          refine (unnum_some_i w1 B ub (h / 4 - 59) m _ r1 r2 made told hu1 (by omega) (by omega) (by omega) hc2).mono ?_
          rintro e w2 ⟨hk2, rfl, hu2⟩
          clear hc2
          go_wp2_with fail
          refine (plain_i w2 B ub (m + 1) told _ r2 made hu2 (by omega) hm ht (by omega)).mono ?_
          rintro e w3 ⟨hk3, (⟨r', m', h1, rfl, h3⟩ | ⟨h1, rfl⟩)⟩
          · have H1 := hide h1
            have H3 := hide h3
            clear h1 h3
            go_wp2
            go_end0
            exact ⟨(hk.trans hk2).trans hk3, .inl ⟨r', m', by unfold elemB; rw [HC.out]; simp only; rw [if_pos m0, if_pos m6, HC2.out]; exact H1.out, rfl, H3.out⟩⟩
          · exact ⟨rfl, (hk.trans hk2).trans hk3, .inr ⟨by unfold elemB; rw [HC.out]; simp only; rw [if_pos m0, if_pos m6, HC2.out]; exact h1, rfl⟩⟩
      · have m6' : ¬ 60 ≤ (h : Int) / 4 := by omega
        go_wp2_with fail
        refine (plain_i w1 B ub (h / 4 + 1) told _ r1 made hu1 (by omega) hm ht (by omega)).mono ?_
        rintro e w3 ⟨hk3, (⟨r', m', h1, rfl, h3⟩ | ⟨h1, rfl⟩)⟩
        · have H1 := hide h1
          have H3 := hide h3
          clear h1 h3
          go_wp2
          go_end0
          exact ⟨hk.trans hk3, .inl ⟨r', m', by unfold elemB; rw [HC.out]; simp only; rw [if_pos m0, if_neg m6]; exact H1.out, rfl, H3.out⟩⟩
        · exact ⟨rfl, hk.trans hk3, .inr ⟨by unfold elemB; rw [HC.out]; simp only; rw [if_pos m0, if_neg m6]; exact h1, rfl⟩⟩
    · by_cases m1 : h % 4 = 1
      · have a3 : bits .and .i64 (h : Int) 3 = 1 := by rw [and3_i h h256, m1]; rfl
        have a7 : bits .and .i64 ((h : Int) / 4) 7 = ((h / 4 % 8 : Nat) : Int) := by rw [show (h : Int) / 4 = ((h / 4 : Nat) : Int) from by omega, and7_i _ (by omega)]
        go_wp2_with fail
        cases hc2 : cutLow 1 r1 with
        | none =>
          have HC2 := hide hc2
          refine (unnum_none_i w1 B ub 1 _ r1 made told hu1 (by omega) (by omega) (by omega) hc2).mono ?_
          rintro e w2 ⟨hk2, rfl⟩
          exact ⟨rfl, hk.trans hk2, .inr ⟨by unfold elemB; rw [HC.out]; simp only; rw [if_neg m0, if_pos m1, HC2.out], rfl⟩⟩
        | some y =>
          obtain ⟨b, r2⟩ := y
          have HC2 := hide hc2
          have hb2 := (cutLow_some hc2).2.2.2.1
          have hlen2 := (cutLow_some hc2).2.2.2.2
          simp only [Nat.pow_one] at hb2
          have HOr : Hid (bits .or .i64 ((h : Int) / 32 * 256) (b : Int) = ((h / 32 * 256 + b : Nat) : Int)) := by
            show _ = _
            have h6 := bits_or_i64_nat (h / 32 * 256) b (by omega) (by omega)
            rw [or_add_256 _ _ hb2] at h6
            rw [show (h : Int) / 32 * 256 = ((h / 32 * 256 : Nat) : Int) from by omega, h6]
            omega
          refine (unnum_some_i w1 B ub 1 b _ r1 r2 made told hu1 (by omega) (by omega) (by omega) hc2).mono ?_
          rintro e w2 ⟨hk2, rfl, hu2⟩
          clear hc2
          go_wp2_with fail
          refine (again_i w2 B ub (h / 4 % 8 + 4) (h / 32 * 256 + b) told _ _ r2 made hub hu2 (by omega) hm ht (by omega) (by omega) HOr.out).mono ?_
          rintro e w3 ⟨hk3, (⟨r', m', h1, rfl, h3⟩ | ⟨h1, rfl⟩)⟩
          · have H1 := hide h1
            have H3 := hide h3
            clear h1 h3
            go_wp2
            go_end0
            exact ⟨(hk.trans hk2).trans hk3, .inl ⟨r', m', by unfold elemB; rw [HC.out]; simp only; rw [if_neg m0, if_pos m1, HC2.out]; exact H1.out, rfl, H3.out⟩⟩
          · exact ⟨rfl, (hk.trans hk2).trans hk3, .inr ⟨by unfold elemB; rw [HC.out]; simp only; rw [if_neg m0, if_pos m1, HC2.out]; exact h1, rfl⟩⟩
      · by_cases m2 : h % 4 = 2
        · have a3 : bits .and .i64 (h : Int) 3 = 2 := by rw [and3_i h h256, m2]; rfl
          go_wp2_with fail
          cases hc2 : cutLow 2 r1 with
          | none =>
            have HC2 := hide hc2
            refine (unnum_none_i w1 B ub 2 _ r1 made told hu1 (by omega) (by omega) (by omega) hc2).mono ?_
            rintro e w2 ⟨hk2, rfl⟩
            exact ⟨rfl, hk.trans hk2, .inr ⟨by unfold elemB; rw [HC.out]; simp only; rw [if_neg m0, if_neg m1, if_pos m2, HC2.out], rfl⟩⟩
          | some y =>
            obtain ⟨b, r2⟩ := y
            have HC2 := hide hc2
            have hb2 := (cutLow_some hc2).2.2.2.1
            have hlen2 := (cutLow_some hc2).2.2.2.2
            have hb3 : b < 65536 := hb2
            clear hb2
            refine (unnum_some_i w1 B ub 2 b _ r1 r2 made told hu1 (by omega) (by omega) (by omega) hc2).mono ?_
            rintro e w2 ⟨hk2, rfl, hu2⟩
            clear hc2
            go_wp2_with fail
            refine (again_i w2 B ub (h / 4 + 1) b told _ _ r2 made hub hu2 (by omega) hm ht (by omega) (by omega) rfl).mono ?_
            rintro e w3 ⟨hk3, (⟨r', m', h1, rfl, h3⟩ | ⟨h1, rfl⟩)⟩
            · have H1 := hide h1
              have H3 := hide h3
              clear h1 h3
              go_wp2
              go_end0
              exact ⟨(hk.trans hk2).trans hk3, .inl ⟨r', m', by unfold elemB; rw [HC.out]; simp only; rw [if_neg m0, if_neg m1, if_pos m2, HC2.out]; exact H1.out, rfl, H3.out⟩⟩
            · exact ⟨rfl, (hk.trans hk2).trans hk3, .inr ⟨by unfold elemB; rw [HC.out]; simp only; rw [if_neg m0, if_neg m1, if_pos m2, HC2.out]; exact h1, rfl⟩⟩
        · have a3 : bits .and .i64 (h : Int) 3 = 3 := by rw [and3_i h h256, show h % 4 = 3 from by omega]; rfl
          go_wp2_with fail
          cases hc2 : cutLow 4 r1 with
          | none =>
            have HC2 := hide hc2
            refine (unnum_none_i w1 B ub 4 _ r1 made told hu1 (by omega) (by omega) (by omega) hc2).mono ?_
            rintro e w2 ⟨hk2, rfl⟩
            exact ⟨rfl, hk.trans hk2, .inr ⟨by unfold elemB; rw [HC.out]; simp only; rw [if_neg m0, if_neg m1, if_neg m2, HC2.out], rfl⟩⟩
          | some y =>
            obtain ⟨b, r2⟩ := y
            have HC2 := hide hc2
            have hb2 := (cutLow_some hc2).2.2.2.1
            have hlen2 := (cutLow_some hc2).2.2.2.2
            have hb3 : b < 4294967296 := hb2
            clear hb2
            refine (unnum_some_i w1 B ub 4 b _ r1 r2 made told hu1 (by omega) (by omega) (by omega) hc2).mono ?_
            rintro e w2 ⟨hk2, rfl, hu2⟩
            clear hc2
            go_wp2_with fail
            refine (again_i w2 B ub (h / 4 + 1) b told _ _ r2 made hub hu2 (by omega) hm ht (by omega) (by omega) rfl).mono ?_
            rintro e w3 ⟨hk3, (⟨r', m', h1, rfl, h3⟩ | ⟨h1, rfl⟩)⟩
            · have H1 := hide h1
              have H3 := hide h3
              clear h1 h3
              go_wp2
              go_end0
              exact ⟨(hk.trans hk2).trans hk3, .inl ⟨r', m', by unfold elemB; rw [HC.out]; simp only; rw [if_neg m0, if_neg m1, if_neg m2, HC2.out]; exact H1.out, rfl, H3.out⟩⟩
            · exact ⟨rfl, (hk.trans hk2).trans hk3, .inr ⟨by unfold elemB; rw [HC.out]; simp only; rw [if_neg m0, if_neg m1, if_neg m2, HC2.out]; exact h1, rfl⟩⟩
theorem plainB_some {told n : Nat} {r made r' m' : List UInt8} (h : plainB told n r made = some (r', m')) : r'.length ≤ r.length ∧ m'.length ≤ told := by
  unfold plainB at h
  split at h
  · rename_i hc
    simp at h
    obtain ⟨rfl, rfl⟩ := h
    simp; omega
  · simp at h
theorem againB_some {told n back : Nat} {r made r' m' : List UInt8} (h : againB told n back r made = some (r', m')) : r'.length ≤ r.length ∧ m'.length ≤ told := by
  unfold againB at h
  split at h
  · rename_i hc
    simp at h
    obtain ⟨rfl, rfl⟩ := h
    rw [copyB_length]; omega
  · simp at h
theorem elemB_some {told : Nat} {r made r' m' : List UInt8} (h : elemB told r made = some (r', m')) : r'.length < r.length ∧ m'.length ≤ told := by
  unfold elemB at h
  split at h
  · simp at h
  · rename_i hd r1 h1
    have c1 := (cutLow_some h1).2.2.2.2
    split at h
    · split at h
      · split at h
        · simp at h
        · rename_i m r2 h2
          have c2 := (cutLow_some h2).2.2.2.2
          have := plainB_some h
          omega
      · have := plainB_some h
        omega
    · split at h
      · split at h
        · simp at h
        · rename_i m r2 h2
          have c2 := (cutLow_some h2).2.2.2.2
          have := againB_some h
          omega
      · split at h
        · split at h
          · simp at h
          · rename_i m r2 h2
            have c2 := (cutLow_some h2).2.2.2.2
            have := againB_some h
            omega
        · split at h
          · simp at h
          · rename_i m r2 h2
            have c2 := (cutLow_some h2).2.2.2.2
            have := againB_some h
            omega
/-- All elements of a text, behind what is made. -/
def unpF (told : Nat) : Nat → List UInt8 → List UInt8 → Option (List UInt8)
  | 0, r, made => if made.length < told then none else some made
  | k + 1, r, made =>
    if r = [] then (if made.length < told then none else some made)
    else
      match elemB told r made with
      | none => none
      | some (r', m') => unpF told k r' m'
def unpB (told : Nat) (r made : List UInt8) : Option (List UInt8) := unpF told r.length r made
theorem unpF_any (told : Nat) : ∀ (k k' : Nat) (r made : List UInt8), r.length ≤ k → r.length ≤ k' → unpF told k r made = unpF told k' r made := by
  intro k
  induction k with
  | zero =>
    intro k' r made h h'
    have : r = [] := List.eq_nil_of_length_eq_zero (by omega)
    subst this
    cases k' <;> rfl
  | succ k ih =>
    intro k' r made h h'
    cases k' with
    | zero =>
      have : r = [] := List.eq_nil_of_length_eq_zero (by omega)
      subst this
      rfl
    | succ k' =>
      simp only [unpF]
      split
      · rfl
      · split
        · rfl
        · rename_i r' m' he
          have := (elemB_some he).1
          exact ih k' r' m' (by omega) (by omega)
theorem unpB_nil (told : Nat) (made : List UInt8) : unpB told [] made = if made.length < told then none else some made := rfl
theorem unpB_none {told : Nat} {r made : List UInt8} (h0 : r ≠ []) (h : elemB told r made = none) : unpB told r made = none := by
  cases r with
  | nil => exact absurd rfl h0
  | cons c r => simp [unpB, unpF, h]
theorem unpB_some {told : Nat} {r made r' m' : List UInt8} (h0 : r ≠ []) (h : elemB told r made = some (r', m')) : unpB told r made = unpB told r' m' := by
  have hl := (elemB_some h).1
  cases r with
  | nil => exact absurd rfl h0
  | cons c r =>
    simp only [List.length_cons] at hl
    simp only [unpB, List.length_cons, unpF, List.cons_ne_nil, if_false, h]
    exact unpF_any told _ _ _ _ (by omega) (Nat.le_refl _)
theorem unpB_full {told : Nat} : ∀ (k : Nat) {r made m : List UInt8}, made.length ≤ told → unpF told k r made = some m → m.length = told
  | 0, r, made, m, hm, h => by
    unfold unpF at h
    split at h
    · cases h
    · cases h; omega
  | k + 1, r, made, m, hm, h => by
    unfold unpF at h
    split at h
    · split at h
      · cases h
      · cases h; omega
    · split at h
      · cases h
      · rename_i r' m' he
        exact unpB_full k (elemB_some he).2 h
/-- How much is left. -/
def restLen (w : World) (ub : Nat) : Nat := match w.heap[ub]? with | some (.cells c _ _) => strLen (c.getD 0 undef) | _ => 0
set_option maxRecDepth 20000 in
set_option maxHeartbeats 1000000 in
theorem uncatch_panicking (p : Addr) (x err : Int) (older : List PanicEntry) (w : World) (hc : w.cell? p = some (.int .i64 x)) (hz : w.frozen? p = false) :
    CallsD Tryz.prog 88 #[.pointer (some p)] (.panicking ({ v := .iface 24 (.int .i64 err), recovered := false } :: older)) w fun e u' w' =>
      e = .returned (.tuple #[]) ∧ u' = .panicking ({ v := .iface 24 (.int .i64 err), recovered := true } :: older) ∧ w' = w.setCell p (.int .i64 err) := by
  refine callsD_of_wpS Tryz.func88 rfl fun c₀ cs hu => ?_
  simp only [Tryz.ntmps88, List.size_toArray, List.length_cons, List.length_nil, Nat.reduceAdd, Nat.reduceSub, Array.replicate_succ,
     Array.replicate_zero, List.push_toArray, List.append_toArray, List.nil_append, List.cons_append]
  apply wpS_seq
  apply wpS_region
  simp [wpOpsS, go_sem, recoverD, hu, Exit.thenS]
  apply wpS_seq
  apply wpS_region
  simp [wpOpsS, go_sem, Exit.thenS]
  refine wpS_cond (t := true) (by simp [Act.eval, Array.replicate]) ?_
  simp only [if_true]
  refine wpS_of_wp ?_
  have has := assert_yes
  have hnot : ∀ (x : Bool) (w : World), (Op.unary .not (.bool x)).run Tryz.prog w = .ok (.bool (!x)) w := fun _ _ => rfl
  go_wp2
  cases c₀
  simp_all [bodyPostS, results, Tryz.results88]
set_option maxRecDepth 20000 in
set_option maxHeartbeats 1000000 in
theorem uncatch_idle (p : Addr) (w : World) :
    CallsD Tryz.prog 88 #[.pointer (some p)] .returning w fun e u' w' => e = .returned (.tuple #[]) ∧ u' = .returning ∧ w' = w := by
  refine callsD_of_wpS Tryz.func88 rfl fun c₀ cs hu => ?_
  simp only [Tryz.ntmps88, List.size_toArray, List.length_cons, List.length_nil, Nat.reduceAdd, Nat.reduceSub, Array.replicate_succ,
     Array.replicate_zero, List.push_toArray, List.append_toArray, List.nil_append, List.cons_append]
  apply wpS_seq
  apply wpS_region
  simp [wpOpsS, go_sem, recoverD, hu, Exit.thenS]
  apply wpS_seq
  apply wpS_region
  simp [wpOpsS, go_sem, Exit.thenS]
  refine wpS_cond (t := false) (by simp [Act.eval, Array.replicate]) ?_
  simp only [Bool.false_eq_true, if_false]
  refine wpS_of_wp (wp_skip ?_)
  cases c₀
  simp_all [bodyPostS, results, Tryz.results88]
theorem keepDraw {B ub n : Nat} {w w' : World} (h : KeptX B ub w w') : KeptX B ub w (w'.drewN n) := ⟨h.os, h.tape, h.output, h.size, h.block⟩
theorem keepSet {w w' : World} {ub n : Nat} {u : Value} (h : KeptX w.heap.size ub w w') : KeptX w.heap.size ub w (w'.setCell ⟨w.heap.size, n, none⟩ u) :=
  ⟨h.os, h.tape, h.output, by simpa [World.setCell] using h.size, fun k hk hn => (Below.heap_setCell _ _ _ _ (by show k ≠ w.heap.size; omega)).trans (h.block k hk hn)⟩
set_option maxRecDepth 20000 in
set_option maxHeartbeats 2000000 in
theorem unpAll_any (w : World) (ub told : Nat) (r : List UInt8) (hub : w.heap[ub]? = some (.cells #[.string (bs r), .int .i64 told, .slice none 0 0] 92 (0, 0))) (hr : r.length ≤ 140737488355328) (ht : told ≤ 1000000) :
    Calls Tryz.prog 62 #[.pointer (some ⟨ub, 0, none⟩)] w fun e w' => KeptX w.heap.size ub w w' ∧
      ((∃ m v, unpB told r [] = some m ∧ e = .returned (.int .i64 0) ∧ (∃ s, w'.heap[ub]? = some (.cells #[.string s, .int .i64 told, v] 92 (0, 0))) ∧ w'.ownsRow w.heap.size 5 1 v m.length (bytesV m)) ∨ (unpB told r [] = none ∧ e = .returned (.int .i64 1))) := by
  have hlt := lt_of_block hub
  have hmf : ∀ (fn : Fn) (first cap : Array Value) (w : World), (Instr.makeFunc fn first cap).run Tryz.prog w = .ok (.func fn first cap) w := fun _ _ _ _ => rfl
  obtain ⟨W, HW⟩ : ∃ W, Hid (W = w.alloc (.cells #[.int .i64 0] 24)) := ⟨_, hide rfl⟩
  have gW : Grow w W := by rw [HW.out]; exact (Grow.refl _).alloc _
  have hWe : W.heap[w.heap.size]? = some (.cells #[.int .i64 0] 24 (0, 0)) := by rw [HW.out]; exact heap_alloc_new _ _
  have hWs : W.heap.size = w.heap.size + 1 := by rw [HW.out]; simp
  have hWu := gW.get hub
  go_enter_defers Tryz.func62, Tryz.ntmps62
  go_wp2
  rw [← HW.out]
  go_loopw [] (fun wr => ∃ r1 made, unpAt wr (w.heap.size + 1) ub r1 told made ∧ KeptX (w.heap.size + 1) ub W wr ∧ r1.length ≤ r.length ∧ made.length ≤ told ∧ Hid (unpB told r [] = unpB told r1 made)) (fun wr => restLen wr ub)
  case atStart => exact ⟨r, [], ⟨by omega, _, hWu, World.ownsRow_nil _ _ _ _⟩, KeptX.refl _ _ _, Nat.le_refl _, by simp, hide rfl⟩
  case round =>
    obtain ⟨r1, made, hu, hk, hl1, hm, HE⟩ := hrel
    rename World => wr
    have hwe := hk.get hWe (by omega) (by omega)
    have hkw : KeptX w.heap.size ub w wr := ⟨hk.os.trans gW.os, hk.tape.trans gW.tape, hk.output.trans gW.output, Nat.le_trans gW.size hk.size, fun k hk1 hk2 => (hk.block k (by omega) hk2).trans (gW.block k hk1)⟩
    obtain ⟨hB, v, hb, ho⟩ := id hu
    obtain ⟨ao, cp, rfl⟩ := own_shape ho
    obtain ⟨c0, c1, c2, z0, z1, z2⟩ := three_cells hb
    by_cases h0 : r1 = []
    · subst h0
      by_cases hlt2 : made.length < told
      · have hlt3 : (made.length : Int) < told := by omega
        go_wp2
        go_quiet (fail)
        go_wp2
        have hn : unpB told r [] = none := by rw [HE.out, unpB_nil, if_pos hlt2]
        refine leaves_cons (f := 88) (args := #[.pointer (some ⟨w.heap.size, 0, none⟩)]) (by simp) (by simp [go_sem]) ?_
        refine (uncatch_panicking ⟨w.heap.size, 0, none⟩ 0 1 [] (wr.drewN nq) (cell_of_one (show (wr.drewN nq).heap[w.heap.size]? = _ from hwe)) (free_of_one (show (wr.drewN nq).heap[w.heap.size]? = _ from hwe))).mono ?_
        rintro e u' w'' ⟨rfl, rfl, rfl⟩
        have hc2 := cell_of_one (one_setCell (u := .int .i64 1) (show (wr.drewN nq).heap[w.heap.size]? = _ from hwe))
        simp [Leaves, settle, results, Tryz.results62, go_sem, hc2]
        exact ⟨keepSet (keepDraw hkw), hn⟩
      · have hlt3 : ¬ (made.length : Int) < told := by omega
        have e0 := cell_of_one hwe
        have ez := free_of_one hwe
        go_wp2
        go_quiet (fail)
        go_wp2
        have hn : unpB told r [] = some made := by rw [HE.out, unpB_nil, if_neg hlt2]
        refine leaves_cons (f := 88) (args := #[.pointer (some ⟨w.heap.size, 0, none⟩)]) (by simp) (by simp [go_sem]) ?_
        refine (uncatch_idle ⟨w.heap.size, 0, none⟩ _).mono ?_
        rintro e u' w'' ⟨rfl, rfl, rfl⟩
        have hc2 := cell_of_one (one_setCell (u := .int .i64 0) (show (wr.drewN nq).heap[w.heap.size]? = _ from hwe))
        simp [Leaves, settle, results, Tryz.results62, go_sem, hc2]
        have ho2 : (wr.drewN nq).ownsRow w.heap.size 5 1 (.slice ao made.length cp) made.length (bytesV made) := own_le ho (by omega)
        refine ⟨keepSet (keepDraw hkw), made, hn, .slice ao made.length cp, ⟨bs [], ?_⟩, ownsRow_setCell_other (a := ⟨w.heap.size, 0, none⟩) ho2 (own_apart ho2 (show (wr.drewN nq).heap[w.heap.size]? = _ from hwe) (by decide)) _⟩
        rw [Below.heap_setCell _ _ _ _ (by show ub ≠ w.heap.size; omega)]
        exact hb
    · have hpos : 0 < r1.length := List.length_pos_iff.2 h0
      have hpos2 : (0 : Int) < r1.length := by omega
      have H0 := hide h0
      clear h0
      go_wp2_with fail
      refine (element_any wr (w.heap.size + 1) ub told r1 made (by omega) hu (by omega) (by omega) ht).mono ?_
      rintro e w3 ⟨hk3, (⟨r', m', h1, rfl, h3⟩ | ⟨h1, rfl⟩)⟩
      · have H1 := hide h1
        have hs := elemB_some h1
        have H3 := hide h3
        clear h1 h3
        go_wp2
        go_roundw
        case rel => exact ⟨r', m', H3.out, hk.trans hk3, by omega, by omega, by show _ = _; rw [HE.out, unpB_some H0.out H1.out]⟩
        case measure =>
          obtain ⟨_, v3, hb3, _⟩ := H3.out
          simp only [restLen, hb, hb3]
          simp [strLen, bs_size]
          omega
      · have hn : unpB told r [] = none := by rw [HE.out, unpB_none H0.out h1]
        have hwe3 := hk3.get hwe (by omega) (by omega)
        have hkw3 : KeptX w.heap.size ub w w3 := ⟨hk3.os.trans hkw.os, hk3.tape.trans hkw.tape, hk3.output.trans hkw.output, Nat.le_trans hkw.size hk3.size, fun k h1 h2 => (hk3.block k (by omega) h2).trans (hkw.block k h1 h2)⟩
        refine leaves_cons (f := 88) (args := #[.pointer (some ⟨w.heap.size, 0, none⟩)]) (by simp) (by simp [go_sem]) ?_
        refine (uncatch_panicking ⟨w.heap.size, 0, none⟩ 0 1 [] w3 (cell_of_one hwe3) (free_of_one hwe3)).mono ?_
        rintro e u' w'' ⟨rfl, rfl, rfl⟩
        have hc2 := cell_of_one (one_setCell (u := .int .i64 1) hwe3)
        simp [Leaves, settle, results, Tryz.results62, go_sem, hc2]
        exact ⟨keepSet hkw3, hn⟩
/-- What Unpack answers: an error (0 is none) and a text. -/
def unpackB (s : List UInt8) (most : Int) : Int × List UInt8 :=
  if most < 0 ∨ 20000 < most then (3, [])
  else
    match cutNum s with
    | none => (1, [])
    | some (n, r) =>
      if most < n then (2, [])
      else
        match unpB n r [] with
        | none => (1, [])
        | some m => (0, m)
set_option maxRecDepth 20000 in
set_option maxHeartbeats 2000000 in
theorem unpack_any (w : World) (s : List UInt8) (most : Int) (hs : s.length ≤ 140737488355328) (h0 : -9223372036854775808 ≤ most) (h1 : most ≤ 9223372036854775807) :
    Calls Tryz.prog 36 #[.string (bs s), .int .i64 most] w fun e w' => e = .returned (.tuple #[.string (bs (unpackB s most).2), .int .i64 (unpackB s most).1]) ∧ Below w.heap.size w w' := by
  go_enter Tryz.func36, Tryz.ntmps36
  by_cases c1 : most < 0
  · have HE : Hid (unpackB s most = (3, [])) := by show _ = _; unfold unpackB; rw [if_pos (.inl c1)]
    go_wp2
    go_ret2
    exact ⟨by rw [HE.out]; rfl, Below.refl _ _⟩
  · by_cases c2 : 20000 < most
    · have HE : Hid (unpackB s most = (3, [])) := by show _ = _; unfold unpackB; rw [if_pos (.inr c2)]
      go_wp2
      go_ret2
      exact ⟨by rw [HE.out]; rfl, Below.refl _ _⟩
    · have HU : Hid (unpackB s most = match cutNum s with | none => (1, []) | some (n, r) => if most < n then (2, []) else match unpB n r [] with | none => (1, []) | some m => (0, m)) := by
        show _ = _; unfold unpackB; rw [if_neg (by omega)]
      go_wp2_with fail
      refine (readNumber_any s w (by unfold maxLen; omega)).mono ?_
      rintro e w1 ⟨rfl, rfl⟩
      rename World => w
      by_cases hc : (readNum s).2.2 = 0
      · have hcut : cutNum s = some ((readNum s).1, s.drop (readNum s).2.1) := by unfold cutNum; rw [if_pos hc]
        have hle := readNum_le s
        obtain ⟨n, size, e, hrd⟩ : ∃ n size e, readNum s = (n, size, e) := ⟨_, _, _, rfl⟩
        rw [hrd] at hc hcut hle ⊢
        simp only at hc hcut hle
        subst hc
        have h64 := hle.2.2
        have hsz := hle.1
        have HC := hide hcut
        clear hcut hle hrd
        have hwm : IntKind.u64.wrap most = most := wrap_u64_small _ (by omega) (by omega)
        by_cases c3 : most < n
        · have HE : Hid (unpackB s most = (2, [])) := by show _ = _; rw [HU.out, HC.out]; simp only; rw [if_pos c3]
          go_wp2
          go_ret2
          exact ⟨by rw [HE.out]; rfl, Below.refl _ _⟩
        · have hwn : IntKind.i64.wrap (n : Int) = n := wrap_i64_small _ (by omega) (by omega)
          have hq : (s.drop size).take (s.length - size) = s.drop size := List.take_of_length_le (by rw [List.length_drop]; exact Nat.le_refl _)
          have hdl : (s.drop size).length ≤ 140737488355328 := by rw [List.length_drop]; omega
          have hE : Hid (unpackB s most = match unpB n (s.drop size) [] with | none => (1, []) | some m => (0, m)) := by show _ = _; rw [HU.out, HC.out]; simp only; rw [if_neg c3]
          have hub := heap_alloc_new w (.cells #[.string (bs (s.drop size)), .int .i64 n, .slice none 0 0] 92)
          have hbW : Below w.heap.size w (w.alloc (.cells #[.string (bs (s.drop size)), .int .i64 n, .slice none 0 0] 92)) := (Below.refl _ _).alloc (Nat.le_refl _) _
          have hsW : (w.alloc (.cells #[.string (bs (s.drop size)), .int .i64 n, .slice none 0 0] 92)).heap.size = w.heap.size + 1 := by simp
          go_wp2_with fail
          refine (unpAll_any _ w.heap.size n (s.drop size) hub hdl (by omega)).mono ?_
          rintro e w2 ⟨hk, (⟨m, v, hm, rfl, ⟨st, hblk⟩, ho⟩ | ⟨hm, rfl⟩)⟩
          · have hb2 : Below w.heap.size w w2 := hbW.trans (hk.below (by omega) (Nat.le_refl _))
            have HM : Hid (unpackB s most = (0, m)) := by show _ = _; rw [hE.out, hm]
            obtain ⟨ao, cp, rfl⟩ := own_shape ho
            obtain ⟨c0, c1, c2, _⟩ := three_cells hblk
            have hcv := run_bytesStr (P := Tryz.prog) Tryz.underlying63 Tryz.underlying5 Tryz.underlying9 ho
            clear hub hbW hsW hm
            go_wp2
            go_ret2
            exact ⟨by rw [HM.out]; rfl, hb2⟩
          · have hb2 : Below w.heap.size w w2 := hbW.trans (hk.below (by omega) (Nat.le_refl _))
            have HM : Hid (unpackB s most = (1, [])) := by show _ = _; rw [hE.out, hm]
            clear hub hbW hsW hm
            go_wp2
            go_ret2
            exact ⟨by rw [HM.out]; rfl, hb2⟩
      · have hcut : cutNum s = none := by unfold cutNum; rw [if_neg hc]
        have HE : Hid (unpackB s most = (1, [])) := by show _ = _; rw [HU.out, hcut]
        obtain ⟨n, size, e, hrd⟩ : ∃ n size e, readNum s = (n, size, e) := ⟨_, _, _, rfl⟩
        rw [hrd] at hc ⊢
        simp only at hc
        have hne : ((e : Int) != 0) = true := by simp; omega
        clear hcut hrd hc
        go_wp2
        go_ret2
        exact ⟨by rw [HE.out]; rfl, Below.refl _ _⟩
theorem Tryz.infoL : (Tryz.prog.info? 62).map (fun i => (i.zero, i.size, i.bytes)) = some (some (.agg #[.string ⟨#[]⟩, .string ⟨#[]⟩]), 2, 32) := by kernel_rfl
theorem Tryz.infoS : (Tryz.prog.info? 48).map (fun i => (i.zero, i.size, i.bytes)) = some (some (.agg #[.int .i64 0, .int .u64 0]), 2, 16) := by kernel_rfl
theorem Tryz.infoE : (Tryz.prog.info? 41).map (fun i => (i.zero, i.size, i.bytes)) = some (some (.agg #[.slice none 0 0, .slice none 0 0]), 2, 48) := by kernel_rfl
/-- A series that is being read, in a block. -/
def serAt (w : World) (B xb : Nat) (x : Ser) : Prop :=
  B ≤ w.heap.size ∧ ∃ v1 v2, w.heap[xb]? = some (.cells #[v1, v2] 41 (0, 0)) ∧ ownLabels w B v1 x.1 ∧ ownSamples w B v2 x.2
theorem serAt_grow {w w' : World} {B xb : Nat} {x : Ser} (h : serAt w B xb x) (hg : Grow w w') : serAt w' B xb x := by
  obtain ⟨h0, v1, v2, h1, h2, h3⟩ := h
  exact ⟨by have := hg.size; omega, v1, v2, hg.get h1, own_grow h2 hg, own_grow h3 hg⟩
/-- What a series' fields tell. -/
def serStep (x : Ser) (f : Fld) : Ser :=
  if f.1 = 10 then (match labRead f.2.2 with | some a => (x.1 ++ [a], x.2) | none => x)
  else if f.1 = 18 then (match samRead f.2.2 with | some a => (x.1, x.2 ++ [a]) | none => x)
  else x
def serOk (f : Fld) : Bool := if f.1 = 10 then (labRead f.2.2).isSome else if f.1 = 18 then (samRead f.2.2).isSome else true
set_option maxRecDepth 20000 in
set_option maxHeartbeats 4000000 in
theorem readSeries1_any (w : World) (B xb : Nat) (x : Ser) (f : Fld) (hx : serAt w B xb x) (hl1 : x.1.length ≤ 1000000) (hl2 : x.2.length ≤ 1000000) (hf : f.2.2.length ≤ 1000000) :
    Calls Tryz.prog 126 #[fldV f, .pointer (some ⟨xb, 0, none⟩)] w fun e w' => KeptX B xb w w' ∧
      ((serOk f = true ∧ e = .returned (.tuple #[]) ∧ serAt w' B xb (serStep x f)) ∨ (serOk f = false ∧ e = gaveUp 1)) := by
  obtain ⟨h, n, b⟩ := f
  obtain ⟨ls, ss⟩ := x
  obtain ⟨hB, v1, v2, hx, ho1, ho2⟩ := hx
  obtain ⟨ao1, cp1, rfl⟩ := own_shape ho1
  obtain ⟨ao2, cp2, rfl⟩ := own_shape ho2
  have hxlt := lt_of_block hx
  have h0 : Grow w (w.alloc (.cells #[.int .u64 h, .int .u64 n, .string (bs b)] 133)) := (Below.refl _ _).alloc (Nat.le_refl _) _
  obtain ⟨W, HW⟩ : ∃ W, Hid (W = w.alloc (.cells #[.int .u64 h, .int .u64 n, .string (bs b)] 133)) := ⟨_, hide rfl⟩
  have hfb : W.heap[w.heap.size]? = some (.cells #[.int .u64 h, .int .u64 n, .string (bs b)] 133 (0, 0)) := by
    rw [HW.out]; exact heap_alloc_new _ _
  unfold fldV
  go_enter Tryz.func126, Tryz.ntmps126
  rw [← HW.out] at h0
  by_cases m1 : h = 10
  · have t1 : ((h : Int) == 10) = true := by rw [beq_iff_eq]; omega
    have M := hide m1
    clear m1
    go_wp2
    have hbz : b.length ≤ 1000000 := hf
    cases hr : labRead b with
    | none =>
      have HR := hide hr
      clear hr
      refine wp_region_free 6 25 Tryz.mixed2 rfl (by decide +kernel) Grow (fun _ _ _ => Grow.trans) (Grow.refl _)
        (fun i v _ => match i with
          | 0 => v = .pointer (some ⟨xb, 0, none⟩)
          | 2 => v = .pointer (some ⟨w.heap.size, 2, none⟩)
          | 3 => v = .string (bs b)
          | 4 => False
          | _ => True)
        (fun i v w w' h hg => h) (fun ch w2 => Ending.panicked ch = gaveUp 1 ∧ Grow w w2) (fun ch a w2 hd hq => ?_) (fun i hi o ho a w2 hG hoff hdep => ?_) (fun vals w2 hG hvals => (hvals 4 (by omega)).elim)
      · obtain ⟨hq1, hq2⟩ := hq
        simp only [Ending.panicked.injEq] at hq1
        subst hq1
        exact ⟨hd, keptX_of (hq2.mono hB), .inr ⟨by simp [serOk, M.out, HR.out], rfl⟩⟩
      · have hG' : Grow w w2 := h0.trans ⟨by rw [HW.out]; exact hG.os, by rw [HW.out]; exact hG.tape, by rw [HW.out]; exact hG.output, by rw [HW.out]; exact hG.size, by rw [HW.out]; exact hG.block⟩
        have hfb2 : w2.heap[w.heap.size]? = some (.cells #[.int .u64 h, .int .u64 n, .string (bs b)] 133 (0, 0)) := by
          have := hG.get (b := w.heap.size) (by rw [← HW.out]; exact hfb)
          exact this
        have hx2 := hG'.get hx
        obtain ⟨x0, x1⟩ := two_cells hx2
        obtain ⟨f0, f1, f2, _⟩ := three_cells hfb2
        match i, hi with
        | 0, _ =>
          obtain rfl := Option.some.inj ho
          have o1 := hoff 1 (by decide +kernel)
          simp at o1
          simp [opYields, go_sem, o1]
          exact Grow.refl _
        | 1, _ =>
          obtain rfl := Option.some.inj ho
          have d0 := hdep 0 (by decide +kernel)
          simp [slotOf, dstOf] at d0
          simp [opYields, go_sem, d0, x0]
          exact Grow.refl _
        | 2, _ =>
          obtain rfl := Option.some.inj ho
          have o2 := hoff 2 (by decide +kernel)
          simp at o2
          simp [opYields, go_sem, o2]
          exact Grow.refl _
        | 3, _ =>
          obtain rfl := Option.some.inj ho
          have d2 := hdep 2 (by decide +kernel)
          simp [slotOf, dstOf] at d2
          simp [opYields, go_sem, d2, f2]
          exact Grow.refl _
        | 4, _ =>
          obtain rfl := Option.some.inj ho
          have d3 := hdep 3 (by decide +kernel)
          simp [slotOf, dstOf] at d3
          simp [opYields, go_sem, d3]
          refine (readLabel_any w2 b (by omega)).mono ?_
          rintro e w3 ⟨hb, (⟨x, hr, _⟩|⟨_, rfl⟩)⟩
          rw [HR.out] at hr; cases hr
          exact ⟨rfl, hG'.trans hb⟩
        | 5, _ => exact (hdep 4 (by decide +kernel)).elim
    | some x =>
      have HR := hide hr
      clear hr
      refine wp_region_free 6 25 Tryz.mixed2 rfl (by decide +kernel) Grow (fun _ _ _ => Grow.trans) (Grow.refl _)
        (fun i v wq => match i with
          | 0 => v = .pointer (some ⟨xb, 0, none⟩)
          | 1 => v = (.slice ao1 ls.length cp1)
          | 2 => v = .pointer (some ⟨w.heap.size, 2, none⟩)
          | 3 => v = .string (bs b)
          | 4 => v = .agg #[.string (bs x.1), .string (bs x.2)]
          | _ => ∃ g, v = .slice (some ⟨g, 0, none⟩) 1 1 ∧ wq.heap[g]? = some (.cells #[.string (bs x.1), .string (bs x.2)] 62 (0, 0)))
        (fun i v w1 w2 h hg => ?_) (fun ch w2 => False) (fun ch a w2 hd hq => hq.elim) (fun i hi o ho a w2 hG hoff hdep => ?_) (fun vals w2 hG hvals => ?_)
      · match i, h with
        | 0, h => exact h
        | 1, h => exact h
        | 2, h => exact h
        | 3, h => exact h
        | 4, h => exact h
        | i + 5, ⟨g, h1, h2⟩ => exact ⟨g, h1, hg.get h2⟩
      · have hG' : Grow w w2 := h0.trans ⟨by rw [HW.out]; exact hG.os, by rw [HW.out]; exact hG.tape, by rw [HW.out]; exact hG.output, by rw [HW.out]; exact hG.size, by rw [HW.out]; exact hG.block⟩
        have hfb2 : w2.heap[w.heap.size]? = some (.cells #[.int .u64 h, .int .u64 n, .string (bs b)] 133 (0, 0)) := by
          have := hG.get (b := w.heap.size) (by rw [← HW.out]; exact hfb)
          exact this
        have hx2 := hG'.get hx
        obtain ⟨x0, x1⟩ := two_cells hx2
        obtain ⟨f0, f1, f2, _⟩ := three_cells hfb2
        match i, hi with
        | 0, _ =>
          obtain rfl := Option.some.inj ho
          have o1 := hoff 1 (by decide +kernel)
          simp at o1
          simp [opYields, go_sem, o1]
          exact Grow.refl _
        | 1, _ =>
          obtain rfl := Option.some.inj ho
          have d0 := hdep 0 (by decide +kernel)
          simp [slotOf, dstOf] at d0
          simp [opYields, go_sem, d0, x0]
          exact Grow.refl _
        | 2, _ =>
          obtain rfl := Option.some.inj ho
          have o2 := hoff 2 (by decide +kernel)
          simp at o2
          simp [opYields, go_sem, o2]
          exact Grow.refl _
        | 3, _ =>
          obtain rfl := Option.some.inj ho
          have d2 := hdep 2 (by decide +kernel)
          simp [slotOf, dstOf] at d2
          simp [opYields, go_sem, d2, f2]
          exact Grow.refl _
        | 4, _ =>
          obtain rfl := Option.some.inj ho
          have d3 := hdep 3 (by decide +kernel)
          simp [slotOf, dstOf] at d3
          simp [opYields, go_sem, d3]
          refine (readLabel_any w2 b (by omega)).mono ?_
          rintro e w3 ⟨hb, (⟨y, hr, _, _, rfl⟩|⟨hr, rfl⟩)⟩
          · rw [HR.out] at hr; cases hr; exact ⟨hb, rfl⟩
          · rw [HR.out] at hr; cases hr
        | 5, _ =>
          obtain rfl := Option.some.inj ho
          have d4 := hdep 4 (by decide +kernel)
          simp [slotOf, dstOf] at d4
          simp [opYields, go_sem, d4]
          exact ⟨(Grow.refl _).alloc _, (Array.getElem?_eq_some_iff.1 (heap_alloc_new _ _)).2⟩
      · have hG' : Grow w w2 := h0.trans ⟨by rw [HW.out]; exact hG.os, by rw [HW.out]; exact hG.tape, by rw [HW.out]; exact hG.output, by rw [HW.out]; exact hG.size, by rw [HW.out]; exact hG.block⟩
        have d0 := hvals 0 (by omega)
        have d1 := hvals 1 (by omega)
        have d2 := hvals 2 (by omega)
        have d3 := hvals 3 (by omega)
        have d4 := hvals 4 (by omega)
        obtain ⟨g, d5, hg2⟩ := hvals 5 (by omega)
        simp only at d0 d1 d2 d3 d4
        clear hvals hfb
        have hx2 := hG'.get hx
        have ho1' := own_grow ho1 hG'
        have ho2' := own_grow ho2 hG'
        have hne := own_apart ho1' hx2 (by decide)
        obtain ⟨i0, hi0, hz0, hz1, hz2⟩ := info_parts Tryz.infoL
        obtain ⟨g0, g1⟩ := two_cells hg2
        simp [over, dstOf, Act.put, d0, d1, d2, d3, d4, d5]
        refine wpList_append_own _ rfl _ _ 34 rfl B 62 i0 _ 2 32 Tryz.underlying34 hi0 hz0 hz1 hz2 rfl (by omega) _ ls.length (labCells ls) rfl ho1' ⟨g, 0, none⟩ 1 1 [.string (bs x.1), .string (bs x.2)] rfl rfl (fun j u hu => by match j, hu with | 0, hu => simp at hu; subst hu; rw [Addr.add_lit]; simpa using g0 | 1, hu => simp at hu; subst hu; rw [Addr.add_lit]; simpa using g1) (by simp [Value.oneCell']) (by unfold maxLen; omega) (by omega) (by have := hG'.size; omega) ?_
        intro v' w3 hown' hgrow _
        obtain ⟨ao', cp', rfl⟩ := own_shape hown'
        have hx3 := grown_block hgrow hx2 hne
        obtain ⟨y0, y1⟩ := two_cells hx3
        have z0 : w3.frozen? ⟨xb, 0, none⟩ = false := by simp only [World.frozen?, hx3]; rfl
        have z1 : w3.frozen? ⟨xb, 1, none⟩ = false := by simp only [World.frozen?, hx3]; rfl
        simp
        go_wp2
        go_end0
        have hbel : Below B w2 w3 := (Below.refl B w2).grown hgrow (by have := hG'.size; omega) (fun k hk => (ho1'.lt k hk).1)
        have hmine : w3.ownsRow B 62 2 (.slice ao' (ls.length + 1) cp') (ls ++ [x]).length (labCells (ls ++ [x])) := by
          rw [labCells_snoc, List.length_append]; exact hown'
        have hoth := World.ownsRow.kept ho2' hgrow (own_two ho2' ho1' (by decide))
        refine ⟨(((keptX_of (hG'.mono hB)).trans (keptX_of hbel)).setAt _ _), .inl ⟨by simp [serOk, M.out, HR.out], rfl, ?_⟩⟩
        have e : serStep (ls, ss) (h, n, b) = (ls ++ [x], ss) := by simp [serStep, M.out, HR.out]
        rw [e]
        refine ⟨by have h1 := hG'.size; have h2 := hbel.size; simp [World.setCell]; omega, .slice ao' (ls.length + 1) cp', .slice ao2 ss.length cp2, set_block hx3 _, ?_, ?_⟩
        · exact ownsRow_setCell_other (a := ⟨xb, 0, none⟩) hmine (own_apart hmine hx3 (by decide)) _
        · exact ownsRow_setCell_other (a := ⟨xb, 0, none⟩) hoth (own_apart hoth hx3 (by decide)) _
  · have t1 : ((h : Int) == 10) = false := by rw [beq_eq_false_iff_ne]; omega
    by_cases m2 : h = 18
    · have t2 : ((h : Int) == 18) = true := by rw [beq_iff_eq]; omega
      have M := hide m2
      clear m1 m2
      go_wp2
      have hbz : b.length ≤ 1000000 := hf
      cases hr : samRead b with
      | none =>
        have HR := hide hr
        clear hr
        refine wp_region_free 6 25 Tryz.mixed2 rfl (by decide +kernel) Grow (fun _ _ _ => Grow.trans) (Grow.refl _)
          (fun i v _ => match i with
            | 0 => v = .pointer (some ⟨xb, 1, none⟩)
            | 2 => v = .pointer (some ⟨w.heap.size, 2, none⟩)
            | 3 => v = .string (bs b)
            | 4 => False
            | _ => True)
          (fun i v w w' h hg => h) (fun ch w2 => Ending.panicked ch = gaveUp 1 ∧ Grow w w2) (fun ch a w2 hd hq => ?_) (fun i hi o ho a w2 hG hoff hdep => ?_) (fun vals w2 hG hvals => (hvals 4 (by omega)).elim)
        · obtain ⟨hq1, hq2⟩ := hq
          simp only [Ending.panicked.injEq] at hq1
          subst hq1
          exact ⟨hd, keptX_of (hq2.mono hB), .inr ⟨by simp [serOk, M.out, HR.out], rfl⟩⟩
        · have hG' : Grow w w2 := h0.trans ⟨by rw [HW.out]; exact hG.os, by rw [HW.out]; exact hG.tape, by rw [HW.out]; exact hG.output, by rw [HW.out]; exact hG.size, by rw [HW.out]; exact hG.block⟩
          have hfb2 : w2.heap[w.heap.size]? = some (.cells #[.int .u64 h, .int .u64 n, .string (bs b)] 133 (0, 0)) := by
            have := hG.get (b := w.heap.size) (by rw [← HW.out]; exact hfb)
            exact this
          have hx2 := hG'.get hx
          obtain ⟨x0, x1⟩ := two_cells hx2
          obtain ⟨f0, f1, f2, _⟩ := three_cells hfb2
          match i, hi with
          | 0, _ =>
            obtain rfl := Option.some.inj ho
            have o1 := hoff 1 (by decide +kernel)
            simp at o1
            simp [opYields, go_sem, o1]
            exact Grow.refl _
          | 1, _ =>
            obtain rfl := Option.some.inj ho
            have d0 := hdep 0 (by decide +kernel)
            simp [slotOf, dstOf] at d0
            simp [opYields, go_sem, d0, x1]
            exact Grow.refl _
          | 2, _ =>
            obtain rfl := Option.some.inj ho
            have o2 := hoff 2 (by decide +kernel)
            simp at o2
            simp [opYields, go_sem, o2]
            exact Grow.refl _
          | 3, _ =>
            obtain rfl := Option.some.inj ho
            have d2 := hdep 2 (by decide +kernel)
            simp [slotOf, dstOf] at d2
            simp [opYields, go_sem, d2, f2]
            exact Grow.refl _
          | 4, _ =>
            obtain rfl := Option.some.inj ho
            have d3 := hdep 3 (by decide +kernel)
            simp [slotOf, dstOf] at d3
            simp [opYields, go_sem, d3]
            refine (readSample_any w2 b (by omega)).mono ?_
            rintro e w3 ⟨hb, (⟨x, hr, _⟩|⟨_, rfl⟩)⟩
            rw [HR.out] at hr; cases hr
            exact ⟨rfl, hG'.trans hb⟩
          | 5, _ => exact (hdep 4 (by decide +kernel)).elim
      | some x =>
        have HR := hide hr
        clear hr
        refine wp_region_free 6 25 Tryz.mixed2 rfl (by decide +kernel) Grow (fun _ _ _ => Grow.trans) (Grow.refl _)
          (fun i v wq => match i with
            | 0 => v = .pointer (some ⟨xb, 1, none⟩)
            | 1 => v = (.slice ao2 ss.length cp2)
            | 2 => v = .pointer (some ⟨w.heap.size, 2, none⟩)
            | 3 => v = .string (bs b)
            | 4 => v = .agg #[.int .i64 x.1, .int .u64 x.2]
            | _ => ∃ g, v = .slice (some ⟨g, 0, none⟩) 1 1 ∧ wq.heap[g]? = some (.cells #[.int .i64 x.1, .int .u64 x.2] 48 (0, 0)))
          (fun i v w1 w2 h hg => ?_) (fun ch w2 => False) (fun ch a w2 hd hq => hq.elim) (fun i hi o ho a w2 hG hoff hdep => ?_) (fun vals w2 hG hvals => ?_)
        · match i, h with
          | 0, h => exact h
          | 1, h => exact h
          | 2, h => exact h
          | 3, h => exact h
          | 4, h => exact h
          | i + 5, ⟨g, h1, h2⟩ => exact ⟨g, h1, hg.get h2⟩
        · have hG' : Grow w w2 := h0.trans ⟨by rw [HW.out]; exact hG.os, by rw [HW.out]; exact hG.tape, by rw [HW.out]; exact hG.output, by rw [HW.out]; exact hG.size, by rw [HW.out]; exact hG.block⟩
          have hfb2 : w2.heap[w.heap.size]? = some (.cells #[.int .u64 h, .int .u64 n, .string (bs b)] 133 (0, 0)) := by
            have := hG.get (b := w.heap.size) (by rw [← HW.out]; exact hfb)
            exact this
          have hx2 := hG'.get hx
          obtain ⟨x0, x1⟩ := two_cells hx2
          obtain ⟨f0, f1, f2, _⟩ := three_cells hfb2
          match i, hi with
          | 0, _ =>
            obtain rfl := Option.some.inj ho
            have o1 := hoff 1 (by decide +kernel)
            simp at o1
            simp [opYields, go_sem, o1]
            exact Grow.refl _
          | 1, _ =>
            obtain rfl := Option.some.inj ho
            have d0 := hdep 0 (by decide +kernel)
            simp [slotOf, dstOf] at d0
            simp [opYields, go_sem, d0, x1]
            exact Grow.refl _
          | 2, _ =>
            obtain rfl := Option.some.inj ho
            have o2 := hoff 2 (by decide +kernel)
            simp at o2
            simp [opYields, go_sem, o2]
            exact Grow.refl _
          | 3, _ =>
            obtain rfl := Option.some.inj ho
            have d2 := hdep 2 (by decide +kernel)
            simp [slotOf, dstOf] at d2
            simp [opYields, go_sem, d2, f2]
            exact Grow.refl _
          | 4, _ =>
            obtain rfl := Option.some.inj ho
            have d3 := hdep 3 (by decide +kernel)
            simp [slotOf, dstOf] at d3
            simp [opYields, go_sem, d3]
            refine (readSample_any w2 b (by omega)).mono ?_
            rintro e w3 ⟨hb, (⟨y, hr, _, rfl⟩|⟨hr, rfl⟩)⟩
            · rw [HR.out] at hr; cases hr; exact ⟨hb, rfl⟩
            · rw [HR.out] at hr; cases hr
          | 5, _ =>
            obtain rfl := Option.some.inj ho
            have d4 := hdep 4 (by decide +kernel)
            simp [slotOf, dstOf] at d4
            simp [opYields, go_sem, d4]
            exact ⟨(Grow.refl _).alloc _, (Array.getElem?_eq_some_iff.1 (heap_alloc_new _ _)).2⟩
        · have hG' : Grow w w2 := h0.trans ⟨by rw [HW.out]; exact hG.os, by rw [HW.out]; exact hG.tape, by rw [HW.out]; exact hG.output, by rw [HW.out]; exact hG.size, by rw [HW.out]; exact hG.block⟩
          have d0 := hvals 0 (by omega)
          have d1 := hvals 1 (by omega)
          have d2 := hvals 2 (by omega)
          have d3 := hvals 3 (by omega)
          have d4 := hvals 4 (by omega)
          obtain ⟨g, d5, hg2⟩ := hvals 5 (by omega)
          simp only at d0 d1 d2 d3 d4
          clear hvals hfb
          have hx2 := hG'.get hx
          have ho1' := own_grow ho1 hG'
          have ho2' := own_grow ho2 hG'
          have hne := own_apart ho2' hx2 (by decide)
          obtain ⟨i0, hi0, hz0, hz1, hz2⟩ := info_parts Tryz.infoS
          obtain ⟨g0, g1⟩ := two_cells hg2
          simp [over, dstOf, Act.put, d0, d1, d2, d3, d4, d5]
          refine wpList_append_own _ rfl _ _ 35 rfl B 48 i0 _ 2 16 Tryz.underlying35 hi0 hz0 hz1 hz2 rfl (by omega) _ ss.length (samCells ss) rfl ho2' ⟨g, 0, none⟩ 1 1 [.int .i64 x.1, .int .u64 x.2] rfl rfl (fun j u hu => by match j, hu with | 0, hu => simp at hu; subst hu; rw [Addr.add_lit]; simpa using g0 | 1, hu => simp at hu; subst hu; rw [Addr.add_lit]; simpa using g1) (by simp [Value.oneCell']) (by unfold maxLen; omega) (by omega) (by have := hG'.size; omega) ?_
          intro v' w3 hown' hgrow _
          obtain ⟨ao', cp', rfl⟩ := own_shape hown'
          have hx3 := grown_block hgrow hx2 hne
          obtain ⟨y0, y1⟩ := two_cells hx3
          have z0 : w3.frozen? ⟨xb, 0, none⟩ = false := by simp only [World.frozen?, hx3]; rfl
          have z1 : w3.frozen? ⟨xb, 1, none⟩ = false := by simp only [World.frozen?, hx3]; rfl
          simp
          go_wp2
          go_end0
          have hbel : Below B w2 w3 := (Below.refl B w2).grown hgrow (by have := hG'.size; omega) (fun k hk => (ho2'.lt k hk).1)
          have hmine : w3.ownsRow B 48 2 (.slice ao' (ss.length + 1) cp') (ss ++ [x]).length (samCells (ss ++ [x])) := by
            rw [samCells_snoc, List.length_append]; exact hown'
          have hoth := World.ownsRow.kept ho1' hgrow (own_two ho1' ho2' (by decide))
          refine ⟨(((keptX_of (hG'.mono hB)).trans (keptX_of hbel)).setAt _ _), .inl ⟨by simp [serOk, M.out, HR.out], rfl, ?_⟩⟩
          have e : serStep (ls, ss) (h, n, b) = (ls, ss ++ [x]) := by simp [serStep, M.out, HR.out]
          rw [e]
          refine ⟨by have h1 := hG'.size; have h2 := hbel.size; simp [World.setCell]; omega, .slice ao1 ls.length cp1, .slice ao' (ss.length + 1) cp', set_block hx3 _, ?_, ?_⟩
          · exact ownsRow_setCell_other (a := ⟨xb, 1, none⟩) hoth (own_apart hoth hx3 (by decide)) _
          · exact ownsRow_setCell_other (a := ⟨xb, 1, none⟩) hmine (own_apart hmine hx3 (by decide)) _
    · have t2 : ((h : Int) == 18) = false := by rw [beq_eq_false_iff_ne]; omega
      have M := hide (And.intro m1 m2)
      clear m1 m2
      go_wp2
      go_end0
      rw [← HW.out]
      refine ⟨keptX_of (h0.mono hB), .inl ⟨?_, rfl, ?_⟩⟩
      · simp only [serOk, M.out.1, M.out.2, if_false]
      · simp only [serStep, M.out.1, M.out.2, if_false]
        exact serAt_grow ⟨hB, _, _, hx, ho1, ho2⟩ h0
/-- A series' text tells one. -/
def serOf (l : List Fld) : Ser := l.foldl serStep ([], [])
theorem serOf_snoc (d : List Fld) (f : Fld) : serOf (d ++ [f]) = serStep (serOf d) f := by simp [serOf]
def serRead (s : List UInt8) : Option Ser := if fieldsOk serOk s = true then some (serOf (fields s).1) else none
theorem serStep_len (x : Ser) (f : Fld) : (serStep x f).1.length ≤ x.1.length + 1 ∧ (serStep x f).2.length ≤ x.2.length + 1 := by
  unfold serStep
  split
  · split <;> simp
  · split
    · split <;> simp
    · simp
theorem serOf_len : ∀ (d : List Fld) (x : Ser), (d.foldl serStep x).1.length ≤ x.1.length + d.length ∧ (d.foldl serStep x).2.length ≤ x.2.length + d.length
  | [], x => by simp
  | f :: d, x => by
    have h1 := serOf_len d (serStep x f)
    have h2 := serStep_len x f
    simp only [List.foldl_cons, List.length_cons]
    omega
set_option maxRecDepth 20000 in
set_option maxHeartbeats 2000000 in
theorem readSeries_any (w : World) (s : List UInt8) (hs : s.length ≤ 1000000) :
    Calls Tryz.prog 109 #[.string (bs s)] w fun e w' => Below w.heap.size w w' ∧
      ((∃ x v1 v2, serRead s = some x ∧ e = .returned (.agg #[v1, v2]) ∧ ownLabels w' w.heap.size v1 x.1 ∧ ownSamples w' w.heap.size v2 x.2) ∨ (serRead s = none ∧ e = gaveUp 1)) := by
  have hcf : ∀ (args : Array Value) (w : World), (callFunc 126 args).run Tryz.prog w = .ok (.enter 126 args) w := fun args w => by simp [go_sem]
  obtain ⟨W, HW⟩ : ∃ W, Hid (W = (w.alloc (.cells #[.slice none 0 0, .slice none 0 0] 41)).alloc (.cells #[.slice none 0 0, .slice none 0 0] 41)) := ⟨_, hide rfl⟩
  have hW0 : Below w.heap.size w W := by rw [HW.out]; exact ((Below.refl _ _).alloc (Nat.le_refl _) _).alloc (by simp) _
  have hWs : w.heap.size + 2 ≤ W.heap.size := by rw [HW.out]; simp
  have hW1 : W.heap[w.heap.size]? = some (.cells #[.slice none 0 0, .slice none 0 0] 41 (0, 0)) := by
    rw [HW.out, Below.heap_alloc _ _ _ (by simp)]; exact heap_alloc_new _ _
  have hW2 : W.heap[w.heap.size + 1]? = some (.cells #[.slice none 0 0, .slice none 0 0] 41 (0, 0)) := by
    rw [HW.out]
    have := heap_alloc_new (w.alloc (.cells #[.slice none 0 0, .slice none 0 0] 41)) (.cells #[.slice none 0 0, .slice none 0 0] 41)
    simpa using this
  have HE := hide (eachField_any s W 126 #[.pointer (some ⟨w.heap.size + 1, 0, none⟩)]
    (fun d wi => Below w.heap.size w wi ∧ wi.heap[w.heap.size]? = some (.cells #[.slice none 0 0, .slice none 0 0] 41 (0, 0)) ∧ serAt wi (w.heap.size + 2) (w.heap.size + 1) (serOf d))
    serOk (fun wi => Below w.heap.size w wi) (by omega) hcf ⟨hW0, hW1, hWs, _, _, hW2, World.ownsRow_nil _ _ _ _, World.ownsRow_nil _ _ _ _⟩
    (fun d w1 w2 ⟨h1, h2, h3⟩ hg => ⟨h1.trans (hg.mono h1.size), hg.get h2, serAt_grow h3 hg⟩)
    (fun d w1 h => h.1)
    (fun d f w1 ⟨h1, h2, h3⟩ _ hn hf hd => (readSeries1_any w1 (w.heap.size + 2) (w.heap.size + 1) (serOf d) f h3 (by have := (serOf_len d ([], [])).1; simp at this; show (d.foldl serStep ([], [])).1.length ≤ _; omega) (by have := (serOf_len d ([], [])).2; simp at this; show (d.foldl serStep ([], [])).2.length ≤ _; omega) (by omega)).mono fun e w2 ⟨hk, h⟩ => by
      have hb2 : Below w.heap.size w w2 := h1.trans (hk.below (by omega) (by omega))
      rcases h with ⟨h4, h5, h6⟩ | ⟨h4, h5⟩
      · exact .inl ⟨h4, h5, hb2, hk.get h2 (by omega) (by omega), by rw [serOf_snoc]; exact h6⟩
      · exact .inr ⟨h4, h5, hb2⟩))
  clear hW0 hW1 hW2 hWs
  rw [HW.out] at HE
  go_enter Tryz.func109, Tryz.ntmps109
  go_wp2_with fail
  refine HE.out.mono ?_
  clear HE hcf HW
  rintro e w1 (⟨hok, rfl, hb1, h2, h3⟩ | ⟨hok, rfl, hb1⟩)
  · have HOk : Hid (serRead s = some (serOf (fields s).1)) := by
      show _ = _
      simp [serRead, hok]
    clear hok
    generalize serOf (fields s).1 = x at *
    obtain ⟨h4, v1, v2, h5, h6, h7⟩ := h3
    obtain ⟨ao1, cp1, rfl⟩ := own_shape h6
    obtain ⟨ao2, cp2, rfl⟩ := own_shape h7
    obtain ⟨x0, x1⟩ := two_cells h5
    obtain ⟨c0, c1⟩ := two_cells h2
    have z0 : w1.frozen? ⟨w.heap.size, 0, none⟩ = false := by simp only [World.frozen?, h2]; rfl
    have z1 : w1.frozen? ⟨w.heap.size, 1, none⟩ = false := by simp only [World.frozen?, h2]; rfl
    have hb3 : ((w1.setCell ⟨w.heap.size, 0, none⟩ (.slice ao1 x.1.length cp1)).setCell ⟨w.heap.size, 1, none⟩ (.slice ao2 x.2.length cp2)).heap[w.heap.size]? = some (.cells #[.slice ao1 x.1.length cp1, .slice ao2 x.2.length cp2] 41 (0, 0)) := by
      rw [set_block (set_block h2 _) _]; rfl
    obtain ⟨r0, r1⟩ := two_cells hb3
    go_wp2
    refine bodyPost_ret (v := .agg #[.slice ao1 x.1.length cp1, .slice ao2 x.2.length cp2]) (by simp [results, Tryz.results109, go_sem, r0, r1]) rfl ?_
    have n1 : Value.ownBlock (.slice ao1 x.1.length cp1) ≠ some w.heap.size := fun e => by have := (h6.lt _ e).1; omega
    have n2 : Value.ownBlock (.slice ao2 x.2.length cp2) ≠ some w.heap.size := fun e => by have := (h7.lt _ e).1; omega
    refine ⟨(hb1.setCell (p := ⟨w.heap.size, 0, none⟩) (Nat.le_refl _) _).setCell (p := ⟨w.heap.size, 1, none⟩) (Nat.le_refl _) _, .inl ⟨x, _, _, HOk.out, rfl, ?_, ?_⟩⟩
    · exact own_le (ownsRow_setCell_other (a := ⟨w.heap.size, 1, none⟩) (ownsRow_setCell_other (a := ⟨w.heap.size, 0, none⟩) h6 n1 _) n1 _) (by omega)
    · exact own_le (ownsRow_setCell_other (a := ⟨w.heap.size, 1, none⟩) (ownsRow_setCell_other (a := ⟨w.heap.size, 0, none⟩) h7 n2 _) n2 _) (by omega)
  · have HOk : Hid (serRead s = none) := by
      show _ = _
      simp [serRead, hok]
    exact ⟨rfl, hb1, .inr ⟨HOk.out, rfl⟩⟩
end Go.Proofs.YtmdakfmecfcbhaaGreat
