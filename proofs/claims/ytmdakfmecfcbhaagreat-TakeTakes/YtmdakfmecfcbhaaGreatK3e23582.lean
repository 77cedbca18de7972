/- 7 texts in one. -/
import Derived.Test.YtmdakfmecfcbhaaGreatProg
import Derived.Test.YtmdakfmecfcbhaaGreatK7e06493
import Derived.Test.YtmdakfmecfcbhaaGreatK85cc7d6
import Derived.Test.YtmdakfmecfcbhaaGreatK6271d58
import Derived.Test.YtmdakfmecfcbhaaGreatK2326a0d
import Derived.Lib.Strings
import Derived.Lib.Walk
import Derived.Lib.BufferWrite
import Derived.Lib.UnsafeStr
import Derived.Laws.MakeOwn
import Derived.BigQuiet
set_option linter.unusedVariables false
set_option linter.unusedSimpArgs false
namespace Go.Proofs.YtmdakfmecfcbhaaGreat
open Go.RowKit
attribute [local go_sem] bs_size bs_toList bs_append bs_get bs_extract
theorem Tryz.mixed2 : Tryz.prog.follows .mixedOrders = true := by kernel_rfl
theorem Tryz.cells5 : Tryz.prog.cellsOf 5 = 1 := by kernel_rfl
set_option maxHeartbeats 4000000 in
set_option maxRecDepth 100000 in
theorem lite_clone (s : ByteArray) (w : World) (hlim : s.size ≤ 281474976710656) :
    Calls Tryz.prog 119 #[.string s] w fun e w' => e = .returned (.string s) ∧ Below w.heap.size w w' := by
  by_cases h0 : s.size = 0
  · have hs : s = ⟨#[]⟩ := ByteArray.ext (Array.eq_empty_of_size_eq_zero h0)
    subst hs
    go_enter Tryz.func119, Tryz.ntmps119
    go_wp2
    go_ret
    exact ⟨rfl, Below.refl _ _⟩
  · obtain ⟨i0, hi, hz0, hz1, hz2⟩ := info_parts Tryz.info5
    have hinfo : (Tryz.prog.info? 5).map (·.size) = some 1 := by rw [hi]; simp [hz1]
    obtain ⟨M, hM⟩ : ∃ M, M = madeCells (Value.int .u8 0).cells (((s.size : Nat) : Int).toNat * i0.size) := ⟨_, rfl⟩
    have hMs : M.size = s.size := by rw [hM, size_madeCells, hz1]; simp
    have hmk : ∀ W : World, (Instr.makeSlice 63 (.int .i64 (s.size : Int)) (.int .i64 (s.size : Int))).run Tryz.prog W = .ok (.slice (some ⟨W.heap.size, 0, none⟩) s.size s.size) (W.alloc (.cells M 5)) := fun W => by
      have h := run_make (P := Tryz.prog) W 63 5 i0 (.int .u8 0) Tryz.underlying63 hi hz0 .i64 .i64 (s.size : Int) (s.size : Int) (by omega) (by omega) (by rw [hz2]; omega) (by omega)
      rw [← hM] at h
      simpa using h
    clear hM
    have hcp := Lib.run_copy_row_string (P := Tryz.prog) (w.alloc (.cells M 5)) 63 9 3 5 w.heap.size 0 s.size s.size s M 5 Tryz.underlying63 hinfo (heap_alloc_new w _) (Nat.le_refl _) (by omega)
    obtain ⟨Y, hY⟩ : ∃ Y, Y = (M.toList.take 0 ++ Lib.byteCells s.data.toList ++ M.toList.drop (0 + s.size)).toArray := ⟨_, rfl⟩
    rw [← hY] at hcp
    have hYl : Y.toList = Lib.byteCells s.data.toList := by
      rw [hY, List.toList_toArray, List.take_zero, List.nil_append, List.drop_of_length_le (by rw [Array.length_toList]; omega), List.append_nil]
    have hYs : Y.size = s.size := by rw [← Array.length_toList, hYl, Lib.byteCells_length, ← Lib.size_eq]
    have hgY : ((w.alloc (.cells M 5)).setRow w.heap.size Y).heap[w.heap.size]? = some (.cells Y 5 (0, 0)) := setRow_heap _ _ M _ 5 (0, 0) (heap_alloc_new w _)
    have hne : s.data.toList ≠ [] := fun e => h0 (by rw [Lib.size_eq, e]; rfl)
    have hUS := Lib.run_unsafeString_row (P := Tryz.prog) ((w.alloc (.cells M 5)).setRow w.heap.size Y) 151 3 9 5 Tryz.underlying151 Tryz.cells5 w.heap.size Y.size (by unfold World.shape?; rw [hgY]) s.data.toList hne (by rw [← Lib.size_eq]; omega) (by rw [← Lib.size_eq]; omega)
      (fun j x hx => Lib.cells_of_row hgY Y.size j _ (by rw [List.take_of_length_le (by rw [Array.length_toList]; exact Nat.le_refl _), hYl]; simp [Lib.byteCells, hx]))
    rw [← Lib.size_eq] at hUS
    clear hY
    go_enter Tryz.func119, Tryz.ntmps119
    go_wp2
    go_ret
    have hb1 : Below w.heap.size w (w.alloc (.cells M 5)) := (Below.refl _ w).alloc (Nat.le_refl _) _
    have hb2 : Below w.heap.size (w.alloc (.cells M 5)) ((w.alloc (.cells M 5)).setRow w.heap.size Y) := ⟨rfl, rfl, rfl, by simp, fun k hk => setRow_other _ _ _ _ (by omega)⟩
    exact ⟨rfl, Lib.below_freeze (hb1.trans hb2) (p := ⟨w.heap.size, 0, none⟩) (Nat.le_refl _) _⟩
theorem clone_any (s : List UInt8) (w : World) (hlim : s.length ≤ 281474976710656) :
    Calls Tryz.prog 104 #[.string (bs s)] w fun e w' => e = .returned (.string (bs s)) ∧ Below w.heap.size w w' := by
  go_enter Tryz.func104, Tryz.ntmps104
  go_wp2_with fail
  refine (lite_clone (bs s) w (by rw [bs_size]; exact hlim)).mono ?_
  rintro e w1 ⟨rfl, hb⟩
  go_wp2
  go_ret
  exact ⟨rfl, hb⟩
theorem KeptX.setAt {B b : Nat} {w w' : World} (h : KeptX B b w w') (o : Nat) (v : Value) : KeptX B b w (w'.setCell ⟨b, o, none⟩ v) :=
  ⟨h.os, h.tape, h.output, by simpa [World.setCell] using h.size, fun k hk hn => (Below.heap_setCell _ _ _ _ hn).trans (h.block k hk hn)⟩
theorem KeptX.alloc {B b : Nat} {w w' : World} (h : KeptX B b w w') (hB : B ≤ w'.heap.size) (o : Obj) : KeptX B b w (w'.alloc o) :=
  h.trans (keptX_of ((Below.refl B w').alloc hB o))
/-- What a label's fields tell: the last of each. -/
def labStep (x : Lab) (f : Fld) : Lab := if f.1 = 10 then (f.2.2, x.2) else if f.1 = 18 then (x.1, f.2.2) else x
def labOf (l : List Fld) : Lab := l.foldl labStep ([], [])
set_option maxRecDepth 20000 in
set_option maxHeartbeats 1000000 in
theorem readLabel1_any (w : World) (xb : Nat) (x : Lab) (f : Fld) (hx : w.heap[xb]? = some (.cells #[.string (bs x.1), .string (bs x.2)] 62 (0, 0))) :
    Calls Tryz.prog 142 #[fldV f, .pointer (some ⟨xb, 0, none⟩)] w fun e w' => e = .returned (.tuple #[]) ∧ KeptX w.heap.size xb w w' ∧ w'.heap[xb]? = some (.cells #[.string (bs (labStep x f).1), .string (bs (labStep x f).2)] 62 (0, 0)) := by
  obtain ⟨h, n, b⟩ := f
  have hxlt := lt_of_block hx
  have h0 : Below w.heap.size w (w.alloc (.cells #[.int .u64 h, .int .u64 n, .string (bs b)] 133)) := (Below.refl _ _).alloc (Nat.le_refl _) _
  have hx1 := below_block h0 hx hxlt
  obtain ⟨c0, c1⟩ := two_cells hx1
  have z0 : (w.alloc (.cells #[.int .u64 h, .int .u64 n, .string (bs b)] 133)).frozen? ⟨xb, 0, none⟩ = false := by simp only [World.frozen?, hx1]; rfl
  have z1 : (w.alloc (.cells #[.int .u64 h, .int .u64 n, .string (bs b)] 133)).frozen? ⟨xb, 1, none⟩ = false := by simp only [World.frozen?, hx1]; rfl
  unfold fldV
  go_enter Tryz.func142, Tryz.ntmps142
  have hk := keptX_of (b := xb) h0
  by_cases m1 : h = 10
  · have t1 : ((h : Int) == 10) = true := by rw [beq_iff_eq]; omega
    have M := hide m1
    clear m1
    go_wp2
    go_end0
    refine ⟨rfl, ((KeptX.refl _ _ _).setAt _ _).alloc (by simp [World.setCell]) _, ?_⟩
    rw [Below.heap_alloc _ _ _ (by simpa [World.setCell] using hxlt), set_block hx]
    simp only [labStep, M.out, if_true]
    rfl
  · have t1 : ((h : Int) == 10) = false := by rw [beq_eq_false_iff_ne]; omega
    by_cases m2 : h = 18
    · have t2 : ((h : Int) == 18) = true := by rw [beq_iff_eq]; omega
      have M := hide m2
      clear m1 m2
      go_wp2
      go_end0
      refine ⟨rfl, ((KeptX.refl _ _ _).setAt _ _).alloc (by simp [World.setCell]) _, ?_⟩
      rw [Below.heap_alloc _ _ _ (by simpa [World.setCell] using hxlt), set_block hx]
      simp only [labStep, M.out]
      rfl
    · have t2 : ((h : Int) == 18) = false := by rw [beq_eq_false_iff_ne]; omega
      have M := hide (And.intro m1 m2)
      clear m1 m2
      go_wp2
      go_end0
      refine ⟨rfl, hk, ?_⟩
      simp only [labStep, M.out.1, M.out.2, if_false]
      exact hx1
theorem labOf_snoc (d : List Fld) (f : Fld) : labOf (d ++ [f]) = labStep (labOf d) f := by simp [labOf]
theorem labStep_len {x : Lab} {f : Fld} {n : Nat} (hx : x.1.length ≤ n ∧ x.2.length ≤ n) (hf : f.2.2.length ≤ n) : (labStep x f).1.length ≤ n ∧ (labStep x f).2.length ≤ n := by
  unfold labStep
  split
  · exact ⟨hf, hx.2⟩
  · split
    · exact ⟨hx.1, hf⟩
    · exact hx
/-- A label's text tells one. -/
def labRead (s : List UInt8) : Option Lab := if (fields s).2 = true then some (labOf (fields s).1) else none
set_option maxRecDepth 20000 in
set_option maxHeartbeats 2000000 in
theorem readLabel_any (w : World) (s : List UInt8) (hs : s.length ≤ 1000000) :
    Calls Tryz.prog 127 #[.string (bs s)] w fun e w' => Below w.heap.size w w' ∧
      ((∃ x, labRead s = some x ∧ x.1.length ≤ s.length ∧ x.2.length ≤ s.length ∧ e = .returned (.agg #[.string (bs x.1), .string (bs x.2)])) ∨ (labRead s = none ∧ e = gaveUp 1)) := by
  have hcf : ∀ (args : Array Value) (w : World), (callFunc 142 args).run Tryz.prog w = .ok (.enter 142 args) w := fun args w => by simp [go_sem]
  obtain ⟨W, HW⟩ : ∃ W, Hid (W = (w.alloc (.cells #[.string { data := #[] }, .string { data := #[] }] 62)).alloc (.cells #[.string { data := #[] }, .string { data := #[] }] 62)) := ⟨_, hide rfl⟩
  have hW0 : Below w.heap.size w W := by rw [HW.out]; exact ((Below.refl _ _).alloc (Nat.le_refl _) _).alloc (by simp) _
  have hW1 : W.heap[w.heap.size]? = some (.cells #[.string (bs []), .string (bs [])] 62 (0, 0)) := by
    rw [HW.out, Below.heap_alloc _ _ _ (by simp)]; exact heap_alloc_new _ _
  have hW2 : W.heap[w.heap.size + 1]? = some (.cells #[.string (bs []), .string (bs [])] 62 (0, 0)) := by
    rw [HW.out]
    have := heap_alloc_new (w.alloc (.cells #[.string { data := #[] }, .string { data := #[] }] 62)) (.cells #[.string { data := #[] }, .string { data := #[] }] 62)
    simpa [bs] using this
  have HE := hide (eachField_any s W 142 #[.pointer (some ⟨w.heap.size + 1, 0, none⟩)]
    (fun d wi => Below w.heap.size w wi ∧ wi.heap[w.heap.size]? = some (.cells #[.string (bs []), .string (bs [])] 62 (0, 0)) ∧ wi.heap[w.heap.size + 1]? = some (.cells #[.string (bs (labOf d).1), .string (bs (labOf d).2)] 62 (0, 0)) ∧ (labOf d).1.length ≤ s.length ∧ (labOf d).2.length ≤ s.length)
    (fun _ => true) (fun wi => Below w.heap.size w wi) (by omega) hcf ⟨hW0, hW1, hW2, by simp [labOf], by simp [labOf]⟩
    (fun d w1 w2 ⟨h1, h2, h3, h4⟩ hg => ⟨h1.trans (hg.mono h1.size), hg.get h2, hg.get h3, h4⟩)
    (fun d w1 h => h.1)
    (fun d f w1 ⟨h1, h2, h3, h4⟩ _ _ hf _ => (readLabel1_any w1 (w.heap.size + 1) (labOf d) f h3).mono fun e w2 ⟨he, hk, hb⟩ => .inl ⟨rfl, he, (h1.trans (hk.below h1.size (by omega))), hk.get h2 (lt_of_block h2) (by omega), by rw [labOf_snoc]; exact hb, by rw [labOf_snoc]; exact labStep_len h4 hf⟩))
  clear hW0 hW1 hW2
  rw [HW.out] at HE
  go_enter Tryz.func127, Tryz.ntmps127
  go_wp2_with fail
  refine HE.out.mono ?_
  clear HE hcf HW
  rintro e w1 (⟨hok, rfl, hb1, h2, h3, h4, h5⟩ | ⟨hok, rfl, hb1⟩)
  · have HOk : Hid (labRead s = some (labOf (fields s).1)) := by
      show _ = _
      simp [fieldsOk] at hok
      simp [labRead, hok]
    clear hok
    generalize labOf (fields s).1 = x at *
    go_wp2
    refine wp_region_free 7 14 Tryz.mixed2 rfl (by decide +kernel) Grow (fun _ _ _ => Grow.trans) (Grow.refl _)
      (fun i v _ => match i with
        | 0 => v = .pointer (some ⟨w.heap.size + 1, 0, none⟩)
        | 1 => v = .string (bs x.1)
        | 2 => v = .string (bs x.1)
        | 3 => v = .pointer (some ⟨w.heap.size + 1, 1, none⟩)
        | 4 => v = .string (bs x.2)
        | 5 => v = .string (bs x.2)
        | _ => v = .agg #[.string (bs x.1), .string (bs x.2)])
      (fun i v w w' h hg => h) (fun _ _ => False) (fun _ _ _ _ h => h.elim) (fun i hi o ho a w2 hG hoff hdep => ?_) (fun vals w2 hG hvals => ?_)
    · obtain ⟨x0, x1⟩ := two_cells (below_block hG.undrew h3 (lt_of_block h3))
      match i, hi with
      | 0, _ =>
        obtain rfl := Option.some.inj ho
        have o3 := hoff 3 (by decide +kernel)
        simp at o3
        simp [opYields, go_sem, o3]
        exact Grow.refl _
      | 1, _ =>
        obtain rfl := Option.some.inj ho
        have d0 := hdep 0 (by decide +kernel)
        simp [slotOf, dstOf] at d0
        simp [opYields, go_sem, d0, x0]
        exact Grow.refl _
      | 2, _ =>
        obtain rfl := Option.some.inj ho
        have d1 := hdep 1 (by decide +kernel)
        simp [slotOf, dstOf] at d1
        simp [opYields, go_sem, d1]
        refine (clone_any x.1 w2 (by omega)).mono ?_
        rintro e w3 ⟨rfl, hb⟩
        exact ⟨hb, rfl⟩
      | 3, _ =>
        obtain rfl := Option.some.inj ho
        have o3 := hoff 3 (by decide +kernel)
        simp at o3
        simp [opYields, go_sem, o3]
        exact Grow.refl _
      | 4, _ =>
        obtain rfl := Option.some.inj ho
        have d3 := hdep 3 (by decide +kernel)
        simp [slotOf, dstOf] at d3
        simp [opYields, go_sem, d3, x1]
        exact Grow.refl _
      | 5, _ =>
        obtain rfl := Option.some.inj ho
        have d4 := hdep 4 (by decide +kernel)
        simp [slotOf, dstOf] at d4
        simp [opYields, go_sem, d4]
        refine (clone_any x.2 w2 (by omega)).mono ?_
        rintro e w3 ⟨rfl, hb⟩
        exact ⟨hb, rfl⟩
      | 6, _ =>
        obtain rfl := Option.some.inj ho
        have d2 := hdep 2 (by decide +kernel)
        simp [slotOf, dstOf] at d2
        have d5 := hdep 5 (by decide +kernel)
        simp [slotOf, dstOf] at d5
        simp [opYields, go_sem, d2, d5]
        exact Grow.refl _
    · have v6 := hvals 6 (by omega)
      simp only at v6
      clear hvals
      have h2' := below_block hG.undrew h2 (lt_of_block h2)
      obtain ⟨c0, c1⟩ := two_cells h2'
      have z0 : w2.frozen? ⟨w.heap.size, 0, none⟩ = false := by simp only [World.frozen?, h2']; rfl
      have z1 : w2.frozen? ⟨w.heap.size, 1, none⟩ = false := by simp only [World.frozen?, h2']; rfl
      simp [over, dstOf, Act.put, v6]
      go_wp2
      have hb3 : ((w2.setCell ⟨w.heap.size, 0, none⟩ (.string (bs x.1))).setCell ⟨w.heap.size, 1, none⟩ (.string (bs x.2))).heap[w.heap.size]? = some (.cells #[.string (bs x.1), .string (bs x.2)] 62 (0, 0)) := by
        rw [set_block (set_block h2' _) _]; rfl
      obtain ⟨r0, r1⟩ := two_cells hb3
      refine bodyPost_ret (v := .agg #[.string (bs x.1), .string (bs x.2)]) (by simp [results, Tryz.results127, go_sem, r0, r1]) rfl ?_
      exact ⟨((hb1.trans (hG.undrew.mono hb1.size)).setCell (p := ⟨w.heap.size, 0, none⟩) (Nat.le_refl _) _).setCell (p := ⟨w.heap.size, 1, none⟩) (Nat.le_refl _) _, .inl ⟨x, HOk.out, h4, h5, rfl⟩⟩
  · have HOk : Hid (labRead s = none) := by
      show _ = _
      have hf : (fields s).2 = false := by simpa [fieldsOk] using hok
      simp [labRead, hf]
    exact ⟨rfl, hb1, .inr ⟨HOk.out, rfl⟩⟩
set_option maxRecDepth 20000 in
set_option maxHeartbeats 2000000 in
theorem sameLabels_yes (w : World) (B : Nat) (va vb : Value) (ls : List Lab) (ha : readsLabels w B va ls) (hb : readsLabels w B vb ls) (hl : ls.length ≤ 1000000) :
    Calls Tryz.prog 20 #[va, vb] w fun e w' => e = .returned (.bool true) ∧ ∃ n, w' = w.drewN n := by
  obtain ⟨ao, ac, rfl, acells⟩ := ha
  obtain ⟨bo, bc, rfl, bcells⟩ := hb
  go_enter Tryz.func20, Tryz.ntmps20
  go_wp2
  go_loopw [5] (fun i wr => ∃ k n : Nat, k ≤ ls.length ∧ i = .int .i64 k ∧ wr = w.drewN n) (fun i _ => ls.length - (intOf i).toNat)
  case atStart => exact ⟨0, 0, by omega, rfl, rfl⟩
  case round =>
    obtain ⟨k, n, hk, rfl, hw⟩ := hrel
    have HW := hide hw
    clear hw
    by_cases hlt : k < ls.length
    · obtain ⟨ab, aof, rfl, haB, a0, a1⟩ := acells k hlt
      obtain ⟨bb, bof, rfl, hbB, b0, b1⟩ := bcells k hlt
      have d0 : wr.cell? ⟨ab, aof + k * 2, none⟩ = some (.string (bs ls[k].1)) := by rw [HW.out]; exact a0
      have d1 : wr.cell? ⟨ab, aof + k * 2 + 1, none⟩ = some (.string (bs ls[k].2)) := by rw [HW.out]; exact a1
      have e0 : wr.cell? ⟨bb, bof + k * 2, none⟩ = some (.string (bs ls[k].1)) := by rw [HW.out]; exact b0
      have e1 : wr.cell? ⟨bb, bof + k * 2 + 1, none⟩ = some (.string (bs ls[k].2)) := by rw [HW.out]; exact b1
      clear a0 a1 b0 b1 acells bcells
      go_wp2
      go_quiet (fail)
      go_wp2
      go_roundw
      case rel => exact ⟨k + 1, _, by omega, by go_num, by rw [HW.out, World.drewN_drewN]⟩
      case measure => simp [intOf]; omega
    · go_wp2
      go_ret
      exact ⟨rfl, n, HW.out⟩
set_option maxRecDepth 20000 in
set_option maxHeartbeats 2000000 in
theorem sameSamples_yes (w : World) (B : Nat) (va vb : Value) (ls : List Sam) (ha : readsSamples w B va ls) (hb : readsSamples w B vb ls) (hl : ls.length ≤ 1000000) :
    Calls Tryz.prog 21 #[va, vb] w fun e w' => e = .returned (.bool true) ∧ ∃ n, w' = w.drewN n := by
  obtain ⟨ao, ac, rfl, acells⟩ := ha
  obtain ⟨bo, bc, rfl, bcells⟩ := hb
  go_enter Tryz.func21, Tryz.ntmps21
  go_wp2
  go_loopw [5] (fun i wr => ∃ k n : Nat, k ≤ ls.length ∧ i = .int .i64 k ∧ wr = w.drewN n) (fun i _ => ls.length - (intOf i).toNat)
  case atStart => exact ⟨0, 0, by omega, rfl, rfl⟩
  case round =>
    obtain ⟨k, n, hk, rfl, hw⟩ := hrel
    have HW := hide hw
    clear hw
    by_cases hlt : k < ls.length
    · obtain ⟨ab, aof, rfl, haB, a0, a1⟩ := acells k hlt
      obtain ⟨bb, bof, rfl, hbB, b0, b1⟩ := bcells k hlt
      have d0 : wr.cell? ⟨ab, aof + k * 2, none⟩ = some (.int .i64 ls[k].1) := by rw [HW.out]; exact a0
      have d1 : wr.cell? ⟨ab, aof + k * 2 + 1, none⟩ = some (.int .u64 ls[k].2) := by rw [HW.out]; exact a1
      have e0 : wr.cell? ⟨bb, bof + k * 2, none⟩ = some (.int .i64 ls[k].1) := by rw [HW.out]; exact b0
      have e1 : wr.cell? ⟨bb, bof + k * 2 + 1, none⟩ = some (.int .u64 ls[k].2) := by rw [HW.out]; exact b1
      clear a0 a1 b0 b1 acells bcells
      go_wp2
      go_quiet (fail)
      go_wp2
      go_roundw
      case rel => exact ⟨k + 1, _, by omega, by go_num, by rw [HW.out, World.drewN_drewN]⟩
      case measure => simp [intOf]; omega
    · go_wp2
      go_ret
      exact ⟨rfl, n, HW.out⟩
set_option maxRecDepth 20000 in
set_option maxHeartbeats 4000000 in
theorem sameSeries_yes (w : World) (B : Nat) (va vb : Value) (ls : List Ser) (ha : readsSeries w B va ls) (hb : readsSeries w B vb ls) (hl : ls.length ≤ 1000000) (hin : ∀ x ∈ ls, x.1.length ≤ 1000000 ∧ x.2.length ≤ 1000000) :
    Calls Tryz.prog 13 #[va, vb] w fun e w' => e = .returned (.bool true) ∧ ∃ n, w' = w.drewN n := by
  obtain ⟨ao, ac, rfl, acells⟩ := ha
  obtain ⟨bo, bc, rfl, bcells⟩ := hb
  have HI := hide hin
  clear hin
  go_enter Tryz.func13, Tryz.ntmps13
  go_wp2
  go_loopw [5] (fun i wr => ∃ k n : Nat, k ≤ ls.length ∧ i = .int .i64 k ∧ wr = w.drewN n) (fun i _ => ls.length - (intOf i).toNat)
  case atStart => exact ⟨0, 0, by omega, rfl, rfl⟩
  case round =>
    obtain ⟨k, n, hk, rfl, hw⟩ := hrel
    have HW := hide hw
    clear hw
    by_cases hlt : k < ls.length
    · obtain ⟨ab, aof, ax, ay, rfl, haB, a0, a1, ra, rb⟩ := acells k hlt
      obtain ⟨bb, bof, bx, bw, rfl, hbB, b0, b1, rc, rd⟩ := bcells k hlt
      have d0 : wr.cell? ⟨ab, aof + k * 2, none⟩ = some ax := by rw [HW.out]; exact a0
      have d1 : wr.cell? ⟨ab, aof + k * 2 + 1, none⟩ = some ay := by rw [HW.out]; exact a1
      have e0 : wr.cell? ⟨bb, bof + k * 2, none⟩ = some bx := by rw [HW.out]; exact b0
      have e1 : wr.cell? ⟨bb, bof + k * 2 + 1, none⟩ = some bw := by rw [HW.out]; exact b1
      have r1 : ∀ W : World, (∀ a, W.cell? a = w.cell? a) → readsLabels W B ax ls[k].1 := fun W h => by unfold readsLabels; simp only [h]; exact ra
      have r2 : ∀ W : World, (∀ a, W.cell? a = w.cell? a) → readsLabels W B bx ls[k].1 := fun W h => by unfold readsLabels; simp only [h]; exact rc
      have r3 : ∀ W : World, (∀ a, W.cell? a = w.cell? a) → readsSamples W B ay ls[k].2 := fun W h => by unfold readsSamples; simp only [h]; exact rb
      have r4 : ∀ W : World, (∀ a, W.cell? a = w.cell? a) → readsSamples W B bw ls[k].2 := fun W h => by unfold readsSamples; simp only [h]; exact rd
      have hi := HI.out _ (List.getElem_mem hlt)
      obtain ⟨q1, q2, rfl, _⟩ := id ra
      obtain ⟨q3, q4, rfl, _⟩ := id rb
      obtain ⟨q5, q6, rfl, _⟩ := id rc
      obtain ⟨q7, q8, rfl, _⟩ := id rd
      clear a0 a1 b0 b1 acells bcells ra rb rc rd
      go_wp2
      have hwc : Hid (∀ n a, (wr.drewN n).cell? a = w.cell? a) := fun n a => by rw [HW.out]; rfl
      go_quiet (first
        | exact Calls.quiet_of (sameLabels_yes _ B _ _ ls[k].1 (r1 _ (hwc.out _)) (r2 _ (hwc.out _)) hi.1)
        | exact Calls.quiet_of (sameSamples_yes _ B _ _ ls[k].2 (r3 _ (hwc.out _)) (r4 _ (hwc.out _)) hi.2))
      go_wp2
      go_roundw
      case rel => exact ⟨k + 1, _, by omega, by go_num, by rw [HW.out, World.drewN_drewN]⟩
      case measure => simp [intOf]; omega
    · go_wp2
      go_ret
      exact ⟨rfl, n, HW.out⟩
/-- A number from 0 on as a time. -/
def sgn (n : Nat) : Int := if n % 18446744073709551616 < 9223372036854775808 then ((n % 18446744073709551616 : Nat) : Int) else ((n % 18446744073709551616 : Nat) : Int) - 18446744073709551616
theorem sgn_wrap (n : Nat) : IntKind.i64.wrap ((n : Nat) : Int) = sgn n := by
  rw [IntKind.wrap_i64, sgn]; split <;> omega
/-- What a sample's fields tell: the last of each. -/
def samStep (x : Sam) (f : Fld) : Sam := if f.1 = 9 then (x.1, f.2.1) else if f.1 = 16 then (sgn f.2.1, x.2) else x
def samOf (l : List Fld) : Sam := l.foldl samStep (0, 0)
theorem samOf_snoc (d : List Fld) (f : Fld) : samOf (d ++ [f]) = samStep (samOf d) f := by simp [samOf]
theorem samOf_nil : samOf [] = (0, 0) := rfl
set_option maxRecDepth 20000 in
set_option maxHeartbeats 1000000 in
theorem readSample1_any (w : World) (xb : Nat) (x : Sam) (f : Fld) (hx : w.heap[xb]? = some (.cells #[.int .i64 x.1, .int .u64 x.2] 48 (0, 0))) :
    Calls Tryz.prog 143 #[fldV f, .pointer (some ⟨xb, 0, none⟩)] w fun e w' => e = .returned (.tuple #[]) ∧ KeptX w.heap.size xb w w' ∧ w'.heap[xb]? = some (.cells #[.int .i64 (samStep x f).1, .int .u64 (samStep x f).2] 48 (0, 0)) := by
  obtain ⟨h, n, b⟩ := f
  have hxlt := lt_of_block hx
  have h0 : Below w.heap.size w (w.alloc (.cells #[.int .u64 h, .int .u64 n, .string (bs b)] 133)) := (Below.refl _ _).alloc (Nat.le_refl _) _
  have hx1 := below_block h0 hx hxlt
  obtain ⟨c0, c1⟩ := two_cells hx1
  have z0 : (w.alloc (.cells #[.int .u64 h, .int .u64 n, .string (bs b)] 133)).frozen? ⟨xb, 0, none⟩ = false := by simp only [World.frozen?, hx1]; rfl
  have z1 : (w.alloc (.cells #[.int .u64 h, .int .u64 n, .string (bs b)] 133)).frozen? ⟨xb, 1, none⟩ = false := by simp only [World.frozen?, hx1]; rfl
  have hsg := sgn_wrap n
  unfold fldV
  go_enter Tryz.func143, Tryz.ntmps143
  have hk := keptX_of (b := xb) h0
  by_cases m1 : h = 9
  · have t1 : ((h : Int) == 9) = true := by rw [beq_iff_eq]; omega
    have M := hide m1
    clear m1
    go_wp2
    go_end0
    refine ⟨rfl, ((KeptX.refl _ _ _).setAt _ _).alloc (by simp [World.setCell]) _, ?_⟩
    rw [Below.heap_alloc _ _ _ (by simpa [World.setCell] using hxlt), set_block hx]
    simp only [samStep, M.out, if_true]
    rfl
  · have t1 : ((h : Int) == 9) = false := by rw [beq_eq_false_iff_ne]; omega
    by_cases m2 : h = 16
    · have t2 : ((h : Int) == 16) = true := by rw [beq_iff_eq]; omega
      have M := hide m2
      clear m1 m2
      go_wp2
      go_end0
      refine ⟨rfl, ((KeptX.refl _ _ _).setAt _ _).alloc (by simp [World.setCell]) _, ?_⟩
      rw [Below.heap_alloc _ _ _ (by simpa [World.setCell] using hxlt), set_block hx]
      simp only [samStep, M.out]
      rfl
    · have t2 : ((h : Int) == 16) = false := by rw [beq_eq_false_iff_ne]; omega
      have M := hide (And.intro m1 m2)
      clear m1 m2
      go_wp2
      go_end0
      refine ⟨rfl, hk, ?_⟩
      simp only [samStep, M.out.1, M.out.2, if_false]
      exact hx1
/-- A sample's text tells one. -/
def samRead (s : List UInt8) : Option Sam := if (fields s).2 = true then some (samOf (fields s).1) else none
set_option maxRecDepth 20000 in
set_option maxHeartbeats 2000000 in
theorem readSample_any (w : World) (s : List UInt8) (hs : s.length ≤ 1000000) :
    Calls Tryz.prog 128 #[.string (bs s)] w fun e w' => Below w.heap.size w w' ∧
      ((∃ x, samRead s = some x ∧ x.2 < 18446744073709551616 ∧ e = .returned (.agg #[.int .i64 x.1, .int .u64 x.2])) ∨ (samRead s = none ∧ e = gaveUp 1)) := by
  have hcf : ∀ (args : Array Value) (w : World), (callFunc 143 args).run Tryz.prog w = .ok (.enter 143 args) w := fun args w => by simp [go_sem]
  obtain ⟨W, HW⟩ : ∃ W, Hid (W = (w.alloc (.cells #[.int .i64 0, .int .u64 0] 48)).alloc (.cells #[.int .i64 0, .int .u64 0] 48)) := ⟨_, hide rfl⟩
  have hW0 : Below w.heap.size w W := by rw [HW.out]; exact ((Below.refl _ _).alloc (Nat.le_refl _) _).alloc (by simp) _
  have hW1 : W.heap[w.heap.size]? = some (.cells #[.int .i64 0, .int .u64 0] 48 (0, 0)) := by
    rw [HW.out, Below.heap_alloc _ _ _ (by simp)]; exact heap_alloc_new _ _
  have hW2 : W.heap[w.heap.size + 1]? = some (.cells #[.int .i64 (samOf []).1, .int .u64 (samOf []).2] 48 (0, 0)) := by
    rw [HW.out]
    have := heap_alloc_new (w.alloc (.cells #[.int .i64 0, .int .u64 0] 48)) (.cells #[.int .i64 0, .int .u64 0] 48)
    simpa [samOf_nil] using this
  have hlen : ∀ (x : Sam) (f : Fld), x.2 < 18446744073709551616 → f.2.1 < 18446744073709551616 → (samStep x f).2 < 18446744073709551616 := by
    intro x f h1 h2
    unfold samStep
    split
    · exact h2
    · split <;> exact h1
  have HE := hide (eachField_any s W 143 #[.pointer (some ⟨w.heap.size + 1, 0, none⟩)]
    (fun d wi => Below w.heap.size w wi ∧ wi.heap[w.heap.size]? = some (.cells #[.int .i64 0, .int .u64 0] 48 (0, 0)) ∧ wi.heap[w.heap.size + 1]? = some (.cells #[.int .i64 (samOf d).1, .int .u64 (samOf d).2] 48 (0, 0)) ∧ (samOf d).2 < 18446744073709551616)
    (fun _ => true) (fun wi => Below w.heap.size w wi) (by omega) hcf ⟨hW0, hW1, hW2, by simp [samOf]⟩
    (fun d w1 w2 ⟨h1, h2, h3, h4⟩ hg => ⟨h1.trans (hg.mono h1.size), hg.get h2, hg.get h3, h4⟩)
    (fun d w1 h => h.1)
    (fun d f w1 ⟨h1, h2, h3, h4⟩ _ hn hf _ => (readSample1_any w1 (w.heap.size + 1) (samOf d) f h3).mono fun e w2 ⟨he, hk, hb⟩ => .inl ⟨rfl, he, (h1.trans (hk.below h1.size (by omega))), hk.get h2 (lt_of_block h2) (by omega), by rw [samOf_snoc]; exact hb, by rw [samOf_snoc]; exact hlen _ _ h4 hn⟩))
  clear hW0 hW1 hW2 hlen
  rw [HW.out] at HE
  go_enter Tryz.func128, Tryz.ntmps128
  go_wp2_with fail
  refine HE.out.mono ?_
  clear HE hcf HW
  rintro e w1 (⟨hok, rfl, hb1, h2, h3, h4⟩ | ⟨hok, rfl, hb1⟩)
  · have HOk : Hid (samRead s = some (samOf (fields s).1)) := by
      show _ = _
      simp [fieldsOk] at hok
      simp [samRead, hok]
    clear hok
    generalize samOf (fields s).1 = x at *
    have H4 := hide h4
    clear h4
    obtain ⟨x0, x1⟩ := two_cells h3
    obtain ⟨c0, c1⟩ := two_cells h2
    have z0 : w1.frozen? ⟨w.heap.size, 0, none⟩ = false := by simp only [World.frozen?, h2]; rfl
    have z1 : w1.frozen? ⟨w.heap.size, 1, none⟩ = false := by simp only [World.frozen?, h2]; rfl
    have hb3 : ((w1.setCell ⟨w.heap.size, 0, none⟩ (.int .i64 x.1)).setCell ⟨w.heap.size, 1, none⟩ (.int .u64 x.2)).heap[w.heap.size]? = some (.cells #[.int .i64 x.1, .int .u64 x.2] 48 (0, 0)) := by
      rw [set_block (set_block h2 _) _]; rfl
    obtain ⟨r0, r1⟩ := two_cells hb3
    go_wp2
    refine bodyPost_ret (v := .agg #[.int .i64 x.1, .int .u64 x.2]) (by simp [results, Tryz.results128, go_sem, r0, r1]) rfl ?_
    exact ⟨(hb1.setCell (p := ⟨w.heap.size, 0, none⟩) (Nat.le_refl _) _).setCell (p := ⟨w.heap.size, 1, none⟩) (Nat.le_refl _) _, .inl ⟨x, HOk.out, H4.out, rfl⟩⟩
  · have HOk : Hid (samRead s = none) := by
      show _ = _
      have hf : (fields s).2 = false := by simpa [fieldsOk] using hok
      simp [samRead, hf]
    exact ⟨rfl, hb1, .inr ⟨HOk.out, rfl⟩⟩
end Go.Proofs.YtmdakfmecfcbhaaGreat
namespace Go.Proofs.YtmdakfmecfcbhaaGreat
open Go.RowKit
def labCells : List Lab → List Value
  | [] => []
  | x :: l => .string (bs x.1) :: .string (bs x.2) :: labCells l
def samCells : List Sam → List Value
  | [] => []
  | x :: l => .int .i64 x.1 :: .int .u64 x.2 :: samCells l
def pairCells : List (Value × Value) → List Value
  | [] => []
  | x :: l => x.1 :: x.2 :: pairCells l
theorem labCells_snoc (l : List Lab) (x : Lab) : labCells (l ++ [x]) = labCells l ++ [.string (bs x.1), .string (bs x.2)] := by
  induction l with
  | nil => rfl
  | cons y l ih => simp [labCells, ih]
theorem samCells_snoc (l : List Sam) (x : Sam) : samCells (l ++ [x]) = samCells l ++ [.int .i64 x.1, .int .u64 x.2] := by
  induction l with
  | nil => rfl
  | cons y l ih => simp [samCells, ih]
theorem pairCells_snoc (l : List (Value × Value)) (x : Value × Value) : pairCells (l ++ [x]) = pairCells l ++ [x.1, x.2] := by
  induction l with
  | nil => rfl
  | cons y l ih => simp [pairCells, ih]
theorem labCells_at : ∀ (l : List Lab) (i : Nat) (h : i < l.length), (labCells l)[i * 2]? = some (.string (bs l[i].1)) ∧ (labCells l)[i * 2 + 1]? = some (.string (bs l[i].2))
  | [], i, h => by simp at h
  | x :: l, 0, h => ⟨rfl, rfl⟩
  | x :: l, i + 1, h => by
    have e : (i + 1) * 2 = i * 2 + 1 + 1 := by omega
    have := labCells_at l i (by simpa using h)
    rw [e]
    simpa [labCells] using this
theorem samCells_at : ∀ (l : List Sam) (i : Nat) (h : i < l.length), (samCells l)[i * 2]? = some (.int .i64 l[i].1) ∧ (samCells l)[i * 2 + 1]? = some (.int .u64 l[i].2)
  | [], i, h => by simp at h
  | x :: l, 0, h => ⟨rfl, rfl⟩
  | x :: l, i + 1, h => by
    have e : (i + 1) * 2 = i * 2 + 1 + 1 := by omega
    have := samCells_at l i (by simpa using h)
    rw [e]
    simpa [samCells] using this
theorem pairCells_at : ∀ (l : List (Value × Value)) (i : Nat) (h : i < l.length), (pairCells l)[i * 2]? = some l[i].1 ∧ (pairCells l)[i * 2 + 1]? = some l[i].2
  | [], i, h => by simp at h
  | x :: l, 0, h => ⟨rfl, rfl⟩
  | x :: l, i + 1, h => by
    have e : (i + 1) * 2 = i * 2 + 1 + 1 := by omega
    have := pairCells_at l i (by simpa using h)
    rw [e]
    simpa [pairCells] using this
def ownLabels (w : World) (B : Nat) (v : Value) (ls : List Lab) : Prop := w.ownsRow B 62 2 v ls.length (labCells ls)
def ownSamples (w : World) (B : Nat) (v : Value) (ls : List Sam) : Prop := w.ownsRow B 48 2 v ls.length (samCells ls)
/-- Rows stay where blocks of their own do. -/
theorem own_keep {w w' : World} {base e size n : Nat} {v : Value} {xs : List Value} (h : w.ownsRow base e size v n xs) (hb : ∀ g, v.ownBlock = some g → w'.heap[g]? = w.heap[g]?) : w'.ownsRow base e size v n xs := by
  refine ⟨h.1, ?_⟩
  rcases h.2 with ⟨h1, h2⟩ | ⟨g, cap, cur, rfl, h1, h2, h3⟩
  · exact .inl ⟨h1, h2⟩
  · exact .inr ⟨g, cap, cur, rfl, h1, (hb g rfl).trans h2, h3⟩
theorem own_grow {w w' : World} {base e size n : Nat} {v : Value} {xs : List Value} (h : w.ownsRow base e size v n xs) (hg : Grow w w') : w'.ownsRow base e size v n xs :=
  own_keep h fun g hgb => hg.block g (h.lt g hgb).2
theorem own_le {w : World} {B B' e size n : Nat} {v : Value} {xs : List Value} (h : w.ownsRow B e size v n xs) (hb : B' ≤ B) : w.ownsRow B' e size v n xs := by
  refine ⟨h.1, ?_⟩
  rcases h.2 with h1 | ⟨g, cap, cur, h0, h1, h2⟩
  · exact .inl h1
  · exact .inr ⟨g, cap, cur, h0, by omega, h2⟩
/-- Rows of different kinds lie apart. -/
theorem own_two {w : World} {B1 B2 e1 e2 s1 s2 n1 n2 : Nat} {v1 v2 : Value} {x1 x2 : List Value} (h1 : w.ownsRow B1 e1 s1 v1 n1 x1) (h2 : w.ownsRow B2 e2 s2 v2 n2 x2) (he : e1 ≠ e2) : v1.ownBlock = none ∨ v1.ownBlock ≠ v2.ownBlock := by
  rcases h2.2 with ⟨rfl, _⟩ | ⟨g, cap, cur, rfl, _, hg, _⟩
  · cases hv : v1.ownBlock with
    | none => exact .inl rfl
    | some k => exact .inr (by simp [Value.ownBlock])
  · exact .inr (own_apart h1 hg he)
theorem reads_ownLabels {w : World} {B : Nat} {v : Value} {ls : List Lab} (h : ownLabels w B v ls) : readsLabels w w.heap.size v ls := by
  obtain ⟨ao, cp, e⟩ := own_shape h
  refine ⟨ao, cp, e, fun i hi => ?_⟩
  rcases h.2 with ⟨rfl, h0⟩ | ⟨g, cap, cur, rfl, h1, h2, h3⟩
  · omega
  · simp at e
    have hc := World.ownsRow.cells h (g := g) rfl
    have ha := labCells_at ls i hi
    refine ⟨g, 0, e.1.symm, lt_of_block h2, ?_, ?_⟩
    · have := hc _ _ ha.1
      rw [Addr.add_lit] at this
      simpa using this
    · have := hc _ _ ha.2
      rw [Addr.add_lit] at this
      simpa using this
theorem reads_ownSamples {w : World} {B : Nat} {v : Value} {ls : List Sam} (h : ownSamples w B v ls) : readsSamples w w.heap.size v ls := by
  obtain ⟨ao, cp, e⟩ := own_shape h
  refine ⟨ao, cp, e, fun i hi => ?_⟩
  rcases h.2 with ⟨rfl, h0⟩ | ⟨g, cap, cur, rfl, h1, h2, h3⟩
  · omega
  · simp at e
    have hc := World.ownsRow.cells h (g := g) rfl
    have ha := samCells_at ls i hi
    refine ⟨g, 0, e.1.symm, lt_of_block h2, ?_, ?_⟩
    · have := hc _ _ ha.1
      rw [Addr.add_lit] at this
      simpa using this
    · have := hc _ _ ha.2
      rw [Addr.add_lit] at this
      simpa using this
/-- A row of series that a call owns, with the rows of each. -/
def ownSeries (w : World) (B : Nat) (v : Value) (ls : List Ser) : Prop :=
  ∃ vs : List (Value × Value), vs.length = ls.length ∧ w.ownsRow B 41 2 v ls.length (pairCells vs) ∧ ∀ (i : Nat) (x : Value × Value) (s : Ser), vs[i]? = some x → ls[i]? = some s → ownLabels w B x.1 s.1 ∧ ownSamples w B x.2 s.2
theorem reads_ownSeries {w : World} {B : Nat} {v : Value} {ls : List Ser} (h : ownSeries w B v ls) : readsSeries w w.heap.size v ls := by
  obtain ⟨vs, hl, h, hall⟩ := h
  obtain ⟨ao, cp, e⟩ := own_shape h
  refine ⟨ao, cp, e, fun i hi => ?_⟩
  rcases h.2 with ⟨rfl, h0⟩ | ⟨g, cap, cur, rfl, h1, h2, h3⟩
  · omega
  · simp at e
    have hc := World.ownsRow.cells h (g := g) rfl
    have ha := pairCells_at vs i (by omega)
    obtain ⟨k1, k2⟩ := hall i vs[i] ls[i] (List.getElem?_eq_getElem (by omega)) (List.getElem?_eq_getElem hi)
    refine ⟨g, 0, vs[i].1, vs[i].2, e.1.symm, lt_of_block h2, ?_, ?_, reads_ownLabels k1, reads_ownSamples k2⟩
    · have := hc _ _ ha.1
      rw [Addr.add_lit] at this
      simpa using this
    · have := hc _ _ ha.2
      rw [Addr.add_lit] at this
      simpa using this
theorem ownSeries_grow {w w' : World} {B : Nat} {v : Value} {ls : List Ser} (h : ownSeries w B v ls) (hg : Grow w w') : ownSeries w' B v ls := by
  obtain ⟨vs, hl, h, hall⟩ := h
  exact ⟨vs, hl, own_grow h hg, fun i x s h1 h2 => ⟨own_grow (hall i x s h1 h2).1 hg, own_grow (hall i x s h1 h2).2 hg⟩⟩
theorem ownSeries_nil (w : World) (B : Nat) : ownSeries w B (.slice none 0 0) [] := ⟨[], rfl, World.ownsRow_nil _ _ _ _, fun i x s h => by simp at h⟩
end Go.Proofs.YtmdakfmecfcbhaaGreat
namespace Go.Proofs.YtmdakfmecfcbhaaGreat
open Go.RowKit
attribute [local go_sem] bs_size bs_toList bs_append bs_get bs_extract
/-- An unpacker in a block: what is left, what it is to make, what it made. -/
def unpAt (w : World) (B ub : Nat) (r : List UInt8) (told : Int) (made : List UInt8) : Prop :=
  B ≤ w.heap.size ∧ ∃ v, w.heap[ub]? = some (.cells #[.string (bs r), .int .i64 told, v] 92 (0, 0)) ∧ w.ownsRow B 5 1 v made.length (bytesV made)
set_option maxRecDepth 20000 in
set_option maxHeartbeats 1000000 in
theorem room_any (w : World) (B ub n : Nat) (r made : List UInt8) (told : Int) (hu : unpAt w B ub r told made) (hm : made.length ≤ 1000000) (ht : 0 ≤ told ∧ told ≤ 1000000) :
    Calls Tryz.prog 131 #[.pointer (some ⟨ub, 0, none⟩), .int .i64 n] w fun e w' => (∃ k, w' = w.drewN k) ∧ (((n : Int) + made.length ≤ told ∧ e = .returned (.tuple #[])) ∨ (told < (n : Int) + made.length ∧ e = gaveUp 1)) := by
  obtain ⟨hB, v, hb, ho⟩ := hu
  obtain ⟨ao, cp, rfl⟩ := own_shape ho
  obtain ⟨c0, c1, c2, _⟩ := three_cells hb
  go_enter Tryz.func131, Tryz.ntmps131
  by_cases h : (n : Int) + made.length ≤ told
  · have h' : ¬ (told - (made.length : Int) < n) := by omega
    go_wp2
    go_quiet (fail)
    go_wp2
    go_end0
    exact ⟨⟨_, rfl⟩, .inl ⟨h, rfl⟩⟩
  · have h' : told - (made.length : Int) < n := by omega
    go_wp2
    go_quiet (fail)
    go_wp2
    exact ⟨rfl, ⟨_, rfl⟩, .inr ⟨by omega, rfl⟩⟩
/-- The same, with the row's value. -/
def unpIs (w : World) (B ub : Nat) (r : List UInt8) (told : Int) (v : Value) (made : List UInt8) : Prop :=
  B ≤ w.heap.size ∧ w.heap[ub]? = some (.cells #[.string (bs r), .int .i64 told, v] 92 (0, 0)) ∧ w.ownsRow B 5 1 v made.length (bytesV made)
theorem unpIs_set {w : World} {B ub : Nat} {r r' made : List UInt8} {told : Int} {v : Value} (h : unpIs w B ub r told v made) : unpIs (w.setCell ⟨ub, 0, none⟩ (.string (bs r'))) B ub r' told v made := by
  obtain ⟨hB, hb, ho⟩ := h
  exact ⟨by simpa [World.setCell] using hB, set_block hb _, ownsRow_setCell_other (a := ⟨ub, 0, none⟩) ho (own_apart ho hb (by decide)) _⟩
set_option maxRecDepth 20000 in
set_option maxHeartbeats 1000000 in
theorem take_is (w : World) (B ub n : Nat) (r made : List UInt8) (told : Int) (v : Value) (hu : unpIs w B ub r told v made) (hr : r.length ≤ 9223372036854775807) :
    Calls Tryz.prog 130 #[.pointer (some ⟨ub, 0, none⟩), .int .i64 n] w fun e w' => KeptX B ub w w' ∧
      ((n ≤ r.length ∧ e = .returned (.string (bs (r.take n))) ∧ unpIs w' B ub (r.drop n) told v made) ∨ (r.length < n ∧ e = gaveUp 1)) := by
  obtain ⟨hB, hb, ho⟩ := hu
  obtain ⟨ao, cp, rfl⟩ := own_shape ho
  obtain ⟨c0, c1, c2, z0, z1, z2⟩ := three_cells hb
  go_enter Tryz.func130, Tryz.ntmps130
  by_cases h : n ≤ r.length
  · have h' : ¬ (r.length : Int) < n := by omega
    go_wp2
    go_ret
    rw [take_self (l := r.drop n) (by rw [List.length_drop]; exact Nat.le_refl _)]
    exact ⟨(KeptX.refl _ _ _).setAt _ _, .inl ⟨rfl, unpIs_set ⟨hB, hb, ho⟩⟩⟩
  · have h' : (r.length : Int) < n := by omega
    go_wp2
    exact ⟨rfl, KeptX.refl _ _ _, .inr ⟨by omega, rfl⟩⟩
theorem take_any (w : World) (B ub n : Nat) (r made : List UInt8) (told : Int) (hu : unpAt w B ub r told made) (hr : r.length ≤ 9223372036854775807) :
    Calls Tryz.prog 130 #[.pointer (some ⟨ub, 0, none⟩), .int .i64 n] w fun e w' => KeptX B ub w w' ∧
      ((n ≤ r.length ∧ e = .returned (.string (bs (r.take n))) ∧ unpAt w' B ub (r.drop n) told made) ∨ (r.length < n ∧ e = gaveUp 1)) := by
  obtain ⟨hB, v, hb, ho⟩ := hu
  refine (take_is w B ub n r made told v ⟨hB, hb, ho⟩ hr).mono fun e w' ⟨hk, h⟩ => ⟨hk, ?_⟩
  rcases h with ⟨h1, h2, h3, h4, h5⟩ | h
  · exact .inl ⟨h1, h2, h3, v, h4, h5⟩
  · exact .inr h
theorem wrap64_small (x : Int) (h0 : -9223372036854775808 ≤ x) (h : x < 9223372036854775808) : wrap64 x = x := by unfold wrap64; omega
theorem bits_or_i64_nat (a b : Nat) (ha : a < 9223372036854775808) (hb : b < 9223372036854775808) : bits .or .i64 (a : Int) (b : Int) = ((a ||| b : Nat) : Int) := by
  have hx : a ||| b < 2 ^ 63 := Nat.or_lt_two_pow (by omega) (by omega)
  have h1 : (BitVec.ofInt 64 (a : Int)).toNat = a := by
    rw [BitVec.ofInt_natCast, BitVec.toNat_ofNat]; exact Nat.mod_eq_of_lt (by omega)
  have h2 : (BitVec.ofInt 64 (b : Int)).toNat = b := by
    rw [BitVec.ofInt_natCast, BitVec.toNat_ofNat]; exact Nat.mod_eq_of_lt (by omega)
  show IntKind.i64.wrap ((BitVec.ofInt 64 (a : Int) ||| BitVec.ofInt 64 (b : Int)).toNat : Int) = _
  rw [BitVec.toNat_or, h1, h2]
  exact wrap_i64_small _ (by omega) (by omega)
theorem bits_and_i64_nat (a b : Nat) (ha : a < 9223372036854775808) (hb : b < 9223372036854775808) : bits .and .i64 (a : Int) (b : Int) = ((a &&& b : Nat) : Int) := by
  have hx : a &&& b < 2 ^ 63 := Nat.and_lt_two_pow _ (by omega)
  have h1 : (BitVec.ofInt 64 (a : Int)).toNat = a := by
    rw [BitVec.ofInt_natCast, BitVec.toNat_ofNat]; exact Nat.mod_eq_of_lt (by omega)
  have h2 : (BitVec.ofInt 64 (b : Int)).toNat = b := by
    rw [BitVec.ofInt_natCast, BitVec.toNat_ofNat]; exact Nat.mod_eq_of_lt (by omega)
  show IntKind.i64.wrap ((BitVec.ofInt 64 (a : Int) &&& BitVec.ofInt 64 (b : Int)).toNat : Int) = _
  rw [BitVec.toNat_and, h1, h2]
  exact wrap_i64_small _ (by omega) (by omega)
theorem low_step_i (T : List UInt8) (j : Nat) (h : j < T.length) (hT : T.length ≤ 4) :
    bits .or .i64 (wrap64 (((lowB (T.drop (j + 1)) : Nat) : Int) * 256)) (T[j].toNat : Int) = ((lowB (T.drop j) : Nat) : Int) := by
  have h1 := lowB_drop T j h
  have h2 := lowB_drop_le T j
  have h3 := T[j].toNat_lt
  have h4 := lowB_lt T
  have h5 : 256 ^ T.length ≤ 256 ^ 4 := Nat.pow_le_pow_right (by omega) hT
  rw [wrap64_small _ (by omega) (by omega)]
  have h6 := bits_or_i64_nat (lowB (T.drop (j + 1)) * 256) T[j].toNat (by omega) (by omega)
  rw [or_add_256 _ _ h3] at h6
  rw [h1, ← h6]
  rfl
set_option maxRecDepth 20000 in
set_option maxHeartbeats 1000000 in
theorem unnum_any (w : World) (B ub n : Nat) (r made : List UInt8) (told : Int) (hu : unpAt w B ub r told made) (hr : r.length ≤ 9223372036854775807) (hn : n ≤ 4) :
    Calls Tryz.prog 111 #[.pointer (some ⟨ub, 0, none⟩), .int .i64 n] w fun e w' => KeptX B ub w w' ∧
      ((n ≤ r.length ∧ e = .returned (.int .i64 (lowB (r.take n))) ∧ unpAt w' B ub (r.drop n) told made) ∨ (r.length < n ∧ e = gaveUp 1)) := by
  go_enter Tryz.func111, Tryz.ntmps111
  go_wp2_with fail
  refine (take_any w B ub n r made told hu hr).mono ?_
  rintro e w1 ⟨hk, (⟨hle, rfl, hu1⟩ | ⟨hlt, rfl⟩)⟩
  · have HK := hide hk
    have HU := hide hu1
    have HT : Hid ((r.take n).length = n) := by show _ = _; rw [List.length_take]; omega
    clear hk hu1 hu
    obtain ⟨T, HTe⟩ : ∃ T, Hid (r.take n = T) := ⟨_, hide rfl⟩
    rw [HTe.out] at HT ⊢
    go_wp2
    go_loop [6, 7] (fun v i => ∃ (k : Int) (N : Nat), -1 ≤ k ∧ k < n ∧ i = .int .i64 k ∧ v = .int .i64 N ∧ Hid (N = lowB (T.drop (k + 1).toNat))) (fun _ i => (intOf i + 1).toNat)
    case atStart => exact ⟨(n : Int) - 1, 0, by omega, by omega, rfl, rfl, by show _ = _; rw [List.drop_eq_nil_of_le (by rw [HT.out]; omega)]; rfl⟩
    case round =>
      obtain ⟨k, N, hk1, hk2, rfl, rfl, HN⟩ := hrel
      by_cases hk : 0 ≤ k
      · obtain ⟨j, rfl⟩ := Int.eq_ofNat_of_zero_le hk
        have hjl : j < T.length := by rw [HT.out]; omega
        have HD : Hid (bits .or .i64 (wrap64 ((N : Int) * 256)) (wrap64 (T[j].toNat : Int)) = ((lowB (T.drop j) : Nat) : Int)) := by
          have h8 := low_step_i T j hjl (by rw [HT.out]; exact hn)
          have hc := T[j].toNat_lt
          show _ = _
          rw [wrap64_small (T[j].toNat : Int) (by omega) (by omega), HN.out]; exact h8
        go_wp2
        go_roundw
        case rel => exact ⟨(j : Int) - 1, lowB (T.drop j), by omega, by omega, rfl, by rw [HD.out], by show _ = _; rw [show ((j : Int) - 1 + 1).toNat = j from by omega]⟩
        case measure => simp [intOf]
      · go_wp2
        go_ret
        obtain rfl : k = -1 := by omega
        exact ⟨HK.out, .inl ⟨by rw [HTe.out, HN.out]; rfl, HU.out⟩⟩
  · exact ⟨rfl, hk, .inr ⟨hlt, rfl⟩⟩
/-- What holds while a plain element is made: ahead of the take and behind it, ahead of the append and behind it. -/
def plainJ (w : World) (B ub : Nat) (r made : List UInt8) (told : Int) (n : Nat) (v : Value) (b7 b8 : Bool) (x : Value) (w' : World) : Prop :=
  KeptX B ub w w' ∧ B ≤ w'.heap.size ∧ w'.heap[ub]? = some (.cells #[.string (bs (if b7 then r.drop n else r)), .int .i64 told, v] 92 (0, 0)) ∧
    (b8 = false → w'.ownsRow B 5 1 v made.length (bytesV made)) ∧ (b8 = true → w'.ownsRow B 5 1 x (made.length + n) (bytesV (made ++ r.take n)))
set_option maxRecDepth 20000 in
set_option maxHeartbeats 2000000 in
theorem plain_any (w : World) (B ub n : Nat) (r made : List UInt8) (told : Int) (hu : unpAt w B ub r told made) (hr : r.length ≤ 140737488355328) (hm : made.length ≤ 1000000) (ht : 0 ≤ told ∧ told ≤ 1000000) :
    Calls Tryz.prog 112 #[.pointer (some ⟨ub, 0, none⟩), .int .i64 n] w fun e w' => KeptX B ub w w' ∧
      (((n : Int) + made.length ≤ told ∧ n ≤ r.length ∧ e = .returned (.tuple #[]) ∧ unpAt w' B ub (r.drop n) told (made ++ r.take n)) ∨ (¬ ((n : Int) + made.length ≤ told ∧ n ≤ r.length) ∧ e = gaveUp 1)) := by
  go_enter Tryz.func112, Tryz.ntmps112
  go_wp2_with fail
  refine (room_any w B ub n r made told hu hm ht).mono ?_
  rintro e w1 ⟨⟨k, rfl⟩, (⟨h1, rfl⟩ | ⟨h1, rfl⟩)⟩
  · obtain ⟨hB, v, hb, ho⟩ := hu
    obtain ⟨ao, cp, rfl⟩ := own_shape ho
    obtain ⟨i0, hinf, hz0, hz1, hz2⟩ := info_parts Tryz.info5
    have HB := hide hb
    have HO := hide ho
    clear hb ho
    go_wp2
    by_cases hn : n ≤ r.length
    · have hnl : (r.take n).length = n := by rw [List.length_take]; omega
      refine wp_region_state 11 18 Tryz.mixed2 rfl (by decide +kernel) (fun L vals w' => plainJ w B ub r made told n (.slice ao made.length cp) (L 7) (L 8) (vals 8) w')
        (fun L vals h => ?_)
        (fun i v => match i with
          | 0 => v = .pointer (some ⟨ub, 0, none⟩)
          | 1 => v = .pointer (some ⟨ub, 0, none⟩)
          | 2 => v = .pointer (some ⟨ub, 0, none⟩)
          | 3 => v = .pointer (some ⟨ub, 2, none⟩)
          | 4 => v = .slice ao made.length cp
          | 5 => v = .pointer (some ⟨ub, 0, none⟩)
          | 6 => v = .int .i64 n
          | 7 => v = .string (bs (r.take n))
          | 8 => ∃ ao' cp', v = .slice ao' (made.length + n) cp'
          | 9 => v = .pointer (some ⟨ub, 0, none⟩)
          | _ => v = .pointer (some ⟨ub, 2, none⟩))
        (fun _ _ => False) (fun _ _ _ _ h => h.elim) (fun i hi o ho a w2 L vals hLi hLc hLe hJ hoff hval hdep => ?_) (fun vals w2 L hL hJ hvals => ?_)
      · simp only [h]
        exact ⟨⟨rfl, rfl, rfl, Nat.le_refl _, fun _ _ _ => rfl⟩, hB, HB.out, fun _ => HO.out, fun h => by cases h⟩
      · obtain ⟨hk, hB2, hblk, hown, hown2⟩ := id hJ
        obtain ⟨c0, c1, c2, z0, z1, z2⟩ := three_cells hblk
        match i, hi with
        | 0, _ =>
          obtain rfl := Option.some.inj ho
          have o0 := hoff 0 (by decide +kernel)
          simp at o0
          simp [opYields, go_sem, o0]
          exact hJ
        | 1, _ =>
          obtain rfl := Option.some.inj ho
          have o0 := hoff 0 (by decide +kernel)
          simp at o0
          simp [opYields, go_sem, o0]
          exact hJ
        | 2, _ =>
          obtain rfl := Option.some.inj ho
          have d1 := hdep 1 (by decide +kernel)
          simp [slotOf, dstOf] at d1
          simp [opYields, go_sem, d1]
          exact hJ
        | 3, _ =>
          obtain rfl := Option.some.inj ho
          have d2 := hdep 2 (by decide +kernel)
          simp [slotOf, dstOf] at d2
          simp [opYields, go_sem, d2]
          exact hJ
        | 4, _ =>
          obtain rfl := Option.some.inj ho
          have d3 := hdep 3 (by decide +kernel)
          simp [slotOf, dstOf] at d3
          simp [opYields, go_sem, d3, c2]
          exact hJ
        | 5, _ =>
          obtain rfl := Option.some.inj ho
          have o0 := hoff 0 (by decide +kernel)
          simp at o0
          simp [opYields, go_sem, o0]
          exact hJ
        | 6, _ =>
          obtain rfl := Option.some.inj ho
          have o1 := hoff 1 (by decide +kernel)
          simp at o1
          simp [opYields, go_sem, o1]
          exact hJ
        | 7, _ =>
          have h8 : L 8 = false := by
            cases h8 : L 8 with
            | false => rfl
            | true => have := hLc 8 h8 7 (by decide +kernel); rw [hLi] at this; cases this
          rw [hLi] at hblk
          have hown := hown h8
          obtain rfl := Option.some.inj ho
          have d5 := hdep 5 (by decide +kernel)
          have d6 := hdep 6 (by decide +kernel)
          simp [slotOf, dstOf] at d5 d6
          simp [opYields, go_sem, d5, d6]
          refine (take_is w2 B ub n r made told _ ⟨hB2, hblk, hown⟩ (by omega)).mono ?_
          rintro e w3 ⟨hk3, (⟨_, rfl, h4, h5, h6⟩ | ⟨h, _⟩)⟩
          · refine ⟨⟨hk.trans hk3, h4, h5, fun _ => h6, fun h => ?_⟩, rfl⟩
            rw [h8] at h
            cases h
          · omega
        | 8, _ =>
          have h7 := hLe 7 (by decide +kernel)
          rw [h7] at hblk
          have hown := hown hLi
          obtain rfl := Option.some.inj ho
          have d4 := hdep 4 (by decide +kernel)
          have d7 := hdep 7 (by decide +kernel)
          simp [slotOf, dstOf] at d4 d7
          obtain ⟨v', w3, hrun, hown3, hgrow, _⟩ := Lib.run_append_own_string (P := Tryz.prog) w2 B 63 9 63 5 i0 Tryz.underlying63 Tryz.underlying9 hinf hz0 hz1 hz2 _ made.length (bytesV made) hown (bs (r.take n)) (by rw [bs_size, hnl]; unfold maxLen; omega) (by rw [bs_size, hnl]; omega) hB2
          rw [bs_size, hnl, strCells_bs, ← bytesV_append] at hown3
          refine yields_append rfl (.tmp 11) (.tmp 14) _ _ rfl (v1 := .slice ao made.length cp) (v2 := .string (bs (r.take n))) (by simpa [Act.eval] using d4) (by simpa [Act.eval] using d7) hrun ?_
          obtain ⟨ao', cp', rfl⟩ := own_shape hown3
          have hbel : Below B w2 w3 := (Below.refl B w2).grown hgrow hB2 (fun k hk => (hown.lt k hk).1)
          refine ⟨⟨hk.trans (keptX_of hbel), by have := hbel.size; omega, ?_, fun h => by simp at h, fun _ => hown3⟩, ao', cp', rfl⟩
          simp only [h7]
          exact grown_block hgrow hblk (own_apart hown hblk (by decide))
        | 9, _ =>
          obtain rfl := Option.some.inj ho
          have d0 := hdep 0 (by decide +kernel)
          simp [slotOf, dstOf] at d0
          simp [opYields, go_sem, d0]
          exact hJ
        | 10, _ =>
          obtain rfl := Option.some.inj ho
          have d9 := hdep 9 (by decide +kernel)
          simp [slotOf, dstOf] at d9
          simp [opYields, go_sem, d9]
          exact hJ
      · have h7 := hL 7 (by omega)
        have h8 := hL 8 (by omega)
        obtain ⟨hk, hB2, hblk, _, hown2⟩ := hJ
        have hown2 := hown2 h8
        rw [h7] at hblk
        obtain ⟨ao', cp', v8⟩ := hvals 8 (by omega)
        have v10 := hvals 10 (by omega)
        simp only at v10
        rw [v8] at hown2
        clear hvals
        obtain ⟨c0, c1, c2, z0, z1, z2⟩ := three_cells hblk
        simp [over, dstOf, Act.put, v8, v10]
        go_wp2
        go_end0
        refine ⟨hk.setAt _ _, rfl, by simpa [World.setCell] using hB2, _, set_block hblk _, ?_⟩
        have := ownsRow_setCell_other (a := ⟨ub, 2, none⟩) hown2 (own_apart hown2 hblk (by decide)) (.slice ao' (made.length + n) cp')
        rw [List.length_append, hnl]
        exact this
    · refine wp_region_state 11 18 Tryz.mixed2 rfl (by decide +kernel) (fun L vals w' => plainJ w B ub r made told n (.slice ao made.length cp) false false (vals 8) w')
        (fun L vals h => ?_)
        (fun i v => match i with
          | 0 => v = .pointer (some ⟨ub, 0, none⟩)
          | 1 => v = .pointer (some ⟨ub, 0, none⟩)
          | 2 => v = .pointer (some ⟨ub, 0, none⟩)
          | 3 => v = .pointer (some ⟨ub, 2, none⟩)
          | 4 => v = .slice ao made.length cp
          | 5 => v = .pointer (some ⟨ub, 0, none⟩)
          | 6 => v = .int .i64 n
          | 7 => False
          | 8 => False
          | 9 => v = .pointer (some ⟨ub, 0, none⟩)
          | _ => v = .pointer (some ⟨ub, 2, none⟩))
        (fun ch w2 => Ending.panicked ch = gaveUp 1 ∧ KeptX B ub w w2) (fun ch a w2 hd hq => ?_) (fun i hi o ho a w2 L vals hLi hLc hLe hJ hoff hval hdep => ?_) (fun vals w2 L hL hJ hvals => (hvals 7 (by omega)).elim)
      · exact ⟨⟨rfl, rfl, rfl, Nat.le_refl _, fun _ _ _ => rfl⟩, hB, HB.out, fun _ => HO.out, fun h => by cases h⟩
      · obtain ⟨hq1, hq2⟩ := hq
        simp only [Ending.panicked.injEq] at hq1
        subst hq1
        exact ⟨hd, hq2, .inr ⟨fun h => hn h.2, rfl⟩⟩
      · obtain ⟨hk, hB2, hblk, hown, hown2⟩ := id hJ
        obtain ⟨c0, c1, c2, z0, z1, z2⟩ := three_cells hblk
        have hJ2 : ∀ i v, plainJ w B ub r made told n (.slice ao made.length cp) false false (if 8 = i then v else vals 8) w2 := fun i v => ⟨hk, hB2, hblk, hown, fun h => by cases h⟩
        match i, hi with
        | 0, _ =>
          obtain rfl := Option.some.inj ho
          have o0 := hoff 0 (by decide +kernel)
          simp at o0
          simp [opYields, go_sem, o0]
          exact hJ
        | 1, _ =>
          obtain rfl := Option.some.inj ho
          have o0 := hoff 0 (by decide +kernel)
          simp at o0
          simp [opYields, go_sem, o0]
          exact hJ
        | 2, _ =>
          obtain rfl := Option.some.inj ho
          have d1 := hdep 1 (by decide +kernel)
          simp [slotOf, dstOf] at d1
          simp [opYields, go_sem, d1]
          exact hJ
        | 3, _ =>
          obtain rfl := Option.some.inj ho
          have d2 := hdep 2 (by decide +kernel)
          simp [slotOf, dstOf] at d2
          simp [opYields, go_sem, d2]
          exact hJ
        | 4, _ =>
          obtain rfl := Option.some.inj ho
          have d3 := hdep 3 (by decide +kernel)
          simp [slotOf, dstOf] at d3
          simp [opYields, go_sem, d3, c2]
          exact hJ
        | 5, _ =>
          obtain rfl := Option.some.inj ho
          have o0 := hoff 0 (by decide +kernel)
          simp at o0
          simp [opYields, go_sem, o0]
          exact hJ
        | 6, _ =>
          obtain rfl := Option.some.inj ho
          have o1 := hoff 1 (by decide +kernel)
          simp at o1
          simp [opYields, go_sem, o1]
          exact hJ
        | 7, _ =>
          have hown := hown rfl
          obtain rfl := Option.some.inj ho
          have d5 := hdep 5 (by decide +kernel)
          have d6 := hdep 6 (by decide +kernel)
          simp [slotOf, dstOf] at d5 d6
          simp [opYields, go_sem, d5, d6]
          refine (take_is w2 B ub n r made told _ ⟨hB2, hblk, hown⟩ (by omega)).mono ?_
          rintro e w3 ⟨hk3, (⟨h, _⟩ | ⟨_, rfl⟩)⟩
          · omega
          · exact ⟨rfl, hk.trans hk3⟩
        | 8, _ => exact (hdep 7 (by decide +kernel)).elim
        | 9, _ =>
          obtain rfl := Option.some.inj ho
          have d0 := hdep 0 (by decide +kernel)
          simp [slotOf, dstOf] at d0
          simp [opYields, go_sem, d0]
          exact hJ
        | 10, _ =>
          obtain rfl := Option.some.inj ho
          have d9 := hdep 9 (by decide +kernel)
          simp [slotOf, dstOf] at d9
          simp [opYields, go_sem, d9]
          exact hJ
  · exact ⟨rfl, ⟨rfl, rfl, rfl, Nat.le_refl _, fun _ _ _ => rfl⟩, .inr ⟨by omega, rfl⟩⟩
end Go.Proofs.YtmdakfmecfcbhaaGreat
