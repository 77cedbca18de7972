/- strings.Clone; readLabel$1, readLabel, readSample$1, readSample. -/
import Derived.Test.YtmdakfmecfcbhaaGreatProg
import Derived.Test.YtmdakfmecfcbhaaGreatKit
import Derived.Test.YtmdakfmecfcbhaaGreatSpec
import Derived.Test.YtmdakfmecfcbhaaGreatSpec2
import Derived.Test.YtmdakfmecfcbhaaGreatReg
import Derived.Test.YtmdakfmecfcbhaaGreatWSer
import Derived.Test.YtmdakfmecfcbhaaGreatRdA
import Derived.Test.YtmdakfmecfcbhaaGreatRdB
import Derived.Lib.Strings
import Derived.Lib.Walk
import Derived.Lib.BufferWrite
import Derived.Lib.UnsafeStr
import Derived.Laws.MakeOwn
set_option linter.unusedVariables false
set_option linter.unusedSimpArgs false
namespace Go.Proofs.YtmdakfmecfcbhaaGreat
open Go.RowKit
attribute [local go_sem] bs_size bs_toList bs_append bs_get bs_extract

theorem Tryz.mixed2 : Tryz.prog.follows .mixedOrders = true := by kernel_rfl
theorem Tryz.cells5 : Tryz.prog.cellsOf 5 = 1 := by kernel_rfl

set_option maxHeartbeats 4000000 in
set_option maxRecDepth 100000 in
theorem lite_clone (s : ByteArray) (w : World) (hlim : s.size ≤ 281474976710656) :
    Calls Tryz.prog 119 #[.string s] w fun e w' => e = .returned (.string s) ∧ Below w.heap.size w w' := by
  by_cases h0 : s.size = 0
  · have hs : s = ⟨#[]⟩ := ByteArray.ext (Array.eq_empty_of_size_eq_zero h0)
    subst hs
    go_enter Tryz.func119, Tryz.ntmps119
    go_wp2
    go_ret
    exact ⟨rfl, Below.refl _ _⟩
  · obtain ⟨i0, hi, hz0, hz1, hz2⟩ := info_parts Tryz.info5
    have hinfo : (Tryz.prog.info? 5).map (·.size) = some 1 := by rw [hi]; simp [hz1]
    obtain ⟨M, hM⟩ : ∃ M, M = madeCells (Value.int .u8 0).cells (((s.size : Nat) : Int).toNat * i0.size) := ⟨_, rfl⟩
    have hMs : M.size = s.size := by rw [hM, size_madeCells, hz1]; simp
    have hmk : ∀ W : World, (Instr.makeSlice 63 (.int .i64 (s.size : Int)) (.int .i64 (s.size : Int))).run Tryz.prog W = .ok (.slice (some ⟨W.heap.size, 0, none⟩) s.size s.size) (W.alloc (.cells M 5)) := fun W => by
      have h := run_make (P := Tryz.prog) W 63 5 i0 (.int .u8 0) Tryz.underlying63 hi hz0 .i64 .i64 (s.size : Int) (s.size : Int) (by omega) (by omega) (by rw [hz2]; omega) (by omega)
      rw [← hM] at h
      simpa using h
    clear hM
    have hcp := Lib.run_copy_row_string (P := Tryz.prog) (w.alloc (.cells M 5)) 63 9 3 5 w.heap.size 0 s.size s.size s M 5 Tryz.underlying63 hinfo (heap_alloc_new w _) (Nat.le_refl _) (by omega)
    obtain ⟨Y, hY⟩ : ∃ Y, Y = (M.toList.take 0 ++ Lib.byteCells s.data.toList ++ M.toList.drop (0 + s.size)).toArray := ⟨_, rfl⟩
    rw [← hY] at hcp
    have hYl : Y.toList = Lib.byteCells s.data.toList := by
      rw [hY, List.toList_toArray, List.take_zero, List.nil_append, List.drop_of_length_le (by rw [Array.length_toList]; omega), List.append_nil]
    have hYs : Y.size = s.size := by rw [← Array.length_toList, hYl, Lib.byteCells_length, ← Lib.size_eq]
    have hgY : ((w.alloc (.cells M 5)).setRow w.heap.size Y).heap[w.heap.size]? = some (.cells Y 5 (0, 0)) := setRow_heap _ _ M _ 5 (0, 0) (heap_alloc_new w _)
    have hne : s.data.toList ≠ [] := fun e => h0 (by rw [Lib.size_eq, e]; rfl)
    have hUS := Lib.run_unsafeString_row (P := Tryz.prog) ((w.alloc (.cells M 5)).setRow w.heap.size Y) 151 3 9 5 Tryz.underlying151 Tryz.cells5 w.heap.size Y.size (by unfold World.shape?; rw [hgY]) s.data.toList hne (by rw [← Lib.size_eq]; omega) (by rw [← Lib.size_eq]; omega)
      (fun j x hx => Lib.cells_of_row hgY Y.size j _ (by rw [List.take_of_length_le (by rw [Array.length_toList]; exact Nat.le_refl _), hYl]; simp [Lib.byteCells, hx]))
    rw [← Lib.size_eq] at hUS
    clear hY
    go_enter Tryz.func119, Tryz.ntmps119
    go_wp2
    go_ret
    have hb1 : Below w.heap.size w (w.alloc (.cells M 5)) := (Below.refl _ w).alloc (Nat.le_refl _) _
    have hb2 : Below w.heap.size (w.alloc (.cells M 5)) ((w.alloc (.cells M 5)).setRow w.heap.size Y) := ⟨rfl, rfl, rfl, by simp, fun k hk => setRow_other _ _ _ _ (by omega)⟩
    exact ⟨rfl, Lib.below_freeze (hb1.trans hb2) (p := ⟨w.heap.size, 0, none⟩) (Nat.le_refl _) _⟩

theorem clone_any (s : List UInt8) (w : World) (hlim : s.length ≤ 281474976710656) :
    Calls Tryz.prog 104 #[.string (bs s)] w fun e w' => e = .returned (.string (bs s)) ∧ Below w.heap.size w w' := by
  go_enter Tryz.func104, Tryz.ntmps104
  go_wp2_with fail
  refine (lite_clone (bs s) w (by rw [bs_size]; exact hlim)).mono ?_
  rintro e w1 ⟨rfl, hb⟩
  go_wp2
  go_ret
  exact ⟨rfl, hb⟩

theorem KeptX.setAt {B b : Nat} {w w' : World} (h : KeptX B b w w') (o : Nat) (v : Value) : KeptX B b w (w'.setCell ⟨b, o, none⟩ v) :=
  ⟨h.os, h.tape, h.output, by simpa [World.setCell] using h.size, fun k hk hn => (Below.heap_setCell _ _ _ _ hn).trans (h.block k hk hn)⟩

theorem KeptX.alloc {B b : Nat} {w w' : World} (h : KeptX B b w w') (hB : B ≤ w'.heap.size) (o : Obj) : KeptX B b w (w'.alloc o) :=
  h.trans (keptX_of ((Below.refl B w').alloc hB o))

/-- What a label's fields tell: the last of each. -/
def labStep (x : Lab) (f : Fld) : Lab := if f.1 = 10 then (f.2.2, x.2) else if f.1 = 18 then (x.1, f.2.2) else x
def labOf (l : List Fld) : Lab := l.foldl labStep ([], [])

set_option maxRecDepth 20000 in
set_option maxHeartbeats 1000000 in
theorem readLabel1_any (w : World) (xb : Nat) (x : Lab) (f : Fld) (hx : w.heap[xb]? = some (.cells #[.string (bs x.1), .string (bs x.2)] 62 (0, 0))) :
    Calls Tryz.prog 142 #[fldV f, .pointer (some ⟨xb, 0, none⟩)] w fun e w' => e = .returned (.tuple #[]) ∧ KeptX w.heap.size xb w w' ∧ w'.heap[xb]? = some (.cells #[.string (bs (labStep x f).1), .string (bs (labStep x f).2)] 62 (0, 0)) := by
  obtain ⟨h, n, b⟩ := f
  have hxlt := lt_of_block hx
  have h0 : Below w.heap.size w (w.alloc (.cells #[.int .u64 h, .int .u64 n, .string (bs b)] 133)) := (Below.refl _ _).alloc (Nat.le_refl _) _
  have hx1 := below_block h0 hx hxlt
  obtain ⟨c0, c1⟩ := two_cells hx1
  have z0 : (w.alloc (.cells #[.int .u64 h, .int .u64 n, .string (bs b)] 133)).frozen? ⟨xb, 0, none⟩ = false := by simp only [World.frozen?, hx1]; rfl
  have z1 : (w.alloc (.cells #[.int .u64 h, .int .u64 n, .string (bs b)] 133)).frozen? ⟨xb, 1, none⟩ = false := by simp only [World.frozen?, hx1]; rfl
  unfold fldV
  go_enter Tryz.func142, Tryz.ntmps142
  have hk := keptX_of (b := xb) h0
  by_cases m1 : h = 10
  · have t1 : ((h : Int) == 10) = true := by rw [beq_iff_eq]; omega
    have M := hide m1
    clear m1
    go_wp2
    go_end0
    refine ⟨rfl, ((KeptX.refl _ _ _).setAt _ _).alloc (by simp [World.setCell]) _, ?_⟩
    rw [Below.heap_alloc _ _ _ (by simpa [World.setCell] using hxlt), set_block hx]
    simp only [labStep, M.out, if_true]
    rfl
  · have t1 : ((h : Int) == 10) = false := by rw [beq_eq_false_iff_ne]; omega
    by_cases m2 : h = 18
    · have t2 : ((h : Int) == 18) = true := by rw [beq_iff_eq]; omega
      have M := hide m2
      clear m1 m2
      go_wp2
      go_end0
      refine ⟨rfl, ((KeptX.refl _ _ _).setAt _ _).alloc (by simp [World.setCell]) _, ?_⟩
      rw [Below.heap_alloc _ _ _ (by simpa [World.setCell] using hxlt), set_block hx]
      simp only [labStep, M.out]
      rfl
    · have t2 : ((h : Int) == 18) = false := by rw [beq_eq_false_iff_ne]; omega
      have M := hide (And.intro m1 m2)
      clear m1 m2
      go_wp2
      go_end0
      refine ⟨rfl, hk, ?_⟩
      simp only [labStep, M.out.1, M.out.2, if_false]
      exact hx1

theorem labOf_snoc (d : List Fld) (f : Fld) : labOf (d ++ [f]) = labStep (labOf d) f := by simp [labOf]
theorem labStep_len {x : Lab} {f : Fld} {n : Nat} (hx : x.1.length ≤ n ∧ x.2.length ≤ n) (hf : f.2.2.length ≤ n) : (labStep x f).1.length ≤ n ∧ (labStep x f).2.length ≤ n := by
  unfold labStep
  split
  · exact ⟨hf, hx.2⟩
  · split
    · exact ⟨hx.1, hf⟩
    · exact hx

/-- A label's text tells one. -/
def labRead (s : List UInt8) : Option Lab := if (fields s).2 = true then some (labOf (fields s).1) else none

set_option maxRecDepth 20000 in
set_option maxHeartbeats 2000000 in
theorem readLabel_any (w : World) (s : List UInt8) (hs : s.length ≤ 1000000) :
    Calls Tryz.prog 127 #[.string (bs s)] w fun e w' => Below w.heap.size w w' ∧
      ((∃ x, labRead s = some x ∧ x.1.length ≤ s.length ∧ x.2.length ≤ s.length ∧ e = .returned (.agg #[.string (bs x.1), .string (bs x.2)])) ∨ (labRead s = none ∧ e = gaveUp 1)) := by
  have hcf : ∀ (args : Array Value) (w : World), (callFunc 142 args).run Tryz.prog w = .ok (.enter 142 args) w := fun args w => by simp [go_sem]
  obtain ⟨W, HW⟩ : ∃ W, Hid (W = (w.alloc (.cells #[.string { data := #[] }, .string { data := #[] }] 62)).alloc (.cells #[.string { data := #[] }, .string { data := #[] }] 62)) := ⟨_, hide rfl⟩
  have hW0 : Below w.heap.size w W := by rw [HW.out]; exact ((Below.refl _ _).alloc (Nat.le_refl _) _).alloc (by simp) _
  have hW1 : W.heap[w.heap.size]? = some (.cells #[.string (bs []), .string (bs [])] 62 (0, 0)) := by
    rw [HW.out, Below.heap_alloc _ _ _ (by simp)]; exact heap_alloc_new _ _
  have hW2 : W.heap[w.heap.size + 1]? = some (.cells #[.string (bs []), .string (bs [])] 62 (0, 0)) := by
    rw [HW.out]
    have := heap_alloc_new (w.alloc (.cells #[.string { data := #[] }, .string { data := #[] }] 62)) (.cells #[.string { data := #[] }, .string { data := #[] }] 62)
    simpa [bs] using this
  have HE := hide (eachField_any s W 142 #[.pointer (some ⟨w.heap.size + 1, 0, none⟩)]
    (fun d wi => Below w.heap.size w wi ∧ wi.heap[w.heap.size]? = some (.cells #[.string (bs []), .string (bs [])] 62 (0, 0)) ∧ wi.heap[w.heap.size + 1]? = some (.cells #[.string (bs (labOf d).1), .string (bs (labOf d).2)] 62 (0, 0)) ∧ (labOf d).1.length ≤ s.length ∧ (labOf d).2.length ≤ s.length)
    (fun _ => true) (fun wi => Below w.heap.size w wi) (by omega) hcf ⟨hW0, hW1, hW2, by simp [labOf], by simp [labOf]⟩
    (fun d w1 w2 ⟨h1, h2, h3, h4⟩ hg => ⟨h1.trans (hg.mono h1.size), hg.get h2, hg.get h3, h4⟩)
    (fun d w1 h => h.1)
    (fun d f w1 ⟨h1, h2, h3, h4⟩ _ _ hf _ => (readLabel1_any w1 (w.heap.size + 1) (labOf d) f h3).mono fun e w2 ⟨he, hk, hb⟩ => .inl ⟨rfl, he, (h1.trans (hk.below h1.size (by omega))), hk.get h2 (lt_of_block h2) (by omega), by rw [labOf_snoc]; exact hb, by rw [labOf_snoc]; exact labStep_len h4 hf⟩))
  clear hW0 hW1 hW2
  rw [HW.out] at HE
  go_enter Tryz.func127, Tryz.ntmps127
  go_wp2_with fail
  refine HE.out.mono ?_
  clear HE hcf HW
  rintro e w1 (⟨hok, rfl, hb1, h2, h3, h4, h5⟩ | ⟨hok, rfl, hb1⟩)
  · have HOk : Hid (labRead s = some (labOf (fields s).1)) := by
      show _ = _
      simp [fieldsOk] at hok
      simp [labRead, hok]
    clear hok
    generalize labOf (fields s).1 = x at *
    go_wp2
    refine wp_region_free 7 14 Tryz.mixed2 rfl (by decide +kernel) Grow (fun _ _ _ => Grow.trans) (Grow.refl _)
      (fun i v _ => match i with
        | 0 => v = .pointer (some ⟨w.heap.size + 1, 0, none⟩)
        | 1 => v = .string (bs x.1)
        | 2 => v = .string (bs x.1)
        | 3 => v = .pointer (some ⟨w.heap.size + 1, 1, none⟩)
        | 4 => v = .string (bs x.2)
        | 5 => v = .string (bs x.2)
        | _ => v = .agg #[.string (bs x.1), .string (bs x.2)])
      (fun i v w w' h hg => h) (fun _ _ => False) (fun _ _ _ _ h => h.elim) (fun i hi o ho a w2 hG hoff hdep => ?_) (fun vals w2 hG hvals => ?_)
    · obtain ⟨x0, x1⟩ := two_cells (below_block hG.undrew h3 (lt_of_block h3))
      match i, hi with
      | 0, _ =>
        obtain rfl := Option.some.inj ho
        have o3 := hoff 3 (by decide +kernel)
        simp at o3
        simp [opYields, go_sem, o3]
        exact Grow.refl _
      | 1, _ =>
        obtain rfl := Option.some.inj ho
        have d0 := hdep 0 (by decide +kernel)
        simp [slotOf, dstOf] at d0
        simp [opYields, go_sem, d0, x0]
        exact Grow.refl _
      | 2, _ =>
        obtain rfl := Option.some.inj ho
        have d1 := hdep 1 (by decide +kernel)
        simp [slotOf, dstOf] at d1
        simp [opYields, go_sem, d1]
        refine (clone_any x.1 w2 (by omega)).mono ?_
        rintro e w3 ⟨rfl, hb⟩
        exact ⟨hb, rfl⟩
      | 3, _ =>
        obtain rfl := Option.some.inj ho
        have o3 := hoff 3 (by decide +kernel)
        simp at o3
        simp [opYields, go_sem, o3]
        exact Grow.refl _
      | 4, _ =>
        obtain rfl := Option.some.inj ho
        have d3 := hdep 3 (by decide +kernel)
        simp [slotOf, dstOf] at d3
        simp [opYields, go_sem, d3, x1]
        exact Grow.refl _
      | 5, _ =>
        obtain rfl := Option.some.inj ho
        have d4 := hdep 4 (by decide +kernel)
        simp [slotOf, dstOf] at d4
        simp [opYields, go_sem, d4]
        refine (clone_any x.2 w2 (by omega)).mono ?_
        rintro e w3 ⟨rfl, hb⟩
        exact ⟨hb, rfl⟩
      | 6, _ =>
        obtain rfl := Option.some.inj ho
        have d2 := hdep 2 (by decide +kernel)
        simp [slotOf, dstOf] at d2
        have d5 := hdep 5 (by decide +kernel)
        simp [slotOf, dstOf] at d5
        simp [opYields, go_sem, d2, d5]
        exact Grow.refl _
    · have v6 := hvals 6 (by omega)
      simp only at v6
      clear hvals
      have h2' := below_block hG.undrew h2 (lt_of_block h2)
      obtain ⟨c0, c1⟩ := two_cells h2'
      have z0 : w2.frozen? ⟨w.heap.size, 0, none⟩ = false := by simp only [World.frozen?, h2']; rfl
      have z1 : w2.frozen? ⟨w.heap.size, 1, none⟩ = false := by simp only [World.frozen?, h2']; rfl
      simp [over, dstOf, Act.put, v6]
      go_wp2
      have hb3 : ((w2.setCell ⟨w.heap.size, 0, none⟩ (.string (bs x.1))).setCell ⟨w.heap.size, 1, none⟩ (.string (bs x.2))).heap[w.heap.size]? = some (.cells #[.string (bs x.1), .string (bs x.2)] 62 (0, 0)) := by
        rw [set_block (set_block h2' _) _]; rfl
      obtain ⟨r0, r1⟩ := two_cells hb3
      refine bodyPost_ret (v := .agg #[.string (bs x.1), .string (bs x.2)]) (by simp [results, Tryz.results127, go_sem, r0, r1]) rfl ?_
      exact ⟨((hb1.trans (hG.undrew.mono hb1.size)).setCell (p := ⟨w.heap.size, 0, none⟩) (Nat.le_refl _) _).setCell (p := ⟨w.heap.size, 1, none⟩) (Nat.le_refl _) _, .inl ⟨x, HOk.out, h4, h5, rfl⟩⟩
  · have HOk : Hid (labRead s = none) := by
      show _ = _
      have hf : (fields s).2 = false := by simpa [fieldsOk] using hok
      simp [labRead, hf]
    exact ⟨rfl, hb1, .inr ⟨HOk.out, rfl⟩⟩

end Go.Proofs.YtmdakfmecfcbhaaGreat
