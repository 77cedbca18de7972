/- 1 texts in one. -/
import Derived.Test.YtndpjdmfkhjiiaaGreatDoorProg
import Derived.Test.YtndpjdmfkhjiiaaGreatDoorK97fdc06
import Derived.Test.YtndpjdmfkhjiiaaGreatDoorKbff346a
import Derived.Test.YtndpjdmfkhjiiaaGreatDoorK395e834
import Derived.Laws.BitsAll
import Derived.Laws.ShiftsVar
import Derived.Laws.DeepNot64
import Derived.RegionTactic
import Derived.BigQuiet
set_option linter.unusedVariables false
set_option linter.unusedSimpArgs false
namespace Go.Proofs.YtndpjdmfkhjiiaaGreatDoor
open Go.RowKit
attribute [local go_sem] bs_size bs_toList bs_append bs_get bs_extract
/-- Four words in a block. -/
def wordsAt (w : World) (g : Nat) (l : List Nat) : Prop := w.heap[g]? = some (.cells (l.map (fun n : Nat => Value.int .u64 (n : Int))).toArray 148 (0, 0))
theorem wordsAt.cell {w : World} {g k : Nat} {l : List Nat} (h : wordsAt w g l) {x} (hk : l[k]? = some x) : w.cell? ⟨g, k, none⟩ = some (.int .u64 (x : Nat)) := cell_in h (by simp [hk])
theorem wordsAt.set {w : World} {g : Nat} {l : List Nat} (h : wordsAt w g l) (k x : Nat) : wordsAt (w.setCell ⟨g, k, none⟩ (.int .u64 x)) g (l.set k x) := by
  have := set_blk h (i := k) (.int .u64 (x : Nat))
  unfold wordsAt
  rw [this]
  congr 1
  simp [List.map_set]
theorem wordsAt.four {w : World} {g : Nat} {a b c d : Nat} (h : wordsAt w g [a, b, c, d]) : w.cell? ⟨g, 0, none⟩ = some (.int .u64 (a : Nat)) ∧ w.cell? ⟨g, 1, none⟩ = some (.int .u64 (b : Nat)) ∧ w.cell? ⟨g, 2, none⟩ = some (.int .u64 (c : Nat)) ∧ w.cell? ⟨g, 3, none⟩ = some (.int .u64 (d : Nat)) := by
  have h' : w.heap[g]? = some (.cells #[.int .u64 (a : Nat), .int .u64 (b : Nat), .int .u64 (c : Nat), .int .u64 (d : Nat)] 148 (0, 0)) := h
  exact four_cells h'
theorem below_set {B b o : Nat} {w w' : World} (h : Below B w w') (hB : B ≤ b) (u : Value) : Below B w (w'.setCell ⟨b, o, none⟩ u) := h.setCell hB u
theorem heap_new (w : World) (o : Obj) : (w.alloc o).heap[w.heap.size]? = some o := by
  show (w.heap.push o)[w.heap.size]? = some o
  simp
/-- The first k have been turned. -/
def mixW (f : Nat → Nat → Nat) (l : List Nat) (k : Nat) : List Nat := (l.mapIdx fun i x => if i < k then f i x else x)
theorem mixW_zero (f l) : mixW f l 0 = l := by
  apply List.ext_getElem?
  intro i
  simp [mixW]
theorem mixW_get {f : Nat → Nat → Nat} {l : List Nat} {k x : Nat} (h : l[k]? = some x) : (mixW f l k)[k]? = some x := by simp [mixW, h]
theorem mixW_next {f : Nat → Nat → Nat} {l : List Nat} {k x : Nat} (h : l[k]? = some x) : (mixW f l k).set k (f k x) = mixW f l (k + 1) := by
  apply List.ext_getElem?
  intro i
  by_cases e : i = k
  · subst e
    have hl := (List.getElem?_eq_some_iff.1 h).1
    have hx : l[i] = x := by rw [List.getElem?_eq_getElem hl] at h; exact Option.some.inj h
    simp [mixW, hl, hx]
  · rw [List.getElem?_set_ne (fun h => e h.symm)]
    simp only [mixW, List.getElem?_mapIdx]
    congr 1
    funext x
    by_cases h1 : i < k
    · simp [h1, show i < k + 1 from by omega]
    · simp [h1, show ¬ i < k + 1 from by omega]
theorem mixW_all {f : Nat → Nat → Nat} {l : List Nat} {k : Nat} (h : l.length ≤ k) : mixW f l k = l.mapIdx f := by
  apply List.ext_getElem?
  intro i
  simp only [mixW, List.getElem?_mapIdx]
  cases hi : l[i]? with
  | none => rfl
  | some x =>
    have := (List.getElem?_eq_some_iff.1 hi).1
    simp [show i < k from by omega]
theorem info_set : (Tryz.prog.info? 148).map (·.size) = some 4 := by kernel_rfl
theorem not64 (x : Nat) (hx : x < 18446744073709551616) : bits .xor .u64 (if IntKind.u64.signed = true then -1 else IntKind.u64.max) (x : Int) = ((18446744073709551615 - x : Nat) : Int) := by
  show IntKind.u64.wrap ((BitVec.ofInt 64 (18446744073709551615) ^^^ BitVec.ofInt 64 (x : Int)).toNat : Int) = _
  have h1 : BitVec.ofInt 64 18446744073709551615 = BitVec.allOnes 64 := by decide
  rw [h1, BitVec.allOnes_xor, BitVec.toNat_not, ofInt_u64 x hx, IntKind.wrap_u64]
  omega
theorem not_wordIs {x : Nat} {s : UInt8 → Bool} {i : Nat} (h : wordIs x s i) : wordIs (18446744073709551615 - x) (butAll s) i := by
  refine ⟨by omega, fun j hj => ?_⟩
  have := Nat.testBit_two_pow_sub_succ (n := 64) (x := x) h.1 j
  rw [show 2 ^ 64 - (x + 1) = 18446744073709551615 - x from by omega] at this
  rw [this, h.2 j hj]
  simp [butAll, hj]
set_option maxRecDepth 20000 in
set_option maxHeartbeats 1000000 in
theorem allBut_any (v : List Nat) (s : UInt8 → Bool) (w : World) (hv : wordsIs v s) : Calls Tryz.prog 171 #[setV v] w fun e w' => ∃ v', e = .returned (setV v') ∧ wordsIs v' (butAll s) ∧ Grow w w' := by
  obtain ⟨a, b, c, d, rfl⟩ := words_four hv
  have V := hide hv
  clear hv
  rw [show setV [a, b, c, d] = .agg #[.int .u64 (a : Int), .int .u64 (b : Int), .int .u64 (c : Int), .int .u64 (d : Int)] from rfl]
  go_enter Tryz.func171, Tryz.ntmps171
  go_wp2_with fail
  go_loopw [4] (fun i wr => ∃ k : Nat, k ≤ 4 ∧ i = .int .i64 k ∧ Below w.heap.size w wr ∧ w.heap.size + 2 ≤ wr.heap.size ∧ Hid (wordsAt wr w.heap.size (mixW (fun _ x => 18446744073709551615 - x) [a, b, c, d] k)) ∧ Hid (wordsAt wr (w.heap.size + 1) [0, 0, 0, 0])) (fun i _ => 4 - (intOf i).toNat)
  case atStart =>
    refine ⟨0, by omega, rfl, ((Grow.refl _).alloc _).alloc _, by simp, hide ?_, hide ?_⟩
    · rw [mixW_zero]
      exact (Below.heap_alloc _ _ _ (by simp)).trans (heap_new _ _)
    · have h := heap_new (w.alloc (.cells #[.int .u64 (a : Int), .int .u64 (b : Int), .int .u64 (c : Int), .int .u64 (d : Int)] 148 (0, 0))) (.cells #[.int .u64 0, .int .u64 0, .int .u64 0, .int .u64 0] 148 (0, 0))
      rw [show (w.alloc (.cells #[.int .u64 (a : Int), .int .u64 (b : Int), .int .u64 (c : Int), .int .u64 (d : Int)] 148 (0, 0))).heap.size = w.heap.size + 1 from by simp] at h
      exact h
  case round =>
    obtain ⟨k, hk, rfl, hb, hsz, HW, HR⟩ := hrel
    by_cases hlt : k < 4
    · obtain ⟨x, hx⟩ : ∃ x, [a, b, c, d][k]? = some x := ⟨_, List.getElem?_eq_getElem (by simpa using hlt)⟩
      have hc := HW.out.cell (mixW_get (f := fun _ x => 18446744073709551615 - x) hx)
      have fz := not_frozen (k := k) HW.out
      have hxl : x < 18446744073709551616 := by
        have hk' : k < [a, b, c, d].length := by simpa using hlt
        have h := V.out.2 k hk'
        rw [List.getElem?_eq_getElem hk'] at hx
        rw [Option.some.inj hx] at h
        exact h.1
      have HN := hide (not64 x hxl)
      have HX := hide hx
      clear hx
      go_wp2
      rw [HN.out]
      refine ⟨⟨k + 1, by omega, by go_num, hb.setCell (Nat.le_refl _) _, by simpa [World.setCell] using hsz, hide ?_, hide ((set_apart _ (by omega)).trans HR.out)⟩, ?_⟩
      · have := HW.out.set k (18446744073709551615 - x)
        rw [mixW_next (f := fun _ x => 18446744073709551615 - x) HX.out] at this
        exact this
      · simp [intOf]; omega
    · obtain rfl : k = 4 := by omega
      have hW := HW.out
      rw [mixW_all (by simp)] at hW
      obtain ⟨q0, q1, q2, q3⟩ := wordsAt.four (show wordsAt wr w.heap.size [18446744073709551615 - a, 18446744073709551615 - b, 18446744073709551615 - c, 18446744073709551615 - d] from hW)
      obtain ⟨r0, r1, r2, r3⟩ := wordsAt.four HR.out
      have z0 := not_frozen (k := 0) HR.out
      have z1 := not_frozen (k := 1) HR.out
      have z2 := not_frozen (k := 2) HR.out
      have z3 := not_frozen (k := 3) HR.out
      go_wp2
      have hR := (((HR.out.set 0 (18446744073709551615 - a)).set 1 (18446744073709551615 - b)).set 2 (18446744073709551615 - c)).set 3 (18446744073709551615 - d)
      refine bodyPost_ret (v := setV [18446744073709551615 - a, 18446744073709551615 - b, 18446744073709551615 - c, 18446744073709551615 - d]) (results_cell_row (p := 2) (ty := 148) rfl _ _ (w.heap.size + 1) _ _ _ _ rfl hR Tryz.underlying148 rfl info_set) rfl ⟨_, rfl, ⟨rfl, ?_⟩, ?_⟩
      · intro i hi
        match i, hi with
        | 0, _ => exact not_wordIs (V.out.2 0 (by simp))
        | 1, _ => exact not_wordIs (V.out.2 1 (by simp))
        | 2, _ => exact not_wordIs (V.out.2 2 (by simp))
        | 3, _ => exact not_wordIs (V.out.2 3 (by simp))
      · exact (((hb.setCell (by simp) _).setCell (by simp) _).setCell (by simp) _).setCell (by simp) _
theorem or_wordIs {x y : Nat} {s u : UInt8 → Bool} {i : Nat} (h : wordIs x s i) (k : wordIs y u i) : wordIs (x ||| y) (union s u) i := by
  refine ⟨Nat.or_lt_two_pow (n := 64) h.1 k.1, fun j hj => ?_⟩
  rw [Nat.testBit_or, h.2 j hj, k.2 j hj]
  rfl
set_option maxRecDepth 20000 in
set_option maxHeartbeats 1000000 in
theorem both_any (v v2 : List Nat) (s u : UInt8 → Bool) (w : World) (hv : wordsIs v s) (hv2 : wordsIs v2 u) : Calls Tryz.prog 170 #[setV v, setV v2] w fun e w' => ∃ v', e = .returned (setV v') ∧ wordsIs v' (union s u) ∧ Grow w w' := by
  obtain ⟨a, b, c, d, rfl⟩ := words_four hv
  obtain ⟨a2, b2, c2, d2, rfl⟩ := words_four hv2
  have V := hide hv
  have V2 := hide hv2
  clear hv hv2
  rw [show setV [a, b, c, d] = .agg #[.int .u64 (a : Int), .int .u64 (b : Int), .int .u64 (c : Int), .int .u64 (d : Int)] from rfl, show setV [a2, b2, c2, d2] = .agg #[.int .u64 (a2 : Int), .int .u64 (b2 : Int), .int .u64 (c2 : Int), .int .u64 (d2 : Int)] from rfl]
  go_enter Tryz.func170, Tryz.ntmps170
  go_wp2_with fail
  obtain ⟨f, hf⟩ : ∃ f : Nat → Nat → Nat, f = fun i x => x ||| [a2, b2, c2, d2].getD i 0 := ⟨_, rfl⟩
  have F := hide hf
  clear hf
  go_loopw [6] (fun i wr => ∃ k : Nat, k ≤ 4 ∧ i = .int .i64 k ∧ Below w.heap.size w wr ∧ w.heap.size + 3 ≤ wr.heap.size ∧ Hid (wordsAt wr w.heap.size (mixW f [a, b, c, d] k)) ∧ Hid (wordsAt wr (w.heap.size + 1) [a2, b2, c2, d2]) ∧ Hid (wordsAt wr (w.heap.size + 2) [0, 0, 0, 0])) (fun i _ => 4 - (intOf i).toNat)
  case atStart =>
    have h1 := heap_new w (.cells #[.int .u64 (a : Int), .int .u64 (b : Int), .int .u64 (c : Int), .int .u64 (d : Int)] 148 (0, 0))
    have h2 := heap_new (w.alloc (.cells #[.int .u64 (a : Int), .int .u64 (b : Int), .int .u64 (c : Int), .int .u64 (d : Int)] 148 (0, 0))) (.cells #[.int .u64 (a2 : Int), .int .u64 (b2 : Int), .int .u64 (c2 : Int), .int .u64 (d2 : Int)] 148 (0, 0))
    have h3 := heap_new ((w.alloc (.cells #[.int .u64 (a : Int), .int .u64 (b : Int), .int .u64 (c : Int), .int .u64 (d : Int)] 148 (0, 0))).alloc (.cells #[.int .u64 (a2 : Int), .int .u64 (b2 : Int), .int .u64 (c2 : Int), .int .u64 (d2 : Int)] 148 (0, 0))) (.cells #[.int .u64 0, .int .u64 0, .int .u64 0, .int .u64 0] 148 (0, 0))
    have e1 : ∀ o : Obj, (w.alloc o).heap.size = w.heap.size + 1 := fun o => by simp
    have e2 : ∀ o o2 : Obj, ((w.alloc o).alloc o2).heap.size = w.heap.size + 2 := fun o o2 => by simp
    rw [e1] at h2
    rw [e2] at h3
    refine ⟨0, by omega, rfl, (((Grow.refl _).alloc _).alloc _).alloc _, by simp, hide ?_, hide ?_, hide h3⟩
    · rw [mixW_zero]
      exact (Below.heap_alloc _ _ _ (by simp; omega)).trans ((Below.heap_alloc _ _ _ (by simp)).trans h1)
    · exact (Below.heap_alloc _ _ _ (by simp)).trans h2
  case round =>
    obtain ⟨k, hk, rfl, hb, hsz, HW, HW2, HR⟩ := hrel
    by_cases hlt : k < 4
    · obtain ⟨x, hx⟩ : ∃ x, [a, b, c, d][k]? = some x := ⟨_, List.getElem?_eq_getElem (by simpa using hlt)⟩
      obtain ⟨y, hy⟩ : ∃ y, [a2, b2, c2, d2][k]? = some y := ⟨_, List.getElem?_eq_getElem (by simpa using hlt)⟩
      have hc := HW.out.cell (mixW_get (f := f) hx)
      have hc2 := HW2.out.cell hy
      have fz := not_frozen (k := k) HW.out
      have hxl : x < 18446744073709551616 := by
        have hk' : k < [a, b, c, d].length := by simpa using hlt
        have h := V.out.2 k hk'
        rw [List.getElem?_eq_getElem hk'] at hx
        rw [Option.some.inj hx] at h
        exact h.1
      have hyl : y < 18446744073709551616 := by
        have hk' : k < [a2, b2, c2, d2].length := by simpa using hlt
        have h := V2.out.2 k hk'
        rw [List.getElem?_eq_getElem hk'] at hy
        rw [Option.some.inj hy] at h
        exact h.1
      have HO := hide (u64_or_nat x y hxl hyl)
      have HF : Hid (f k x = x ||| y) := by
        show _ = _
        rw [F.out]
        simp [List.getD, hy]
      have HX := hide hx
      clear hx hy
      go_wp2
      go_region
      go_wp2
      rw [HO.out]
      have hb' := below_set hb (b := w.heap.size) (o := k) (Nat.le_refl _) (.int .u64 ((x ||| y : Nat) : Int))
      refine ⟨⟨k + 1, by omega, by go_num, ⟨hb'.os, hb'.tape, hb'.output, hb'.size, hb'.block⟩, by simpa [World.setCell] using hsz, hide ?_, hide ((set_apart (o := k) _ (by omega)).trans HW2.out), hide ((set_apart (o := k) _ (by omega)).trans HR.out)⟩, ?_⟩
      · have := HW.out.set k (x ||| y)
        rw [← HF.out, mixW_next (f := f) HX.out, HF.out] at this
        exact this
      · simp [intOf]; omega
    · obtain rfl : k = 4 := by omega
      have hW := HW.out
      rw [mixW_all (by simp)] at hW
      rw [F.out] at hW
      obtain ⟨q0, q1, q2, q3⟩ := wordsAt.four (show wordsAt wr w.heap.size [a ||| a2, b ||| b2, c ||| c2, d ||| d2] from hW)
      obtain ⟨r0, r1, r2, r3⟩ := wordsAt.four HR.out
      have z0 := not_frozen (k := 0) HR.out
      have z1 := not_frozen (k := 1) HR.out
      have z2 := not_frozen (k := 2) HR.out
      have z3 := not_frozen (k := 3) HR.out
      go_wp2
      have hR := (((HR.out.set 0 (a ||| a2)).set 1 (b ||| b2)).set 2 (c ||| c2)).set 3 (d ||| d2)
      refine bodyPost_ret (v := setV [a ||| a2, b ||| b2, c ||| c2, d ||| d2]) (results_cell_row (p := 4) (ty := 148) rfl _ _ (w.heap.size + 2) _ _ _ _ rfl hR Tryz.underlying148 rfl info_set) rfl ⟨_, rfl, ⟨rfl, ?_⟩, ?_⟩
      · intro i hi
        match i, hi with
        | 0, _ => exact or_wordIs (V.out.2 0 (by simp)) (V2.out.2 0 (by simp))
        | 1, _ => exact or_wordIs (V.out.2 1 (by simp)) (V2.out.2 1 (by simp))
        | 2, _ => exact or_wordIs (V.out.2 2 (by simp)) (V2.out.2 2 (by simp))
        | 3, _ => exact or_wordIs (V.out.2 3 (by simp)) (V2.out.2 3 (by simp))
      · exact below_set (below_set (below_set (below_set hb (by omega) _) (by omega) _) (by omega) _) (by omega) _
theorem bit_wordIs {x r q : Nat} {s u : UInt8 → Bool} (h : wordIs x s q) (hr : r < 64) (hu : ∀ j, j < 64 → u (UInt8.ofNat (64 * q + j)) = (s (UInt8.ofNat (64 * q + j)) || decide (j = r))) : wordIs (x ||| 2 ^ r) u q := by
  refine ⟨Nat.or_lt_two_pow (n := 64) h.1 (Nat.pow_lt_pow_right (by omega) hr), fun j hj => ?_⟩
  rw [Nat.testBit_or, h.2 j hj, hu j hj, Nat.testBit_two_pow]
  congr 1
  by_cases e : j = r
  · simp [e]
  · have e' : ¬ r = j := fun h => e h.symm
    simp [e, e']
/-- Bytes from one on, below a number. -/
def upTo (a : UInt8) (n : Nat) : UInt8 → Bool := fun c => decide (a.toNat ≤ c.toNat) && decide (c.toNat < n)
theorem upTo_step {l : List Nat} {a : UInt8} {n q r : Nat} {x : Nat} (h : wordsIs l (upTo a n)) (ha : a.toNat ≤ n) (hq : n / 64 = q) (hr : n % 64 = r) (hn : n < 256) (hx : l[q]? = some x) : wordsIs (l.set q (x ||| 2 ^ r)) (upTo a (n + 1)) := by
  refine ⟨by simp [h.1], fun i hi => ?_⟩
  rw [List.length_set] at hi
  have hi4 : i < 4 := by rw [h.1] at hi; exact hi
  have hb : ∀ j, j < 64 → (UInt8.ofNat (64 * i + j)).toNat = 64 * i + j := fun j hj => by simp; omega
  by_cases e : q = i
  · subst e
    have hxi : l[q] = x := by rw [List.getElem?_eq_getElem hi] at hx; exact Option.some.inj hx
    rw [List.getElem_set_self]
    have hw := h.2 q hi
    rw [hxi] at hw
    refine bit_wordIs hw (by omega) (fun j hj => ?_)
    simp only [upTo, hb j hj]
    by_cases e2 : j = r
    · subst e2
      simp; omega
    · simp only [e2, decide_false, Bool.or_false]
      congr 1
      simp only [decide_eq_decide]
      omega
  · rw [List.getElem_set_ne e]
    have hw := h.2 i hi
    refine ⟨hw.1, fun j hj => ?_⟩
    rw [hw.2 j hj]
    simp only [upTo, hb j hj]
    congr 1
    simp only [decide_eq_decide]
    omega
theorem upTo_none (a : UInt8) : wordsIs [0, 0, 0, 0] (upTo a a.toNat) := by
  refine ⟨rfl, fun i hi => ⟨?_, fun j hj => ?_⟩⟩
  · match i, hi with
    | 0, _ => simp
    | 1, _ => simp
    | 2, _ => simp
    | 3, _ => simp
  · have h0 : [0, 0, 0, 0][i] = 0 := by
      match i, hi with
      | 0, _ => rfl
      | 1, _ => rfl
      | 2, _ => rfl
      | 3, _ => rfl
    rw [h0]
    simp [upTo]
theorem upTo_all (a b : UInt8) : upTo a (b.toNat + 1) = between a b := by
  funext c
  simp only [upTo, between]
  congr 1
  simp only [decide_eq_decide]
  omega
set_option maxRecDepth 20000 in
set_option maxHeartbeats 1000000 in
theorem span_any (a b : UInt8) (w : World) (hab : a.toNat ≤ b.toNat) : Calls Tryz.prog 167 #[.int .u8 a.toNat, .int .u8 b.toNat] w fun e w' => ∃ v', e = .returned (setV v') ∧ wordsIs v' (between a b) ∧ Grow w w' := by
  have ha : a.toNat < 256 := a.toNat_lt
  have hbb : b.toNat < 256 := b.toNat_lt
  obtain ⟨A, hA⟩ : ∃ A, a.toNat = A := ⟨_, rfl⟩
  obtain ⟨B, hB⟩ : ∃ B, b.toNat = B := ⟨_, rfl⟩
  rw [hA, hB] at hab ⊢
  have HA := hide hA
  have HB := hide hB
  rw [hA] at ha
  rw [hB] at hbb
  clear hA hB
  go_enter Tryz.func167, Tryz.ntmps167
  go_wp2_with fail
  go_loopw [6] (fun i wr => ∃ n : Nat, ∃ l : List Nat, A ≤ n ∧ n ≤ B + 1 ∧ i = .int .i64 n ∧ Below w.heap.size w wr ∧ w.heap.size + 2 ≤ wr.heap.size ∧ Hid (wordsAt wr (w.heap.size + 1) l) ∧ Hid (wordsIs l (upTo a n)) ∧ Hid (wordsAt wr w.heap.size [0, 0, 0, 0])) (fun i _ => 256 - (intOf i).toNat)
  case atStart =>
    have h1 := heap_new w (.cells #[.int .u64 0, .int .u64 0, .int .u64 0, .int .u64 0] 148 (0, 0))
    have h2 := heap_new (w.alloc (.cells #[.int .u64 0, .int .u64 0, .int .u64 0, .int .u64 0] 148 (0, 0))) (.cells #[.int .u64 0, .int .u64 0, .int .u64 0, .int .u64 0] 148 (0, 0))
    have e1 : ∀ o : Obj, (w.alloc o).heap.size = w.heap.size + 1 := fun o => by simp
    rw [e1] at h2
    exact ⟨A, [0, 0, 0, 0], by omega, by omega, by go_num, ((Grow.refl _).alloc _).alloc _, by simp, hide h2, hide (by rw [← HA.out]; exact upTo_none a), hide ((Below.heap_alloc _ _ _ (by simp)).trans h1)⟩
  case round =>
    obtain ⟨n, l, hn0, hn, rfl, hb, hsz, HW, HU, HR⟩ := hrel
    by_cases hlt : n ≤ B
    · obtain ⟨q, hq⟩ : ∃ q, n / 64 = q := ⟨_, rfl⟩
      obtain ⟨r, hr⟩ : ∃ r, n % 64 = r := ⟨_, rfl⟩
      have hq4 : q < 4 := by omega
      have hr6 : r < 64 := by omega
      have e1 : Int.tdiv (n : Int) 64 = q := by rw [Int.tdiv_eq_ediv_of_nonneg (by omega)]; omega
      have e2 : Int.tmod (n : Int) 64 = r := by rw [Int.tmod_eq_emod_of_nonneg (by omega)]; omega
      have hql : q < l.length := by rw [HU.out.1]; exact hq4
      obtain ⟨x, hx⟩ : ∃ x, l[q]? = some x := ⟨_, List.getElem?_eq_getElem hql⟩
      have hc := HW.out.cell hx
      have fz := not_frozen (k := q) HW.out
      have HX := hide hx
      have HQ := hide hq
      have HRr := hide hr
      clear hx hq hr
      have hxl : x < 18446744073709551616 := by
        have h := HU.out.2 q hql
        have h2 := HX.out
        rw [List.getElem?_eq_getElem hql] at h2
        rw [Option.some.inj h2] at h
        exact h.1
      have hp : 2 ^ r < 18446744073709551616 := Nat.lt_of_lt_of_eq (Nat.pow_lt_pow_right (a := 2) (by omega) hr6) (by decide : 2 ^ 64 = 18446744073709551616)
      have HO : Hid (bits .or .u64 (x : Int) (IntKind.u64.wrap (2 ^ r)) = ((x ||| 2 ^ r : Nat) : Int)) := by
        show _ = _
        have h2 : IntKind.u64.wrap (2 ^ r) = ((2 ^ r : Nat) : Int) := by
          rw [IntKind.wrap_u64, show (2 : Int) ^ r = ((2 ^ r : Nat) : Int) from by simp]
          exact Int.emod_eq_of_lt (Int.natCast_nonneg _) (Int.ofNat_lt.2 hp)
        rw [h2]
        exact u64_or_nat x (2 ^ r) hxl hp
      clear hp
      go_wp2
      go_region
      go_wp2
      rw [HO.out]
      have hb' := below_set hb (b := w.heap.size + 1) (o := q) (by omega) (.int .u64 ((x ||| 2 ^ r : Nat) : Int))
      refine ⟨⟨n + 1, l.set q (x ||| 2 ^ r), by omega, by omega, by go_num, ⟨hb'.os, hb'.tape, hb'.output, hb'.size, hb'.block⟩, by simpa [World.setCell] using hsz, hide (HW.out.set q (x ||| 2 ^ r)), hide (upTo_step HU.out (by rw [HA.out]; exact hn0) HQ.out HRr.out (by omega) HX.out), hide ((set_apart (o := q) _ (by omega)).trans HR.out)⟩, ?_⟩
      simp [intOf]; omega
    · obtain rfl : n = B + 1 := by omega
      have hU := HU.out
      rw [← HB.out, upTo_all] at hU
      obtain ⟨x0, x1, x2, x3, rfl⟩ := words_four hU
      have U := hide hU
      clear hU
      obtain ⟨q0, q1, q2, q3⟩ := wordsAt.four HW.out
      obtain ⟨r0, r1, r2, r3⟩ := wordsAt.four HR.out
      have z0 := not_frozen (k := 0) HR.out
      have z1 := not_frozen (k := 1) HR.out
      have z2 := not_frozen (k := 2) HR.out
      have z3 := not_frozen (k := 3) HR.out
      go_wp2
      have hR := (((HR.out.set 0 x0).set 1 x1).set 2 x2).set 3 x3
      refine bodyPost_ret (v := setV [x0, x1, x2, x3]) (results_cell_row (p := 4) (ty := 148) rfl _ _ w.heap.size _ _ _ _ rfl hR Tryz.underlying148 rfl info_set) rfl ⟨_, rfl, U.out, ?_⟩
      exact below_set (below_set (below_set (below_set hb (by omega) _) (by omega) _) (by omega) _) (by omega) _
end Go.Proofs.YtndpjdmfkhjiiaaGreatDoor
