/- 1 texts in one. -/
import Derived.Laws.OwnMore
import Derived.Test.YtndpjdmfkhjiiaaGreatDoorProg
import Derived.Test.YtndpjdmfkhjiiaaGreatDoorK06d19db
import Derived.Test.YtndpjdmfkhjiiaaGreatDoorKb583056
import Derived.Test.YtndpjdmfkhjiiaaGreatDoorKf25e925
import Derived.Test.YtndpjdmfkhjiiaaGreatDoorKbcd5023
import Derived.Test.YtndpjdmfkhjiiaaGreatDoorKab9fbe2
import Derived.Test.YtndpjdmfkhjiiaaGreatDoorKb639f27
import Derived.Test.YtndpjdmfkhjiiaaGreatDoorK98fb42d
import Derived.Test.YtndpjdmfkhjiiaaGreatDoorKa585d5f
import Derived.Test.YtndpjdmfkhjiiaaGreatDoorKf8fa243
import Derived.Test.YtndpjdmfkhjiiaaGreatDoorK777559e
import Derived.Test.YtndpjdmfkhjiiaaGreatDoorK0690efd
import Derived.Test.YtndpjdmfkhjiiaaGreatDoorKd930502
import Derived.Test.YtndpjdmfkhjiiaaGreatDoorKfdb3b36
import Derived.Test.YtndpjdmfkhjiiaaGreatDoorK2815d19
import Derived.Test.YtndpjdmfkhjiiaaGreatDoorKf567fef
import Derived.BigQuiet
import Derived.RegionTactic
import Derived.ChangeAlike
import Derived.BigRegion
set_option linter.unusedVariables false
set_option linter.unusedSimpArgs false
namespace Go.Proofs.YtndpjdmfkhjiiaaGreatDoor
open Go.RowKit
attribute [local go_sem] bs_size bs_toList bs_append bs_get bs_extract
def fitJ (W : World) (lb : Nat) (t : List UInt8) (N n : Nat) (b11 b14 b17 b19 : Bool) (v11 v14 v17 v19 : Value) (w' : World) : Prop :=
 Grow W w' ∧ (b11 = true → ∃ q, v11 = .slice (some ⟨q, 0, none⟩) N N ∧ W.heap.size ≤ q ∧ boolsAt w' q (List.replicate N false)) ∧
  (b14 = true → ∃ q, v14 = .slice (some ⟨q, 0, none⟩) n n ∧ W.heap.size ≤ q ∧ marksAt w' q (List.replicate n 0)) ∧
  (b17 = true → ∃ q, v17 = .slice (some ⟨q, 0, none⟩) n n ∧ W.heap.size ≤ q ∧ marksAt w' q (List.replicate n 0)) ∧
  (b14 = true → b17 = true → v14 ≠ v17) ∧
  (b19 = true → ∃ wb, v19 = .pointer (some ⟨wb, 0, none⟩) ∧ W.heap.size ≤ wb ∧ w'.heap[wb]? = some (.cells #[.pointer (some ⟨lb, 0, none⟩), .string (bs t), v11, v14, v17] 125 (0, 0)))
section
variable {W : World} {lb : Nat} {t : List UInt8} {N n : Nat} {b11 b14 b17 : Bool} {v11 v14 v17 v19 : Value} {w' w'' : World}
theorem fitJ.more {b19 : Bool} (h : fitJ W lb t N n b11 b14 b17 b19 v11 v14 v17 v19 w') (g : Grow w' w'') : fitJ W lb t N n b11 b14 b17 b19 v11 v14 v17 v19 w'' := by
 obtain ⟨h1, h2, h3, h4, h5, h6⟩ := h
 refine ⟨h1.trans g, fun e => ?_, fun e => ?_, fun e => ?_, h5, fun e => ?_⟩
 ·
  obtain ⟨q, a, b, c⟩ := h2 e; exact ⟨q, a, b, g.get c⟩
 ·
  obtain ⟨q, a, b, c⟩ := h3 e; exact ⟨q, a, b, g.get c⟩
 ·
  obtain ⟨q, a, b, c⟩ := h4 e; exact ⟨q, a, b, g.get c⟩
 ·
  obtain ⟨q, a, b, c⟩ := h6 e; exact ⟨q, a, b, g.get c⟩
theorem fitJ.m11 (h : fitJ W lb t N n false b14 b17 false v11 v14 v17 v19 w') : fitJ W lb t N n true b14 b17 false (.slice (some ⟨w'.heap.size, 0, none⟩) N N) v14 v17 v19 (w'.alloc (.cells (Array.replicate N (Value.bool false)) 4)) := by
 have hs := h.1.size
 obtain ⟨h1, h2, h3, h4, h5, h6⟩ := h.more ((Grow.refl _).alloc (.cells (Array.replicate N (Value.bool false)) 4))
 refine ⟨h1, fun _ => ⟨_, rfl, hs, ?_⟩, h3, h4, h5, fun e => by cases e⟩
 unfold boolsAt
 rw [heap_alloc_new, List.map_replicate, List.toArray_replicate]
theorem marks_new (w' : World) (n : Nat) : marksAt (w'.alloc (.cells (Array.replicate n (Value.int .i64 0)) 3)) w'.heap.size (List.replicate n 0) := by
 unfold marksAt
 rw [heap_alloc_new, List.map_replicate, List.toArray_replicate]
theorem fitJ.m14 (h : fitJ W lb t N n b11 false b17 false v11 v14 v17 v19 w') : fitJ W lb t N n b11 true b17 false v11 (.slice (some ⟨w'.heap.size, 0, none⟩) n n) v17 v19 (w'.alloc (.cells (Array.replicate n (Value.int .i64 0)) 3)) := by
 have hs := h.1.size
 have hlt : b17 = true → v17 ≠ .slice (some ⟨w'.heap.size, 0, none⟩) n n := fun e => by
  obtain ⟨q, a, _, c⟩ := h.2.2.2.1 e
  have := lt_of_block c
  rw [a]
  intro e2
  simp only [Value.slice.injEq, Option.some.injEq, Addr.mk.injEq, and_true] at e2
  omega
 obtain ⟨h1, h2, h3, h4, h5, h6⟩ := h.more ((Grow.refl _).alloc (.cells (Array.replicate n (Value.int .i64 0)) 3))
 exact ⟨h1, h2, fun _ => ⟨_, rfl, hs, marks_new _ _⟩, h4, fun _ e e2 => hlt e e2.symm, fun e => by cases e⟩
theorem fitJ.m17 (h : fitJ W lb t N n b11 b14 false false v11 v14 v17 v19 w') : fitJ W lb t N n b11 b14 true false v11 v14 (.slice (some ⟨w'.heap.size, 0, none⟩) n n) v19 (w'.alloc (.cells (Array.replicate n (Value.int .i64 0)) 3)) := by
 have hs := h.1.size
 have hlt : b14 = true → v14 ≠ .slice (some ⟨w'.heap.size, 0, none⟩) n n := fun e => by
  obtain ⟨q, a, _, c⟩ := h.2.2.1 e
  have := lt_of_block c
  rw [a]
  intro e2
  simp only [Value.slice.injEq, Option.some.injEq, Addr.mk.injEq, and_true] at e2
  omega
 obtain ⟨h1, h2, h3, h4, h5, h6⟩ := h.more ((Grow.refl _).alloc (.cells (Array.replicate n (Value.int .i64 0)) 3))
 exact ⟨h1, h2, h3, fun _ => ⟨_, rfl, hs, marks_new _ _⟩, fun e _ => hlt e, fun e => by cases e⟩
theorem fitJ.m19 (h : fitJ W lb t N n b11 b14 b17 false v11 v14 v17 v19 w') : fitJ W lb t N n b11 b14 b17 true v11 v14 v17 (.pointer (some ⟨w'.heap.size, 0, none⟩)) (w'.alloc (.cells #[.pointer (some ⟨lb, 0, none⟩), .string (bs t), v11, v14, v17] 125)) := by
 have hs := h.1.size
 obtain ⟨h1, h2, h3, h4, h5, h6⟩ := h.more ((Grow.refl _).alloc (.cells #[.pointer (some ⟨lb, 0, none⟩), .string (bs t), v11, v14, v17] 125))
 exact ⟨h1, h2, h3, h4, h5, fun _ => ⟨_, rfl, hs, heap_alloc_new _ _⟩⟩
end
def aggJ (lb : Nat) (t : List UInt8) (b18 : Bool) (v18 v11 v14 v17 : Value) : Prop := b18 = true → v18 = .agg #[.pointer (some ⟨lb, 0, none⟩), .string (bs t), v11, v14, v17]
theorem heap_apart {w : World} {a b : Nat} {c c2 : Array Value} {t t2 : TypeId} {fr fr2 : Nat × Nat} (h : w.heap[a]? = some (.cells c t fr)) (k : w.heap[b]? = some (.cells c2 t2 fr2)) (ht : t ≠ t2) : a ≠ b := by
 rintro rfl
 rw [h] at k
 simp at k
 exact ht k.2.1
theorem grow_of_frame {w w' : World} (h : LFrame w.heap.size w w') : Grow w w' := ⟨h.os, h.tape, h.output, h.size, fun k hk => h.low k hk hk⟩
theorem grow_of_kb {w a b : World} {X : Nat → Prop} (g : Grow w a) (h : KB X a b) (hX : ∀ k, X k → w.heap.size ≤ k) : Grow w b :=
 ⟨h.os.trans g.os, h.tape.trans g.tape, h.output.trans g.output, Nat.le_trans g.size h.size, fun k hk => (h.block k (Nat.lt_of_lt_of_le hk g.size) (fun e => by have := hX k e; omega)).trans (g.block k hk)⟩
set_option maxRecDepth 20000 in
set_option maxHeartbeats 8000000 in
theorem fitOf_any (w : World) (T : Tr) (v : Value) (k : Nat) (ys : List Value) (g : Nat) (t : List UInt8) (hv : w.ownsRow 0 153 1 v k ys) (hc : cellsAt w (fun _ => True) T ys) (hwf : wf true T) (hgd : good (re T))
  (hwi : within 0 g T) (hsz : sz T ≤ 301) (hg : g ≤ 9) (ht : t.length ≤ 2000) :
  Calls Tryz.prog 39 #[v, .int .i64 g, .string (bs t)] w fun e w' => Grow w w' ∧ match wayOf T t with
   | none => e = .returned (.tuple #[.bool false, .slice none 0 0])
   | some l => ∃ v', e = .returned (.tuple #[.bool true, v']) ∧ ownStrs w' w.heap.size v' (tookL t l g) := by
 obtain ⟨i0, hinf, hy0, hy1, hy2⟩ := info_parts Tryz.infoStr
 obtain ⟨f0, hrun⟩ := wayOf_is (t := t) hgd
 obtain ⟨f1, hden⟩ := gra_answers hwf hrun
 have hplaces : ∀ l, wayOf T t = some l → ∀ k, placed t.length (lastOf (-1) (2 * k) l) (lastOf (-1) (2 * k + 1) l) := fun l hl k => by
  rw [hl] at hrun
  obtain ⟨h1, h2⟩ := way_is hrun
  exact group_places h1 h2 k
 obtain ⟨hkok, hat, hKl⟩ := gra_ok hwi
 have hszK := szK_sz T
 have hA : ∃ A, w.alloc (.cells #[.slice none 0 0] 117) = A := ⟨_, rfl⟩
 obtain ⟨A, eA⟩ := hA
 have gA : Grow w A := by rw [← eA]; exact (Grow.refl _).alloc _
 have hlA : layAt A w.heap.size w.heap.size [] := by
  refine ⟨.slice none 0 0, [], ?_, Nat.le_refl _, World.ownsRow_nil _ _ _ _, rfl⟩
  rw [← eA]; exact heap_alloc_new _ _
 have HPUT := hide (put_any A w.heap.size w.heap.size [] .fin 0 0 0 0 none 0 0 hlA rfl (by simp))
 have HV := hide hv
 have HC := hide hc
 have HGA := hide gA
 have HRL := hide (rlay_any (sz T) T (Nat.le_refl _) hwf)
 have HKOK := hide hkok
 have HDEN := hide hden
 have HPLA := hide hplaces
 obtain ⟨ao, cp, rfl⟩ := own_shape hv
 obtain ⟨x, HX⟩ : ∃ x, Hid (wayOf T t = x) := ⟨_, hide rfl⟩
 rw [HX.out] at HDEN HPLA
 rw [HX.out]
 clear hv hc hrun hden hplaces hkok hlA gA hwf hgd hwi
 go_enter Tryz.func39, Tryz.ntmps39
 go_wp2_with fail
 refine HPUT.out.mono ?_
 rintro e W1 ⟨rfl, hf1, hl1⟩
 have HF1 : Hid (LFrame w.heap.size w W1) := hide ((LFrame.grow HGA.out).trans hf1)
 have HRC := hide (HRL.out W1 w.heap.size w.heap.size [.fin] (.slice ao k cp) k ys 0 hl1 (own_frame HV.out HF1.out (by decide) (by decide)) (HC.out.frame HF1.out) (by simp; omega))
 clear hf1 hl1 eA
 go_wp2_with fail
 refine HRC.out.mono ?_
 rintro e W2 ⟨rfl, hf2, hl2⟩
 have HF2 : Hid (LFrame w.heap.size w W2) := hide (HF1.out.trans hf2)
 obtain ⟨K, hK⟩ : ∃ K, gra T = K := ⟨_, rfl⟩
 obtain ⟨at0, hat0⟩ : ∃ at0, graAt T = at0 := ⟨_, rfl⟩
 have hl2' : layAt W2 w.heap.size w.heap.size K := by rw [← hK]; exact hl2
 have hat2 : (layK T [Kind.fin].length 0).2 = at0 := hat0
 rw [hat2]
 rw [hK] at hat hKl HKOK HDEN
 rw [hat0] at hat HDEN
 clear hf2 hl2 hK hat0 hat2
 obtain ⟨sv, xs, hlb, _, hrow, hsp⟩ := hl2'
 obtain ⟨sb, scp, rfl, hsb, hcell⟩ := own_first hrow (by omega)
 have c0 := cell_of_one hlb
 obtain ⟨hxl, hget⟩ := spotsAt_get hsp
 have HLB := hide hlb
 have HGET := hide hget
 have HCELL := hide hcell
 have HROWS := hide hrow
 clear hlb hsp hget hcell hrow
 obtain ⟨N, hN⟩ : ∃ N, K.length * (t.length + 1) = N := ⟨_, rfl⟩
 have hNi : (K.length : Int) * ((t.length : Int) + 1) = (N : Int) := by rw [← hN]; simp
 have hNl : N ≤ 1000000 := by
  have : K.length * (t.length + 1) ≤ 302 * 2001 := Nat.mul_le_mul (by omega) (by omega)
  omega
 have hmb := make_bools N (by omega)
 have hmi := make_ints (g + 1) (by omega)
 have hgi : (g : Int) + 1 = ((g + 1 : Nat) : Int) := by omega
 have hwg : IntKind.i64.wrap ((g : Int) + 1) = (g : Int) + 1 := wrap_i64_small _ (by omega) (by omega)
 have hwt : IntKind.i64.wrap ((t.length : Int) + 1) = (t.length : Int) + 1 := wrap_i64_small _ (by omega) (by omega)
 have hwn : ∀ n : Nat, n = g + 1 → IntKind.i64.wrap (n : Int) = (n : Int) := fun n hn => wrap_i64_small _ (by omega) (by omega)
 have hwN : IntKind.i64.wrap (N : Int) = (N : Int) := wrap_i64_small _ (by omega) (by omega)
 obtain ⟨n, hn⟩ : ∃ n, g + 1 = n := ⟨_, rfl⟩
 rw [hn] at hmi hgi
 have hwn := hwn n hn.symm
 go_wp2
 refine wp_region_state 20 115 Tryz.mixed2 rfl (by decide +kernel) (fun L vals w' => fitJ W2 w.heap.size t N n (L 11) (L 14) (L 17) (L 19) (vals 11) (vals 14) (vals 17) (vals 19) w' ∧ aggJ w.heap.size t (L 18) (vals 18) (vals 11) (vals 14) (vals 17))
  (fun L vals h => ?_)
  (fun i v => match i with
   | 0 => v = .pointer (some ⟨w.heap.size, 0, none⟩)
   | 1 => v = .string (bs t)
   | 2 => v = .pointer (some ⟨w.heap.size, 0, none⟩)
   | 3 => v = .pointer (some ⟨w.heap.size, 0, none⟩)
   | 4 => v = .pointer (some ⟨w.heap.size, 0, none⟩)
   | 5 => v = .slice (some ⟨sb, 0, none⟩) K.length scp
   | 6 => v = .int .i64 K.length
   | 7 => v = .string (bs t)
   | 8 => v = .int .i64 t.length
   | 9 => v = .int .i64 ((t.length : Int) + 1)
   | 10 => v = .int .i64 (N : Nat)
   | 11 => True
   | 12 => v = .int .i64 (g : Nat)
   | 13 => v = .int .i64 (n : Nat)
   | 14 => True
   | 15 => v = .int .i64 (g : Nat)
   | 16 => v = .int .i64 (n : Nat)
   | 17 => True
   | 18 => True
   | _ => True)
  (fun _ _ => False) (fun _ _ _ _ h => h.elim) (fun i hi o ho a w2 L vals hLi hLc hLe hJ hoff hval hdep => ?_) (fun vals w2 L hL hJ hvals => ?_)
 ·
  rw [h, h, h, h]
  exact ⟨⟨⟨rfl, rfl, rfl, Nat.le_refl _, fun _ _ => rfl⟩, fun h => (nomatch h), fun h => (nomatch h), fun h => (nomatch h), fun h => (nomatch h), fun h => (nomatch h)⟩, fun e => by rw [h] at e; cases e⟩
 ·
  have hlbw := hJ.1.1.get HLB.out
  have q0 := cell_of_one hlbw
  have no18 : ∀ d, d = 11 ∨ d = 14 ∨ d = 17 → L d = false → L 18 = false := fun d hd hf => by
   cases h : L 18 with
   | false => rfl
   | true =>
    have h11 := hLc 18 h 11 (by decide +kernel)
    have h14 := hLc 18 h 14 (by decide +kernel)
    have h17 := hLc 18 h 17 (by decide +kernel)
    rcases hd with rfl | rfl | rfl
    ·
     rw [h11] at hf; cases hf
    ·
     rw [h14] at hf; cases hf
    ·
     rw [h17] at hf; cases hf
  have no19 : L 18 = false → L 19 = false := fun hf => by
   cases h : L 19 with
   | false => rfl
   | true => have := hLc 19 h 18 (by decide +kernel); rw [hf] at this; cases this
  match i, hi with
  | 0, _ =>
   obtain rfl := Option.some.inj ho
   have o8 := hoff 8 (by decide +kernel)
   simp at o8
   simp [opYields, go_sem, o8]
   exact hJ
  | 1, _ =>
   obtain rfl := Option.some.inj ho
   have o2 := hoff 2 (by decide +kernel)
   simp at o2
   simp [opYields, go_sem, o2]
   exact hJ
  | 2, _ =>
   obtain rfl := Option.some.inj ho
   have o8 := hoff 8 (by decide +kernel)
   simp at o8
   simp [opYields, go_sem, o8]
   exact hJ
  | 3, _ =>
   obtain rfl := Option.some.inj ho
   have d2 := hdep 2 (by decide +kernel)
   simp [slotOf, dstOf] at d2
   simp [opYields, go_sem, d2]
   exact hJ
  | 4, _ =>
   obtain rfl := Option.some.inj ho
   have d3 := hdep 3 (by decide +kernel)
   simp [slotOf, dstOf] at d3
   simp [opYields, go_sem, d3]
   exact hJ
  | 5, _ =>
   obtain rfl := Option.some.inj ho
   have d4 := hdep 4 (by decide +kernel)
   simp [slotOf, dstOf] at d4
   simp [opYields, go_sem, d4, q0]
   exact hJ
  | 6, _ =>
   obtain rfl := Option.some.inj ho
   have d5 := hdep 5 (by decide +kernel)
   simp [slotOf, dstOf] at d5
   simp [opYields, go_sem, d5]
   exact hJ
  | 7, _ =>
   obtain rfl := Option.some.inj ho
   have o2 := hoff 2 (by decide +kernel)
   simp at o2
   simp [opYields, go_sem, o2]
   exact hJ
  | 8, _ =>
   obtain rfl := Option.some.inj ho
   have d7 := hdep 7 (by decide +kernel)
   simp [slotOf, dstOf] at d7
   simp [opYields, go_sem, d7]
   exact hJ
  | 9, _ =>
   obtain rfl := Option.some.inj ho
   have d8 := hdep 8 (by decide +kernel)
   simp [slotOf, dstOf] at d8
   simp [opYields, go_sem, d8, hwt]
   exact hJ
  | 10, _ =>
   obtain rfl := Option.some.inj ho
   have d6 := hdep 6 (by decide +kernel)
   simp [slotOf, dstOf] at d6
   have d9 := hdep 9 (by decide +kernel)
   simp [slotOf, dstOf] at d9
   simp [opYields, go_sem, d6, d9, hNi, hwN]
   exact hJ
  | 11, _ =>
   obtain rfl := Option.some.inj ho
   have d10 := hdep 10 (by decide +kernel)
   simp [slotOf, dstOf] at d10
   have h18 := no18 11 (.inl rfl) hLi
   have h19 := no19 h18
   obtain ⟨hj, ha⟩ := hJ
   rw [hLi, h19] at hj
   have hm := hj.m11
   simp [opYields, go_sem, d10, hmb, h18, h19]
   exact ⟨hm, fun e => (nomatch e)⟩
  | 12, _ =>
   obtain rfl := Option.some.inj ho
   have o1 := hoff 1 (by decide +kernel)
   simp at o1
   simp [opYields, go_sem, o1]
   exact hJ
  | 13, _ =>
   obtain rfl := Option.some.inj ho
   have d12 := hdep 12 (by decide +kernel)
   simp [slotOf, dstOf] at d12
   simp [opYields, go_sem, d12, hgi, hwn]
   exact hJ
  | 14, _ =>
   obtain rfl := Option.some.inj ho
   have d13 := hdep 13 (by decide +kernel)
   simp [slotOf, dstOf] at d13
   have h18 := no18 14 (.inr (.inl rfl)) hLi
   have h19 := no19 h18
   obtain ⟨hj, ha⟩ := hJ
   rw [hLi, h19] at hj
   have hm := hj.m14
   simp [opYields, go_sem, d13, hmi, h18, h19]
   exact ⟨hm, fun e => (nomatch e)⟩
  | 15, _ =>
   obtain rfl := Option.some.inj ho
   have o1 := hoff 1 (by decide +kernel)
   simp at o1
   simp [opYields, go_sem, o1]
   exact hJ
  | 16, _ =>
   obtain rfl := Option.some.inj ho
   have d15 := hdep 15 (by decide +kernel)
   simp [slotOf, dstOf] at d15
   simp [opYields, go_sem, d15, hgi, hwn]
   exact hJ
  | 17, _ =>
   obtain rfl := Option.some.inj ho
   have d16 := hdep 16 (by decide +kernel)
   simp [slotOf, dstOf] at d16
   have h18 := no18 17 (.inr (.inr rfl)) hLi
   have h19 := no19 h18
   obtain ⟨hj, ha⟩ := hJ
   rw [hLi, h19] at hj
   have hm := hj.m17
   simp [opYields, go_sem, d16, hmi, h18, h19]
   exact ⟨hm, fun e => (nomatch e)⟩
  | 18, _ =>
   obtain rfl := Option.some.inj ho
   have d0 := hdep 0 (by decide +kernel)
   have d1 := hdep 1 (by decide +kernel)
   have v11 := hval 11 (by decide +kernel)
   have v14 := hval 14 (by decide +kernel)
   have v17 := hval 17 (by decide +kernel)
   obtain ⟨q11, e11, _⟩ := hJ.1.2.1 (hLe 11 (by decide +kernel))
   obtain ⟨q14, e14, _⟩ := hJ.1.2.2.1 (hLe 14 (by decide +kernel))
   obtain ⟨q17, e17, _⟩ := hJ.1.2.2.2.1 (hLe 17 (by decide +kernel))
   rw [e11] at v11
   rw [e14] at v14
   rw [e17] at v17
   simp [slotOf, dstOf] at d0 d1 v11 v14 v17
   simp [opYields, go_sem, d0, d1, v11, v14, v17]
   exact ⟨hJ.1, fun _ => by rw [e11, e14, e17]⟩
  | 19, _ =>
   obtain rfl := Option.some.inj ho
   have h18 := hLe 18 (by decide +kernel)
   have v18 := hval 18 (by decide +kernel)
   simp [slotOf, dstOf] at v18
   obtain ⟨hj, ha⟩ := hJ
   rw [hLi] at hj
   have hm := hj.m19
   rw [ha h18] at v18
   simp [opYields, go_sem, v18]
   exact ⟨hm, ha⟩
  | q + 20, h => exact absurd h (by omega)
 ·
  rw [hL 11 (by omega), hL 14 (by omega), hL 17 (by omega), hL 19 (by omega)] at hJ
  obtain ⟨⟨hg3, h11, h14, h17, hneq, h19⟩, _⟩ := hJ
  obtain ⟨bb, e11, hbb, hB⟩ := h11 rfl
  obtain ⟨fb, e14, hfb, hFr⟩ := h14 rfl
  obtain ⟨tb, e17, htb, hTo⟩ := h17 rfl
  obtain ⟨wb, e19, hwb, hwk⟩ := h19 rfl
  have hneq := hneq rfl rfl
  rw [e11, e14, e17] at hwk
  rw [e14, e17] at hneq
  have hne3 : fb ≠ tb := fun e => hneq (by rw [e])
  have hne1 : bb ≠ fb := fun e => heap_apart hB hFr (by decide) e
  have hne2 : bb ≠ tb := fun e => heap_apart hB hTo (by decide) e
  have hwx : ¬ own3 bb fb tb wb := by
   rintro (e | e | e)
   ·
    exact heap_apart hwk hB (by decide) e
   ·
    exact heap_apart hwk hFr (by decide) e
   ·
    exact heap_apart hwk hTo (by decide) e
  have hlow : ∀ q, q < W2.heap.size → ¬ own3 bb fb tb q := by
   rintro q hq (e | e | e) <;> omega
  have hwkat : wkAt w2 wb w.heap.size sb bb fb tb K t N n := by
   refine ⟨scp, N, n, n, hwk, hg3.get HLB.out, fun i kd hi => ?_, hwx, hlow _ (lt_of_block HLB.out), hlow _ hsb, hne1, hne2, hne3⟩
   obtain ⟨ys', h1, h2⟩ := HGET.out i kd hi
   refine ⟨ys', (spotOf_of (fun b l hb _ => hlow b (lt_of_block hb)) h1).keep (.grow hg3), fun j u hj hu => ?_⟩
   exact (cell_keep (hg3.block sb hsb)).trans (HCELL.out _ _ ((h2 j hj).trans hu))
  have HWK := hide hwkat
  have HB := hide hB
  have HFR := hide hFr
  have HTO := hide hTo
  have HG3 := hide hg3
  have hXs : ∀ q, own3 bb fb tb q → W2.heap.size ≤ q := by
   rintro q (e | e | e) <;> omega
  have HXS := hide hXs
  clear hvals hwkat hB hFr hTo hg3 hwk hneq h11 h14 h17 h19 hwx hlow hXs e11 e14 e17
  simp [over, dstOf, Act.put, e19]
  clear c0 e19
  go_wp2
  go_loopw [11] (fun iv wr => ∃ i : Nat, i ≤ n ∧ iv = .int .i64 i ∧ Hid (KB (own3 bb fb tb) w2 wr) ∧ Hid (boolsAt wr bb (List.replicate N false)) ∧ Hid (marksAt wr fb (minusTo n i)) ∧ Hid (marksAt wr tb (minusTo n i))) (fun iv _ => n + 1 - (intOf iv).toNat)
  case atStart => exact ⟨0, by omega, rfl, hide (.refl _ _), HB, by rw [minusTo_zero]; exact HFR, by rw [minusTo_zero]; exact HTO⟩
  case round =>
   obtain ⟨i, hi, rfl, HK, HBr, HFr, HTr⟩ := hrel
   rename World => wr
   by_cases hlt : i < n
   ·
    have hle : (i : Int) ≤ (g : Int) := by omega
    have hin : (i : Int) < (n : Int) := by omega
    obtain ⟨fcp, a3⟩ := wk_from (HWK.out.keep HK.out)
    obtain ⟨tcp, a4⟩ := wk_to (HWK.out.keep HK.out)
    have hcf := HFr.out.cell (minusTo_at hlt)
    have hct := HTr.out.cell (minusTo_at hlt)
    have hff := not_frozen (k := i) HFr.out
    have hft := not_frozen (k := i) HTr.out
    have hT2 := marks_apart (b := fb) (o := i) HTr.out (.int .i64 (-1)) (fun e => hne3 e.symm)
    have hct2 := hT2.cell (minusTo_at hlt)
    have hft2 := not_frozen (k := i) hT2
    have HT2 := hide hT2
    obtain ⟨Q, HQ⟩ : ∃ Q, Hid (Q = (wr.setCell ⟨fb, i, none⟩ (.int .i64 (-1))).setCell ⟨tb, i, none⟩ (.int .i64 (-1))) := ⟨_, hide rfl⟩
    have HFQ : Hid (marksAt Q fb (minusTo n (i + 1))) := by
     rw [HQ.out, ← minusTo_next hlt]
     exact hide (marks_apart (HFr.out.set _ _) _ hne3)
    have HTQ : Hid (marksAt Q tb (minusTo n (i + 1))) := by
     rw [HQ.out, ← minusTo_next hlt]
     exact hide (HT2.out.set _ _)
    have HBQ : Hid (boolsAt Q bb (List.replicate N false)) := by
     rw [HQ.out]
     exact hide (bools_apart (bools_apart HBr.out _ hne1) _ hne2)
    have HKQ : Hid (KB (own3 bb fb tb) w2 Q) := by
     rw [HQ.out]
     exact hide ((HK.out.trans (.set (.inr (.inl rfl)) _)).trans (.set (.inr (.inr rfl)) _))
    clear hT2
    go_wp2
    go_region
    go_wp2
    rw [← HQ.out]
    refine ⟨⟨i + 1, by omega, by go_num, hide ⟨HKQ.out.os, HKQ.out.tape, HKQ.out.output, HKQ.out.size, HKQ.out.block⟩, HBQ, HFQ, HTQ⟩, ?_⟩
    simp [intOf]; omega
   ·
    obtain rfl : i = n := by omega
    have hle : ¬ (i : Int) ≤ (g : Int) := by omega
    rw [minusTo_all] at HFr HTr
    have HWALK := hide (rwalk_any K t wb w.heap.size sb bb fb tb g (by omega) ht HKOK.out f1 at0 0 x wr (List.replicate N false) (List.replicate i (-1)) (List.replicate i (-1)) (by rw [List.length_replicate, hn]; exact HWK.out.keep HK.out) HBr.out HFr.out HTr.out
     (by rw [List.length_replicate, hN]) (by rw [List.length_replicate, hn]) (by rw [List.length_replicate, hn]) HDEN.out hat (by omega) (fun n' p' hp' h => by rw [List.getElem?_replicate] at h; split at h <;> simp at h))
    go_wp2_with fail
    refine HWALK.out.mono ?_
    rintro e W4 ⟨rfl, hk4, bad4, _, _, _, hs4⟩
    have HG4 : Hid (Grow w W4) := hide (grow_of_kb (grow_of_kb ((grow_of_frame HF2.out).trans HG3.out) HK.out (fun q hq => Nat.le_trans HF2.out.size (HXS.out q hq))) hk4 (fun q hq => Nat.le_trans HF2.out.size (HXS.out q hq)))
    have HWK4 := hide ((HWK.out.keep HK.out).keep hk4)
    have HS4 := hide hs4
    clear hk4 hs4
    cases x with
    | none =>
     simp only [Option.isSome_none]
     go_wp2
     go_ret2
     exact ⟨HG4.out, rfl⟩
    | some l =>
     obtain ⟨hf4, hg4⟩ := HS4.out l rfl
     have HFF := hide hf4
     have HTT := hide hg4
     have HPL : Hid (∀ k, placed t.length (lastOf (-1) (2 * k) l) (lastOf (-1) (2 * k + 1) l)) := hide (HPLA.out l rfl)
     have HGET0 : Hid (∀ k, k < g → (putE 0 (List.replicate i (-1)) l)[k + 1]? = some (lastOf (-1) (2 * k) l)) := hide fun k hk => by
      rw [putE_get 0 (by decide) l _ k (by rw [List.length_replicate]; omega), List.getElem?_replicate, if_pos (by omega)]
      rfl
     have HGET1 : Hid (∀ k, k < g → (putE 1 (List.replicate i (-1)) l)[k + 1]? = some (lastOf (-1) (2 * k + 1) l)) := hide fun k hk => by
      rw [putE_get 1 (by decide) l _ k (by rw [List.length_replicate]; omega), List.getElem?_replicate, if_pos (by omega)]
      rfl
     clear hf4 hg4
     simp only [Option.isSome_some]
     go_wp2
     go_loopw [12, 13] (fun ov iv wr2 => ∃ j : Nat, 1 ≤ j ∧ j ≤ g + 1 ∧ iv = .int .i64 j ∧ Hid (Grow W4 wr2) ∧ ∃ L0, Hid (L0 = (tookL t l g).take (j - 1)) ∧ Hid (ownStrs wr2 W4.heap.size ov L0)) (fun _ iv _ => g + 2 - (intOf iv).toNat)
     case atStart => exact ⟨1, by omega, by omega, rfl, hide (.refl _), [], hide rfl, hide (World.ownsRow_nil _ _ _ _)⟩
     case round =>
      obtain ⟨j, hj1, hj2, rfl, HGr, L0, HL0, HO⟩ := hrel
      rename World => wr2
      obtain ⟨vo, vc, rfl⟩ := own_shape HO.out
      have htl : (tookL t l g).length = g := by simp [tookL]
      have hL9 : L0.length ≤ 9 := by rw [HL0.out, List.length_take, htl]; omega
      by_cases hjg : j ≤ g
      ·
       have hjgi : (j : Int) ≤ (g : Int) := by omega
       obtain ⟨k2, rfl⟩ : ∃ k2, j = k2 + 1 := ⟨j - 1, by omega⟩
       have hF := HGET0.out k2 (by omega)
       have hT := HGET1.out k2 (by omega)
       have hpk := HPL.out k2
       obtain ⟨xa, hxa⟩ : ∃ xa, lastOf (-1) (2 * k2) l = xa := ⟨_, rfl⟩
       obtain ⟨xb, hxb⟩ : ∃ xb, lastOf (-1) (2 * k2 + 1) l = xb := ⟨_, rfl⟩
       have HTK : Hid ((tookL t l g).take (k2 + 1) = (tookL t l g).take k2 ++ [tookB t xa xb]) := by
        show _ = _
        rw [List.take_add_one]
        congr 1
        simp [tookL, show k2 < g by omega, hxa, hxb]
       rw [hxa] at hF hpk
       rw [hxb] at hT hpk
       obtain ⟨fcp, a3⟩ := wk_from (HWK4.out.keep (.grow HGr.out))
       obtain ⟨tcp, a4⟩ := wk_to (HWK4.out.keep (.grow HGr.out))
       have hcf := (show marksAt wr2 fb _ from HGr.out.get HFF.out).cell hF
       have hct := (show marksAt wr2 tb _ from HGr.out.get HTT.out).cell hT
       have hL0 : (tookL t l g).take k2 = L0 := HL0.out.symm
       rw [hL0] at HTK
       clear hL0
       obtain ⟨j1, hjj⟩ : ∃ j1, k2 + 1 = j1 := ⟨_, rfl⟩
       have hji : (k2 : Int) + 1 = (j1 : Int) := by omega
       rw [hjj] at hcf hct hjgi hF hT
       have HF0 := hide hF
       have HT0 := hide hT
       clear htl
       have hjn : (j1 : Int) < (i : Int) := by omega
       have hjn2 : j1 < i := by omega
       clear hxa hxb hF hT
       rcases hpk with rfl | ⟨a, b, rfl, rfl, hab, hbl⟩
       ·
        have hd : decide ((0 : Int) ≤ -1) = false := by decide
        have HT : Hid ((tookL t l g).take j1 = L0 ++ [[]]) := by rw [← hjj, HTK.out]; exact hide (by simp [tookB])
        clear HTK
        go_wp2
        go_quiet (fail)
        obtain ⟨X1, HQ1⟩ : ∃ Xq, Hid (Xq = World.drewN wr2 nq) := ⟨_, hide rfl⟩
        rw [← HQ1.out]
        have gQ : Grow wr2 X1 := by rw [HQ1.out]; exact ⟨rfl, rfl, rfl, Nat.le_refl _, fun _ _ => rfl⟩
        have HGr : Hid (Grow W4 X1) := hide (HGr.out.trans gQ)
        have HO : Hid (ownStrs X1 W4.heap.size (.slice vo L0.length vc) L0) := hide (own_grow HO.out gQ)
        obtain ⟨fcp, a3⟩ := wk_from (HWK4.out.keep (.grow HGr.out))
        obtain ⟨tcp, a4⟩ := wk_to (HWK4.out.keep (.grow HGr.out))
        have hcf := (show marksAt X1 fb _ from HGr.out.get HFF.out).cell HF0.out
        have hct := (show marksAt X1 tb _ from HGr.out.get HTT.out).cell HT0.out
        clear HQ1 gQ
        have hown := HO.out
        have hgs := HGr.out.size
        have hg4s := HG4.out.size
        go_wp2_with (at_builtin; go_loud (refine wpList_append_own _ rfl _ _ 22 rfl W4.heap.size 9 i0 (.string ByteArray.empty) 1 16 Tryz.underlying22 hinf hy0 hy1 hy2 rfl (by omega) (.slice vo L0.length vc) L0.length (strsV L0) rfl (hown.alloc _) ⟨X1.heap.size, 0, none⟩ 1 1 (strsV [[]]) rfl rfl (World.news_of_block (cs := #[.string (bs [])]) (heap_alloc_new X1 _)) (by simp [strsV, Value.oneCell']) (by unfold maxLen; omega) (by omega) (by simp; omega) ?_); intro v' w1 hown' hgrow _)
        have hb4 : Grow W4 (X1.alloc (.cells #[.string (bs [])] 9)) := Grow.alloc HGr.out _
        have hgr : Grow W4 w1 := Below.grown hb4 hgrow (by simp; omega) (fun j hj => (hown.lt j hj).1)
        refine ⟨⟨j1 + 1, by omega, by omega, by go_num, hide hgr, _, hide (by rw [Nat.add_sub_cancel, HT.out]), hide ?_⟩, ?_⟩
        ·
         show World.ownsRow _ _ _ _ _ _ _
         rw [List.length_append, strsV_snoc]
         exact hown'
        ·
         simp [intOf]; omega
       ·
        have hd : decide ((0 : Int) ≤ (a : Int)) = true := by simp
        obtain ⟨sv, HSV⟩ : ∃ sv, Hid ((t.drop a).take (b - a) = sv) := ⟨_, hide rfl⟩
        have HT : Hid ((tookL t l g).take j1 = L0 ++ [sv]) := by rw [← hjj, HTK.out, ← HSV.out]; exact hide (by simp [tookB])
        have habi : (a : Int) ≤ (b : Int) := by omega
        have hbli : (b : Int) ≤ (t.length : Int) := by omega
        clear HTK
        go_wp2
        go_quiet (fail)
        obtain ⟨X1, HQ1⟩ : ∃ Xq, Hid (Xq = World.drewN wr2 nq) := ⟨_, hide rfl⟩
        rw [← HQ1.out]
        have gQ : Grow wr2 X1 := by rw [HQ1.out]; exact ⟨rfl, rfl, rfl, Nat.le_refl _, fun _ _ => rfl⟩
        have HGr : Hid (Grow W4 X1) := hide (HGr.out.trans gQ)
        have HO : Hid (ownStrs X1 W4.heap.size (.slice vo L0.length vc) L0) := hide (own_grow HO.out gQ)
        obtain ⟨fcp, a3⟩ := wk_from (HWK4.out.keep (.grow HGr.out))
        obtain ⟨tcp, a4⟩ := wk_to (HWK4.out.keep (.grow HGr.out))
        have hcf := (show marksAt X1 fb _ from HGr.out.get HFF.out).cell HF0.out
        have hct := (show marksAt X1 tb _ from HGr.out.get HTT.out).cell HT0.out
        clear HQ1 gQ
        go_wp2
        go_quiet (fail)
        obtain ⟨X2, HQ1⟩ : ∃ Xq, Hid (Xq = World.drewN X1 nq) := ⟨_, hide rfl⟩
        rw [← HQ1.out]
        have gQ : Grow X1 X2 := by rw [HQ1.out]; exact ⟨rfl, rfl, rfl, Nat.le_refl _, fun _ _ => rfl⟩
        have HGr : Hid (Grow W4 X2) := hide (HGr.out.trans gQ)
        have HO : Hid (ownStrs X2 W4.heap.size (.slice vo L0.length vc) L0) := hide (own_grow HO.out gQ)
        obtain ⟨fcp, a3⟩ := wk_from (HWK4.out.keep (.grow HGr.out))
        obtain ⟨tcp, a4⟩ := wk_to (HWK4.out.keep (.grow HGr.out))
        have hcf := (show marksAt X2 fb _ from HGr.out.get HFF.out).cell HF0.out
        have hct := (show marksAt X2 tb _ from HGr.out.get HTT.out).cell HT0.out
        clear HQ1 gQ
        have hown := HO.out
        have hgs := HGr.out.size
        have hg4s := HG4.out.size
        go_wp2_with (at_builtin; go_loud (rw [HSV.out]); go_loud (refine wpList_append_own _ rfl _ _ 22 rfl W4.heap.size 9 i0 (.string ByteArray.empty) 1 16 Tryz.underlying22 hinf hy0 hy1 hy2 rfl (by omega) (.slice vo L0.length vc) L0.length (strsV L0) rfl (hown.alloc _) ⟨X2.heap.size, 0, none⟩ 1 1 (strsV [sv]) rfl rfl (World.news_of_block (cs := #[.string (bs sv)]) (heap_alloc_new X2 _)) (by simp [strsV, Value.oneCell']) (by unfold maxLen; omega) (by omega) (by simp; omega) ?_); intro v' w1 hown' hgrow _)
        have hb4 : Grow W4 (X2.alloc (.cells #[.string (bs sv)] 9)) := Grow.alloc HGr.out _
        have hgr : Grow W4 w1 := Below.grown hb4 hgrow (by simp; omega) (fun j hj => (hown.lt j hj).1)
        refine ⟨⟨j1 + 1, by omega, by omega, by go_num, hide hgr, _, hide (by rw [Nat.add_sub_cancel, HT.out]), hide ?_⟩, ?_⟩
        ·
         show World.ownsRow _ _ _ _ _ _ _
         rw [List.length_append, strsV_snoc]
         exact hown'
        ·
         simp [intOf]; omega
      ·
       obtain rfl : j = g + 1 := by omega
       have hjgi : ¬ ((g + 1 : Nat) : Int) ≤ (g : Int) := by omega
       have HFIN : Hid ((tookL t l g).take (g + 1 - 1) = tookL t l g) := hide (List.take_of_length_le (by rw [htl]; omega))
       have hL0 : L0 = tookL t l g := HL0.out.trans HFIN.out
       have HLL := hide hL0
       clear hL0 htl
       go_wp2
       go_ret2
       exact ⟨HG4.out.trans HGr.out, _, rfl, by rw [← HLL.out]; exact own_le HO.out HG4.out.size⟩
end Go.Proofs.YtndpjdmfkhjiiaaGreatDoor
