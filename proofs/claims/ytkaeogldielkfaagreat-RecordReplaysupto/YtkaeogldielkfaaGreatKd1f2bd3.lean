/- 10 texts in one. -/
import Derived.Laws.OwnMore
import Derived.Test.YtkaeogldielkfaaGreatProg
import Derived.Test.YtkaeogldielkfaaGreatKabe2b5f
import Derived.Test.YtkaeogldielkfaaGreatKa96aaab
import Derived.Test.YtkaeogldielkfaaGreatK7731767
import Derived.Test.YtkaeogldielkfaaGreatKa7e3600
import Derived.BigQuiet
import Derived.Test.YtkaeogldielkfaaGreatK382d20d
set_option linter.unusedVariables false
set_option linter.unusedSimpArgs false
namespace Go.Proofs.YtkaeogldielkfaaGreat.Rc
open Go.RowKit
attribute [local go_sem] bs_size bs_toList bs_append bs_get bs_extract
theorem mixedR : Tryz.prog.follows .mixedOrders = true := by kernel_rfl
/-- Below block B nothing has turned, but for block b. -/
structure KeptX (B b : Nat) (w w' : World) : Prop where
  os : w'.os = w.os
  tape : w'.tape = w.tape
  output : w'.output = w.output
  size : w.heap.size ≤ w'.heap.size
  block : ∀ k, k < B → k ≠ b → w'.heap[k]? = w.heap[k]?
  typed : ∀ k c t fr, k ≠ b → w.heap[k]? = some (.cells c t fr) → 5 ≠ t → w'.heap[k]? = some (.cells c t fr)
theorem KeptX.refl (B b : Nat) (w : World) : KeptX B b w w := ⟨rfl, rfl, rfl, Nat.le_refl _, fun _ _ _ => rfl, fun _ _ _ _ _ h _ => h⟩
theorem KeptX.trans {B b : Nat} {a c d : World} (h : KeptX B b a c) (k : KeptX B b c d) : KeptX B b a d :=
  ⟨k.os.trans h.os, k.tape.trans h.tape, k.output.trans h.output, Nat.le_trans h.size k.size, fun i hi hn => (k.block i hi hn).trans (h.block i hi hn), fun i x t fr hn hx ht => k.typed i x t fr hn (h.typed i x t fr hn hx ht) ht⟩
theorem keptX_grow {B b : Nat} {w w' : World} (h : Grow w w') (hB : B ≤ w.heap.size) : KeptX B b w w' := ⟨h.os, h.tape, h.output, h.size, fun k hk _ => h.block k (Nat.lt_of_lt_of_le hk hB), fun k c t fr _ hx _ => h.get hx⟩
theorem keptX_app {B b size n : Nat} {w w' : World} {v : Value} {xs : List Value} (h : Below B w w') (ho : w.ownsRow B 5 size v n xs) (hg : w.grownBy w' v.ownBlock) : KeptX B b w w' :=
  ⟨h.os, h.tape, h.output, h.size, fun k hk _ => h.block k hk, fun k c t fr _ hx ht => grown_block hg hx (own_apart ho hx ht)⟩
theorem KeptX.below {B b A : Nat} {w w' : World} (h : KeptX B b w w') (h1 : A ≤ B) (h2 : A ≤ b) : Below A w w' := ⟨h.os, h.tape, h.output, h.size, fun k hk => h.block k (by omega) (by omega)⟩
theorem KeptX.setCell {B b : Nat} {w w' : World} (h : KeptX B b w w') (v : Value) : KeptX B b w (w'.setCell ⟨b, 0, none⟩ v) :=
  ⟨h.os, h.tape, h.output, by simpa [World.setCell] using h.size, fun k hk hn => (Below.heap_setCell _ _ _ _ hn).trans (h.block k hk hn), fun k c t fr hn hx ht => (Below.heap_setCell _ _ _ _ hn).trans (h.typed k c t fr hn hx ht)⟩
theorem KeptX.get {B b : Nat} {w w' : World} (h : KeptX B b w w') {k : Nat} {o : Obj} (hk : w.heap[k]? = some o) (h1 : k < B) (h2 : k ≠ b) : w'.heap[k]? = some o := (h.block k h1 h2).trans hk
theorem KeptX.drewN {B b : Nat} (w : World) (n : Nat) : KeptX B b w (w.drewN n) := ⟨rfl, rfl, rfl, Nat.le_refl _, fun _ _ _ => rfl, fun _ _ _ _ _ h _ => h⟩
/-- Block b is a writer that holds the bytes l; its row is among the blocks from B on. -/
def holdsW (w : World) (B b : Nat) (l : List UInt8) : Prop :=
  B ≤ w.heap.size ∧ ∃ v, w.heap[b]? = some (.cells #[v] 79 (0, 0)) ∧ w.ownsRow B 5 1 v l.length (bytesV l)
/-- What a writer's method does: it writes some bytes. -/
def wrote (B b : Nat) (l out : List UInt8) (w : World) (e : Ending) (w' : World) : Prop := KeptX B b w w' ∧ e = .returned (.tuple #[]) ∧ holdsW w' B b (l ++ out)
theorem holdsW_below {w w' : World} {B b : Nat} {l : List UInt8} (h : holdsW w B b l) {B' : Nat} (hb : Below B' w w') (hB : w.heap.size ≤ B') : holdsW w' B b l := by
  obtain ⟨h0, v, h1, h2⟩ := h
  refine ⟨by have := hb.size; omega, v, below_block hb h1 (by have := lt_of_block h1; omega), ?_⟩
  obtain ⟨h3, h4⟩ := h2
  refine ⟨h3, ?_⟩
  rcases h4 with h4 | ⟨g, cap, cur, r1, r2, r3, r4⟩
  · exact .inl h4
  · exact .inr ⟨g, cap, cur, r1, r2, below_block hb r3 (by have := lt_of_block r3; omega), r4⟩
/-- What holds while a number is written: ahead of the append and behind it. -/
def numJ (w : World) (B b : Nat) (l out : List UInt8) (v : Value) (b8 : Bool) (x : Value) (w' : World) : Prop :=
  KeptX B b w w' ∧ B ≤ w'.heap.size ∧ w'.heap[b]? = some (.cells #[v] 79 (0, 0)) ∧
    (b8 = false → w'.ownsRow B 5 1 v l.length (bytesV l)) ∧ (b8 = true → w'.ownsRow B 5 1 x (l.length + out.length) (bytesV (l ++ out)))
theorem one_cell {w : World} {b : Nat} {v : Value} {t : TypeId} (h : w.heap[b]? = some (.cells #[v] t (0, 0))) : w.cell? ⟨b, 0, none⟩ = some v ∧ w.frozen? ⟨b, 0, none⟩ = false := ⟨cell_of_one h, free_of_one h⟩
set_option maxRecDepth 20000 in
set_option maxHeartbeats 4000000 in
theorem number_w (w : World) (B b n : Nat) (l : List UInt8) (hh : holdsW w B b l) (hl : l.length ≤ 2000000) (hn : n < 9223372036854775808) :
    Calls Tryz.prog 105 #[.pointer (some ⟨b, 0, none⟩), .int .i64 n] w (wrote B b l (numB n) w) := by
  obtain ⟨hB, v, hb, ho⟩ := hh
  obtain ⟨ao, cp, rfl⟩ := own_shape ho
  obtain ⟨i0, hinf, hz0, hz1, hz2⟩ := info_parts Tryz.info5
  have HB := hide hb
  have HO := hide ho
  have hnl := numB_length n
  clear hb ho
  go_enter Tryz.func105, Tryz.ntmps105
  go_wp2
  refine wp_region_state 11 15 mixedR rfl (by decide +kernel) (fun L vals w' => numJ w B b l (numB n) (.slice ao l.length cp) (L 8) (vals 8) w')
    (fun L vals h => ?_)
    (fun i v => match i with
      | 0 => v = .pointer (some ⟨b, 0, none⟩)
      | 1 => v = .pointer (some ⟨b, 0, none⟩)
      | 2 => v = .pointer (some ⟨b, 0, none⟩)
      | 3 => v = .pointer (some ⟨b, 0, none⟩)
      | 4 => v = .slice ao l.length cp
      | 5 => v = .int .i64 n
      | 6 => v = .int .u64 n
      | 7 => v = .string (bs (numB n))
      | 8 => ∃ ao' cp', v = .slice ao' (l.length + (numB n).length) cp'
      | 9 => v = .pointer (some ⟨b, 0, none⟩)
      | _ => v = .pointer (some ⟨b, 0, none⟩))
    (fun _ _ => False) (fun _ _ _ _ h => h.elim) (fun i hi o ho a w2 L vals hLi hLc hLe hJ hoff hval hdep => ?_) (fun vals w2 L hL hJ hvals => ?_)
  · simp only [h]
    exact ⟨⟨rfl, rfl, rfl, Nat.le_refl _, fun _ _ _ => rfl, fun _ _ _ _ _ h _ => h⟩, hB, HB.out, fun _ => HO.out, fun h => by cases h⟩
  · obtain ⟨hk, hB2, hblk, hown, hown2⟩ := id hJ
    obtain ⟨c0, z0⟩ := one_cell hblk
    match i, hi with
    | 0, _ =>
      obtain rfl := Option.some.inj ho
      have o0 := hoff 0 (by decide +kernel)
      simp at o0
      simp [opYields, go_sem, o0]
      exact hJ
    | 1, _ =>
      obtain rfl := Option.some.inj ho
      have o0 := hoff 0 (by decide +kernel)
      simp at o0
      simp [opYields, go_sem, o0]
      exact hJ
    | 2, _ =>
      obtain rfl := Option.some.inj ho
      have d1 := hdep 1 (by decide +kernel)
      simp [slotOf, dstOf] at d1
      simp [opYields, go_sem, d1]
      exact hJ
    | 3, _ =>
      obtain rfl := Option.some.inj ho
      have d2 := hdep 2 (by decide +kernel)
      simp [slotOf, dstOf] at d2
      simp [opYields, go_sem, d2]
      exact hJ
    | 4, _ =>
      obtain rfl := Option.some.inj ho
      have d3 := hdep 3 (by decide +kernel)
      simp [slotOf, dstOf] at d3
      simp [opYields, go_sem, d3, c0]
      exact hJ
    | 5, _ =>
      obtain rfl := Option.some.inj ho
      have o1 := hoff 1 (by decide +kernel)
      simp at o1
      simp [opYields, go_sem, o1]
      exact hJ
    | 6, _ =>
      obtain rfl := Option.some.inj ho
      have d5 := hdep 5 (by decide +kernel)
      simp [slotOf, dstOf] at d5
      simp [opYields, go_sem, d5]
      exact ⟨hJ, by rw [IntKind.wrap_u64]; omega⟩
    | 7, _ =>
      obtain rfl := Option.some.inj ho
      have d6 := hdep 6 (by decide +kernel)
      simp [slotOf, dstOf] at d6
      simp [opYields, go_sem, d6]
      refine (number_any n w2 (by omega)).mono ?_
      rintro e w3 ⟨rfl, hb3⟩
      refine ⟨⟨hk.trans (keptX_grow hb3 hB2), by have := hb3.size; omega, below_block hb3 hblk (lt_of_block hblk), fun h => Lb.own_grow (hown (by simpa using h)) hb3, fun h => Lb.own_grow (hown2 (by simpa using h)) hb3⟩, rfl⟩
    | 8, _ =>
      have hown := hown hLi
      obtain rfl := Option.some.inj ho
      have d4 := hdep 4 (by decide +kernel)
      have d7 := hdep 7 (by decide +kernel)
      simp [slotOf, dstOf] at d4 d7
      obtain ⟨v', w3, hrun, hown3, hgrow, _⟩ := Lib.run_append_own_string (P := Tryz.prog) w2 B 77 9 77 5 i0 Tryz.underlying77 Tryz.underlying9 hinf hz0 hz1 hz2 _ l.length (bytesV l) hown (bs (numB n)) (by rw [bs_size]; unfold maxLen; omega) (by rw [bs_size]; omega) (by omega)
      rw [bs_size, strCells_bs, ← bytesV_append] at hown3
      refine yields_append rfl (.tmp 8) (.tmp 11) _ _ rfl (v1 := .slice ao l.length cp) (v2 := .string (bs (numB n))) (by simpa [Act.eval] using d4) (by simpa [Act.eval] using d7) hrun ?_
      obtain ⟨ao', cp', rfl⟩ := own_shape hown3
      have hbel : Below B w2 w3 := (Below.refl B w2).grown hgrow hB2 (fun k hk => (hown.lt k hk).1)
      exact ⟨⟨hk.trans (keptX_app hbel hown hgrow), by have := hbel.size; omega, grown_block hgrow hblk (own_apart hown hblk (by decide)), fun h => by simp at h, fun _ => hown3⟩, ao', cp', rfl⟩
    | 9, _ =>
      obtain rfl := Option.some.inj ho
      have d0 := hdep 0 (by decide +kernel)
      simp [slotOf, dstOf] at d0
      simp [opYields, go_sem, d0]
      exact hJ
    | 10, _ =>
      obtain rfl := Option.some.inj ho
      have d9 := hdep 9 (by decide +kernel)
      simp [slotOf, dstOf] at d9
      simp [opYields, go_sem, d9]
      exact hJ
    | k + 11, h => exact absurd h (by omega)
  · have h8 := hL 8 (by omega)
    obtain ⟨hk, hB2, hblk, _, hown2⟩ := hJ
    have hown2 := hown2 h8
    obtain ⟨ao', cp', v8⟩ := hvals 8 (by omega)
    have v10 := hvals 10 (by omega)
    simp only at v10
    rw [v8] at hown2
    clear hvals
    obtain ⟨c0, z0⟩ := one_cell hblk
    simp [over, dstOf, Act.put, v8, v10]
    go_wp2
    go_end0
    refine ⟨hk.setCell _, rfl, by simpa [World.setCell] using hB2, _, one_setCell hblk, ?_⟩
    have := ownsRow_setCell_other (a := ⟨b, 0, none⟩) hown2 (own_apart hown2 hblk (by decide)) (.slice ao' (l.length + (numB n).length) cp')
    rw [List.length_append]
    exact this
theorem wrote_then {B b : Nat} {l o1 o2 : List UInt8} {w w1 w2 : World} {e : Ending} (h1 : KeptX B b w w1) (h2 : wrote B b (l ++ o1) o2 w1 e w2) : wrote B b l (o1 ++ o2) w e w2 :=
  ⟨h1.trans h2.1, h2.2.1, by rw [← List.append_assoc]; exact h2.2.2⟩
/-- A text, and ahead of it how many bytes it has. -/
def textB (s : List UInt8) : List UInt8 := numB s.length ++ s
set_option maxRecDepth 20000 in
set_option maxHeartbeats 2000000 in
theorem bytes_w (w : World) (B b : Nat) (l s : List UInt8) (hh : holdsW w B b l) (hl : l.length ≤ 1900000) (hs : s.length ≤ 1000) :
    Calls Tryz.prog 106 #[.pointer (some ⟨b, 0, none⟩), .string (bs s)] w (wrote B b l (textB s) w) := by
  obtain ⟨i0, hi, hz0, hz1, hz2⟩ := info_parts Tryz.info5
  have hnl := numB_length s.length
  have HN := hide (number_w w B b s.length l hh (by omega) (by omega))
  clear hh
  go_enter Tryz.func106, Tryz.ntmps106
  go_wp2_with fail
  refine HN.out.mono ?_
  rintro e w1 ⟨hk1, rfl, hB1, v, hb, hown⟩
  obtain ⟨l1, HL1⟩ : ∃ l1, Hid (l ++ numB s.length = l1) := ⟨_, hide rfl⟩
  have hll : (l ++ numB s.length).length ≤ 1900010 := by rw [List.length_append]; omega
  rw [HL1.out] at hown hll
  have hc := cell_of_one hb
  have hf := free_of_one hb
  have hne := own_apart hown hb (by decide)
  obtain ⟨ao, cp, rfl⟩ := own_shape hown
  go_wp2_with (at_builtin; refine Lib.wpList_append_own_string _ rfl _ _ 77 9 rfl B 5 i0 Tryz.underlying77 Tryz.underlying9 hi hz0 hz1 hz2 _ l1.length (bytesV l1) rfl hown (bs s) rfl (by rw [bs_size]; unfold maxLen; omega) (by rw [bs_size]; omega) (by omega) ?_; intro v' w2 hown' hgrow _; obtain ⟨ao', cp', rfl⟩ := own_shape hown'; have hb2 := grown_block hgrow hb hne; have hc2 := cell_of_one hb2; have hf2 := free_of_one hb2; clear hc hf)
  go_end0
  have hbel : Below B w1 w2 := (Below.refl B w1).grown hgrow hB1 (fun k hk => (hown.lt k hk).1)
  rw [bs_size, strCells_bs, ← bytesV_append] at hown'
  refine wrote_then hk1 (by rw [HL1.out]; exact ⟨(keptX_app hbel hown hgrow).setCell _, rfl, by have := hbel.size; simp [World.setCell]; omega, _, one_setCell hb2, by rw [List.length_append]; exact ownsRow_setCell_other hown' (own_apart hown' hb2 (by decide)) _⟩)
/-- A time's number. -/
def timeN (n : Int) : Nat := if n < 0 then (-2 * n - 1).toNat else (2 * n).toNat
set_option maxHeartbeats 1000000 in
theorem time_w (w : World) (B b : Nat) (n : Int) (l : List UInt8) (hh : holdsW w B b l) (hl : l.length ≤ 1900000) (h0 : timeErr n = 0) :
    Calls Tryz.prog 107 #[.pointer (some ⟨b, 0, none⟩), .int .i64 n] w (wrote B b l (numB (timeN n)) w) := by
  have hb : -9007199254740991 ≤ n ∧ n ≤ 9007199254740991 := by
    unfold timeErr at h0
    by_cases h : -9007199254740991 ≤ n ∧ n ≤ 9007199254740991
    · exact h
    · rw [if_neg h] at h0; cases h0
  obtain ⟨hb1, hb2⟩ := hb
  unfold timeN
  by_cases hn : n < 0
  · rw [if_pos hn]
    obtain ⟨m, hm⟩ : ∃ m, (-2 * n - 1).toNat = m := ⟨_, rfl⟩
    have hmi : -2 * n - 1 = (m : Int) := by omega
    rw [hm]
    have HN := hide (number_w w B b m l hh (by omega) (by omega))
    have HMI := hide hmi
    clear hh hm hmi h0
    go_enter Tryz.func107, Tryz.ntmps107
    go_wp2_with fail
    rw [HMI.out]
    refine HN.out.mono ?_
    rintro e w1 ⟨hk1, rfl, hh1⟩
    go_wp2
    go_end0
    exact ⟨hk1, rfl, hh1⟩
  · rw [if_neg hn]
    obtain ⟨m, hm⟩ : ∃ m, (2 * n).toNat = m := ⟨_, rfl⟩
    have hmi : 2 * n = (m : Int) := by omega
    rw [hm]
    have HN := hide (number_w w B b m l hh (by omega) (by omega))
    have HMI := hide hmi
    clear hh hm hmi h0
    go_enter Tryz.func107, Tryz.ntmps107
    go_wp2_with fail
    rw [HMI.out]
    refine HN.out.mono ?_
    rintro e w1 ⟨hk1, rfl, hh1⟩
    go_wp2
    go_end0
    exact ⟨hk1, rfl, hh1⟩
/-- A byte that was laid for an append. -/
def newByte (w : World) (x : Value) (c : UInt8) : Prop := ∃ nb, x = .slice (some ⟨nb, 0, none⟩) 1 1 ∧ w.heap[nb]? = some (.cells #[.int .u8 (c.toNat : Int)] 5 (0, 0))
/-- What holds while a byte is written: ahead of its being laid, ahead of the append, and behind it. -/
def byteJ (w : World) (B b : Nat) (l : List UInt8) (c : UInt8) (v : Value) (bn : Bool) (xn : Value) (ba : Bool) (xa : Value) (w' : World) : Prop :=
  KeptX B b w w' ∧ B ≤ w'.heap.size ∧ w'.heap[b]? = some (.cells #[v] 79 (0, 0)) ∧
    (ba = false → w'.ownsRow B 5 1 v l.length (bytesV l)) ∧ (bn = true → ba = false → newByte w' xn c) ∧ (ba = true → w'.ownsRow B 5 1 xa (l.length + 1) (bytesV (l ++ [c])))
theorem byteJ.lay {w : World} {B b : Nat} {l : List UInt8} {c : UInt8} {v xn xa : Value} {w' : World} {ci : Int} (h : byteJ w B b l c v false xn false xa w') (hc : ci = (c.toNat : Int)) (ya : Value) :
    byteJ w B b l c v true (.slice (some ⟨w'.heap.size, 0, none⟩) 1 1) false ya (w'.alloc (.cells #[.int .u8 ci] 5)) := by
  subst hc
  obtain ⟨hk, hB, hb, ho, _, _⟩ := h
  have hg : Grow w' (w'.alloc (.cells #[.int .u8 (c.toNat : Int)] 5)) := (Grow.refl _).alloc _
  exact ⟨hk.trans (keptX_grow hg hB), by have := hg.size; omega, hg.get hb, fun _ => Lb.own_grow (ho rfl) hg, fun _ _ => ⟨_, rfl, heap_alloc_new _ _⟩, fun h => by cases h⟩
set_option maxRecDepth 20000 in
theorem byteJ.append {w : World} {B b : Nat} {l : List UInt8} {c : UInt8} {ao : Option Addr} {cp : Nat} {xn xa : Value} {w' : World} (h : byteJ w B b l c (.slice ao l.length cp) true xn false xa w') (hl : l.length ≤ 2000000) (ty : TypeId) :
    ∃ ao' cp' w3, (Builtin.append_ #[77, 77] ty #[.slice ao l.length cp, xn]).run Tryz.prog w' = .ok (.slice ao' (l.length + 1) cp') w3 ∧ ∀ yn, byteJ w B b l c (.slice ao l.length cp) true yn true (.slice ao' (l.length + 1) cp') w3 := by
  obtain ⟨i0, hi0, hz0, hz1, hz2⟩ := info_parts Tryz.info5
  obtain ⟨hk, hB, hb, ho, hn, _⟩ := h
  have ho := ho rfl
  obtain ⟨nb, rfl, hnb⟩ := hn rfl rfl
  obtain ⟨v', w3, hrun, hown3, hgrow, _⟩ := run_append_own (P := Tryz.prog) w' B 77 ty 5 i0 (.int .u8 0) 1 1 Tryz.underlying77 hi0 hz0 hz1 hz2 rfl (by omega) _ l.length (bytesV l) ho ⟨nb, 0, none⟩ 1 1 [.int .u8 (c.toNat : Int)] rfl (fun j u hu => by
    match j, hu with
    | 0, hu => simp at hu; subst hu; simpa [Addr.add] using cell_of_one hnb) (by simp [Value.oneCell']) (by unfold maxLen; omega) (by omega) hB
  obtain ⟨ao', cp', rfl⟩ := own_shape hown3
  have hbel : Below B w' w3 := (Below.refl B w').grown hgrow hB (fun k hk => (ho.lt k hk).1)
  refine ⟨ao', cp', w3, hrun, fun yn => ⟨hk.trans (keptX_app hbel ho hgrow), by have := hbel.size; omega, grown_block hgrow hb (own_apart ho hb (by decide)), (fun h => by cases h), (fun _ h => by cases h), fun _ => ?_⟩⟩
  rw [bytesV_append, bytesV_one]
  exact hown3
theorem byteJ.put {w : World} {B b : Nat} {l : List UInt8} {c : UInt8} {v xn xa : Value} {w' : World} (h : byteJ w B b l c v true xn true xa w') : wrote B b l [c] w (.returned (.tuple #[])) (w'.setCell ⟨b, 0, none⟩ xa) := by
  obtain ⟨hk, hB, hb, _, _, ho⟩ := h
  have ho := ho rfl
  refine ⟨hk.setCell _, rfl, by simpa [World.setCell] using hB, _, one_setCell hb, ?_⟩
  rw [List.length_append]
  exact ownsRow_setCell_other (a := ⟨b, 0, none⟩) ho (own_apart ho hb (by decide)) _
/-- A word's byte. -/
def byteAt (n j : Nat) : UInt8 := UInt8.ofNat (n / 256 ^ j % 256)
theorem byteAt_toNat (n j : Nat) : (byteAt n j).toNat = n / 256 ^ j % 256 := by
  unfold byteAt
  rw [UInt8.toNat_ofNat']
  omega
def wordR (n k : Nat) : List UInt8 := (List.range k).map (byteAt n)
theorem wordR_succ (n k : Nat) : wordR n (k + 1) = wordR n k ++ [byteAt n k] := by simp [wordR, List.range_succ]
theorem wordR_length (n k : Nat) : (wordR n k).length = k := by simp [wordR]
set_option maxRecDepth 20000 in
set_option maxHeartbeats 4000000 in
theorem eight_w (w : World) (B b n : Nat) (l : List UInt8) (hh : holdsW w B b l) (hl : l.length ≤ 1900000) (hn : n < 18446744073709551616) :
    Calls Tryz.prog 108 #[.pointer (some ⟨b, 0, none⟩), .int .u64 n] w (wrote B b l (wordR n 8) w) := by
  have HH := hide hh
  have HN := hide hn
  clear hh hn
  go_enter Tryz.func108, Tryz.ntmps108
  go_wp2
  go_loopw [5] (fun iv wr => ∃ j : Nat, j ≤ 8 ∧ iv = .int .i64 j ∧ Hid (KeptX B b w wr) ∧ Hid (holdsW wr B b (l ++ wordR n j))) (fun iv _ => 8 - (intOf iv).toNat)
  case atStart => exact ⟨0, by omega, rfl, hide (KeptX.refl _ _ _), hide (by simpa [wordR] using HH.out)⟩
  case round =>
    obtain ⟨j, hj, rfl, HK, HO⟩ := hrel
    by_cases hlt : j < 8
    · have hlti : (j : Int) < 8 := by omega
      have HNX := hide (wordR_succ n j)
      obtain ⟨l1, HL1⟩ : ∃ l1, Hid (l ++ wordR n j = l1) := ⟨_, hide rfl⟩
      have hl1 : l1.length ≤ 1900008 := by rw [← HL1.out, List.length_append, wordR_length]; omega
      rw [HL1.out] at HO
      obtain ⟨hB, v, hb, ho⟩ := HO.out
      obtain ⟨ao, cp, rfl⟩ := own_shape ho
      have HB := hide hb
      have HOW := hide ho
      obtain ⟨c, HC⟩ : ∃ c, Hid (byteAt n j = c) := ⟨_, hide rfl⟩
      have hcv : ((n : Int) / 256 ^ j % 256) = (c.toNat : Int) := by rw [← HC.out, byteAt_toNat]; push_cast; rfl
      have HCV := hide hcv
      clear hb ho hcv
      go_wp2
      refine wp_region_state 14 23 mixedR rfl (by decide +kernel) (fun L vals w' => byteJ wr B b l1 c (.slice ao l1.length cp) (L 10) (vals 10) (L 11) (vals 11) w')
        (fun L vals h => ?_)
        (fun i v => match i with
          | 0 => v = .pointer (some ⟨b, 0, none⟩)
          | 1 => v = .pointer (some ⟨b, 0, none⟩)
          | 2 => v = .pointer (some ⟨b, 0, none⟩)
          | 3 => v = .pointer (some ⟨b, 0, none⟩)
          | 4 => v = .slice ao l1.length cp
          | 5 => v = .int .u64 n
          | 6 => v = .int .i64 j
          | 7 => v = .int .i64 (8 * j : Nat)
          | 8 => v = .int .u64 (n / 256 ^ j : Nat)
          | 9 => v = .int .u8 (c.toNat : Int)
          | 10 => True
          | 11 => ∃ ao' cp', v = .slice ao' (l1.length + 1) cp'
          | 12 => v = .pointer (some ⟨b, 0, none⟩)
          | _ => v = .pointer (some ⟨b, 0, none⟩))
        (fun _ _ => False) (fun _ _ _ _ h => h.elim) (fun i hi o ho a w2 L vals hLi hLc hLe hJ hoff hval hdep => ?_) (fun vals w2 L hL hJ hvals => ?_)
      · simp only [h]
        exact ⟨⟨rfl, rfl, rfl, Nat.le_refl _, fun _ _ _ => rfl, fun _ _ _ _ _ h _ => h⟩, hB, HB.out, fun _ => HOW.out, (fun h => by cases h), (fun h => by cases h)⟩
      · obtain ⟨hk, hB2, hblk, hown, hown1, hown2⟩ := id hJ
        obtain ⟨c0, z0⟩ := one_cell hblk
        match i, hi with
        | 0, _ =>
          obtain rfl := Option.some.inj ho
          have o0 := hoff 0 (by decide +kernel)
          simp at o0
          simp [opYields, go_sem, o0]
          exact hJ
        | 1, _ =>
          obtain rfl := Option.some.inj ho
          have o0 := hoff 0 (by decide +kernel)
          simp at o0
          simp [opYields, go_sem, o0]
          exact hJ
        | 2, _ =>
          obtain rfl := Option.some.inj ho
          have d1 := hdep 1 (by decide +kernel)
          simp [slotOf, dstOf] at d1
          simp [opYields, go_sem, d1]
          exact hJ
        | 3, _ =>
          obtain rfl := Option.some.inj ho
          have d2 := hdep 2 (by decide +kernel)
          simp [slotOf, dstOf] at d2
          simp [opYields, go_sem, d2]
          exact hJ
        | 4, _ =>
          obtain rfl := Option.some.inj ho
          have d3 := hdep 3 (by decide +kernel)
          simp [slotOf, dstOf] at d3
          simp [opYields, go_sem, d3, c0]
          exact hJ
        | 5, _ =>
          obtain rfl := Option.some.inj ho
          have o1 := hoff 1 (by decide +kernel)
          simp at o1
          simp [opYields, go_sem, o1]
          exact hJ
        | 6, _ =>
          obtain rfl := Option.some.inj ho
          have o4 := hoff 4 (by decide +kernel)
          simp at o4
          simp [opYields, go_sem, o4]
          exact hJ
        | 7, _ =>
          obtain rfl := Option.some.inj ho
          have d6 := hdep 6 (by decide +kernel)
          simp [slotOf, dstOf] at d6
          simp [opYields, go_sem, d6]
          exact ⟨hJ, by rw [IntKind.wrap_i64]; omega⟩
        | 8, _ =>
          obtain rfl := Option.some.inj ho
          have d5 := hdep 5 (by decide +kernel)
          have d7 := hdep 7 (by decide +kernel)
          simp [slotOf, dstOf] at d5 d7
          simp [opYields, go_sem, d5, d7]
          have e8 : (2 : Int) ^ 8 = 256 := by decide
          exact ⟨hJ, by rw [show (8 * (j : Int)).toNat = 8 * j by omega, Int.pow_mul, e8]⟩
        | 9, _ =>
          obtain rfl := Option.some.inj ho
          have d8 := hdep 8 (by decide +kernel)
          simp [slotOf, dstOf] at d8
          simp [opYields, go_sem, d8]
          exact ⟨hJ, by rw [← HCV.out]; unfold IntKind.wrap; simp [IntKind.bits, IntKind.signed]⟩
        | 10, _ =>
          have h11 : L 11 = false := by
            cases h : L 11 with
            | false => rfl
            | true => have := hLc 11 h 10 (by decide +kernel); rw [hLi] at this; cases this
          obtain rfl := Option.some.inj ho
          have d9 := hdep 9 (by decide +kernel)
          simp [slotOf, dstOf] at d9
          rw [hLi, h11] at hJ
          simp [opYields, go_sem, d9, h11]
          exact hJ.lay rfl _
        | 11, _ =>
          have h10 := hLe 10 (by decide +kernel)
          obtain rfl := Option.some.inj ho
          have d4 := hdep 4 (by decide +kernel)
          have d10 := hval 10 (by decide +kernel)
          simp [slotOf, dstOf] at d4 d10
          rw [hLi, h10] at hJ
          obtain ⟨ao', cp', w3, hrun, hJ3⟩ := byteJ.append hJ (by omega) 77
          refine yields_append rfl (.tmp 12) (.tmp 18) _ _ rfl (v1 := .slice ao l1.length cp) (v2 := vals 10) (by simpa [Act.eval] using d4) (by simpa [Act.eval] using d10) hrun ?_
          simp only [h10]
          exact ⟨hJ3 _, ao', cp', rfl⟩
        | 12, _ =>
          obtain rfl := Option.some.inj ho
          have d0 := hdep 0 (by decide +kernel)
          simp [slotOf, dstOf] at d0
          simp [opYields, go_sem, d0]
          exact hJ
        | 13, _ =>
          obtain rfl := Option.some.inj ho
          have d12 := hdep 12 (by decide +kernel)
          simp [slotOf, dstOf] at d12
          simp [opYields, go_sem, d12]
          exact hJ
        | k + 14, h => exact absurd h (by omega)
      · have h10 := hL 10 (by omega)
        have h11 := hL 11 (by omega)
        rw [h10, h11] at hJ
        obtain ⟨ao', cp', v11⟩ := hvals 11 (by omega)
        have v13 := hvals 13 (by omega)
        simp only at v13
        have hP := hJ.put
        obtain ⟨hk, hB2, hblk, _, _, hown2⟩ := id hJ
        rw [v11] at hP
        have HP := hide hP
        clear hvals hP hJ hown2
        obtain ⟨c0, z0⟩ := one_cell hblk
        simp [over, dstOf, Act.put, v11, v13]
        go_wp2
        go_roundw
        case rel => exact ⟨j + 1, by omega, by go_num, hide (HK.out.trans HP.out.1), hide (by rw [HNX.out, ← List.append_assoc, HL1.out, HC.out]; exact HP.out.2.2)⟩
        case measure => simp [intOf]; omega
    · obtain rfl : j = 8 := by omega
      go_wp2
      go_end0
      exact ⟨HK.out, rfl, HO.out⟩
end Go.Proofs.YtkaeogldielkfaaGreat.Rc
namespace Go.Proofs.YtkaeogldielkfaaGreat.Rc
open Go.RowKit Lb
/-- A ref: its number, its labels. A point: its ref, its time, its bits. -/
abbrev RefL := Int × List Lab
abbrev Pnt := Int × Int × Nat
structure Rcd where
  kind : Int
  refs : List RefL
  points : List Pnt
def readsRefs (w : World) (B : Nat) (v : Value) (l : List RefL) : Prop :=
  ∃ ao cp, v = .slice ao l.length cp ∧ ∀ i (h : i < l.length), ∃ b o vl, ao = some ⟨b, o, none⟩ ∧ b < B ∧ readsLabels w B vl l[i].2 ∧ w.cell? ⟨b, o + i * 2, none⟩ = some (.int .i64 l[i].1) ∧ w.cell? ⟨b, o + i * 2 + 1, none⟩ = some vl
theorem readsRefs.keep {w w' : World} {B : Nat} {v : Value} {l : List RefL} (h : readsRefs w B v l) (g : Below B w w') : readsRefs w' B v l := by
  obtain ⟨ao, cp, hv, h⟩ := h
  refine ⟨ao, cp, hv, fun i hi => ?_⟩
  obtain ⟨b, o, vl, e, hb, hl, c0, c1⟩ := h i hi
  exact ⟨b, o, vl, e, hb, readsLabels_below hl g, (g.cell (p := ⟨b, _, none⟩) hb).trans c0, (g.cell (p := ⟨b, _, none⟩) hb).trans c1⟩
theorem readsRefs.more {w : World} {B B' : Nat} {v : Value} {l : List RefL} (h : readsRefs w B v l) (hB : B ≤ B') : readsRefs w B' v l := by
  obtain ⟨ao, cp, hv, h⟩ := h
  refine ⟨ao, cp, hv, fun i hi => ?_⟩
  obtain ⟨b, o, vl, e, hb, hl, c0, c1⟩ := h i hi
  exact ⟨b, o, vl, e, by omega, readsLabels_mono hl hB, c0, c1⟩
def readsPoints (w : World) (B : Nat) (v : Value) (l : List Pnt) : Prop :=
  ∃ ao cp, v = .slice ao l.length cp ∧ ∀ i (h : i < l.length), ∃ b o, ao = some ⟨b, o, none⟩ ∧ b < B ∧ w.cell? ⟨b, o + i * 3, none⟩ = some (.int .i64 l[i].1) ∧ w.cell? ⟨b, o + i * 3 + 1, none⟩ = some (.int .i64 l[i].2.1) ∧ w.cell? ⟨b, o + i * 3 + 2, none⟩ = some (.int .u64 l[i].2.2)
theorem readsPoints.keep {w w' : World} {B : Nat} {v : Value} {l : List Pnt} (h : readsPoints w B v l) (g : Below B w w') : readsPoints w' B v l := by
  obtain ⟨ao, cp, hv, h⟩ := h
  refine ⟨ao, cp, hv, fun i hi => ?_⟩
  obtain ⟨b, o, e, hb, c0, c1, c2⟩ := h i hi
  exact ⟨b, o, e, hb, (g.cell (p := ⟨b, _, none⟩) hb).trans c0, (g.cell (p := ⟨b, _, none⟩) hb).trans c1, (g.cell (p := ⟨b, _, none⟩) hb).trans c2⟩
theorem readsPoints.more {w : World} {B B' : Nat} {v : Value} {l : List Pnt} (h : readsPoints w B v l) (hB : B ≤ B') : readsPoints w B' v l := by
  obtain ⟨ao, cp, hv, h⟩ := h
  refine ⟨ao, cp, hv, fun i hi => ?_⟩
  obtain ⟨b, o, e, hb, c0, c1, c2⟩ := h i hi
  exact ⟨b, o, e, by omega, c0, c1, c2⟩
/-! ### what is wrong with a record -/
def refErr (x : RefL) : Nat := if numErr x.1 ≠ 0 then numErr x.1 else if x.2.length = 0 then 1 else checkB x.2
def refsErr : List RefL → Nat
  | [] => 0
  | x :: l => if refErr x ≠ 0 then refErr x else refsErr l
def pointErr (p : Pnt) : Nat := if numErr p.1 ≠ 0 then numErr p.1 else timeErr p.2.1
def pointsErr : List Pnt → Nat
  | [] => 0
  | x :: l => if pointErr x ≠ 0 then pointErr x else pointsErr l
def recErr (r : Rcd) : Nat :=
  if r.kind ≠ 1 ∧ r.kind ≠ 2 then 7
  else if (r.kind = 1 ∧ 0 < r.points.length) ∨ (r.kind = 2 ∧ 0 < r.refs.length) then 1
  else if 200 < r.refs.length ∨ 200 < r.points.length then 2
  else if refsErr r.refs ≠ 0 then refsErr r.refs else pointsErr r.points
/-- Sizes and numbers that a machine has. -/
def okRef (x : RefL) : Prop := -9223372036854775808 ≤ x.1 ∧ x.1 ≤ 9223372036854775807 ∧ x.2.length ≤ 9223372036854775807 ∧ lensOk x.2
def okPnt (p : Pnt) : Prop := -9223372036854775808 ≤ p.1 ∧ p.1 ≤ 9223372036854775807 ∧ -9223372036854775808 ≤ p.2.1 ∧ p.2.1 ≤ 9223372036854775807 ∧ p.2.2 < 18446744073709551616
/-! ### what is written -/
def labB (y : Lab) : List UInt8 := textB y.1 ++ textB y.2
def labsB (l : List Lab) : List UInt8 := (l.map labB).flatten
def refB (x : RefL) : List UInt8 := numB x.1.toNat ++ (numB x.2.length ++ labsB x.2)
def refsB (l : List RefL) : List UInt8 := (l.map refB).flatten
def pointB (p : Pnt) : List UInt8 := numB p.1.toNat ++ (numB (timeN p.2.1) ++ wordR p.2.2 8)
def pointsB (l : List Pnt) : List UInt8 := (l.map pointB).flatten
def packB (r : Rcd) : List UInt8 := UInt8.ofNat r.kind.toNat :: (if r.kind = 1 then numB r.refs.length ++ refsB r.refs else numB r.points.length ++ pointsB r.points)
theorem labsB_take {l : List Lab} {k : Nat} (h : k < l.length) : labsB (l.take (k + 1)) = labsB (l.take k) ++ labB l[k] := by
  unfold labsB
  rw [List.take_succ_eq_append_getElem h, List.map_append, List.flatten_append]
  simp
theorem refsB_take {l : List RefL} {k : Nat} (h : k < l.length) : refsB (l.take (k + 1)) = refsB (l.take k) ++ refB l[k] := by
  unfold refsB
  rw [List.take_succ_eq_append_getElem h, List.map_append, List.flatten_append]
  simp
theorem pointsB_take {l : List Pnt} {k : Nat} (h : k < l.length) : pointsB (l.take (k + 1)) = pointsB (l.take k) ++ pointB l[k] := by
  unfold pointsB
  rw [List.take_succ_eq_append_getElem h, List.map_append, List.flatten_append]
  simp
theorem textB_len {s : List UInt8} : (textB s).length ≤ 10 + s.length := by
  have := numB_length s.length
  unfold textB
  rw [List.length_append]
  omega
theorem labsB_len {l : List Lab} (h : ∀ y ∈ l, y.1.length ≤ 40 ∧ y.2.length ≤ 100) : (labsB l).length ≤ 160 * l.length := by
  induction l with
  | nil => simp [labsB]
  | cons y l ih =>
    have h1 := h y (by simp)
    have h2 := ih fun z hz => h z (List.mem_cons_of_mem _ hz)
    have h3 := textB_len (s := y.1)
    have h4 := textB_len (s := y.2)
    have e : labsB (y :: l) = (textB y.1 ++ textB y.2) ++ labsB l := rfl
    rw [e, List.length_append, List.length_append, List.length_cons]
    omega
theorem check_small {l : List Lab} (h : checkB l = 0) : l.length ≤ 20 ∧ ∀ y ∈ l, y.1.length ≤ 40 ∧ y.2.length ≤ 100 := eachErr_names (checkB_zero.1 h).1
theorem refErr_zero {x : RefL} (h : refErr x = 0) : (1 ≤ x.1 ∧ x.1 ≤ 1000000) ∧ 0 < x.2.length ∧ checkB x.2 = 0 := by
  unfold refErr at h
  by_cases h1 : numErr x.1 = 0
  · rw [if_neg (by omega)] at h
    by_cases h2 : x.2.length = 0
    · rw [if_pos h2] at h; cases h
    · rw [if_neg h2] at h
      refine ⟨?_, by omega, h⟩
      unfold numErr at h1
      by_cases h3 : 1 ≤ x.1 ∧ x.1 ≤ 1000000
      · exact h3
      · rw [if_neg h3] at h1; cases h1
  · rw [if_pos h1] at h
    exact absurd h h1
theorem refB_len {x : RefL} (h : refErr x = 0) : (refB x).length ≤ 3300 := by
  obtain ⟨_, _, hc⟩ := refErr_zero h
  obtain ⟨h1, h2⟩ := check_small hc
  have h3 := labsB_len h2
  have h4 := numB_length x.1.toNat
  have h5 := numB_length x.2.length
  unfold refB
  rw [List.length_append, List.length_append]
  omega
theorem refsB_len {l : List RefL} (h : ∀ x ∈ l, refErr x = 0) : (refsB l).length ≤ 3300 * l.length := by
  induction l with
  | nil => simp [refsB]
  | cons x l ih =>
    have h1 := refB_len (h x (by simp))
    have h2 := ih fun z hz => h z (List.mem_cons_of_mem _ hz)
    have e : refsB (x :: l) = refB x ++ refsB l := rfl
    rw [e, List.length_append, List.length_cons]
    omega
theorem pointB_len (p : Pnt) : (pointB p).length ≤ 28 := by
  have h4 := numB_length p.1.toNat
  have h5 := numB_length (timeN p.2.1)
  unfold pointB
  rw [List.length_append, List.length_append, wordR_length]
  omega
theorem pointsB_len (l : List Pnt) : (pointsB l).length ≤ 28 * l.length := by
  induction l with
  | nil => simp [pointsB]
  | cons x l ih =>
    have h1 := pointB_len x
    have e : pointsB (x :: l) = pointB x ++ pointsB l := rfl
    rw [e, List.length_append, List.length_cons]
    omega
theorem refsErr_zero {l : List RefL} : refsErr l = 0 → ∀ x ∈ l, refErr x = 0 := by
  induction l with
  | nil => intro _ x hx; simp at hx
  | cons y l ih =>
    intro h x hx
    have h' : (if refErr y ≠ 0 then refErr y else refsErr l) = 0 := h
    by_cases hy : refErr y = 0
    · rw [if_neg (by omega)] at h'
      rcases List.mem_cons.1 hx with rfl | hx
      · exact hy
      · exact ih h' x hx
    · rw [if_pos hy] at h'
      exact absurd h' hy
theorem pointsErr_zero {l : List Pnt} : pointsErr l = 0 → ∀ x ∈ l, pointErr x = 0 := by
  induction l with
  | nil => intro _ x hx; simp at hx
  | cons y l ih =>
    intro h x hx
    have h' : (if pointErr y ≠ 0 then pointErr y else pointsErr l) = 0 := h
    by_cases hy : pointErr y = 0
    · rw [if_neg (by omega)] at h'
      rcases List.mem_cons.1 hx with rfl | hx
      · exact hy
      · exact ih h' x hx
    · rw [if_pos hy] at h'
      exact absurd h' hy
theorem recErr_zero {r : Rcd} (h : recErr r = 0) : (r.kind = 1 ∨ r.kind = 2) ∧ r.refs.length ≤ 200 ∧ r.points.length ≤ 200 ∧ (∀ x ∈ r.refs, refErr x = 0) ∧ ∀ x ∈ r.points, pointErr x = 0 := by
  unfold recErr at h
  by_cases h1 : r.kind ≠ 1 ∧ r.kind ≠ 2
  · rw [if_pos h1] at h; cases h
  · rw [if_neg h1] at h
    by_cases h2 : (r.kind = 1 ∧ 0 < r.points.length) ∨ (r.kind = 2 ∧ 0 < r.refs.length)
    · rw [if_pos h2] at h; cases h
    · rw [if_neg h2] at h
      by_cases h3 : 200 < r.refs.length ∨ 200 < r.points.length
      · rw [if_pos h3] at h; cases h
      · rw [if_neg h3] at h
        by_cases h4 : refsErr r.refs = 0
        · rw [if_neg (by omega)] at h
          exact ⟨by omega, by omega, by omega, refsErr_zero h4, pointsErr_zero h⟩
        · rw [if_pos h4] at h
          exact absurd h h4
end Go.Proofs.YtkaeogldielkfaaGreat.Rc
namespace Go.Proofs.YtkaeogldielkfaaGreat.Rc
open Go.RowKit Lb
attribute [local go_sem] bs_size bs_toList bs_append bs_get bs_extract
theorem two_of {w : World} {b : Nat} {x y : Value} {t : TypeId} (h : w.heap[b]? = some (.cells #[x, y] t (0, 0))) : w.cell? ⟨b, 0, none⟩ = some x ∧ w.cell? ⟨b, 1, none⟩ = some y := by simp [World.cell?, h]
theorem three_of {w : World} {b : Nat} {x y z : Value} {t : TypeId} (h : w.heap[b]? = some (.cells #[x, y, z] t (0, 0))) : w.cell? ⟨b, 0, none⟩ = some x ∧ w.cell? ⟨b, 1, none⟩ = some y ∧ w.cell? ⟨b, 2, none⟩ = some z := by simp [World.cell?, h]
theorem laid_at (w : World) (c : Array Value) (t : TypeId) : ∃ W : World, w.alloc (.cells c t) = W ∧ Grow w W ∧ W.heap[w.heap.size]? = some (.cells c t (0, 0)) := ⟨_, rfl, (Grow.refl _).alloc _, heap_alloc_new _ _⟩
theorem holdsW_size {w : World} {B b : Nat} {l : List UInt8} (h : holdsW w B b l) : B ≤ w.heap.size ∧ b < w.heap.size := by
  obtain ⟨h1, v, h2, _⟩ := h
  exact ⟨h1, lt_of_block h2⟩
set_option maxRecDepth 20000 in
set_option maxHeartbeats 8000000 in
theorem refs_w (w : World) (A B b : Nat) (v : Value) (l : List UInt8) (rs : List RefL) (hA : A ≤ B) (hAb : A ≤ b) (hh : holdsW w B b l) (hl : l.length ≤ 1000) (hr : readsRefs w A v rs) (hn : rs.length ≤ 200) (hok : ∀ x ∈ rs, refErr x = 0) :
    Calls Tryz.prog 76 #[.pointer (some ⟨b, 0, none⟩), v] w (wrote B b l (numB rs.length ++ refsB rs) w) := by
  have HNUM := hide (number_w w B b rs.length l hh (by omega) (by omega))
  have HR := hide hr
  have HOK := hide hok
  have hnl := numB_length rs.length
  obtain ⟨ao, cp, rfl, _⟩ := hr
  clear hh hok
  go_enter Tryz.func76, Tryz.ntmps76
  go_wp2_with fail
  refine HNUM.out.mono ?_
  rintro e w1 ⟨hk1, rfl, hh1⟩
  have HK1 := hide hk1
  have HH1 := hide hh1
  clear hk1 hh1 HNUM
  go_wp2
  go_loopw [14] (fun iv wr => ∃ k : Nat, k ≤ rs.length ∧ iv = .int .i64 k ∧ Hid (KeptX B b w wr) ∧ Hid (holdsW wr B b (l ++ (numB rs.length ++ refsB (rs.take k))))) (fun iv _ => rs.length - (intOf iv).toNat)
  case atStart => exact ⟨0, by omega, rfl, HK1, hide (by simpa [refsB] using HH1.out)⟩
  case round =>
    obtain ⟨k, hk, rfl, HK, HH⟩ := hrel
    by_cases hlt : k < rs.length
    · have hlti : (k : Int) < (rs.length : Int) := by omega
      obtain ⟨rb, ro, vl, rfl, hrB, hls, c00, c10⟩ : ∃ b' o vl, ao = some ⟨b', o, none⟩ ∧ b' < A ∧ readsLabels w A vl rs[k].2 ∧ w.cell? ⟨b', o + k * 2, none⟩ = some (.int .i64 rs[k].1) ∧ w.cell? ⟨b', o + k * 2 + 1, none⟩ = some vl := by
        obtain ⟨ao', cp', e, h⟩ := HR.out
        cases e
        exact h k hlt
      have hbe := HK.out.below hA hAb
      have c0 := (hbe.cell (p := ⟨rb, ro + k * 2, none⟩) hrB).trans c00
      have c1 := (hbe.cell (p := ⟨rb, ro + k * 2 + 1, none⟩) hrB).trans c10
      clear c00 c10 hbe
      have hxe := HOK.out _ (List.getElem_mem hlt)
      have HTK := hide (refsB_take hlt)
      have hbig : (l ++ (numB rs.length ++ refsB (rs.take k))).length ≤ 700000 := by
        have h1 := refsB_len (l := rs.take k) fun x hx => HOK.out x (List.mem_of_mem_take hx)
        have h2 : (rs.take k).length ≤ 200 := by rw [List.length_take]; omega
        rw [List.length_append, List.length_append]
        omega
      obtain ⟨x, HX⟩ : ∃ x : RefL, Hid (rs[k] = x) := ⟨_, hide rfl⟩
      rw [HX.out] at hls c0 hxe HTK
      obtain ⟨⟨hx1, hx2⟩, hx3, hxc⟩ := refErr_zero hxe
      obtain ⟨hx20, hxs⟩ := check_small hxc
      obtain ⟨rn, hrn⟩ : ∃ rn : Nat, x.1 = (rn : Int) := ⟨x.1.toNat, by omega⟩
      have HRB : Hid (refB x = numB rn ++ (numB x.2.length ++ labsB x.2)) := hide (by unfold refB; rw [hrn, Int.toNat_natCast])
      rw [hrn] at c0
      obtain ⟨xo, xc, rfl⟩ := readsLabels_len hls
      obtain ⟨l1, HL1⟩ : ∃ l1, Hid (l ++ (numB rs.length ++ refsB (rs.take k)) = l1) := ⟨_, hide rfl⟩
      rw [HL1.out] at HH hbig
      obtain ⟨W, eW, gW, hW⟩ := laid_at wr #[.int .i64 rn, .slice xo x.2.length xc] 59
      obtain ⟨xb, hxb⟩ : ∃ b', wr.heap.size = b' := ⟨_, rfl⟩
      rw [hxb] at hW
      have HKW : Hid (KeptX B b w W) := hide (HK.out.trans (keptX_grow gW (holdsW_size HH.out).1))
      have hxne : xb ≠ b := by have := (holdsW_size HH.out).2; omega
      have HHW := hide (holdsW_below HH.out gW (Nat.le_refl _))
      have HW := hide hW
      obtain ⟨d0, d1⟩ := two_of hW
      have HN1 := hide (number_w W B b rn l1 HHW.out (by omega) (by omega))
      have HRdL : Hid (∀ w2, KeptX B b w w2 → readsLabels w2 A (.slice xo x.2.length xc) x.2) := hide (fun w2 hk2 => readsLabels_below hls (hk2.below hA hAb))
      clear gW hW hls hrn hxe hxc
      go_wp2_with fail
      refine HN1.out.mono ?_
      rintro e w2 ⟨hk2, rfl, hh2⟩
      have HK2 := hide (HKW.out.trans hk2)
      have HB2 := hide (hk2.typed xb _ _ _ hxne HW.out (by decide))
      obtain ⟨d0, d1⟩ := two_of HB2.out
      have HN2 := hide (number_w w2 B b x.2.length (l1 ++ numB rn) hh2 (by have := numB_length rn; rw [List.length_append]; omega) (by omega))
      clear hk2 hh2 HN1 eW
      go_wp2_with fail
      refine HN2.out.mono ?_
      rintro e w3 ⟨hk3, rfl, hh3⟩
      have HK3 := hide (HK2.out.trans hk3)
      have HB3 := hide (hk3.typed xb _ _ _ hxne HB2.out (by decide))
      have HH3 := hide hh3
      obtain ⟨d0, d1⟩ := two_of HB3.out
      have hl3 : (l1 ++ numB rn ++ numB x.2.length).length ≤ 700020 := by
        have h1 := numB_length rn
        have h2 := numB_length x.2.length
        rw [List.length_append, List.length_append]
        omega
      have HL3 : Hid (l1 ++ numB rn ++ numB x.2.length = l1 ++ (numB rn ++ numB x.2.length)) := hide (List.append_assoc _ _ _)
      clear hk3 hh3 HN2
      go_wp2
      go_loopw [30] (fun jv wr => ∃ j : Nat, j ≤ x.2.length ∧ jv = .int .i64 j ∧ Hid (KeptX B b w wr) ∧ Hid (holdsW wr B b (l1 ++ numB rn ++ numB x.2.length ++ labsB (x.2.take j)))) (fun jv _ => x.2.length - (intOf jv).toNat)
      case atStart => exact ⟨0, by omega, rfl, HK3, hide (by simpa [labsB] using HH3.out)⟩
      case round =>
        clear d0 d1
        obtain ⟨j, hj, rfl, HKj, HHj⟩ := hrel
        by_cases hjlt : j < x.2.length
        · have hjlti : (j : Int) < (x.2.length : Int) := by omega
          obtain ⟨lb, lo, rfl, hlB, e0, e1⟩ : ∃ b' o, xo = some ⟨b', o, none⟩ ∧ b' < A ∧ wr.cell? ⟨b', o + j * 2, none⟩ = some (.string (bs x.2[j].1)) ∧ wr.cell? ⟨b', o + j * 2 + 1, none⟩ = some (.string (bs x.2[j].2)) := by
            obtain ⟨ao', cp', e, h⟩ := HRdL.out wr HKj.out
            cases e
            exact h j hjlt
          have HTL := hide (labsB_take hjlt)
          have hys := hxs _ (List.getElem_mem hjlt)
          have hbj : (l1 ++ numB rn ++ numB x.2.length ++ labsB (x.2.take j)).length ≤ 720000 := by
            have h1 := labsB_len (l := x.2.take j) fun y hy => hxs y (List.mem_of_mem_take hy)
            have h2 : (x.2.take j).length ≤ 20 := by rw [List.length_take]; omega
            rw [List.length_append]
            omega
          obtain ⟨y, HY⟩ : ∃ y : Lab, Hid (x.2[j] = y) := ⟨_, hide rfl⟩
          rw [HY.out] at e0 e1 HTL hys
          obtain ⟨l2, HL2⟩ : ∃ l2, Hid (l1 ++ numB rn ++ numB x.2.length ++ labsB (x.2.take j) = l2) := ⟨_, hide rfl⟩
          rw [HL2.out] at HHj hbj
          obtain ⟨V, eV, gV, hV⟩ := laid_at wr #[.string (bs y.1), .string (bs y.2)] 107
          obtain ⟨yb, hyb⟩ : ∃ b', wr.heap.size = b' := ⟨_, rfl⟩
          rw [hyb] at hV
          have HKV : Hid (KeptX B b w V) := hide (HKj.out.trans (keptX_grow gV (holdsW_size HHj.out).1))
          have hyne : yb ≠ b := by have := (holdsW_size HHj.out).2; omega
          have HHV := hide (holdsW_below HHj.out gV (Nat.le_refl _))
          have HVB := hide hV
          obtain ⟨d0, d1⟩ := two_of hV
          have HT1 := hide (bytes_w V B b l2 y.1 HHV.out (by omega) (by omega))
          clear gV hV
          go_wp2_with fail
          refine HT1.out.mono ?_
          rintro e w4 ⟨hk4, rfl, hh4⟩
          have HK4 := hide (HKV.out.trans hk4)
          have HB4 := hide (hk4.typed yb _ _ _ hyne HVB.out (by decide))
          obtain ⟨d0, d1⟩ := two_of HB4.out
          have HT2 := hide (bytes_w w4 B b (l2 ++ textB y.1) y.2 hh4 (by have := textB_len (s := y.1); rw [List.length_append]; omega) (by omega))
          clear hk4 hh4 HT1 eV
          go_wp2_with fail
          refine HT2.out.mono ?_
          rintro e w5 ⟨hk5, rfl, hh5⟩
          have HK5 := hide (HK4.out.trans hk5)
          have HH5 : Hid (holdsW w5 B b (l1 ++ numB rn ++ numB x.2.length ++ labsB (x.2.take (j + 1)))) := hide (by
            rw [HTL.out, ← List.append_assoc, HL2.out]
            unfold labB
            rw [← List.append_assoc]
            exact hh5)
          clear hk5 hh5 HT2
          go_wp2
          go_roundw
          case rel => exact ⟨j + 1, by omega, by go_num, HK5, HH5⟩
          case measure => simp [intOf]; omega
        · obtain rfl : j = x.2.length := by omega
          have HH6 : Hid (holdsW wr B b (l ++ (numB rs.length ++ refsB (rs.take (k + 1))))) := hide (by
            have h := HHj.out
            rw [List.take_length] at h
            rw [HTK.out, HRB.out, ← List.append_assoc (numB rs.length), ← List.append_assoc l, HL1.out]
            simpa [List.append_assoc] using h)
          clear HHj
          go_wp2
          go_roundw
          case rel => exact ⟨k + 1, by omega, by go_num, HKj, HH6⟩
          case measure => simp [intOf]; omega
    · obtain rfl : k = rs.length := by omega
      rw [List.take_length] at HH
      go_wp2
      go_end0
      exact ⟨HK.out, rfl, HH.out⟩
theorem pointErr_zero {p : Pnt} (h : pointErr p = 0) : (1 ≤ p.1 ∧ p.1 ≤ 1000000) ∧ timeErr p.2.1 = 0 := by
  unfold pointErr at h
  by_cases h1 : numErr p.1 = 0
  · rw [if_neg (by omega)] at h
    refine ⟨?_, h⟩
    unfold numErr at h1
    by_cases h3 : 1 ≤ p.1 ∧ p.1 ≤ 1000000
    · exact h3
    · rw [if_neg h3] at h1; cases h1
  · rw [if_pos h1] at h
    exact absurd h h1
set_option maxRecDepth 20000 in
set_option maxHeartbeats 8000000 in
theorem points_w (w : World) (A B b : Nat) (v : Value) (l : List UInt8) (ps : List Pnt) (hA : A ≤ B) (hAb : A ≤ b) (hh : holdsW w B b l) (hl : l.length ≤ 1000) (hr : readsPoints w A v ps) (hn : ps.length ≤ 200) (hok : ∀ x ∈ ps, pointErr x = 0) (hbits : ∀ x ∈ ps, x.2.2 < 18446744073709551616) :
    Calls Tryz.prog 77 #[.pointer (some ⟨b, 0, none⟩), v] w (wrote B b l (numB ps.length ++ pointsB ps) w) := by
  have HNUM := hide (number_w w B b ps.length l hh (by omega) (by omega))
  have HR := hide hr
  have HOK := hide hok
  have HBI := hide hbits
  have hnl := numB_length ps.length
  obtain ⟨ao, cp, rfl, _⟩ := hr
  clear hh hok hbits
  go_enter Tryz.func77, Tryz.ntmps77
  go_wp2_with fail
  refine HNUM.out.mono ?_
  rintro e w1 ⟨hk1, rfl, hh1⟩
  have HK1 := hide hk1
  have HH1 := hide hh1
  clear hk1 hh1 HNUM
  go_wp2
  go_loopw [12] (fun iv wr => ∃ k : Nat, k ≤ ps.length ∧ iv = .int .i64 k ∧ Hid (KeptX B b w wr) ∧ Hid (holdsW wr B b (l ++ (numB ps.length ++ pointsB (ps.take k))))) (fun iv _ => ps.length - (intOf iv).toNat)
  case atStart => exact ⟨0, by omega, rfl, HK1, hide (by simpa [pointsB] using HH1.out)⟩
  case round =>
    obtain ⟨k, hk, rfl, HK, HH⟩ := hrel
    by_cases hlt : k < ps.length
    · have hlti : (k : Int) < (ps.length : Int) := by omega
      obtain ⟨rb, ro, rfl, hrB, c00, c10, c20⟩ : ∃ b' o, ao = some ⟨b', o, none⟩ ∧ b' < A ∧ w.cell? ⟨b', o + k * 3, none⟩ = some (.int .i64 ps[k].1) ∧ w.cell? ⟨b', o + k * 3 + 1, none⟩ = some (.int .i64 ps[k].2.1) ∧ w.cell? ⟨b', o + k * 3 + 2, none⟩ = some (.int .u64 ps[k].2.2) := by
        obtain ⟨ao', cp', e, h⟩ := HR.out
        cases e
        exact h k hlt
      have hbe := HK.out.below hA hAb
      have c0 := (hbe.cell (p := ⟨rb, ro + k * 3, none⟩) hrB).trans c00
      have c1 := (hbe.cell (p := ⟨rb, ro + k * 3 + 1, none⟩) hrB).trans c10
      have c2 := (hbe.cell (p := ⟨rb, ro + k * 3 + 2, none⟩) hrB).trans c20
      clear c00 c10 c20 hbe
      have hxe := HOK.out _ (List.getElem_mem hlt)
      have hxb := HBI.out _ (List.getElem_mem hlt)
      have HTK := hide (pointsB_take hlt)
      have hbig : (l ++ (numB ps.length ++ pointsB (ps.take k))).length ≤ 700000 := by
        have h1 := pointsB_len (ps.take k)
        have h2 : (ps.take k).length ≤ 200 := by rw [List.length_take]; omega
        rw [List.length_append, List.length_append]
        omega
      obtain ⟨x, HX⟩ : ∃ x : Pnt, Hid (ps[k] = x) := ⟨_, hide rfl⟩
      rw [HX.out] at c0 c1 c2 hxe hxb HTK
      obtain ⟨⟨hx1, hx2⟩, hxt⟩ := pointErr_zero hxe
      obtain ⟨x0, x1, x2⟩ := x
      simp only at c0 c1 c2 hx1 hx2 hxt hxb
      obtain ⟨rn, rfl⟩ : ∃ rn : Nat, x0 = (rn : Int) := ⟨x0.toNat, by omega⟩
      have HRB : Hid (pointB ((rn : Int), x1, x2) = numB rn ++ (numB (timeN x1) ++ wordR x2 8)) := hide (by unfold pointB; simp only [Int.toNat_natCast])
      obtain ⟨l1, HL1⟩ : ∃ l1, Hid (l ++ (numB ps.length ++ pointsB (ps.take k)) = l1) := ⟨_, hide rfl⟩
      rw [HL1.out] at HH hbig
      obtain ⟨W, eW, gW, hW⟩ := laid_at wr #[.int .i64 rn, .int .i64 x1, .int .u64 x2] 64
      obtain ⟨xb, hxb⟩ : ∃ b', wr.heap.size = b' := ⟨_, rfl⟩
      rw [hxb] at hW
      have HKW : Hid (KeptX B b w W) := hide (HK.out.trans (keptX_grow gW (holdsW_size HH.out).1))
      have hxne : xb ≠ b := by have := (holdsW_size HH.out).2; omega
      have HHW := hide (holdsW_below HH.out gW (Nat.le_refl _))
      have HW := hide hW
      obtain ⟨d0, d1, d2⟩ := three_of hW
      have HN1 := hide (number_w W B b rn l1 HHW.out (by omega) (by omega))
      clear gW hW hxe
      go_wp2_with fail
      refine HN1.out.mono ?_
      rintro e w2 ⟨hk2, rfl, hh2⟩
      have HK2 := hide (HKW.out.trans hk2)
      have HB2 := hide (hk2.typed xb _ _ _ hxne HW.out (by decide))
      obtain ⟨d0, d1, d2⟩ := three_of HB2.out
      have HN2 := hide (time_w w2 B b x1 (l1 ++ numB rn) hh2 (by have := numB_length rn; rw [List.length_append]; omega) hxt)
      clear hk2 hh2 HN1 eW
      go_wp2_with fail
      refine HN2.out.mono ?_
      rintro e w3 ⟨hk3, rfl, hh3⟩
      have HK3 := hide (HK2.out.trans hk3)
      have HB3 := hide (hk3.typed xb _ _ _ hxne HB2.out (by decide))
      obtain ⟨d0, d1, d2⟩ := three_of HB3.out
      have HN3 := hide (eight_w w3 B b x2 (l1 ++ numB rn ++ numB (timeN x1)) hh3 (by have := numB_length rn; have := numB_length (timeN x1); rw [List.length_append, List.length_append]; omega) (by omega))
      clear hk3 hh3 HN2
      go_wp2_with fail
      refine HN3.out.mono ?_
      rintro e w4 ⟨hk4, rfl, hh4⟩
      have HK4 := hide (HK3.out.trans hk4)
      have HH4 : Hid (holdsW w4 B b (l ++ (numB ps.length ++ pointsB (ps.take (k + 1))))) := hide (by
        rw [HTK.out, HRB.out, ← List.append_assoc (numB ps.length), ← List.append_assoc l, HL1.out]
        simpa [List.append_assoc] using hh4)
      clear hk4 hh4 HN3 d0 d1 d2
      go_wp2
      go_roundw
      case rel => exact ⟨k + 1, by omega, by go_num, HK4, HH4⟩
      case measure => simp [intOf]; omega
    · obtain rfl : k = ps.length := by omega
      rw [List.take_length] at HH
      go_wp2
      go_end0
      exact ⟨HK.out, rfl, HH.out⟩
set_option maxRecDepth 20000 in
set_option maxHeartbeats 8000000 in
theorem record_w (w : World) (A B b : Nat) (vr vp : Value) (r : Rcd) (hA : A ≤ B) (hAb : A ≤ b) (hh : holdsW w B b []) (hr : readsRefs w A vr r.refs) (hp : readsPoints w A vp r.points) (h0 : recErr r = 0) (hbits : ∀ x ∈ r.points, x.2.2 < 18446744073709551616) :
    Calls Tryz.prog 44 #[.pointer (some ⟨b, 0, none⟩), .agg #[.int .i64 r.kind, vr, vp]] w (wrote B b [] (packB r) w) := by
  obtain ⟨hk12, hr200, hp200, hre, hpe⟩ := recErr_zero h0
  have HRR := hide hr
  have HPP := hide hp
  have HRE := hide hre
  have HPE := hide hpe
  have HBI := hide hbits
  obtain ⟨ro, rc, rfl, _⟩ := hr
  obtain ⟨po, pc, rfl, _⟩ := hp
  obtain ⟨kn, hkn⟩ : ∃ kn : Nat, r.kind = (kn : Int) := ⟨r.kind.toNat, by omega⟩
  have hkn2 : kn = 1 ∨ kn = 2 := by omega
  obtain ⟨c, HC⟩ : ∃ c, Hid (UInt8.ofNat kn = c) := ⟨_, hide rfl⟩
  have hcn : (kn : Int) = (c.toNat : Int) := by rw [← HC.out]; rcases hkn2 with rfl | rfl <;> rfl
  have HCN := hide hcn
  have HPK : Hid (packB r = [c] ++ (if kn = 1 then numB r.refs.length ++ refsB r.refs else numB r.points.length ++ pointsB r.points)) := hide (by
    unfold packB
    rw [hkn, Int.toNat_natCast, HC.out]
    rcases hkn2 with rfl | rfl
    · simp
    · simp)
  rw [hkn]
  obtain ⟨V, eV, gV, hV⟩ := laid_at w #[.int .i64 kn, .slice ro r.refs.length rc, .slice po r.points.length pc] 29
  obtain ⟨xb, hxb⟩ : ∃ b', w.heap.size = b' := ⟨_, rfl⟩
  rw [hxb] at hV
  have hsz := holdsW_size hh
  have hxne : xb ≠ b := by omega
  have HHV := hide (holdsW_below hh gV (Nat.le_refl _))
  have HKV : Hid (KeptX B b w V) := hide (keptX_grow gV hsz.1)
  obtain ⟨hB, v, hb, ho⟩ := HHV.out
  obtain ⟨ao, cp, rfl⟩ := own_shape ho
  have HB := hide hb
  have HOW := hide ho
  have HVB := hide hV
  clear hcn hkn hb ho gV hV hh h0 hk12
  simp only [List.length_nil] at *
  go_enter Tryz.func44, Tryz.ntmps44
  go_wp2
  refine wp_region_state 12 27 mixedR rfl (by decide +kernel) (fun L vals w' => byteJ V B b [] c (.slice ao 0 cp) (L 8) (vals 8) (L 9) (vals 9) w')
    (fun L vals h => ?_)
    (fun i v => match i with
      | 0 => v = .pointer (some ⟨b, 0, none⟩)
      | 1 => v = .pointer (some ⟨b, 0, none⟩)
      | 2 => v = .pointer (some ⟨b, 0, none⟩)
      | 3 => v = .pointer (some ⟨b, 0, none⟩)
      | 4 => v = .slice ao 0 cp
      | 5 => v = .pointer (some ⟨xb, 0, none⟩)
      | 6 => v = .int .i64 kn
      | 7 => v = .int .u8 (c.toNat : Int)
      | 8 => True
      | 9 => ∃ ao' cp', v = .slice ao' 1 cp'
      | 10 => v = .pointer (some ⟨b, 0, none⟩)
      | _ => v = .pointer (some ⟨b, 0, none⟩))
    (fun _ _ => False) (fun _ _ _ _ h => h.elim) (fun i hi o ho a w2 L vals hLi hLc hLe hJ hoff hval hdep => ?_) (fun vals w2 L hL hJ hvals => ?_)
  · simp only [h]
    exact ⟨⟨rfl, rfl, rfl, Nat.le_refl _, fun _ _ _ => rfl, fun _ _ _ _ _ h _ => h⟩, hB, HB.out, fun _ => HOW.out, (fun h => by cases h), (fun h => by cases h)⟩
  · obtain ⟨hk, hB2, hblk, hown, hown1, hown2⟩ := id hJ
    obtain ⟨c0, z0⟩ := one_cell hblk
    obtain ⟨d0, d1, d2⟩ := three_of (hk.typed xb _ _ _ hxne HVB.out (by decide))
    match i, hi with
    | 0, _ =>
      obtain rfl := Option.some.inj ho
      have o0 := hoff 0 (by decide +kernel)
      simp at o0
      simp [opYields, go_sem, o0]
      exact hJ
    | 1, _ =>
      obtain rfl := Option.some.inj ho
      have o0 := hoff 0 (by decide +kernel)
      simp at o0
      simp [opYields, go_sem, o0]
      exact hJ
    | 2, _ =>
      obtain rfl := Option.some.inj ho
      have d1 := hdep 1 (by decide +kernel)
      simp [slotOf, dstOf] at d1
      simp [opYields, go_sem, d1]
      exact hJ
    | 3, _ =>
      obtain rfl := Option.some.inj ho
      have d2 := hdep 2 (by decide +kernel)
      simp [slotOf, dstOf] at d2
      simp [opYields, go_sem, d2]
      exact hJ
    | 4, _ =>
      obtain rfl := Option.some.inj ho
      have d3 := hdep 3 (by decide +kernel)
      simp [slotOf, dstOf] at d3
      simp [opYields, go_sem, d3, c0]
      exact hJ
    | 5, _ =>
      obtain rfl := Option.some.inj ho
      have o3 := hoff 3 (by decide +kernel)
      simp at o3
      simp [opYields, go_sem, o3]
      exact hJ
    | 6, _ =>
      obtain rfl := Option.some.inj ho
      have d5 := hdep 5 (by decide +kernel)
      simp [slotOf, dstOf] at d5
      simp [opYields, go_sem, d5, d0]
      exact hJ
    | 7, _ =>
      obtain rfl := Option.some.inj ho
      have d6 := hdep 6 (by decide +kernel)
      simp [slotOf, dstOf] at d6
      simp [opYields, go_sem, d6]
      exact ⟨hJ, by rw [← HCN.out]; rcases hkn2 with rfl | rfl <;> rfl⟩
    | 8, _ =>
      have h9 : L 9 = false := by
        cases h : L 9 with
        | false => rfl
        | true => have := hLc 9 h 8 (by decide +kernel); rw [hLi] at this; cases this
      obtain rfl := Option.some.inj ho
      have d7 := hdep 7 (by decide +kernel)
      simp [slotOf, dstOf] at d7
      rw [hLi, h9] at hJ
      simp [opYields, go_sem, d7, h9]
      exact hJ.lay rfl _
    | 9, _ =>
      have h8 := hLe 8 (by decide +kernel)
      obtain rfl := Option.some.inj ho
      have d4 := hdep 4 (by decide +kernel)
      have d8 := hval 8 (by decide +kernel)
      simp [slotOf, dstOf] at d4 d8
      rw [hLi, h8] at hJ
      obtain ⟨ao', cp', w3, hrun, hJ3⟩ := byteJ.append (l := []) hJ (by simp) 77
      refine yields_append rfl (.tmp 8) (.tmp 12) _ _ rfl (v1 := .slice ao 0 cp) (v2 := vals 8) (by simpa [Act.eval] using d4) (by simpa [Act.eval] using d8) hrun ?_
      simp only [h8]
      exact ⟨hJ3 _, ao', cp', rfl⟩
    | 10, _ =>
      obtain rfl := Option.some.inj ho
      have d0 := hdep 0 (by decide +kernel)
      simp [slotOf, dstOf] at d0
      simp [opYields, go_sem, d0]
      exact hJ
    | 11, _ =>
      obtain rfl := Option.some.inj ho
      have d10 := hdep 10 (by decide +kernel)
      simp [slotOf, dstOf] at d10
      simp [opYields, go_sem, d10]
      exact hJ
    | k + 12, h => exact absurd h (by omega)
  · have h8 := hL 8 (by omega)
    have h9 := hL 9 (by omega)
    rw [h8, h9] at hJ
    obtain ⟨ao', cp', v9⟩ := hvals 9 (by omega)
    have v11 := hvals 11 (by omega)
    simp only at v11
    have hP := hJ.put
    obtain ⟨hk, hB2, hblk, _, _, hown2⟩ := id hJ
    rw [v9] at hP
    have HP := hide hP
    clear hvals hP hJ hown2
    obtain ⟨c0, z0⟩ := one_cell hblk
    have HVP := hide (HP.out.1.typed xb _ _ _ hxne HVB.out (by decide))
    have HKP := hide (HKV.out.trans HP.out.1)
    have HRP := hide (HRR.out.keep (HKP.out.below hA hAb))
    have HPP2 := hide (HPP.out.keep (HKP.out.below hA hAb))
    simp [over, dstOf, Act.put, v9, v11]
    obtain ⟨Y, HY⟩ : ∃ Y, Hid (Y = w2.setCell ⟨b, 0, none⟩ (.slice ao' 1 cp')) := ⟨_, hide rfl⟩
    have hYset := HY.out.symm
    rw [hYset] at HVP HKP HRP HPP2 HP
    obtain ⟨d0, d1, d2⟩ := three_of HVP.out
    have HHP := hide HP.out.2.2
    simp only [List.nil_append] at HHP
    rcases hkn2 with rfl | rfl
    · have HW1 := hide (refs_w Y A B b _ [c] r.refs hA hAb HHP.out (by simp) HRP.out (by omega) HRE.out)
      rw [if_pos rfl] at HPK
      go_wp2_with fail
      refine HW1.out.mono ?_
      rintro e w5 ⟨hk5, rfl, hh5⟩
      go_wp2
      go_end0
      exact ⟨HKP.out.trans hk5, rfl, by rw [HPK.out]; exact hh5⟩
    · have HW1 := hide (points_w Y A B b _ [c] r.points hA hAb HHP.out (by simp) HPP2.out (by omega) HPE.out HBI.out)
      rw [if_neg (by decide)] at HPK
      go_wp2_with fail
      refine HW1.out.mono ?_
      rintro e w5 ⟨hk5, rfl, hh5⟩
      go_wp2
      go_end0
      exact ⟨HKP.out.trans hk5, rfl, by rw [HPK.out]; exact hh5⟩
end Go.Proofs.YtkaeogldielkfaaGreat.Rc
namespace Go.Proofs.YtkaeogldielkfaaGreat.Rc
open Go.RowKit
attribute [local go_sem] bs_size bs_toList bs_append bs_get bs_extract
/-- Nothing has turned but block b. -/
structure KI (b : Nat) (w w' : World) : Prop where
  os : w'.os = w.os
  tape : w'.tape = w.tape
  output : w'.output = w.output
  size : w.heap.size ≤ w'.heap.size
  block : ∀ k, k < w.heap.size → k ≠ b → w'.heap[k]? = w.heap[k]?
theorem KI.refl (b : Nat) (w : World) : KI b w w := ⟨rfl, rfl, rfl, Nat.le_refl _, fun _ _ _ => rfl⟩
theorem KI.trans {b : Nat} {a c d : World} (h : KI b a c) (k : KI b c d) : KI b a d :=
  ⟨k.os.trans h.os, k.tape.trans h.tape, k.output.trans h.output, Nat.le_trans h.size k.size, fun i hi hn => (k.block i (Nat.lt_of_lt_of_le hi h.size) hn).trans (h.block i hi hn)⟩
theorem KI.grow {b : Nat} {w w' : World} (h : Grow w w') : KI b w w' := ⟨h.os, h.tape, h.output, h.size, fun k hk _ => h.block k hk⟩
theorem KI.set (b : Nat) (w : World) (i : Nat) (u : Value) : KI b w (w.setCell ⟨b, i, none⟩ u) := ⟨rfl, rfl, rfl, by simp [World.setCell], fun k _ hn => Below.heap_setCell _ _ _ _ hn⟩
theorem KI.get {b : Nat} {w w' : World} (h : KI b w w') {k : Nat} {o : Obj} (hk : w.heap[k]? = some o) (hn : k ≠ b) : w'.heap[k]? = some o := (h.block k (lt_of_block hk) hn).trans hk
/-- Block b is a reader, with what is not read yet. -/
def InAt (w : World) (b : Nat) (s : List UInt8) : Prop := w.heap[b]? = some (.cells #[.string (bs s)] 113 (0, 0))
theorem InAt.set {w : World} {b : Nat} {s : List UInt8} (h : InAt w b s) (r : List UInt8) : InAt (w.setCell ⟨b, 0, none⟩ (.string (bs r))) b r := one_setCell h
theorem InAt.grow {w w' : World} {b : Nat} {s : List UInt8} (h : InAt w b s) (g : Grow w w') : InAt w' b s := g.get h
/-- What a reader's method does: it answers what is read, and what is left; or gives up. -/
def readAs {α : Type} (b : Nat) (V : α → Value) (o : Option (α × List UInt8)) (w : World) (e : Ending) (w' : World) : Prop :=
  KI b w w' ∧ match o with
    | some x => e = .returned (V x.1) ∧ InAt w' b x.2
    | none => ∃ E : Nat, E ≠ 0 ∧ e = gaveUp E
set_option maxRecDepth 20000 in
set_option maxHeartbeats 2000000 in
theorem take_any (w : World) (b n : Nat) (s : List UInt8) (h : InAt w b s) (hs : s.length ≤ 140737488355328) (hn : n < 18446744073709551616) :
    Calls Tryz.prog 64 #[.pointer (some ⟨b, 0, none⟩), .int .u64 n] w (readAs b (fun t => .string (bs t)) (if n ≤ s.length then some (s.take n, s.drop n) else none) w) := by
  have hc := cell_of_one h
  have hz := free_of_one h
  have hwl : IntKind.u64.wrap (s.length : Int) = s.length := by rw [IntKind.wrap_u64]; omega
  by_cases hle : n ≤ s.length
  · rw [if_pos hle]
    have hli : ¬ (s.length : Int) < (n : Int) := by omega
    have hld : decide ((s.length : Int) < (n : Int)) = false := decide_eq_false hli
    have hl2 : (n : Int) ≤ (s.length : Int) := by omega
    have hq : (s.drop n).take (s.length - n) = s.drop n := List.take_of_length_le (by rw [List.length_drop]; exact Nat.le_refl _)
    clear hle
    go_enter Tryz.func64, Tryz.ntmps64
    go_wp2_with fail
    refine (refuse_any false 1 w (by decide)).mono ?_
    rintro e w1 ⟨rfl, hw1⟩
    subst hw1
    rw [if_neg (by simp), outc_ok]
    go_wp2
    go_ret
    exact ⟨KI.set b w1 0 _, rfl, h.set _⟩
  · rw [if_neg hle]
    have hli : (s.length : Int) < (n : Int) := by omega
    have hld : decide ((s.length : Int) < (n : Int)) = true := decide_eq_true hli
    clear hle
    go_enter Tryz.func64, Tryz.ntmps64
    go_wp2_with fail
    refine (refuse_any true 1 w (by decide)).mono ?_
    rintro e w1 ⟨rfl, hw1⟩
    subst hw1
    rw [if_pos rfl, outc_no (by decide)]
    exact ⟨rfl, KI.refl _ _, 1, by decide, rfl⟩
/-- A number as Number writes it, and what stands behind it. -/
def cutN (s : List UInt8) : Option (Nat × List UInt8) := if (readNum s).2.2 = 0 ∧ s.take (readNum s).2.1 = numB (readNum s).1 then some ((readNum s).1, s.drop (readNum s).2.1) else none
theorem cutN_lt {s r : List UInt8} {n : Nat} (h : cutN s = some (n, r)) : n < 18446744073709551616 ∧ r.length < s.length := by
  unfold cutN at h
  obtain ⟨h1, h2, h3⟩ := readNum_le s
  by_cases hc : (readNum s).2.2 = 0 ∧ s.take (readNum s).2.1 = numB (readNum s).1
  · rw [if_pos hc] at h
    cases h
    have := h2 hc.1
    exact ⟨h3, by rw [List.length_drop]; omega⟩
  · rw [if_neg hc] at h; cases h
set_option maxRecDepth 20000 in
set_option maxHeartbeats 2000000 in
theorem number_r (w : World) (b : Nat) (s : List UInt8) (h : InAt w b s) (hs : s.length ≤ 140737488355328) :
    Calls Tryz.prog 96 #[.pointer (some ⟨b, 0, none⟩)] w (readAs b (fun n => .int .u64 (n : Nat)) (cutN s) w) := by
  obtain ⟨O, HO⟩ : ∃ O, Hid (cutN s = O) := ⟨_, hide rfl⟩
  have HO1 : Hid ((if (readNum s).2.2 = 0 ∧ s.take (readNum s).2.1 = numB (readNum s).1 then some ((readNum s).1, s.drop (readNum s).2.1) else none) = O) := HO
  rw [HO.out]
  obtain ⟨hle, hpos, hlt⟩ := readNum_le s
  have HRN := hide (readNumber_any s w (by unfold maxLen; omega))
  obtain ⟨n, size, e, hrd⟩ : ∃ n size e, readNum s = (n, size, e) := ⟨_, _, _, rfl⟩
  rw [hrd] at HO1 HRN hle hpos hlt
  simp only at HO1 HRN hle hpos hlt
  have hc := cell_of_one h
  have hz := free_of_one h
  have H := hide h
  clear HO h hrd hpos
  go_enter Tryz.func96, Tryz.ntmps96
  go_wp2_with fail
  refine HRN.out.mono ?_
  rintro e' w1 ⟨rfl, hw1⟩
  subst hw1
  by_cases he : e = 0
  · subst he
    have HT := hide (take_any w1 b size s H.out hs (by omega))
    rw [if_pos hle] at HT
    unfold readAs at HT
    simp only at HT
    have hws : IntKind.u64.wrap (size : Int) = size := by rw [IntKind.wrap_u64]; omega
    go_wp2_with fail
    refine (refuse_any false 0 w1 (by decide)).mono ?_
    rintro e w2 ⟨rfl, hw2⟩
    subst hw2
    rw [if_neg (by simp), outc_ok]
    go_wp2_with fail
    refine HT.out.mono ?_
    rintro e w3 ⟨hk3, rfl, hin3⟩
    have HK3 := hide hk3
    have HI3 := hide hin3
    have HNB := hide (number_any n w3 hlt)
    clear hk3 hin3 HT hc hz
    go_wp2_with fail
    refine HNB.out.mono ?_
    rintro e w4 ⟨rfl, hg4⟩
    have HK4 := hide (HK3.out.trans (KI.grow hg4))
    have HI4 := hide (HI3.out.grow hg4)
    clear hg4 HNB
    by_cases hq : s.take size = numB n
    · have hO : O = some (n, s.drop size) := by rw [← HO1.out, if_pos ⟨trivial, hq⟩]
      have HOE := hide hO
      have hqb : (s.take size == numB n) = true := by rw [hq]; exact beq_self_eq_true _
      have hqc : (s.take size != numB n) = false := by rw [hq]; simp
      clear hq hO
      go_wp2_with fail
      refine (refuse_any false 1 w4 (by decide)).mono ?_
      rintro e w5 ⟨rfl, hw5⟩
      subst hw5
      rw [if_neg (by simp), outc_ok]
      go_wp2
      go_ret
      rw [HOE.out]
      exact ⟨HK4.out, rfl, HI4.out⟩
    · have hO : O = none := by rw [← HO1.out, if_neg (fun h => hq h.2)]
      have HOE := hide hO
      have hqb : (s.take size == numB n) = false := by rw [beq_eq_false_iff_ne]; exact hq
      have hqc : (s.take size != numB n) = true := by rw [bne, hqb]; rfl
      clear hq hO
      go_wp2_with fail
      refine (refuse_any true 1 w4 (by decide)).mono ?_
      rintro e w5 ⟨rfl, hw5⟩
      subst hw5
      rw [if_pos rfl, outc_no (by decide)]
      refine ⟨rfl, ?_⟩
      rw [HOE.out]
      exact ⟨HK4.out, 1, by decide, rfl⟩
  · have hO : O = none := by rw [← HO1.out, if_neg (fun h => he h.1)]
    have HOE := hide hO
    have hne : ((e : Int) != 0) = true := by simp; exact he
    have HE := hide he
    clear he hO
    go_wp2_with fail
    refine (refuse_any true e w1 (fun _ => HE.out)).mono ?_
    rintro e2 w2 ⟨rfl, hw2⟩
    subst hw2
    rw [if_pos rfl, outc_no HE.out]
    refine ⟨rfl, ?_⟩
    rw [HOE.out]
    exact ⟨KI.refl _ _, e, HE.out, rfl⟩
/-- A step, done n times. -/
def runN {σ : Type} (step : σ → Option σ) : Nat → σ → Option σ
  | 0, st => some st
  | n + 1, st => match step st with
    | none => none
    | some st' => runN step n st'
theorem runN_none {σ : Type} {step : σ → Option σ} {n : Nat} {st : σ} (h : step st = none) : runN step (n + 1) st = none := by
  simp only [runN, h]
theorem runN_some {σ : Type} {step : σ → Option σ} {n : Nat} {st st' : σ} (h : step st = some st') : runN step (n + 1) st = runN step n st' := by
  simp only [runN, h]
/-- How many there are, and these: what is read of a state. -/
def eachO {σ : Type} (step : σ → Option σ) (most : Nat) (rest : σ → List UInt8) (setR : σ → List UInt8 → σ) (st : σ) : Option σ := match cutN (rest st) with
  | none => none
  | some x => if x.1 ≤ most then runN step x.1 (setR st x.2) else none
/-- What comes of a reader's function with a state: another state, or it gives up. -/
def turned {σ : Type} (I : σ → World → Prop) (F : World → Prop) (o : Option σ) (e : Ending) (w' : World) : Prop := match o with
  | some st => e = .returned (.tuple #[]) ∧ I st w'
  | none => (∃ E : Nat, E ≠ 0 ∧ e = gaveUp E) ∧ F w'
set_option maxRecDepth 20000 in
set_option maxHeartbeats 4000000 in
theorem each_any {σ : Type} (w : World) (b most g : Nat) (cap : Array Value) (rest : σ → List UInt8) (setR : σ → List UInt8 → σ) (I : Nat → σ → World → Prop) (F : World → Prop) (step : σ → Option σ) (st : σ)
    (hcf : ∀ (args : Array Value) (w : World), (callFunc g args).run Tryz.prog w = .ok (.enter g args) w)
    (hmost : most ≤ 1000) (hin : InAt w b (rest st)) (hlen : (rest st).length ≤ 140737488355328)
    (hnum : ∀ r w', KI b w w' → InAt w' b r → r.length ≤ (rest st).length → I 0 (setR st r) w') (hF0 : ∀ w', KI b w w' → F w') (hF : ∀ k st w', I k st w' → F w')
    (hstep : ∀ k st W, k < most → I k st W → Calls Tryz.prog g cap W (turned (I (k + 1)) F (step st))) :
    Calls Tryz.prog 65 #[.pointer (some ⟨b, 0, none⟩), .int .u64 most, .func (.func g) #[] cap] w (turned (fun st w' => ∃ k, k ≤ most ∧ I k st w') F (eachO step most rest setR st)) := by
  obtain ⟨O, HO⟩ : ∃ O, Hid (eachO step most rest setR st = O) := ⟨_, hide rfl⟩
  have HO1 : Hid ((match cutN (rest st) with
    | none => none
    | some x => if x.1 ≤ most then runN step x.1 (setR st x.2) else none) = O) := HO
  rw [HO.out]
  clear HO
  have HN := hide (number_r w b (rest st) hin hlen)
  have HNUM := hide hnum
  have HF0 := hide hF0
  have HF := hide hF
  have HST := hide hstep
  unfold readAs at HN
  clear hnum hF0 hF hstep hin
  cases hc : cutN (rest st) with
  | none =>
    rw [hc] at HN HO1
    simp only at HN HO1
    clear hc
    go_enter Tryz.func65, Tryz.ntmps65
    go_wp2_with fail
    refine HN.out.mono ?_
    rintro e w1 ⟨hk, E, hE, rfl⟩
    refine ⟨rfl, ?_⟩
    rw [← HO1.out]
    exact ⟨⟨E, hE, rfl⟩, HF0.out w1 hk⟩
  | some x =>
    obtain ⟨n, r⟩ := x
    obtain ⟨hlt, hrl⟩ := cutN_lt hc
    rw [hc] at HN HO1
    simp only at HN HO1
    have HRL := hide hrl
    clear hc hrl
    by_cases hm : n ≤ most
    · rw [if_pos hm] at HO1
      have hmi : ¬ (most : Int) < (n : Int) := by omega
      have hmd : decide (most < n) = false := decide_eq_false (by omega)
      have hn1 : n ≤ 1000 := by omega
      clear hmi hlt
      have hm := hide hm
      go_enter Tryz.func65, Tryz.ntmps65
      go_wp2_with fail
      refine HN.out.mono ?_
      rintro e w1 ⟨hk, rfl, hi⟩
      have HI := hide (HNUM.out r w1 hk hi (Nat.le_of_lt HRL.out))
      clear hk hi HN HNUM
      go_wp2_with fail
      refine (refuse_any false 2 w1 (by decide)).mono ?_
      rintro e w2 ⟨rfl, hw2⟩
      subst hw2
      rw [if_neg (by simp), outc_ok]
      go_wp2
      go_loopw [14] (fun iv wr => ∃ (k : Nat) (s' : σ), k ≤ n ∧ iv = .int .u64 k ∧ Hid (runN step (n - k) s' = O) ∧ Hid (I k s' wr)) (fun iv _ => n - (intOf iv).toNat)
      case atStart => exact ⟨0, setR st r, by omega, rfl, HO1, HI⟩
      case round =>
        obtain ⟨k, s', hk, rfl, HR, HIs⟩ := hrel
        by_cases hlt : k < n
        · have hlti : (k : Int) < (n : Int) := by omega
          have HC := hide (HST.out k s' wr (by have := hm.out; omega) HIs.out)
          unfold turned at HC
          have hsub : n - k = (n - (k + 1)) + 1 := by omega
          have HR1 := HR.out
          rw [hsub] at HR1
          cases hs : step s' with
          | none =>
            rw [hs] at HC
            simp only at HC
            rw [runN_none hs] at HR1
            have HR2 := hide HR1
            clear hs hsub HR1
            go_wp2_with fail
            refine HC.out.mono ?_
            rintro e w3 ⟨⟨E, hE, rfl⟩, hf⟩
            refine ⟨rfl, ?_⟩
            rw [← HR2.out]
            exact ⟨⟨E, hE, rfl⟩, hf⟩
          | some s2 =>
            rw [hs] at HC
            simp only at HC
            rw [runN_some hs] at HR1
            have HR2 := hide HR1
            clear hs hsub HR1
            go_wp2_with fail
            refine HC.out.mono ?_
            rintro e w3 ⟨rfl, hi3⟩
            have HI3 := hide hi3
            clear hi3
            go_wp2
            go_roundw
            case rel => exact ⟨k + 1, s2, by omega, by go_num, HR2, HI3⟩
            case measure => simp [intOf]; omega
        · obtain rfl : k = n := by omega
          rw [Nat.sub_self] at HR
          go_wp2
          go_end0
          rw [← HR.out]
          exact ⟨rfl, _, hm.out, HIs.out⟩
    · rw [if_neg hm] at HO1
      have hmi : (most : Int) < (n : Int) := by omega
      have hmd : decide (most < n) = true := decide_eq_true (by omega)
      clear hm hmi hlt
      go_enter Tryz.func65, Tryz.ntmps65
      go_wp2_with fail
      refine HN.out.mono ?_
      rintro e w1 ⟨hk, rfl, hi⟩
      go_wp2_with fail
      refine (refuse_any true 2 w1 (by decide)).mono ?_
      rintro e w2 ⟨rfl, hw2⟩
      subst hw2
      rw [if_pos rfl, outc_no (by decide)]
      refine ⟨rfl, ?_⟩
      rw [← HO1.out]
      exact ⟨⟨2, by decide, rfl⟩, HF0.out _ hk⟩
end Go.Proofs.YtkaeogldielkfaaGreat.Rc
namespace Go.Proofs.YtkaeogldielkfaaGreat.Rc
open Go.RowKit Lb
attribute [local go_sem] bs_size bs_toList bs_append bs_get bs_extract
set_option maxHeartbeats 1000000 in
theorem isRef_any (n : Int) (w : World) : Calls Tryz.prog 31 #[.int .i64 n] w fun e w' => e = .returned (.bool (decide (numErr n = 0))) ∧ w' = w := by
  unfold numErr
  by_cases h1 : 1 ≤ n
  · by_cases h2 : n ≤ 1000000
    · rw [if_pos ⟨h1, h2⟩, decide_eq_true rfl]
      go_enter Tryz.func31, Tryz.ntmps31
      go_wp2
      go_ret
      exact ⟨ret_bool (by simp), rfl⟩
    · rw [if_neg (fun h => h2 h.2), decide_eq_false (by decide)]
      have h3 : ¬ n ≤ 1000000 := h2
      go_enter Tryz.func31, Tryz.ntmps31
      go_wp2
      go_ret
      exact ⟨ret_bool (by simp; try omega), rfl⟩
  · rw [if_neg (fun h => h1 h.1), decide_eq_false (by decide)]
    go_enter Tryz.func31, Tryz.ntmps31
    go_wp2
    go_ret
    exact ⟨ret_bool (by simp), rfl⟩
set_option maxHeartbeats 1000000 in
theorem isTime_any (n : Int) (w : World) : Calls Tryz.prog 29 #[.int .i64 n] w fun e w' => e = .returned (.bool (decide (timeErr n = 0))) ∧ w' = w := by
  unfold timeErr
  by_cases h1 : -9007199254740991 ≤ n
  · by_cases h2 : n ≤ 9007199254740991
    · rw [if_pos ⟨h1, h2⟩, decide_eq_true rfl]
      go_enter Tryz.func29, Tryz.ntmps29
      go_wp2
      go_ret
      exact ⟨ret_bool (by simp), rfl⟩
    · rw [if_neg (fun h => h2 h.2), decide_eq_false (by decide)]
      go_enter Tryz.func29, Tryz.ntmps29
      go_wp2
      go_ret
      exact ⟨ret_bool (by simp; try omega), rfl⟩
  · rw [if_neg (fun h => h1 h.1), decide_eq_false (by decide)]
    go_enter Tryz.func29, Tryz.ntmps29
    go_wp2
    go_ret
    exact ⟨ret_bool (by simp), rfl⟩
set_option maxRecDepth 20000 in
set_option maxHeartbeats 2000000 in
theorem rCheckRef_any (w : World) (x : RefL) (vl : Value) (hv : readsLabels w w.heap.size vl x.2) (hx : okRef x) :
    Calls Tryz.prog 28 #[.agg #[.int .i64 x.1, vl]] w fun e w' => e = .returned (.int .i64 (refErr x)) ∧ Grow w w' := by
  obtain ⟨E, HE⟩ : ∃ E, Hid (refErr x = E) := ⟨_, hide rfl⟩
  have HE1 : Hid ((if numErr x.1 ≠ 0 then numErr x.1 else if x.2.length = 0 then 1 else checkB x.2) = E) := HE
  rw [HE.out]
  clear HE
  obtain ⟨x1, ls⟩ := x
  obtain ⟨h0, h1, hl, hin⟩ := hx
  simp only at HE1 hv h0 h1 hl hin
  obtain ⟨lo, lc, rfl⟩ := readsLabels_len hv
  obtain ⟨W, eW, gW, hW⟩ := laid_at w #[.int .i64 x1, .slice lo ls.length lc] 59
  obtain ⟨c0, c1⟩ := two_of hW
  have HG := hide gW
  have HCK := hide (rCheckLabels_any W (.slice lo ls.length lc) ls (readsLabels_mono (readsLabels_below hv gW) gW.size) hl hin)
  generalize checkB ls = ce at HE1 HCK
  clear gW hW hv hin
  go_enter Tryz.func28, Tryz.ntmps28
  go_wp2_with fail
  refine (isRef_any x1 W).mono ?_
  rintro e w1 ⟨rfl, hw1⟩
  subst hw1
  by_cases hn : numErr x1 = 0
  · rw [if_neg (by omega)] at HE1
    rw [decide_eq_true hn]
    clear hn
    by_cases hz : ls.length = 0
    · rw [if_pos hz] at HE1
      have hzi : ((ls.length : Int) == 0) = true := by simp [hz]
      have hE : Hid (1 = E) := HE1
      clear hz
      go_wp2
      go_ret
      exact ⟨ret_int (by rw [← hE.out]; rfl), HG.out⟩
    · rw [if_neg hz] at HE1
      have hzi : ((ls.length : Int) == 0) = false := by rw [beq_eq_false_iff_ne]; omega
      clear hz
      go_wp2_with fail
      refine HCK.out.mono ?_
      rintro e w3 ⟨rfl, n3, hw3⟩
      have HG3 : Hid (Grow w w3) := hide (HG.out.trans (by rw [hw3]; exact ⟨rfl, rfl, rfl, Nat.le_refl _, fun _ _ => rfl⟩))
      clear hw3
      go_wp2
      go_ret
      exact ⟨ret_int (by rw [HE1.out]), HG3.out⟩
  · rw [if_pos hn] at HE1
    have hn3 : numErr x1 = 3 := by
      unfold numErr at hn ⊢
      by_cases h : 1 ≤ x1 ∧ x1 ≤ 1000000
      · rw [if_pos h] at hn; exact absurd rfl hn
      · exact if_neg h
    have hE : Hid (3 = E) := hide (by rw [← HE1.out, hn3])
    rw [decide_eq_false hn]
    clear hn hn3
    go_wp2
    go_ret
    exact ⟨ret_int (by rw [← hE.out]; rfl), HG.out⟩
end Go.Proofs.YtkaeogldielkfaaGreat.Rc
