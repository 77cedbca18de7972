/- record: the writer. -/
import Derived.Laws.OwnMore
import Derived.Test.YtnlkfehnmijimaaProg
import Derived.Test.YtnlkfehnmijimaaKit
import Derived.Test.YtnlkfehnmijimaaSpec
import Derived.Test.YtnlkfehnmijimaaReg
import Derived.Test.YtnlkfehnmijimaaReg2
import Derived.Test.YtnlkfehnmijimaaWNum
import Derived.Test.YtnlkfehnmijimaaLRow
import Derived.Test.YtnlkfehnmijimaaRcA
import Derived.BigQuiet
set_option linter.unusedVariables false
set_option linter.unusedSimpArgs false
namespace Go.Proofs.Ytnlkfehnmijimaa.Rc
open Go.RowKit
attribute [local go_sem] bs_size bs_toList bs_append bs_get bs_extract

theorem mixedR : Try.prog.follows .mixedOrders = true := by kernel_rfl
/-- Below block B nothing has turned, but for block b. -/
structure KeptX (B b : Nat) (w w' : World) : Prop where
  os : w'.os = w.os
  tape : w'.tape = w.tape
  output : w'.output = w.output
  size : w.heap.size ≤ w'.heap.size
  block : ∀ k, k < B → k ≠ b → w'.heap[k]? = w.heap[k]?
  typed : ∀ k c t fr, k ≠ b → w.heap[k]? = some (.cells c t fr) → 5 ≠ t → w'.heap[k]? = some (.cells c t fr)
theorem KeptX.refl (B b : Nat) (w : World) : KeptX B b w w := ⟨rfl, rfl, rfl, Nat.le_refl _, fun _ _ _ => rfl, fun _ _ _ _ _ h _ => h⟩
theorem KeptX.trans {B b : Nat} {a c d : World} (h : KeptX B b a c) (k : KeptX B b c d) : KeptX B b a d :=
  ⟨k.os.trans h.os, k.tape.trans h.tape, k.output.trans h.output, Nat.le_trans h.size k.size, fun i hi hn => (k.block i hi hn).trans (h.block i hi hn), fun i x t fr hn hx ht => k.typed i x t fr hn (h.typed i x t fr hn hx ht) ht⟩
theorem keptX_grow {B b : Nat} {w w' : World} (h : Grow w w') (hB : B ≤ w.heap.size) : KeptX B b w w' := ⟨h.os, h.tape, h.output, h.size, fun k hk _ => h.block k (Nat.lt_of_lt_of_le hk hB), fun k c t fr _ hx _ => h.get hx⟩
theorem keptX_app {B b size n : Nat} {w w' : World} {v : Value} {xs : List Value} (h : Below B w w') (ho : w.ownsRow B 5 size v n xs) (hg : w.grownBy w' v.ownBlock) : KeptX B b w w' :=
  ⟨h.os, h.tape, h.output, h.size, fun k hk _ => h.block k hk, fun k c t fr _ hx ht => grown_block hg hx (own_apart ho hx ht)⟩
theorem KeptX.below {B b A : Nat} {w w' : World} (h : KeptX B b w w') (h1 : A ≤ B) (h2 : A ≤ b) : Below A w w' := ⟨h.os, h.tape, h.output, h.size, fun k hk => h.block k (by omega) (by omega)⟩
theorem KeptX.setCell {B b : Nat} {w w' : World} (h : KeptX B b w w') (v : Value) : KeptX B b w (w'.setCell ⟨b, 0, none⟩ v) :=
  ⟨h.os, h.tape, h.output, by simpa [World.setCell] using h.size, fun k hk hn => (Below.heap_setCell _ _ _ _ hn).trans (h.block k hk hn), fun k c t fr hn hx ht => (Below.heap_setCell _ _ _ _ hn).trans (h.typed k c t fr hn hx ht)⟩
theorem KeptX.get {B b : Nat} {w w' : World} (h : KeptX B b w w') {k : Nat} {o : Obj} (hk : w.heap[k]? = some o) (h1 : k < B) (h2 : k ≠ b) : w'.heap[k]? = some o := (h.block k h1 h2).trans hk
theorem KeptX.drewN {B b : Nat} (w : World) (n : Nat) : KeptX B b w (w.drewN n) := ⟨rfl, rfl, rfl, Nat.le_refl _, fun _ _ _ => rfl, fun _ _ _ _ _ h _ => h⟩

/-- Block b is a writer that holds the bytes l; its row is among the blocks from B on. -/
def holdsW (w : World) (B b : Nat) (l : List UInt8) : Prop :=
  B ≤ w.heap.size ∧ ∃ v, w.heap[b]? = some (.cells #[v] 47 (0, 0)) ∧ w.ownsRow B 5 1 v l.length (bytesV l)
/-- What a writer's method does: it writes some bytes. -/
def wrote (B b : Nat) (l out : List UInt8) (w : World) (e : Ending) (w' : World) : Prop := KeptX B b w w' ∧ e = .returned (.tuple #[]) ∧ holdsW w' B b (l ++ out)
theorem holdsW_below {w w' : World} {B b : Nat} {l : List UInt8} (h : holdsW w B b l) {B' : Nat} (hb : Below B' w w') (hB : w.heap.size ≤ B') : holdsW w' B b l := by
  obtain ⟨h0, v, h1, h2⟩ := h
  refine ⟨by have := hb.size; omega, v, below_block hb h1 (by have := lt_of_block h1; omega), ?_⟩
  obtain ⟨h3, h4⟩ := h2
  refine ⟨h3, ?_⟩
  rcases h4 with h4 | ⟨g, cap, cur, r1, r2, r3, r4⟩
  · exact .inl h4
  · exact .inr ⟨g, cap, cur, r1, r2, below_block hb r3 (by have := lt_of_block r3; omega), r4⟩

/-- What holds while a number is written: ahead of the append and behind it. -/
def numJ (w : World) (B b : Nat) (l out : List UInt8) (v : Value) (b8 : Bool) (x : Value) (w' : World) : Prop :=
  KeptX B b w w' ∧ B ≤ w'.heap.size ∧ w'.heap[b]? = some (.cells #[v] 47 (0, 0)) ∧
    (b8 = false → w'.ownsRow B 5 1 v l.length (bytesV l)) ∧ (b8 = true → w'.ownsRow B 5 1 x (l.length + out.length) (bytesV (l ++ out)))
theorem one_cell {w : World} {b : Nat} {v : Value} {t : TypeId} (h : w.heap[b]? = some (.cells #[v] t (0, 0))) : w.cell? ⟨b, 0, none⟩ = some v ∧ w.frozen? ⟨b, 0, none⟩ = false := ⟨cell_of_one h, free_of_one h⟩

set_option maxRecDepth 20000 in
set_option maxHeartbeats 4000000 in
theorem number_w (w : World) (B b n : Nat) (l : List UInt8) (hh : holdsW w B b l) (hl : l.length ≤ 2000000) (hn : n < 9223372036854775808) :
    Calls Try.prog 52 #[.pointer (some ⟨b, 0, none⟩), .int .i64 n] w (wrote B b l (numB n) w) := by
  obtain ⟨hB, v, hb, ho⟩ := hh
  obtain ⟨ao, cp, rfl⟩ := own_shape ho
  obtain ⟨i0, hinf, hz0, hz1, hz2⟩ := info_parts Try.info5
  have HB := hide hb
  have HO := hide ho
  have hnl := numB_length n
  clear hb ho
  go_enter Try.func52, Try.ntmps52
  go_wp2
  refine wp_region_state 11 15 mixedR rfl (by decide +kernel) (fun L vals w' => numJ w B b l (numB n) (.slice ao l.length cp) (L 8) (vals 8) w')
    (fun L vals h => ?_)
    (fun i v => match i with
      | 0 => v = .pointer (some ⟨b, 0, none⟩)
      | 1 => v = .pointer (some ⟨b, 0, none⟩)
      | 2 => v = .pointer (some ⟨b, 0, none⟩)
      | 3 => v = .pointer (some ⟨b, 0, none⟩)
      | 4 => v = .slice ao l.length cp
      | 5 => v = .int .i64 n
      | 6 => v = .int .u64 n
      | 7 => v = .string (bs (numB n))
      | 8 => ∃ ao' cp', v = .slice ao' (l.length + (numB n).length) cp'
      | 9 => v = .pointer (some ⟨b, 0, none⟩)
      | _ => v = .pointer (some ⟨b, 0, none⟩))
    (fun _ _ => False) (fun _ _ _ _ h => h.elim) (fun i hi o ho a w2 L vals hLi hLc hLe hJ hoff hval hdep => ?_) (fun vals w2 L hL hJ hvals => ?_)
  · simp only [h]
    exact ⟨⟨rfl, rfl, rfl, Nat.le_refl _, fun _ _ _ => rfl, fun _ _ _ _ _ h _ => h⟩, hB, HB.out, fun _ => HO.out, fun h => by cases h⟩
  · obtain ⟨hk, hB2, hblk, hown, hown2⟩ := id hJ
    obtain ⟨c0, z0⟩ := one_cell hblk
    match i, hi with
    | 0, _ =>
      obtain rfl := Option.some.inj ho
      have o0 := hoff 0 (by decide +kernel)
      simp at o0
      simp [opYields, go_sem, o0]
      exact hJ
    | 1, _ =>
      obtain rfl := Option.some.inj ho
      have o0 := hoff 0 (by decide +kernel)
      simp at o0
      simp [opYields, go_sem, o0]
      exact hJ
    | 2, _ =>
      obtain rfl := Option.some.inj ho
      have d1 := hdep 1 (by decide +kernel)
      simp [slotOf, dstOf] at d1
      simp [opYields, go_sem, d1]
      exact hJ
    | 3, _ =>
      obtain rfl := Option.some.inj ho
      have d2 := hdep 2 (by decide +kernel)
      simp [slotOf, dstOf] at d2
      simp [opYields, go_sem, d2]
      exact hJ
    | 4, _ =>
      obtain rfl := Option.some.inj ho
      have d3 := hdep 3 (by decide +kernel)
      simp [slotOf, dstOf] at d3
      simp [opYields, go_sem, d3, c0]
      exact hJ
    | 5, _ =>
      obtain rfl := Option.some.inj ho
      have o1 := hoff 1 (by decide +kernel)
      simp at o1
      simp [opYields, go_sem, o1]
      exact hJ
    | 6, _ =>
      obtain rfl := Option.some.inj ho
      have d5 := hdep 5 (by decide +kernel)
      simp [slotOf, dstOf] at d5
      simp [opYields, go_sem, d5]
      exact ⟨hJ, by rw [IntKind.wrap_u64]; omega⟩
    | 7, _ =>
      obtain rfl := Option.some.inj ho
      have d6 := hdep 6 (by decide +kernel)
      simp [slotOf, dstOf] at d6
      simp [opYields, go_sem, d6]
      refine (number_any n w2 (by omega)).mono ?_
      rintro e w3 ⟨rfl, hb3⟩
      refine ⟨⟨hk.trans (keptX_grow hb3 hB2), by have := hb3.size; omega, below_block hb3 hblk (lt_of_block hblk), fun h => Lb.own_grow (hown (by simpa using h)) hb3, fun h => Lb.own_grow (hown2 (by simpa using h)) hb3⟩, rfl⟩
    | 8, _ =>
      have hown := hown hLi
      obtain rfl := Option.some.inj ho
      have d4 := hdep 4 (by decide +kernel)
      have d7 := hdep 7 (by decide +kernel)
      simp [slotOf, dstOf] at d4 d7
      obtain ⟨v', w3, hrun, hown3, hgrow, _⟩ := Lib.run_append_own_string (P := Try.prog) w2 B 45 9 45 5 i0 Try.underlying45 Try.underlying9 hinf hz0 hz1 hz2 _ l.length (bytesV l) hown (bs (numB n)) (by rw [bs_size]; unfold maxLen; omega) (by rw [bs_size]; omega) (by omega)
      rw [bs_size, strCells_bs, ← bytesV_append] at hown3
      refine yields_append rfl (.tmp 8) (.tmp 11) _ _ rfl (v1 := .slice ao l.length cp) (v2 := .string (bs (numB n))) (by simpa [Act.eval] using d4) (by simpa [Act.eval] using d7) hrun ?_
      obtain ⟨ao', cp', rfl⟩ := own_shape hown3
      have hbel : Below B w2 w3 := (Below.refl B w2).grown hgrow hB2 (fun k hk => (hown.lt k hk).1)
      exact ⟨⟨hk.trans (keptX_app hbel hown hgrow), by have := hbel.size; omega, grown_block hgrow hblk (own_apart hown hblk (by decide)), fun h => by simp at h, fun _ => hown3⟩, ao', cp', rfl⟩
    | 9, _ =>
      obtain rfl := Option.some.inj ho
      have d0 := hdep 0 (by decide +kernel)
      simp [slotOf, dstOf] at d0
      simp [opYields, go_sem, d0]
      exact hJ
    | 10, _ =>
      obtain rfl := Option.some.inj ho
      have d9 := hdep 9 (by decide +kernel)
      simp [slotOf, dstOf] at d9
      simp [opYields, go_sem, d9]
      exact hJ
    | k + 11, h => exact absurd h (by omega)
  · have h8 := hL 8 (by omega)
    obtain ⟨hk, hB2, hblk, _, hown2⟩ := hJ
    have hown2 := hown2 h8
    obtain ⟨ao', cp', v8⟩ := hvals 8 (by omega)
    have v10 := hvals 10 (by omega)
    simp only at v10
    rw [v8] at hown2
    clear hvals
    obtain ⟨c0, z0⟩ := one_cell hblk
    simp [over, dstOf, Act.put, v8, v10]
    go_wp2
    go_end0
    refine ⟨hk.setCell _, rfl, by simpa [World.setCell] using hB2, _, one_setCell hblk, ?_⟩
    have := ownsRow_setCell_other (a := ⟨b, 0, none⟩) hown2 (own_apart hown2 hblk (by decide)) (.slice ao' (l.length + (numB n).length) cp')
    rw [List.length_append]
    exact this
end Go.Proofs.Ytnlkfehnmijimaa.Rc
