/- record: the writer's words and single bytes. -/
import Derived.Laws.OwnMore
import Derived.Test.YtnlkfehnmijimaaProg
import Derived.Test.YtnlkfehnmijimaaKit
import Derived.Test.YtnlkfehnmijimaaSpec
import Derived.Test.YtnlkfehnmijimaaReg
import Derived.Test.YtnlkfehnmijimaaReg2
import Derived.Test.YtnlkfehnmijimaaLRow
import Derived.Test.YtnlkfehnmijimaaRcA
import Derived.Test.YtnlkfehnmijimaaRcW
import Derived.Test.YtnlkfehnmijimaaRcX
import Derived.BigQuiet
set_option linter.unusedVariables false
set_option linter.unusedSimpArgs false
namespace Go.Proofs.Ytnlkfehnmijimaa.Rc
open Go.RowKit
attribute [local go_sem] bs_size bs_toList bs_append bs_get bs_extract

/-- A byte that was laid for an append. -/
def newByte (w : World) (x : Value) (c : UInt8) : Prop := ∃ nb, x = .slice (some ⟨nb, 0, none⟩) 1 1 ∧ w.heap[nb]? = some (.cells #[.int .u8 (c.toNat : Int)] 5 (0, 0))
/-- What holds while a byte is written: ahead of its being laid, ahead of the append, and behind it. -/
def byteJ (w : World) (B b : Nat) (l : List UInt8) (c : UInt8) (v : Value) (bn : Bool) (xn : Value) (ba : Bool) (xa : Value) (w' : World) : Prop :=
  KeptX B b w w' ∧ B ≤ w'.heap.size ∧ w'.heap[b]? = some (.cells #[v] 47 (0, 0)) ∧
    (ba = false → w'.ownsRow B 5 1 v l.length (bytesV l)) ∧ (bn = true → ba = false → newByte w' xn c) ∧ (ba = true → w'.ownsRow B 5 1 xa (l.length + 1) (bytesV (l ++ [c])))
theorem byteJ.lay {w : World} {B b : Nat} {l : List UInt8} {c : UInt8} {v xn xa : Value} {w' : World} {ci : Int} (h : byteJ w B b l c v false xn false xa w') (hc : ci = (c.toNat : Int)) (ya : Value) :
    byteJ w B b l c v true (.slice (some ⟨w'.heap.size, 0, none⟩) 1 1) false ya (w'.alloc (.cells #[.int .u8 ci] 5)) := by
  subst hc
  obtain ⟨hk, hB, hb, ho, _, _⟩ := h
  have hg : Grow w' (w'.alloc (.cells #[.int .u8 (c.toNat : Int)] 5)) := (Grow.refl _).alloc _
  exact ⟨hk.trans (keptX_grow hg hB), by have := hg.size; omega, hg.get hb, fun _ => Lb.own_grow (ho rfl) hg, fun _ _ => ⟨_, rfl, heap_alloc_new _ _⟩, fun h => by cases h⟩
set_option maxRecDepth 20000 in
theorem byteJ.append {w : World} {B b : Nat} {l : List UInt8} {c : UInt8} {ao : Option Addr} {cp : Nat} {xn xa : Value} {w' : World} (h : byteJ w B b l c (.slice ao l.length cp) true xn false xa w') (hl : l.length ≤ 2000000) (ty : TypeId) :
    ∃ ao' cp' w3, (Builtin.append_ #[45, 45] ty #[.slice ao l.length cp, xn]).run Try.prog w' = .ok (.slice ao' (l.length + 1) cp') w3 ∧ ∀ yn, byteJ w B b l c (.slice ao l.length cp) true yn true (.slice ao' (l.length + 1) cp') w3 := by
  obtain ⟨i0, hi0, hz0, hz1, hz2⟩ := info_parts Try.info5
  obtain ⟨hk, hB, hb, ho, hn, _⟩ := h
  have ho := ho rfl
  obtain ⟨nb, rfl, hnb⟩ := hn rfl rfl
  obtain ⟨v', w3, hrun, hown3, hgrow, _⟩ := run_append_own (P := Try.prog) w' B 45 ty 5 i0 (.int .u8 0) 1 1 Try.underlying45 hi0 hz0 hz1 hz2 rfl (by omega) _ l.length (bytesV l) ho ⟨nb, 0, none⟩ 1 1 [.int .u8 (c.toNat : Int)] rfl (fun j u hu => by
    match j, hu with
    | 0, hu => simp at hu; subst hu; simpa [Addr.add] using cell_of_one hnb) (by simp [Value.oneCell']) (by unfold maxLen; omega) (by omega) hB
  obtain ⟨ao', cp', rfl⟩ := own_shape hown3
  have hbel : Below B w' w3 := (Below.refl B w').grown hgrow hB (fun k hk => (ho.lt k hk).1)
  refine ⟨ao', cp', w3, hrun, fun yn => ⟨hk.trans (keptX_app hbel ho hgrow), by have := hbel.size; omega, grown_block hgrow hb (own_apart ho hb (by decide)), (fun h => by cases h), (fun _ h => by cases h), fun _ => ?_⟩⟩
  rw [bytesV_append, bytesV_one]
  exact hown3
theorem byteJ.put {w : World} {B b : Nat} {l : List UInt8} {c : UInt8} {v xn xa : Value} {w' : World} (h : byteJ w B b l c v true xn true xa w') : wrote B b l [c] w (.returned (.tuple #[])) (w'.setCell ⟨b, 0, none⟩ xa) := by
  obtain ⟨hk, hB, hb, _, _, ho⟩ := h
  have ho := ho rfl
  refine ⟨hk.setCell _, rfl, by simpa [World.setCell] using hB, _, one_setCell hb, ?_⟩
  rw [List.length_append]
  exact ownsRow_setCell_other (a := ⟨b, 0, none⟩) ho (own_apart ho hb (by decide)) _

/-- A word's byte. -/
def byteAt (n j : Nat) : UInt8 := UInt8.ofNat (n / 256 ^ j % 256)
theorem byteAt_toNat (n j : Nat) : (byteAt n j).toNat = n / 256 ^ j % 256 := by
  unfold byteAt
  rw [UInt8.toNat_ofNat']
  omega
def wordR (n k : Nat) : List UInt8 := (List.range k).map (byteAt n)
theorem wordR_succ (n k : Nat) : wordR n (k + 1) = wordR n k ++ [byteAt n k] := by simp [wordR, List.range_succ]
theorem wordR_length (n k : Nat) : (wordR n k).length = k := by simp [wordR]

set_option maxRecDepth 20000 in
set_option maxHeartbeats 4000000 in
theorem eight_w (w : World) (B b n : Nat) (l : List UInt8) (hh : holdsW w B b l) (hl : l.length ≤ 1900000) (hn : n < 18446744073709551616) :
    Calls Try.prog 55 #[.pointer (some ⟨b, 0, none⟩), .int .u64 n] w (wrote B b l (wordR n 8) w) := by
  have HH := hide hh
  have HN := hide hn
  clear hh hn
  go_enter Try.func55, Try.ntmps55
  go_wp2
  go_loopw [5] (fun iv wr => ∃ j : Nat, j ≤ 8 ∧ iv = .int .i64 j ∧ Hid (KeptX B b w wr) ∧ Hid (holdsW wr B b (l ++ wordR n j))) (fun iv _ => 8 - (intOf iv).toNat)
  case atStart => exact ⟨0, by omega, rfl, hide (KeptX.refl _ _ _), hide (by simpa [wordR] using HH.out)⟩
  case round =>
    obtain ⟨j, hj, rfl, HK, HO⟩ := hrel
    by_cases hlt : j < 8
    · have hlti : (j : Int) < 8 := by omega
      have HNX := hide (wordR_succ n j)
      obtain ⟨l1, HL1⟩ : ∃ l1, Hid (l ++ wordR n j = l1) := ⟨_, hide rfl⟩
      have hl1 : l1.length ≤ 1900008 := by rw [← HL1.out, List.length_append, wordR_length]; omega
      rw [HL1.out] at HO
      obtain ⟨hB, v, hb, ho⟩ := HO.out
      obtain ⟨ao, cp, rfl⟩ := own_shape ho
      have HB := hide hb
      have HOW := hide ho
      obtain ⟨c, HC⟩ : ∃ c, Hid (byteAt n j = c) := ⟨_, hide rfl⟩
      have hcv : ((n : Int) / 256 ^ j % 256) = (c.toNat : Int) := by rw [← HC.out, byteAt_toNat]; push_cast; rfl
      have HCV := hide hcv
      clear hb ho hcv
      go_wp2
      refine wp_region_state 14 23 mixedR rfl (by decide +kernel) (fun L vals w' => byteJ wr B b l1 c (.slice ao l1.length cp) (L 10) (vals 10) (L 11) (vals 11) w')
        (fun L vals h => ?_)
        (fun i v => match i with
          | 0 => v = .pointer (some ⟨b, 0, none⟩)
          | 1 => v = .pointer (some ⟨b, 0, none⟩)
          | 2 => v = .pointer (some ⟨b, 0, none⟩)
          | 3 => v = .pointer (some ⟨b, 0, none⟩)
          | 4 => v = .slice ao l1.length cp
          | 5 => v = .int .u64 n
          | 6 => v = .int .i64 j
          | 7 => v = .int .i64 (8 * j : Nat)
          | 8 => v = .int .u64 (n / 256 ^ j : Nat)
          | 9 => v = .int .u8 (c.toNat : Int)
          | 10 => True
          | 11 => ∃ ao' cp', v = .slice ao' (l1.length + 1) cp'
          | 12 => v = .pointer (some ⟨b, 0, none⟩)
          | _ => v = .pointer (some ⟨b, 0, none⟩))
        (fun _ _ => False) (fun _ _ _ _ h => h.elim) (fun i hi o ho a w2 L vals hLi hLc hLe hJ hoff hval hdep => ?_) (fun vals w2 L hL hJ hvals => ?_)
      · simp only [h]
        exact ⟨⟨rfl, rfl, rfl, Nat.le_refl _, fun _ _ _ => rfl, fun _ _ _ _ _ h _ => h⟩, hB, HB.out, fun _ => HOW.out, (fun h => by cases h), (fun h => by cases h)⟩
      · obtain ⟨hk, hB2, hblk, hown, hown1, hown2⟩ := id hJ
        obtain ⟨c0, z0⟩ := one_cell hblk
        match i, hi with
        | 0, _ =>
          obtain rfl := Option.some.inj ho
          have o0 := hoff 0 (by decide +kernel)
          simp at o0
          simp [opYields, go_sem, o0]
          exact hJ
        | 1, _ =>
          obtain rfl := Option.some.inj ho
          have o0 := hoff 0 (by decide +kernel)
          simp at o0
          simp [opYields, go_sem, o0]
          exact hJ
        | 2, _ =>
          obtain rfl := Option.some.inj ho
          have d1 := hdep 1 (by decide +kernel)
          simp [slotOf, dstOf] at d1
          simp [opYields, go_sem, d1]
          exact hJ
        | 3, _ =>
          obtain rfl := Option.some.inj ho
          have d2 := hdep 2 (by decide +kernel)
          simp [slotOf, dstOf] at d2
          simp [opYields, go_sem, d2]
          exact hJ
        | 4, _ =>
          obtain rfl := Option.some.inj ho
          have d3 := hdep 3 (by decide +kernel)
          simp [slotOf, dstOf] at d3
          simp [opYields, go_sem, d3, c0]
          exact hJ
        | 5, _ =>
          obtain rfl := Option.some.inj ho
          have o1 := hoff 1 (by decide +kernel)
          simp at o1
          simp [opYields, go_sem, o1]
          exact hJ
        | 6, _ =>
          obtain rfl := Option.some.inj ho
          have o4 := hoff 4 (by decide +kernel)
          simp at o4
          simp [opYields, go_sem, o4]
          exact hJ
        | 7, _ =>
          obtain rfl := Option.some.inj ho
          have d6 := hdep 6 (by decide +kernel)
          simp [slotOf, dstOf] at d6
          simp [opYields, go_sem, d6]
          exact ⟨hJ, by rw [IntKind.wrap_i64]; omega⟩
        | 8, _ =>
          obtain rfl := Option.some.inj ho
          have d5 := hdep 5 (by decide +kernel)
          have d7 := hdep 7 (by decide +kernel)
          simp [slotOf, dstOf] at d5 d7
          simp [opYields, go_sem, d5, d7]
          have e8 : (2 : Int) ^ 8 = 256 := by decide
          exact ⟨hJ, by rw [show (8 * (j : Int)).toNat = 8 * j by omega, Int.pow_mul, e8]⟩
        | 9, _ =>
          obtain rfl := Option.some.inj ho
          have d8 := hdep 8 (by decide +kernel)
          simp [slotOf, dstOf] at d8
          simp [opYields, go_sem, d8]
          exact ⟨hJ, by rw [← HCV.out]; unfold IntKind.wrap; simp [IntKind.bits, IntKind.signed]⟩
        | 10, _ =>
          have h11 : L 11 = false := by
            cases h : L 11 with
            | false => rfl
            | true => have := hLc 11 h 10 (by decide +kernel); rw [hLi] at this; cases this
          obtain rfl := Option.some.inj ho
          have d9 := hdep 9 (by decide +kernel)
          simp [slotOf, dstOf] at d9
          rw [hLi, h11] at hJ
          simp [opYields, go_sem, d9, h11]
          exact hJ.lay rfl _
        | 11, _ =>
          have h10 := hLe 10 (by decide +kernel)
          obtain rfl := Option.some.inj ho
          have d4 := hdep 4 (by decide +kernel)
          have d10 := hval 10 (by decide +kernel)
          simp [slotOf, dstOf] at d4 d10
          rw [hLi, h10] at hJ
          obtain ⟨ao', cp', w3, hrun, hJ3⟩ := byteJ.append hJ (by omega) 45
          refine yields_append rfl (.tmp 12) (.tmp 18) _ _ rfl (v1 := .slice ao l1.length cp) (v2 := vals 10) (by simpa [Act.eval] using d4) (by simpa [Act.eval] using d10) hrun ?_
          simp only [h10]
          exact ⟨hJ3 _, ao', cp', rfl⟩
        | 12, _ =>
          obtain rfl := Option.some.inj ho
          have d0 := hdep 0 (by decide +kernel)
          simp [slotOf, dstOf] at d0
          simp [opYields, go_sem, d0]
          exact hJ
        | 13, _ =>
          obtain rfl := Option.some.inj ho
          have d12 := hdep 12 (by decide +kernel)
          simp [slotOf, dstOf] at d12
          simp [opYields, go_sem, d12]
          exact hJ
        | k + 14, h => exact absurd h (by omega)
      · have h10 := hL 10 (by omega)
        have h11 := hL 11 (by omega)
        rw [h10, h11] at hJ
        obtain ⟨ao', cp', v11⟩ := hvals 11 (by omega)
        have v13 := hvals 13 (by omega)
        simp only at v13
        have hP := hJ.put
        obtain ⟨hk, hB2, hblk, _, _, hown2⟩ := id hJ
        rw [v11] at hP
        have HP := hide hP
        clear hvals hP hJ hown2
        obtain ⟨c0, z0⟩ := one_cell hblk
        simp [over, dstOf, Act.put, v11, v13]
        go_wp2
        go_roundw
        case rel => exact ⟨j + 1, by omega, by go_num, hide (HK.out.trans HP.out.1), hide (by rw [HNX.out, ← List.append_assoc, HL1.out, HC.out]; exact HP.out.2.2)⟩
        case measure => simp [intOf]; omega
    · obtain rfl : j = 8 := by omega
      go_wp2
      go_end0
      exact ⟨HK.out, rfl, HO.out⟩
end Go.Proofs.Ytnlkfehnmijimaa.Rc
