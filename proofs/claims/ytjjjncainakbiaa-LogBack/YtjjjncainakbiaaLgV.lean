/- The reader of package log: take, number, noughts. -/
import Derived.Test.YtjjjncainakbiaaProg
import Derived.Test.YtjjjncainakbiaaKit
import Derived.Test.YtjjjncainakbiaaLgS
import Derived.Test.YtjjjncainakbiaaLgT
import Derived.Test.YtjjjncainakbiaaLgP
import Derived.Test.YtjjjncainakbiaaLgW
import Derived.Test.YtjjjncainakbiaaReg
import Derived.Test.YtjjjncainakbiaaReg2
import Derived.BigQuiet
import Derived.Laws.BitsAllLaws
import Derived.Laws.MakeOwn
set_option linter.unusedVariables false
set_option linter.unusedSimpArgs false
namespace Go.Proofs.Ytjjjncainakbiaa.Lg
open Go.RowKit
attribute [local go_sem] bs_size bs_toList bs_append bs_get bs_extract

/-- A reader of a log, in a block. -/
abbrev rdr (w : World) (b : Nat) (l : List UInt8) (at' : Nat) : Prop := w.heap[b]? = some (.cells #[.string (bs l), .int .i64 at'] 53 (0, 0))
theorem KeptB.mono {B A b : Nat} {w w' : World} (h : KeptB B b w w') (hA : A ≤ B) : KeptB A b w w' := ⟨h.os, h.tape, h.output, h.size, fun k hk hn => h.block k (by omega) hn⟩
theorem KeptB.more {B b : Nat} {a c d : World} (h : KeptB B b a c) (k : KeptB c.heap.size b c d) (hB : B ≤ a.heap.size) : KeptB B b a d := h.trans (k.mono (by have := h.size; omega))
theorem KeptB.drew {B b : Nat} {a c : World} (h : KeptB B b a c) (n : Nat) : KeptB B b a (c.drewN n) := ⟨h.os, h.tape, h.output, h.size, h.block⟩

set_option maxRecDepth 20000 in
theorem lgTake_any (w : World) (b at' n : Nat) (l : List UInt8) (hb : rdr w b l at') (hn : at' + n ≤ l.length) (hl : l.length ≤ 140737488355328) :
    Calls Try.prog 36 #[.pointer (some ⟨b, 0, none⟩), .int .i64 n] w fun e w' => e = .returned (.string (bs ((l.drop at').take n))) ∧ KeptB w.heap.size b w w' ∧ rdr w' b l (at' + n) := by
  obtain ⟨c0, c1, z0, z1⟩ := lgTwo hb
  have hk : KeptB w.heap.size b w (w.setCell ⟨b, 1, none⟩ (.int .i64 ((at' : Int) + n))) := (KeptB.refl _ _ _).setCell 1 _
  have hb2 : rdr (w.setCell ⟨b, 1, none⟩ (.int .i64 ((at' : Int) + n))) b l (at' + n) := by
    have := lgSet (i := 1) hb (.int .i64 ((at' : Int) + n))
    unfold rdr
    rw [this]
    simp
  obtain ⟨w1, hw1⟩ : ∃ w1, w.setCell ⟨b, 1, none⟩ (.int .i64 ((at' : Int) + n)) = w1 := ⟨_, rfl⟩
  rw [hw1] at hk hb2
  obtain ⟨d0, d1, y0, y1⟩ := lgTwo hb2
  have HK := hide hk
  have HB := hide hb2
  clear hk hb2 hb
  go_enter Try.func36, Try.ntmps36
  go_wp2
  go_quiet (fail)
  go_wp2
  go_ret
  refine ⟨?_, HK.out.drew _, HB.out⟩
  show Ending.returned (Value.string (bs (List.take (at' + n - at') (List.drop at' l)))) = _
  rw [Nat.add_sub_cancel_left]

set_option maxRecDepth 20000 in
theorem lgNumber_any (w : World) (b at' n : Nat) (l : List UInt8) (hb : rdr w b l at') (hn : at' + n ≤ l.length) (hn4 : n ≤ 4) (hl : l.length ≤ 140737488355328) :
    Calls Try.prog 35 #[.pointer (some ⟨b, 0, none⟩), .int .i64 n] w fun e w' => e = .returned (.int .u32 (lowN ((l.drop at').take n))) ∧ KeptB w.heap.size b w w' ∧ rdr w' b l (at' + n) := by
  have HB := hide hb
  clear hb
  go_enter Try.func35, Try.ntmps35
  go_wp2_with fail
  refine (lgTake_any w b at' n l HB.out hn hl).mono ?_
  rintro e w1 ⟨rfl, hk1, hb1⟩
  have HK1 := hide hk1
  have HB1 := hide hb1
  clear hk1 hb1
  have HT : Hid (((l.drop at').take n).length = n) := hide (by rw [List.length_take, List.length_drop]; omega)
  obtain ⟨T, HTd⟩ : ∃ T, Hid (T = (l.drop at').take n) := ⟨_, hide rfl⟩
  rw [← HTd.out] at HT ⊢
  have hT := HT.out
  go_wp2
  go_loop [6, 7] (fun x i => ∃ (m : Int) (N : Nat), -1 ≤ m ∧ m < n ∧ i = .int .i64 m ∧ x = .int .u32 N ∧ Hid (N = lowN (T.drop (m + 1).toNat))) (fun _ i => (intOf i + 1).toNat)
  case atStart => exact ⟨(n : Int) - 1, 0, by omega, by omega, rfl, rfl, hide (by rw [List.drop_eq_nil_of_le (by omega)]; rfl)⟩
  case round =>
    obtain ⟨m, N, hm1, hm2, rfl, rfl, HN⟩ := hrel
    by_cases hm : 0 ≤ m
    · obtain ⟨j, rfl⟩ := Int.eq_ofNat_of_zero_le hm
      have hjT : j < T.length := by omega
      have hc := T[j].toNat_lt
      have hNl : lowN (T.drop (j + 1)) < 256 ^ 3 := Nat.lt_of_lt_of_le (lowN_lt _) (Nat.pow_le_pow_right (by decide) (by rw [List.length_drop]; omega))
      have HD : Hid (bits .or .u32 ((N : Int) * 256 % 4294967296) (T[j].toNat : Int) = ((lowN (T.drop j) : Nat) : Int)) := hide (by
        have e1 := lowN_drop T j hjT
        have e2 : N = lowN (T.drop (j + 1)) := HN.out
        rw [← e2] at e1 hNl
        have e3 := u32_or_nat (N * 256) T[j].toNat (by omega) (by omega)
        rw [or_add_256n _ _ hc] at e3
        rw [e1, ← e3]
        congr 1
        omega)
      go_wp2
      go_round
      case rel => exact ⟨(j : Int) - 1, lowN (T.drop j), by omega, by omega, rfl, by rw [HD.out], hide (by rw [show ((j : Int) - 1 + 1).toNat = j from by omega])⟩
      case measure => simp [intOf]
    · obtain rfl : m = -1 := by omega
      go_wp2
      go_ret
      exact ⟨by rw [HN.out, ← HTd.out]; rfl, HK1.out, HB1.out⟩

theorem made_bytes (n : Nat) : madeCells (Value.int .u8 0).cells n = (bytesV (List.replicate n 0)).toArray := by
  apply Array.ext'
  simp only [madeCells, bytesV, Value.cells]
  simp
  exact List.ext_getElem (by simp) (fun i h1 h2 => by simp [Nat.mod_one])

/-- What stands where 'noughts' compares: the reader, and the noughts that it makes. -/
def zJ (w0 : World) (b : Nat) (l : List UInt8) (at' n : Nat) (L2 L4 : Bool) (v4 : Value) (w : World) : Prop :=
  KeptB w0.heap.size b w0 w ∧ b < w0.heap.size ∧ rdr w b l (if L2 then at' + n else at') ∧ (L4 = true → ∃ g, v4 = .slice (some ⟨g, 0, none⟩) n n ∧ g ≠ b ∧ w.heap[g]? = some (.cells (bytesV (List.replicate n 0)).toArray 5 (0, 0)))

set_option maxRecDepth 20000 in
set_option maxHeartbeats 1000000 in
theorem lgNoughts_any (w : World) (b at' : Nat) (l : List UInt8) (hb : rdr w b l at') (hn : at' ≤ l.length) (hl : l.length ≤ 140737488355328) :
    Calls Try.prog 34 #[.pointer (some ⟨b, 0, none⟩)] w fun e w' => e = .returned (.bool (decide ((l.drop at').take (padL at').length = padL at'))) ∧ KeptB w.heap.size b w w' ∧ ((l.drop at').take (padL at').length = padL at' → rdr w' b l (at' + (padL at').length)) := by
  obtain ⟨i0, hinf, hz0, hz1, hz2⟩ := info_parts Try.info5l
  have hlt := lt_of_block hb
  obtain ⟨c0, c1, z0, z1⟩ := lgTwo hb
  have HB := hide hb
  clear hb
  obtain ⟨k, hk⟩ : ∃ k, k = 128 - at' % 128 := ⟨_, rfl⟩
  have HP := hide (show padL at' = if k < 7 then List.replicate k 0 else [] from by rw [hk]; rfl)
  go_enter Try.func34, Try.ntmps34
  go_wp2_with fail
  refine (left_any_i _ at' _ (by omega) (by omega)).mono ?_
  rintro e w1 ⟨rfl, rfl⟩
  rw [← hk]
  have hk0 : 0 < k := by omega
  clear hk
  by_cases hk7 : k < 7
  · rw [if_pos hk7] at HP
    have hk7' : ¬ (7 : Int) ≤ k := by omega
    by_cases hfit : at' + k ≤ l.length
    · have hfit' : ¬ (l.length : Int) - (at' : Int) < k := by omega
      go_wp2_with fail
      go_quiet (fail)
      go_wp2_with fail
      generalize hW : World.drewN _ _ = w2
      have hk2 : KeptB w1.heap.size b w1 w2 := by rw [← hW]; exact (KeptB.refl _ _ _).drew _
      have hb2 : rdr w2 b l at' := by rw [← hW]; exact HB.out
      have hlt2 : b < w2.heap.size := lt_of_block hb2
      clear hW
      refine wp_region_state 7 30 Try.mixed3 rfl (by decide +kernel) (fun L vals w' => zJ w2 b l at' k (L 2) (L 4) (vals 4) w') (fun L vals h => ?_)
        (fun i v => match i with
          | 0 => v = .pointer (some ⟨b, 0, none⟩)
          | 1 => v = .int .i64 k
          | 2 => v = .string (bs ((l.drop at').take k))
          | 3 => v = .int .i64 k
          | 4 => ∃ g, v = .slice (some ⟨g, 0, none⟩) k k
          | 5 => v = .string (bs (List.replicate k 0))
          | _ => v = .bool (decide ((l.drop at').take k = List.replicate k 0)))
        (fun _ _ => False) (fun _ _ _ _ h => h.elim) (fun i hi o ho a w3 L vals hLi hLc hLe hJ hoff hval hdep => ?_) (fun vals w3 L hL hJ hvals => ?_)
      · simp only [h]
        exact ⟨(KeptB.refl _ _ _).drew 1, hlt2, hb2, fun h => by cases h⟩
      · obtain ⟨hk3, hlt3, hblk, hg4⟩ := id hJ
        match i, hi with
        | 0, _ =>
          obtain rfl := Option.some.inj ho
          have o0 := hoff 0 (by decide +kernel)
          simp at o0
          simp [opYields, go_sem, o0]
          exact hJ
        | 1, _ =>
          obtain rfl := Option.some.inj ho
          have o3 := hoff 3 (by decide +kernel)
          simp at o3
          simp [opYields, go_sem, o3]
          exact hJ
        | 2, _ =>
          rw [hLi] at hblk
          obtain rfl := Option.some.inj ho
          have d0 := hdep 0 (by decide +kernel)
          have d1 := hdep 1 (by decide +kernel)
          simp [slotOf, dstOf] at d0 d1
          simp [opYields, go_sem, d0, d1]
          refine (lgTake_any w3 b at' k l hblk hfit hl).mono ?_
          rintro e w4 ⟨rfl, hk4, hb4⟩
          refine ⟨⟨hk3.more hk4 (Nat.le_refl _), hlt3, hb4, fun h => ?_⟩, rfl⟩
          obtain ⟨g, e1, e2, e3⟩ := hg4 h
          exact ⟨g, e1, e2, (hk4.block g (lt_of_block e3) e2).trans e3⟩
        | 3, _ =>
          obtain rfl := Option.some.inj ho
          have o3 := hoff 3 (by decide +kernel)
          simp at o3
          simp [opYields, go_sem, o3]
          exact hJ
        | 4, _ =>
          have hmk := run_make (P := Try.prog) w3 44 5 i0 (.int .u8 0) Try.underlying44 hinf hz0 .i64 .i64 (k : Int) (k : Int) (by omega) (by omega) (by rw [hz2]; omega) (by omega)
          rw [hz1, Nat.mul_one, Int.toNat_natCast, made_bytes] at hmk
          obtain rfl := Option.some.inj ho
          have d3 := hdep 3 (by decide +kernel)
          simp [slotOf, dstOf] at d3
          simp [opYields, go_sem, d3, hmk]
          have hsz := hk3.size
          refine ⟨hk3.trans (keptB_of (Below.mono ((Below.refl _ _).alloc (Nat.le_refl _) _) hsz)), hlt3, ?_, fun _ => ⟨_, rfl, by omega, heap_alloc_new _ _⟩⟩
          show rdr _ b l _
          unfold rdr
          rw [Below.heap_alloc _ _ _ (lt_of_block hblk)]
          exact hblk
        | 5, _ =>
          have h4 := hLe 4 (by decide +kernel)
          obtain ⟨g, e1, e2, e3⟩ := hg4 h4
          have s4 := hval 4 (by decide +kernel)
          rw [e1] at s4
          obtain rfl := Option.some.inj ho
          simp [slotOf, dstOf] at s4
          have hcv := run_bytesStr (P := Try.prog) (w := w3) (base := 0) (v := .slice (some ⟨g, 0, none⟩) k k) (l := List.replicate k 0) (dst := 9) Try.underlying44 Try.underlying5 Try.underlying9 ⟨by rw [bytesV_length, Nat.mul_one], .inr ⟨g, k, _, by rw [List.length_replicate], Nat.zero_le _, e3, by rw [List.length_replicate]; exact Nat.le_refl _, by unfold maxLen; omega, by simp [bytesV_length], by simp; rw [List.take_of_length_le (by rw [bytesV_length, List.length_replicate]; exact Nat.le_refl _)]⟩⟩
          simp [opYields, go_sem, s4, hcv]
          exact hJ
        | 6, _ =>
          obtain rfl := Option.some.inj ho
          have d2 := hdep 2 (by decide +kernel)
          have d5 := hdep 5 (by decide +kernel)
          simp [slotOf, dstOf] at d2 d5
          simp [opYields, go_sem, d2, d5]
          exact ⟨hJ, Bool.eq_iff_iff.2 (by simp)⟩
      · have v6 := hvals 6 (by omega)
        simp only at v6
        obtain ⟨hk3, hlt3, hblk, hg4⟩ := id hJ
        rw [hL 2 (by omega)] at hblk
        have HK3 := hide (hk2.more hk3 (Nat.le_refl _))
        have HB3 := hide hblk
        clear hvals hJ hk3 hblk hg4
        simp [over, dstOf, Act.put, v6]
        have HZ : Hid ((l.drop at').take (padL at').length = (l.drop at').take k) := hide (by rw [HP.out, List.length_replicate])
        go_wp2
        go_ret
        refine ⟨ret_bool (by rw [HZ.out, HP.out]), HK3.out, fun _ => ?_⟩
        rw [HP.out, List.length_replicate]
        exact HB3.out
    · have hfit' : (l.length : Int) - (at' : Int) < k := by omega
      have HZ : Hid (¬ (l.drop at').take (padL at').length = padL at') := hide (by
        rw [HP.out, List.length_replicate]
        intro h
        have := congrArg List.length h
        simp at this
        omega)
      have hzf := HZ.out
      go_wp2_with fail
      go_quiet (fail)
      go_wp2
      go_ret
      exact ⟨ret_bool (by simp [hzf]), (KeptB.refl _ _ _).drew _, fun h => absurd h hzf⟩
  · rw [if_neg hk7] at HP
    have hk7' : (7 : Int) ≤ k := by omega
    go_wp2
    go_ret
    exact ⟨ret_bool (by rw [HP.out]; simp), KeptB.refl _ _ _, fun _ => by rw [HP.out]; exact HB.out⟩

end Go.Proofs.Ytjjjncainakbiaa.Lg
