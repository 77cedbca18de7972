/- gleanerref's writing: fieldOf, Word, Unsigned, CheckSeries, WriteOf. -/
import Derived.Test.YtojljbgopknbcaaProg
import Derived.Test.YtojljbgopknbcaaKit
import Derived.Test.YtojljbgopknbcaaSpec
import Derived.Test.YtojljbgopknbcaaReg
import Derived.Test.YtojljbgopknbcaaWNum
import Derived.Test.YtojljbgopknbcaaWTop
set_option linter.unusedVariables false
set_option linter.unusedSimpArgs false
namespace Go.Proofs.Ytojljbgopknbcaa
open Go.RowKit
attribute [local go_sem] bs_size bs_toList bs_append bs_get bs_extract

/-- A field's first byte. -/
def tagB (n : Nat) : UInt8 := UInt8.ofNat (8 * n + 2)
theorem tagB_toNat (n : Nat) (h : n < 15) : ((tagB n).toNat : Int) = 8 * n + 2 := by simp [tagB]; omega
theorem numB_tag (n : Nat) (h : n < 15) : numB (8 * n + 2) = [tagB n] := numF_small _ _ (by omega)

def byteAt (w : World) (g : Nat) (c : Int) : Prop := w.heap[g]? = some (.cells #[.int .u8 c] 5 (0, 0))
theorem byteAt_new (w : World) (c : Int) : byteAt (w.alloc (.cells #[.int .u8 c] 5)) w.heap.size c := heap_alloc_new _ _

theorem Try.mixed : Try.prog.follows .mixedOrders = true := by kernel_rfl

set_option maxRecDepth 20000 in
set_option maxHeartbeats 1000000 in
theorem fieldOf_any (n : Nat) (s : List UInt8) (w : World) (hn : n < 15) (hs : s.length ≤ 9223372036854775000) :
    Calls Try.prog 27 #[.int .i64 n, .string (bs s)] w fun e w' => e = .returned (.string (bs (fieldB (8 * n + 2) s))) ∧ Below w.heap.size w w' := by
  go_enter Try.func27, Try.ntmps27
  go_wp2
  refine wp_region_free 13 18 Try.mixed rfl (by decide +kernel) Grow (fun _ _ _ => Grow.trans) (Grow.refl _)
    (fun i v w => match i with
      | 0 => v = .int .i64 n
      | 1 => v = .int .i64 (8 * n)
      | 2 => v = .int .i64 (8 * n + 2)
      | 3 => v = .int .u8 (8 * n + 2)
      | 4 => ∃ g, v = .slice (some ⟨g, 0, none⟩) 1 1 ∧ byteAt w g (8 * n + 2)
      | 5 => v = .string (bs [tagB n])
      | 6 => v = .string (bs s)
      | 7 => v = .int .i64 s.length
      | 8 => v = .int .u64 s.length
      | 9 => v = .string (bs (numB s.length))
      | 10 => v = .string (bs (tagB n :: numB s.length))
      | 11 => v = .string (bs s)
      | _ => v = .string (bs (tagB n :: (numB s.length ++ s))))
    (fun i v w w' h hg => ?_) (fun _ _ => False) (fun _ _ _ _ h => h.elim) (fun i hi o ho a w1 hG hoff hdep => ?_) (fun vals w1 hG hvals => ?_)
  · match i, h with
    | 4, ⟨g, h1, h2⟩ => exact ⟨g, h1, hg.get h2⟩
    | 0, h => exact h
    | 1, h => exact h
    | 2, h => exact h
    | 3, h => exact h
    | 5, h => exact h
    | 6, h => exact h
    | 7, h => exact h
    | 8, h => exact h
    | 9, h => exact h
    | 10, h => exact h
    | 11, h => exact h
    | _ + 12, h => exact h
  · have hl := numB_length s.length
    match i, hi with
    | 0, _ =>
      obtain rfl := Option.some.inj ho
      have o0 := hoff 0 (by decide +kernel)
      simp at o0
      simp [opYields, go_sem, o0]
      exact Grow.refl _
    | 1, _ =>
      obtain rfl := Option.some.inj ho
      have d0 := hdep 0 (by decide +kernel)
      simp [slotOf, dstOf] at d0
      simp [opYields, go_sem, d0]
      exact ⟨Grow.refl _, wrap_i64_small _ (by omega) (by omega)⟩
    | 2, _ =>
      obtain rfl := Option.some.inj ho
      have d1 := hdep 1 (by decide +kernel)
      simp [slotOf, dstOf] at d1
      simp [opYields, go_sem, d1]
      exact ⟨Grow.refl _, wrap_i64_small _ (by omega) (by omega)⟩
    | 3, _ =>
      obtain rfl := Option.some.inj ho
      have d2 := hdep 2 (by decide +kernel)
      simp [slotOf, dstOf] at d2
      simp [opYields, go_sem, d2]
      exact ⟨Grow.refl _, wrap_u8_small _ (by omega) (by omega)⟩
    | 4, _ =>
      obtain rfl := Option.some.inj ho
      have d3 := hdep 3 (by decide +kernel)
      simp [slotOf, dstOf] at d3
      simp [opYields, go_sem, d3]
      exact ⟨(Grow.refl _).alloc _, byteAt_new _ _⟩
    | 5, _ =>
      obtain rfl := Option.some.inj ho
      have d4 := hdep 4 (by decide +kernel)
      simp [slotOf, dstOf] at d4
      obtain ⟨g, g1, g2⟩ := d4
      have hcv := run_oneAt (P := Try.prog) w1 Try.underlying39 Try.underlying5 Try.underlying9 g2 (tagB n) (tagB_toNat n hn)
      simp [opYields, go_sem, g1, hcv]
      exact Grow.refl _
    | 6, _ =>
      obtain rfl := Option.some.inj ho
      have o1 := hoff 1 (by decide +kernel)
      simp at o1
      simp [opYields, go_sem, o1]
      exact Grow.refl _
    | 7, _ =>
      obtain rfl := Option.some.inj ho
      have d6 := hdep 6 (by decide +kernel)
      simp [slotOf, dstOf] at d6
      simp [opYields, go_sem, d6]
      exact Grow.refl _
    | 8, _ =>
      obtain rfl := Option.some.inj ho
      have d7 := hdep 7 (by decide +kernel)
      simp [slotOf, dstOf] at d7
      simp [opYields, go_sem, d7]
      exact ⟨Grow.refl _, wrap_u64_small _ (by omega) (by omega)⟩
    | 9, _ =>
      obtain rfl := Option.some.inj ho
      have d8 := hdep 8 (by decide +kernel)
      simp [slotOf, dstOf] at d8
      simp [opYields, go_sem, d8]
      refine (numberOf_any s.length w1 (by omega)).mono ?_
      rintro e w2 ⟨rfl, hb⟩
      exact ⟨hb, rfl⟩
    | 10, _ =>
      obtain rfl := Option.some.inj ho
      have d5 := hdep 5 (by decide +kernel)
      simp [slotOf, dstOf] at d5
      have d9 := hdep 9 (by decide +kernel)
      simp [slotOf, dstOf] at d9
      simp [opYields, go_sem, d5, d9]
      rw [if_neg (by omega)]
      exact ⟨Grow.refl _, rfl⟩
    | 11, _ =>
      obtain rfl := Option.some.inj ho
      have o1 := hoff 1 (by decide +kernel)
      simp at o1
      simp [opYields, go_sem, o1]
      exact Grow.refl _
    | 12, _ =>
      obtain rfl := Option.some.inj ho
      have d10 := hdep 10 (by decide +kernel)
      simp [slotOf, dstOf] at d10
      have d11 := hdep 11 (by decide +kernel)
      simp [slotOf, dstOf] at d11
      simp [opYields, go_sem, d10, d11]
      rw [if_neg (by omega)]
      exact ⟨Grow.refl _, rfl⟩
  · have v12 := hvals 12 (by omega)
    simp only at v12
    clear hvals
    simp [over, dstOf, Act.put, v12]
    go_wp2
    go_ret
    refine ⟨?_, hG.undrew⟩
    rw [fieldB, numB_tag n hn]
    rfl

theorem fieldOf_one (s : List UInt8) (w : World) (hs : s.length ≤ 9223372036854775000) :
    Calls Try.prog 27 #[.int .i64 1, .string (bs s)] w fun e w' => e = .returned (.string (bs (fieldB 10 s))) ∧ Below w.heap.size w w' := fieldOf_any 1 s w (by omega) hs
theorem fieldOf_two (s : List UInt8) (w : World) (hs : s.length ≤ 9223372036854775000) :
    Calls Try.prog 27 #[.int .i64 2, .string (bs s)] w fun e w' => e = .returned (.string (bs (fieldB 18 s))) ∧ Below w.heap.size w w' := fieldOf_any 2 s w (by omega) hs

set_option maxRecDepth 20000 in
set_option maxHeartbeats 1000000 in
theorem word_any (n : Nat) (w : World) (hn : n < 18446744073709551616) :
    Calls Try.prog 28 #[.int .u64 n] w fun e w' => e = .returned (.string (bs (wordB n))) ∧ Below w.heap.size w w' := by
  obtain ⟨i0, hi, hz0, hz1, hz2⟩ := info_parts Try.info5
  have HN := hide hn
  clear hn
  go_enter Try.func28, Try.ntmps28
  go_wp2
  go_loopw [0, 3, 4] (fun n0 v i wr => ∃ (k n' : Nat) (done : List UInt8), k ≤ 8 ∧ done.length = k ∧ i = .int .i64 k ∧ Hid (wordB n = done ++ wordF (8 - k) n' ∧ n' ≤ n) ∧ n0 = .int .u64 n' ∧ wr.ownsRow w.heap.size 5 1 v k (bytesV done) ∧ Below w.heap.size w wr) (fun _ _ i _ => 8 - (intOf i).toNat)
  case atStart => exact ⟨0, n, [], by omega, rfl, rfl, ⟨rfl, Nat.le_refl _⟩, rfl, World.ownsRow_nil _ _ _ _, Below.refl _ _⟩
  case round =>
    obtain ⟨k, n', done, hk, hdl, rfl, H, rfl, hown, hb⟩ := hrel
    have hsz := hb.size
    by_cases hlt : k < 8
    · have hq : IntKind.u64.wrap ((n' : Int) / 256) = ((n' / 256 : Nat) : Int) := by
        have h1 := H.out.2
        have h2 := HN.out
        rw [wrap_u64_small _ (by omega) (by omega)]; omega
      have hdl' := hide hdl
      clear hdl
      go_wp2_with (at_builtin; refine wpList_append_own _ rfl _ _ 39 rfl w.heap.size 5 i0 (.int .u8 0) 1 1 Try.underlying39 hi hz0 hz1 hz2 rfl (by decide) _ k (bytesV done) rfl (hown.alloc _) ⟨wr.heap.size, 0, none⟩ 1 1 (bytesV [UInt8.ofNat n']) rfl rfl (bcell _ _ _ _ (by simp)) (bytesV_oneCell _) (by unfold maxLen; omega) (by omega) (by simp; omega) ?_; intro v' w1 hown' hgrow _; rw [← bytesV_append] at hown')
      go_roundw
      case rel => exact ⟨k + 1, n' / 256, done ++ [UInt8.ofNat n'], by omega, by simp [hdl'.out], by go_num, ⟨by rw [H.out.1, show 8 - k = (8 - (k + 1)) + 1 from by omega]; simp [wordF], by have := H.out.2; omega⟩, by go_num, hown', (hb.alloc hsz _).grown hgrow (by simp; omega) (fun j hj => (hown.lt j hj).1)⟩
      case measure => simp [intOf]; omega
    · obtain rfl : k = 8 := by omega
      have hcv := run_bytesStr (P := Try.prog) Try.underlying39 Try.underlying5 Try.underlying9 (l := done) (by rw [hdl]; exact hown)
      go_wp2
      go_ret
      exact ⟨by rw [H.out.1]; simp [wordF], hb⟩

set_option maxRecDepth 20000 in
set_option maxHeartbeats 1000000 in
theorem unsigned_any (t : Int) (w : World) (h0 : -9007199254740991 ≤ t) (h1 : t ≤ 9007199254740991) :
    Calls Try.prog 29 #[.int .i64 t] w fun e w' => e = .returned (.int .u64 (unsig t)) ∧ w' = w := by
  go_enter Try.func29, Try.ntmps29
  by_cases h : 0 ≤ t
  · go_wp2
    go_ret
    exact ⟨ret_int (by unfold unsig; omega), rfl⟩
  · go_wp2
    go_ret
    exact ⟨ret_int (by unfold unsig; omega), rfl⟩

set_option maxRecDepth 20000 in
set_option maxHeartbeats 1000000 in
theorem isTime_any (t : Int) (w : World) :
    Calls Try.prog 42 #[.int .i64 t] w fun e w' => e = .returned (.bool (decide (-9007199254740991 ≤ t) && decide (t ≤ 9007199254740991))) ∧ w' = w := by
  go_enter Try.func42, Try.ntmps42
  by_cases h : -9007199254740991 ≤ t
  · by_cases h' : t ≤ 9007199254740991
    · go_wp2
      go_ret
      simp [h, h']
    · go_wp2
      go_ret
      simp [h, h']
  · go_wp2
    go_ret
    simp
    omega

end Go.Proofs.Ytojljbgopknbcaa
