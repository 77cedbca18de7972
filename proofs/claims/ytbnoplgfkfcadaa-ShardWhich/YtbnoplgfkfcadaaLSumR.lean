/- The reference's sums: Xor, SumOf$1, SumOf$2, SumOf. -/
import Derived.Test.YtbnoplgfkfcadaaProg
import Derived.Test.YtbnoplgfkfcadaaKit
import Derived.Test.YtbnoplgfkfcadaaLSpec
import Derived.Test.YtbnoplgfkfcadaaLSumM
import Derived.Test.YtbnoplgfkfcadaaReg
import Derived.Test.YtbnoplgfkfcadaaLRow
import Derived.Test.YtbnoplgfkfcadaaLSum
import Derived.Test.YtbnoplgfkfcadaaSpec
import Derived.BigQuiet
import Derived.Laws.EntriesVeiled
set_option linter.unusedVariables false
set_option linter.unusedSimpArgs false
namespace Go.Proofs.Ytbnoplgfkfcadaa.Lb
open Go.RowKit
attribute [local go_sem] bs_size bs_toList bs_append bs_get bs_extract

theorem Try.mixed2 : Try.prog.follows .mixedOrders = true := by kernel_rfl

set_option maxHeartbeats 1000000 in
theorem xor_any (A B : Nat) (w : World) (hA : A < 256) (hB : B < 256) : Calls Try.prog 30 #[.int .i64 A, .int .i64 B] w fun e w' => e = .returned (.int .i64 (A ^^^ B : Nat)) ∧ w' = w := by
  have HX : Hid (A ^^^ B < 256) := Nat.xor_lt_two_pow (n := 8) hA hB
  go_enter Try.func30, Try.ntmps30
  go_wp2
  go_loop [0, 1, 5, 6] (fun vx vy vo vb => ∃ (x y o b : Nat), vx = .int .i64 x ∧ vy = .int .i64 y ∧ vo = .int .i64 o ∧ vb = .int .i64 b ∧ x ≤ 255 ∧ y ≤ 255 ∧ b ≤ 512 ∧ o ≤ 255 ∧ Hid (b * x ≤ 255 ∧ b * y ≤ 255 ∧ o + b * (x ^^^ y) = A ^^^ B)) (fun vx vy _ _ => (intOf vx).toNat + (intOf vy).toNat)
  case atStart => exact ⟨A, B, 0, 1, rfl, rfl, rfl, rfl, by omega, by omega, by omega, by omega, hide ⟨by omega, by omega, by omega⟩⟩
  case round =>
    obtain ⟨x, y, o, b, rfl, rfl, rfl, rfl, hx, hy, hb, ho, HI⟩ := hrel
    by_cases hxy : 0 < x ∨ 0 < y
    · have HB : Hid (b ≤ 255) := by
        show _ ≤ _
        obtain ⟨h1, h2, _⟩ := HI.out
        rcases hxy with h | h
        · have := Nat.mul_le_mul (Nat.le_refl b) (show 1 ≤ x by omega); omega
        · have := Nat.mul_le_mul (Nat.le_refl b) (show 1 ≤ y by omega); omega
      have hb2 : b ≤ 255 := HB.out
      have HS := hide (xor_step x y)
      have HNew : Hid (∀ o', o' = o + b * (if x % 2 = y % 2 then 0 else 1) → o' ≤ 255 ∧ (2 * b * (x / 2) ≤ 255 ∧ 2 * b * (y / 2) ≤ 255 ∧ o' + 2 * b * (x / 2 ^^^ y / 2) = A ^^^ B)) := by
        intro o' ho'
        obtain ⟨h1, h2, h3⟩ := HI.out
        have e1 : 2 * b * (x / 2) = b * (2 * (x / 2)) := by rw [Nat.mul_comm 2 b, Nat.mul_assoc]
        have e2 : 2 * b * (y / 2) = b * (2 * (y / 2)) := by rw [Nat.mul_comm 2 b, Nat.mul_assoc]
        have e3 : 2 * b * (x / 2 ^^^ y / 2) = b * (2 * (x / 2 ^^^ y / 2)) := by rw [Nat.mul_comm 2 b, Nat.mul_assoc]
        have k1 := Nat.mul_le_mul (Nat.le_refl b) (show 2 * (x / 2) ≤ x by omega)
        have k2 := Nat.mul_le_mul (Nat.le_refl b) (show 2 * (y / 2) ≤ y by omega)
        rw [HS.out, Nat.mul_add] at h3
        have := HX.out
        rw [e1, e2, e3]
        exact ⟨by omega, by omega, by omega, by omega⟩
      have htest : (0 : Int) < x ∨ (0 : Int) < y := by omega
      by_cases he : x % 2 = y % 2
      · have HNow := hide (HNew.out o (by rw [if_pos he]; omega))
        have he' : (((x : Int) % 2) != ((y : Int) % 2)) = false := by simp; omega
        by_cases hx0 : 0 < x
        · have hx0' : (0 : Int) < x := by omega
          clear htest hxy
          go_wp2
          go_round
          case rel => exact ⟨x / 2, y / 2, o, 2 * b, by go_num, by go_num, rfl, by go_num, by omega, by omega, by omega, ho, hide HNow.out.2⟩
          case measure => simp [intOf]; omega
        · have hx0' : ¬ (0 : Int) < x := by omega
          have hy0' : (0 : Int) < y := by omega
          clear htest hxy
          go_wp2
          go_round
          case rel => exact ⟨x / 2, y / 2, o, 2 * b, by go_num, by go_num, rfl, by go_num, by omega, by omega, by omega, ho, hide HNow.out.2⟩
          case measure => simp [intOf]; omega
      · have HNow := hide (HNew.out (o + b) (by rw [if_neg he]; omega))
        have he' : (((x : Int) % 2) != ((y : Int) % 2)) = true := by simp; omega
        have hob : o + b ≤ 255 := HNow.out.1
        by_cases hx0 : 0 < x
        · have hx0' : (0 : Int) < x := by omega
          clear htest hxy
          go_wp2
          go_round
          case rel => exact ⟨x / 2, y / 2, o + b, 2 * b, by go_num, by go_num, by go_num, by go_num, by omega, by omega, by omega, hob, hide HNow.out.2⟩
          case measure => simp [intOf]; omega
        · have hx0' : ¬ (0 : Int) < x := by omega
          have hy0' : (0 : Int) < y := by omega
          clear htest hxy
          go_wp2
          go_round
          case rel => exact ⟨x / 2, y / 2, o + b, 2 * b, by go_num, by go_num, by go_num, by go_num, by omega, by omega, by omega, hob, hide HNow.out.2⟩
          case measure => simp [intOf]; omega
    · obtain rfl : x = 0 := by omega
      obtain rfl : y = 0 := by omega
      have HO : Hid (o = A ^^^ B) := by
        show _ = _
        have := HI.out.2.2
        simpa using this
      go_wp2
      go_ret
      exact ⟨ret_int (by rw [← HO.out]), rfl⟩

/-- The four digits as they lie. -/
def digs (h : Nat) : Array Value := #[.int .i64 (gd h 0 : Nat), .int .i64 (gd h 1 : Nat), .int .i64 (gd h 2 : Nat), .int .i64 (gd h 3 : Nat)]

theorem four_cells0 {w : World} {b : Nat} {x y z u : Value} {t : TypeId} (h : w.heap[b]? = some (.cells #[x, y, z, u] t (0, 0))) : w.cell? ⟨b, 0, none⟩ = some x ∧ w.cell? ⟨b, 1, none⟩ = some y ∧ w.cell? ⟨b, 2, none⟩ = some z ∧ w.cell? ⟨b, 3, none⟩ = some u := by simp [World.cell?, h]
theorem one_cell0 {w : World} {b : Nat} {x : Value} {t : TypeId} (h : w.heap[b]? = some (.cells #[x] t (0, 0))) : w.cell? ⟨b, 0, none⟩ = some x := by simp [World.cell?, h]
theorem set_blk {w : World} {b i : Nat} {c : Array Value} {t : TypeId} {fr : Nat × Nat} (h : w.heap[b]? = some (.cells c t fr)) (u : Value) : (w.setCell ⟨b, i, none⟩ u).heap[b]? = some (.cells (c.setIfInBounds i u) t fr) := by
  have hlt := lt_of_block h
  have h' : w.heap[b] = .cells c t fr := by simpa [Array.getElem?_eq_getElem hlt] using h
  show (w.heap.modify b _)[b]? = _
  rw [Array.getElem?_eq_getElem (by simpa using hlt), Array.getElem_modify_self, h']
  rfl
theorem cell_in {w : World} {b k : Nat} {cur : Array Value} {t : TypeId} {v : Value} (h : w.heap[b]? = some (.cells cur t (0, 0))) (hc : cur[k]? = some v) : w.cell? ⟨b, k, none⟩ = some v := by simp [World.cell?, h, hc]
theorem cell_of_block {w w' : World} {b : Nat} (h : w'.heap[b]? = w.heap[b]?) {o : Nat} {sp : Option Nat} : w'.cell? ⟨b, o, sp⟩ = w.cell? ⟨b, o, sp⟩ := by simp [World.cell?, h]
theorem set_off {w : World} {b i k : Nat} (u : Value) (h : k ≠ b) : (w.setCell ⟨b, i, none⟩ u).heap[k]? = w.heap[k]? := by
  show (w.heap.modify b _)[k]? = _
  rw [Array.getElem?_modify, if_neg (fun e => h e.symm)]
theorem grown_set {w : World} {b i : Nat} {u : Value} : w.grownBy (w.setCell ⟨b, i, none⟩ u) (some b) :=
  ⟨rfl, rfl, rfl, by show _ ≤ (w.heap.modify b _).size; simp, fun k hk hn => set_off u (fun e => hn (by rw [e]))⟩
theorem grownT {a b c : World} {row : Option Nat} (h : a.grownBy b row) (k : b.grownBy c row) : a.grownBy c row :=
  ⟨k.os.trans h.os, k.tape.trans h.tape, k.output.trans h.output, Nat.le_trans h.size k.size, fun i hi hn => (k.block i (Nat.lt_of_lt_of_le hi h.size) hn).trans (h.block i hi hn)⟩
theorem grownB {w w' : World} {row : Option Nat} (h : Below w.heap.size w w') : w.grownBy w' row := ⟨h.os, h.tape, h.output, h.size, fun i hi _ => h.block i hi⟩
theorem thaw0 {w : World} {b : Nat} {c : Array Value} {t : TypeId} (h : w.heap[b]? = some (.cells c t (0, 0))) (i : Nat) : w.frozen? ⟨b, i, none⟩ = false := by simp [World.frozen?, h]

set_option maxRecDepth 20000 in
set_option maxHeartbeats 1000000 in
theorem sumAdd_any (w : World) (pb hb h c : Nat) (hh : h < 18446744073709551616) (hc : c < 256) (hp : w.heap[pb]? = some (.cells #[.slice (some ⟨hb, 0, none⟩) 4 4] 59 (0, 0))) (hd : w.heap[hb]? = some (.cells (digs h) 3 (0, 0))) (hne : pb ≠ hb) :
    Calls Try.prog 29 #[.int .i64 c, .pointer (some ⟨pb, 0, none⟩)] w fun e w' => e = .returned (.tuple #[]) ∧ w.grownBy w' (some hb) ∧ w'.heap[hb]? = some (.cells (digs (sumStep h c)) 3 (0, 0)) := by
  have hd0 := hd
  unfold digs at hd
  have g0 := gd_lt h 0
  have HXL := hide (xor_low h c hc)
  have HStep : Hid (h ^^^ c < 18446744073709551616 ∧ sumStep h c = (h ^^^ c) * 1099511628211 % 18446744073709551616) := ⟨Nat.xor_lt_two_pow (n := 64) hh (by omega), by unfold sumStep; rfl⟩
  generalize h ^^^ c = g at HXL HStep
  generalize gd h 0 = G0 at hd g0 HXL
  generalize gd h 1 = G1 at hd HXL
  generalize gd h 2 = G2 at hd HXL
  generalize gd h 3 = G3 at hd HXL
  generalize sumStep h c = r at HStep ⊢
  clear hh hd0
  have HX : Hid (G0 % 256 ^^^ c < 256) := Nat.xor_lt_two_pow (n := 8) (by omega) (by omega)
  go_enter Try.func29, Try.ntmps29
  go_wp2
  refine wp_region_free 14 59 Try.mixed2 rfl (by decide +kernel) Grow (fun _ _ _ => Grow.trans) (Grow.refl _)
    (fun i v _ => match i with
      | 0 => v = .slice (some ⟨hb, 0, none⟩) 4 4
      | 1 => v = .slice (some ⟨hb, 0, none⟩) 4 4
      | 2 => v = .pointer (some ⟨hb, 0, none⟩)
      | 3 => v = .int .i64 (G0 : Nat)
      | 4 => v = .int .i64 (G0 / 256 : Nat)
      | 5 => v = .int .i64 (G0 / 256 * 256 : Nat)
      | 6 => v = .slice (some ⟨hb, 0, none⟩) 4 4
      | 7 => v = .pointer (some ⟨hb, 0, none⟩)
      | 8 => v = .int .i64 (G0 : Nat)
      | 9 => v = .int .i64 (G0 % 256 : Nat)
      | 10 => v = .int .i64 c
      | 11 => v = .int .i64 (G0 % 256 ^^^ c : Nat)
      | 12 => v = .int .i64 (G0 / 256 * 256 + (G0 % 256 ^^^ c) : Nat)
      | _ => v = .pointer (some ⟨hb, 0, none⟩))
    (fun i v w w' h hg => h) (fun _ _ => False) (fun _ _ _ _ h => h.elim) (fun i hi o ho a w2 hG hoff hdep => ?_) (fun vals w2 hG hvals => ?_)
  · have p0 := one_cell0 (below_block hG.undrew hp (lt_of_block hp))
    obtain ⟨c0, c1, c2, c3⟩ := four_cells0 (below_block hG.undrew hd (lt_of_block hd))
    match i, hi with
    | 0, _ =>
      obtain rfl := Option.some.inj ho
      have o1 := hoff 1 (by decide +kernel)
      simp at o1
      simp [opYields, go_sem, o1, p0]
      exact Grow.refl _
    | 1, _ =>
      obtain rfl := Option.some.inj ho
      have o1 := hoff 1 (by decide +kernel)
      simp at o1
      simp [opYields, go_sem, o1, p0]
      exact Grow.refl _
    | 2, _ =>
      obtain rfl := Option.some.inj ho
      have d1 := hdep 1 (by decide +kernel)
      simp [slotOf, dstOf] at d1
      simp [opYields, go_sem, d1]
      exact Grow.refl _
    | 3, _ =>
      obtain rfl := Option.some.inj ho
      have d2 := hdep 2 (by decide +kernel)
      simp [slotOf, dstOf] at d2
      simp [opYields, go_sem, d2, c0]
      exact Grow.refl _
    | 4, _ =>
      obtain rfl := Option.some.inj ho
      have d3 := hdep 3 (by decide +kernel)
      simp [slotOf, dstOf] at d3
      simp [opYields, go_sem, d3]
      exact ⟨Grow.refl _, wrap_i64_small _ (by omega) (by omega)⟩
    | 5, _ =>
      obtain rfl := Option.some.inj ho
      have d4 := hdep 4 (by decide +kernel)
      simp [slotOf, dstOf] at d4
      simp [opYields, go_sem, d4]
      exact ⟨Grow.refl _, wrap_i64_small _ (by omega) (by omega)⟩
    | 6, _ =>
      obtain rfl := Option.some.inj ho
      have o1 := hoff 1 (by decide +kernel)
      simp at o1
      simp [opYields, go_sem, o1, p0]
      exact Grow.refl _
    | 7, _ =>
      obtain rfl := Option.some.inj ho
      have d6 := hdep 6 (by decide +kernel)
      simp [slotOf, dstOf] at d6
      simp [opYields, go_sem, d6]
      exact Grow.refl _
    | 8, _ =>
      obtain rfl := Option.some.inj ho
      have d7 := hdep 7 (by decide +kernel)
      simp [slotOf, dstOf] at d7
      simp [opYields, go_sem, d7, c0]
      exact Grow.refl _
    | 9, _ =>
      obtain rfl := Option.some.inj ho
      have d8 := hdep 8 (by decide +kernel)
      simp [slotOf, dstOf] at d8
      simp [opYields, go_sem, d8]
      exact ⟨Grow.refl _, Int.tmod_eq_emod_of_nonneg (by omega)⟩
    | 10, _ =>
      obtain rfl := Option.some.inj ho
      have o0 := hoff 0 (by decide +kernel)
      simp at o0
      simp [opYields, go_sem, o0]
      exact Grow.refl _
    | 11, _ =>
      obtain rfl := Option.some.inj ho
      have d9 := hdep 9 (by decide +kernel)
      simp [slotOf, dstOf] at d9
      have d10 := hdep 10 (by decide +kernel)
      simp [slotOf, dstOf] at d10
      simp [opYields, go_sem, d9, d10]
      refine (xor_any (G0 % 256) c w2 (by omega) hc).mono ?_
      rintro e w3 ⟨rfl, rfl⟩
      exact ⟨Grow.refl _, rfl⟩
    | 12, _ =>
      obtain rfl := Option.some.inj ho
      have d5 := hdep 5 (by decide +kernel)
      simp [slotOf, dstOf] at d5
      have d11 := hdep 11 (by decide +kernel)
      simp [slotOf, dstOf] at d11
      simp [opYields, go_sem, d5, d11]
      exact ⟨Grow.refl _, wrap_i64_small _ (by omega) (by have := HX.out; omega)⟩
    | 13, _ =>
      obtain rfl := Option.some.inj ho
      have d0 := hdep 0 (by decide +kernel)
      simp [slotOf, dstOf] at d0
      simp [opYields, go_sem, d0]
      exact Grow.refl _
  · have v12 := hvals 12 (by omega)
    have v13 := hvals 13 (by omega)
    simp only at v12 v13
    clear hvals
    have hp2 := below_block hG.undrew hp (lt_of_block hp)
    have hd2 := below_block hG.undrew hd (lt_of_block hd)
    have hg2 : w.grownBy w2 (some hb) := grownB hG.undrew
    obtain ⟨c0, c1, c2, c3⟩ := four_cells0 hd2
    have z0 := thaw0 hd2 0
    simp [over, dstOf, Act.put, v12, v13]
    go_wp2
    have e0 : ((G0 : Int) / 256 * 256 + ((G0 % 256 ^^^ c : Nat) : Int)) = ((gd g 0 : Nat) : Int) := by have := HXL.out.1; omega
    rw [e0]
    have hd3 : (w2.setCell ⟨hb, 0, none⟩ (.int .i64 (gd g 0 : Nat))).heap[hb]? = some (.cells #[.int .i64 (gd g 0 : Nat), .int .i64 (gd g 1 : Nat), .int .i64 (gd g 2 : Nat), .int .i64 (gd g 3 : Nat)] 3 (0, 0)) := by
      rw [set_blk hd2, HXL.out.2.1, HXL.out.2.2.1, HXL.out.2.2.2]; rfl
    have hp3 : (w2.setCell ⟨hb, 0, none⟩ (.int .i64 (gd g 0 : Nat))).heap[pb]? = some (.cells #[.slice (some ⟨hb, 0, none⟩) 4 4] 59 (0, 0)) := by rw [set_off _ hne]; exact hp2
    have hg3 : w.grownBy (w2.setCell ⟨hb, 0, none⟩ (.int .i64 (gd g 0 : Nat))) (some hb) := grownT hg2 grown_set
    generalize w2.setCell ⟨hb, 0, none⟩ (.int .i64 (gd g 0 : Nat)) = w3 at hd3 hp3 hg3 ⊢
    clear hd2 hp2 hg2 c0 c1 c2 c3 z0 e0 hd hp HX v12 v13 hG
    have a0 := gd_lt g 0
    have a1 := gd_lt g 1
    have HS0 : Hid (sd g 0 = 0 ∧ sd g 1 = 0 ∧ sd g 2 = gd g 0 % 256 * 256 ∧ sd g 3 = gd g 0 / 256 + gd g 1 % 256 * 256) := ⟨rfl, rfl, rfl, rfl⟩
    obtain ⟨A0, HA0⟩ : ∃ A, Hid (gd g 0 = A) := ⟨_, hide rfl⟩
    obtain ⟨A1, HA1⟩ : ∃ A, Hid (gd g 1 = A) := ⟨_, hide rfl⟩
    have hd3' := hd3
    rw [HA0.out, HA1.out] at hd3'
    rw [HA0.out] at a0
    rw [HA1.out] at a1
    refine wp_region_free 15 59 Try.mixed2 rfl (by decide +kernel) Grow (fun _ _ _ => Grow.trans) (Grow.refl _)
      (fun i v _ => match i with
        | 0 => v = .slice (some ⟨hb, 0, none⟩) 4 4
        | 1 => v = .pointer (some ⟨hb, 0, none⟩)
        | 2 => v = .int .i64 (A0 : Nat)
        | 3 => v = .int .i64 (A0 % 256 : Nat)
        | 4 => v = .int .i64 (A0 % 256 * 256 : Nat)
        | 5 => v = .slice (some ⟨hb, 0, none⟩) 4 4
        | 6 => v = .pointer (some ⟨hb, 0, none⟩)
        | 7 => v = .int .i64 (A0 : Nat)
        | 8 => v = .int .i64 (A0 / 256 : Nat)
        | 9 => v = .slice (some ⟨hb, 0, none⟩) 4 4
        | 10 => v = .pointer (some ⟨hb, 1, none⟩)
        | 11 => v = .int .i64 (A1 : Nat)
        | 12 => v = .int .i64 (A1 % 256 : Nat)
        | 13 => v = .int .i64 (A1 % 256 * 256 : Nat)
        | _ => v = .int .i64 (A0 / 256 + A1 % 256 * 256 : Nat))
      (fun i v w w' h hg => h) (fun _ _ => False) (fun _ _ _ _ h => h.elim) (fun i hi o ho a w2 hG hoff hdep => ?_) (fun vals w4 hG hvals => ?_)
    · have p0 := one_cell0 (below_block hG.undrew hp3 (lt_of_block hp3))
      obtain ⟨c0, c1, c2, c3⟩ := four_cells0 (below_block hG.undrew hd3' (lt_of_block hd3'))
      match i, hi with
      | 0, _ =>
        obtain rfl := Option.some.inj ho
        have o1 := hoff 1 (by decide +kernel)
        simp at o1
        simp [opYields, go_sem, o1, p0]
        exact Grow.refl _
      | 1, _ =>
        obtain rfl := Option.some.inj ho
        have d0 := hdep 0 (by decide +kernel)
        simp [slotOf, dstOf] at d0
        simp [opYields, go_sem, d0]
        exact Grow.refl _
      | 2, _ =>
        obtain rfl := Option.some.inj ho
        have d1 := hdep 1 (by decide +kernel)
        simp [slotOf, dstOf] at d1
        simp [opYields, go_sem, d1, c0]
        exact Grow.refl _
      | 3, _ =>
        obtain rfl := Option.some.inj ho
        have d2 := hdep 2 (by decide +kernel)
        simp [slotOf, dstOf] at d2
        simp [opYields, go_sem, d2]
        exact ⟨Grow.refl _, Int.tmod_eq_emod_of_nonneg (by omega)⟩
      | 4, _ =>
        obtain rfl := Option.some.inj ho
        have d3 := hdep 3 (by decide +kernel)
        simp [slotOf, dstOf] at d3
        simp [opYields, go_sem, d3]
        exact ⟨Grow.refl _, wrap_i64_small _ (by omega) (by omega)⟩
      | 5, _ =>
        obtain rfl := Option.some.inj ho
        have o1 := hoff 1 (by decide +kernel)
        simp at o1
        simp [opYields, go_sem, o1, p0]
        exact Grow.refl _
      | 6, _ =>
        obtain rfl := Option.some.inj ho
        have d5 := hdep 5 (by decide +kernel)
        simp [slotOf, dstOf] at d5
        simp [opYields, go_sem, d5]
        exact Grow.refl _
      | 7, _ =>
        obtain rfl := Option.some.inj ho
        have d6 := hdep 6 (by decide +kernel)
        simp [slotOf, dstOf] at d6
        simp [opYields, go_sem, d6, c0]
        exact Grow.refl _
      | 8, _ =>
        obtain rfl := Option.some.inj ho
        have d7 := hdep 7 (by decide +kernel)
        simp [slotOf, dstOf] at d7
        simp [opYields, go_sem, d7]
        exact ⟨Grow.refl _, wrap_i64_small _ (by omega) (by omega)⟩
      | 9, _ =>
        obtain rfl := Option.some.inj ho
        have o1 := hoff 1 (by decide +kernel)
        simp at o1
        simp [opYields, go_sem, o1, p0]
        exact Grow.refl _
      | 10, _ =>
        obtain rfl := Option.some.inj ho
        have d9 := hdep 9 (by decide +kernel)
        simp [slotOf, dstOf] at d9
        simp [opYields, go_sem, d9]
        exact Grow.refl _
      | 11, _ =>
        obtain rfl := Option.some.inj ho
        have d10 := hdep 10 (by decide +kernel)
        simp [slotOf, dstOf] at d10
        simp [opYields, go_sem, d10, c1]
        exact Grow.refl _
      | 12, _ =>
        obtain rfl := Option.some.inj ho
        have d11 := hdep 11 (by decide +kernel)
        simp [slotOf, dstOf] at d11
        simp [opYields, go_sem, d11]
        exact ⟨Grow.refl _, Int.tmod_eq_emod_of_nonneg (by omega)⟩
      | 13, _ =>
        obtain rfl := Option.some.inj ho
        have d12 := hdep 12 (by decide +kernel)
        simp [slotOf, dstOf] at d12
        simp [opYields, go_sem, d12]
        exact ⟨Grow.refl _, wrap_i64_small _ (by omega) (by omega)⟩
      | 14, _ =>
        obtain rfl := Option.some.inj ho
        have d8 := hdep 8 (by decide +kernel)
        simp [slotOf, dstOf] at d8
        have d13 := hdep 13 (by decide +kernel)
        simp [slotOf, dstOf] at d13
        simp [opYields, go_sem, d8, d13]
        exact ⟨Grow.refl _, wrap_i64_small _ (by omega) (by omega)⟩
    · have v4 := hvals 4 (by omega)
      have v14 := hvals 14 (by omega)
      simp only at v4 v14
      rw [← HA0.out] at v4
      rw [← HA0.out, ← HA1.out] at v14
      clear hvals
      have hp4 := below_block hG.undrew hp3 (lt_of_block hp3)
      have hd4 := below_block hG.undrew hd3 (lt_of_block hd3)
      have hg4 : w.grownBy w4 (some hb) := grownT hg3 (grownB hG.undrew)
      clear hG hd3' hd3 hp3 hg3 HA0 HA1 a0 a1
      have e2 : (Value.int .i64 ((gd g 0 % 256 * 256 : Nat) : Int)) = .int .i64 (sd g 2 : Nat) := by rw [HS0.out.2.2.1]
      have e3 : (Value.int .i64 ((gd g 0 / 256 + gd g 1 % 256 * 256 : Nat) : Int)) = .int .i64 (sd g 3 : Nat) := by rw [HS0.out.2.2.2]
      rw [e2] at v4
      rw [e3] at v14
      simp only [over, dstOf, Act.put, v4, v14]
      simp
      obtain ⟨w5, HW5⟩ : ∃ w5, Hid (w4.alloc (.cells #[.int .i64 0, .int .i64 0, .int .i64 (sd g 2 : Nat), .int .i64 (sd g 3 : Nat)] 3) = w5) := ⟨_, hide rfl⟩
      have hs5 : w5.heap[w4.heap.size]? = some (.cells #[.int .i64 0, .int .i64 0, .int .i64 (sd g 2 : Nat), .int .i64 (sd g 3 : Nat)] 3 (0, 0)) := by rw [← HW5.out]; exact heap_alloc_new _ _
      have hgr : Grow w4 w5 := by rw [← HW5.out]; exact (Grow.refl w4).alloc _
      have hp5 := hgr.get hp4
      have hd5 := hgr.get hd4
      have hg5 : w.grownBy w5 (some hb) := grownT hg4 (grownB hgr)
      have hsb : w4.heap.size ≠ hb := by have := lt_of_block hd4; omega
      have hps : pb ≠ w4.heap.size := by have := lt_of_block hp4; omega
      go_wp2
      rw [HW5.out]
      go_loopw [4, 5] (fun v i wr => ∃ (k q : Nat) (cur : Array Value), k ≤ 4 ∧ i = .int .i64 k ∧ v = .int .i64 q ∧ q ≤ 500 ∧ Hid (q = car g k) ∧ wr.heap[hb]? = some (.cells cur 3 (0, 0)) ∧ cur.size = 4 ∧ Hid (∀ j, j < 4 → cur[j]? = some (.int .i64 ((if j < k then res g j else gd g j : Nat) : Int))) ∧
          wr.heap[w4.heap.size]? = some (.cells #[.int .i64 0, .int .i64 0, .int .i64 (sd g 2 : Nat), .int .i64 (sd g 3 : Nat)] 3 (0, 0)) ∧ wr.heap[pb]? = some (.cells #[.slice (some ⟨hb, 0, none⟩) 4 4] 59 (0, 0)) ∧ w.grownBy wr (some hb)) (fun _ i _ => 4 - (intOf i).toNat)
      case atStart =>
        refine ⟨0, 0, _, by omega, rfl, rfl, by omega, rfl, hd5, rfl, hide (fun j hj => ?_), hs5, hp5, hg5⟩
        match j, hj with
        | 0, _ => rfl
        | 1, _ => rfl
        | 2, _ => rfl
        | 3, _ => rfl
      case round =>
        clear hs5 hp5 hd5 hg5 hgr hp4 hd4 hg4 HW5
        obtain ⟨k, q, cur, hk, rfl, rfl, hq, HQ, hcur, hcs, HC, hsr, hpr, hgr⟩ := hrel
        rename World => wr
        by_cases hk4 : k < 4
        · have hk4' : (k : Int) < 4 := by omega
          have hG := gd_lt g k
          have hS := sd_lt g k
          have cP := one_cell0 hpr
          have cG : wr.cell? ⟨hb, k, none⟩ = some (.int .i64 (gd g k : Nat)) := cell_in hcur (by rw [HC.out k hk4, if_neg (by omega)])
          have cS : wr.cell? ⟨w4.heap.size, k, none⟩ = some (.int .i64 (sd g k : Nat)) := cell_in hsr (by
            match k, hk4 with
            | 0, _ => rfl
            | 1, _ => rfl
            | 2, _ => rfl
            | 3, _ => rfl)
          have z0 := thaw0 hcur k
          have HT : Hid (res g k = (q + (gd g k * 435 + sd g k)) % 65536 ∧ car g (k + 1) = (q + (gd g k * 435 + sd g k)) / 65536) := ⟨by rw [HQ.out]; rfl, by rw [HQ.out]; rfl⟩
          have HCK : Hid (∀ j, j < 4 → j ≠ k → ((if j < k then res g j else gd g j) = (if j < k + 1 then res g j else gd g j))) := by
            intro j hj hne
            by_cases h : j < k
            · rw [if_pos h, if_pos (by omega)]
            · rw [if_neg h, if_neg (by omega)]
          obtain ⟨G, HGk⟩ : ∃ G, Hid (gd g k = G) := ⟨_, hide rfl⟩
          obtain ⟨S, HSk⟩ : ∃ S, Hid (sd g k = S) := ⟨_, hide rfl⟩
          rw [HGk.out] at cG hG HT
          rw [HSk.out] at cS hS HT
          have hcar := car_le g (k + 1)
          rw [HT.out.2] at hcar
          go_wp2
          go_quiet (fail)
          go_wp2
          go_roundw
          case rel =>
            refine ⟨k + 1, (q + (G * 435 + S)) / 65536, cur.setIfInBounds k (.int .i64 ((q + (G * 435 + S)) % 65536 : Nat)), by omega, by go_num, by go_num, hcar, by show _ = _; rw [HT.out.2], ?_, by simp; exact hcs, hide (fun j hj => ?_), ?_, ?_, ?_⟩
            · refine (set_blk (w := wr.drewN _) (i := k) hcur _).trans ?_
              rw [show ((q : Int) + ((G : Int) * 435 + (S : Int))) % 65536 = (((q + (G * 435 + S)) % 65536 : Nat) : Int) by omega]
            · by_cases e : j = k
              · subst e
                rw [if_pos (by omega), HT.out.1, Array.getElem?_setIfInBounds_self_of_lt (by omega)]
              · rw [Array.getElem?_setIfInBounds_ne (fun h => e h.symm), HC.out j hj, HCK.out j hj e]
            · exact (set_off (w := wr.drewN _) _ hsb).trans hsr
            · exact (set_off (w := wr.drewN _) _ hne).trans hpr
            · exact grownT (b := wr.drewN nq) ⟨hgr.os, hgr.tape, hgr.output, hgr.size, hgr.block⟩ grown_set
          case measure => simp [intOf]; omega
        · obtain rfl : k = 4 := by omega
          go_wp2
          go_end0
          refine ⟨rfl, hgr, ?_⟩
          have e : cur = digs r := by
            apply Array.ext
            · rw [hcs]; rfl
            · intro i h1 h2
              have hi : i < 4 := by omega
              have := HC.out i hi
              rw [if_pos hi, Array.getElem?_eq_getElem h1, times_res g HStep.out.1 i hi, ← HStep.out.2] at this
              have := Option.some.inj this
              rw [this]
              match i, hi with
              | 0, _ => rfl
              | 1, _ => rfl
              | 2, _ => rfl
              | 3, _ => rfl
          rw [← e]
          exact hcur

set_option maxRecDepth 20000 in
set_option maxHeartbeats 1000000 in
theorem sumText_any (w : World) (fb pb hb h : Nat) (s : List UInt8) (hs : s.length ≤ 1000) (hh : h < 18446744073709551616) (hf : w.heap[fb]? = some (.cells #[.func (.func 29) #[] #[.pointer (some ⟨pb, 0, none⟩)]] 61 (0, 0))) (hp : w.heap[pb]? = some (.cells #[.slice (some ⟨hb, 0, none⟩) 4 4] 59 (0, 0))) (hd : w.heap[hb]? = some (.cells (digs h) 3 (0, 0))) (hne : pb ≠ hb) (hnf : fb ≠ hb) :
    Calls Try.prog 31 #[.string (bs s), .pointer (some ⟨fb, 0, none⟩)] w fun e w' => e = .returned (.tuple #[]) ∧ w.grownBy w' (some hb) ∧ w'.heap[hb]? = some (.cells (digs (sumTxt h s)) 3 (0, 0)) := by
  have HH := hide hh
  clear hh
  go_enter Try.func31, Try.ntmps31
  go_wp2
  go_loopw [3] (fun i wr => ∃ (k H : Nat), k ≤ s.length ∧ i = .int .i64 k ∧ Hid (H = sumTake h s k) ∧ wr.heap[hb]? = some (.cells (digs H) 3 (0, 0)) ∧ w.grownBy wr (some hb)) (fun i _ => s.length - (intOf i).toNat)
  case atStart => exact ⟨0, h, by omega, rfl, rfl, hd, grownT (grownB (Below.refl _ _)) (grownB (Below.refl _ _))⟩
  case round =>
    obtain ⟨k, H, hk, rfl, HT, hdr, hgr⟩ := hrel
    rename World => wr
    have hpr := (hgr.block pb (lt_of_block hp) (by simpa using hne)).trans hp
    have hfr := (hgr.block fb (lt_of_block hf) (by simpa using hnf)).trans hf
    have HB : Hid (H < 18446744073709551616) := by show _ < _; rw [HT.out]; exact sumTake_lt HH.out s k
    by_cases hlt : k < s.length
    · have hlt' : (k : Int) < s.length := by omega
      have hc := s[k].toNat_lt
      have hw : IntKind.i64.wrap (s[k].toNat : Int) = (s[k].toNat : Int) := wrap_i64_small _ (by omega) (by omega)
      go_wp2
      refine wp_region_free 5 18 Try.mixed2 rfl (by decide +kernel) Grow (fun _ _ _ => Grow.trans) (Grow.refl _)
        (fun i v _ => match i with
          | 0 => v = .func (.func 29) #[] #[.pointer (some ⟨pb, 0, none⟩)]
          | 1 => v = .string (bs s)
          | 2 => v = .int .i64 k
          | 3 => v = .int .u8 (s[k].toNat : Int)
          | _ => v = .int .i64 (s[k].toNat : Int))
        (fun i v w w' h hg => h) (fun _ _ => False) (fun _ _ _ _ h => h.elim) (fun i hi o ho a w2 hG hoff hdep => ?_) (fun vals w2 hG hvals => ?_)
      · have f0 := one_cell0 (below_block hG.undrew hfr (lt_of_block hfr))
        match i, hi with
        | 0, _ =>
          obtain rfl := Option.some.inj ho
          have o1 := hoff 1 (by decide +kernel)
          simp at o1
          simp [opYields, go_sem, o1, f0]
          exact Grow.refl _
        | 1, _ =>
          obtain rfl := Option.some.inj ho
          have o0 := hoff 0 (by decide +kernel)
          simp at o0
          simp [opYields, go_sem, o0]
          exact Grow.refl _
        | 2, _ =>
          obtain rfl := Option.some.inj ho
          have o3 := hoff 3 (by decide +kernel)
          simp at o3
          simp [opYields, go_sem, o3]
          exact Grow.refl _
        | 3, _ =>
          obtain rfl := Option.some.inj ho
          have d1 := hdep 1 (by decide +kernel)
          simp [slotOf, dstOf] at d1
          have d2 := hdep 2 (by decide +kernel)
          simp [slotOf, dstOf] at d2
          simp [opYields, go_sem, d1, d2, hlt]
          exact Grow.refl _
        | 4, _ =>
          obtain rfl := Option.some.inj ho
          have d3 := hdep 3 (by decide +kernel)
          simp [slotOf, dstOf] at d3
          simp [opYields, go_sem, d3, hw]
          exact Grow.refl _
      · have v0 := hvals 0 (by omega)
        have v4 := hvals 4 (by omega)
        simp only at v0 v4
        clear hvals
        have hp2 := below_block hG.undrew hpr (lt_of_block hpr)
        have hd2 := below_block hG.undrew hdr (lt_of_block hdr)
        have hg2 : w.grownBy w2 (some hb) := grownT hgr (grownB hG.undrew)
        simp [over, dstOf, Act.put, v0, v4]
        go_wp2_with fail
        refine (sumAdd_any w2 pb hb H s[k].toNat HB.out hc hp2 hd2 hne).mono ?_
        rintro e w3 ⟨rfl, hg3, hd3⟩
        go_wp2
        go_roundw
        case rel => exact ⟨k + 1, sumStep H s[k].toNat, by omega, by go_num, by show _ = _; rw [sumTake_succ h s k hlt, HT.out], hd3, grownT hg2 hg3⟩
        case measure => simp [intOf]; omega
    · obtain rfl : k = s.length := by omega
      have f0 := one_cell0 hfr
      go_wp2_with fail
      refine (sumAdd_any wr pb hb H 255 HB.out (by omega) hpr hdr hne).mono ?_
      rintro e w3 ⟨rfl, hg3, hd3⟩
      go_wp2
      go_end0
      exact ⟨rfl, grownT hgr hg3, by rw [← sumTake_all, ← HT.out]; exact hd3⟩

theorem digs_sum0 : digs sum0 = #[.int .i64 8997, .int .i64 33826, .int .i64 40164, .int .i64 52210] := by
  have e : gd sum0 0 = 8997 ∧ gd sum0 1 = 33826 ∧ gd sum0 2 = 40164 ∧ gd sum0 3 = 52210 := gd_of 8997 33826 40164 52210 (by omega) (by omega) (by omega) (by omega) _ (by unfold sum0; omega)
  unfold digs
  rw [e.1, e.2.1, e.2.2.1, e.2.2.2]
  rfl
theorem digs_at (g : Nat) : ∀ m, m < 4 → (digs g)[m]? = some (.int .i64 (gd g m : Nat))
  | 0, _ => rfl
  | 1, _ => rfl
  | 2, _ => rfl
  | 3, _ => rfl
theorem up_digit (g k : Nat) : g / 65536 ^ k = g / 65536 ^ (k + 1) * 65536 + gd g k := by
  unfold gd
  rw [Nat.pow_succ, ← Nat.div_div_eq_div_mul]
  omega
theorem up_le (g k : Nat) (hg : g < 18446744073709551616) : g / 65536 ^ (k + 1) ≤ 281474976710655 := by
  have h1 : g / 65536 ^ (k + 1) ≤ g / 65536 := by
    rw [Nat.pow_succ, Nat.mul_comm, ← Nat.div_div_eq_div_mul]
    exact Nat.div_le_self _ _
  omega

set_option maxRecDepth 20000 in
set_option maxHeartbeats 2000000 in
theorem rSumOf_any (w : World) (v : Value) (ls : List Lab) (hv : readsLabels w w.heap.size v ls) (h20 : ls.length ≤ 20) (hin : ∀ x ∈ ls, x.1.length ≤ 40 ∧ x.2.length ≤ 100) :
    Calls Try.prog 14 #[v] w fun e w' => e = .returned (.int .u64 (sumB ls : Nat)) ∧ Below w.heap.size w w' := by
  obtain ⟨ao, cp, rfl, hcells⟩ := id hv
  have HI := hide hin
  clear hv hin
  obtain ⟨w1, HW1⟩ : ∃ w1, Hid (w.alloc (.cells #[.int .i64 8997, .int .i64 33826, .int .i64 40164, .int .i64 52210] 3) = w1) := ⟨_, hide rfl⟩
  obtain ⟨w2, HW2⟩ : ∃ w2, Hid (w1.alloc (.cells #[.slice (some ⟨w.heap.size, 0, none⟩) 4 4] 59) = w2) := ⟨_, hide rfl⟩
  obtain ⟨w3, HW3⟩ : ∃ w3, Hid (w2.alloc (.cells #[.func (.func 29) #[] #[.pointer (some ⟨w.heap.size + 1, 0, none⟩)]] 61) = w3) := ⟨_, hide rfl⟩
  have hz1 : w1.heap.size = w.heap.size + 1 := by rw [← HW1.out]; simp
  have hz2 : w2.heap.size = w.heap.size + 2 := by rw [← HW2.out]; simp; omega
  have hd1 : w1.heap[w.heap.size]? = some (.cells (digs sum0) 3 (0, 0)) := by rw [← HW1.out, digs_sum0]; exact heap_alloc_new _ _
  have hg1 : Grow w w1 := by rw [← HW1.out]; exact (Grow.refl _).alloc _
  have hg2 : Grow w1 w2 := by rw [← HW2.out]; exact (Grow.refl _).alloc _
  have hg3 : Grow w2 w3 := by rw [← HW3.out]; exact (Grow.refl _).alloc _
  have hp2 : w2.heap[w.heap.size + 1]? = some (.cells #[.slice (some ⟨w.heap.size, 0, none⟩) 4 4] 59 (0, 0)) := by rw [← HW2.out, ← hz1]; exact heap_alloc_new _ _
  have hf3 : w3.heap[w.heap.size + 2]? = some (.cells #[.func (.func 29) #[] #[.pointer (some ⟨w.heap.size + 1, 0, none⟩)]] 61 (0, 0)) := by rw [← HW3.out, ← hz2]; exact heap_alloc_new _ _
  have hd3 := hg3.get (hg2.get hd1)
  have hp3 := hg3.get hp2
  have hb3 : Below w.heap.size w w3 := (hg1.trans hg2).trans hg3
  clear hg1 hg2 hg3 hd1 hp2
  go_enter Try.func14, Try.ntmps14
  go_wp2
  rw [HW1.out, HW2.out, HW3.out]
  clear hz1 hz2 HW1 HW2 HW3
  go_loopw [6] (fun i wr => ∃ k : Nat, k ≤ ls.length ∧ i = .int .i64 k ∧ wr.heap[w.heap.size]? = some (.cells (digs (sumGo sum0 (ls.take k))) 3 (0, 0)) ∧ w3.grownBy wr (some w.heap.size)) (fun i _ => ls.length - (intOf i).toNat)
  case atStart => exact ⟨0, by omega, rfl, hd3, grownB (Below.refl _ _)⟩
  case round =>
    clear hd3
    obtain ⟨k, hk, rfl, hdr, hgr⟩ := hrel
    rename World => wr
    have hbr : Below w.heap.size w wr := Below.grown hb3 hgr hb3.size (fun j hj => by cases hj; exact Nat.le_refl _)
    have hpr := (hgr.block _ (lt_of_block hp3) (by simp)).trans hp3
    have hfr := (hgr.block _ (lt_of_block hf3) (by simp)).trans hf3
    have HLt := hide (sumGo_lt (h := sum0) sum0_lt (ls.take k))
    by_cases hlt : k < ls.length
    · have HSucc := hide (sumGo_take sum0 ls k hlt)
      generalize sumGo sum0 (ls.take k) = H at HLt HSucc hdr
      obtain ⟨lb, lo, rfl, hlB, c0, c1⟩ := hcells k hlt
      have d0 := (hbr.cell (p := ⟨lb, lo + k * 2, none⟩) hlB).trans c0
      have D1 := hide ((hbr.cell (p := ⟨lb, lo + k * 2 + 1, none⟩) hlB).trans c1)
      have hnb : some lb ≠ some w.heap.size := by simp; omega
      clear c0 c1 hcells
      obtain ⟨hl0, hl1⟩ := HI.out _ (List.getElem_mem hlt)
      obtain ⟨x, HX⟩ : ∃ x : Lab, Hid (ls[k] = x) := ⟨_, hide rfl⟩
      rw [HX.out] at d0 D1 hl0 hl1 HSucc
      go_wp2_with fail
      refine (sumText_any wr (w.heap.size + 2) (w.heap.size + 1) w.heap.size H x.1 (by omega) HLt.out hfr hpr hdr (by omega) (by omega)).mono ?_
      rintro e w4 ⟨rfl, hg4, hd4⟩
      have hp4 := (hg4.block _ (lt_of_block hpr) (by simp)).trans hpr
      have hf4 := (hg4.block _ (lt_of_block hfr) (by simp)).trans hfr
      have hlw := World.block_lt_of_cell? wr _ D1.out
      have d1 : w4.cell? ⟨lb, lo + k * 2 + 1, none⟩ = some (.string (bs x.2)) := (cell_of_block (hg4.block lb hlw hnb)).trans D1.out
      clear d0
      go_wp2_with fail
      refine (sumText_any w4 (w.heap.size + 2) (w.heap.size + 1) w.heap.size (sumTxt H x.1) x.2 (by omega) (sumTxt_lt _ _) hf4 hp4 hd4 (by omega) (by omega)).mono ?_
      rintro e w5 ⟨rfl, hg5, hd5⟩
      go_wp2
      go_roundw
      case rel => exact ⟨k + 1, by omega, by go_num, by rw [HSucc.out]; exact hd5, grownT hgr (grownT hg4 hg5)⟩
      case measure => simp [intOf]; omega
    · have HS : Hid (sumGo sum0 (ls.take k) = sumB ls) := by show _ = _; rw [List.take_of_length_le (by omega)]; rfl
      rw [HS.out] at HLt hdr
      obtain ⟨g, HGs⟩ : ∃ g, Hid (sumB ls = g) := ⟨_, hide rfl⟩
      rw [HGs.out] at HLt hdr
      clear HS hcells
      have c0 := one_cell0 hpr
      go_wp2
      go_loop [7, 8] (fun n i => ∃ k : Nat, k ≤ 4 ∧ i = .int .i64 ((k : Int) - 1) ∧ n = .int .u64 (g / 65536 ^ k : Nat)) (fun _ i => (intOf i + 1).toNat)
      case atStart => exact ⟨4, by omega, rfl, by rw [show g / 65536 ^ 4 = 0 by have := HLt.out; simp only [Nat.reducePow]; omega]; rfl⟩
      case round =>
        obtain ⟨q, hq, rfl, rfl⟩ := hrel
        cases q with
        | zero =>
          go_wp2
          go_ret
          exact ⟨ret_int (by rw [HGs.out]), hbr⟩
        | succ m =>
          have HU := hide (up_digit g m)
          have hN := up_le g m HLt.out
          have hG := gd_lt g m
          have hm4 : (m : Int) < 4 := by omega
          have hm0 : (0 : Int) ≤ (m : Int) := by omega
          have cG : wr.cell? ⟨w.heap.size, m, none⟩ = some (.int .i64 (gd g m : Nat)) := cell_in hdr (digs_at g m (by omega))
          generalize g / 65536 ^ (m + 1) = N at HU hN
          generalize gd g m = G at HU hG cG
          have e1 : ((m + 1 : Nat) : Int) - 1 = m := by omega
          have w1 : IntKind.u64.wrap ((N : Int) * 65536) = (N : Int) * 65536 := wrap_u64_small _ (by omega) (by omega)
          have w2 : IntKind.u64.wrap (G : Int) = (G : Int) := wrap_u64_small _ (by omega) (by omega)
          have w3 : IntKind.u64.wrap ((N : Int) * 65536 + (G : Int)) = (N : Int) * 65536 + (G : Int) := wrap_u64_small _ (by omega) (by omega)
          rw [e1]
          go_wp2
          go_round
          case rel => exact ⟨m, by omega, rfl, by rw [HU.out]; go_num⟩
          case measure => simp [intOf]

end Go.Proofs.Ytbnoplgfkfcadaa.Lb
