/- The parser of masks: a byte behind a backslash, brackets, and a step that takes a byte. -/
import Derived.Test.YtndpjdmfkhjiiaaGreatDoorProg
import Derived.Test.YtndpjdmfkhjiiaaGreatDoorKit
import Derived.Test.YtndpjdmfkhjiiaaGreatDoorMPar
import Derived.Test.YtndpjdmfkhjiiaaGreatDoorMLay
import Derived.Test.YtndpjdmfkhjiiaaGreatDoorMSet
import Derived.Test.YtndpjdmfkhjiiaaGreatDoorMWlk
import Derived.Test.YtndpjdmfkhjiiaaGreatDoorMSetB
import Derived.Test.YtndpjdmfkhjiiaaGreatDoorMExp
import Derived.Test.YtndpjdmfkhjiiaaGreatDoorReg
import Derived.Test.YtndpjdmfkhjiiaaGreatDoorReg2
import Derived.Test.YtndpjdmfkhjiiaaGreatDoorMFrom
import Derived.Test.YtndpjdmfkhjiiaaGreatDoorMPrA
import Derived.Test.YtndpjdmfkhjiiaaGreatDoorMPrB
import Derived.Test.YtndpjdmfkhjiiaaGreatDoorMPrC
import Derived.Test.YtndpjdmfkhjiiaaGreatDoorMPrD
import Derived.BigQuiet
set_option linter.unusedVariables false
set_option linter.unusedSimpArgs false
namespace Go.Proofs.YtndpjdmfkhjiiaaGreatDoor
open Go.RowKit
attribute [local go_sem] bs_size bs_toList bs_append bs_get bs_extract

/-- A byte behind a backslash. -/
def pEsc (m : List UInt8) (i : Nat) : Out ((UInt8 → Bool) × Nat) := match m[i]? with
  | none => some (.error (1, i))
  | some d => if isAl d || isNu d then some (.error (1, i)) else some (.ok (between d d, i + 1))

theorem kept_in {w W w' : World} {tb mb : Nat} (gW : Grow w W) (h : Kept2 tb mb W w') : Kept2 tb mb w w' := (Kept2.grow gW).trans h

set_option maxRecDepth 20000 in
set_option maxHeartbeats 4000000 in
theorem escaped_any (w : World) (F : Nat → Prop) (pb : Nat) (m : List UInt8) (i g : Nat) (S : List St) (hp : parserAt w F pb m i S g) (hm : m.length ≤ 1000000) (hi : i ≤ m.length) :
    Calls Tryz.prog 168 #[.pointer (some ⟨pb, 0, none⟩)] w fun e w' => Kept2 pb pb w w' ∧ ((∃ s j v, pEsc m i = some (.ok (s, j)) ∧ e = .returned (setV v) ∧ wordsIs v s ∧ parserAt w' F pb m j S g) ∨ (∃ er a : Nat, pEsc m i = some (.error (er, a)) ∧ e = faulted er a)) := by
  obtain ⟨W, HW⟩ : ∃ W, Hid (W = w.alloc (.cells #[.int .u64 0, .int .u64 0, .int .u64 0, .int .u64 0] 148)) := ⟨_, hide rfl⟩
  have gW : Grow w W := by rw [HW.out]; exact (Grow.refl _).alloc _
  have hWb : wordsAt W w.heap.size [0, 0, 0, 0] := by rw [HW.out]; exact heap_alloc_new _ _
  have hWs : W.heap.size = w.heap.size + 1 := by rw [HW.out]; simp
  have hpW := hp.grow gW
  obtain ⟨hpb, hB, _⟩ := hp.cells
  have HWB := hide hWb
  have HP : Hid (∀ n, parserAt (W.drewN n) F pb m i S g) := hide fun n => hpW
  obtain ⟨_, _, ao, cp, hblk⟩ := hpW.cells
  obtain ⟨c0, c1, c2, c3⟩ := four_cells hblk
  have HBL : Hid (∀ n, (W.drewN n).heap[pb]? = some (.cells #[.string (bs m), .int .i64 (i : Int), .slice ao S.length cp, .int .i64 (g : Int)] 143 (0, 0))) := hide fun n => hblk
  clear hp hWb hpW hblk
  go_enter Tryz.func168, Tryz.ntmps168
  by_cases hlt : i < m.length
  · obtain ⟨c, hc⟩ : ∃ c, m[i] = c := ⟨_, rfl⟩
    have hget : m[i]? = some c := by rw [List.getElem?_eq_getElem hlt, hc]
    have hne : ((i : Int) == m.length) = false := by rw [beq_eq_false_iff_ne]; omega
    have hlt2 : (i : Int) < m.length := by omega
    have hcl := c.toNat_lt
    have HQ : Hid (pEsc m i = if isAl c || isNu c then some (.error (1, i)) else some (.ok (between c c, i + 1))) := by show _ = _; unfold pEsc; rw [hget]
    have HL : Hid (∀ w, Calls Tryz.prog 172 #[.int .u8 (c.toNat : Int)] w fun e w' => e = .returned (.bool (isAl c)) ∧ w' = w) := hide fun w => isLetter_any c w
    have HN : Hid (∀ w, Calls Tryz.prog 115 #[.int .u8 (c.toNat : Int)] w fun e w' => e = .returned (.bool (isNu c)) ∧ w' = w) := hide fun w => isDigit_any c w
    clear hget
    cases ha : isAl c with
    | true =>
      rw [ha] at HL HQ
      clear ha
      go_wp2_with fail
      rw [← HW.out]
      go_quiet ((go_at_call 172; exact Calls.quiet_of_same (HL.out _)))
      go_wp2_with fail
      refine (giveUp_any _ F pb m i g S 1 (HP.out _)).mono ?_
      rintro e w' ⟨rfl, rfl⟩
      exact ⟨rfl, kept_in gW (Kept2.drewN (.refl _ _ _)), .inr ⟨1, i, HQ.out, rfl⟩⟩
    | false =>
      rw [ha] at HL HQ
      clear ha
      cases hn : isNu c with
      | true =>
        rw [hn] at HN HQ
        clear hn
        go_wp2_with fail
        rw [← HW.out]
        go_quiet (first | (go_at_call 172; exact Calls.quiet_of_same (HL.out _)) | (go_at_call 115; exact Calls.quiet_of_same (HN.out _)))
        go_wp2_with fail
        refine (giveUp_any _ F pb m i g S 1 (HP.out _)).mono ?_
        rintro e w' ⟨rfl, rfl⟩
        exact ⟨rfl, kept_in gW (Kept2.drewN (.refl _ _ _)), .inr ⟨1, i, HQ.out, rfl⟩⟩
      | false =>
        rw [hn] at HN HQ
        clear hn
        go_wp2_with fail
        rw [← HW.out]
        go_quiet (first | (go_at_call 172; exact Calls.quiet_of_same (HL.out _)) | (go_at_call 115; exact Calls.quiet_of_same (HN.out _)))
        obtain ⟨W1, HW1⟩ : ∃ W1, Hid (W1 = W.drewN nq) := ⟨_, hide rfl⟩
        rw [← HW1.out]
        have HP1 : Hid (∀ n, parserAt (W1.drewN n) F pb m i S g) := by rw [HW1.out]; exact hide fun n => (HP.out nq).draw
        have hblk1 : W1.heap[pb]? = some (.cells #[.string (bs m), .int .i64 (i : Int), .slice ao S.length cp, .int .i64 (g : Int)] 143 (0, 0)) := by rw [HW1.out]; exact HBL.out nq
        have HK1 : Hid (Kept2 pb pb W W1) := by rw [HW1.out]; exact hide (Kept2.drewN (.refl _ _ _))
        obtain ⟨k0, k1, _, _⟩ := four_cells hblk1
        have HBL1 := hide hblk1
        clear hblk1
        go_wp2_with fail
        go_quiet (fail)
        obtain ⟨W2, HW2⟩ : ∃ W2, Hid (W2 = W1.drewN nq) := ⟨_, hide rfl⟩
        rw [← HW2.out]
        have HP2 : Hid (parserAt W2 F pb m i S g) := by rw [HW2.out]; exact hide (HP1.out nq)
        have hblk2 : W2.heap[pb]? = some (.cells #[.string (bs m), .int .i64 (i : Int), .slice ao S.length cp, .int .i64 (g : Int)] 143 (0, 0)) := by rw [HW2.out]; exact HBL1.out
        have HK2 : Hid (Kept2 pb pb W W2) := by rw [HW2.out]; exact hide (HK1.out.trans (Kept2.drewN (.refl _ _ _)))
        obtain ⟨l0, l1, _, _⟩ := four_cells hblk2
        obtain ⟨y0, y1, _, _⟩ := four_free hblk2
        clear hblk2
        obtain ⟨W3, HW3⟩ : ∃ W3, Hid (W3 = W2.setCell ⟨pb, 1, none⟩ (.int .i64 ((i : Int) + 1))) := ⟨_, hide rfl⟩
        have HP3 : Hid (parserAt W3 F pb m (i + 1) S g) := by rw [HW3.out]; exact hide (HP2.out.on _ (by simp))
        have HK3 : Hid (Kept2 pb pb W W3) := by rw [HW3.out]; exact hide (HK2.out.trans (.setT _ _))
        have hwr : IntKind.i64.wrap ((i : Int) + 1) = (i : Int) + 1 := wrap_i64_small _ (by omega) (by omega)
        go_wp2_with fail
        rw [← HW3.out]
        refine (span_any c c W3 (Nat.le_refl _)).mono ?_
        rintro e w3 ⟨v, rfl, hv, hg3⟩
        obtain ⟨x0, x1, x2, x3, rfl⟩ := words_four hv
        have hw3 : wordsAt w3 w.heap.size [0, 0, 0, 0] := hg3.get (HWB.out.keep (HK3.out.block _ (by omega) (by omega) (by omega)))
        obtain ⟨q0, q1, q2, q3⟩ := hw3.four
        have f0 := not_frozen (k := 0) hw3
        have f1 := not_frozen (k := 1) hw3
        have f2 := not_frozen (k := 2) hw3
        have f3 := not_frozen (k := 3) hw3
        obtain ⟨r1, r2, r3⟩ := set_put (HP3.out.grow hg3) hw3 x0 x1 x2 x3 rfl
        have R1 := hide r1
        have R2 := hide r2
        have R3 := hide r3
        have HV := hide hv
        have HK4 := hide (HK3.out.trans (.grow hg3))
        clear hw3 r1 r2 r3 hv hg3
        rw [show setV [x0, x1, x2, x3] = .agg #[.int .u64 (x0 : Int), .int .u64 (x1 : Int), .int .u64 (x2 : Int), .int .u64 (x3 : Int)] from rfl]
        go_wp2
        refine bodyPost_ret (v := setV [x0, x1, x2, x3]) (results_cell_row (p := 2) (ty := 148) rfl _ _ w.heap.size _ _ _ _ rfl R2.out Tryz.underlying148 rfl info_set) rfl ⟨?_, .inl ⟨_, _, _, HQ.out, rfl, HV.out, R1.out⟩⟩
        exact kept_out gW (by omega) HK4.out (by simp [World.setCell]) R3.out rfl rfl rfl
  · have hne : ((i : Int) == m.length) = true := by rw [beq_iff_eq]; omega
    have HQ : Hid (pEsc m i = some (.error (1, i))) := by show _ = _; unfold pEsc; rw [List.getElem?_eq_none_iff.2 (by omega)]
    go_wp2_with fail
    rw [← HW.out]
    go_quiet (fail)
    go_wp2_with fail
    refine (giveUp_any _ F pb m i g S 1 (HP.out _)).mono ?_
    rintro e w' ⟨rfl, rfl⟩
    exact ⟨rfl, kept_in gW (Kept2.drewN (.refl _ _ _)), .inr ⟨1, i, HQ.out, rfl⟩⟩

set_option maxRecDepth 20000 in
set_option maxHeartbeats 4000000 in
theorem take_any (w : World) (F : Nat → Prop) (pb : Nat) (m : List UInt8) (i g : Nat) (S : List St) (v : List Nat) (s : UInt8 → Bool) (hp : parserAt w F pb m i S g) (hv : wordsIs v s) (hS : S.length ≤ 1000000) :
    Calls Tryz.prog 165 #[.pointer (some ⟨pb, 0, none⟩), setV v] w fun e w' => e = .returned (.tuple #[]) ∧ KeptX F pb w w' ∧ parserAt w' F pb m i (S ++ [.take s]) g := by
  obtain ⟨x0, x1, x2, x3, rfl⟩ := words_four hv
  obtain ⟨W, HW⟩ : ∃ W, Hid (W = w.alloc (.cells #[.int .u64 (x0 : Int), .int .u64 (x1 : Int), .int .u64 (x2 : Int), .int .u64 (x3 : Int)] 148)) := ⟨_, hide rfl⟩
  have gW : Grow w W := by rw [HW.out]; exact (Grow.refl _).alloc _
  have hWb : wordsAt W w.heap.size [x0, x1, x2, x3] := by rw [HW.out]; exact heap_alloc_new _ _
  have HP := hide (hp.grow gW)
  obtain ⟨hpb, hB, _⟩ := hp.cells
  obtain ⟨c0, c1, c2, c3⟩ := hWb.four
  have HV := hide hv
  clear hp hWb hv
  rw [show setV [x0, x1, x2, x3] = .agg #[.int .u64 (x0 : Int), .int .u64 (x1 : Int), .int .u64 (x2 : Int), .int .u64 (x3 : Int)] from rfl]
  go_enter Tryz.func165, Tryz.ntmps165
  go_wp2_with fail
  rw [← HW.out]
  go_wp2_with fail
  refine (add_any W F pb m i g S ⟨.take s, x0, x1, x2, x3, 0, .slice none 0 0⟩ HP.out rfl (fun w => ⟨World.ownsRow_nil _ _ _ _, HV.out⟩) hS).mono ?_
  rintro e w1 ⟨rfl, hk, hp1⟩
  go_wp2
  go_end0
  exact ⟨rfl, (keptX_grow gW hB).trans hk, hp1⟩

end Go.Proofs.YtndpjdmfkhjiiaaGreatDoor
