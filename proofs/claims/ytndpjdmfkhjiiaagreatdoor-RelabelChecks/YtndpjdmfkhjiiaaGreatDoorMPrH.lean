/- The parser of masks: atoms. -/
import Derived.Test.YtndpjdmfkhjiiaaGreatDoorProg
import Derived.Test.YtndpjdmfkhjiiaaGreatDoorKit
import Derived.Test.YtndpjdmfkhjiiaaGreatDoorMPar
import Derived.Test.YtndpjdmfkhjiiaaGreatDoorMLay
import Derived.Test.YtndpjdmfkhjiiaaGreatDoorMSet
import Derived.Test.YtndpjdmfkhjiiaaGreatDoorMWlk
import Derived.Test.YtndpjdmfkhjiiaaGreatDoorMSetB
import Derived.Test.YtndpjdmfkhjiiaaGreatDoorMPrA
import Derived.Test.YtndpjdmfkhjiiaaGreatDoorMPrB
import Derived.Test.YtndpjdmfkhjiiaaGreatDoorMPrC
import Derived.Test.YtndpjdmfkhjiiaaGreatDoorMPrD
import Derived.Test.YtndpjdmfkhjiiaaGreatDoorMPrE
import Derived.Test.YtndpjdmfkhjiiaaGreatDoorMPrF
import Derived.Test.YtndpjdmfkhjiiaaGreatDoorMPrG
import Derived.BigQuiet
set_option linter.unusedVariables false
set_option linter.unusedSimpArgs false
namespace Go.Proofs.YtndpjdmfkhjiiaaGreatDoor
open Go.RowKit
attribute [local go_sem] bs_size bs_toList bs_append bs_get bs_extract

/-- What an atom that is no group does. -/
def atomPost (F : Nat → Prop) (pb : Nat) (m : List UInt8) (S : List St) (g : Nat) (y : Except (Nat × Nat) ((UInt8 → Bool) × Nat)) (w : World) (e : Ending) (w' : World) : Prop :=
  KeptX F pb w w' ∧ match y with
    | .error x => e = faulted x.1 x.2
    | .ok x => e = .returned (.bool false) ∧ parserAt w' F pb m x.2 (S ++ [.take x.1]) g

theorem beq_no {a : Int} {b : Int} (h : ¬ a = b) : (a == b) = false := by simpa using h
theorem beq_yes {a : Int} {b : Int} (h : a = b) : (a == b) = true := by simpa using h
theorem span_whole : between 0 255 = fun _ => true := by
  funext c
  have := c.toNat_lt
  simp [between]
  omega

set_option maxRecDepth 20000 in
set_option maxHeartbeats 8000000 in
theorem atom_set (w : World) (F : Nat → Prop) (pb i g : Nat) (m : List UInt8) (S : List St) (c : UInt8) (y : Except (Nat × Nat) ((UInt8 → Bool) × Nat)) (hp : parserAt w F pb m i S g) (hc : m[i]? = some c) (hS : S.length ≤ 1000000) (hm : m.length ≤ 10000)
    (h40 : c.toNat ≠ 40) (hy : pSet m i c = some y) : Calls Tryz.prog 161 #[.pointer (some ⟨pb, 0, none⟩)] w (atomPost F pb m S g y w) := by
  have hi := get_lt hc
  have hcl := c.toNat_lt
  have hmi : m[i] = c := by rw [List.getElem?_eq_getElem hi] at hc; exact Option.some.inj hc
  obtain ⟨hpb, hB, ao, cp, hblk⟩ := hp.cells
  obtain ⟨c0, c1, c2, c3⟩ := four_cells hblk
  have hi2 : (i : Int) < m.length := by omega
  have HC := hide hc
  have HBL : Hid (∀ n, (w.drewN n).heap[pb]? = some (.cells #[.string (bs m), .int .i64 (i : Int), .slice ao S.length cp, .int .i64 (g : Int)] 143 (0, 0))) := hide fun n => hblk
  have HP : Hid (∀ n, parserAt (w.drewN n) F pb m i S g) := hide fun n => hp
  have HY := hide hy
  have b40 := beq_no (a := (c.toNat : Int)) (b := 40) (by omega)
  clear hp hblk hc h40 hy
  by_cases h91 : (c.toNat : Int) = 91
  · have b91 := beq_yes (a := (c.toNat : Int)) (b := 91) (by omega)
    have HQ : Hid (pSet m i c = pBrackets m (i + 1)) := by show _ = _; unfold pSet; rw [if_pos (by omega)]
    clear h91
    go_enter Tryz.func161, Tryz.ntmps161
    go_wp2_with fail
    go_quiet (fail)
    obtain ⟨W0, HW0⟩ : ∃ W0, Hid (W0 = w.drewN nq) := ⟨_, hide rfl⟩
    rw [← HW0.out]
    have HP0 : Hid (parserAt W0 F pb m i S g) := by rw [HW0.out]; exact hide (HP.out nq)
    have HK0 : Hid (Kept2 pb pb w W0) := by rw [HW0.out]; exact hide (Kept2.drewN (.refl _ _ _))
    have hblk0 : W0.heap[pb]? = some (.cells #[.string (bs m), .int .i64 (i : Int), .slice ao S.length cp, .int .i64 (g : Int)] 143 (0, 0)) := by rw [HW0.out]; exact HBL.out nq
    obtain ⟨d0, d1, d2, d3⟩ := four_cells hblk0
    obtain ⟨z0, z1, z2, z3⟩ := four_free hblk0
    have HBK := hide hblk0
    clear hblk0
    go_wp2_with fail
    refine (brackets_any W0 F pb m i g S HP0.out (by omega) hi).mono ?_
    rintro e w1 ⟨hk1, (⟨s, j, v, hq, rfl, hv, hp1⟩ | ⟨er, a, hq, rfl⟩)⟩
    · have HE : Hid (y = .ok (s, j)) := by show _ = _; have h := HY.out; rw [HQ.out, hq] at h; exact (Option.some.inj h).symm
      have HK1 := hide (HK0.out.trans hk1)
      have HP1 := hide hp1
      clear hk1 hp1 hq
      go_wp2_with fail
      refine (take_any w1 F pb m j g S v s HP1.out hv hS).mono ?_
      rintro e w2 ⟨rfl, hk2, hp2⟩
      go_wp2
      go_ret
      rw [HE.out]
      exact ⟨(keptX_two HK1.out hB).trans hk2, rfl, hp2⟩
    · have HE : Hid (y = .error (er, a)) := by show _ = _; have h := HY.out; rw [HQ.out, hq] at h; exact (Option.some.inj h).symm
      rw [HE.out]
      exact ⟨rfl, keptX_two (HK0.out.trans hk1) hB, rfl⟩
  · by_cases h46 : (c.toNat : Int) = 46
    · have b91 := beq_no (a := (c.toNat : Int)) (b := 91) (by omega)
      have b46 := beq_yes (a := (c.toNat : Int)) (b := 46) (by omega)
      have HE : Hid (y = .ok (fun _ => true, i + 1)) := by show _ = _; have h := HY.out; unfold pSet at h; rw [if_neg (by omega), if_pos (by omega)] at h; exact (Option.some.inj h).symm
      clear h91 h46
      go_enter Tryz.func161, Tryz.ntmps161
      go_wp2_with fail
      go_quiet (fail)
      obtain ⟨W0, HW0⟩ : ∃ W0, Hid (W0 = w.drewN nq) := ⟨_, hide rfl⟩
      rw [← HW0.out]
      have HP0 : Hid (parserAt W0 F pb m i S g) := by rw [HW0.out]; exact hide (HP.out nq)
      have HK0 : Hid (Kept2 pb pb w W0) := by rw [HW0.out]; exact hide (Kept2.drewN (.refl _ _ _))
      have hblk0 : W0.heap[pb]? = some (.cells #[.string (bs m), .int .i64 (i : Int), .slice ao S.length cp, .int .i64 (g : Int)] 143 (0, 0)) := by rw [HW0.out]; exact HBL.out nq
      obtain ⟨d0, d1, d2, d3⟩ := four_cells hblk0
      obtain ⟨z0, z1, z2, z3⟩ := four_free hblk0
      have HBK := hide hblk0
      clear hblk0
      obtain ⟨W1, HW1⟩ : ∃ W1, Hid (W1 = W0.setCell ⟨pb, 1, none⟩ (.int .i64 ((i : Int) + 1))) := ⟨_, hide rfl⟩
      have HP1 : Hid (parserAt W1 F pb m (i + 1) S g) := by rw [HW1.out]; exact hide (HP0.out.on _ (by simp))
      have HK1 : Hid (Kept2 pb pb w W1) := by rw [HW1.out]; exact hide (HK0.out.trans (.setT _ _))
      have hwr : IntKind.i64.wrap ((i : Int) + 1) = (i : Int) + 1 := wrap_i64_small _ (by omega) (by omega)
      have eW1 := HW1.out.symm
      go_wp2_with fail
      clear eW1
      refine (span_any 0 255 W1 (by decide)).mono ?_
      rintro e w2 ⟨v, rfl, hv, hg2⟩
      rw [span_whole] at hv
      have HP2 := hide (HP1.out.grow hg2)
      have HK2 := hide (HK1.out.trans (.grow hg2))
      clear hg2
      go_wp2_with fail
      refine (take_any w2 F pb m (i + 1) g S v _ HP2.out hv hS).mono ?_
      rintro e w3 ⟨rfl, hk3, hp3⟩
      go_wp2
      go_ret
      rw [HE.out]
      exact ⟨(keptX_two HK2.out hB).trans hk3, rfl, hp3⟩
    · by_cases h92 : (c.toNat : Int) = 92
      · have b91 := beq_no (a := (c.toNat : Int)) (b := 91) (by omega)
        have b46 := beq_no (a := (c.toNat : Int)) (b := 46) (by omega)
        have b92 := beq_yes (a := (c.toNat : Int)) (b := 92) (by omega)
        have HQ : Hid (pSet m i c = pEsc m (i + 1)) := by show _ = _; unfold pSet pEsc; rw [if_neg (by omega), if_neg (by omega), if_pos (by omega)]; rfl
        clear h91 h46 h92
        go_enter Tryz.func161, Tryz.ntmps161
        go_wp2_with fail
        go_quiet (fail)
        obtain ⟨W0, HW0⟩ : ∃ W0, Hid (W0 = w.drewN nq) := ⟨_, hide rfl⟩
        rw [← HW0.out]
        have HP0 : Hid (parserAt W0 F pb m i S g) := by rw [HW0.out]; exact hide (HP.out nq)
        have HK0 : Hid (Kept2 pb pb w W0) := by rw [HW0.out]; exact hide (Kept2.drewN (.refl _ _ _))
        have hblk0 : W0.heap[pb]? = some (.cells #[.string (bs m), .int .i64 (i : Int), .slice ao S.length cp, .int .i64 (g : Int)] 143 (0, 0)) := by rw [HW0.out]; exact HBL.out nq
        obtain ⟨d0, d1, d2, d3⟩ := four_cells hblk0
        obtain ⟨z0, z1, z2, z3⟩ := four_free hblk0
        have HBK := hide hblk0
        clear hblk0
        obtain ⟨W1, HW1⟩ : ∃ W1, Hid (W1 = W0.setCell ⟨pb, 1, none⟩ (.int .i64 ((i : Int) + 1))) := ⟨_, hide rfl⟩
        have HP1 : Hid (parserAt W1 F pb m (i + 1) S g) := by rw [HW1.out]; exact hide (HP0.out.on _ (by simp))
        have HK1 : Hid (Kept2 pb pb w W1) := by rw [HW1.out]; exact hide (HK0.out.trans (.setT _ _))
        have hwr : IntKind.i64.wrap ((i : Int) + 1) = (i : Int) + 1 := wrap_i64_small _ (by omega) (by omega)
        have eW1 := HW1.out.symm
        go_wp2_with fail
        clear eW1
        refine (escaped_any W1 F pb m (i + 1) g S HP1.out (by omega) hi).mono ?_
        rintro e w2 ⟨hk2, (⟨s, j, v, hq, rfl, hv, hp2⟩ | ⟨er, a, hq, rfl⟩)⟩
        · have HE : Hid (y = .ok (s, j)) := by show _ = _; have h := HY.out; rw [HQ.out, hq] at h; exact (Option.some.inj h).symm
          have HK2 := hide (HK1.out.trans hk2)
          have HP2 := hide hp2
          clear hk2 hp2 hq
          go_wp2_with fail
          refine (take_any w2 F pb m j g S v s HP2.out hv hS).mono ?_
          rintro e w3 ⟨rfl, hk3, hp3⟩
          go_wp2
          go_ret
          rw [HE.out]
          exact ⟨(keptX_two HK2.out hB).trans hk3, rfl, hp3⟩
        · have HE : Hid (y = .error (er, a)) := by show _ = _; have h := HY.out; rw [HQ.out, hq] at h; exact (Option.some.inj h).symm
          rw [HE.out]
          exact ⟨rfl, keptX_two (HK1.out.trans hk2) hB, rfl⟩
      · by_cases h42 : (c.toNat : Int) = 42
        · have b91 := beq_no (a := (c.toNat : Int)) (b := 91) (by omega)
          have b46 := beq_no (a := (c.toNat : Int)) (b := 46) (by omega)
          have b92 := beq_no (a := (c.toNat : Int)) (b := 92) (by omega)
          have b42 := beq_yes (a := (c.toNat : Int)) (b := 42) (by omega)
          have HE : Hid (y = .error (1, i)) := by show _ = _; have h := HY.out; unfold pSet at h; rw [if_neg (by omega), if_neg (by omega), if_neg (by omega), if_pos (by unfold isSign; simp; omega)] at h; exact (Option.some.inj h).symm
          clear h91 h46 h92 h42
          go_enter Tryz.func161, Tryz.ntmps161
          go_wp2_with fail
          go_quiet (fail)
          obtain ⟨W0, HW0⟩ : ∃ W0, Hid (W0 = w.drewN nq) := ⟨_, hide rfl⟩
          rw [← HW0.out]
          have HP0 : Hid (parserAt W0 F pb m i S g) := by rw [HW0.out]; exact hide (HP.out nq)
          have HK0 : Hid (Kept2 pb pb w W0) := by rw [HW0.out]; exact hide (Kept2.drewN (.refl _ _ _))
          have hblk0 : W0.heap[pb]? = some (.cells #[.string (bs m), .int .i64 (i : Int), .slice ao S.length cp, .int .i64 (g : Int)] 143 (0, 0)) := by rw [HW0.out]; exact HBL.out nq
          obtain ⟨d0, d1, d2, d3⟩ := four_cells hblk0
          obtain ⟨z0, z1, z2, z3⟩ := four_free hblk0
          have HBK := hide hblk0
          clear hblk0
          go_wp2_with fail
          refine (giveUp_any W0 F pb m i g S 1 HP0.out).mono ?_
          rintro e w1 ⟨rfl, rfl⟩
          rw [HE.out]
          exact ⟨rfl, keptX_two HK0.out hB, rfl⟩
        · by_cases h43 : (c.toNat : Int) = 43
          · have b91 := beq_no (a := (c.toNat : Int)) (b := 91) (by omega)
            have b46 := beq_no (a := (c.toNat : Int)) (b := 46) (by omega)
            have b92 := beq_no (a := (c.toNat : Int)) (b := 92) (by omega)
            have b42 := beq_no (a := (c.toNat : Int)) (b := 42) (by omega)
            have b43 := beq_yes (a := (c.toNat : Int)) (b := 43) (by omega)
            have HE : Hid (y = .error (1, i)) := by show _ = _; have h := HY.out; unfold pSet at h; rw [if_neg (by omega), if_neg (by omega), if_neg (by omega), if_pos (by unfold isSign; simp; omega)] at h; exact (Option.some.inj h).symm
            clear h91 h46 h92 h42 h43
            go_enter Tryz.func161, Tryz.ntmps161
            go_wp2_with fail
            go_quiet (fail)
            obtain ⟨W0, HW0⟩ : ∃ W0, Hid (W0 = w.drewN nq) := ⟨_, hide rfl⟩
            rw [← HW0.out]
            have HP0 : Hid (parserAt W0 F pb m i S g) := by rw [HW0.out]; exact hide (HP.out nq)
            have HK0 : Hid (Kept2 pb pb w W0) := by rw [HW0.out]; exact hide (Kept2.drewN (.refl _ _ _))
            have hblk0 : W0.heap[pb]? = some (.cells #[.string (bs m), .int .i64 (i : Int), .slice ao S.length cp, .int .i64 (g : Int)] 143 (0, 0)) := by rw [HW0.out]; exact HBL.out nq
            obtain ⟨d0, d1, d2, d3⟩ := four_cells hblk0
            obtain ⟨z0, z1, z2, z3⟩ := four_free hblk0
            have HBK := hide hblk0
            clear hblk0
            go_wp2_with fail
            refine (giveUp_any W0 F pb m i g S 1 HP0.out).mono ?_
            rintro e w1 ⟨rfl, rfl⟩
            rw [HE.out]
            exact ⟨rfl, keptX_two HK0.out hB, rfl⟩
          · by_cases h63 : (c.toNat : Int) = 63
            · have b91 := beq_no (a := (c.toNat : Int)) (b := 91) (by omega)
              have b46 := beq_no (a := (c.toNat : Int)) (b := 46) (by omega)
              have b92 := beq_no (a := (c.toNat : Int)) (b := 92) (by omega)
              have b42 := beq_no (a := (c.toNat : Int)) (b := 42) (by omega)
              have b43 := beq_no (a := (c.toNat : Int)) (b := 43) (by omega)
              have b63 := beq_yes (a := (c.toNat : Int)) (b := 63) (by omega)
              have HE : Hid (y = .error (1, i)) := by show _ = _; have h := HY.out; unfold pSet at h; rw [if_neg (by omega), if_neg (by omega), if_neg (by omega), if_pos (by unfold isSign; simp; omega)] at h; exact (Option.some.inj h).symm
              clear h91 h46 h92 h42 h43 h63
              go_enter Tryz.func161, Tryz.ntmps161
              go_wp2_with fail
              go_quiet (fail)
              obtain ⟨W0, HW0⟩ : ∃ W0, Hid (W0 = w.drewN nq) := ⟨_, hide rfl⟩
              rw [← HW0.out]
              have HP0 : Hid (parserAt W0 F pb m i S g) := by rw [HW0.out]; exact hide (HP.out nq)
              have HK0 : Hid (Kept2 pb pb w W0) := by rw [HW0.out]; exact hide (Kept2.drewN (.refl _ _ _))
              have hblk0 : W0.heap[pb]? = some (.cells #[.string (bs m), .int .i64 (i : Int), .slice ao S.length cp, .int .i64 (g : Int)] 143 (0, 0)) := by rw [HW0.out]; exact HBL.out nq
              obtain ⟨d0, d1, d2, d3⟩ := four_cells hblk0
              obtain ⟨z0, z1, z2, z3⟩ := four_free hblk0
              have HBK := hide hblk0
              clear hblk0
              go_wp2_with fail
              refine (giveUp_any W0 F pb m i g S 1 HP0.out).mono ?_
              rintro e w1 ⟨rfl, rfl⟩
              rw [HE.out]
              exact ⟨rfl, keptX_two HK0.out hB, rfl⟩
            · by_cases h93 : (c.toNat : Int) = 93
              · have b91 := beq_no (a := (c.toNat : Int)) (b := 91) (by omega)
                have b46 := beq_no (a := (c.toNat : Int)) (b := 46) (by omega)
                have b92 := beq_no (a := (c.toNat : Int)) (b := 92) (by omega)
                have b42 := beq_no (a := (c.toNat : Int)) (b := 42) (by omega)
                have b43 := beq_no (a := (c.toNat : Int)) (b := 43) (by omega)
                have b63 := beq_no (a := (c.toNat : Int)) (b := 63) (by omega)
                have b93 := beq_yes (a := (c.toNat : Int)) (b := 93) (by omega)
                have HE : Hid (y = .error (1, i)) := by show _ = _; have h := HY.out; unfold pSet at h; rw [if_neg (by omega), if_neg (by omega), if_neg (by omega), if_pos (by unfold isSign; simp; omega)] at h; exact (Option.some.inj h).symm
                clear h91 h46 h92 h42 h43 h63 h93
                go_enter Tryz.func161, Tryz.ntmps161
                go_wp2_with fail
                go_quiet (fail)
                obtain ⟨W0, HW0⟩ : ∃ W0, Hid (W0 = w.drewN nq) := ⟨_, hide rfl⟩
                rw [← HW0.out]
                have HP0 : Hid (parserAt W0 F pb m i S g) := by rw [HW0.out]; exact hide (HP.out nq)
                have HK0 : Hid (Kept2 pb pb w W0) := by rw [HW0.out]; exact hide (Kept2.drewN (.refl _ _ _))
                have hblk0 : W0.heap[pb]? = some (.cells #[.string (bs m), .int .i64 (i : Int), .slice ao S.length cp, .int .i64 (g : Int)] 143 (0, 0)) := by rw [HW0.out]; exact HBL.out nq
                obtain ⟨d0, d1, d2, d3⟩ := four_cells hblk0
                obtain ⟨z0, z1, z2, z3⟩ := four_free hblk0
                have HBK := hide hblk0
                clear hblk0
                go_wp2_with fail
                refine (giveUp_any W0 F pb m i g S 1 HP0.out).mono ?_
                rintro e w1 ⟨rfl, rfl⟩
                rw [HE.out]
                exact ⟨rfl, keptX_two HK0.out hB, rfl⟩
              · have b91 := beq_no (a := (c.toNat : Int)) (b := 91) (by omega)
                have b46 := beq_no (a := (c.toNat : Int)) (b := 46) (by omega)
                have b92 := beq_no (a := (c.toNat : Int)) (b := 92) (by omega)
                have b42 := beq_no (a := (c.toNat : Int)) (b := 42) (by omega)
                have b43 := beq_no (a := (c.toNat : Int)) (b := 43) (by omega)
                have b63 := beq_no (a := (c.toNat : Int)) (b := 63) (by omega)
                have b93 := beq_no (a := (c.toNat : Int)) (b := 93) (by omega)
                have HE : Hid (y = .ok (between c c, i + 1)) := by show _ = _; have h := HY.out; unfold pSet at h; rw [if_neg (by omega), if_neg (by omega), if_neg (by omega), if_neg (by unfold isSign; simp; omega)] at h; exact (Option.some.inj h).symm
                clear h91 h46 h92 h42 h43 h63 h93
                go_enter Tryz.func161, Tryz.ntmps161
                go_wp2_with fail
                go_quiet (fail)
                obtain ⟨W0, HW0⟩ : ∃ W0, Hid (W0 = w.drewN nq) := ⟨_, hide rfl⟩
                rw [← HW0.out]
                have HP0 : Hid (parserAt W0 F pb m i S g) := by rw [HW0.out]; exact hide (HP.out nq)
                have HK0 : Hid (Kept2 pb pb w W0) := by rw [HW0.out]; exact hide (Kept2.drewN (.refl _ _ _))
                have hblk0 : W0.heap[pb]? = some (.cells #[.string (bs m), .int .i64 (i : Int), .slice ao S.length cp, .int .i64 (g : Int)] 143 (0, 0)) := by rw [HW0.out]; exact HBL.out nq
                obtain ⟨d0, d1, d2, d3⟩ := four_cells hblk0
                obtain ⟨z0, z1, z2, z3⟩ := four_free hblk0
                have HBK := hide hblk0
                clear hblk0
                obtain ⟨W1, HW1⟩ : ∃ W1, Hid (W1 = W0.setCell ⟨pb, 1, none⟩ (.int .i64 ((i : Int) + 1))) := ⟨_, hide rfl⟩
                have HP1 : Hid (parserAt W1 F pb m (i + 1) S g) := by rw [HW1.out]; exact hide (HP0.out.on _ (by simp))
                have HK1 : Hid (Kept2 pb pb w W1) := by rw [HW1.out]; exact hide (HK0.out.trans (.setT _ _))
                have hwr : IntKind.i64.wrap ((i : Int) + 1) = (i : Int) + 1 := wrap_i64_small _ (by omega) (by omega)
                have eW1 := HW1.out.symm
                go_wp2_with fail
                clear eW1
                refine (span_any c c W1 (Nat.le_refl _)).mono ?_
                rintro e w2 ⟨v, rfl, hv, hg2⟩
                have HP2 := hide (HP1.out.grow hg2)
                have HK2 := hide (HK1.out.trans (.grow hg2))
                clear hg2
                go_wp2_with fail
                refine (take_any w2 F pb m (i + 1) g S v _ HP2.out hv hS).mono ?_
                rintro e w3 ⟨rfl, hk3, hp3⟩
                go_wp2
                go_ret
                rw [HE.out]
                exact ⟨(keptX_two HK2.out hB).trans hk3, rfl, hp3⟩

set_option maxRecDepth 20000 in
set_option maxHeartbeats 4000000 in
theorem atom_group {m : List UInt8} {f : Nat} (hf : RowsOK m f) (w : World) (F : Nat → Prop) (pb i g : Nat) (S : List St) (c : UInt8) (y : Except (Nat × Nat) (Tr × Nat × Nat)) (hp : parserAt w F pb m i S g) (hc : m[i]? = some c) (h40 : c.toNat = 40) (hg : g ≤ 9) (hS : S.length + 8 * (m.length - i) ≤ 100002) (hm : m.length ≤ 10000)
    (hy : g ≠ 9 → pM m f true (i + 1) (g + 1) = some y) : Calls Tryz.prog 161 #[.pointer (some ⟨pb, 0, none⟩)] w (groupPost F pb m S i g y w) := by
  have hi := get_lt hc
  have hcl := c.toNat_lt
  have hmi : m[i] = c := by rw [List.getElem?_eq_getElem hi] at hc; exact Option.some.inj hc
  obtain ⟨hpb, hB, ao, cp, hblk⟩ := hp.cells
  obtain ⟨c0, c1, c2, c3⟩ := four_cells hblk
  have hi2 : (i : Int) < m.length := by omega
  have HP : Hid (∀ n, parserAt (w.drewN n) F pb m i S g) := hide fun n => hp
  have HY := hide hy
  have HF := hide hf
  have b40 := beq_yes (a := (c.toNat : Int)) (b := 40) (by omega)
  clear hp hblk hc h40 hy hf
  go_enter Tryz.func161, Tryz.ntmps161
  go_wp2_with fail
  go_quiet (fail)
  go_wp2_with fail
  refine (group_any HF.out (w.drewN nq) F pb i g S y (HP.out nq) hi hg hS hm HY.out).mono ?_
  rintro e w1 ⟨hk1, h1⟩
  have hk : KeptX F pb w w1 := ⟨hk1.os, hk1.tape, hk1.output, hk1.size, hk1.block⟩
  have HK := hide hk
  clear hk hk1
  unfold groupPost at *
  by_cases h9 : g = 9
  · rw [if_pos h9] at h1
    subst h1
    exact ⟨rfl, HK.out, by rw [if_pos h9]⟩
  · rw [if_neg h9] at h1
    match y, h1, HY with
    | .error x, h1, HY =>
      simp only at h1
      subst h1
      exact ⟨rfl, HK.out, by rw [if_neg h9]⟩
    | .ok x, h1, HY =>
      simp only at h1
      cases hd : isAt m x.2.1 41 with
      | false =>
        rw [hd] at h1
        simp only [Bool.false_eq_true, if_false] at h1
        subst h1
        exact ⟨rfl, HK.out, by rw [if_neg h9]; simp only; rw [hd]; simp⟩
      | true =>
        rw [hd] at h1
        simp only [if_true] at h1
        obtain ⟨rfl, h2⟩ := h1
        have H2 := hide h2
        have HD := hide hd
        clear h2 hd
        go_wp2
        go_ret
        exact ⟨HK.out, rfl, H2.out⟩

end Go.Proofs.YtndpjdmfkhjiiaaGreatDoor
