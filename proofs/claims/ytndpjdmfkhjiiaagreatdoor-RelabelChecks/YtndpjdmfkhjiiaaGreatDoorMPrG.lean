/- The parser of masks: groups and atoms, over what rows do. -/
import Derived.Test.YtndpjdmfkhjiiaaGreatDoorProg
import Derived.Test.YtndpjdmfkhjiiaaGreatDoorKit
import Derived.Test.YtndpjdmfkhjiiaaGreatDoorMPar
import Derived.Test.YtndpjdmfkhjiiaaGreatDoorMLay
import Derived.Test.YtndpjdmfkhjiiaaGreatDoorMSet
import Derived.Test.YtndpjdmfkhjiiaaGreatDoorMWlk
import Derived.Test.YtndpjdmfkhjiiaaGreatDoorMSetB
import Derived.Test.YtndpjdmfkhjiiaaGreatDoorMPrA
import Derived.Test.YtndpjdmfkhjiiaaGreatDoorMPrB
import Derived.Test.YtndpjdmfkhjiiaaGreatDoorMPrC
import Derived.Test.YtndpjdmfkhjiiaaGreatDoorMPrD
import Derived.Test.YtndpjdmfkhjiiaaGreatDoorMPrE
import Derived.Test.YtndpjdmfkhjiiaaGreatDoorMPrF
import Derived.BigQuiet
set_option linter.unusedVariables false
set_option linter.unusedSimpArgs false
namespace Go.Proofs.YtndpjdmfkhjiiaaGreatDoor
open Go.RowKit
attribute [local go_sem] bs_size bs_toList bs_append bs_get bs_extract

/-- How many steps are laid out is bounded by how many bytes were read. -/
theorem pM_sz {m : List UInt8} : ∀ {f rows i g x}, pM m f rows i g = some (.ok x) → i ≤ m.length → sz x.1 + 5 * i ≤ 5 * x.2.1 + (if rows then 1 else 0) := by
  intro f
  induction f with
  | zero => intro rows i g x h; cases h
  | succ f ih =>
    intro rows i g x h hi
    cases rows with
    | true =>
      rw [pM] at h
      rcases bindO_eq h with ⟨_, _, e⟩ | ⟨y, hy, h⟩
      · cases e
      have h1 := ih hy hi
      have e1 := pM_ok hy hi
      split at h
      · rename_i e
        have := isAt_lt e
        rcases bindO_eq h with ⟨_, _, e⟩ | ⟨z, hz, h⟩
        · cases e
        have h2 := ih hz (by omega)
        cases h
        simp [sz] at h1 h2 ⊢
        omega
      · cases h
        simp [sz] at h1 ⊢
        omega
    | false =>
      rw [pM] at h
      split at h
      · cases h; simp [sz]
      · rename_i c hc
        have li := get_lt hc
        split at h
        · cases h; simp [sz]
        · split at h
          · split at h
            · cases h
            · rcases bindO_eq h with ⟨_, _, e⟩ | ⟨y, hy, h⟩
              · cases e
              have h1 := ih hy (by omega)
              have e1 := pM_ok hy (by omega)
              split at h
              · rename_i e
                have := isAt_lt e
                rcases bindO_eq h with ⟨_, _, e⟩ | ⟨z, hz, h⟩
                · cases e
                have h2 := pSign_ok hz (by omega)
                rcases bindO_eq h with ⟨_, _, e⟩ | ⟨u, hu, h⟩
                · cases e
                have h3 := ih hu (by omega)
                cases h
                have := again_le z.1
                simp [sz] at h1 h3 ⊢
                omega
              · cases h
          · rcases bindO_eq h with ⟨_, _, e⟩ | ⟨y, hy, h⟩
            · cases e
            have h1 := pSet_ok hc hy
            rcases bindO_eq h with ⟨_, _, e⟩ | ⟨z, hz, h⟩
            · cases e
            have h2 := pSign_ok hz (by omega)
            rcases bindO_eq h with ⟨_, _, e⟩ | ⟨u, hu, h⟩
            · cases e
            have h3 := ih hu (by omega)
            cases h
            have := again_le z.1
            simp [sz] at h3 ⊢
            omega

/-- The steps behind rows. -/
def rowsSteps (S : List St) (T : Tr) : List St := S ++ .fork (starts T (S.length + 1)) :: comp T (S.length + 1) (S.length + 1 + sz T)
theorem rowsSteps_length (S T) : (rowsSteps S T).length = S.length + 1 + sz T := by simp [rowsSteps, comp_length]; omega

/-- What rows do, if this is what they are. -/
def rowsPost (F : Nat → Prop) (pb : Nat) (m : List UInt8) (S : List St) (y : Except (Nat × Nat) (Tr × Nat × Nat)) (w : World) (e : Ending) (w' : World) : Prop :=
  KeptX F pb w w' ∧ match y with
    | .error x => e = faulted x.1 x.2
    | .ok x => e = .returned (.bool (nothing x.1)) ∧ parserAt w' F pb m x.2.1 (rowsSteps S x.1) x.2.2
def RowsOK (m : List UInt8) (f : Nat) : Prop :=
  ∀ (w : World) (F : Nat → Prop) (pb i g : Nat) (S : List St) (y : Except (Nat × Nat) (Tr × Nat × Nat)), parserAt w F pb m i S g → i ≤ m.length → g ≤ 9 → S.length + 8 * (m.length - i) ≤ 100000 → pM m f true i g = some y →
    Calls Tryz.prog 121 #[.pointer (some ⟨pb, 0, none⟩)] w (rowsPost F pb m S y w)

/-- What a group does. -/
def groupPost (F : Nat → Prop) (pb : Nat) (m : List UInt8) (S : List St) (i g : Nat) (y : Except (Nat × Nat) (Tr × Nat × Nat)) (w : World) (e : Ending) (w' : World) : Prop :=
  KeptX F pb w w' ∧ if g = 9 then e = faulted 2 i else match y with
    | .error x => e = faulted x.1 x.2
    | .ok x => if isAt m x.2.1 41 then e = .returned (.bool (nothing x.1)) ∧ parserAt w' F pb m (x.2.1 + 1) (rowsSteps (S ++ [.mark (2 * g)]) x.1 ++ [.mark (2 * g + 1)]) x.2.2 else e = faulted 1 x.2.1

set_option maxRecDepth 20000 in
set_option maxHeartbeats 4000000 in
theorem group_any {m : List UInt8} {f : Nat} (hf : RowsOK m f) (w : World) (F : Nat → Prop) (pb i g : Nat) (S : List St) (y : Except (Nat × Nat) (Tr × Nat × Nat)) (hp : parserAt w F pb m i S g) (hi : i < m.length) (hg : g ≤ 9) (hS : S.length + 8 * (m.length - i) ≤ 100002) (hm : m.length ≤ 10000)
    (hy : g ≠ 9 → pM m f true (i + 1) (g + 1) = some y) : Calls Tryz.prog 164 #[.pointer (some ⟨pb, 0, none⟩)] w (groupPost F pb m S i g y w) := by
  have HF := hide hf
  have HY := hide hy
  obtain ⟨hpb, hB, ao, cp, hblk⟩ := hp.cells
  obtain ⟨c0, c1, c2, c3⟩ := four_cells hblk
  obtain ⟨z0, z1, z2, z3⟩ := four_free hblk
  have HP := hide hp
  have HBK := hide hblk
  clear hf hy hp hblk
  by_cases h9 : g = 9
  · have h9' : ((g : Int) == 9) = true := by rw [beq_iff_eq]; omega
    have H9 := hide h9
    clear h9
    go_enter Tryz.func164, Tryz.ntmps164
    go_wp2_with fail
    refine (giveUp_any w F pb m i g S 2 HP.out).mono ?_
    rintro e w1 ⟨rfl, rfl⟩
    exact ⟨rfl, .refl _ _ _, by rw [if_pos H9.out]⟩
  · have h9' : ((g : Int) == 9) = false := by rw [beq_eq_false_iff_ne]; omega
    have H9 := hide h9
    have hg8 : g ≤ 8 := by omega
    obtain ⟨W1, HW1⟩ : ∃ W1, Hid (W1 = w.setCell ⟨pb, 1, none⟩ (.int .i64 ((i : Int) + 1))) := ⟨_, hide rfl⟩
    have hb1 : W1.heap[pb]? = some (.cells #[.string (bs m), .int .i64 ((i : Int) + 1), .slice ao S.length cp, .int .i64 (g : Int)] 143 (0, 0)) := by rw [HW1.out, set_blk HBK.out]; simp
    have HP1 : Hid (parserAt W1 F pb m (i + 1) S g) := by rw [HW1.out]; exact hide (HP.out.on _ (by simp))
    obtain ⟨d0, d1, d2, d3⟩ := four_cells hb1
    obtain ⟨y0, y1, y2, y3⟩ := four_free hb1
    obtain ⟨W2, HW2⟩ : ∃ W2, Hid (W2 = W1.setCell ⟨pb, 3, none⟩ (.int .i64 ((g : Int) + 1))) := ⟨_, hide rfl⟩
    have HP2 : Hid (parserAt W2 F pb m (i + 1) S (g + 1)) := by
      rw [HW2.out]
      obtain ⟨sv, rs, h, e⟩ := HP1.out
      exact hide ⟨sv, rs, h.put (by simp), e⟩
    have HK2 : Hid (KeptX F pb w W2) := by rw [HW2.out, HW1.out]; exact hide (((KeptX.refl _ _ _).setAt _ _).setAt _ _)
    have hwr : IntKind.i64.wrap ((i : Int) + 1) = (i : Int) + 1 := wrap_i64_small _ (by omega) (by omega)
    have hwr2 : IntKind.i64.wrap ((g : Int) + 1) = (g : Int) + 1 := wrap_i64_small _ (by omega) (by omega)
    have hwr3 : IntKind.i64.wrap (2 * (g : Int)) = 2 * (g : Int) := wrap_i64_small _ (by omega) (by omega)
    have eW1 := HW1.out.symm
    have eW2 := HW2.out.symm
    clear hb1 h9
    go_enter Tryz.func164, Tryz.ntmps164
    go_wp2_with fail
    clear eW1 eW2 c0 c1 c2 c3 d0 d1 d2 d3
    refine (add_any W2 F pb m (i + 1) (g + 1) S ⟨.mark (2 * g), 0, 0, 0, 0, 2 * (g : Int), .slice none 0 0⟩ HP2.out rfl (fun w => ⟨World.ownsRow_nil _ _ _ _, by show 2 * (g : Int) = ((2 * g : Nat) : Int); omega⟩) (by omega)).mono ?_
    rintro e w3 ⟨rfl, hk3, hp3⟩
    have HK3 := hide (HK2.out.trans hk3)
    have HP3 : Hid (parserAt w3 F pb m (i + 1) (S ++ [.mark (2 * g)]) (g + 1)) := hide hp3
    clear hk3 hp3
    go_wp2_with fail
    refine (HF.out w3 F pb (i + 1) (g + 1) _ y HP3.out (by omega) (by omega) (by rw [List.length_append]; simp; omega) (HY.out H9.out)).mono ?_
    rintro e w4 ⟨hk4, hy4⟩
    have HK4 := hide (HK3.out.trans hk4)
    match y, hy4, HY with
    | .error x, hy4, HY =>
      simp only at hy4
      subst hy4
      exact ⟨rfl, HK4.out, by rw [if_neg H9.out]⟩
    | .ok x, hy4, HY =>
      obtain ⟨T, j, h⟩ := x
      simp only at hy4
      obtain ⟨rfl, hp4⟩ := hy4
      have HP4 := hide hp4
      have hj := (pM_ok (HY.out H9.out) (by omega)).2
      have hszT := pM_sz (HY.out H9.out) (by omega)
      simp at hj hszT
      clear hp4 hk4
      go_wp2_with fail
      refine (skip_any w4 F pb m [41] j h _ HP4.out (by omega) hj).mono ?_
      rintro e w5 ⟨rfl, hk5, hp5⟩
      rw [comesB_nat _ _ 41 41 rfl] at hp5 ⊢
      have HK5 := hide (HK4.out.trans (keptX_two hk5 HP4.out.room))
      cases hd : isAt m j 41 with
      | false =>
        rw [hd] at hp5
        have HP5 : Hid (parserAt w5 F pb m j _ h) := hide hp5
        have HD := hide hd
        clear hd hp5 hk5
        go_wp2_with fail
        refine (giveUp_any w5 F pb m j h _ 1 HP5.out).mono ?_
        rintro e w6 ⟨rfl, rfl⟩
        exact ⟨rfl, HK5.out, by rw [if_neg H9.out]; simp only; rw [HD.out]; simp⟩
      | true =>
        rw [hd] at hp5
        have HP5 : Hid (parserAt w5 F pb m (j + 1) _ h) := hide hp5
        have HD := hide hd
        have hwr4 : IntKind.i64.wrap (2 * (g : Int) + 1) = 2 * (g : Int) + 1 := wrap_i64_small _ (by omega) (by omega)
        clear hd hp5 hk5
        go_wp2_with fail
        refine (add_any w5 F pb m (j + 1) h _ ⟨.mark (2 * g + 1), 0, 0, 0, 0, 2 * (g : Int) + 1, .slice none 0 0⟩ HP5.out rfl (fun w => ⟨World.ownsRow_nil _ _ _ _, by show 2 * (g : Int) + 1 = ((2 * g + 1 : Nat) : Int); omega⟩) (by rw [rowsSteps_length, List.length_append]; simp; omega)).mono ?_
        rintro e w6 ⟨rfl, hk6, hp6⟩
        have HP6 := hide hp6
        clear hp6
        go_wp2
        go_ret
        exact ⟨HK5.out.trans hk6, by rw [if_neg H9.out]; simp only; rw [HD.out]; exact ⟨rfl, HP6.out⟩⟩

end Go.Proofs.YtndpjdmfkhjiiaaGreatDoor
