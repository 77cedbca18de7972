/- RelabelChecks: the law's walk. -/
import Derived.Test.YtndpjdmfkhjiiaaGreatDoorProg
import Derived.Test.YtndpjdmfkhjiiaaGreatDoorKit
import Derived.Test.YtndpjdmfkhjiiaaGreatDoorReg
import Derived.Test.YtndpjdmfkhjiiaaGreatDoorMFrom
import Derived.Test.YtndpjdmfkhjiiaaGreatDoorRlC
import Derived.Test.YtndpjdmfkhjiiaaGreatDoorRlD
import Derived.Test.YtndpjdmfkhjiiaaGreatDoorRlP
import Derived.BigFrame
set_option linter.unusedVariables false
set_option linter.unusedSimpArgs false
namespace Go.Proofs.YtndpjdmfkhjiiaaGreatDoor.Rl
open Go.RowKit Lb
attribute [local go_sem] bs_size bs_toList bs_append bs_get bs_extract

set_option maxRecDepth 20000 in
set_option maxHeartbeats 4000000 in
theorem relabelChecks_any (w : World) (r : Rul) (v : Value) (hv : readsStrs w w.heap.size v r.sources) (hr : okR r) (hk : (Lit.int .i64 r.kind).wf = true) :
    Calls Tryz.prog 3 #[ruleV r v] w fun e w' => e = .returned (.bool true) ∧ Grow w w' := by
  have HC : Hid (∀ W, Grow w W → Calls Tryz.prog 11 #[ruleV r v] W fun e w' => e = .returned (.int .i64 (ruleErr r)) ∧ Grow W w') := hide fun W hg => checkRule_any W r v ((hv.keep hg).more hg.size) hr hk
  have HR : Hid (∀ W, Grow w W → Calls Tryz.prog 12 #[ruleV r v] W fun e w' => e = .returned (.int .i64 (ruleErr r)) ∧ Grow W w') := hide fun W hg => rCheckRule_any W r v ((hv.keep hg).more hg.size) hr
  generalize ruleErr r = E at HC HR
  unfold ruleV at HC HR ⊢
  obtain ⟨W, eW, gW, sW, hW⟩ := laid_rule w (.int .i64 r.kind) v (.string (bs r.between)) (.string (bs r.mask)) (.int .i64 r.modulus) (.string (bs r.target)) (.string (bs r.repl)) 24
  have HGW := hide gW
  have HW := hide hW
  clear gW hW hv hr hk
  go_enter Tryz.func3, Tryz.ntmps3
  go_wp2
  refine wp_region_free 8 11 Tryz.mixed2 rfl (by decide +kernel) Grow (fun _ _ _ => Grow.trans) (Grow.refl _)
    (fun i v' w' => match i with
      | 0 => v' = .bool true
      | 1 => v' = .bool true
      | 2 => v' = .agg #[.int .i64 r.kind, v, .string (bs r.between), .string (bs r.mask), .int .i64 r.modulus, .string (bs r.target), .string (bs r.repl)]
      | 3 => v' = .int .i64 E
      | 4 => v' = .agg #[.int .i64 r.kind, v, .string (bs r.between), .string (bs r.mask), .int .i64 r.modulus, .string (bs r.target), .string (bs r.repl)]
      | 5 => v' = .int .i64 E
      | 6 => v' = .bool true
      | _ => v' = .bool true)
    (fun i v w1 w2 h hg => h) (fun _ _ => False) (fun _ _ _ _ h => h.elim) (fun i hi o ho a2 w2 hG hoff hdep => ?_) (fun vals w2 hG hvals => ?_)
  · have hg2 : Grow W w2 := hG.undrew
    have hgw := HGW.out.trans hg2
    obtain ⟨c0, c1, c2, c3, c4, c5, c6⟩ := seven_cells (hg2.get HW.out)
    match i, hi with
    | 0, _ =>
      obtain rfl := Option.some.inj ho
      simp [opYields, go_sem]
      refine (relabelBegun_any w2).mono ?_
      rintro e w3 ⟨rfl, hg3⟩
      exact ⟨hg3, rfl⟩
    | 1, _ =>
      obtain rfl := Option.some.inj ho
      have d0 := hdep 0 (by decide +kernel)
      simp [slotOf, dstOf] at d0
      simp [opYields, go_sem, d0]
      exact Grow.refl _
    | 2, _ =>
      have hwt := wanted_yes ho (g := 1) (by rfl) (hdep 1 (by decide +kernel))
      unfold opYields
      rw [if_pos hwt]
      obtain rfl := Option.some.inj ho
      have o1 := hoff 1 (by decide +kernel)
      simp at o1
      simp [go_sem, o1, c0, c1, c2, c3, c4, c5, c6]
      exact Grow.refl _
    | 3, _ =>
      have hwt := wanted_yes ho (g := 1) (by rfl) (hdep 1 (by decide +kernel))
      unfold opYields
      rw [if_pos hwt]
      obtain rfl := Option.some.inj ho
      have d2 := hdep 2 (by decide +kernel)
      simp [slotOf, dstOf] at d2
      simp [go_sem, d2]
      refine (HC.out w2 hgw).mono ?_
      rintro e w3 ⟨rfl, hg3⟩
      exact ⟨hg3, rfl⟩
    | 4, _ =>
      have hwt := wanted_yes ho (g := 1) (by rfl) (hdep 1 (by decide +kernel))
      unfold opYields
      rw [if_pos hwt]
      obtain rfl := Option.some.inj ho
      have o1 := hoff 1 (by decide +kernel)
      simp at o1
      simp [go_sem, o1, c0, c1, c2, c3, c4, c5, c6]
      exact Grow.refl _
    | 5, _ =>
      have hwt := wanted_yes ho (g := 1) (by rfl) (hdep 1 (by decide +kernel))
      unfold opYields
      rw [if_pos hwt]
      obtain rfl := Option.some.inj ho
      have d4 := hdep 4 (by decide +kernel)
      simp [slotOf, dstOf] at d4
      simp [go_sem, d4]
      refine (HR.out w2 hgw).mono ?_
      rintro e w3 ⟨rfl, hg3⟩
      exact ⟨hg3, rfl⟩
    | 6, _ =>
      have hwt := wanted_yes ho (g := 1) (by rfl) (hdep 1 (by decide +kernel))
      unfold opYields
      rw [if_pos hwt]
      obtain rfl := Option.some.inj ho
      have d3 := hdep 3 (by decide +kernel)
      have d5 := hdep 5 (by decide +kernel)
      simp [slotOf, dstOf] at d3 d5
      simp [go_sem, d3, d5]
      exact Grow.refl _
    | 7, _ =>
      obtain rfl := Option.some.inj ho
      have d1 := hdep 1 (by decide +kernel)
      simp [slotOf, dstOf] at d1
      have d6 := hdep 6 (by decide +kernel)
      simp [slotOf, dstOf] at d6
      simp [opYields, go_sem, d1, d6]
      exact Grow.refl _
    | k + 8, h => exact absurd h (by omega)
  · have v7 := hvals 7 (by omega)
    simp only at v7
    clear hvals
    have hg2 : Grow W w2 := hG.undrew
    have HG2 : Hid (Grow w w2) := hide (HGW.out.trans hg2)
    clear hg2 hG eW
    simp [over, dstOf, Act.put, v7]
    go_wp2
    go_ret
    exact ⟨rfl, HG2.out⟩
end Go.Proofs.YtndpjdmfkhjiiaaGreatDoor.Rl
