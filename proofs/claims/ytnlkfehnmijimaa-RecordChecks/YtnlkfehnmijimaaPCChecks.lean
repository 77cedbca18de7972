/- RecordChecks, for whatever is known: Check answers what the document says. No condition. -/
import Derived.Test.YtnlkfehnmijimaaRows
import Derived.Test.YtnlkfehnmijimaaKit
import Derived.Test.YtnlkfehnmijimaaTrod
import Derived.Test.YtnlkfehnmijimaaRfO
import Derived.Test.YtnlkfehnmijimaaRgC
import Derived.Test.YtnlkfehnmijimaaRgE
import Derived.Test.YtnlkfehnmijimaaRgF
import Derived.ProofKit
import Derived.BigQuiet
import Derived.BigFrame
set_option linter.unusedVariables false
set_option linter.unusedSimpArgs false
namespace Go.Proofs.Ytnlkfehnmijimaa
open Go.ChangeShapes Go.WideShapes Go.ChangeAt Go.RowKit
open Go.ChangeMaps (open_string shut_string)
attribute [local go_sem] bs_size bs_toList bs_append bs_get bs_extract

open Rc
set_option maxRecDepth 20000 in
set_option maxHeartbeats 4000000 in
theorem recordChecks_any (w : World) (vr vl vh : Value) (k : Knw) (hv : readsKnw w w.heap.size vr vl vh k) (hok : okKnw k) :
    Calls Try.prog 5 #[.agg #[vr, vl, vh]] w fun e w' => e = .returned (.bool true) ∧ Below w.heap.size w w' := by
  obtain ⟨V1, e1, g1, b1⟩ := laid_at w #[vr, vl, vh] 41
  have HB := hide b1
  have HG := hide g1
  have HA : Hid (∀ W, Grow V1 W → readsKnw W W.heap.size vr vl vh k) := hide fun W h => (hv.keep (Below.trans g1 (Below.mono h g1.size))).more (Nat.le_trans g1.size h.size)
  have HCA : Hid (∀ W, Grow V1 W → Calls Try.prog 15 #[.agg #[vr, vl, vh]] W fun e w' => e = .returned (.int .i64 (knwErr k)) ∧ Grow W w') := hide fun W h => kcheck_any W vr vl vh k (HA.out W h) hok
  have HCB : Hid (∀ W, Grow V1 W → Calls Try.prog 16 #[.agg #[vr, vl, vh]] W fun e w' => e = .returned (.int .i64 (knwErr k)) ∧ Grow W w') := hide fun W h => rCheckKnown_any W vr vl vh k (HA.out W h) hok
  obtain ⟨ro, n1, rc, hv1⟩ : ∃ ao n cp, vr = .slice ao n cp := by obtain ⟨⟨ao, cp, e, _⟩, _⟩ := hv; exact ⟨_, _, _, e⟩
  obtain ⟨lo, n2, lc, hv2⟩ : ∃ ao n cp, vl = .slice ao n cp := by obtain ⟨_, ⟨ao, cp, e, _⟩, _⟩ := hv; exact ⟨_, _, _, e⟩
  obtain ⟨ho, n3, hc, hv3⟩ : ∃ ao n cp, vh = .slice ao n cp := by obtain ⟨_, _, ⟨ao, cp, e, _⟩⟩ := hv; exact ⟨_, _, _, e⟩
  clear hv
  subst hv1 hv2 hv3
  obtain ⟨E, HE⟩ : ∃ E, Hid (knwErr k = E) := ⟨_, hide rfl⟩
  rw [HE.out] at HCA HCB
  clear g1 b1 HE HA hok
  go_enter Try.func5, Try.ntmps5
  go_wp2
  refine wp_region_free 8 11 mixedR rfl (by decide +kernel) Grow (fun _ _ _ => Grow.trans) (Grow.refl _)
    (fun i v _ => match i with
      | 0 => v = .bool true
      | 1 => v = .bool true
      | 2 => v = .agg #[.slice ro n1 rc, .slice lo n2 lc, .slice ho n3 hc]
      | 3 => v = .int .i64 E
      | 4 => v = .agg #[.slice ro n1 rc, .slice lo n2 lc, .slice ho n3 hc]
      | 5 => v = .int .i64 E
      | 6 => v = .bool true
      | _ => v = .bool true)
    (fun i v w w' h hg => h) (fun _ _ => False) (fun _ _ _ _ h => h.elim) (fun i hi o ho a w2 hG hoff hdep => ?_) (fun vals w2 hG hvals => ?_)
  · have hG1 : Grow V1 w2 := by rw [← e1]; rw [← e1] at hG; exact hG.undrew
    obtain ⟨c0, c1, c2⟩ := three_of (hG1.get HB.out)
    match i, hi with
    | 0, _ =>
      obtain rfl := Option.some.inj ho
      simp [opYields, go_sem]
      refine (recordBegun_any w2).mono ?_
      rintro e w3 ⟨rfl, hb⟩
      exact ⟨hb, rfl⟩
    | 1, _ =>
      obtain rfl := Option.some.inj ho
      have d0 := hdep 0 (by decide +kernel)
      simp [slotOf, dstOf] at d0
      simp [opYields, go_sem, d0]
      exact Grow.refl _
    | 2, _ =>
      have hwt := gwanted ho (g := 1) (bb := true) (by rfl) (hdep 1 (by decide +kernel))
      unfold opYields
      rw [if_pos hwt]
      obtain rfl := Option.some.inj ho
      have o1 := hoff 1 (by decide +kernel)
      simp at o1
      simp [go_sem, o1, c0, c1, c2]
      exact Grow.refl _
    | 3, _ =>
      have hwt := gwanted ho (g := 1) (bb := true) (by rfl) (hdep 1 (by decide +kernel))
      unfold opYields
      rw [if_pos hwt]
      obtain rfl := Option.some.inj ho
      have d2 := hdep 2 (by decide +kernel)
      simp [slotOf, dstOf] at d2
      simp [go_sem, d2]
      refine (HCA.out w2 hG1).mono ?_
      rintro e w3 ⟨rfl, hb⟩
      exact ⟨hb, rfl⟩
    | 4, _ =>
      have hwt := gwanted ho (g := 1) (bb := true) (by rfl) (hdep 1 (by decide +kernel))
      unfold opYields
      rw [if_pos hwt]
      obtain rfl := Option.some.inj ho
      have o1 := hoff 1 (by decide +kernel)
      simp at o1
      simp [go_sem, o1, c0, c1, c2]
      exact Grow.refl _
    | 5, _ =>
      have hwt := gwanted ho (g := 1) (bb := true) (by rfl) (hdep 1 (by decide +kernel))
      unfold opYields
      rw [if_pos hwt]
      obtain rfl := Option.some.inj ho
      have d4 := hdep 4 (by decide +kernel)
      simp [slotOf, dstOf] at d4
      simp [go_sem, d4]
      refine (HCB.out w2 hG1).mono ?_
      rintro e w3 ⟨rfl, hb⟩
      exact ⟨hb, rfl⟩
    | 6, _ =>
      have hwt := gwanted ho (g := 1) (bb := true) (by rfl) (hdep 1 (by decide +kernel))
      unfold opYields
      rw [if_pos hwt]
      obtain rfl := Option.some.inj ho
      have d3 := hdep 3 (by decide +kernel)
      simp [slotOf, dstOf] at d3
      have d5 := hdep 5 (by decide +kernel)
      simp [slotOf, dstOf] at d5
      simp [go_sem, d3, d5]
      exact Grow.refl _
    | 7, _ =>
      obtain rfl := Option.some.inj ho
      have d1 := hdep 1 (by decide +kernel)
      simp [slotOf, dstOf] at d1
      have d6 := hdep 6 (by decide +kernel)
      simp [slotOf, dstOf] at d6
      simp [opYields, go_sem, d1, d6]
      exact Grow.refl _
    | k + 8, h => exact absurd h (by omega)
  · have v7 := hvals 7 (by omega)
    simp only at v7
    have HG2 : Hid (Grow w w2) := hide (HG.out.trans (by rw [← e1]; rw [← e1] at hG; exact hG.undrew))
    clear hvals hG
    simp [over, dstOf, Act.put, v7]
    go_wp2
    go_ret
    exact ⟨rfl, HG2.out⟩

theorem Try.own : ownKnob Try.prog.godebug = none := by kernel_rfl
theorem Try.laidOut : laidOutB Try.prog = true := by kernel_rfl

set_option maxRecDepth 100000 in
theorem recordChecks_lifted (os : Os) (started : os.Started) (H : Type) (enc : TypeId × Value → H) :
    ReturnsInHanded {} Try.checked os 5 .any (Rows.recordChecksSpec.pre6 enc Try.prog Try.f5 Rows.recordChecksRow.domain false) (Rows.recordChecksSpec.post enc Try.prog Try.f5 false true false false) := by
  refine returnsInHanded_of_change (C := Try.checked) Try.own started (by kernel_rfl) Try.func5
    (ChangeSpec.witness6 (enc := enc) (C := Try.checked) false ⟨#[], #[.agg #[.slice none 0 0, .slice none 0 0, .slice none 0 0]], []⟩ 8 (by kernel_rfl) (by kernel_rfl) (by kernel_rfl) (by kernel_rfl)) ?_
  intro W base args ds gs before hval0 hW hcnd _
  have hval : ∀ (j : Nat) t v, Try.f5.params[j]? = some t → args[j]? = some v → Value.okWide Try.prog W .any base t v := hval0
  have hW' := hW
  obtain ⟨p, q, hA0, hV, rfl, hfz, hnd⟩ := hW
  have hA : DataW.TrodAll enc Try.prog W 0 (fun _ => true) true Try.f5.params.toList args.toList ds p := hA0
  rw [Try.params5] at hA hval
  obtain ⟨v0, d0, rfl, rfl, h0⟩ := trodAll_one hA
  obtain ⟨rfl, rfl⟩ := trodVars_none hV
  have hk0 := h0
  obtain ⟨k0, vr0, vl0, vh0, rfl, hr0, ho0⟩ := Rc.open_known (hval 0 41 v0 rfl rfl) h0
  clear hA0 hval0
  simp only [List.append_nil, List.nil_append] at hW'
  have hlt := fun x hx => hW'.lt x hx
  have hc := recordChecks_any W vr0 vl0 vh0 k0 hr0 ho0
  refine hc.mono fun e W' ⟨he, hnx⟩ => ?_
  subst he
  refine ⟨_, rfl, _, _, _, [], (p), [], hW', ?_, ?_, rfl, hnx.frame _, fun h => by cases h⟩
  · exact trodAll_mk1 (shut_bool Try.underlying4 _)
  · exact trodAll_eq (trodAll_mk1 (Below.trod Try.laidOut (by kernel_rfl) (of_decide_eq_true (by kernel_rfl)) hk0 hnx (fun x hx => hlt x (by simp [hx])))) (by simp)

theorem recordChecks_holds : Rows.RecordChecksSaid :=
  OpenClaim.holds_of_wide 5 Try.f5 rfl rfl rfl rfl rfl rfl rfl ⟨rfl, rfl, rfl, rfl, rfl⟩ rfl rfl rfl rfl rfl (by kernel_rfl) Try.func5 (by kernel_rfl)
    (of_decide_eq_true (by kernel_rfl)) (by unfold Func.isWrapper; first | (rw [if_pos (by decide +kernel)]; kernel_rfl) | (rw [if_neg (by decide +kernel)]; exact ⟨rfl, rfl⟩))
    (fun os started H enc _ => recordChecks_lifted os started H enc)

end Go.Proofs.Ytnlkfehnmijimaa
