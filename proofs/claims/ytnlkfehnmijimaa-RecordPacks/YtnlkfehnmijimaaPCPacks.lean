/- RecordPacks, for every record: Pack answers what the document says, errors too. No condition. -/
import Derived.Test.YtnlkfehnmijimaaRows
import Derived.Test.YtnlkfehnmijimaaKit
import Derived.Test.YtnlkfehnmijimaaTrod
import Derived.Test.YtnlkfehnmijimaaRcR
import Derived.Test.YtnlkfehnmijimaaRfK
import Derived.Test.YtnlkfehnmijimaaRfM
import Derived.Test.YtnlkfehnmijimaaRfO
import Derived.Test.YtnlkfehnmijimaaRfP
import Derived.ProofKit
import Derived.BigQuiet
import Derived.BigFrame
set_option linter.unusedVariables false
set_option linter.unusedSimpArgs false
namespace Go.Proofs.Ytnlkfehnmijimaa
open Go.ChangeShapes Go.WideShapes Go.ChangeAt Go.RowKit
open Go.ChangeMaps (open_string shut_string)
attribute [local go_sem] bs_size bs_toList bs_append bs_get bs_extract

open Rc
theorem rcTextIs (w : World) (s t : List UInt8) (e : Int) (h : (e ≠ 0 ∧ s = []) ∨ (e = 0 ∧ s = t)) :
    Calls Try.prog 11 #[.string (bs s), .int .i64 e, .int .i64 e, .string (bs t)] w fun e w' => e = .returned (.bool true) ∧ w' = w := by
  rcases h with ⟨h0, rfl⟩ | ⟨rfl, rfl⟩
  · have hne : (e != 0) = true := by simpa using h0
    clear h0
    go_enter Try.func11, Try.ntmps11
    go_wp2
    go_ret
    exact ⟨by rfl, rfl⟩
  · go_enter Try.func11, Try.ntmps11
    go_wp2
    go_ret
    exact ⟨by simp, rfl⟩
set_option maxRecDepth 20000 in
set_option maxHeartbeats 4000000 in
theorem recordPacks_any (w : World) (vr vp : Value) (r : Rcd) (hr : readsRefs w w.heap.size vr r.refs) (hp : readsPoints w w.heap.size vp r.points) (hok : okRec r) :
    Calls Try.prog 3 #[.agg #[.int .i64 r.kind, vr, vp]] w fun e w' => e = .returned (.bool true) ∧ Below w.heap.size w w' := by
  obtain ⟨V1, e1, g1, b1⟩ := laid_at w #[.int .i64 r.kind, vr, vp] 25
  have HB := hide b1
  have HG := hide g1
  have HPK := hide (pack_any V1 vr vp r ((hr.keep g1).more g1.size) ((hp.keep g1).more g1.size) hok)
  have HCR : Hid (∀ W, Grow V1 W → Calls Try.prog 8 #[.agg #[.int .i64 r.kind, vr, vp]] W fun e w' => e = .returned (.int .i64 (recErr r)) ∧ Grow W w') := hide fun W h => rCheckRecord_any W vr vp r ((hr.keep (Below.trans g1 (Below.mono h g1.size))).more (Nat.le_trans g1.size h.size)) ((hp.keep (Below.trans g1 (Below.mono h g1.size))).more (Nat.le_trans g1.size h.size)) hok
  have HPO : Hid (recErr r = 0 → ∀ W, Grow V1 W → Calls Try.prog 9 #[.agg #[.int .i64 r.kind, vr, vp]] W fun e w' => e = .returned (.string (bs (packB r))) ∧ Grow W w') := hide fun h0 W h => packOf_any W vr vp r ((hr.keep (Below.trans g1 (Below.mono h g1.size))).more (Nat.le_trans g1.size h.size)) ((hp.keep (Below.trans g1 (Below.mono h g1.size))).more (Nat.le_trans g1.size h.size)) hok h0
  obtain ⟨ro, rc, rfl, _⟩ := hr
  obtain ⟨po, pc, rfl, _⟩ := hp
  obtain ⟨c0, c1, c2⟩ := three_of b1
  have HT : Hid ((((recErr r : Nat) : Int) ≠ 0 ∧ packT r = []) ∨ (((recErr r : Nat) : Int) = 0 ∧ packT r = packB r)) := hide (by
    unfold packT
    by_cases h : recErr r = 0
    · exact .inr ⟨by omega, if_pos h⟩
    · exact .inl ⟨by omega, if_neg h⟩)
  obtain ⟨E, HE⟩ : ∃ E, Hid (recErr r = E) := ⟨_, hide rfl⟩
  obtain ⟨PT, HPT⟩ : ∃ PT, Hid (packT r = PT) := ⟨_, hide rfl⟩
  rw [HE.out, HPT.out] at HPK
  rw [HE.out, HPT.out] at HT
  rw [HE.out] at HCR HPO
  clear g1 b1 HE HPT
  go_enter Try.func3, Try.ntmps3
  go_wp2_with fail
  refine HPK.out.mono ?_
  rintro e w1 ⟨rfl, hg1⟩
  have HG1 := hide hg1
  obtain ⟨c0, c1, c2⟩ := three_of (hg1.get HB.out)
  clear hg1 HPK
  go_wp2_with fail
  refine (HCR.out w1 HG1.out).mono ?_
  rintro e w2 ⟨rfl, hg2⟩
  have HG2 := hide (HG1.out.trans hg2)
  obtain ⟨c0, c1, c2⟩ := three_of (HG2.out.get HB.out)
  clear hg2 HCR
  by_cases h0 : E = 0
  · have HP0 := hide (HPO.out h0 w2 HG2.out)
    have hz : ((E : Int) == 0) = true := by simp [h0]
    have HTT : Hid (((E : Int) ≠ 0 ∧ PT = []) ∨ ((E : Int) = 0 ∧ PT = packB r)) := HT
    clear h0 HPO
    go_wp2_with fail
    refine HP0.out.mono ?_
    rintro e w3 ⟨rfl, hg3⟩
    have HG3 := hide (HG2.out.trans hg3)
    clear hg3 HP0
    go_wp2_with fail
    refine (recordBegun_any w3).mono ?_
    rintro e w4 ⟨rfl, hg4⟩
    have HG4 := hide (HG3.out.trans hg4)
    clear hg4
    go_wp2_with fail
    refine (rcTextIs w4 PT (packB r) E HTT.out).mono ?_
    rintro e w5 ⟨rfl, rfl⟩
    go_wp2
    go_ret
    exact ⟨rfl, HG.out.trans HG4.out⟩
  · have hz : ((E : Int) == 0) = false := by rw [beq_eq_false_iff_ne]; omega
    have HTT : Hid (((E : Int) ≠ 0 ∧ PT = []) ∨ ((E : Int) = 0 ∧ PT = [])) := hide (by rcases HT.out with h | h; exact .inl h; exact absurd h.1 (by omega))
    clear h0 HPO
    go_wp2_with fail
    refine (recordBegun_any w2).mono ?_
    rintro e w4 ⟨rfl, hg4⟩
    have HG4 := hide (HG2.out.trans hg4)
    clear hg4
    go_wp2_with fail
    refine (rcTextIs w4 PT [] E HTT.out).mono ?_
    rintro e w5 ⟨rfl, rfl⟩
    go_wp2
    go_ret
    exact ⟨rfl, HG.out.trans HG4.out⟩

theorem Try.own : ownKnob Try.prog.godebug = none := by kernel_rfl
theorem Try.laidOut : laidOutB Try.prog = true := by kernel_rfl

set_option maxRecDepth 100000 in
theorem recordPacks_lifted (os : Os) (started : os.Started) (H : Type) (enc : TypeId × Value → H) :
    ReturnsInHanded {} Try.checked os 3 .any (Rows.recordPacksSpec.pre6 enc Try.prog Try.f3 Rows.recordPacksRow.domain false) (Rows.recordPacksSpec.post enc Try.prog Try.f3 false true false false) := by
  refine returnsInHanded_of_change (C := Try.checked) Try.own started (by kernel_rfl) Try.func3
    (ChangeSpec.witness6 (enc := enc) (C := Try.checked) false ⟨#[], #[.agg #[.int .i64 0, .slice none 0 0, .slice none 0 0]], []⟩ 8 (by kernel_rfl) (by kernel_rfl) (by kernel_rfl) (by kernel_rfl)) ?_
  intro W base args ds gs before hval0 hW hcnd _
  have hval : ∀ (j : Nat) t v, Try.f3.params[j]? = some t → args[j]? = some v → Value.okWide Try.prog W .any base t v := hval0
  have hW' := hW
  obtain ⟨p, q, hA0, hV, rfl, hfz, hnd⟩ := hW
  have hA : DataW.TrodAll enc Try.prog W 0 (fun _ => true) true Try.f3.params.toList args.toList ds p := hA0
  rw [Try.params3] at hA hval
  obtain ⟨v0, d0, rfl, rfl, h0⟩ := trodAll_one hA
  obtain ⟨rfl, rfl⟩ := trodVars_none hV
  have hk0 := h0
  obtain ⟨r0, vr0, vp0, rfl, hr0, hp0, ho0⟩ := Rc.open_record (hval 0 25 v0 rfl rfl) h0
  clear hA0 hval0
  simp only [List.append_nil, List.nil_append] at hW'
  have hlt := fun x hx => hW'.lt x hx
  have hc := recordPacks_any W vr0 vp0 r0 hr0 hp0 ho0
  refine hc.mono fun e W' ⟨he, hnx⟩ => ?_
  subst he
  refine ⟨_, rfl, _, _, _, [], (p), [], hW', ?_, ?_, rfl, hnx.frame _, fun h => by cases h⟩
  · exact trodAll_mk1 (shut_bool Try.underlying4 _)
  · exact trodAll_eq (trodAll_mk1 (Below.trod Try.laidOut (by kernel_rfl) (of_decide_eq_true (by kernel_rfl)) hk0 hnx (fun x hx => hlt x (by simp [hx])))) (by simp)

theorem recordPacks_holds : Rows.RecordPacksSaid :=
  OpenClaim.holds_of_wide 3 Try.f3 rfl rfl rfl rfl rfl rfl rfl ⟨rfl, rfl, rfl, rfl, rfl⟩ rfl rfl rfl rfl rfl (by kernel_rfl) Try.func3 (by kernel_rfl)
    (of_decide_eq_true (by kernel_rfl)) (by unfold Func.isWrapper; first | (rw [if_pos (by decide +kernel)]; kernel_rfl) | (rw [if_neg (by decide +kernel)]; exact ⟨rfl, rfl⟩))
    (fun os started H enc _ => recordPacks_lifted os started H enc)

end Go.Proofs.Ytnlkfehnmijimaa
