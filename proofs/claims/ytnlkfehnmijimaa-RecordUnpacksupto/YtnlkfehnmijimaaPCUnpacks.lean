/- RecordUnpacks, for every text of at most 1048576 bytes: Unpack answers what the document says, errors too. (Without that bound it is false: of a text of some 2^46 bytes that tells 2^45 refs without labels the document's own reader keeps a row beyond 2^48 bytes.) -/
import Derived.Test.YtnlkfehnmijimaaRows
import Derived.Test.YtnlkfehnmijimaaKit
import Derived.Test.YtnlkfehnmijimaaTrod
import Derived.Test.YtnlkfehnmijimaaRfJ
import Derived.Test.YtnlkfehnmijimaaRfO
import Derived.Test.YtnlkfehnmijimaaRfP
import Derived.Test.YtnlkfehnmijimaaRfV
import Derived.Test.YtnlkfehnmijimaaRfW
import Derived.ProofKit
import Derived.OpenShut
import Derived.JoinedCond
import Derived.BigQuiet
import Derived.BigFrame
set_option linter.unusedVariables false
set_option linter.unusedSimpArgs false
namespace Go.Proofs.Ytnlkfehnmijimaa
open Go.ChangeShapes Go.WideShapes Go.ChangeAt Go.RowKit
open Go.ChangeMaps (open_string shut_string)
attribute [local go_sem] bs_size bs_toList bs_append bs_get bs_extract

open Rc
set_option maxRecDepth 20000 in
set_option maxHeartbeats 4000000 in
theorem recordUnpacks_any (w : World) (s : List UInt8) (hs : s.length ≤ 1048576) :
    Calls Try.prog 4 #[.string (bs s)] w fun e w' => e = .returned (.bool true) ∧ Below w.heap.size w w' := by
  have HU := hide (unpack_any w s (by omega))
  have HR : Hid (∀ W, Calls Try.prog 13 #[.string (bs s)] W (unpackAns W.heap.size (unpO s) W)) := hide fun W => unpackRecord_any W s hs
  unfold unpackAns at HU HR
  cases hu : unpO s with
  | none =>
    rw [hu] at HU HR
    simp only at HU HR
    have HSR : Hid (∀ W, Calls Try.prog 14 #[.agg #[.int .i64 0, .slice none 0 0, .slice none 0 0], .agg #[.int .i64 0, .slice none 0 0, .slice none 0 0]] W fun e w' => e = .returned (.bool true) ∧ Grow W w') := hide fun W => sameRec_yes W _ _ _ _ ⟨0, [], []⟩ ⟨none, 0, rfl, fun i hi => by simp at hi⟩ ⟨none, 0, rfl, fun i hi => by simp at hi⟩ ⟨none, 0, rfl, fun i hi => by simp at hi⟩ ⟨none, 0, rfl, fun i hi => by simp at hi⟩ (by simp) (by simp) (by simp)
    clear hu
    go_enter Try.func4, Try.ntmps4
    go_wp2_with fail
    refine HU.out.mono ?_
    rintro e w1 ⟨hg1, rfl⟩
    have HG1 := hide hg1
    clear hg1 HU
    obtain ⟨V1, e1, g1, b1⟩ := laid_at w1 #[.int .i64 0, .slice none 0 0, .slice none 0 0] 25
    have HR1 := hide (HR.out V1)
    have HGV := hide (HG1.out.trans g1)
    have HB1 := hide b1
    have E1 := hide e1
    rw [← e1] at HR1
    clear g1 b1 e1 HR
    go_wp2_with fail
    refine HR1.out.mono ?_
    rintro e w2 ⟨hg2, rfl⟩
    rw [E1.out] at hg2
    have HG2 := hide (HGV.out.trans hg2)
    obtain ⟨V2, e2, g2, b2⟩ := laid_at w2 #[.int .i64 0, .slice none 0 0, .slice none 0 0] 25
    have HGV2 := hide (HG2.out.trans g2)
    have HB2 := hide (g2.get (hg2.get HB1.out))
    have HB3 := hide b2
    have E2 := hide e2
    have HBG := hide (recordBegun_any V2)
    rw [← e2] at HBG
    clear hg2 g2 b2 e2 HR1
    go_wp2_with fail
    refine HBG.out.mono ?_
    rintro e w3 ⟨rfl, hg3⟩
    rw [E2.out] at hg3
    have HG3 := hide (HGV2.out.trans hg3)
    obtain ⟨c0, c1, c2⟩ := three_of (hg3.get HB2.out)
    obtain ⟨d0, d1, d2⟩ := three_of (hg3.get HB3.out)
    clear hg3 HBG
    go_wp2_with fail
    refine (HSR.out w3).mono ?_
    rintro e w4 ⟨rfl, hg4⟩
    have HG4 := hide (HG3.out.trans hg4)
    clear hg4
    go_wp2
    go_ret
    exact ⟨rfl, HG4.out⟩
  | some r =>
    rw [hu] at HU HR
    simp only at HU HR
    obtain ⟨hz, _⟩ := unpO_some hu
    have HLL : Hid (r.refs.length ≤ 1000000 ∧ (∀ x ∈ r.refs, x.2.length ≤ 1000000) ∧ r.points.length ≤ 1000000) := hide (by
      obtain ⟨_, hrl, hpl, hro, _⟩ := recErr_zero hz
      exact ⟨by omega, fun x hx => by have := (check_small (refErr_zero (hro x hx)).2.2).1; omega, by omega⟩)
    clear hu hz
    go_enter Try.func4, Try.ntmps4
    go_wp2_with fail
    refine HU.out.mono ?_
    rintro e w1 ⟨hg1, ur, up, rfl, hor, hop⟩
    have HG1 := hide hg1
    have HRR := hide (reads_ownRefs hor)
    have HRP := hide (reads_ownPoints hop)
    obtain ⟨uo, uc, hur⟩ := ownRefs_shape hor
    obtain ⟨qo, qc, hup⟩ := own_shape hop
    subst hur hup
    clear hg1 HU hor hop
    obtain ⟨V1, e1, g1, b1⟩ := laid_at w1 #[.int .i64 r.kind, .slice uo r.refs.length uc, .slice qo r.points.length qc] 25
    have HR1 := hide (HR.out V1)
    have HGV := hide (HG1.out.trans g1)
    have HGw1 := hide g1
    have HB1 := hide b1
    have E1 := hide e1
    rw [← e1] at HR1
    clear g1 b1 e1 HR
    go_wp2_with fail
    refine HR1.out.mono ?_
    rintro e w2 ⟨hg2, vr, vp, rfl, hor, hop⟩
    rw [E1.out] at hg2
    have HG2 := hide (HGV.out.trans hg2)
    have HGw2 := hide (HGw1.out.trans hg2)
    have HSR2 := hide (reads_ownRefs hor)
    have HSP2 := hide (reads_ownPoints hop)
    obtain ⟨vo, vc, hvr⟩ := ownRefs_shape hor
    obtain ⟨po, pc, hvp⟩ := own_shape hop
    subst hvr hvp
    obtain ⟨V2, e2, g2, b2⟩ := laid_at w2 #[.int .i64 r.kind, .slice vo r.refs.length vc, .slice po r.points.length pc] 25
    have HGV2 := hide (HG2.out.trans g2)
    have HGw3 := hide (HGw2.out.trans g2)
    have HGx := hide g2
    have HB2 := hide (g2.get (hg2.get HB1.out))
    have HB3 := hide b2
    have E2 := hide e2
    have HBG := hide (recordBegun_any V2)
    rw [← e2] at HBG
    clear hg2 g2 b2 e2 HR1 hor hop
    go_wp2_with fail
    refine HBG.out.mono ?_
    rintro e w3 ⟨rfl, hg3⟩
    rw [E2.out] at hg3
    have HG3 := hide (HGV2.out.trans hg3)
    have hga := HGw3.out.trans hg3
    have hgb := HGx.out.trans hg3
    have HSR := hide (sameRec_yes w3 (.slice uo r.refs.length uc) (.slice vo r.refs.length vc) (.slice qo r.points.length qc) (.slice po r.points.length pc) r ((HRR.out.keep hga).more hga.size) ((HSR2.out.keep hgb).more hgb.size) ((HRP.out.keep hga).more hga.size) ((HSP2.out.keep hgb).more hgb.size) HLL.out.1 HLL.out.2.1 HLL.out.2.2)
    obtain ⟨c0, c1, c2⟩ := three_of (hg3.get HB2.out)
    obtain ⟨d0, d1, d2⟩ := three_of (hg3.get HB3.out)
    clear hg3 HBG hga hgb
    go_wp2_with fail
    refine HSR.out.mono ?_
    rintro e w4 ⟨rfl, hg4⟩
    have HG4 := hide (HG3.out.trans hg4)
    clear hg4
    go_wp2
    go_ret
    exact ⟨rfl, HG4.out⟩

theorem Try.own : ownKnob Try.prog.godebug = none := by kernel_rfl
theorem Try.laidOut : laidOutB Try.prog = true := by kernel_rfl

set_option maxRecDepth 100000 in
theorem recordUnpacks_lifted (os : Os) (started : os.Started) (H : Type) (enc : TypeId × Value → H) (F : Stop.Interp) :
    ReturnsInHanded {} Try.checked os 4 .any ((Rows.OpenSpec.upto Rows.recordUnpacksSpec).pre6 enc Try.prog Try.f4 Rows.recordUnpacksUptoRow.domain false) (((Rows.OpenSpec.upto Rows.recordUnpacksSpec).at F).post enc Try.prog Try.f4 false true false false) := by
  refine returnsInHanded_of_cond (C := Try.checked) (s := Rows.OpenSpec.upto Rows.recordUnpacksSpec) (k := Rows.uptoSmall) rfl Try.own started (by kernel_rfl) Try.func4
    (OpenSpec.witness (enc := enc) (C := Try.checked) (s := Rows.OpenSpec.upto Rows.recordUnpacksSpec) (k := Rows.uptoSmall) rfl false ⟨#[], #[.string ByteArray.empty], []⟩ 8 (by kernel_rfl) (by kernel_rfl) (by kernel_rfl)
      (x := ([.lit (.string [])], [], [])) (by kernel_rfl) rfl (by kernel_rfl)) ?_
  intro W base args ds gs before hval0 hW hcnd hbk0 _
  have hval : ∀ (j : Nat) t v, Try.f4.params[j]? = some t → args[j]? = some v → Value.okWide Try.prog W .any base t v := hval0
  have hW' := hW
  obtain ⟨p, q, hA0, hV, rfl, hfz, hnd⟩ := hW
  have hA : DataW.TrodAll enc Try.prog W 0 (fun _ => true) true Try.f4.params.toList args.toList ds p := hA0
  rw [Try.params4] at hA hval
  obtain ⟨v0, d0, rfl, rfl, h0⟩ := trodAll_one hA
  obtain ⟨rfl, rfl⟩ := trodVars_none hV
  obtain ⟨s0, rfl, rfl, rfl, hs0⟩ := open_string Try.underlying9 (hval 0 9 v0 rfl rfl) h0
  clear hA0 hval0
  simp only [List.append_nil, List.nil_append] at hW'
  have hlt := fun x hx => hW'.lt x hx
  have hbk1 := bulk_bound hbk0
  have hbk : ∀ n, n ≤ Rows.uptoBulkAll _ → n ≤ 1048576 := fun n hn => Nat.le_trans hn hbk1
  have hc := recordUnpacks_any W s0.data.toList (by have := hbk s0.data.toList.length (by simp [Rows.uptoBulkAll, bulk_text] <;> omega); omega)
  rw [← bs_surj] at hc
  refine hc.mono fun e W' ⟨he, hnx⟩ => ?_
  subst he
  refine ⟨_, rfl, ?_⟩
  show Rows.recordUnpacksSpec.post enc Try.prog Try.f4 false true false false W _ _ W'
  refine ⟨_, _, _, [], ([]), [], hW', ?_, ?_, rfl, hnx.frame _, fun h => by cases h⟩
  · exact trodAll_mk1 (shut_bool Try.underlying4 _)
  · exact trodAll_eq (trodAll_mk1 (shut_string Try.underlying9 hs0)) (by simp)

theorem recordUnpacks_holds : Rows.RecordUnpacksUptoSaid :=
  OpenClaim.holds_of_cond 4 Try.f4 rfl rfl rfl rfl rfl rfl rfl ⟨rfl, rfl, rfl, rfl, rfl⟩ rfl rfl rfl rfl rfl (by kernel_rfl) Try.func4 (by kernel_rfl)
    (of_decide_eq_true (by kernel_rfl)) (by unfold Func.isWrapper; first | (rw [if_pos (by decide +kernel)]; kernel_rfl) | (rw [if_neg (by decide +kernel)]; exact ⟨rfl, rfl⟩))
    (fun os started H enc _ F => recordUnpacks_lifted os started H enc F)

end Go.Proofs.Ytnlkfehnmijimaa
