/- RecordBack, for every record and every text: what is packed is unpacked as it was, and nothing else is unpacked so. No condition. -/
import Derived.Test.YtnlkfehnmijimaaRows
import Derived.Test.YtnlkfehnmijimaaKit
import Derived.Test.YtnlkfehnmijimaaTrod
import Derived.Test.YtnlkfehnmijimaaRcR
import Derived.Test.YtnlkfehnmijimaaRfM
import Derived.Test.YtnlkfehnmijimaaRfN
import Derived.Test.YtnlkfehnmijimaaRfO
import Derived.Test.YtnlkfehnmijimaaRfP
import Derived.ProofKit
import Derived.BigQuiet
import Derived.BigFrame
set_option linter.unusedVariables false
set_option linter.unusedSimpArgs false
namespace Go.Proofs.Ytnlkfehnmijimaa
open Go.ChangeShapes Go.WideShapes Go.ChangeAt Go.RowKit
open Go.ChangeMaps (open_string shut_string)
attribute [local go_sem] bs_size bs_toList bs_append bs_get bs_extract

open Rc
theorem okRecS_ok {r : Rcd} (h : okRecS r) : okRec r := ⟨h.1, by have := h.2.1; omega, by have := h.2.2.1; omega, h.2.2.2.1, h.2.2.2.2⟩
theorem unpO_okS {s : List UInt8} {r : Rcd} (hs : s.length ≤ 140737488355328) (h : unpO s = some r) : okRecS r := by
  cases s with
  | nil => cases h
  | cons c s =>
    simp only [unpO] at h
    cases hb : bodyO c s with
    | none => rw [hb] at h; cases h
    | some x =>
      obtain ⟨r0, q⟩ := x
      rw [hb] at h
      simp only at h
      simp only [List.length_cons] at hs
      by_cases hc : q = [] ∧ recErr r0 = 0
      · rw [if_pos hc] at h
        cases h
        exact bodyO_ok (by omega) hb
      · rw [if_neg hc] at h; cases h
set_option maxRecDepth 20000 in
set_option maxHeartbeats 8000000 in
theorem recordBack_any (w : World) (vr vp : Value) (r : Rcd) (hr : readsRefs w w.heap.size vr r.refs) (hp : readsPoints w w.heap.size vp r.points) (hok : okRec r) (s : List UInt8) (hs : s.length ≤ 140737488355328) :
    Calls Try.prog 6 #[.agg #[.int .i64 r.kind, vr, vp], .string (bs s)] w fun e w' => e = .returned (.bool true) ∧ Below w.heap.size w w' := by
  obtain ⟨V1, e1, g1, b1⟩ := laid_at w #[.int .i64 r.kind, vr, vp] 25
  have HB := hide b1
  have HG := hide g1
  have HR := hide hr
  have HP := hide hp
  have HOKR := hide hok
  have HPK : Hid (∀ W, Grow V1 W → Calls Try.prog 7 #[.agg #[.int .i64 r.kind, vr, vp]] W fun e w' => e = .returned (.tuple #[.string (bs (packT r)), .int .i64 (recErr r)]) ∧ Grow W w') := hide fun W h => pack_any W vr vp r ((hr.keep (Below.trans g1 (Below.mono h g1.size))).more (Nat.le_trans g1.size h.size)) ((hp.keep (Below.trans g1 (Below.mono h g1.size))).more (Nat.le_trans g1.size h.size)) hok
  obtain ⟨ro, rc, rfl, _⟩ := hr
  obtain ⟨po, pc, rfl, _⟩ := hp
  obtain ⟨E, HE⟩ : ∃ E, Hid (recErr r = E) := ⟨_, hide rfl⟩
  obtain ⟨PT, HPT⟩ : ∃ PT, Hid (packT r = PT) := ⟨_, hide rfl⟩
  rw [HE.out, HPT.out] at HPK
  clear g1 b1 hok
  go_enter Try.func6, Try.ntmps6
  go_wp2_with fail
  refine (recordBegun_any V1).mono ?_
  rintro e w1 ⟨rfl, hg1⟩
  have HG1 := hide hg1
  have HGW := hide (HG.out.trans hg1)
  have HPK1 := hide (HPK.out w1 hg1)
  obtain ⟨c0, c1, c2⟩ := three_of (hg1.get HB.out)
  clear hg1 HPK e1
  go_wp2_with fail
  refine HPK1.out.mono ?_
  rintro e w2 ⟨rfl, hg2⟩
  have HG2 := hide (HG1.out.trans hg2)
  have HGW2 := hide (HGW.out.trans hg2)
  clear hg2 HPK1 c0 c1 c2
  by_cases h0 : E = 0
  · as_aux_lemma =>
      subst h0
      have hr0 := HE.out
      have hpt : PT = packB r := by rw [← HPT.out]; unfold packT; rw [if_pos hr0]
      have hup : unpO PT = some r := by rw [hpt]; exact unpO_pack hr0 (fun x hx => (HOKR.out.2.2.2.2 x hx).2.2.2.2)
      have hptl : PT.length ≤ 140737488355328 := by
        obtain ⟨_, hrl, hpl, hro, _⟩ := recErr_zero hr0
        have h1 := refsB_len hro
        have h2 := pointsB_len r.points
        have h3 := numB_length r.refs.length
        have h4 := numB_length r.points.length
        rw [hpt]
        unfold packB
        split <;> simp only [List.length_cons, List.length_append] <;> omega
      have HU1 := hide (unpack_any w2 PT hptl)
      rw [hup] at HU1
      unfold unpackAns at HU1
      simp only at HU1
      have HLL : Hid (r.refs.length ≤ 1000000 ∧ (∀ x ∈ r.refs, x.2.length ≤ 1000000) ∧ r.points.length ≤ 1000000) := hide (by
        obtain ⟨_, hrl, hpl, hro, _⟩ := recErr_zero hr0
        exact ⟨by omega, fun x hx => by have := (check_small (refErr_zero (hro x hx)).2.2).1; omega, by omega⟩)
      clear hr0 hpt hup hptl
      go_wp2_with fail
      refine HU1.out.mono ?_
      rintro e w3 ⟨hg3, ur, up, rfl, hor, hop⟩
      have HG3 := hide (HG2.out.trans hg3)
      have HGW3 := hide (HGW2.out.trans hg3)
      have HRR := hide (reads_ownRefs hor)
      have HRP := hide (reads_ownPoints hop)
      obtain ⟨uo, uc, hur⟩ := ownRefs_shape hor
      obtain ⟨qo, qc, hup⟩ := own_shape hop
      subst hur hup
      clear hg3 HU1 hor hop
      obtain ⟨V4, e4, g4, b4⟩ := laid_at w3 #[.int .i64 r.kind, .slice uo r.refs.length uc, .slice qo r.points.length qc] 25
      have hgv4 := HGW3.out.trans g4
      have HSR := hide (sameRec_yes V4 (.slice uo r.refs.length uc) (.slice ro r.refs.length rc) (.slice qo r.points.length qc) (.slice po r.points.length pc) r ((HRR.out.keep g4).more g4.size) ((HR.out.keep hgv4).more hgv4.size) ((HRP.out.keep g4).more g4.size) ((HP.out.keep hgv4).more hgv4.size) HLL.out.1 HLL.out.2.1 HLL.out.2.2)
      have HGV4 := hide hgv4
      obtain ⟨x0, x1, x2⟩ := three_of b4
      obtain ⟨c0, c1, c2⟩ := three_of ((HG3.out.trans g4).get HB.out)
      rw [← e4] at HSR HGV4 x0 x1 x2 c0 c1 c2
      clear e4 g4 b4 hgv4
      go_wp2_with fail
      refine HSR.out.mono ?_
      rintro e w5 ⟨rfl, hg5⟩
      have HG5 := hide (HGV4.out.trans hg5)
      clear hg5 HSR x0 x1 x2 c0 c1 c2
      have HU := hide (unpack_any w5 s hs)
      unfold unpackAns at HU
      cases hu : unpO s with
      | none =>
        rw [hu] at HU
        simp only at HU
        clear hu
        go_wp2_with fail
        refine HU.out.mono ?_
        rintro e w7 ⟨hg7, rfl⟩
        have HG7 := hide (HG5.out.trans hg7)
        clear hg7 HU
        go_wp2
        go_ret
        exact ⟨rfl, HG7.out.trans ((Grow.refl _).alloc _)⟩
      | some r2 =>
        rw [hu] at HU
        simp only at HU
        obtain ⟨hz2, hpb⟩ := unpO_some hu
        have HZ2 := hide hz2
        have HPB : Hid (packT r2 = s) := hide (by unfold packT; rw [if_pos hz2, hpb])
        have HOK := hide (unpO_okS hs hu)
        clear hu hz2 hpb
        go_wp2_with fail
        refine HU.out.mono ?_
        rintro e w7 ⟨hg7, ur, up, rfl, hor, hop⟩
        have HG7 := hide (HG5.out.trans hg7)
        have HRR := hide (reads_ownRefs hor)
        have HRP := hide (reads_ownPoints hop)
        obtain ⟨uo, uc, hur⟩ := ownRefs_shape hor
        obtain ⟨qo, qc, hup⟩ := own_shape hop
        subst hur hup
        clear hg7 HU hor hop
        obtain ⟨V7, e7, g7, b7⟩ := laid_at w7 #[.int .i64 r2.kind, .slice uo r2.refs.length uc, .slice qo r2.points.length qc] 25
        have HPK := hide (pack_any V7 _ _ r2 ((HRR.out.keep g7).more g7.size) ((HRP.out.keep g7).more g7.size) (okRecS_ok HOK.out))
        have HG8 := hide (HG7.out.trans g7)
        obtain ⟨x0, x1, x2⟩ := three_of b7
        rw [HZ2.out, HPB.out] at HPK
        rw [← e7] at HPK HG8 x0 x1 x2
        clear e7 g7 b7
        go_wp2_with fail
        refine HPK.out.mono ?_
        rintro e w8 ⟨rfl, hg8⟩
        have HG9 := hide (HG8.out.trans hg8)
        clear hg8 HPK
        go_wp2
        go_ret
        exact ⟨ret_bool (by simp), HG9.out⟩
  · as_aux_lemma =>
      have hz : ((E : Int) == 0) = false := by rw [beq_eq_false_iff_ne]; omega
      clear h0
      have HU := hide (unpack_any w2 s hs)
      unfold unpackAns at HU
      cases hu : unpO s with
      | none =>
        rw [hu] at HU
        simp only at HU
        clear hu
        go_wp2_with fail
        refine HU.out.mono ?_
        rintro e w7 ⟨hg7, rfl⟩
        have HG7 := hide (HGW2.out.trans hg7)
        clear hg7 HU
        go_wp2
        go_ret
        exact ⟨rfl, HG7.out.trans ((Grow.refl _).alloc _)⟩
      | some r2 =>
        rw [hu] at HU
        simp only at HU
        obtain ⟨hz2, hpb⟩ := unpO_some hu
        have HZ2 := hide hz2
        have HPB : Hid (packT r2 = s) := hide (by unfold packT; rw [if_pos hz2, hpb])
        have HOK := hide (unpO_okS hs hu)
        clear hu hz2 hpb
        go_wp2_with fail
        refine HU.out.mono ?_
        rintro e w7 ⟨hg7, ur, up, rfl, hor, hop⟩
        have HG7 := hide (HGW2.out.trans hg7)
        have HRR := hide (reads_ownRefs hor)
        have HRP := hide (reads_ownPoints hop)
        obtain ⟨uo, uc, hur⟩ := ownRefs_shape hor
        obtain ⟨qo, qc, hup⟩ := own_shape hop
        subst hur hup
        clear hg7 HU hor hop
        obtain ⟨V7, e7, g7, b7⟩ := laid_at w7 #[.int .i64 r2.kind, .slice uo r2.refs.length uc, .slice qo r2.points.length qc] 25
        have HPK := hide (pack_any V7 _ _ r2 ((HRR.out.keep g7).more g7.size) ((HRP.out.keep g7).more g7.size) (okRecS_ok HOK.out))
        have HG8 := hide (HG7.out.trans g7)
        obtain ⟨x0, x1, x2⟩ := three_of b7
        rw [HZ2.out, HPB.out] at HPK
        rw [← e7] at HPK HG8 x0 x1 x2
        clear e7 g7 b7
        go_wp2_with fail
        refine HPK.out.mono ?_
        rintro e w8 ⟨rfl, hg8⟩
        have HG9 := hide (HG8.out.trans hg8)
        clear hg8 HPK
        go_wp2
        go_ret
        exact ⟨ret_bool (by simp), HG9.out⟩

theorem Try.own : ownKnob Try.prog.godebug = none := by kernel_rfl
theorem Try.laidOut : laidOutB Try.prog = true := by kernel_rfl

set_option maxRecDepth 100000 in
theorem recordBack_lifted (os : Os) (started : os.Started) (H : Type) (enc : TypeId × Value → H) :
    ReturnsInHanded {} Try.checked os 6 .any (Rows.recordBackSpec.pre6 enc Try.prog Try.f6 Rows.recordBackRow.domain false) (Rows.recordBackSpec.post enc Try.prog Try.f6 false true false false) := by
  refine returnsInHanded_of_change_sized (C := Try.checked) Try.own started (by kernel_rfl) Try.func6
    (ChangeSpec.witness6 (enc := enc) (C := Try.checked) false ⟨#[], #[.agg #[.int .i64 0, .slice none 0 0, .slice none 0 0], .string ByteArray.empty], []⟩ 8 (by kernel_rfl) (by kernel_rfl) (by kernel_rfl) (by kernel_rfl)) ?_
  intro W base args ds gs before hval0 hW hcnd hsz0 _
  have hval : ∀ (j : Nat) t v, Try.f6.params[j]? = some t → args[j]? = some v → Value.okWide Try.prog W .any base t v := hval0
  have hsz : (DataW.weightsEach Try.prog (Try.f6.params.toList ++ Rows.recordBackSpec.plain.varTypes Try.prog) (ds ++ gs)).all (· ≤ reachBytes) = true := hsz0
  have hW' := hW
  obtain ⟨p, q, hA0, hV, rfl, hfz, hnd⟩ := hW
  have hA : DataW.TrodAll enc Try.prog W 0 (fun _ => true) true Try.f6.params.toList args.toList ds p := hA0
  rw [Try.params6] at hA hval hsz
  obtain ⟨v0, v1, d0, d1, p0, p1, rfl, rfl, rfl, h0, h1⟩ := trodAll_two hA
  obtain ⟨rfl, rfl⟩ := trodVars_none hV
  have hk0 := h0
  obtain ⟨r0, vr0, vp0, rfl, hr0, hp0, ho0⟩ := Rc.open_record (hval 0 25 v0 rfl rfl) h0
  obtain ⟨s1, rfl, rfl, rfl, hs1⟩ := open_string Try.underlying9 (hval 1 9 v1 rfl rfl) h1
  have hreach1 : s1.data.toList.length ≤ reachBytes := sized_string hsz (j := 1) (t := 9) rfl rfl
  clear hA0 hval0
  simp only [List.append_nil, List.nil_append] at hW'
  have hlt := fun x hx => hW'.lt x hx
  have hc := recordBack_any W vr0 vp0 r0 hr0 hp0 ho0 s1.data.toList (by have := reachBytes_lt; omega)
  rw [← bs_surj] at hc
  refine hc.mono fun e W' ⟨he, hnx⟩ => ?_
  subst he
  refine ⟨_, rfl, _, _, _, [], (p0), [], hW', ?_, ?_, rfl, hnx.frame _, fun h => by cases h⟩
  · exact trodAll_mk1 (shut_bool Try.underlying4 _)
  · exact trodAll_eq (trodAll_mk2 (Below.trod Try.laidOut (by kernel_rfl) (of_decide_eq_true (by kernel_rfl)) hk0 hnx (fun x hx => hlt x (by simp [hx]))) (shut_string Try.underlying9 hs1)) (by simp)

theorem recordBack_holds : Rows.RecordBackSaid :=
  OpenClaim.holds_of_wide 6 Try.f6 rfl rfl rfl rfl rfl rfl rfl ⟨rfl, rfl, rfl, rfl, rfl⟩ rfl rfl rfl rfl rfl (by kernel_rfl) Try.func6 (by kernel_rfl)
    (of_decide_eq_true (by kernel_rfl)) (by unfold Func.isWrapper; first | (rw [if_pos (by decide +kernel)]; kernel_rfl) | (rw [if_neg (by decide +kernel)]; exact ⟨rfl, rfl⟩))
    (fun os started H enc _ => recordBack_lifted os started H enc)

end Go.Proofs.Ytnlkfehnmijimaa
