/- RecordTwice, for whatever is known and every record: who learns the same twice knows the same, and what is known passes Check. No condition. -/
import Derived.Test.YtkaeogldielkfaaGreatRows
import Derived.Test.YtkaeogldielkfaaGreatK0755ea5
import Derived.Test.YtkaeogldielkfaaGreatK28aec46
import Derived.Test.YtkaeogldielkfaaGreatK4235381
import Derived.Test.YtkaeogldielkfaaGreatK7cb525c
import Derived.Test.YtkaeogldielkfaaGreatK87eb233
import Derived.Test.YtkaeogldielkfaaGreatKcae2fc5
import Derived.Test.YtkaeogldielkfaaGreatK2297dbf
import Derived.Test.YtkaeogldielkfaaGreatK357e83c
import Derived.ProofKit
import Derived.BigQuiet
import Derived.BigFrame
set_option linter.unusedVariables false
set_option linter.unusedSimpArgs false
namespace Go.Proofs.YtkaeogldielkfaaGreat
open Go.ChangeShapes Go.WideShapes Go.ChangeAt Go.RowKit
open Go.ChangeMaps (open_string shut_string)
attribute [local go_sem] bs_size bs_toList bs_append bs_get bs_extract
open Rc
set_option maxRecDepth 20000 in
set_option maxHeartbeats 8000000 in
theorem recordTwice_any (w : World) (vr vl vh : Value) (k : Knw) (hk : readsKnw w w.heap.size vr vl vh k) (hok : okKnw k) (ur up : Value) (r : Rcd) (hr : readsRefs w w.heap.size ur r.refs) (hp : readsPoints w w.heap.size up r.points) (hor : okRec r) :
    Calls Tryz.prog 5 #[.agg #[vr, vl, vh], .agg #[.int .i64 r.kind, ur, up]] w fun e w' => e = .returned (.bool true) ∧ Below w.heap.size w w' := by
  obtain ⟨V1, e1, g1, b1⟩ := laid_at w #[vr, vl, vh] 26
  obtain ⟨V2, e2, g2, b2⟩ := laid_at V1 #[.int .i64 r.kind, ur, up] 29
  have s1 : V1.heap.size = w.heap.size + 1 := by rw [← e1]; simp
  rw [s1] at b2
  have HB1 := hide (g2.get b1)
  have HB2 := hide b2
  have HG2 := hide (g1.trans g2)
  have HK := hide hk
  have HR : Hid (readsRcd w w.heap.size ur up r) := hide ⟨hr, hp⟩
  have HOK := hide hok
  have HOR := hide hor
  have HBG := hide (recordBegun_any V2)
  have HKA := hide (fun W (g : Grow w W) => (hk.keep g).more g.size)
  have HRA := hide (fun W (g : Grow w W) => (HR.out.keep g).more g.size)
  obtain ⟨⟨ro, rc, rfl, _⟩, ⟨lo, lc, rfl, _⟩, ⟨ho, hc, rfl, _⟩⟩ := hk
  obtain ⟨uo, uc, rfl, _⟩ := hr
  obtain ⟨po, pc, rfl, _⟩ := hp
  obtain ⟨E, HE⟩ : ∃ E, Hid (learnE k r = E) := ⟨_, hide rfl⟩
  clear g1 g2 b1 b2 hok hor HK HR
  go_enter Tryz.func5, Tryz.ntmps5
  go_wp2_with fail
  refine HBG.out.mono ?_
  rintro e w1 ⟨rfl, hg1⟩
  have HG1 := hide (HG2.out.trans hg1)
  have HC1 := hide (hg1.get HB1.out)
  have HC2 := hide (hg1.get HB2.out)
  clear hg1 HBG e1 e2 s1
  obtain ⟨c0, c1, c2⟩ := three_of HC1.out
  obtain ⟨d0, d1, d2⟩ := three_of HC2.out
  have HL := hide (Learn_any w1 _ _ _ _ _ k r (HKA.out w1 HG1.out) HOK.out (HRA.out w1 HG1.out) HOR.out)
  rw [HE.out] at HL
  go_wp2_with fail
  refine HL.out.mono ?_
  rintro e w2 ⟨xr, xl, xh, rfl, hox, hg2⟩
  have HG2' := hide (HG1.out.trans hg2)
  have HD2 := hide (hg2.get HC2.out)
  have HX := hide hox.reads
  obtain ⟨xro, xrc, hx1⟩ := ownRefs_shape hox.r
  obtain ⟨xlo, xlc, hx2⟩ := own_shape hox.l
  obtain ⟨xho, xhc, hx3⟩ := own_shape hox.h
  subst hx1 hx2 hx3
  obtain ⟨K, HKK⟩ : ∃ K, Hid (learnAns k r = K) := ⟨_, hide rfl⟩
  rw [HKK.out] at HX ⊢
  clear hg2 hox HL c0 c1 c2 d0 d1 d2
  by_cases h0 : E = 0
  · have h00 : E = 0 := h0
    subst h00
    obtain ⟨ht1, ht2, ht3⟩ := learn_twice HE.out
    rw [HKK.out] at ht1 ht2 ht3
    obtain ⟨hn1, hn2, hn3, hn4, _⟩ := knwErr_zero ht1
    have hll : ∀ x ∈ K.refs, x.2.length ≤ 1000000 := fun x hx => by
      obtain ⟨i, hi, rfl⟩ := List.getElem_of_mem hx
      have := oneErr_ref (hn4 i hi)
      have e : K.refs.getD i (0, []) = K.refs[i] := by simp [hi]
      rw [e] at this
      have := (check_small (refErr_zero this).2.2).1
      omega
    obtain ⟨V3, e3, g3, b3⟩ := laid_at w2 #[.slice xro K.refs.length xrc, .slice xlo K.lasts.length xlc, .slice xho K.has.length xhc] 26
    have HG3 := hide (HG2'.out.trans g3)
    have HB3 := hide b3
    have HD3 := hide (g3.get HD2.out)
    have HX3 : Hid (∀ W, Grow V3 W → readsKnw W W.heap.size (.slice xro K.refs.length xrc) (.slice xlo K.lasts.length xlc) (.slice xho K.has.length xhc) K) := hide fun W g => (HX.out.keep (g3.trans g)).more (g3.trans g).size
    have HL2 := hide (Learn_any V3 _ _ _ _ _ K r (HX3.out V3 (Grow.refl _)) (okKnw_of ht1) (HRA.out V3 HG3.out) HOR.out)
    rw [ht2, ht3] at HL2
    have HCK := hide (fun W (g : Grow V3 W) => kcheck_any W _ _ _ K (HX3.out W g) (okKnw_of ht1))
    rw [ht1] at HCK
    have HSZ : Hid (K.refs.length ≤ 1000000 ∧ K.lasts.length ≤ 1000000 ∧ K.has.length ≤ 1000000) := hide ⟨by omega, by omega, by omega⟩
    have HLL := hide hll
    obtain ⟨c0, c1, c2⟩ := three_of b3
    obtain ⟨d0, d1, d2⟩ := three_of HD3.out
    clear g3 b3 ht1 ht2 ht3 hn1 hn2 hn3 hn4 hll h0 HX
    go_wp2_with fail
    refine HL2.out.mono ?_
    rintro e w4 ⟨yr, yl, yh, rfl, hoy, hg4⟩
    obtain ⟨yro, yrc, hy1⟩ := ownRefs_shape hoy.r
    obtain ⟨ylo, ylc, hy2⟩ := own_shape hoy.l
    obtain ⟨yho, yhc, hy3⟩ := own_shape hoy.h
    subst hy1 hy2 hy3
    obtain ⟨V5, e5, g5, b5⟩ := laid_at w4 #[.slice yro K.refs.length yrc, .slice ylo K.lasts.length ylc, .slice yho K.has.length yhc] 26
    have HG5 : Hid (Grow V3 V5) := hide (hg4.trans g5)
    have HB5 := hide b5
    have HY5 := hide (fun W (g : Grow V5 W) => (hoy.reads.keep (g5.trans g)).more (g5.trans g).size)
    have HCK5 := hide (HCK.out V5 HG5.out)
    clear hg4 hoy g5 b5 HL2 HCK c0 c1 c2 d0 d1 d2 e3
    obtain ⟨c0, c1, c2⟩ := three_of (HG5.out.get HB3.out)
    go_wp2_with fail
    refine HCK5.out.mono ?_
    rintro e w6 ⟨rfl, hg6⟩
    have HG6 := hide hg6
    clear hg6 HCK5 c0 c1 c2 e5
    obtain ⟨c0, c1, c2⟩ := three_of ((HG5.out.trans HG6.out).get HB3.out)
    obtain ⟨d0, d1, d2⟩ := three_of (HG6.out.get HB5.out)
    have HSK := hide (sameKnw_yes w6 _ _ _ _ _ _ K (HX3.out w6 (HG5.out.trans HG6.out)) (HY5.out w6 HG6.out) HSZ.out.1 HLL.out HSZ.out.2.1 HSZ.out.2.2)
    go_wp2_with fail
    refine HSK.out.mono ?_
    rintro e w7 ⟨rfl, hg7⟩
    have HG7 := hide hg7
    clear hg7 HSK c0 c1 c2 d0 d1 d2
    go_wp2
    go_ret
    exact ⟨rfl, HG3.out.trans (HG5.out.trans (HG6.out.trans HG7.out))⟩
  · have hne : ((E : Int) != 0) = true := by simp; exact h0
    obtain ⟨V3, e3, g3, b3⟩ := laid_at w2 #[.slice xro K.refs.length xrc, .slice xlo K.lasts.length xlc, .slice xho K.has.length xhc] 26
    have HG3 := hide (HG2'.out.trans g3)
    clear h0 g3 b3 HX
    go_wp2
    go_ret
    exact ⟨rfl, HG3.out⟩
theorem Tryz.own : ownKnob Tryz.prog.godebug = none := by kernel_rfl
theorem Tryz.laidOut : laidOutB Tryz.prog = true := by kernel_rfl
set_option maxRecDepth 100000 in
theorem recordTwice_lifted (os : Os) (started : os.Started) (H : Type) (enc : TypeId × Value → H) :
    ReturnsInHanded {} Tryz.checked os 5 .any (Rows.recordTwiceSpec.pre6 enc Tryz.prog Tryz.f5 Rows.recordTwiceRow.domain false) (Rows.recordTwiceSpec.post enc Tryz.prog Tryz.f5 false true false false) := by
  refine returnsInHanded_of_change (C := Tryz.checked) Tryz.own started (by kernel_rfl) Tryz.func5
    (ChangeSpec.witness6 (enc := enc) (C := Tryz.checked) false ⟨#[], #[.agg #[.slice none 0 0, .slice none 0 0, .slice none 0 0], .agg #[.int .i64 0, .slice none 0 0, .slice none 0 0]], []⟩ 8 (by kernel_rfl) (by kernel_rfl) (by kernel_rfl) (by kernel_rfl)) ?_
  intro W base args ds gs before hval0 hW hcnd _
  have hval : ∀ (j : Nat) t v, Tryz.f5.params[j]? = some t → args[j]? = some v → Value.okWide Tryz.prog W .any base t v := hval0
  have hW' := hW
  obtain ⟨p, q, hA0, hV, rfl, hfz, hnd⟩ := hW
  have hA : DataW.TrodAll enc Tryz.prog W 0 (fun _ => true) true Tryz.f5.params.toList args.toList ds p := hA0
  rw [Tryz.params5] at hA hval
  obtain ⟨v0, v1, d0, d1, p0, p1, rfl, rfl, rfl, h0, h1⟩ := trodAll_two hA
  obtain ⟨rfl, rfl⟩ := trodVars_none hV
  have hk0 := h0
  obtain ⟨k0, vr0, vl0, vh0, rfl, hr0, ho0⟩ := Rc.open_known (hval 0 26 v0 rfl rfl) h0
  have hk1 := h1
  obtain ⟨r1, vr1, vp1, rfl, hr1, hp1, ho1⟩ := Rc.open_record (hval 1 29 v1 rfl rfl) h1
  clear hA0 hval0
  simp only [List.append_nil, List.nil_append] at hW'
  have hlt := fun x hx => hW'.lt x hx
  have hc := recordTwice_any W vr0 vl0 vh0 k0 hr0 ho0 vr1 vp1 r1 hr1 hp1 ho1
  refine hc.mono fun e W' ⟨he, hnx⟩ => ?_
  subst he
  refine ⟨_, rfl, _, _, _, [], (p0 ++ (p1)), [], hW', ?_, ?_, rfl, hnx.frame _, fun h => by cases h⟩
  · exact trodAll_mk1 (shut_bool Tryz.underlying4 _)
  · exact trodAll_eq (trodAll_mk2 (Below.trod Tryz.laidOut (by kernel_rfl) (of_decide_eq_true (by kernel_rfl)) hk0 hnx (fun x hx => hlt x (by simp [hx]))) (Below.trod Tryz.laidOut (by kernel_rfl) (of_decide_eq_true (by kernel_rfl)) hk1 hnx (fun x hx => hlt x (by simp [hx])))) (by simp)
theorem recordTwice_holds : Rows.RecordTwiceSaid :=
  OpenClaim.holds_of_wide 5 Tryz.f5 rfl rfl rfl rfl rfl rfl rfl ⟨rfl, rfl, rfl, rfl, rfl⟩ rfl rfl rfl rfl rfl (by kernel_rfl) Tryz.func5 (by kernel_rfl)
    (of_decide_eq_true (by kernel_rfl)) (by unfold Func.isWrapper; first | (rw [if_pos (by decide +kernel)]; kernel_rfl) | (rw [if_neg (by decide +kernel)]; exact ⟨rfl, rfl⟩))
    (fun os started H enc _ => recordTwice_lifted os started H enc)
end Go.Proofs.YtkaeogldielkfaaGreat
