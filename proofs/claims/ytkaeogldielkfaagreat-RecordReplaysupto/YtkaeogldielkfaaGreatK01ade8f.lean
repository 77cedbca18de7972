/- RecordReplays, for every text of at most 1048576 bytes: Replay answers what the document says: the same is known, and as many bytes are learnt. (Without that bound it is false: of a text of some 2^47 bytes that holds a record every seven bytes the records alone take more than there is.) -/
import Derived.Test.YtkaeogldielkfaaGreatRows
import Derived.Test.YtkaeogldielkfaaGreatKabe2b5f
import Derived.Test.YtkaeogldielkfaaGreatK68db273
import Derived.Test.YtkaeogldielkfaaGreatKa48e839
import Derived.Test.YtkaeogldielkfaaGreatKbd97b58
import Derived.Test.YtkaeogldielkfaaGreatKe935582
import Derived.Test.YtkaeogldielkfaaGreatKaad3501
import Derived.Test.YtkaeogldielkfaaGreatK6ad0561
import Derived.ProofKit
import Derived.OpenShut
import Derived.JoinedCond
import Derived.BigQuiet
import Derived.BigFrame
set_option linter.unusedVariables false
set_option linter.unusedSimpArgs false
namespace Go.Proofs.YtkaeogldielkfaaGreat
open Go.ChangeShapes Go.WideShapes Go.ChangeAt Go.RowKit
open Go.ChangeMaps (open_string shut_string)
attribute [local go_sem] bs_size bs_toList bs_append bs_get bs_extract
open Rc
set_option maxRecDepth 20000 in
set_option maxHeartbeats 8000000 in
theorem recordReplays_any (w : World) (s : List UInt8) (hs : s.length ≤ 1048576) :
    Calls Tryz.prog 4 #[.string (bs s)] w fun e w' => e = .returned (.bool true) ∧ Below w.heap.size w w' := by
  obtain ⟨hd, hr, hl⟩ := replK_right (l := (Lg.entA s 0).map (·.1)) (K := []) Dist.nil (fun y hy => by simp at hy) (by simp)
  have HK0 : Hid (∀ y ∈ sortK (replA s), refErr y.1 = 0) := hide fun y hy => hr y ((sortK_perm _).mem_iff.1 hy)
  have HL0 : Hid ((sortK (replA s)).length ≤ 1000) := hide (by rw [(sortK_perm (replA s)).length_eq]; exact hl)
  have HRP := hide (Replay_any w s (by omega))
  have HRO := hide (fun W => replayOf_any W s hs)
  obtain ⟨M, HM⟩ : ∃ M, Hid (sortK (replA s) = M) := ⟨_, hide rfl⟩
  obtain ⟨E, HE⟩ : ∃ E, Hid (replE s = E) := ⟨_, hide rfl⟩
  rw [HM.out, HE.out] at HRP HRO
  rw [HM.out] at HK0 HL0
  have HKX : Hid (∀ x ∈ (knwOf M).refs, x.2.length ≤ 1000000) := hide fun x hx => by
    obtain ⟨y, hy, rfl⟩ := List.mem_map.1 (show x ∈ M.map (·.1) from hx)
    have := (check_small (refErr_zero (HK0.out y hy)).2.2).1
    omega
  have HBG := hide recordBegun_any
  clear hd hr hl
  go_enter Tryz.func4, Tryz.ntmps4
  go_wp2_with fail
  refine HRP.out.mono ?_
  rintro e w1 ⟨xr, xl, xh, rfl, hox, hg1⟩
  obtain ⟨xro, xrc, h1⟩ := ownRefs_shape hox.r
  obtain ⟨xlo, xlc, h2⟩ := own_shape hox.l
  obtain ⟨xho, xhc, h3⟩ := own_shape hox.h
  subst h1 h2 h3
  obtain ⟨V2, e2, g2, b2⟩ := laid_at w1 #[.slice xro (knwOf M).refs.length xrc, .slice xlo (knwOf M).lasts.length xlc, .slice xho (knwOf M).has.length xhc] 26
  have HG2 : Hid (Grow w V2) := hide (Grow.trans hg1 g2)
  have HX : Hid (∀ W, Grow V2 W → readsKnw W W.heap.size (.slice xro (knwOf M).refs.length xrc) (.slice xlo (knwOf M).lasts.length xlc) (.slice xho (knwOf M).has.length xhc) (knwOf M)) := hide fun W g => (hox.reads.keep (Grow.trans g2 g)).more (Grow.trans g2 g).size
  have HB2 := hide b2
  clear hox hg1 g2 b2 HRP
  go_wp2_with fail
  refine (HRO.out V2).mono ?_
  rintro e w3 ⟨yr, yl, yh, vr, vt, rfl, hy, hg3⟩
  obtain ⟨⟨yro, yrc, h1, _⟩, ⟨ylo, ylc, h2, _⟩, ⟨yho, yhc, h3, _⟩⟩ := id hy
  subst h1 h2 h3
  obtain ⟨V4, e4, g4, b4⟩ := laid_at w3 #[.slice yro (knwOf M).refs.length yrc, .slice ylo (knwOf M).lasts.length ylc, .slice yho (knwOf M).has.length yhc] 26
  have HG4 : Hid (Grow V2 V4) := hide (Grow.trans hg3 g4)
  have HY : Hid (∀ W, Grow V4 W → readsKnw W W.heap.size (.slice yro (knwOf M).refs.length yrc) (.slice ylo (knwOf M).lasts.length ylc) (.slice yho (knwOf M).has.length yhc) (knwOf M)) := hide fun W g => (hy.keep (g4.trans g)).more (g4.trans g).size
  have HB4 := hide b4
  clear hy hg3 g4 b4 HRO
  go_wp2_with fail
  refine (HBG.out V4).mono ?_
  rintro e w5 ⟨rfl, hg5⟩
  have HG5 := hide hg5
  obtain ⟨c0, c1, c2⟩ := three_of ((HG4.out.trans hg5).get HB2.out)
  obtain ⟨d0, d1, d2⟩ := three_of ((show Grow V4 w5 from hg5).get HB4.out)
  have HSK := hide (sameKnw_yes w5 _ _ _ _ _ _ (knwOf M) (HX.out w5 (HG4.out.trans hg5)) (HY.out w5 hg5) (by have := HL0.out; simp [knwOf]; omega) HKX.out (by have := HL0.out; simp [knwOf]; omega) (by have := HL0.out; simp [knwOf]; omega))
  clear hg5 HBG
  go_wp2_with fail
  refine HSK.out.mono ?_
  rintro e w6 ⟨rfl, hg6⟩
  have HG6 := hide hg6
  clear hg6 HSK c0 c1 c2 d0 d1 d2
  go_wp2
  go_ret
  exact ⟨rfl, HG2.out.trans (HG4.out.trans (Grow.trans HG5.out HG6.out))⟩
theorem Tryz.own : ownKnob Tryz.prog.godebug = none := by kernel_rfl
set_option maxRecDepth 100000 in
theorem recordReplays_lifted (os : Os) (started : os.Started) (H : Type) (enc : TypeId × Value → H) (F : Stop.Interp) :
    ReturnsInHanded {} Tryz.checked os 4 .any ((Rows.OpenSpec.upto Rows.recordReplaysSpec).pre6 enc Tryz.prog Tryz.f4 Rows.recordReplaysUptoRow.domain false) (((Rows.OpenSpec.upto Rows.recordReplaysSpec).at F).post enc Tryz.prog Tryz.f4 false true false false) := by
  refine returnsInHanded_of_cond (C := Tryz.checked) (s := Rows.OpenSpec.upto Rows.recordReplaysSpec) (k := Rows.uptoSmall) rfl Tryz.own started (by kernel_rfl) Tryz.func4
    (OpenSpec.witness (enc := enc) (C := Tryz.checked) (s := Rows.OpenSpec.upto Rows.recordReplaysSpec) (k := Rows.uptoSmall) rfl false ⟨#[], #[.string ByteArray.empty], []⟩ 8 (by kernel_rfl) (by kernel_rfl) (by kernel_rfl)
      (x := ([.lit (.string [])], [], [])) (by kernel_rfl) rfl (by kernel_rfl)) ?_
  intro W base args ds gs before hval0 hW hcnd hbk0 _
  have hval : ∀ (j : Nat) t v, Tryz.f4.params[j]? = some t → args[j]? = some v → Value.okWide Tryz.prog W .any base t v := hval0
  have hW' := hW
  obtain ⟨p, q, hA0, hV, rfl, hfz, hnd⟩ := hW
  have hA : DataW.TrodAll enc Tryz.prog W 0 (fun _ => true) true Tryz.f4.params.toList args.toList ds p := hA0
  rw [Tryz.params4] at hA hval
  obtain ⟨v0, d0, rfl, rfl, h0⟩ := trodAll_one hA
  obtain ⟨rfl, rfl⟩ := trodVars_none hV
  obtain ⟨s0, rfl, rfl, rfl, hs0⟩ := open_string Tryz.underlying9 (hval 0 9 v0 rfl rfl) h0
  clear hA0 hval0
  simp only [List.append_nil, List.nil_append] at hW'
  have hlt := fun x hx => hW'.lt x hx
  have hbk1 := bulk_bound hbk0
  have hbk : ∀ n, n ≤ Rows.uptoBulkAll _ → n ≤ 1048576 := fun n hn => Nat.le_trans hn hbk1
  have hc := recordReplays_any W s0.data.toList (by have := hbk s0.data.toList.length (by simp [Rows.uptoBulkAll, bulk_text] <;> omega); omega)
  rw [← bs_surj] at hc
  refine hc.mono fun e W' ⟨he, hnx⟩ => ?_
  subst he
  refine ⟨_, rfl, ?_⟩
  show Rows.recordReplaysSpec.post enc Tryz.prog Tryz.f4 false true false false W _ _ W'
  refine ⟨_, _, _, [], ([]), [], hW', ?_, ?_, rfl, hnx.frame _, fun h => by cases h⟩
  · exact trodAll_mk1 (shut_bool Tryz.underlying4 _)
  · exact trodAll_eq (trodAll_mk1 (shut_string Tryz.underlying9 hs0)) (by simp)
theorem recordReplays_holds : Rows.RecordReplaysUptoSaid :=
  OpenClaim.holds_of_cond 4 Tryz.f4 rfl rfl rfl rfl rfl rfl rfl ⟨rfl, rfl, rfl, rfl, rfl⟩ rfl rfl rfl rfl rfl (by kernel_rfl) Tryz.func4 (by kernel_rfl)
    (of_decide_eq_true (by kernel_rfl)) (by unfold Func.isWrapper; first | (rw [if_pos (by decide +kernel)]; kernel_rfl) | (rw [if_neg (by decide +kernel)]; exact ⟨rfl, rfl⟩))
    (fun os started H enc _ F => recordReplays_lifted os started H enc F)
end Go.Proofs.YtkaeogldielkfaaGreat
