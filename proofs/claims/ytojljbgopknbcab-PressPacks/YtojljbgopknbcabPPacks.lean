/- PressPacks, for every text: what Pack answers is what the document makes the text of again, no longer than told, errors too. No condition. -/
import Derived.Test.YtojljbgopknbcabRows
import Derived.Test.YtojljbgopknbcabKit
import Derived.Test.YtojljbgopknbcabUnG
import Derived.Test.YtojljbgopknbcabUnI
import Derived.Test.YtojljbgopknbcabPBeg
import Derived.ProofKit
import Derived.BigQuiet
import Derived.BigFrame
import Derived.Laws.OwnMore
set_option linter.unusedVariables false
set_option linter.unusedSimpArgs false
namespace Go.Proofs.Ytojljbgopknbcab
open Go.ChangeShapes Go.WideShapes Go.ChangeAt Go.RowKit
open Go.ChangeMaps (open_string shut_string)
attribute [local go_sem] bs_size bs_toList bs_append bs_get bs_extract

set_option maxRecDepth 20000 in
set_option maxHeartbeats 4000000 in
theorem pressPacks_any (s : List UInt8) (w : World) (hs : s.length ≤ 140737488355328) :
    Calls Try.prog 5 #[.string (bs s)] w fun e w' => e = .returned (.bool true) ∧ Below w.heap.size w w' := by
  go_enter Try.func5, Try.ntmps5
  go_wp2_with fail
  refine (pack_any w s hs).mono ?_
  rintro e w1 ⟨hb1, (⟨hlen, E, hE, rfl⟩ | ⟨hlen, rfl⟩)⟩
  · have hl := packs_len hE hlen
    have HU := hide (packs_unpack hE hlen 20000 (by omega) (by omega))
    obtain ⟨t, HT⟩ : ∃ t, Hid (numB s.length ++ E = t) := ⟨_, hide rfl⟩
    rw [HT.out] at HU hl ⊢
    have hlen' : ¬ (20000 : Int) < s.length := by omega
    clear hE
    go_wp2_with fail
    refine (unpackOf_any w1 t 20000 (by omega) (by omega) (by omega)).mono ?_
    rintro e w2 ⟨rfl, hb2⟩
    rw [HU.out]
    have g2 : Grow w w2 := Grow.trans hb1 hb2
    go_wp2_with fail
    refine (pressBegun_any w2).mono ?_
    rintro e w3 ⟨rfl, hb3⟩
    have g3 : Grow w w3 := g2.trans hb3
    have hl' : (t.length : Int) ≤ (s.length : Int) + (s.length : Int) / 6 + 32 := by omega
    go_wp2
    go_ret
    exact ⟨by simp, g3⟩
  · have hlen' : (20000 : Int) < s.length := by omega
    go_wp2_with fail
    refine (pressBegun_any w1).mono ?_
    rintro e w3 ⟨rfl, hb3⟩
    have g3 : Grow w w3 := Grow.trans hb1 hb3
    go_wp2
    go_ret
    exact ⟨by rfl, g3⟩

theorem Try.own : ownKnob Try.prog.godebug = none := by kernel_rfl
theorem Try.laidOut : laidOutB Try.prog = true := by kernel_rfl

set_option maxRecDepth 100000 in
theorem pressPacks_lifted (os : Os) (started : os.Started) (H : Type) (enc : TypeId × Value → H) :
    ReturnsInHanded {} Try.checked os 5 .any (Rows.pressPacksSpec.pre6 enc Try.prog Try.f5 Rows.pressPacksRow.domain false) (Rows.pressPacksSpec.post enc Try.prog Try.f5 false true false false) := by
  refine returnsInHanded_of_change_sized (C := Try.checked) Try.own started (by kernel_rfl) Try.func5
    (ChangeSpec.witness6 (enc := enc) (C := Try.checked) false ⟨#[], #[.string ByteArray.empty], []⟩ 8 (by kernel_rfl) (by kernel_rfl) (by kernel_rfl) (by kernel_rfl)) ?_
  intro W base args ds gs before hval0 hW hcnd hsz0 _
  have hval : ∀ (j : Nat) t v, Try.f5.params[j]? = some t → args[j]? = some v → Value.okWide Try.prog W .any base t v := hval0
  have hsz : (DataW.weightsEach Try.prog (Try.f5.params.toList ++ Rows.pressPacksSpec.plain.varTypes Try.prog) (ds ++ gs)).all (· ≤ reachBytes) = true := hsz0
  have hW' := hW
  obtain ⟨p, q, hA0, hV, rfl, hfz, hnd⟩ := hW
  have hA : DataW.TrodAll enc Try.prog W 0 (fun _ => true) true Try.f5.params.toList args.toList ds p := hA0
  rw [Try.params5] at hA hval hsz
  obtain ⟨v0, d0, rfl, rfl, h0⟩ := trodAll_one hA
  obtain ⟨rfl, rfl⟩ := trodVars_none hV
  obtain ⟨s, rfl, rfl, rfl, hs⟩ := open_string Try.underlying9 (hval 0 9 v0 rfl rfl) h0
  clear hA0 hval0
  simp only [List.append_nil] at hW'
  have hreach : s.data.toList.length ≤ reachBytes := sized_string hsz (j := 0) (t := 9) rfl rfl
  have hc := pressPacks_any s.data.toList W (by have := reachBytes_lt; omega)
  rw [← bs_surj] at hc
  refine hc.mono fun e W' ⟨he, hnx⟩ => ?_
  subst he
  refine ⟨_, rfl, _, _, _, [], [], [], hW', ?_, ?_, rfl, hnx.frame _, fun h => by cases h⟩
  · exact trodAll_mk1 (shut_bool Try.underlying4 _)
  · exact trodAll_mk1 (shut_string Try.underlying9 hs)

theorem pressPacks_holds : Rows.PressPacksSaid :=
  OpenClaim.holds_of_wide 5 Try.f5 rfl rfl rfl rfl rfl rfl rfl ⟨rfl, rfl, rfl, rfl, rfl⟩ rfl rfl rfl rfl rfl (by kernel_rfl) Try.func5 (by kernel_rfl)
    (of_decide_eq_true (by kernel_rfl)) (by unfold Func.isWrapper; first | (rw [if_pos (by decide +kernel)]; kernel_rfl) | (rw [if_neg (by decide +kernel)]; exact ⟨rfl, rfl⟩))
    (fun os started H enc _ => pressPacks_lifted os started H enc)

end Go.Proofs.Ytojljbgopknbcab
