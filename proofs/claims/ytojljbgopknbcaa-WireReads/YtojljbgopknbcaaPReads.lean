/- WireReads, for every text: Read answers just what the document's own ReadOf does, errors too. No condition. -/
import Derived.Test.YtojljbgopknbcaaRows
import Derived.Test.YtojljbgopknbcaaKit
import Derived.Test.YtojljbgopknbcaaWTop
import Derived.Test.YtojljbgopknbcaaWBeg
import Derived.Test.YtojljbgopknbcaaOpen
import Derived.Test.YtojljbgopknbcaaRdG
import Derived.Test.YtojljbgopknbcaaSame
import Derived.Test.YtojljbgopknbcaaRJoin
import Derived.Test.YtojljbgopknbcaaRRe
import Derived.ProofKit
import Derived.BigQuiet
import Derived.BigFrame
import Derived.Laws.OwnMore
set_option linter.unusedVariables false
set_option linter.unusedSimpArgs false
namespace Go.Proofs.Ytojljbgopknbcaa
open Go.ChangeShapes Go.WideShapes Go.ChangeAt Go.RowKit
open Go.ChangeMaps (open_string shut_string)
attribute [local go_sem] bs_size bs_toList bs_append bs_get bs_extract

set_option maxRecDepth 20000 in
set_option maxHeartbeats 4000000 in
theorem wireReads_any (s : List UInt8) (w : World) (hs : s.length ≤ 140737488355328) :
    Calls Try.prog 6 #[.string (bs s)] w fun e w' => e = .returned (.bool true) ∧ Below w.heap.size w w' := by
  go_enter Try.func6, Try.ntmps6
  go_wp2_with fail
  refine (read_any w s (by omega)).mono ?_
  rintro e w1 ⟨hb1, hread1⟩
  rcases hread1 with ⟨h0, l, vl, hl, rfl, ol⟩ | ⟨h0, rfl⟩
  · go_wp2_with fail
    refine (readOf_any w1 s (by omega)).mono ?_
    rintro e w2 ⟨hb2, hread2⟩
    have g2 : Grow w w2 := Grow.trans hb1 hb2
    rcases hread2 with ⟨_, m, vm, hm, rfl, om⟩ | ⟨h1, rfl⟩
    · have hml : m = l := by rw [hl] at hm; exact (Option.some.inj hm).symm
      subst hml
      have hlen := readErr_none h0 hl
      have hin := hide (allRead_len hl)
      have hlong := hlen.2.2
      clear h0 hm hlen
      have ol2 := ownSeries_grow ol hb2
      go_wp2_with fail
      refine (wireBegun_any w2).mono ?_
      rintro e w3 ⟨rfl, hb3⟩
      have g3 : Grow w w3 := g2.trans hb3
      have r1 := reads_ownSeries (ownSeries_grow ol2 hb3)
      have r2 := reads_ownSeries (ownSeries_grow om hb3)
      go_wp2_with fail
      refine (sameSeries_yes w3 w3.heap.size _ _ m r1 r2 (by have := hin.out.2; omega) (fun x hx => by have := hin.out.1 x hx; exact ⟨by omega, by omega⟩)).mono ?_
      rintro e w4 ⟨rfl, n, rfl⟩
      go_wp2
      go_ret
      exact ⟨rfl, g3.trans ⟨rfl, rfl, rfl, Nat.le_refl _, fun _ _ => rfl⟩⟩
    · exact absurd h0 h1
  · go_wp2_with fail
    refine (readOf_any w1 s (by omega)).mono ?_
    rintro e w2 ⟨hb2, hread2⟩
    have g2 : Grow w w2 := Grow.trans hb1 hb2
    rcases hread2 with ⟨h1, _⟩ | ⟨_, rfl⟩
    · exact absurd h1 h0
    · clear h0
      go_wp2_with fail
      refine (wireBegun_any w2).mono ?_
      rintro e w3 ⟨rfl, hb3⟩
      have g3 : Grow w w3 := g2.trans hb3
      go_wp2_with fail
      refine (sameSeries_yes w3 w3.heap.size _ _ [] ⟨none, 0, rfl, fun i h => by simp at h⟩ ⟨none, 0, rfl, fun i h => by simp at h⟩ (by simp) (by simp)).mono ?_
      rintro e w4 ⟨rfl, n, rfl⟩
      go_wp2
      go_ret
      exact ⟨rfl, g3.trans ⟨rfl, rfl, rfl, Nat.le_refl _, fun _ _ => rfl⟩⟩

theorem Try.own : ownKnob Try.prog.godebug = none := by kernel_rfl
theorem Try.laidOut : laidOutB Try.prog = true := by kernel_rfl

set_option maxRecDepth 100000 in
theorem wireReads_lifted (os : Os) (started : os.Started) (H : Type) (enc : TypeId × Value → H) :
    ReturnsInHanded {} Try.checked os 6 .any (Rows.wireReadsSpec.pre6 enc Try.prog Try.f6 Rows.wireReadsRow.domain false) (Rows.wireReadsSpec.post enc Try.prog Try.f6 false true false false) := by
  refine returnsInHanded_of_change_sized (C := Try.checked) Try.own started (by kernel_rfl) Try.func6
    (ChangeSpec.witness6 (enc := enc) (C := Try.checked) false ⟨#[], #[.string ByteArray.empty], []⟩ 8 (by kernel_rfl) (by kernel_rfl) (by kernel_rfl) (by kernel_rfl)) ?_
  intro W base args ds gs before hval0 hW hcnd hsz0 _
  have hval : ∀ (j : Nat) t v, Try.f6.params[j]? = some t → args[j]? = some v → Value.okWide Try.prog W .any base t v := hval0
  have hsz : (DataW.weightsEach Try.prog (Try.f6.params.toList ++ Rows.wireReadsSpec.plain.varTypes Try.prog) (ds ++ gs)).all (· ≤ reachBytes) = true := hsz0
  have hW' := hW
  obtain ⟨p, q, hA0, hV, rfl, hfz, hnd⟩ := hW
  have hA : DataW.TrodAll enc Try.prog W 0 (fun _ => true) true Try.f6.params.toList args.toList ds p := hA0
  rw [Try.params6] at hA hval hsz
  obtain ⟨v0, d0, rfl, rfl, h0⟩ := trodAll_one hA
  obtain ⟨rfl, rfl⟩ := trodVars_none hV
  obtain ⟨s, rfl, rfl, rfl, hs⟩ := open_string Try.underlying9 (hval 0 9 v0 rfl rfl) h0
  clear hA0 hval0
  simp only [List.append_nil] at hW'
  have hreach : s.data.toList.length ≤ reachBytes := sized_string hsz (j := 0) (t := 9) rfl rfl
  have hc := wireReads_any s.data.toList W (by have := reachBytes_lt; omega)
  rw [← bs_surj] at hc
  refine hc.mono fun e W' ⟨he, hnx⟩ => ?_
  subst he
  refine ⟨_, rfl, _, _, _, [], [], [], hW', ?_, ?_, rfl, hnx.frame _, fun h => by cases h⟩
  · exact trodAll_mk1 (shut_bool Try.underlying4 _)
  · exact trodAll_mk1 (shut_string Try.underlying9 hs)

theorem wireReads_holds : Rows.WireReadsSaid :=
  OpenClaim.holds_of_wide 6 Try.f6 rfl rfl rfl rfl rfl rfl rfl ⟨rfl, rfl, rfl, rfl, rfl⟩ rfl rfl rfl rfl rfl (by kernel_rfl) Try.func6 (by kernel_rfl)
    (of_decide_eq_true (by kernel_rfl)) (by unfold Func.isWrapper; first | (rw [if_pos (by decide +kernel)]; kernel_rfl) | (rw [if_neg (by decide +kernel)]; exact ⟨rfl, rfl⟩))
    (fun os started H enc _ => wireReads_lifted os started H enc)

end Go.Proofs.Ytojljbgopknbcaa
