/- LogReads, for every text of at most 1048576 bytes: Read answers what the document says. (Without that bound it is false: of a text of some 2^47 bytes that holds a record every seven bytes the records alone take more than there is.) -/
import Derived.Test.YtjjjncainakbiaaRows
import Derived.Test.YtjjjncainakbiaaKit
import Derived.Test.YtjjjncainakbiaaTrod
import Derived.Test.YtjjjncainakbiaaLgT
import Derived.Test.YtjjjncainakbiaaLgG
import Derived.Test.YtjjjncainakbiaaLgI
import Derived.Test.YtjjjncainakbiaaLgH
import Derived.Test.YtjjjncainakbiaaLgO
import Derived.Test.YtjjjncainakbiaaLgB
import Derived.Test.YtjjjncainakbiaaLgOpn
import Derived.ProofKit
import Derived.OpenShut
import Derived.JoinedCond
import Derived.BigQuiet
import Derived.BigFrame
set_option linter.unusedVariables false
set_option linter.unusedSimpArgs false
namespace Go.Proofs.Ytjjjncainakbiaa
open Go.ChangeShapes Go.WideShapes Go.ChangeAt Go.RowKit
open Go.ChangeMaps (open_string shut_string)
attribute [local go_sem] bs_size bs_toList bs_append bs_get bs_extract

open Lg
set_option maxRecDepth 20000 in
set_option maxHeartbeats 1000000 in
theorem logReads_any (w : World) (s : List UInt8) (hs : s.length ≤ 1048576) :
    Calls Try.prog 5 #[.string (bs s)] w fun e w' => e = .returned (.bool true) ∧ Below w.heap.size w w' := by
  go_enter Try.func5, Try.ntmps5
  go_wp2_with fail
  refine (logRead_any s w (by omega)).mono ?_
  rintro e w1 ⟨v, rfl, ho1, hb1⟩
  have HB1 := hide hb1
  have HO1 := hide ho1
  obtain ⟨ao, cp, rfl⟩ := own_shape ho1
  clear hb1 ho1
  go_wp2_with fail
  refine (rEntries_any s w1 (by omega)).mono ?_
  rintro e w2 ⟨v2, u2, rfl, ho2, hi2, hb2⟩
  have HB2 : Hid (Below w.heap.size w w2) := hide (HB1.out.trans (hb2.mono HB1.out.size))
  have HO1' := hide (ownStrs_grow HO1.out (show Grow w1 w2 from hb2))
  have HO2 := hide ho2
  have HI2 := hide hi2
  obtain ⟨ao2, cp2, rfl⟩ := own_shape ho2
  obtain ⟨bo2, bp2, rfl⟩ := own_shape hi2
  clear hb2 ho2 hi2
  obtain ⟨X, HX⟩ : ∃ X, Hid (X = entA s 0) := ⟨_, hide rfl⟩
  rw [← HX.out] at HO1 HO1' HO2 HI2 ⊢
  have HL1 : Hid ((X.map (·.2)).length = X.length) := hide (by simp)
  have HL2 : Hid ((X.map (·.1)).length = X.length) := hide (by simp)
  rw [HL1.out] at HI2 ⊢
  rw [HL2.out] at HO1 HO1' HO2 ⊢
  have hXl : X.length ≤ 1048576 := by
    have h1 := ents_len HX.out.symm
    have h2 := (endF_ge HX.out.symm).2 (Nat.zero_le _)
    omega
  have HXl := hide hXl
  have HS := hide (fun W (hg : Grow w2 W) => sameTexts_any W (.slice ao X.length cp) (.slice ao2 X.length cp2) (X.map (·.1)) (X.map (·.1)) (readsStrs_own (ownStrs_grow HO1'.out hg)) (readsStrs_own (ownStrs_grow HO2.out hg)) (by rw [HL2.out]; have := HXl.out; omega) (by rw [HL2.out]; have := HXl.out; omega))
  by_cases h0 : X.length = 0
  · have hX0 : X = [] := List.eq_nil_of_length_eq_zero h0
    have h9 : Hid (lastE X = 0) := hide (by rw [hX0]; rfl)
    rw [h9.out, h0]
    rw [h0] at HS
    clear hX0 h0 hXl
    go_wp2_with fail
    refine (logBegun_any w2).mono ?_
    rintro e w3 ⟨rfl, hb3⟩
    have HB3 : Hid (Below w.heap.size w w3) := hide (HB2.out.trans (hb3.mono HB2.out.size))
    have hs3 := HS.out w3 hb3
    clear hb3
    go_wp2_with fail
    refine hs3.mono ?_
    rintro e w4 ⟨rfl, n, rfl⟩
    go_wp2
    go_ret
    exact ⟨ret_bool (by simp), Go.below_drewN HB3.out n⟩
  · obtain ⟨Y, y, hY⟩ : ∃ Y y, X = Y ++ [y] := ⟨X.dropLast, X.getLast (fun h => h0 (by rw [h]; rfl)), (List.dropLast_concat_getLast _).symm⟩
    have hYl : X.length = Y.length + 1 := by rw [hY]; simp
    have h9 : Hid (lastE X = y.2) := hide (by rw [hY]; exact lastE_snoc _ _)
    have hi := HI2.out.2
    rcases hi with ⟨_, h1⟩ | ⟨g, cap, cur, h1, h2, h3, h4⟩
    · rw [HL1.out] at h1; omega
    · have hcell := World.ownsRow.cells HI2.out (g := g) (by rw [h1]; rfl) Y.length (.int .i64 (y.2 : Int)) (by rw [hY]; simp [intV])
      rw [Addr.add_lit] at hcell
      simp only [Nat.zero_add] at hcell
      rw [HL1.out] at h1
      have h1' := h1
      simp at h1'
      obtain ⟨rfl, rfl⟩ := h1'
      rw [h9.out, hYl]
      rw [hYl] at HS
      have HH := hide hcell
      have hYb : Y.length ≤ 1048576 := by omega
      clear h1 h2 h3 h4 hY hYl h0 hXl
      have hcell := HH.out
      go_wp2_with fail
      refine (logBegun_any w2).mono ?_
      rintro e w3 ⟨rfl, hb3⟩
      have HB3 : Hid (Below w.heap.size w w3) := hide (HB2.out.trans (hb3.mono HB2.out.size))
      have hs3 := HS.out w3 hb3
      clear hb3 hcell
      go_wp2_with fail
      refine hs3.mono ?_
      rintro e w4 ⟨rfl, n, rfl⟩
      go_wp2
      go_ret
      exact ⟨ret_bool (by simp), Go.below_drewN HB3.out n⟩


theorem Try.own : ownKnob Try.prog.godebug = none := by kernel_rfl
theorem Try.laidOut : laidOutB Try.prog = true := by kernel_rfl

set_option maxRecDepth 100000 in
theorem logReads_lifted (os : Os) (started : os.Started) (H : Type) (enc : TypeId × Value → H) (F : Stop.Interp) :
    ReturnsInHanded {} Try.checked os 5 .any ((Rows.OpenSpec.upto Rows.logReadsSpec).pre6 enc Try.prog Try.f5 Rows.logReadsUptoRow.domain false) (((Rows.OpenSpec.upto Rows.logReadsSpec).at F).post enc Try.prog Try.f5 false true false false) := by
  refine returnsInHanded_of_cond (C := Try.checked) (s := Rows.OpenSpec.upto Rows.logReadsSpec) (k := Rows.uptoSmall) rfl Try.own started (by kernel_rfl) Try.func5
    (OpenSpec.witness (enc := enc) (C := Try.checked) (s := Rows.OpenSpec.upto Rows.logReadsSpec) (k := Rows.uptoSmall) rfl false ⟨#[], #[.string ByteArray.empty], []⟩ 8 (by kernel_rfl) (by kernel_rfl) (by kernel_rfl)
      (x := ([.lit (.string [])], [], [])) (by kernel_rfl) rfl (by kernel_rfl)) ?_
  intro W base args ds gs before hval0 hW hcnd hbk0 _
  have hval : ∀ (j : Nat) t v, Try.f5.params[j]? = some t → args[j]? = some v → Value.okWide Try.prog W .any base t v := hval0
  have hW' := hW
  obtain ⟨p, q, hA0, hV, rfl, hfz, hnd⟩ := hW
  have hA : DataW.TrodAll enc Try.prog W 0 (fun _ => true) true Try.f5.params.toList args.toList ds p := hA0
  rw [Try.params5] at hA hval
  obtain ⟨v0, d0, rfl, rfl, h0⟩ := trodAll_one hA
  obtain ⟨rfl, rfl⟩ := trodVars_none hV
  obtain ⟨s0, rfl, rfl, rfl, hs0⟩ := open_string Try.underlying9 (hval 0 9 v0 rfl rfl) h0
  clear hA0 hval0
  simp only [List.append_nil, List.nil_append] at hW'
  have hlt := fun x hx => hW'.lt x hx
  have hbk1 := bulk_bound hbk0
  have hbk : ∀ n, n ≤ Rows.uptoBulkAll _ → n ≤ 1048576 := fun n hn => Nat.le_trans hn hbk1
  have hc := logReads_any W s0.data.toList (by have := hbk s0.data.toList.length (by simp [Rows.uptoBulkAll, bulk_text] <;> omega); omega)
  rw [← bs_surj] at hc
  refine hc.mono fun e W' ⟨he, hnx⟩ => ?_
  subst he
  refine ⟨_, rfl, ?_⟩
  show Rows.logReadsSpec.post enc Try.prog Try.f5 false true false false W _ _ W'
  refine ⟨_, _, _, [], ([]), [], hW', ?_, ?_, rfl, hnx.frame _, fun h => by cases h⟩
  · exact trodAll_mk1 (shut_bool Try.underlying4 _)
  · exact trodAll_eq (trodAll_mk1 (shut_string Try.underlying9 hs0)) (by simp)

theorem logReads_holds : Rows.LogReadsUptoSaid :=
  OpenClaim.holds_of_cond 5 Try.f5 rfl rfl rfl rfl rfl rfl rfl ⟨rfl, rfl, rfl, rfl, rfl⟩ rfl rfl rfl rfl rfl (by kernel_rfl) Try.func5 (by kernel_rfl)
    (of_decide_eq_true (by kernel_rfl)) (by unfold Func.isWrapper; first | (rw [if_pos (by decide +kernel)]; kernel_rfl) | (rw [if_neg (by decide +kernel)]; exact ⟨rfl, rfl⟩))
    (fun os started H enc _ F => logReads_lifted os started H enc F)

end Go.Proofs.Ytjjjncainakbiaa
