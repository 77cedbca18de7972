/- LogGoes, for every text and every record of at most 1048576 bytes together: what is appended to what Read says is whole is read behind these. (Without that bound it is false: of a text of some 2^47 bytes that holds a record every seven bytes the records alone take more than there is.) -/
import Derived.Test.YtjjjncainakbiaaRows
import Derived.Test.YtjjjncainakbiaaKit
import Derived.Test.YtjjjncainakbiaaTrod
import Derived.Test.YtjjjncainakbiaaLgT
import Derived.Test.YtjjjncainakbiaaLgG
import Derived.Test.YtjjjncainakbiaaLgI
import Derived.Test.YtjjjncainakbiaaLgO
import Derived.Test.YtjjjncainakbiaaLgB
import Derived.Test.YtjjjncainakbiaaLgL
import Derived.Test.YtjjjncainakbiaaLgX
import Derived.Test.YtjjjncainakbiaaLgY
import Derived.Test.YtjjjncainakbiaaLgOpn
import Derived.ProofKit
import Derived.OpenShut
import Derived.JoinedCond
import Derived.BigQuiet
import Derived.BigFrame
set_option linter.unusedVariables false
set_option linter.unusedSimpArgs false
namespace Go.Proofs.Ytjjjncainakbiaa
open Go.ChangeShapes Go.WideShapes Go.ChangeAt Go.RowKit
open Go.ChangeMaps (open_string shut_string)
attribute [local go_sem] bs_size bs_toList bs_append bs_get bs_extract

open Lg
set_option maxRecDepth 20000 in
set_option maxHeartbeats 2000000 in
theorem logGoes_any (w : World) (s : List UInt8) (hs : s.length ≤ 1048576) (r : List UInt8) (hr : r.length ≤ 1048576) :
    Calls Try.prog 7 #[.string (bs s), .string (bs r)] w fun e w' => e = .returned (.bool true) ∧ Below w.heap.size w w' := by
  obtain ⟨X, hX⟩ : ∃ X, entA s 0 = X := ⟨_, rfl⟩
  have hg := entA_goes s r
  rw [hX] at hg
  have hXl := ents_len hX
  obtain ⟨n, hn⟩ : ∃ n, n = endF 0 X := ⟨_, rfl⟩
  rw [← hn] at hg hXl
  have hns : n ≤ s.length := hg.2
  have hLE : lastE X = n := by rw [lastE_eq, hn]
  have HX := hide hX
  have HLE := hide hLE
  have HG := hide hg.1
  have hAl := appB_length n r
  have hZl : (s.take n).length = n := by rw [List.length_take]; omega
  have HT : Hid (appendR (s.take n) r = if 20000 < r.length then ([], 2) else if 1000000 < n + (appB n r).length then ([], 2) else (s.take n ++ appB n r, 0)) := hide (by unfold appendR; rw [hZl])
  clear hX hn hg hLE
  go_enter Try.func7, Try.ntmps7
  go_wp2_with fail
  refine (logBegun_any w).mono ?_
  rintro e w1 ⟨rfl, hb1⟩
  have HB1 := hide hb1
  clear hb1
  go_wp2_with fail
  refine (logRead_any s w1 (by omega)).mono ?_
  rintro e w2 ⟨v, rfl, ho, hb2⟩
  rw [HX.out] at ho ⊢
  rw [HLE.out]
  have HB2 : Hid (Below w.heap.size w w2) := hide (HB1.out.trans (hb2.mono HB1.out.size))
  have HO := hide ho
  obtain ⟨D, HD⟩ : ∃ D, Hid (D = X.map (·.1)) := ⟨_, hide rfl⟩
  have HML : Hid (D.length ≤ 1048576) := hide (by rw [HD.out, List.length_map]; omega)
  rw [← HD.out] at HO ho
  obtain ⟨ao, cp, rfl⟩ := own_shape ho
  clear hb2 ho
  have hn0 : decide ((n : Int) < 0) = false := by rw [decide_eq_false_iff_not]; omega
  have hn1 : decide ((s.length : Int) < (n : Int)) = false := by rw [decide_eq_false_iff_not]; omega
  go_wp2_with fail
  refine (logAppend_any (s.take n) r w2 (by omega) (by omega)).mono ?_
  rintro e w3 ⟨rfl, hb3⟩
  have HB3 : Hid (Below w.heap.size w w3) := hide (HB2.out.trans (hb3.mono HB2.out.size))
  have HO3 := hide (ownStrs_grow HO.out (show Grow w2 w3 from hb3))
  clear hb3
  by_cases hbig : 20000 < r.length
  · rw [HT.out, if_pos hbig]
    have d1 : decide ((20000 : Int) < (r.length : Int)) = true := by rw [decide_eq_true_iff]; omega
    go_wp2_with fail
    go_ret
    exact ⟨rfl, HB3.out⟩
  · have d1 : decide ((20000 : Int) < (r.length : Int)) = false := by rw [decide_eq_false_iff_not]; omega
    by_cases hover : 1000000 < n + (appB n r).length
    · rw [HT.out, if_neg hbig, if_pos hover]
      have d2 : decide ((900000 : Int) < (n : Int) + (r.length : Int)) = true := by rw [decide_eq_true_iff]; omega
      go_wp2_with fail
      go_ret
      exact ⟨rfl, HB3.out⟩
    · rw [HT.out, if_neg hbig, if_neg hover]
      obtain ⟨T, HTd⟩ : ∃ T, Hid (T = s.take n ++ appB n r) := ⟨_, hide rfl⟩
      have hTl : T.length ≤ 1000000 := by rw [HTd.out, List.length_append, hZl]; omega
      have HG2 := HG.out
      rw [← HTd.out] at HG2 ⊢
      have HG3 := hide HG2
      clear HG2 hover hZl hAl
      go_wp2_with fail
      refine (logRead_any T w3 (by omega)).mono ?_
      rintro e w4 ⟨v, rfl, ho, hb4⟩
      rw [HG3.out] at ho ⊢
      rw [lastE_snoc]
      have HB4 : Hid (Below w.heap.size w w4) := hide (HB3.out.trans (hb4.mono HB3.out.size))
      have HO4 := hide (ownStrs_grow HO3.out (show Grow w3 w4 from hb4))
      have HP4 := hide ho
      have HLp : Hid (((X ++ [(r, T.length)]).map (·.1)) = D ++ [r]) := hide (by rw [HD.out]; simp)
      rw [HLp.out] at HP4 ho
      obtain ⟨bo, bp, rfl⟩ := own_shape ho
      clear hb4 ho
      go_wp2_with (first
        | (at_builtin; refine append_textsG (by rfl) (.tmp 57) (.tmp 58) rfl w4.heap.size _ _ _ [] D rfl rfl (own_none w4) (ownStrs_grow HO4.out ((Grow.refl w4).alloc _)) (by have := HML.out; simp; omega) (by simp) ?_; intro ao9 cp9 n9 w9 hn9 hown9 hgrow9 hbel9; have HO9 := hide hown9; have HB9 := hide hbel9; have hs9 := hbel9.size; clear hown9 hgrow9 hbel9)
        | (at_builtin; refine append_textsG (by rfl) (.tmp 59) (.tmp 61) rfl w4.heap.size _ _ _ D [r] rfl rfl (ownStrs_grow HO9.out ((Grow.refl w9).alloc _)) (own_sole w9 r) (by have := HML.out; simp; omega) (by simp at hs9 ⊢; omega) ?_; intro ao8 cp8 n8 w8 hn8 hown8 hgrow8 hbel8; have HO8 := hide hown8; have HB8 := hide hbel8; clear hown8 hgrow8 hbel8))
      have HG49 : Hid (Grow w4 w9) := hide (Below.trans ((Grow.refl w4).alloc _) HB9.out)
      have HG48 : Hid (Grow w4 w8) := hide (Below.trans HG49.out (Below.trans ((Below.refl w4.heap.size w9).alloc HG49.out.size _) HB8.out))
      have hS := sameTexts_any w8 _ _ (D ++ [r]) (D ++ [r]) (readsStrs_own (ownStrs_grow HP4.out HG48.out)) (readsStrs_own HO8.out) (by have := HML.out; simp; omega) (by have := HML.out; simp; omega)
      rw [show (D ++ [r]).length = D.length + 1 from by simp] at hS
      refine hS.mono ?_
      rintro e w10 ⟨rfl, m, rfl⟩
      have HB5 : Hid (Below w.heap.size w w8) := hide (HB4.out.trans (Below.mono HG48.out HB4.out.size))
      go_wp2
      go_ret
      exact ⟨ret_bool (by simp), Go.below_drewN HB5.out m⟩


theorem Try.own : ownKnob Try.prog.godebug = none := by kernel_rfl
theorem Try.laidOut : laidOutB Try.prog = true := by kernel_rfl

set_option maxRecDepth 100000 in
theorem logGoes_lifted (os : Os) (started : os.Started) (H : Type) (enc : TypeId × Value → H) (F : Stop.Interp) :
    ReturnsInHanded {} Try.checked os 7 .any ((Rows.OpenSpec.upto Rows.logGoesSpec).pre6 enc Try.prog Try.f7 Rows.logGoesUptoRow.domain false) (((Rows.OpenSpec.upto Rows.logGoesSpec).at F).post enc Try.prog Try.f7 false true false false) := by
  refine returnsInHanded_of_cond (C := Try.checked) (s := Rows.OpenSpec.upto Rows.logGoesSpec) (k := Rows.uptoSmall) rfl Try.own started (by kernel_rfl) Try.func7
    (OpenSpec.witness (enc := enc) (C := Try.checked) (s := Rows.OpenSpec.upto Rows.logGoesSpec) (k := Rows.uptoSmall) rfl false ⟨#[], #[.string ByteArray.empty, .string ByteArray.empty], []⟩ 8 (by kernel_rfl) (by kernel_rfl) (by kernel_rfl)
      (x := ([.lit (.string []), .lit (.string [])], [], [])) (by kernel_rfl) rfl (by kernel_rfl)) ?_
  intro W base args ds gs before hval0 hW hcnd hbk0 _
  have hval : ∀ (j : Nat) t v, Try.f7.params[j]? = some t → args[j]? = some v → Value.okWide Try.prog W .any base t v := hval0
  have hW' := hW
  obtain ⟨p, q, hA0, hV, rfl, hfz, hnd⟩ := hW
  have hA : DataW.TrodAll enc Try.prog W 0 (fun _ => true) true Try.f7.params.toList args.toList ds p := hA0
  rw [Try.params7] at hA hval
  obtain ⟨v0, v1, d0, d1, p0, p1, rfl, rfl, rfl, h0, h1⟩ := trodAll_two hA
  obtain ⟨rfl, rfl⟩ := trodVars_none hV
  obtain ⟨s0, rfl, rfl, rfl, hs0⟩ := open_string Try.underlying9 (hval 0 9 v0 rfl rfl) h0
  obtain ⟨s1, rfl, rfl, rfl, hs1⟩ := open_string Try.underlying9 (hval 1 9 v1 rfl rfl) h1
  clear hA0 hval0
  simp only [List.append_nil, List.nil_append] at hW'
  have hlt := fun x hx => hW'.lt x hx
  have hbk1 := bulk_bound hbk0
  have hbk : ∀ n, n ≤ Rows.uptoBulkAll _ → n ≤ 1048576 := fun n hn => Nat.le_trans hn hbk1
  have hc := logGoes_any W s0.data.toList (by have := hbk s0.data.toList.length (by simp [Rows.uptoBulkAll, bulk_text] <;> omega); omega) s1.data.toList (by have := hbk s1.data.toList.length (by simp [Rows.uptoBulkAll, bulk_text] <;> omega); omega)
  rw [← bs_surj, ← bs_surj] at hc
  refine hc.mono fun e W' ⟨he, hnx⟩ => ?_
  subst he
  refine ⟨_, rfl, ?_⟩
  show Rows.logGoesSpec.post enc Try.prog Try.f7 false true false false W _ _ W'
  refine ⟨_, _, _, [], ([]), [], hW', ?_, ?_, rfl, hnx.frame _, fun h => by cases h⟩
  · exact trodAll_mk1 (shut_bool Try.underlying4 _)
  · exact trodAll_eq (trodAll_mk2 (shut_string Try.underlying9 hs0) (shut_string Try.underlying9 hs1)) (by simp)

theorem logGoes_holds : Rows.LogGoesUptoSaid :=
  OpenClaim.holds_of_cond 7 Try.f7 rfl rfl rfl rfl rfl rfl rfl ⟨rfl, rfl, rfl, rfl, rfl⟩ rfl rfl rfl rfl rfl (by kernel_rfl) Try.func7 (by kernel_rfl)
    (of_decide_eq_true (by kernel_rfl)) (by unfold Func.isWrapper; first | (rw [if_pos (by decide +kernel)]; kernel_rfl) | (rw [if_neg (by decide +kernel)]; exact ⟨rfl, rfl⟩))
    (fun os started H enc _ F => logGoes_lifted os started H enc F)

end Go.Proofs.Ytjjjncainakbiaa
