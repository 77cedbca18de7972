/- LabelsApart, for every two lists of labels: their texts are the same just if they are (where the names are plain), and Compare is an order. No condition. -/
import Derived.Test.YtcijiaakbkhfkaaRows
import Derived.Test.YtcijiaakbkhfkaaKit
import Derived.Test.YtcijiaakbkhfkaaLTwi
import Derived.Test.YtcijiaakbkhfkaaLSpecU
import Derived.Test.YtcijiaakbkhfkaaLRefA
import Derived.Test.YtcijiaakbkhfkaaLRefB
import Derived.Test.YtcijiaakbkhfkaaLTxt
import Derived.Test.YtcijiaakbkhfkaaLCmp
import Derived.Test.YtcijiaakbkhfkaaLBeg
import Derived.ProofKit
import Derived.BigQuiet
import Derived.BigFrame
set_option linter.unusedVariables false
set_option linter.unusedSimpArgs false
namespace Go.Proofs.Ytcijiaakbkhfkaa
open Go.ChangeShapes Go.WideShapes Go.ChangeAt Go.RowKit
open Go.ChangeMaps (open_string shut_string)
attribute [local go_sem] bs_size bs_toList bs_append bs_get bs_extract

theorem apart_math {a b : List Lab} (ha : checkB a = 0) (hb : checkB b = 0) (hp : (plainB a && plainB b) = true) : textAns a = textAns b ↔ a = b := by
  rw [textAns_ok ha, textAns_ok hb]
  rw [Bool.and_eq_true] at hp
  exact ⟨fun h => text_inj ha hb hp.1 hp.2 h, fun h => by rw [h]⟩
theorem plain_nil {l : List Lab} (h : valueB l ownN = []) : plainB l = true := by unfold plainB; rw [h]; rfl
theorem plain_ne {l : List Lab} {x : Bool} (h : ¬ valueB l ownN = []) (hx : nameB (valueB l ownN) = x) : plainB l = x := by unfold plainB; rw [hx]; simp [h]

set_option maxRecDepth 20000 in
set_option maxHeartbeats 2000000 in
theorem labelsApart_any (w : World) (va : Value) (a : List Lab) (ha : readsLabels w w.heap.size va a) (hal : a.length ≤ 9223372036854775807) (hai : lensOk a) (vb : Value) (b : List Lab) (hb : readsLabels w w.heap.size vb b) (hbl : b.length ≤ 9223372036854775807) (hbi : lensOk b) :
    Calls Try.prog 11 #[va, vb] w fun e w' => e = .returned (.bool true) ∧ Below w.heap.size w w' := by
  have HA := hide ha
  have HB := hide hb
  have HAI := hide hai
  have HBI := hide hbi
  clear ha hb hai hbi
  go_enter Try.func11, Try.ntmps11
  go_wp2_with fail
  refine (labelsBegun_any w).mono ?_
  rintro e w1 ⟨rfl, hb1⟩
  go_wp2_with fail
  refine (text_any w1 va a (readsLabels_mono (readsLabels_below HA.out hb1) hb1.size) hal HAI.out).mono ?_
  rintro e w2 ⟨rfl, hb2'⟩
  have hb2 : Below w.heap.size w w2 := hb1.trans (hb2'.mono hb1.size)
  clear hb2' hb1
  go_wp2_with fail
  refine (text_any w2 vb b (readsLabels_mono (readsLabels_below HB.out hb2) hb2.size) hbl HBI.out).mono ?_
  rintro e w3 ⟨rfl, hb3'⟩
  have hb3 : Below w.heap.size w w3 := hb2.trans (hb3'.mono hb2.size)
  clear hb3' hb2
  by_cases h0 : checkB a = 0
  · by_cases h1 : checkB b = 0
    · have H0 := hide h0
      have H1 := hide h1
      have HM := hide (fun hp => apart_math (a := a) (b := b) h0 h1 hp)
      have HE := hide (cmpErr_zero.2 ⟨h0, h1⟩)
      have HE2 := hide (cmpErr_zero.2 ⟨h1, h0⟩)
      have HC := hide (cmpAns_ok HE.out)
      have HC2 := hide (cmpAns_ok HE2.out)
      have h20a := (eachErr_names (checkB_zero.1 h0).1).1
      have h20b := (eachErr_names (checkB_zero.1 h1).1).1
      have HNA := hide (eachErr_names (checkB_zero.1 h0).1).2
      have HNB := hide (eachErr_names (checkB_zero.1 h1).1).2
      have HVA : Hid ((valueB a ownN).length ≤ maxLen) := by have := valueB_le (n := ownN) (fun x hx => (HNA.out x hx).2); show _ ≤ _; unfold maxLen; omega
      have HVB : Hid ((valueB b ownN).length ≤ maxLen) := by have := valueB_le (n := ownN) (fun x hx => (HNB.out x hx).2); show _ ≤ _; unfold maxLen; omega
      rw [h0, h1]
      clear h0 h1
      generalize textAns a = Ta at HM ⊢
      generalize textAns b = Tb at HM ⊢
      go_wp2_with fail
      refine (compare_any w3 va vb a b (readsLabels_mono (readsLabels_below HA.out hb3) hb3.size) hal HAI.out (readsLabels_mono (readsLabels_below HB.out hb3) hb3.size) hbl HBI.out).mono ?_
      rintro e w4 ⟨rfl, hb4'⟩
      have hb4 : Below w.heap.size w w4 := hb3.trans (hb4'.mono hb3.size)
      clear hb4' hb3
      rw [HE.out, HC.out]
      go_wp2_with fail
      refine (compare_any w4 vb va b a (readsLabels_mono (readsLabels_below HB.out hb4) hb4.size) hbl HBI.out (readsLabels_mono (readsLabels_below HA.out hb4) hb4.size) hal HAI.out).mono ?_
      rintro e w5 ⟨rfl, hb5'⟩
      have hb5 : Below w.heap.size w w5 := hb4.trans (hb5'.mono hb4.size)
      clear hb5' hb4
      rw [HE2.out, HC2.out]
      obtain ⟨ao, ac, hva⟩ := readsLabels_len HA.out
      obtain ⟨bo, bc, hvb⟩ := readsLabels_len HB.out
      subst hva hvb
      go_wp2
      go_loopw [11, 12, 13] (fun p i _ wr => ∃ (k : Nat) (P : Bool), k ≤ 2 ∧ i = .int .i64 k ∧ p = .bool P ∧ Hid (P = ((decide (k = 0) || plainB a) && (decide (k ≤ 1) || plainB b))) ∧ Below w.heap.size w wr) (fun _ i _ _ => 2 - (intOf i).toNat)
      case atStart => exact ⟨0, true, by omega, rfl, rfl, by show _ = _; simp, hb5⟩
      case round =>
        clear hb5
        obtain ⟨k, P, hk, rfl, rfl, HP, hb⟩ := hrel
        rename World => wr
        have hbs := hb.size
        obtain ⟨w6, HW⟩ : ∃ w6, Hid (wr.alloc (.cells #[.slice ao a.length ac, .slice bo b.length bc] 24) = w6) := ⟨_, hide rfl⟩
        have hb6 : Below w.heap.size w w6 := by rw [← HW.out]; exact hb.alloc hbs _
        have hg6 : w6.heap[wr.heap.size]? = some (.cells #[.slice ao a.length ac, .slice bo b.length bc] 24 (0, 0)) := by rw [← HW.out]; exact heap_alloc_new wr _
        obtain ⟨c0, c1⟩ := two_cells hg6
        have HB6 := hide hb6
        have R1 := hide (rValueOf_any w6 (.slice ao a.length ac) a ownN (readsLabels_mono (readsLabels_below HA.out hb6) hb6.size) hal)
        have R2 := hide (rValueOf_any w6 (.slice bo b.length bc) b ownN (readsLabels_mono (readsLabels_below HB.out hb6) hb6.size) hbl)
        clear hg6 hb6
        by_cases k0 : k = 0
        · subst k0
          obtain rfl : P = true := by have := HP.out; simpa using this
          by_cases hn : valueB a ownN = []
          · have HPl := hide (plain_nil hn)
            rw [hn] at R1
            clear hn
            go_wp2_with fail
            rw [HW.out]
            go_wp2_with fail
            refine R1.out.mono ?_
            rintro e w7 ⟨rfl, n7, hw7⟩
            have hb7 : Below w.heap.size w w7 := by rw [hw7]; exact HB6.out.trans ⟨rfl, rfl, rfl, Nat.le_refl _, fun _ _ => rfl⟩
            clear hw7
            go_wp2
            go_roundw
            case rel => exact ⟨1, true, by omega, rfl, rfl, by show _ = _; rw [HPl.out]; simp, hb7⟩
            case measure => simp [intOf]
          · have hn' : (valueB a ownN == []) = false := by simpa using hn
            cases hx : nameB (valueB a ownN) with
            | true =>
              have HPl := hide (plain_ne hn hx)
              have HX := hide hx
              generalize valueB a ownN = u at HVA R1 HX hn'
              clear hn hx
              go_wp2_with fail
              rw [HW.out]
              go_wp2_with fail
              refine R1.out.mono ?_
              rintro e w7 ⟨rfl, n7, hw7⟩
              have hb7 : Below w.heap.size w w7 := by rw [hw7]; exact HB6.out.trans ⟨rfl, rfl, rfl, Nat.le_refl _, fun _ _ => rfl⟩
              clear hw7
              go_wp2_with (go_at_call 15; refine (rIsName_any _ _ HVA.out).mono ?_; rintro e w' ⟨rfl, rfl⟩; rw [HX.out])
              go_roundw
              case rel => exact ⟨1, true, by omega, rfl, rfl, by show _ = _; rw [HPl.out]; simp, hb7⟩
              case measure => simp [intOf]
            | false =>
              have HPl := hide (plain_ne hn hx)
              have HX := hide hx
              generalize valueB a ownN = u at HVA R1 HX hn'
              clear hn hx
              go_wp2_with fail
              rw [HW.out]
              go_wp2_with fail
              refine R1.out.mono ?_
              rintro e w7 ⟨rfl, n7, hw7⟩
              have hb7 : Below w.heap.size w w7 := by rw [hw7]; exact HB6.out.trans ⟨rfl, rfl, rfl, Nat.le_refl _, fun _ _ => rfl⟩
              clear hw7
              go_wp2_with (go_at_call 15; refine (rIsName_any _ _ HVA.out).mono ?_; rintro e w' ⟨rfl, rfl⟩; rw [HX.out])
              go_roundw
              case rel => exact ⟨1, false, by omega, rfl, rfl, by show _ = _; rw [HPl.out]; simp, hb7⟩
              case measure => simp [intOf]
        · by_cases k1 : k = 1
          · subst k1
            have hPa : P = plainB a := by have := HP.out; simpa using this
            have HPa := hide hPa
            clear hPa
            cases P with
            | false =>
              go_wp2_with fail
              rw [HW.out]
              go_wp2_with fail
              refine R2.out.mono ?_
              rintro e w7 ⟨rfl, n7, hw7⟩
              have hb7 : Below w.heap.size w w7 := by rw [hw7]; exact HB6.out.trans ⟨rfl, rfl, rfl, Nat.le_refl _, fun _ _ => rfl⟩
              clear hw7
              generalize valueB b ownN = u
              go_wp2
              go_roundw
              case rel => exact ⟨2, false, by omega, rfl, rfl, by show _ = _; rw [← HPa.out]; simp, hb7⟩
              case measure => simp [intOf]
            | true =>
              by_cases hn : valueB b ownN = []
              · have HPl := hide (plain_nil hn)
                rw [hn] at R2
                clear hn
                go_wp2_with fail
                rw [HW.out]
                go_wp2_with fail
                refine R2.out.mono ?_
                rintro e w7 ⟨rfl, n7, hw7⟩
                have hb7 : Below w.heap.size w w7 := by rw [hw7]; exact HB6.out.trans ⟨rfl, rfl, rfl, Nat.le_refl _, fun _ _ => rfl⟩
                clear hw7
                go_wp2
                go_roundw
                case rel => exact ⟨2, true, by omega, rfl, rfl, by show _ = _; rw [HPl.out, ← HPa.out]; simp, hb7⟩
                case measure => simp [intOf]
              · have hn' : (valueB b ownN == []) = false := by simpa using hn
                cases hx : nameB (valueB b ownN) with
                | true =>
                  have HPl := hide (plain_ne hn hx)
                  have HX := hide hx
                  generalize valueB b ownN = u at HVB R2 HX hn'
                  clear hn hx
                  go_wp2_with fail
                  rw [HW.out]
                  go_wp2_with fail
                  refine R2.out.mono ?_
                  rintro e w7 ⟨rfl, n7, hw7⟩
                  have hb7 : Below w.heap.size w w7 := by rw [hw7]; exact HB6.out.trans ⟨rfl, rfl, rfl, Nat.le_refl _, fun _ _ => rfl⟩
                  clear hw7
                  go_wp2_with (go_at_call 15; refine (rIsName_any _ _ HVB.out).mono ?_; rintro e w' ⟨rfl, rfl⟩; rw [HX.out])
                  go_roundw
                  case rel => exact ⟨2, true, by omega, rfl, rfl, by show _ = _; rw [HPl.out, ← HPa.out]; simp, hb7⟩
                  case measure => simp [intOf]
                | false =>
                  have HPl := hide (plain_ne hn hx)
                  have HX := hide hx
                  generalize valueB b ownN = u at HVB R2 HX hn'
                  clear hn hx
                  go_wp2_with fail
                  rw [HW.out]
                  go_wp2_with fail
                  refine R2.out.mono ?_
                  rintro e w7 ⟨rfl, n7, hw7⟩
                  have hb7 : Below w.heap.size w w7 := by rw [hw7]; exact HB6.out.trans ⟨rfl, rfl, rfl, Nat.le_refl _, fun _ _ => rfl⟩
                  clear hw7
                  go_wp2_with (go_at_call 15; refine (rIsName_any _ _ HVB.out).mono ?_; rintro e w' ⟨rfl, rfl⟩; rw [HX.out])
                  go_roundw
                  case rel => exact ⟨2, false, by omega, rfl, rfl, by show _ = _; rw [HPl.out, ← HPa.out]; simp, hb7⟩
                  case measure => simp [intOf]
          · obtain rfl : k = 2 := by omega
            have HPP : Hid (P = (plainB a && plainB b)) := by have := HP.out; show _ = _; simpa using this
            have S1 := hide (sameLabels_any wr (.slice ao a.length ac) (.slice bo b.length bc) a b (readsLabels_mono (readsLabels_below HA.out hb) hbs) (readsLabels_mono (readsLabels_below HB.out hb) hbs) (by omega) (by omega))
            clear R1 R2 c0 c1
            by_cases hab : a = b
            · have hz : ordB a b = 0 := ordB_zero.2 hab
              have hz2 : ordB b a = 0 := ordB_zero.2 hab.symm
              have hd : decide (a = b) = true := by simpa using hab
              have HMP : Hid (P = true → Ta = Tb) := fun h => (HM.out (by rw [← HPP.out]; exact h)).2 hab
              rw [hz, hz2]
              rw [hd] at S1
              clear hab hz hz2 hd
              cases P with
              | false =>
                go_wp2_with (go_at_call 31; refine S1.out.mono ?_; rintro e w7 ⟨rfl, n7, rfl⟩)
                go_ret
                exact ⟨rfl, hb.trans ⟨rfl, rfl, rfl, Nat.le_refl _, fun _ _ => rfl⟩⟩
              | true =>
                obtain rfl := HMP.out rfl
                go_wp2_with (go_at_call 31; refine S1.out.mono ?_; rintro e w7 ⟨rfl, n7, rfl⟩)
                go_ret
                exact ⟨by simp, hb.trans ⟨rfl, rfl, rfl, Nat.le_refl _, fun _ _ => rfl⟩⟩
            · have hd : decide (a = b) = false := by simpa using hab
              have HMP : Hid (P = true → ¬ Ta = Tb) := fun h e => hab ((HM.out (by rw [← HPP.out]; exact h)).1 e)
              have hv := ordB_vals a b
              have hn := ordB_neg a b
              have hz : ordB a b ≠ 0 := fun e => hab (ordB_zero.1 e)
              rw [hd] at S1
              clear hab hd
              rw [hn]
              generalize ordB a b = z at hv hz ⊢
              clear hn
              rcases hv with rfl | rfl | rfl
              · cases P with
                | false =>
                  go_wp2_with (go_at_call 31; refine S1.out.mono ?_; rintro e w7 ⟨rfl, n7, rfl⟩)
                  go_ret
                  exact ⟨rfl, hb.trans ⟨rfl, rfl, rfl, Nat.le_refl _, fun _ _ => rfl⟩⟩
                | true =>
                  have ht : (Ta == Tb) = false := by simpa using HMP.out rfl
                  go_wp2_with (go_at_call 31; refine S1.out.mono ?_; rintro e w7 ⟨rfl, n7, rfl⟩)
                  go_ret
                  exact ⟨rfl, hb.trans ⟨rfl, rfl, rfl, Nat.le_refl _, fun _ _ => rfl⟩⟩
              · exact absurd rfl hz
              · cases P with
                | false =>
                  go_wp2_with (go_at_call 31; refine S1.out.mono ?_; rintro e w7 ⟨rfl, n7, rfl⟩)
                  go_ret
                  exact ⟨rfl, hb.trans ⟨rfl, rfl, rfl, Nat.le_refl _, fun _ _ => rfl⟩⟩
                | true =>
                  have ht : (Ta == Tb) = false := by simpa using HMP.out rfl
                  go_wp2_with (go_at_call 31; refine S1.out.mono ?_; rintro e w7 ⟨rfl, n7, rfl⟩)
                  go_ret
                  exact ⟨rfl, hb.trans ⟨rfl, rfl, rfl, Nat.le_refl _, fun _ _ => rfl⟩⟩
    · have hne : ((checkB b : Int) != 0) = true := by simpa using h1
      rw [h0]
      generalize checkB b = e1 at hne ⊢
      clear h0 h1
      go_wp2
      go_ret
      exact ⟨rfl, hb3⟩
  · have hne : ((checkB a : Int) != 0) = true := by simpa using h0
    generalize checkB a = e1 at hne ⊢
    clear h0
    go_wp2
    go_ret
    exact ⟨rfl, hb3⟩

theorem Try.own : ownKnob Try.prog.godebug = none := by kernel_rfl
theorem Try.laidOut : laidOutB Try.prog = true := by kernel_rfl

set_option maxRecDepth 100000 in
theorem labelsApart_lifted (os : Os) (started : os.Started) (H : Type) (enc : TypeId × Value → H) :
    ReturnsInHanded {} Try.checked os 11 .any (Rows.labelsApartSpec.pre6 enc Try.prog Try.f11 Rows.labelsApartRow.domain false) (Rows.labelsApartSpec.post enc Try.prog Try.f11 false true false false) := by
  refine returnsInHanded_of_change (C := Try.checked) Try.own started (by kernel_rfl) Try.func11
    (ChangeSpec.witness6 (enc := enc) (C := Try.checked) false ⟨#[], #[.slice none 0 0, .slice none 0 0], []⟩ 8 (by kernel_rfl) (by kernel_rfl) (by kernel_rfl) (by kernel_rfl)) ?_
  intro W base args ds gs before hval0 hW hcnd _
  have hval : ∀ (j : Nat) t v, Try.f11.params[j]? = some t → args[j]? = some v → Value.okWide Try.prog W .any base t v := hval0
  have hW' := hW
  obtain ⟨p, q, hA0, hV, rfl, hfz, hnd⟩ := hW
  have hA : DataW.TrodAll enc Try.prog W 0 (fun _ => true) true Try.f11.params.toList args.toList ds p := hA0
  rw [Try.params11] at hA hval
  obtain ⟨v0, v1, d0, d1, p0, p1, rfl, rfl, rfl, h0, h1⟩ := trodAll_two hA
  obtain ⟨rfl, rfl⟩ := trodVars_none hV
  have hk0 := h0
  obtain ⟨a0, len0, cap0, rfl⟩ := okWide_slice Try.underlying24 (hval 0 24 v0 rfl rfl)
  obtain ⟨fuel0, hf0⟩ := h0
  obtain ⟨ls0, hr0, hl0, hi0⟩ := open_labels hf0
  have hk1 := h1
  obtain ⟨a1, len1, cap1, rfl⟩ := okWide_slice Try.underlying24 (hval 1 24 v1 rfl rfl)
  obtain ⟨fuel1, hf1⟩ := h1
  obtain ⟨ls1, hr1, hl1, hi1⟩ := open_labels hf1
  clear hA0 hval0
  simp only [List.append_nil, List.nil_append] at hW'
  have hlt := fun x hx => hW'.lt x hx
  have hc := labelsApart_any W _ ls0 hr0 hl0 hi0 _ ls1 hr1 hl1 hi1
  refine hc.mono fun e W' ⟨he, hnx⟩ => ?_
  subst he
  refine ⟨_, rfl, _, _, _, [], (p0 ++ (p1)), [], hW', ?_, ?_, rfl, hnx.frame _, fun h => by cases h⟩
  · exact trodAll_mk1 (shut_bool Try.underlying4 _)
  · exact trodAll_eq (trodAll_mk2 (Below.trod Try.laidOut (by kernel_rfl) (of_decide_eq_true (by kernel_rfl)) hk0 hnx (fun x hx => hlt x (by simp [hx]))) (Below.trod Try.laidOut (by kernel_rfl) (of_decide_eq_true (by kernel_rfl)) hk1 hnx (fun x hx => hlt x (by simp [hx])))) (by simp)

theorem labelsApart_holds : Rows.LabelsApartSaid :=
  OpenClaim.holds_of_wide 11 Try.f11 rfl rfl rfl rfl rfl rfl rfl ⟨rfl, rfl, rfl, rfl, rfl⟩ rfl rfl rfl rfl rfl (by kernel_rfl) Try.func11 (by kernel_rfl)
    (of_decide_eq_true (by kernel_rfl)) (by unfold Func.isWrapper; first | (rw [if_pos (by decide +kernel)]; kernel_rfl) | (rw [if_neg (by decide +kernel)]; exact ⟨rfl, rfl⟩))
    (fun os started H enc _ => labelsApart_lifted os started H enc)

end Go.Proofs.Ytcijiaakbkhfkaa
