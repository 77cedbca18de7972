/- LabelsBack, for all labels, names and values: who takes a label away, and puts it there again, has the same; what is put there is got, and others stay. No condition. -/
import Derived.Test.YtcijiaakbkhfkaaRows
import Derived.Test.YtcijiaakbkhfkaaKit
import Derived.Test.YtcijiaakbkhfkaaLTwi
import Derived.Test.YtcijiaakbkhfkaaLSpecV
import Derived.Test.YtcijiaakbkhfkaaLRefB
import Derived.Test.YtcijiaakbkhfkaaLGet
import Derived.Test.YtcijiaakbkhfkaaLMak
import Derived.Test.YtcijiaakbkhfkaaLBeg
import Derived.ProofKit
import Derived.BigQuiet
import Derived.BigFrame
set_option linter.unusedVariables false
set_option linter.unusedSimpArgs false
namespace Go.Proofs.Ytcijiaakbkhfkaa
open Go.ChangeShapes Go.WideShapes Go.ChangeAt Go.RowKit
open Go.ChangeMaps (open_string shut_string)
attribute [local go_sem] bs_size bs_toList bs_append bs_get bs_extract

theorem lensOk_of {l : List Lab} (h : checkB l = 0) : l.length ≤ 20 ∧ lensOk l := by
  have := eachErr_names (checkB_zero.1 h).1
  exact ⟨this.1, fun x hx => by have := this.2 x hx; omega⟩

set_option maxRecDepth 20000 in
set_option maxHeartbeats 2000000 in
theorem labelsBack_any (w : World) (va : Value) (ls : List Lab) (hv : readsLabels w w.heap.size va ls) (hl : ls.length ≤ 9223372036854775807) (hi : lensOk ls) (n : List UInt8) (hnl : n.length ≤ maxLen) (v : List UInt8) (hvl : v.length ≤ maxLen) (o : List UInt8) (hol : o.length ≤ maxLen) :
    Calls Try.prog 10 #[va, .string (bs n), .string (bs v), .string (bs o)] w fun e w' => e = .returned (.bool true) ∧ Below w.heap.size w w' := by
  have HV := hide hv
  have HI := hide hi
  clear hv hi
  go_enter Try.func10, Try.ntmps10
  go_wp2_with fail
  refine (labelsBegun_any w).mono ?_
  rintro e w1 ⟨rfl, hb1⟩
  go_wp2_with fail
  refine (get_any w1 va ls n (readsLabels_mono (readsLabels_below HV.out hb1) hb1.size) hl HI.out hnl).mono ?_
  rintro e w2 ⟨rfl, hb2'⟩
  have hb2 : Below w.heap.size w w2 := hb1.trans (hb2'.mono hb1.size)
  clear hb2' hb1
  by_cases hg : getErr ls n = 0
  · have HG := hide hg
    obtain ⟨hgw, hgc⟩ := back_gone hg
    obtain ⟨haw, hae⟩ := back_again hg
    obtain ⟨hL1, hL2⟩ := lensOk_of (getErr_zero.1 hg).1
    obtain ⟨hG1, hG2⟩ := lensOk_of hgc
    have HLG := hide hG2
    have HGW := hide hgw
    have HGA := hide (withAns_ok hgw)
    have HAW := hide haw
    have HAA := hide ((withAns_ok haw).trans hae)
    have HA := hide (getAns_ok hg)
    have HWas : Hid ((valueB ls n).length ≤ maxLen) := by
      have := valueB_le (l := ls) (n := n) (m := 100) (fun x hx => ((eachErr_zero.1 (checkB_zero.1 (getErr_zero.1 hg).1).1).2 x hx).2.2)
      show _ ≤ _; unfold maxLen; omega
    rw [hg, HA.out]
    clear hg hgw hgc haw hae hL2 hG2
    generalize valueB ls n = was at HAW HAA HWas
    go_wp2_with fail
    refine (with_any w2 va ls n [] (readsLabels_mono (readsLabels_below HV.out hb2) hb2.size) hl HI.out hnl (by simp)).mono ?_
    rintro e w3 ⟨v3, rfl, hown3, hb3'⟩
    have hb3 : Below w.heap.size w w3 := hb2.trans (hb3'.mono hb2.size)
    rw [HGA.out] at hown3
    rw [HGW.out]
    have HR3 := hide (reads_ownLabels hown3)
    clear hb3' hown3 hb2
    go_wp2_with fail
    refine (with_any w3 v3 (putB ls n []) n was HR3.out (by omega) HLG.out hnl HWas.out).mono ?_
    rintro e w4 ⟨v4, rfl, hown4, hb4'⟩
    have hb4 : Below w.heap.size w w4 := hb3.trans (hb4'.mono hb3.size)
    rw [HAA.out] at hown4
    rw [HAW.out]
    have HR4 := hide (reads_ownLabels hown4)
    clear hb4' hown4 hb3
    go_wp2_with fail
    refine (sameLabels_any w4 v4 va ls ls HR4.out (readsLabels_mono (readsLabels_below HV.out hb4) hb4.size) (by omega) (by omega)).mono ?_
    rintro e w5 ⟨rfl, k5, hw5⟩
    have hb5 : Below w.heap.size w w5 := by rw [hw5]; exact hb4.trans ⟨rfl, rfl, rfl, Nat.le_refl _, fun _ _ => rfl⟩
    have hd : decide (ls = ls) = true := by simp
    rw [hd]
    clear hw5 hb4 hd
    go_wp2_with fail
    refine (with_any w5 va ls n v (readsLabels_mono (readsLabels_below HV.out hb5) hb5.size) hl HI.out hnl hvl).mono ?_
    rintro e w6 ⟨v6, rfl, hown6, hb6'⟩
    have hb6 : Below w.heap.size w w6 := hb5.trans (hb6'.mono hb5.size)
    clear hb6' hb5
    by_cases hw : withErr ls n v = 0
    · obtain ⟨hp1, hp2, hp3, hp4⟩ := back_put hw
      obtain ⟨ho1, ho2⟩ := back_other (o := o) hw
      obtain ⟨hM1, hM2⟩ := lensOk_of hp2
      have HLM := hide hM2
      have HO1 := hide ho1
      have HO2 := hide ho2
      have HP2 := hide hp2
      have HP3 := hide hp3
      have HGM : Hid (getAns (putB ls n v) n = v) := by show _ = _; rw [getAns_ok hp3, hp4]
      rw [withAns_ok hw] at hown6
      have HR6 := hide (reads_ownLabels hown6)
      rw [hw]
      clear hw hp1 hp2 hp3 hp4 ho1 ho2 hM2 hown6
      generalize putB ls n v = m at HLM HO1 HO2 HP2 HP3 HGM HR6 hM1
      go_wp2_with fail
      refine (get_any w6 v6 m n HR6.out (by omega) HLM.out hnl).mono ?_
      rintro e w7 ⟨rfl, hb7⟩
      rw [HGM.out, HP3.out]
      have hb07 : Below w.heap.size w w7 := hb6.trans (hb7.mono hb6.size)
      have HR7 := hide (readsLabels_mono (readsLabels_below HR6.out hb7) hb7.size)
      go_wp2_with fail
      refine (check_any w7 v6 m HR7.out (by omega) HLM.out).mono ?_
      rintro e w8 ⟨rfl, hb8⟩
      rw [HP2.out]
      have hb08 : Below w.heap.size w w8 := hb07.trans (hb8.mono hb07.size)
      have HR8 := hide (readsLabels_mono (readsLabels_below HR7.out hb8) hb8.size)
      clear hb07 hb7 hb8
      go_wp2_with fail
      refine (get_any w8 va ls o (readsLabels_mono (readsLabels_below HV.out hb08) hb08.size) hl HI.out hol).mono ?_
      rintro e w9 ⟨rfl, hb9⟩
      have hb09 : Below w.heap.size w w9 := hb08.trans (hb9.mono hb08.size)
      have HR9 := hide (readsLabels_mono (readsLabels_below HR8.out hb9) hb9.size)
      clear hb08 hb9
      go_wp2_with fail
      refine (get_any w9 v6 m o HR9.out (by omega) HLM.out hol).mono ?_
      rintro e w10 ⟨rfl, hb10⟩
      have hb010 : Below w.heap.size w w10 := hb09.trans (hb10.mono hb09.size)
      rw [HO1.out]
      clear hb09 hb10
      generalize getErr ls o = e1
      rcases HO2.out with ho | ho
      · have ho' : (o == n) = true := by simpa using ho
        go_wp2
        go_ret
        exact ⟨by simp, hb010⟩
      · rw [ho]
        generalize getAns m o = y
        by_cases hon : o = n
        · have ho' : (o == n) = true := by simpa using hon
          go_wp2
          go_ret
          exact ⟨by simp, hb010⟩
        · have ho' : (o == n) = false := by simpa using hon
          go_wp2
          go_ret
          exact ⟨by simp, hb010⟩
    · have hne : ((withErr ls n v : Int) != 0) = true := by simpa using hw
      generalize withErr ls n v = e1 at hne ⊢
      clear hw
      go_wp2
      go_ret
      exact ⟨rfl, hb6⟩
  · have hne : ((getErr ls n : Int) != 0) = true := by simpa using hg
    generalize getErr ls n = e1 at hne ⊢
    clear hg
    go_wp2
    go_ret
    exact ⟨rfl, hb2⟩

theorem Try.own : ownKnob Try.prog.godebug = none := by kernel_rfl
theorem Try.laidOut : laidOutB Try.prog = true := by kernel_rfl

set_option maxRecDepth 100000 in
theorem labelsBack_lifted (os : Os) (started : os.Started) (H : Type) (enc : TypeId × Value → H) :
    ReturnsInHanded {} Try.checked os 10 .any (Rows.labelsBackSpec.pre6 enc Try.prog Try.f10 Rows.labelsBackRow.domain false) (Rows.labelsBackSpec.post enc Try.prog Try.f10 false true false false) := by
  refine returnsInHanded_of_change (C := Try.checked) Try.own started (by kernel_rfl) Try.func10
    (ChangeSpec.witness6 (enc := enc) (C := Try.checked) false ⟨#[], #[.slice none 0 0, .string ByteArray.empty, .string ByteArray.empty, .string ByteArray.empty], []⟩ 8 (by kernel_rfl) (by kernel_rfl) (by kernel_rfl) (by kernel_rfl)) ?_
  intro W base args ds gs before hval0 hW hcnd _
  have hval : ∀ (j : Nat) t v, Try.f10.params[j]? = some t → args[j]? = some v → Value.okWide Try.prog W .any base t v := hval0
  have hW' := hW
  obtain ⟨p, q, hA0, hV, rfl, hfz, hnd⟩ := hW
  have hA : DataW.TrodAll enc Try.prog W 0 (fun _ => true) true Try.f10.params.toList args.toList ds p := hA0
  rw [Try.params10] at hA hval
  obtain ⟨v0, v1, v2, v3, d0, d1, d2, d3, p0, p1, p2, p3, rfl, rfl, rfl, h0, h1, h2, h3⟩ := trodAll_four hA
  obtain ⟨rfl, rfl⟩ := trodVars_none hV
  have hk0 := h0
  obtain ⟨a0, len0, cap0, rfl⟩ := okWide_slice Try.underlying24 (hval 0 24 v0 rfl rfl)
  obtain ⟨fuel0, hf0⟩ := h0
  obtain ⟨ls0, hr0, hl0, hi0⟩ := open_labels hf0
  obtain ⟨s1, rfl, rfl, rfl, hs1⟩ := open_string Try.underlying9 (hval 1 9 v1 rfl rfl) h1
  obtain ⟨s2, rfl, rfl, rfl, hs2⟩ := open_string Try.underlying9 (hval 2 9 v2 rfl rfl) h2
  obtain ⟨s3, rfl, rfl, rfl, hs3⟩ := open_string Try.underlying9 (hval 3 9 v3 rfl rfl) h3
  clear hA0 hval0
  simp only [List.append_nil, List.nil_append] at hW'
  have hlt := fun x hx => hW'.lt x hx
  have hc := labelsBack_any W _ ls0 hr0 hl0 hi0 s1.data.toList (by rw [Array.length_toList]; exact hs1) s2.data.toList (by rw [Array.length_toList]; exact hs2) s3.data.toList (by rw [Array.length_toList]; exact hs3)
  rw [← bs_surj, ← bs_surj, ← bs_surj] at hc
  refine hc.mono fun e W' ⟨he, hnx⟩ => ?_
  subst he
  refine ⟨_, rfl, _, _, _, [], (p0), [], hW', ?_, ?_, rfl, hnx.frame _, fun h => by cases h⟩
  · exact trodAll_mk1 (shut_bool Try.underlying4 _)
  · exact trodAll_eq (trodAll_mk4 (Below.trod Try.laidOut (by kernel_rfl) (of_decide_eq_true (by kernel_rfl)) hk0 hnx (fun x hx => hlt x (by simp [hx]))) (shut_string Try.underlying9 hs1) (shut_string Try.underlying9 hs2) (shut_string Try.underlying9 hs3)) (by simp)

theorem labelsBack_holds : Rows.LabelsBackSaid :=
  OpenClaim.holds_of_wide 10 Try.f10 rfl rfl rfl rfl rfl rfl rfl ⟨rfl, rfl, rfl, rfl, rfl⟩ rfl rfl rfl rfl rfl (by kernel_rfl) Try.func10 (by kernel_rfl)
    (of_decide_eq_true (by kernel_rfl)) (by unfold Func.isWrapper; first | (rw [if_pos (by decide +kernel)]; kernel_rfl) | (rw [if_neg (by decide +kernel)]; exact ⟨rfl, rfl⟩))
    (fun os started H enc _ => labelsBack_lifted os started H enc)

end Go.Proofs.Ytcijiaakbkhfkaa
