/- WireBack, for every list of series: what is written is read as it was, and written so again. No condition. -/
import Derived.Test.YtojljbgopknbcaaRows
import Derived.Test.YtojljbgopknbcaaKit
import Derived.Test.YtojljbgopknbcaaWTop
import Derived.Test.YtojljbgopknbcaaWBeg
import Derived.Test.YtojljbgopknbcaaOpen
import Derived.Test.YtojljbgopknbcaaRdG
import Derived.Test.YtojljbgopknbcaaSame
import Derived.Test.YtojljbgopknbcaaRound
import Derived.ProofKit
import Derived.BigQuiet
set_option linter.unusedVariables false
set_option linter.unusedSimpArgs false
namespace Go.Proofs.Ytojljbgopknbcaa
open Go.ChangeShapes Go.WideShapes Go.ChangeAt Go.RowKit
attribute [local go_sem] bs_size bs_toList bs_append bs_get bs_extract

set_option maxRecDepth 20000 in
set_option maxHeartbeats 1000000 in
theorem wireBack_any (v : Value) (ls : List Ser) (w : World) (hv : readsSeries w w.heap.size v ls) (hbits : ∀ x ∈ ls, bitsFit x) (hfit : lensFit ls) :
    Calls Try.prog 7 #[v] w fun e w' => e = .returned (.bool true) ∧ Below w.heap.size w w' := by
  obtain ⟨ao, cp, hvv⟩ : ∃ ao cp, v = .slice ao ls.length cp := by obtain ⟨ao, cp, h, _⟩ := hv; exact ⟨ao, cp, h⟩
  have HV := hide hv
  have HF := hide hfit
  clear hv hfit
  subst hvv
  go_enter Try.func7, Try.ntmps7
  go_wp2_with fail
  refine (wireBegun_any w).mono ?_
  rintro e w1 ⟨rfl, hb1⟩
  have hs1 := hb1.size
  go_wp2_with fail
  refine (write_any w1 _ ls (readsSeries_mono (readsSeries_below HV.out hb1) hb1.size) hbits HF.out).mono ?_
  rintro e w2 ⟨rfl, hb2⟩
  have hb02 : Below w.heap.size w w2 := hb1.trans (hb2.mono hs1)
  by_cases h0 : writeErr ls = 0
  · have hc : countsB ls = true := by
      unfold writeErr at h0
      split at h0
      · assumption
      · simp at h0
    have hcc := (countsB_iff ls).2 hc
    have hT : writeTxt ls = seriesB ls := by simp [writeTxt, h0]
    have hR := hide (readErr_series ls h0 hbits)
    have hL : Hid ((seriesB ls).length ≤ 9223372036854775807) := by
      have h := hR.out.2
      unfold readErr at h
      split at h
      · show _ ≤ _; omega
      · simp at h
    rw [h0, hT]
    have H0 := hide h0
    have HT := hide hT
    have HC := hide hcc
    clear h0 hT hc hcc
    go_wp2_with fail
    refine (read_any w2 (seriesB ls) hL.out).mono ?_
    rintro e w3 ⟨hb3, (⟨hz, x, v', hr, rfl, ho⟩ | ⟨hz, _⟩)⟩
    · have hx : x = ls := by
        have := hR.out.1
        rw [this] at hr
        exact (Option.some.inj hr).symm
      subst hx
      clear hr hz
      have hb03 : Below w.heap.size w w3 := hb02.trans (hb3.mono hb02.size)
      obtain ⟨ao', cp', rfl⟩ : ∃ ao cp, v' = .slice ao x.length cp := by obtain ⟨vs, _, hr, _⟩ := ho; exact own_shape hr
      go_wp2_with fail
      refine (write_any w3 _ x (reads_ownSeries ho) hbits HF.out).mono ?_
      rintro e w4 ⟨rfl, hb4⟩
      have hb04 : Below w.heap.size w w4 := hb03.trans (hb4.mono hb03.size)
      rw [H0.out, HT.out]
      have r1 := readsSeries_mono (readsSeries_below HV.out hb04) hb04.size
      have r2 := readsSeries_mono (readsSeries_below (reads_ownSeries ho) hb4) hb4.size
      have HS := hide (sameSeries_yes w4 w4.heap.size _ _ x r1 r2 (by have := HC.out.1; omega) (fun y hy => by have := HC.out.2 y hy; exact ⟨by have := this.1; omega, by have := this.2.1; omega⟩))
      go_wp2_with fail
      refine HS.out.mono ?_
      clear HS
      rintro e w5 ⟨rfl, n, rfl⟩
      go_wp2
      go_ret
      exact ⟨rfl, hb04.trans ⟨rfl, rfl, rfl, Nat.le_refl _, fun _ _ => rfl⟩⟩
    · exact absurd hR.out.2 hz
  · have hne : (writeErr ls != 0) = true := by simpa using h0
    have HT : writeTxt ls = [] := by simp [writeTxt, h0]
    rw [HT]
    have H0 := hide h0
    clear h0 HT
    go_wp2
    go_ret
    exact ⟨rfl, hb02⟩

theorem Try.own : ownKnob Try.prog.godebug = none := by kernel_rfl
theorem Try.laidOut : laidOutB Try.prog = true := by kernel_rfl

set_option maxRecDepth 100000 in
theorem wireBack_lifted (os : Os) (started : os.Started) (H : Type) (enc : TypeId × Value → H) :
    ReturnsInHanded {} Try.checked os 7 .any (Rows.wireBackSpec.pre6 enc Try.prog Try.f7 Rows.wireBackRow.domain false) (Rows.wireBackSpec.post enc Try.prog Try.f7 false true false false) := by
  refine returnsInHanded_of_change (C := Try.checked) Try.own started (by kernel_rfl) Try.func7
    (ChangeSpec.witness6 (enc := enc) (C := Try.checked) false ⟨#[], #[.slice none 0 0], []⟩ 8 (by kernel_rfl) (by kernel_rfl) (by kernel_rfl) (by kernel_rfl)) ?_
  intro W base args ds gs before hval0 hW hcnd _
  have hval : ∀ (j : Nat) t v, Try.f7.params[j]? = some t → args[j]? = some v → Value.okWide Try.prog W .any base t v := hval0
  have hW' := hW
  obtain ⟨p, q, hA0, hV, rfl, hfz, hnd⟩ := hW
  have hA : DataW.TrodAll enc Try.prog W 0 (fun _ => true) true Try.f7.params.toList args.toList ds p := hA0
  rw [Try.params7] at hA hval
  obtain ⟨v0, d0, rfl, rfl, h0⟩ := trodAll_one hA
  obtain ⟨rfl, rfl⟩ := trodVars_none hV
  have h0k := h0
  obtain ⟨a0, len, cap, rfl⟩ := okWide_slice Try.underlying30 (hval 0 30 v0 rfl rfl)
  obtain ⟨fuel, hf⟩ := h0
  obtain ⟨ls, hr, hl, hb⟩ := open_series hf
  clear hA0 hval0
  simp only [List.append_nil] at hW'
  have hlt : ∀ x ∈ p, x.block < W.heap.size := fun x hx => by simpa using hW'.lt x hx
  refine (wireBack_any _ ls W hr hb hl).mono fun e W' ⟨he, hnx⟩ => ?_
  subst he
  refine ⟨_, rfl, _, _, _, [], p, [], hW', ?_, ?_, rfl, hnx.frame _, fun h => by cases h⟩
  · exact trodAll_mk1 (shut_bool Try.underlying4 _)
  · exact trodAll_mk1 (Below.trod Try.laidOut (by kernel_rfl) (of_decide_eq_true (by kernel_rfl)) h0k hnx hlt)

theorem wireBack_holds : Rows.WireBackSaid :=
  OpenClaim.holds_of_wide 7 Try.f7 rfl rfl rfl rfl rfl rfl rfl ⟨rfl, rfl, rfl, rfl, rfl⟩ rfl rfl rfl rfl rfl (by kernel_rfl) Try.func7 (by kernel_rfl)
    (of_decide_eq_true (by kernel_rfl)) (by unfold Func.isWrapper; first | (rw [if_pos (by decide +kernel)]; kernel_rfl) | (rw [if_neg (by decide +kernel)]; exact ⟨rfl, rfl⟩))
    (fun os started H enc _ => wireBack_lifted os started H enc)

end Go.Proofs.Ytojljbgopknbcaa
