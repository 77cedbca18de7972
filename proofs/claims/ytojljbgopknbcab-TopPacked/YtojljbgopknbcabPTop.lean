/- TopPacked, for every list of series: what is written, packed, unpacked and read is what it was. No condition. -/
import Derived.Test.YtojljbgopknbcabRows
import Derived.Test.YtojljbgopknbcabKit
import Derived.Test.YtojljbgopknbcabWTop
import Derived.Test.YtojljbgopknbcabWBeg
import Derived.Test.YtojljbgopknbcabOpen
import Derived.Test.YtojljbgopknbcabRdG
import Derived.Test.YtojljbgopknbcabSame
import Derived.Test.YtojljbgopknbcabRound
import Derived.Test.YtojljbgopknbcabPBeg
import Derived.ProofKit
import Derived.BigQuiet
set_option linter.unusedVariables false
set_option linter.unusedSimpArgs false
namespace Go.Proofs.Ytojljbgopknbcab
open Go.ChangeShapes Go.WideShapes Go.ChangeAt Go.RowKit
attribute [local go_sem] bs_size bs_toList bs_append bs_get bs_extract

set_option maxRecDepth 20000 in
set_option maxHeartbeats 1000000 in
theorem topPacked_any (v : Value) (ls : List Ser) (w : World) (hv : readsSeries w w.heap.size v ls) (hbits : ∀ x ∈ ls, bitsFit x) (hfit : lensFit ls) :
    Calls Try.prog 8 #[v] w fun e w' => e = .returned (.bool true) ∧ Below w.heap.size w w' := by
  obtain ⟨ao, cp, hvv⟩ : ∃ ao cp, v = .slice ao ls.length cp := by obtain ⟨ao, cp, h, _⟩ := hv; exact ⟨ao, cp, h⟩
  have HV := hide hv
  have HF := hide hfit
  clear hv hfit
  subst hvv
  go_enter Try.func8, Try.ntmps8
  go_wp2_with fail
  refine (wireBegun_any w).mono ?_
  rintro e w0 ⟨rfl, hb0⟩
  go_wp2_with fail
  refine (pressBegun_any w0).mono ?_
  rintro e w1 ⟨rfl, hbp⟩
  have hb1 : Below w.heap.size w w1 := hb0.trans (hbp.mono hb0.size)
  have hs1 := hb1.size
  go_wp2_with fail
  refine (write_any w1 _ ls (readsSeries_mono (readsSeries_below HV.out hb1) hb1.size) hbits HF.out).mono ?_
  rintro e w2 ⟨rfl, hb2⟩
  have hb02 : Below w.heap.size w w2 := hb1.trans (hb2.mono hs1)
  by_cases h0 : writeErr ls = 0
  · have hc : countsB ls = true := by
      unfold writeErr at h0
      split at h0
      · assumption
      · simp at h0
    have hcc := (countsB_iff ls).2 hc
    have hT : writeTxt ls = seriesB ls := by simp [writeTxt, h0]
    have hR := hide (readErr_series ls h0 hbits)
    have hL : (seriesB ls).length ≤ 20000 := by
      have h := hR.out.2
      unfold readErr at h
      split at h
      · assumption
      · simp at h
    rw [h0, hT]
    have HC := hide hcc
    obtain ⟨s, HS0⟩ : ∃ s, Hid (seriesB ls = s) := ⟨_, hide rfl⟩
    rw [HS0.out] at hR hL ⊢
    clear h0 hT hc hcc
    go_wp2_with fail
    refine (pack_any w2 s (by omega)).mono ?_
    rintro e w3 ⟨hb3, (⟨_, E, hE, rfl⟩ | ⟨h, _⟩)⟩
    · have hb03 : Below w.heap.size w w3 := hb02.trans (hb3.mono hb02.size)
      have hl := packs_len hE hL
      have HU := hide (packs_unpack hE hL 20000 (by omega) (by omega))
      obtain ⟨t, HT⟩ : ∃ t, Hid (numB s.length ++ E = t) := ⟨_, hide rfl⟩
      rw [HT.out] at HU hl ⊢
      clear hE
      go_wp2_with fail
      refine (unpack_any w3 t 20000 (by omega) (by omega) (by omega)).mono ?_
      rintro e w4 ⟨rfl, hb4⟩
      have hb04 : Below w.heap.size w w4 := hb03.trans (hb4.mono hb03.size)
      rw [HU.out]
      go_wp2_with fail
      refine (read_any w4 s (by omega)).mono ?_
      rintro e w5 ⟨hb5, (⟨hz, x, v', hr, rfl, ho⟩ | ⟨hz, _⟩)⟩
      · have hx : x = ls := by
          have := hR.out.1
          rw [this] at hr
          exact (Option.some.inj hr).symm
        subst hx
        clear hr hz
        have hb05 : Below w.heap.size w w5 := hb04.trans (hb5.mono hb04.size)
        obtain ⟨ao', cp', rfl⟩ : ∃ ao cp, v' = .slice ao x.length cp := by obtain ⟨vs, _, hr, _⟩ := ho; exact own_shape hr
        have r1 := readsSeries_mono (readsSeries_below HV.out hb05) hb05.size
        have r2 := reads_ownSeries ho
        have HS := hide (sameSeries_yes w5 w5.heap.size _ _ x r1 r2 (by have := HC.out.1; omega) (fun y hy => by have := HC.out.2 y hy; exact ⟨by have := this.1; omega, by have := this.2.1; omega⟩))
        go_wp2_with fail
        refine HS.out.mono ?_
        clear HS
        rintro e w6 ⟨rfl, n, rfl⟩
        go_wp2
        go_ret
        exact ⟨by first | rfl | simp, hb05.trans ⟨rfl, rfl, rfl, Nat.le_refl _, fun _ _ => rfl⟩⟩
      · exact absurd hR.out.2 hz
    · omega
  · have hne : (writeErr ls != 0) = true := by simpa using h0
    have HT : writeTxt ls = [] := by simp [writeTxt, h0]
    rw [HT]
    have H0 := hide h0
    clear h0 HT
    go_wp2
    go_ret
    exact ⟨rfl, hb02⟩

theorem Try.own : ownKnob Try.prog.godebug = none := by kernel_rfl
theorem Try.laidOut : laidOutB Try.prog = true := by kernel_rfl

set_option maxRecDepth 100000 in
theorem topPacked_lifted (os : Os) (started : os.Started) (H : Type) (enc : TypeId × Value → H) :
    ReturnsInHanded {} Try.checked os 8 .any (Rows.topPackedSpec.pre6 enc Try.prog Try.f8 Rows.topPackedRow.domain false) (Rows.topPackedSpec.post enc Try.prog Try.f8 false true false false) := by
  refine returnsInHanded_of_change (C := Try.checked) Try.own started (by kernel_rfl) Try.func8
    (ChangeSpec.witness6 (enc := enc) (C := Try.checked) false ⟨#[], #[.slice none 0 0], []⟩ 8 (by kernel_rfl) (by kernel_rfl) (by kernel_rfl) (by kernel_rfl)) ?_
  intro W base args ds gs before hval0 hW hcnd _
  have hval : ∀ (j : Nat) t v, Try.f8.params[j]? = some t → args[j]? = some v → Value.okWide Try.prog W .any base t v := hval0
  have hW' := hW
  obtain ⟨p, q, hA0, hV, rfl, hfz, hnd⟩ := hW
  have hA : DataW.TrodAll enc Try.prog W 0 (fun _ => true) true Try.f8.params.toList args.toList ds p := hA0
  rw [Try.params8] at hA hval
  obtain ⟨v0, d0, rfl, rfl, h0⟩ := trodAll_one hA
  obtain ⟨rfl, rfl⟩ := trodVars_none hV
  have h0k := h0
  obtain ⟨a0, len, cap, rfl⟩ := okWide_slice Try.underlying26 (hval 0 26 v0 rfl rfl)
  obtain ⟨fuel, hf⟩ := h0
  obtain ⟨ls, hr, hl, hb⟩ := open_series hf
  clear hA0 hval0
  simp only [List.append_nil] at hW'
  have hlt : ∀ x ∈ p, x.block < W.heap.size := fun x hx => by simpa using hW'.lt x hx
  refine (topPacked_any _ ls W hr hb hl).mono fun e W' ⟨he, hnx⟩ => ?_
  subst he
  refine ⟨_, rfl, _, _, _, [], p, [], hW', ?_, ?_, rfl, hnx.frame _, fun h => by cases h⟩
  · exact trodAll_mk1 (shut_bool Try.underlying4 _)
  · exact trodAll_mk1 (Below.trod Try.laidOut (by kernel_rfl) (of_decide_eq_true (by kernel_rfl)) h0k hnx hlt)

theorem topPacked_holds : Rows.TopPackedSaid :=
  OpenClaim.holds_of_wide 8 Try.f8 rfl rfl rfl rfl rfl rfl rfl ⟨rfl, rfl, rfl, rfl, rfl⟩ rfl rfl rfl rfl rfl (by kernel_rfl) Try.func8 (by kernel_rfl)
    (of_decide_eq_true (by kernel_rfl)) (by unfold Func.isWrapper; first | (rw [if_pos (by decide +kernel)]; kernel_rfl) | (rw [if_neg (by decide +kernel)]; exact ⟨rfl, rfl⟩))
    (fun os started H enc _ => topPacked_lifted os started H enc)

end Go.Proofs.Ytojljbgopknbcab
