/- WireWrites, for every list of series: Write answers the text, or the error, that the document tells. No condition. -/
import Derived.Test.YtojljbgopknbcaaRows
import Derived.Test.YtojljbgopknbcaaKit
import Derived.Test.YtojljbgopknbcaaWTop
import Derived.Test.YtojljbgopknbcaaWBeg
import Derived.Test.YtojljbgopknbcaaRTop
import Derived.Test.YtojljbgopknbcaaOpen
import Derived.ProofKit
set_option linter.unusedVariables false
set_option linter.unusedSimpArgs false
namespace Go.Proofs.Ytojljbgopknbcaa
open Go.ChangeShapes Go.WideShapes Go.ChangeAt Go.RowKit
attribute [local go_sem] bs_size bs_toList bs_append bs_get bs_extract

set_option maxRecDepth 20000 in
set_option maxHeartbeats 1000000 in
theorem textIs_any (s t : List UInt8) (e f : Int) (w : World) :
    Calls Try.prog 16 #[.string (bs s), .int .i64 e, .int .i64 f, .string (bs t)] w fun x w' => x = .returned (.bool (decide (e = f ∧ s = if f = 0 then t else []))) ∧ w' = w := by
  go_enter Try.func16, Try.ntmps16
  by_cases hf : f = 0
  · subst hf
    by_cases he : e = 0
    · subst he
      go_wp2
      go_ret
      exact ⟨ret_bool (by rw [Bool.eq_iff_iff]; simp), rfl⟩
    · have he' : (e == 0) = false := by simpa using he
      have HE := hide he
      clear he
      go_wp2
      go_ret
      exact ⟨ret_bool (by simp [HE.out]), rfl⟩
  · have hf' : (f != 0) = true := by simpa using hf
    have HF := hide hf
    clear hf
    by_cases he : e = f
    · have he' : (e == f) = true := by simpa using he
      have HE := hide he
      clear he
      go_wp2
      go_ret
      exact ⟨ret_bool (by rw [Bool.eq_iff_iff]; simp [HE.out, HF.out]), rfl⟩
    · have he' : (e == f) = false := by simpa using he
      have HE := hide he
      clear he
      go_wp2
      go_ret
      exact ⟨ret_bool (by simp [HE.out]), rfl⟩

theorem textIs_yes {s t : List UInt8} {e f : Int} (w : World) (h1 : e = f) (h2 : s = if f = 0 then t else []) :
    Calls Try.prog 16 #[.string (bs s), .int .i64 e, .int .i64 f, .string (bs t)] w fun x w' => x = .returned (.bool true) ∧ w' = w :=
  (textIs_any s t e f w).mono fun x w' ⟨hx, hw⟩ => ⟨by rw [hx, decide_eq_true ⟨h1, h2⟩], hw⟩

set_option maxRecDepth 20000 in
set_option maxHeartbeats 1000000 in
theorem wireWrites_any (v : Value) (ls : List Ser) (w : World) (hv : readsSeries w w.heap.size v ls) (hbits : ∀ x ∈ ls, bitsFit x) (hfit : lensFit ls) :
    Calls Try.prog 5 #[v] w fun e w' => e = .returned (.bool true) ∧ Below w.heap.size w w' := by
  obtain ⟨ao, cp, hvv⟩ : ∃ ao cp, v = .slice ao ls.length cp := by obtain ⟨ao, cp, h, _⟩ := hv; exact ⟨ao, cp, h⟩
  have HV := hide hv
  have HF := hide hfit
  clear hv hfit
  subst hvv
  go_enter Try.func5, Try.ntmps5
  go_wp2_with fail
  refine (write_any w _ ls HV.out hbits HF.out).mono ?_
  rintro e w1 ⟨rfl, hb1⟩
  go_wp2_with fail
  refine (writeOf_any w1 _ ls (readsSeries_mono (readsSeries_below HV.out hb1) hb1.size) hbits HF.out).mono ?_
  rintro e w2 ⟨rfl, hb2⟩
  go_wp2_with fail
  refine (wireBegun_any w2).mono ?_
  rintro e w3 ⟨rfl, hb3⟩
  go_wp2_with fail
  refine (textIs_yes w3 rfl (by by_cases h : writeErr ls = 0 <;> simp [writeTxt, h])).mono ?_
  rintro e w4 ⟨rfl, rfl⟩
  go_wp2
  go_ret
  exact ⟨rfl, (hb1.trans (hb2.mono hb1.size)).trans (hb3.mono (by have := hb1.size; have := hb2.size; omega))⟩

theorem Try.own : ownKnob Try.prog.godebug = none := by kernel_rfl
theorem Try.laidOut : laidOutB Try.prog = true := by kernel_rfl

set_option maxRecDepth 100000 in
theorem wireWrites_lifted (os : Os) (started : os.Started) (H : Type) (enc : TypeId × Value → H) :
    ReturnsInHanded {} Try.checked os 5 .any (Rows.wireWritesSpec.pre6 enc Try.prog Try.f5 Rows.wireWritesRow.domain false) (Rows.wireWritesSpec.post enc Try.prog Try.f5 false true false false) := by
  refine returnsInHanded_of_change (C := Try.checked) Try.own started (by kernel_rfl) Try.func5
    (ChangeSpec.witness6 (enc := enc) (C := Try.checked) false ⟨#[], #[.slice none 0 0], []⟩ 8 (by kernel_rfl) (by kernel_rfl) (by kernel_rfl) (by kernel_rfl)) ?_
  intro W base args ds gs before hval0 hW hcnd _
  have hval : ∀ (j : Nat) t v, Try.f5.params[j]? = some t → args[j]? = some v → Value.okWide Try.prog W .any base t v := hval0
  have hW' := hW
  obtain ⟨p, q, hA0, hV, rfl, hfz, hnd⟩ := hW
  have hA : DataW.TrodAll enc Try.prog W 0 (fun _ => true) true Try.f5.params.toList args.toList ds p := hA0
  rw [Try.params5] at hA hval
  obtain ⟨v0, d0, rfl, rfl, h0⟩ := trodAll_one hA
  obtain ⟨rfl, rfl⟩ := trodVars_none hV
  have h0k := h0
  obtain ⟨a0, len, cap, rfl⟩ := okWide_slice Try.underlying30 (hval 0 30 v0 rfl rfl)
  obtain ⟨fuel, hf⟩ := h0
  obtain ⟨ls, hr, hl, hb⟩ := open_series hf
  clear hA0 hval0
  simp only [List.append_nil] at hW'
  have hlt : ∀ x ∈ p, x.block < W.heap.size := fun x hx => by simpa using hW'.lt x hx
  refine (wireWrites_any _ ls W hr hb hl).mono fun e W' ⟨he, hnx⟩ => ?_
  subst he
  refine ⟨_, rfl, _, _, _, [], p, [], hW', ?_, ?_, rfl, hnx.frame _, fun h => by cases h⟩
  · exact trodAll_mk1 (shut_bool Try.underlying4 _)
  · exact trodAll_mk1 (Below.trod Try.laidOut (by kernel_rfl) (of_decide_eq_true (by kernel_rfl)) h0k hnx hlt)

theorem wireWrites_holds : Rows.WireWritesSaid :=
  OpenClaim.holds_of_wide 5 Try.f5 rfl rfl rfl rfl rfl rfl rfl ⟨rfl, rfl, rfl, rfl, rfl⟩ rfl rfl rfl rfl rfl (by kernel_rfl) Try.func5 (by kernel_rfl)
    (of_decide_eq_true (by kernel_rfl)) (by unfold Func.isWrapper; first | (rw [if_pos (by decide +kernel)]; kernel_rfl) | (rw [if_neg (by decide +kernel)]; exact ⟨rfl, rfl⟩))
    (fun os started H enc _ => wireWrites_lifted os started H enc)

end Go.Proofs.Ytojljbgopknbcaa
