/- ShardWhich, for all labels and every number of shards: Which answers what the document says, errors too. No condition. -/
import Derived.Test.YtbnoplgfkfcadaaRows
import Derived.Test.YtbnoplgfkfcadaaKit
import Derived.Test.YtbnoplgfkfcadaaTrod
import Derived.Test.YtbnoplgfkfcadaaLTwi
import Derived.Test.YtbnoplgfkfcadaaLRefA
import Derived.Test.YtbnoplgfkfcadaaLSum
import Derived.Test.YtbnoplgfkfcadaaLSumR
import Derived.Test.YtbnoplgfkfcadaaShJ
import Derived.Test.YtbnoplgfkfcadaaShK
import Derived.ProofKit
import Derived.BigQuiet
import Derived.BigFrame
set_option linter.unusedVariables false
set_option linter.unusedSimpArgs false
namespace Go.Proofs.Ytbnoplgfkfcadaa
open Go.ChangeShapes Go.WideShapes Go.ChangeAt Go.RowKit
open Go.ChangeMaps (open_string shut_string)
attribute [local go_sem] bs_size bs_toList bs_append bs_get bs_extract

open Lb Sh
set_option maxRecDepth 20000 in
set_option maxHeartbeats 2000000 in
theorem shardWhich_any (w : World) (v : Value) (ls : List Lb.Lab) (hv : Lb.readsLabels w w.heap.size v ls) (hl : ls.length ≤ 9223372036854775807) (hi : Lb.lensOk ls) (k : Int) (hk0 : -9223372036854775808 ≤ k) (hk1 : k ≤ 9223372036854775807) :
    Calls Try.prog 4 #[v, .int .i64 k] w fun e w' => e = .returned (.bool true) ∧ Below w.heap.size w w' := by
  have HW := hide (which_any w v ls k hv hl hi)
  have HCL : Hid (∀ W, Grow w W → Calls Try.prog 13 #[v] W fun e w' => e = .returned (.int .i64 (checkB ls)) ∧ ∃ n, w' = W.drewN n) := hide fun W g => Lb.rCheckLabels_any W v ls (Lb.readsLabels_mono (Lb.readsLabels_below hv g) g.size) hl hi
  have HSO : Hid (checkB ls = 0 → ∀ W, Grow w W → Calls Try.prog 14 #[v] W fun e w' => e = .returned (.int .u64 (sumB ls : Nat)) ∧ Grow W w') := hide fun h0 W g => by
    have HL := Lb.eachErr_names (checkB_zero.1 h0).1
    exact Lb.rSumOf_any W v ls (Lb.readsLabels_mono (Lb.readsLabels_below hv g) g.size) HL.1 HL.2
  obtain ⟨vo, vc, hvv⟩ := Lb.readsLabels_len hv
  obtain ⟨E, HE⟩ : ∃ E, Hid (whichE ls k = E) := ⟨_, hide rfl⟩
  obtain ⟨N, HN⟩ : ∃ N, Hid (whichN ls k = N) := ⟨_, hide rfl⟩
  rw [HE.out, HN.out] at HW
  unfold whichE at HE
  unfold whichN at HN
  obtain ⟨ce, hce⟩ : ∃ ce, checkB ls = ce := ⟨_, rfl⟩
  obtain ⟨su, hsu⟩ : ∃ su, sumB ls = su := ⟨_, rfl⟩
  obtain ⟨ln, hln⟩ : ∃ ln, ls.length = ln := ⟨_, rfl⟩
  have hsl : su < 18446744073709551616 := by rw [← hsu]; exact sumGo_lt sum0_lt ls
  rw [hce] at HE HCL
  rw [hce, hsu] at HN HSO
  rw [hln] at hvv
  subst hvv
  clear hv hi hce hsu hln hl hk0 hk1
  by_cases h1 : k < 1
  · rw [if_neg (by omega)] at HE
    rw [if_neg (by omega)] at HN
    rw [← HE.out, ← HN.out] at HW
    go_enter Try.func4, Try.ntmps4
    go_wp2_with fail
    refine HW.out.mono ?_
    rintro e w1 ⟨rfl, hg1⟩
    have HG1 := hide hg1
    clear hg1
    go_wp2_with fail
    refine (shardBegun_any w1).mono ?_
    rintro e w2 ⟨rfl, hg2⟩
    go_wp2
    go_ret
    exact ⟨ret_bool (by simp), Grow.trans HG1.out hg2⟩
  · by_cases h2 : 8 < k
    · rw [if_neg (by omega)] at HE
      rw [if_neg (by omega)] at HN
      rw [← HE.out, ← HN.out] at HW
      go_enter Try.func4, Try.ntmps4
      go_wp2_with fail
      refine HW.out.mono ?_
      rintro e w1 ⟨rfl, hg1⟩
      have HG1 := hide hg1
      clear hg1
      go_wp2_with fail
      refine (shardBegun_any w1).mono ?_
      rintro e w2 ⟨rfl, hg2⟩
      go_wp2
      go_ret
      exact ⟨ret_bool (by simp), Grow.trans HG1.out hg2⟩
    · rw [if_pos (by omega)] at HE
      by_cases h0 : ce = 0
      · rw [if_pos ⟨by omega, h0⟩] at HN
        have hz : ((ce : Int) == 0) = true := by simp [h0]
        obtain ⟨m, rfl⟩ : ∃ m : Nat, k = (m : Int) := ⟨k.toNat, by omega⟩
        have HN2 : Hid (su % m = N) := hide (by rw [← HN.out]; simp)
        have hm1 : 1 ≤ m := by omega
        have hm8 : m ≤ 8 := by omega
        have hmw : IntKind.u64.wrap (m : Int) = m := by rw [IntKind.wrap_u64]; omega
        have hmm : (su : Int).tmod m = ((su % m : Nat) : Int) := by rw [Int.tmod_eq_emod_of_nonneg (by omega)]; simp
        have hlt := Nat.mod_lt su (show m > 0 by omega)
        have hw2 : IntKind.u64.wrap ((su % m : Nat) : Int) = ((su % m : Nat) : Int) := by rw [IntKind.wrap_u64]; omega
        have hw3 : IntKind.i64.wrap ((su % m : Nat) : Int) = ((su % m : Nat) : Int) := by rw [IntKind.wrap_i64]; omega
        have hne : ((m : Int) == 0) = false := by rw [beq_eq_false_iff_ne]; omega
        have HS := hide (HSO.out h0)
        rw [← HE.out, ← HN2.out] at HW
        clear h0 HN HSO HE HN2
        go_enter Try.func4, Try.ntmps4
        go_wp2_with fail
        refine HW.out.mono ?_
        rintro e w1 ⟨rfl, hg1⟩
        have HG1 : Hid (Grow w w1) := hide hg1
        clear hg1
        go_wp2_with fail
        refine (HCL.out w1 HG1.out).mono ?_
        rintro e w2 ⟨rfl, q, hw2'⟩
        have HG2 : Hid (Grow w w2) := hide (by rw [hw2']; exact HG1.out.trans (Sh.grow_drew _ _))
        clear hw2'
        go_wp2_with fail
        refine (HS.out w2 HG2.out).mono ?_
        rintro e w3 ⟨rfl, hg3⟩
        have HG3 : Hid (Grow w w3) := hide (HG2.out.trans hg3)
        clear hg3
        go_wp2_with fail
        refine (shardBegun_any w3).mono ?_
        rintro e w4 ⟨rfl, hg4⟩
        have HG4 : Hid (Grow w w4) := hide (HG3.out.trans hg4)
        clear hg4
        go_wp2
        go_ret
        exact ⟨ret_bool (by simp), HG4.out⟩
      · rw [if_neg (fun h => h0 h.2)] at HN
        have hz : ((ce : Int) == 0) = false := by rw [beq_eq_false_iff_ne]; omega
        rw [← HE.out, ← HN.out] at HW
        clear h0 HSO HE HN
        go_enter Try.func4, Try.ntmps4
        go_wp2_with fail
        refine HW.out.mono ?_
        rintro e w1 ⟨rfl, hg1⟩
        have HG1 : Hid (Grow w w1) := hide hg1
        clear hg1
        go_wp2_with fail
        refine (HCL.out w1 HG1.out).mono ?_
        rintro e w2 ⟨rfl, q, hw2'⟩
        have HG2 : Hid (Grow w w2) := hide (by rw [hw2']; exact HG1.out.trans (Sh.grow_drew _ _))
        clear hw2'
        go_wp2_with fail
        refine (shardBegun_any w2).mono ?_
        rintro e w4 ⟨rfl, hg4⟩
        have HG4 : Hid (Grow w w4) := hide (HG2.out.trans hg4)
        clear hg4
        go_wp2
        go_ret
        exact ⟨ret_bool (by simp), HG4.out⟩

theorem Try.own : ownKnob Try.prog.godebug = none := by kernel_rfl
theorem Try.laidOut : laidOutB Try.prog = true := by kernel_rfl

set_option maxRecDepth 100000 in
theorem shardWhich_lifted (os : Os) (started : os.Started) (H : Type) (enc : TypeId × Value → H) :
    ReturnsInHanded {} Try.checked os 4 .any (Rows.shardWhichSpec.pre6 enc Try.prog Try.f4 Rows.shardWhichRow.domain false) (Rows.shardWhichSpec.post enc Try.prog Try.f4 false true false false) := by
  refine returnsInHanded_of_change (C := Try.checked) Try.own started (by kernel_rfl) Try.func4
    (ChangeSpec.witness6 (enc := enc) (C := Try.checked) false ⟨#[], #[.slice none 0 0, .int .i64 0], []⟩ 8 (by kernel_rfl) (by kernel_rfl) (by kernel_rfl) (by kernel_rfl)) ?_
  intro W base args ds gs before hval0 hW hcnd _
  have hval : ∀ (j : Nat) t v, Try.f4.params[j]? = some t → args[j]? = some v → Value.okWide Try.prog W .any base t v := hval0
  have hW' := hW
  obtain ⟨p, q, hA0, hV, rfl, hfz, hnd⟩ := hW
  have hA : DataW.TrodAll enc Try.prog W 0 (fun _ => true) true Try.f4.params.toList args.toList ds p := hA0
  rw [Try.params4] at hA hval
  obtain ⟨v0, v1, d0, d1, p0, p1, rfl, rfl, rfl, h0, h1⟩ := trodAll_two hA
  obtain ⟨rfl, rfl⟩ := trodVars_none hV
  have hk0 := h0
  obtain ⟨a0, len0, cap0, rfl⟩ := okWide_slice Try.underlying29 (hval 0 29 v0 rfl rfl)
  obtain ⟨fuel0, hf0⟩ := h0
  obtain ⟨ls0, hr0, hl0, hi0⟩ := open_labels hf0
  obtain ⟨n1, rfl, rfl, rfl, wn1⟩ := open_int Try.underlying3 (hval 1 3 v1 rfl rfl) h1
  have hbd1 : -9223372036854775808 ≤ n1 ∧ n1 ≤ 9223372036854775807 := by simpa [Lit.wf, IntKind.min, IntKind.max, IntKind.signed, IntKind.bits] using wn1
  clear hA0 hval0
  simp only [List.append_nil, List.nil_append] at hW'
  have hlt := fun x hx => hW'.lt x hx
  have hc := shardWhich_any W _ ls0 hr0 hl0 hi0 n1 hbd1.1 hbd1.2
  refine hc.mono fun e W' ⟨he, hnx⟩ => ?_
  subst he
  refine ⟨_, rfl, _, _, _, [], (p0), [], hW', ?_, ?_, rfl, hnx.frame _, fun h => by cases h⟩
  · exact trodAll_mk1 (shut_bool Try.underlying4 _)
  · exact trodAll_eq (trodAll_mk2 (Below.trod Try.laidOut (by kernel_rfl) (of_decide_eq_true (by kernel_rfl)) hk0 hnx (fun x hx => hlt x (by simp [hx]))) (shut_int Try.underlying3 wn1)) (by simp)

theorem shardWhich_holds : Rows.ShardWhichSaid :=
  OpenClaim.holds_of_wide 4 Try.f4 rfl rfl rfl rfl rfl rfl rfl ⟨rfl, rfl, rfl, rfl, rfl⟩ rfl rfl rfl rfl rfl (by kernel_rfl) Try.func4 (by kernel_rfl)
    (of_decide_eq_true (by kernel_rfl)) (by unfold Func.isWrapper; first | (rw [if_pos (by decide +kernel)]; kernel_rfl) | (rw [if_neg (by decide +kernel)]; exact ⟨rfl, rfl⟩))
    (fun os started H enc _ => shardWhich_lifted os started H enc)

end Go.Proofs.Ytbnoplgfkfcadaa
