/- MaskMatches, for every two texts: Match answers what the document's own walk along the mask's graph finds, what the groups took, and the same error. No condition. -/
import Derived.Test.YtaijakomgkageaaRows
import Derived.Test.YtaijakomgkageaaKit
import Derived.Test.YtaijakomgkageaaTrod
import Derived.Test.YtaijakomgkageaaMWlk
import Derived.Test.YtaijakomgkageaaMFrom
import Derived.Test.YtaijakomgkageaaMGrp
import Derived.Test.YtaijakomgkageaaMMat
import Derived.Test.YtaijakomgkageaaMExq
import Derived.Test.YtaijakomgkageaaMRdL
import Derived.Test.YtaijakomgkageaaMFit
import Derived.Test.YtaijakomgkageaaMBeg
import Derived.ProofKit
import Derived.BigQuiet
import Derived.BigFrame
set_option linter.unusedVariables false
set_option linter.unusedSimpArgs false
namespace Go.Proofs.Ytaijakomgkageaa
open Go.ChangeShapes Go.WideShapes Go.ChangeAt Go.RowKit
open Go.ChangeMaps (open_string shut_string)
attribute [local go_sem] bs_size bs_toList bs_append bs_get bs_extract

theorem reads_nil (w : World) : readsStrs w w.heap.size (.slice none 0 0) [] := ⟨none, 0, rfl, fun i hi => by simp at hi⟩
set_option maxRecDepth 20000 in
set_option maxHeartbeats 8000000 in
theorem maskMatches_any (w : World) (m : List UInt8) (hml : m.length ≤ 9223372036854775807) (t : List UInt8) (htl : t.length ≤ 9223372036854775807) :
    Calls Try.prog 4 #[.string (bs m), .string (bs t)] w fun e w' => e = .returned (.bool true) ∧ Below w.heap.size w w' := by
  have HMA := hide (match_any w m t hml htl)
  have HMO := hide fun W => maskOf_any W m hml
  unfold matchAns at HMA
  unfold maskPost at HMO
  cases hx : maskIs m with
  | error x =>
    obtain ⟨er, at'⟩ := x
    have hpos := maskIs_pos hx
    have hne : ((er : Int) == 0) = false := by simp; omega
    have hne2 : ((er : Int) != 0) = true := by simp; omega
    rw [hx] at HMA HMO
    simp only at HMA HMO
    clear hx
    go_enter Try.func4, Try.ntmps4
    go_wp2_with fail
    refine HMA.out.mono ?_
    rintro e w1 ⟨hg1, rfl⟩
    have HG1 : Hid (Grow w w1) := hide hg1
    clear hg1
    go_wp2_with fail
    refine (HMO.out w1).mono ?_
    rintro e w2 ⟨hg2, rfl⟩
    have HG2 : Hid (Grow w w2) := hide (HG1.out.trans hg2)
    clear hg2
    go_wp2_with fail
    refine (maskBegun_any _).mono ?_
    rintro e w3 ⟨rfl, hg3⟩
    have HG3 : Hid (Grow w w3) := hide ((HG2.out.alloc _).trans hg3)
    clear hg3
    go_wp2_with fail
    refine (maskBegun_any w3).mono ?_
    rintro e w4 ⟨rfl, hg4⟩
    have HG4 : Hid (Grow w w4) := hide (HG3.out.trans hg4)
    clear hg4
    go_wp2
    go_ret
    exact ⟨ret_bool (by simp), HG4.out⟩
  | ok x =>
    obtain ⟨T, g⟩ := x
    obtain ⟨hwf, hgd, hg9, hwi, hsz, hm60⟩ := maskIs_ok hx
    rw [hx] at HMA HMO
    simp only at HMA HMO
    clear hx
    by_cases hlong : 2000 < t.length
    · have hli : (2000 : Int) < (t.length : Int) := by omega
      have HMA2 : Hid (Calls Try.prog 12 #[.string (bs m), .string (bs t)] w fun e w' => Grow w w' ∧ e = .returned (.tuple #[.bool false, .slice none 0 0, .int .i64 2])) := hide (HMA.out.mono fun e w' ⟨h1, h2⟩ => ⟨h1, by unfold matchOk at h2; rwa [if_pos hlong] at h2⟩)
      clear HMA hlong
      go_enter Try.func4, Try.ntmps4
      go_wp2_with fail
      refine HMA2.out.mono ?_
      rintro e w1 ⟨hg1, rfl⟩
      have HG1 : Hid (Grow w w1) := hide hg1
      clear hg1
      go_wp2_with fail
      refine (HMO.out w1).mono ?_
      rintro e w2 ⟨hg2, v2, k2, ys2, rfl, ho2, _⟩
      obtain ⟨o2, c2, rfl⟩ := own_shape ho2
      have HG2 : Hid (Grow w w2) := hide (HG1.out.trans hg2)
      clear hg2 ho2
      go_wp2_with fail
      refine (maskBegun_any _).mono ?_
      rintro e w3 ⟨rfl, hg3⟩
      have HG3 : Hid (Grow w w3) := hide ((HG2.out.alloc _).trans hg3)
      clear hg3
      go_wp2_with fail
      refine (maskBegun_any w3).mono ?_
      rintro e w4 ⟨rfl, hg4⟩
      have HG4 : Hid (Grow w w4) := hide (HG3.out.trans hg4)
      clear hg4
      go_wp2
      go_ret
      exact ⟨ret_bool (by simp), HG4.out⟩
    · have hli : ¬ (2000 : Int) < (t.length : Int) := by omega
      have HFIT : Hid (∀ (W : World) (v : Value) (k : Nat) (ys : List Value), W.ownsRow 0 86 1 v k ys → cellsAt W (fun _ => True) T ys → _) := hide fun W v k ys h1 h2 => fitOf_any W T v k ys g t h1 h2 hwf hgd hwi hsz hg9 (by omega)
      obtain ⟨x, HX⟩ : ∃ x, Hid (wayOf T t = x) := ⟨_, hide rfl⟩
      rw [HX.out] at HMA HFIT
      cases x with
      | none =>
        simp only at HFIT
        have HMA2 : Hid (Calls Try.prog 12 #[.string (bs m), .string (bs t)] w fun e w' => Grow w w' ∧ e = .returned (.tuple #[.bool false, .slice none 0 0, .int .i64 0])) := hide (HMA.out.mono fun e w' ⟨h1, h2⟩ => ⟨h1, by unfold matchOk at h2; rwa [if_neg hlong] at h2⟩)
        clear HMA hlong hwf hgd hwi
        go_enter Try.func4, Try.ntmps4
        go_wp2_with fail
        refine HMA2.out.mono ?_
        rintro e w1 ⟨hg1, rfl⟩
        have HG1 : Hid (Grow w w1) := hide hg1
        clear hg1
        go_wp2_with fail
        refine (HMO.out w1).mono ?_
        rintro e w2 ⟨hg2, v2, k2, ys2, rfl, ho2, hc2⟩
        obtain ⟨o2, c2, rfl⟩ := own_shape ho2
        have HG2 : Hid (Grow w w2) := hide (HG1.out.trans hg2)
        have HO2 := hide ho2
        have HC2 := hide hc2.any
        clear hg2 ho2 hc2
        go_wp2_with fail
        refine (maskBegun_any _).mono ?_
        rintro e w3 ⟨rfl, hg3⟩
        have HG23 : Hid (Grow w2 w3) := hide (((Grow.refl _).alloc _).trans hg3)
        have HG3 : Hid (Grow w w3) := hide (HG2.out.trans HG23.out)
        clear hg3
        go_wp2_with fail
        refine (HFIT.out w3 (.slice o2 k2 c2) k2 ys2 (own_le (own_grow HO2.out HG23.out) (by omega)) (HC2.out.grow HG23.out)).mono ?_
        rintro e w4 ⟨hg4, rfl⟩
        have HG4 : Hid (Grow w w4) := hide (HG3.out.trans hg4)
        clear hg4
        go_wp2_with fail
        refine (sameTexts_any w4 _ _ [] [] (reads_nil w4) (reads_nil w4) (by decide) (by decide)).mono ?_
        rintro e w5 ⟨rfl, n, rfl⟩
        have HG5 : Hid (Grow w (w4.drewN n)) := hide (HG4.out.trans (grow_drewN _ n))
        rw [show decide (([] : List (List UInt8)) = []) = true by decide]
        go_wp2
        go_ret
        exact ⟨ret_bool (by simp), HG5.out⟩
      | some l =>
        simp only at HFIT
        have HMA2 : Hid (Calls Try.prog 12 #[.string (bs m), .string (bs t)] w fun e w' => Grow w w' ∧ ∃ v, e = .returned (.tuple #[.bool true, v, .int .i64 0]) ∧ ownStrs w' w.heap.size v (tookL t l g)) := hide (HMA.out.mono fun e w' ⟨h1, h2⟩ => ⟨h1, by unfold matchOk at h2; rwa [if_neg hlong] at h2⟩)
        have htk : (tookL t l g).length = g := by simp [tookL]
        obtain ⟨L, hL⟩ : ∃ L, tookL t l g = L := ⟨_, rfl⟩
        have hLl : L.length ≤ 9 := by rw [← hL, htk]; exact hg9
        have hLs : ∀ s ∈ L, True := fun _ _ => trivial
        rw [hL] at HMA2 HFIT
        clear HMA hlong hwf hgd hwi htk hL hLs
        go_enter Try.func4, Try.ntmps4
        go_wp2_with fail
        refine HMA2.out.mono ?_
        rintro e w1 ⟨hg1, v1, rfl, ho1⟩
        have HR1 := hide (readsStrs_own ho1)
        obtain ⟨o1, c1, rfl⟩ := own_shape ho1
        have HG1 : Hid (Grow w w1) := hide hg1
        clear hg1 ho1
        go_wp2_with fail
        refine (HMO.out w1).mono ?_
        rintro e w2 ⟨hg2, v2, k2, ys2, rfl, ho2, hc2⟩
        obtain ⟨o2, c2, rfl⟩ := own_shape ho2
        have HG12 : Hid (Grow w1 w2) := hide hg2
        have HG2 : Hid (Grow w w2) := hide (HG1.out.trans hg2)
        have HO2 := hide ho2
        have HC2 := hide hc2.any
        clear hg2 ho2 hc2
        go_wp2_with fail
        refine (maskBegun_any _).mono ?_
        rintro e w3 ⟨rfl, hg3⟩
        have HG23 : Hid (Grow w2 w3) := hide (((Grow.refl _).alloc _).trans hg3)
        have HG3 : Hid (Grow w w3) := hide (HG2.out.trans HG23.out)
        clear hg3
        go_wp2_with fail
        refine (HFIT.out w3 (.slice o2 k2 c2) k2 ys2 (own_le (own_grow HO2.out HG23.out) (by omega)) (HC2.out.grow HG23.out)).mono ?_
        rintro e w4 ⟨hg4, v4, rfl, ho4⟩
        have HR4 := hide (readsStrs_own ho4)
        obtain ⟨o4, c4, rfl⟩ := own_shape ho4
        have HG4 : Hid (Grow w w4) := hide (HG3.out.trans hg4)
        have HG14 : Hid (Grow w1 w4) := hide ((HG12.out.trans HG23.out).trans hg4)
        clear hg4 ho4
        go_wp2_with fail
        refine (sameTexts_any w4 _ _ L L ((HR1.out.keep HG14.out).more HG14.out.size) HR4.out (by omega) (by omega)).mono ?_
        rintro e w5 ⟨rfl, n, rfl⟩
        have HG5 : Hid (Grow w (w4.drewN n)) := hide (HG4.out.trans (grow_drewN _ n))
        rw [show decide (L = L) = true by simp]
        go_wp2
        go_ret
        exact ⟨ret_bool (by simp), HG5.out⟩


theorem Try.own : ownKnob Try.prog.godebug = none := by kernel_rfl
theorem Try.laidOut : laidOutB Try.prog = true := by kernel_rfl

set_option maxRecDepth 100000 in
theorem maskMatches_lifted (os : Os) (started : os.Started) (H : Type) (enc : TypeId × Value → H) :
    ReturnsInHanded {} Try.checked os 4 .any (Rows.maskMatchesSpec.pre6 enc Try.prog Try.f4 Rows.maskMatchesRow.domain false) (Rows.maskMatchesSpec.post enc Try.prog Try.f4 false true false false) := by
  refine returnsInHanded_of_change (C := Try.checked) Try.own started (by kernel_rfl) Try.func4
    (ChangeSpec.witness6 (enc := enc) (C := Try.checked) false ⟨#[], #[.string ByteArray.empty, .string ByteArray.empty], []⟩ 8 (by kernel_rfl) (by kernel_rfl) (by kernel_rfl) (by kernel_rfl)) ?_
  intro W base args ds gs before hval0 hW hcnd _
  have hval : ∀ (j : Nat) t v, Try.f4.params[j]? = some t → args[j]? = some v → Value.okWide Try.prog W .any base t v := hval0
  have hW' := hW
  obtain ⟨p, q, hA0, hV, rfl, hfz, hnd⟩ := hW
  have hA : DataW.TrodAll enc Try.prog W 0 (fun _ => true) true Try.f4.params.toList args.toList ds p := hA0
  rw [Try.params4] at hA hval
  obtain ⟨v0, v1, d0, d1, p0, p1, rfl, rfl, rfl, h0, h1⟩ := trodAll_two hA
  obtain ⟨rfl, rfl⟩ := trodVars_none hV
  obtain ⟨s0, rfl, rfl, rfl, hs0⟩ := open_string Try.underlying9 (hval 0 9 v0 rfl rfl) h0
  obtain ⟨s1, rfl, rfl, rfl, hs1⟩ := open_string Try.underlying9 (hval 1 9 v1 rfl rfl) h1
  clear hA0 hval0
  simp only [List.append_nil, List.nil_append] at hW'
  have hlt := fun x hx => hW'.lt x hx
  have hc := maskMatches_any W s0.data.toList (by rw [Array.length_toList]; exact hs0) s1.data.toList (by rw [Array.length_toList]; exact hs1)
  rw [← bs_surj, ← bs_surj] at hc
  refine hc.mono fun e W' ⟨he, hnx⟩ => ?_
  subst he
  refine ⟨_, rfl, _, _, _, [], ([]), [], hW', ?_, ?_, rfl, hnx.frame _, fun h => by cases h⟩
  · exact trodAll_mk1 (shut_bool Try.underlying4 _)
  · exact trodAll_eq (trodAll_mk2 (shut_string Try.underlying9 hs0) (shut_string Try.underlying9 hs1)) (by simp)

theorem maskMatches_holds : Rows.MaskMatchesSaid :=
  OpenClaim.holds_of_wide 4 Try.f4 rfl rfl rfl rfl rfl rfl rfl ⟨rfl, rfl, rfl, rfl, rfl⟩ rfl rfl rfl rfl rfl (by kernel_rfl) Try.func4 (by kernel_rfl)
    (of_decide_eq_true (by kernel_rfl)) (by unfold Func.isWrapper; first | (rw [if_pos (by decide +kernel)]; kernel_rfl) | (rw [if_neg (by decide +kernel)]; exact ⟨rfl, rfl⟩))
    (fun os started H enc _ => maskMatches_lifted os started H enc)

end Go.Proofs.Ytaijakomgkageaa
