/- MaskStar, for all numbers and every text: a mask of one byte, repeated, is like all texts of that byte; any byte repeated is like any text. No condition. -/
import Derived.Test.YtpfifboeoleocaaRows
import Derived.Test.YtpfifboeoleocaaKit
import Derived.Test.YtpfifboeoleocaaTrod
import Derived.Test.YtpfifboeoleocaaMWlk
import Derived.Test.YtpfifboeoleocaaMFrom
import Derived.Test.YtpfifboeoleocaaMMat
import Derived.Test.YtpfifboeoleocaaMLik
import Derived.Test.YtpfifboeoleocaaMCho
import Derived.Test.YtpfifboeoleocaaMBeg
import Derived.ProofKit
import Derived.BigQuiet
import Derived.BigFrame
set_option linter.unusedVariables false
set_option linter.unusedSimpArgs false
namespace Go.Proofs.Ytpfifboeoleocaa
open Go.ChangeShapes Go.WideShapes Go.ChangeAt Go.RowKit
open Go.ChangeMaps (open_string shut_string)
attribute [local go_sem] bs_size bs_toList bs_append bs_get bs_extract

set_option maxRecDepth 20000 in
set_option maxHeartbeats 4000000 in
theorem maskStar_any (w : World) (b : Int) (hb0 : -9223372036854775808 ≤ b) (hb1 : b ≤ 9223372036854775807) (many : Int) (hm0 : -9223372036854775808 ≤ many) (hm1 : many ≤ 9223372036854775807) (t : List UInt8) (ht : t.length ≤ maxLen) :
    Calls Try.prog 8 #[.int .i64 b, .int .i64 many, .string (bs t)] w fun e w' => e = .returned (.bool true) ∧ Below w.heap.size w w' := by
  obtain ⟨n, hn, hN⟩ := choose_is many 50 w hm0 hm1 (by omega) (by omega)
  obtain ⟨k, hk, hK⟩ := choose_is b 26 w hb0 hb1 (by omega) (by omega)
  have HN := hide hN
  have HK := hide hK
  have HSI := hide (star_is k hk)
  have HPI := hide (plus_is k hk)
  clear hN hK
  unfold maxLen at ht
  obtain ⟨c, HC⟩ : ∃ c, Hid (letter k = c) := ⟨_, hide rfl⟩
  have hcn : c.toNat = 97 + k := by rw [← HC.out]; simp [letter]; omega
  rw [HC.out] at HSI HPI
  go_enter Try.func8, Try.ntmps8
  go_wp2_with fail
  refine (maskBegun_any w).mono ?_
  rintro e w1 ⟨rfl, hg1⟩
  have HG1 := hide hg1
  clear hg1
  go_wp2_with fail
  refine (HK.out w1).mono ?_
  rintro e w2 ⟨rfl, rfl⟩
  rename World => w1
  have hcv := run_oneByte (P := Try.prog) w1 Try.underlying49 Try.underlying5 Try.underlying9 5 (97 + (k : Int)) c (by omega)
  have hgA : Grow w (w1.alloc (.cells #[.int .u8 (97 + (k : Int))] 5)) := HG1.out.alloc _
  have HGA := hide hgA
  clear hgA
  go_wp2_with (fail)
  generalize w1.alloc (.cells #[.int .u8 (97 + (k : Int))] 5) = w2 at HGA hcv ⊢
  clear hcv HG1
  go_loopw [8, 9] (fun sv iv wr => ∃ q : Nat, q ≤ n ∧ iv = .int .i64 q ∧ sv = .string (bs (List.replicate q c)) ∧ wr = w2) (fun _ iv _ => n - (intOf iv).toNat)
  case atStart => exact ⟨0, by omega, rfl, rfl, rfl⟩
  case round =>
    obtain ⟨q, hq, rfl, rfl, rfl⟩ := hrel
    rename World => w2
    go_wp2_with fail
    refine (HN.out w2).mono ?_
    rintro e w3 ⟨rfl, rfl⟩
    rename World => w2
    by_cases hlt : q < n
    · have hlt2 : (q : Int) < (n : Int) := by omega
      have hdec : decide ((q : Int) < (n : Int)) = true := by simpa using hlt2
      have ha : ∀ W : World, (Op.stringOp .add (bs (List.replicate q c)) (bs [c])).run Try.prog W = .ok (.string (bs (List.replicate (q + 1) c))) W := fun W => by
        rw [run_string_add_sum W _ _ (by rw [bs_size, bs_size]; simp; omega), bs_append, List.replicate_succ']
      go_wp2
      refine ⟨⟨q + 1, by omega, by go_num, rfl, trivial⟩, ?_⟩
      simp [intOf]; omega
    · obtain rfl : q = n := by omega
      have hlt2 : ¬ (q : Int) < (q : Int) := by omega
      have hdec : decide ((q : Int) < (q : Int)) = false := by simp
      have ha1 : ∀ W : World, (Op.stringOp .add (bs [c]) { data := #[42] }).run Try.prog W = .ok (.string (bs [c, 42])) W := fun W => by
        rw [run_string_add_sum W _ _ (by rw [bs_size]; show 1 + 1 ≤ _; omega), show ({ data := #[42] } : ByteArray) = bs [42] from rfl, bs_append]; rfl
      have ha2 : ∀ W : World, (Op.stringOp .add (bs [c]) { data := #[43] }).run Try.prog W = .ok (.string (bs [c, 43])) W := fun W => by
        rw [run_string_add_sum W _ _ (by rw [bs_size]; show 1 + 1 ≤ _; omega), show ({ data := #[43] } : ByteArray) = bs [43] from rfl, bs_append]; rfl
      have hrl : (List.replicate q c).length ≤ 2000 := by simp; omega
      have HX : Hid (likeB (starT (between c c) 42) (List.replicate q c) = true) := star_like fun i h => hits_replicate h
      have HY : Hid (likeB (starT (between c c) 43) (List.replicate q c) = !decide (List.replicate q c = [])) := plus_like fun i h => hits_replicate h
      have HZ : Hid (likeB (starT (fun _ => true) 42) t = true) := star_like fun i h => hits_true h
      go_wp2_with fail
      refine (match_short w2 [c, 42] (List.replicate q c) HSI.out hrl).mono ?_
      rintro e w3 ⟨hg3, v3, rfl⟩
      rw [HX.out]
      go_wp2_with fail
      refine (match_short w3 [c, 43] (List.replicate q c) HPI.out hrl).mono ?_
      rintro e w4 ⟨hg4, v4, rfl⟩
      rw [HY.out]
      have HG4 : Hid (Grow w w4) := hide ((HGA.out.trans hg3).trans hg4)
      clear hg3 hg4 HGA
      by_cases hlong : 2000 < t.length
      · have hl2 : (2000 : Int) < (t.length : Int) := by omega
        go_wp2_with fail
        refine (match_long w4 [46, 42] t any_is hlong (by omega)).mono ?_
        rintro e w5 ⟨hg5, rfl⟩
        have HG5 : Hid (Grow w w5) := hide (HG4.out.trans hg5)
        clear hg5 hlong
        go_wp2
        go_ret
        exact ⟨rfl, HG5.out⟩
      · have hl2 : ¬ (2000 : Int) < (t.length : Int) := by omega
        go_wp2_with fail
        refine (match_short w4 [46, 42] t any_is (by omega)).mono ?_
        rintro e w5 ⟨hg5, v5, rfl⟩
        rw [HZ.out]
        have HG5 : Hid (Grow w w5) := hide (HG4.out.trans hg5)
        clear hg5 hlong
        go_wp2
        go_ret
        exact ⟨rfl, HG5.out⟩

theorem Try.own : ownKnob Try.prog.godebug = none := by kernel_rfl
theorem Try.laidOut : laidOutB Try.prog = true := by kernel_rfl

set_option maxRecDepth 100000 in
theorem maskStar_lifted (os : Os) (started : os.Started) (H : Type) (enc : TypeId × Value → H) :
    ReturnsInHanded {} Try.checked os 8 .any (Rows.maskStarSpec.pre6 enc Try.prog Try.f8 Rows.maskStarRow.domain false) (Rows.maskStarSpec.post enc Try.prog Try.f8 false true false false) := by
  refine returnsInHanded_of_change (C := Try.checked) Try.own started (by kernel_rfl) Try.func8
    (ChangeSpec.witness6 (enc := enc) (C := Try.checked) false ⟨#[], #[.int .i64 0, .int .i64 0, .string ByteArray.empty], []⟩ 8 (by kernel_rfl) (by kernel_rfl) (by kernel_rfl) (by kernel_rfl)) ?_
  intro W base args ds gs before hval0 hW hcnd _
  have hval : ∀ (j : Nat) t v, Try.f8.params[j]? = some t → args[j]? = some v → Value.okWide Try.prog W .any base t v := hval0
  have hW' := hW
  obtain ⟨p, q, hA0, hV, rfl, hfz, hnd⟩ := hW
  have hA : DataW.TrodAll enc Try.prog W 0 (fun _ => true) true Try.f8.params.toList args.toList ds p := hA0
  rw [Try.params8] at hA hval
  obtain ⟨v0, v1, v2, d0, d1, d2, p0, p1, p2, rfl, rfl, rfl, h0, h1, h2⟩ := trodAll_three hA
  obtain ⟨rfl, rfl⟩ := trodVars_none hV
  obtain ⟨n0, rfl, rfl, rfl, wn0⟩ := open_int Try.underlying3 (hval 0 3 v0 rfl rfl) h0
  have hbd0 : -9223372036854775808 ≤ n0 ∧ n0 ≤ 9223372036854775807 := by simpa [Lit.wf, IntKind.min, IntKind.max, IntKind.signed, IntKind.bits] using wn0
  obtain ⟨n1, rfl, rfl, rfl, wn1⟩ := open_int Try.underlying3 (hval 1 3 v1 rfl rfl) h1
  have hbd1 : -9223372036854775808 ≤ n1 ∧ n1 ≤ 9223372036854775807 := by simpa [Lit.wf, IntKind.min, IntKind.max, IntKind.signed, IntKind.bits] using wn1
  obtain ⟨s2, rfl, rfl, rfl, hs2⟩ := open_string Try.underlying9 (hval 2 9 v2 rfl rfl) h2
  clear hA0 hval0
  simp only [List.append_nil, List.nil_append] at hW'
  have hlt := fun x hx => hW'.lt x hx
  have hc := maskStar_any W n0 hbd0.1 hbd0.2 n1 hbd1.1 hbd1.2 s2.data.toList (by rw [Array.length_toList]; exact hs2)
  rw [← bs_surj] at hc
  refine hc.mono fun e W' ⟨he, hnx⟩ => ?_
  subst he
  refine ⟨_, rfl, _, _, _, [], ([]), [], hW', ?_, ?_, rfl, hnx.frame _, fun h => by cases h⟩
  · exact trodAll_mk1 (shut_bool Try.underlying4 _)
  · exact trodAll_eq (trodAll_mk3 (shut_int Try.underlying3 wn0) (shut_int Try.underlying3 wn1) (shut_string Try.underlying9 hs2)) (by simp)

theorem maskStar_holds : Rows.MaskStarSaid :=
  OpenClaim.holds_of_wide 8 Try.f8 rfl rfl rfl rfl rfl rfl rfl ⟨rfl, rfl, rfl, rfl, rfl⟩ rfl rfl rfl rfl rfl (by kernel_rfl) Try.func8 (by kernel_rfl)
    (of_decide_eq_true (by kernel_rfl)) (by unfold Func.isWrapper; first | (rw [if_pos (by decide +kernel)]; kernel_rfl) | (rw [if_neg (by decide +kernel)]; exact ⟨rfl, rfl⟩))
    (fun os started H enc _ => maskStar_lifted os started H enc)

end Go.Proofs.Ytpfifboeoleocaa
