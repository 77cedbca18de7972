/- MaskOr, for every two masks and every text: with a bar between two masks that are right, who is like one of them is like that, and nothing else is. No condition. -/
import Derived.Test.YtpfifboeoleocaaRows
import Derived.Test.YtpfifboeoleocaaKit
import Derived.Test.YtpfifboeoleocaaTrod
import Derived.Test.YtpfifboeoleocaaMWlk
import Derived.Test.YtpfifboeoleocaaMFrom
import Derived.Test.YtpfifboeoleocaaMMat
import Derived.Test.YtpfifboeoleocaaMLik
import Derived.Test.YtpfifboeoleocaaMCau
import Derived.Test.YtpfifboeoleocaaMBeg
import Derived.ProofKit
import Derived.BigQuiet
import Derived.BigFrame
set_option linter.unusedVariables false
set_option linter.unusedSimpArgs false
namespace Go.Proofs.Ytpfifboeoleocaa
open Go.ChangeShapes Go.WideShapes Go.ChangeAt Go.RowKit
open Go.ChangeMaps (open_string shut_string)
attribute [local go_sem] bs_size bs_toList bs_append bs_get bs_extract

/-- What Match tells of a text, in short. -/
theorem match_short_or (w : World) (m t : List UInt8) (hml : m.length ≤ 9223372036854775807) (htl : t.length ≤ 9223372036854775807) :
    Calls Try.prog 12 #[.string (bs m), .string (bs t)] w fun e w' => Grow w w' ∧ ∃ (b : Bool) (v : Value) (n : Nat), e = .returned (.tuple #[.bool b, v, .int .i64 n]) ∧
      ((n = 0 ∧ ∃ T g, maskIs m = .ok (T, g) ∧ t.length ≤ 2000 ∧ b = likeB T t) ∨ (n = 2 ∧ ∃ T g, maskIs m = .ok (T, g) ∧ 2000 < t.length) ∨ (n ≠ 0 ∧ ∃ x, maskIs m = .error x ∧ n = x.1)) := by
  cases h : maskIs m with
  | error x =>
    refine (match_wrong w m t h hml htl).mono ?_
    rintro e w' ⟨hg, rfl⟩
    have := maskIs_pos (e := x.1) (a := x.2) h
    exact ⟨hg, _, _, x.1, rfl, .inr (.inr ⟨by omega, x, rfl, rfl⟩)⟩
  | ok x =>
    obtain ⟨T, g⟩ := x
    by_cases hl : 2000 < t.length
    · refine (match_long w m t h hl htl).mono ?_
      rintro e w' ⟨hg, rfl⟩
      exact ⟨hg, _, _, 2, rfl, .inr (.inl ⟨rfl, T, g, rfl, hl⟩)⟩
    · refine (match_short w m t h (by omega)).mono ?_
      rintro e w' ⟨hg, v, rfl⟩
      exact ⟨hg, _, v, 0, rfl, .inl ⟨rfl, T, g, rfl, by omega, rfl⟩⟩

set_option maxRecDepth 20000 in
set_option maxHeartbeats 4000000 in
theorem maskOr_any (w : World) (a : List UInt8) (ha : a.length ≤ 140737488355328) (b : List UInt8) (hb : b.length ≤ 140737488355328) (t : List UInt8) (ht : t.length ≤ 140737488355328) :
    Calls Try.prog 7 #[.string (bs a), .string (bs b), .string (bs t)] w fun e w' => e = .returned (.bool true) ∧ Below w.heap.size w w' := by
  have h1 : ∀ W : World, (Op.stringOp .add (bs a) { data := #[124] }).run Try.prog W = .ok (.string (bs (a ++ [124]))) W := fun W => by
    rw [run_string_add_sum W _ _ (by rw [bs_size]; show a.length + 1 ≤ _; omega), show ({ data := #[124] } : ByteArray) = bs [124] from rfl, bs_append]
  have h2 : ∀ W : World, (Op.stringOp .add (bs (a ++ [124])) (bs b)).run Try.prog W = .ok (.string (bs (a ++ 124 :: b))) W := fun W => by
    rw [run_string_add_sum W _ _ (by rw [bs_size, bs_size, List.length_append]; show a.length + 1 + b.length ≤ _; omega), bs_append, show (a ++ [124] : List UInt8) ++ b = a ++ 124 :: b by simp]
  have hml : (a ++ 124 :: b).length ≤ 9223372036854775807 := by rw [List.length_append, List.length_cons]; omega
  have HOR : Hid (∀ Ta ga Tb gb, maskIs a = .ok (Ta, ga) → maskIs b = .ok (Tb, gb) → (∃ x, maskIs (a ++ 124 :: b) = .error (2, x)) ∨ ∃ T g, maskIs (a ++ 124 :: b) = .ok (T, g) ∧ ∀ t, likeB T t = (likeB Ta t || likeB Tb t)) := hide fun _ _ _ _ ha hb => or_like ha hb
  have HM := hide hml
  clear hml
  go_enter Try.func7, Try.ntmps7
  go_wp2_with fail
  refine (maskBegun_any w).mono ?_
  rintro e w1 ⟨rfl, hg1⟩
  have HG1 := hide hg1
  clear hg1
  go_wp2_with fail
  refine (match_short_or w1 a t (by omega) (by omega)).mono ?_
  rintro e w2 ⟨hg2, ba, va, na, rfl, ca⟩
  have HG2 : Hid (Grow w w2) := hide (HG1.out.trans hg2)
  have CA := hide ca
  clear hg2 ca
  go_wp2_with fail
  refine (match_short_or w2 b t (by omega) (by omega)).mono ?_
  rintro e w3 ⟨hg3, bb, vb, nb, rfl, cb⟩
  have HG3 : Hid (Grow w w3) := hide (HG2.out.trans hg3)
  have CB := hide cb
  clear hg3 cb
  go_wp2_with fail
  refine (match_short_or w3 (a ++ 124 :: b) t HM.out (by omega)).mono ?_
  rintro e w4 ⟨hg4, bm, vm, nm, rfl, cm⟩
  have HG4 : Hid (Grow w w4) := hide (HG3.out.trans hg4)
  have CM := hide cm
  clear hg4 cm
  by_cases hna : na = 0
  · by_cases hnb : nb = 0
    · have hna2 : ((na : Int) != 0) = false := by simp [hna]
      have hnb2 : ((nb : Int) != 0) = false := by simp [hnb]
      have hres : nm = 2 ∨ (nm = 0 ∧ bm = (ba || bb)) := by
        rcases CA.out with ⟨_, Ta, ga, hTa, htl, rfl⟩ | ⟨h, _⟩ | ⟨h, _⟩
        · rcases CB.out with ⟨_, Tb, gb, hTb, _, rfl⟩ | ⟨h, _⟩ | ⟨h, _⟩
          · rcases HOR.out Ta ga Tb gb hTa hTb with ⟨x, hx⟩ | ⟨T, g, hT, hl⟩
            · rcases CM.out with ⟨_, T, g, h, _⟩ | ⟨h, _⟩ | ⟨_, x', h, h2⟩
              · rw [hx] at h; cases h
              · exact .inl h
              · rw [hx] at h; cases h; exact .inl h2
            · rcases CM.out with ⟨h0, T', g', h, _, hb⟩ | ⟨h, _⟩ | ⟨_, x', h, h2⟩
              · rw [hT] at h; cases h; exact .inr ⟨h0, by rw [hb, hl t]⟩
              · exact .inl h
              · rw [hT] at h; cases h
          · omega
          · exact absurd hnb h
        · omega
        · exact absurd hna h
      clear CA CB CM HOR hna hnb
      rcases hres with rfl | ⟨rfl, rfl⟩
      · go_wp2
        go_ret
        exact ⟨rfl, HG4.out⟩
      · cases ba <;> cases bb
        all_goals
          go_wp2
          go_ret
          exact ⟨rfl, HG4.out⟩
    · have hna2 : ((na : Int) != 0) = false := by simp [hna]
      have hnb2 : ((nb : Int) != 0) = true := by simp; omega
      clear CA CB CM HOR hna hnb
      go_wp2
      go_ret
      exact ⟨rfl, HG4.out⟩
  · have hna2 : ((na : Int) != 0) = true := by simp; omega
    clear CA CB CM HOR hna
    go_wp2
    go_ret
    exact ⟨rfl, HG4.out⟩


theorem Try.own : ownKnob Try.prog.godebug = none := by kernel_rfl
theorem Try.laidOut : laidOutB Try.prog = true := by kernel_rfl

set_option maxRecDepth 100000 in
theorem maskOr_lifted (os : Os) (started : os.Started) (H : Type) (enc : TypeId × Value → H) :
    ReturnsInHanded {} Try.checked os 7 .any (Rows.maskOrSpec.pre6 enc Try.prog Try.f7 Rows.maskOrRow.domain false) (Rows.maskOrSpec.post enc Try.prog Try.f7 false true false false) := by
  refine returnsInHanded_of_change_sized (C := Try.checked) Try.own started (by kernel_rfl) Try.func7
    (ChangeSpec.witness6 (enc := enc) (C := Try.checked) false ⟨#[], #[.string ByteArray.empty, .string ByteArray.empty, .string ByteArray.empty], []⟩ 8 (by kernel_rfl) (by kernel_rfl) (by kernel_rfl) (by kernel_rfl)) ?_
  intro W base args ds gs before hval0 hW hcnd hsz0 _
  have hval : ∀ (j : Nat) t v, Try.f7.params[j]? = some t → args[j]? = some v → Value.okWide Try.prog W .any base t v := hval0
  have hsz : (DataW.weightsEach Try.prog (Try.f7.params.toList ++ Rows.maskOrSpec.plain.varTypes Try.prog) (ds ++ gs)).all (· ≤ reachBytes) = true := hsz0
  have hW' := hW
  obtain ⟨p, q, hA0, hV, rfl, hfz, hnd⟩ := hW
  have hA : DataW.TrodAll enc Try.prog W 0 (fun _ => true) true Try.f7.params.toList args.toList ds p := hA0
  rw [Try.params7] at hA hval hsz
  obtain ⟨v0, v1, v2, d0, d1, d2, p0, p1, p2, rfl, rfl, rfl, h0, h1, h2⟩ := trodAll_three hA
  obtain ⟨rfl, rfl⟩ := trodVars_none hV
  obtain ⟨s0, rfl, rfl, rfl, hs0⟩ := open_string Try.underlying9 (hval 0 9 v0 rfl rfl) h0
  have hreach0 : s0.data.toList.length ≤ reachBytes := sized_string hsz (j := 0) (t := 9) rfl rfl
  obtain ⟨s1, rfl, rfl, rfl, hs1⟩ := open_string Try.underlying9 (hval 1 9 v1 rfl rfl) h1
  have hreach1 : s1.data.toList.length ≤ reachBytes := sized_string hsz (j := 1) (t := 9) rfl rfl
  obtain ⟨s2, rfl, rfl, rfl, hs2⟩ := open_string Try.underlying9 (hval 2 9 v2 rfl rfl) h2
  have hreach2 : s2.data.toList.length ≤ reachBytes := sized_string hsz (j := 2) (t := 9) rfl rfl
  clear hA0 hval0
  simp only [List.append_nil, List.nil_append] at hW'
  have hlt := fun x hx => hW'.lt x hx
  have hc := maskOr_any W s0.data.toList (by have := reachBytes_lt; omega) s1.data.toList (by have := reachBytes_lt; omega) s2.data.toList (by have := reachBytes_lt; omega)
  rw [← bs_surj, ← bs_surj, ← bs_surj] at hc
  refine hc.mono fun e W' ⟨he, hnx⟩ => ?_
  subst he
  refine ⟨_, rfl, _, _, _, [], ([]), [], hW', ?_, ?_, rfl, hnx.frame _, fun h => by cases h⟩
  · exact trodAll_mk1 (shut_bool Try.underlying4 _)
  · exact trodAll_eq (trodAll_mk3 (shut_string Try.underlying9 hs0) (shut_string Try.underlying9 hs1) (shut_string Try.underlying9 hs2)) (by simp)

theorem maskOr_holds : Rows.MaskOrSaid :=
  OpenClaim.holds_of_wide 7 Try.f7 rfl rfl rfl rfl rfl rfl rfl ⟨rfl, rfl, rfl, rfl, rfl⟩ rfl rfl rfl rfl rfl (by kernel_rfl) Try.func7 (by kernel_rfl)
    (of_decide_eq_true (by kernel_rfl)) (by unfold Func.isWrapper; first | (rw [if_pos (by decide +kernel)]; kernel_rfl) | (rw [if_neg (by decide +kernel)]; exact ⟨rfl, rfl⟩))
    (fun os started H enc _ => maskOr_lifted os started H enc)

end Go.Proofs.Ytpfifboeoleocaa
