/- WirePasses, for every text, every number and every text of a field: a field with another number, ahead of a text or behind it, changes nothing. No condition. -/
import Derived.Test.YtojljbgopknbcabRows
import Derived.Test.YtojljbgopknbcabKit
import Derived.Test.YtojljbgopknbcabWTop
import Derived.Test.YtojljbgopknbcabWBeg
import Derived.Test.YtojljbgopknbcabRdG
import Derived.Test.YtojljbgopknbcabSame
import Derived.Test.YtojljbgopknbcabRPass
import Derived.ProofKit
import Derived.BigQuiet
set_option linter.unusedVariables false
set_option linter.unusedSimpArgs false
namespace Go.Proofs.Ytojljbgopknbcab
open Go.ChangeShapes Go.WideShapes Go.ChangeAt Go.RowKit
open Go.ChangeMaps (open_string shut_string)
attribute [local go_sem] bs_size bs_toList bs_append bs_get bs_extract

set_option maxRecDepth 20000 in
set_option maxHeartbeats 1000000 in
theorem choose_any (c : Int) (w : World) (h0 : -9223372036854775808 ≤ c) (h1 : c ≤ 9223372036854775807) :
    Calls Try.prog 11 #[.int .i64 c, .int .i64 1000] w fun e w' => (∃ k : Nat, k < 1000 ∧ e = .returned (.int .i64 k)) ∧ w' = w := by
  go_enter Try.func11, Try.ntmps11
  by_cases hc : c < 0
  · have e1 : IntKind.i64.wrap (c + 1) = c + 1 := wrap_i64_small _ (by omega) (by omega)
    have e2 : IntKind.i64.wrap (-(c + 1)) = -(c + 1) := wrap_i64_small _ (by omega) (by omega)
    have e3 : (c + 1).tmod 1000 = -((-(c + 1)) % 1000) := by
      have := Int.neg_tmod (-(c + 1)) 1000
      rw [Int.neg_neg] at this
      rw [this, Int.tmod_eq_emod_of_nonneg (by omega)]
    have E3 := hide e3
    clear e3
    go_wp2
    go_ret
    exact ⟨⟨((-(c + 1)) % 1000).toNat, by omega, ret_int (by rw [E3.out]; omega)⟩, rfl⟩
  · go_wp2
    go_ret
    exact ⟨⟨(c % 1000).toNat, by omega, ret_int (by omega)⟩, rfl⟩

set_option maxRecDepth 20000 in
set_option maxHeartbeats 4000000 in
theorem wirePasses_any (s b : List UInt8) (c : Int) (w : World) (hs : s.length ≤ 140737488355328) (hb : b.length ≤ 140737488355328) (h0 : -9223372036854775808 ≤ c) (h1 : c ≤ 9223372036854775807) :
    Calls Try.prog 3 #[.string (bs s), .int .i64 c, .string (bs b)] w fun e w' => e = .returned (.bool true) ∧ Below w.heap.size w w' := by
  go_enter Try.func3, Try.ntmps3
  go_wp2_with fail
  refine (wireBegun_any w).mono ?_
  rintro e w1 ⟨rfl, hb1⟩
  go_wp2_with fail
  refine (choose_any c w1 h0 h1).mono ?_
  rintro e w2 ⟨⟨k, hk, rfl⟩, rfl⟩
  go_wp2_with fail
  obtain ⟨h, hh⟩ : ∃ h : Nat, h = 8 * (2 + k) + 2 := ⟨_, rfl⟩
  have eh : (8 * (2 + (k : Int)) + 2) = (h : Int) := by omega
  rw [eh]
  have HB : Hid (h % 8 = 2 ∧ 18 ≤ h ∧ h / 8 ≤ 536870911 ∧ h < 100000) := ⟨by omega, by omega, by omega, by omega⟩
  clear eh hh hk
  have n1 := numB_length h
  have n2 := numB_length b.length
  refine (number_any h w2 (by have := HB.out; omega)).mono ?_
  rintro e w3 ⟨rfl, hb3⟩
  go_wp2_with fail
  refine (number_any b.length w3 (by omega)).mono ?_
  rintro e w4 ⟨rfl, hb4⟩
  have g4 : Grow w w4 := Grow.trans (Grow.trans hb1 hb3) hb4
  go_wp2_with fail
  generalize hF : numB h ++ (numB b.length ++ b) = F
  have HF : Hid (F = fieldB h b) := hF.symm
  have hFl : F.length ≤ b.length + 20 := by rw [← hF]; simp; omega
  clear n1 n2 hF
  have hbl : b.length < 18446744073709551616 := by omega
  have hbig := hide hbl
  clear hbl
  refine (read_any w4 s (by omega)).mono ?_
  rintro e w5 ⟨hb5, hr1⟩
  have g5 : Grow w w5 := g4.trans hb5
  rcases hr1 with ⟨hs0, l, vl, hl, rfl, ol⟩ | ⟨hs0, rfl⟩
  · obtain ⟨aol, cpl, rfl⟩ : ∃ ao cp, vl = .slice ao l.length cp := by obtain ⟨vs, _, hr, _⟩ := ol; exact own_shape hr
    have HC := hide ((countsB_iff l).2 (readErr_none hs0 hl).1)
    have S0 := hide hs0
    have HL := hide hl
    clear hs0 hl
    go_wp2_with fail
    refine (read_any w5 (F ++ s) (by simp; omega)).mono ?_
    rintro e w6 ⟨hb6, hr2⟩
    have g6 : Grow w w6 := g5.trans hb6
    by_cases hlen : s.length + F.length ≤ 20000
    · have k1 : allRead (F ++ s) = some l := by rw [HF.out, allRead_ahead h b s HB.out.1 HB.out.2.1 HB.out.2.2.1 hbig.out]; exact HL.out
      have k2 : allRead (s ++ F) = some l := by rw [HF.out]; exact allRead_behind h b s l HB.out.1 HB.out.2.1 HB.out.2.2.1 hbig.out HL.out
      have z1 : readErr (F ++ s) = 0 := readErr_fine S0.out HL.out k1 (by simp; omega)
      have z2 : readErr (s ++ F) = 0 := readErr_fine S0.out HL.out k2 (by simp; omega)
      rcases hr2 with ⟨_, x, vx, hx, rfl, ox⟩ | ⟨hne, _⟩
      · rw [k1] at hx
        obtain rfl := Option.some.inj hx
        have Z2 := hide z2
        have K2 := hide k2
        clear hx k1 k2 z1 z2
        obtain ⟨aox, cpx, rfl⟩ : ∃ ao cp, vx = .slice ao l.length cp := by obtain ⟨vs, _, hr, _⟩ := ox; exact own_shape hr
        go_wp2_with fail
        refine (read_any w6 (s ++ F) (by simp; omega)).mono ?_
        rintro e w7 ⟨hb7, hr3⟩
        have g7 : Grow w w7 := g6.trans hb7
        rcases hr3 with ⟨_, y, vy, hy, rfl, oy⟩ | ⟨hne, _⟩
        · rw [K2.out] at hy
          obtain rfl := Option.some.inj hy
          clear hy
          obtain ⟨aoy, cpy, rfl⟩ : ∃ ao cp, vy = .slice ao l.length cp := by obtain ⟨vs, _, hr, _⟩ := oy; exact own_shape hr
          have r1 := hide (reads_ownSeries (ownSeries_grow (ownSeries_grow ol hb6) hb7))
          have r2 := hide (reads_ownSeries (ownSeries_grow ox hb7))
          have r3 := hide (reads_ownSeries oy)
          have q1 : l.length ≤ 1000000 := by have := HC.out.1; omega
          have q2 : ∀ y ∈ l, y.1.length ≤ 1000000 ∧ y.2.length ≤ 1000000 := fun y hy => by have := HC.out.2 y hy; exact ⟨by have := this.1; omega, by have := this.2.1; omega⟩
          have Q := hide (And.intro q1 q2)
          clear ol ox oy q1 q2
          go_wp2_with fail
          refine (sameSeries_yes w7 w7.heap.size _ _ l r1.out r2.out Q.out.1 Q.out.2).mono ?_
          rintro e w8 ⟨rfl, n, rfl⟩
          have bn : Below w7.heap.size w7 (w7.drewN n) := ⟨rfl, rfl, rfl, Nat.le_refl _, fun _ _ => rfl⟩
          go_wp2_with fail
          refine (sameSeries_yes (w7.drewN n) w7.heap.size _ _ l (readsSeries_below r1.out bn) (readsSeries_below r3.out bn) Q.out.1 Q.out.2).mono ?_
          rintro e w9 ⟨rfl, n2, rfl⟩
          go_wp2
          go_ret
          exact ⟨rfl, g7.trans ⟨rfl, rfl, rfl, Nat.le_refl _, fun _ _ => rfl⟩⟩
        · exact absurd Z2.out hne
      · exact absurd z1 hne
    · have z1 : readErr (F ++ s) = 2 := readErr_long (by simp; omega)
      have z2 : readErr (s ++ F) = 2 := readErr_long (by simp; omega)
      rcases hr2 with ⟨hz, _⟩ | ⟨_, rfl⟩
      · rw [z1] at hz; exact absurd hz (by decide)
      · rw [z1]
        have Z2 := hide z2
        clear z1 z2
        go_wp2_with fail
        refine (read_any w6 (s ++ F) (by simp; omega)).mono ?_
        rintro e w7 ⟨hb7, hr3⟩
        have g7 : Grow w w7 := g6.trans hb7
        rcases hr3 with ⟨hz, _⟩ | ⟨_, rfl⟩
        · rw [Z2.out] at hz; exact absurd hz (by decide)
        · rw [Z2.out]
          clear Z2
          go_wp2
          go_ret
          exact ⟨rfl, g7⟩
  · have z1 : readErr (F ++ s) ≠ 0 := by rw [HF.out]; exact readErr_ahead h b s HB.out.1 HB.out.2.1 HB.out.2.2.1 hbig.out hs0
    have hne : (readErr s != 0) = true := by simpa using hs0
    have hne2 : (readErr (F ++ s) != 0) = true := by simpa using z1
    have Z1 := hide z1
    have S0 := hide hs0
    clear z1 hs0
    go_wp2_with fail
    refine (read_any w5 (F ++ s) (by simp; omega)).mono ?_
    rintro e w6 ⟨hb6, hr2⟩
    have g6 : Grow w w6 := g5.trans hb6
    rcases hr2 with ⟨hz, _⟩ | ⟨_, rfl⟩
    · exact absurd hz Z1.out
    · go_wp2_with fail
      refine (read_any w6 (s ++ F) (by simp; omega)).mono ?_
      rintro e w7 ⟨hb7, hr3⟩
      have g7 : Grow w w7 := g6.trans hb7
      rcases hr3 with ⟨_, y, vy, _, rfl, oy⟩ | ⟨_, rfl⟩
      · go_wp2
        go_ret
        exact ⟨rfl, g7⟩
      · go_wp2
        go_ret
        exact ⟨rfl, g7⟩

theorem Try.own : ownKnob Try.prog.godebug = none := by kernel_rfl
theorem Try.laidOut : laidOutB Try.prog = true := by kernel_rfl

set_option maxRecDepth 100000 in
theorem wirePasses_lifted (os : Os) (started : os.Started) (H : Type) (enc : TypeId × Value → H) :
    ReturnsInHanded {} Try.checked os 3 .any (Rows.wirePassesSpec.pre6 enc Try.prog Try.f3 Rows.wirePassesRow.domain false) (Rows.wirePassesSpec.post enc Try.prog Try.f3 false true false false) := by
  refine returnsInHanded_of_change_sized (C := Try.checked) Try.own started (by kernel_rfl) Try.func3
    (ChangeSpec.witness6 (enc := enc) (C := Try.checked) false ⟨#[], #[.string ByteArray.empty, .int .i64 0, .string ByteArray.empty], []⟩ 8 (by kernel_rfl) (by kernel_rfl) (by kernel_rfl) (by kernel_rfl)) ?_
  intro W base args ds gs before hval0 hW hcnd hsz0 _
  have hval : ∀ (j : Nat) t v, Try.f3.params[j]? = some t → args[j]? = some v → Value.okWide Try.prog W .any base t v := hval0
  have hsz : (DataW.weightsEach Try.prog (Try.f3.params.toList ++ Rows.wirePassesSpec.plain.varTypes Try.prog) (ds ++ gs)).all (· ≤ reachBytes) = true := hsz0
  have hW' := hW
  obtain ⟨p, q, hA0, hV, rfl, hfz, hnd⟩ := hW
  have hA : DataW.TrodAll enc Try.prog W 0 (fun _ => true) true Try.f3.params.toList args.toList ds p := hA0
  rw [Try.params3] at hA hval hsz
  obtain ⟨v0, v1, v2, d0, d1, d2, p0, p1, p2, rfl, rfl, rfl, h0, h1, h2⟩ := trodAll_three hA
  obtain ⟨rfl, rfl⟩ := trodVars_none hV
  obtain ⟨s, rfl, rfl, rfl, hs⟩ := open_string Try.underlying9 (hval 0 9 v0 rfl rfl) h0
  obtain ⟨n, rfl, rfl, rfl, wn⟩ := open_int Try.underlying3 (hval 1 3 v1 rfl rfl) h1
  obtain ⟨t, rfl, rfl, rfl, ht⟩ := open_string Try.underlying9 (hval 2 9 v2 rfl rfl) h2
  clear hA0 hval0
  simp only [List.append_nil] at hW'
  have hreach : s.data.toList.length ≤ reachBytes := sized_string hsz (j := 0) (t := 9) rfl rfl
  have hreach2 : t.data.toList.length ≤ reachBytes := sized_string hsz (j := 2) (t := 9) rfl rfl
  have hbd : -9223372036854775808 ≤ n ∧ n ≤ 9223372036854775807 := by simpa [Lit.wf, IntKind.min, IntKind.max, IntKind.signed, IntKind.bits] using wn
  have hc := wirePasses_any s.data.toList t.data.toList n W (by have := reachBytes_lt; omega) (by have := reachBytes_lt; omega) hbd.1 hbd.2
  rw [← bs_surj, ← bs_surj] at hc
  refine hc.mono fun e W' ⟨he, hnx⟩ => ?_
  subst he
  refine ⟨_, rfl, _, _, _, [], [], [], hW', ?_, ?_, rfl, hnx.frame _, fun h => by cases h⟩
  · exact trodAll_mk1 (shut_bool Try.underlying4 _)
  · exact trodAll_mk3 (shut_string Try.underlying9 hs) (shut_int Try.underlying3 wn) (shut_string Try.underlying9 ht)

theorem wirePasses_holds : Rows.WirePassesSaid :=
  OpenClaim.holds_of_wide 3 Try.f3 rfl rfl rfl rfl rfl rfl rfl ⟨rfl, rfl, rfl, rfl, rfl⟩ rfl rfl rfl rfl rfl (by kernel_rfl) Try.func3 (by kernel_rfl)
    (of_decide_eq_true (by kernel_rfl)) (by unfold Func.isWrapper; first | (rw [if_pos (by decide +kernel)]; kernel_rfl) | (rw [if_neg (by decide +kernel)]; exact ⟨rfl, rfl⟩))
    (fun os started H enc _ => wirePasses_lifted os started H enc)

end Go.Proofs.Ytojljbgopknbcab
