/- The reference's line: made, Tells. -/
import Derived.Laws.OwnMore
import Derived.Test.YtdlmgkncneifaaaGreatProg
import Derived.Test.YtdlmgkncneifaaaGreatKit
import Derived.Test.YtdlmgkncneifaaaGreatReg
import Derived.Test.YtdlmgkncneifaaaGreatLSpec
import Derived.Test.YtdlmgkncneifaaaGreatLRow
import Derived.Test.YtdlmgkncneifaaaGreatLMak
import Derived.Test.YtdlmgkncneifaaaGreatLRefA
import Derived.Test.YtdlmgkncneifaaaGreatLRefC
import Derived.Test.YtdlmgkncneifaaaGreatLnA
import Derived.Test.YtdlmgkncneifaaaGreatLnB
import Derived.Test.YtdlmgkncneifaaaGreatRnA
import Derived.Test.YtdlmgkncneifaaaGreatRnB
import Derived.Test.YtdlmgkncneifaaaGreatRnC
import Derived.BigQuiet
set_option linter.unusedVariables false
set_option linter.unusedSimpArgs false
namespace Go.Proofs.YtdlmgkncneifaaaGreat.Rn
open Go.RowKit Lb Ln
attribute [local go_sem] bs_size bs_toList bs_append bs_get bs_extract

theorem growR_drew (w : World) (n : Nat) : Grow w (w.drewN n) := ⟨rfl, rfl, rfl, Nat.le_refl _, fun _ _ => rfl⟩
set_option maxRecDepth 20000 in
set_option maxHeartbeats 1200000 in
theorem rmade_any (w : World) (b k g : Nat) (s : List UInt8) (v : Value) (ls : List Lab) (hv : readsLabels w w.heap.size v ls) (hlen : ls.length ≤ 9223372036854775807) (hin : lensOk ls) (h : RL w b s k g 0 0) :
    Calls Tryz.prog 28 #[.pointer (some ⟨b, 0, none⟩), v] w fun e w' => ∃ v', e = .returned v' ∧ KI b w w' ∧ if makeErr ls = 0 then ownLabels w' w.heap.size v' (makeL ls) ∧ RL w' b s k g 0 0 else v' = .slice none 0 0 ∧ RL w' b s k g (makeErr ls) (g : Int) := by
  have HH := hide h
  have HV := hide hv
  have S1 := hide (rEachLabel_any w v ls true hv hlen hin)
  rw [if_pos rfl, show eachTwice 0 ls = makeErr ls from rfl] at S1
  obtain ⟨d0, d1, d2, d3, d4, y1, y3, y4⟩ := five_cells h.cell
  by_cases h0 : makeErr ls = 0
  · simp only [h0, if_true] at S1 ⊢
    have hl : ls.length ≤ 50 := by
      by_cases he : eachErr 0 ls = 0
      · have := (eachErr_zero.1 he).1
        omega
      · exact absurd (makeErr_each he ▸ h0) he
    have S2 := hide fun n => rMakeLabels_any (w.drewN n) v ls (readsLabels_mono (readsLabels_below HV.out (growR_drew w n)) (growR_drew w n).size) hl
    clear h hv hin h0
    go_enter Tryz.func28, Tryz.ntmps28
    go_wp2_with fail
    refine S1.out.mono ?_
    rintro e w1 ⟨rfl, n, rfl⟩
    go_wp2_with fail
    refine (S2.out n).mono ?_
    rintro e w2 ⟨v2, rfl, hown, hb⟩
    have HW := hide hown
    have HG := hide hb
    clear hown hb S1 S2
    go_wp2
    go_ret
    exact ⟨_, rfl, ((KI.refl _ _).drewN n).trans (KI.grow HG.out), HW.out, (HH.out.drewN n).grow HG.out⟩
  · simp only [h0, if_false] at ⊢
    obtain ⟨M, hM⟩ : ∃ M, makeErr ls = M := ⟨_, rfl⟩
    rw [hM] at h0 S1 ⊢
    have hne : ((M : Int) != 0) = true := by simp; exact h0
    have S2 := hide fun n => rwrong_any (w.drewN n) b k g s 0 (HH.out.drewN n) (M : Int) 0 (by omega) (by omega)
    clear h hv hin hM
    go_enter Tryz.func28, Tryz.ntmps28
    go_wp2_with fail
    refine S1.out.mono ?_
    rintro e w1 ⟨rfl, n, rfl⟩
    go_wp2_with fail
    refine (S2.out n).mono ?_
    rintro e w2 ⟨rfl, hk2, hr2⟩
    have HK := hide hk2
    have HR := hide hr2
    clear hk2 hr2 S1 S2
    go_wp2
    go_ret
    exact ⟨_, rfl, ((KI.refl _ _).drewN n).trans HK.out, rfl, by simpa using HR.out⟩
set_option maxRecDepth 20000 in
set_option maxHeartbeats 1200000 in
theorem rmade_no (w : World) (b k g : Nat) (s : List UInt8) (v : Value) (e a : Int) (he : e ≠ 0) (h : RL w b s k g e a) :
    Calls Tryz.prog 28 #[.pointer (some ⟨b, 0, none⟩), v] w fun o w' => o = .returned (.slice none 0 0) ∧ w' = w := by
  obtain ⟨d0, d1, d2, d3, d4, y1, y3, y4⟩ := five_cells h.cell
  have hne : (e != 0) = true := by simpa using he
  clear h
  go_enter Tryz.func28, Tryz.ntmps28
  go_wp2
  go_ret
  exact ⟨rfl, rfl⟩
set_option maxRecDepth 20000 in
set_option maxHeartbeats 1200000 in
theorem rtells_any (w : World) (b g : Nat) (s : List UInt8) (e a : Int) (h : RL w b s 0 g e a) :
    Calls Tryz.prog 24 #[.pointer (some ⟨b, 0, none⟩)] w fun o w' => o = .returned (.int .u8 ((nxt (blR s)).toNat : Int)) ∧ ∃ n, w' = w.drewN n := by
  have HH := hide h
  obtain ⟨c0, c1, c2, c3, c4, z1, z3, z4⟩ := five_cells h.cell
  have hl := h.len
  clear h
  obtain ⟨X, HX⟩ : ∃ X, Hid (nxt (blR s) = X) := ⟨_, hide rfl⟩
  rw [HX.out]
  go_enter Tryz.func24, Tryz.ntmps24
  go_wp2
  go_loopw [3] (fun v wr => ∃ i n : Nat, i ≤ s.length ∧ v = .int .i64 i ∧ Hid (nxt (blR (s.drop i)) = X) ∧ wr = w.drewN n) (fun v _ => s.length - (intOf v).toNat)
  case atStart => exact ⟨0, 0, by omega, rfl, HX, rfl⟩
  case round =>
    obtain ⟨i, n, hi, rfl, HXi, rfl⟩ := hrel
    have d0 := ((HH.out.drewN n)).cell
    by_cases hlt : i < s.length
    · have hli : (i : Int) < (s.length : Int) := by omega
      obtain ⟨e0, -⟩ := five_cells d0
      have hx := HXi.out
      rw [drop_at hlt] at hx
      obtain ⟨c, hc⟩ : ∃ c, s[i] = c := ⟨_, rfl⟩
      rw [hc] at hx
      have S1 := hide fun q => rIsBlank_any c (w.drewN q)
      by_cases hb : c = 32 ∨ c = 9
      · rw [decide_eq_true hb] at S1
        have HX2 : Hid (nxt (blR (s.drop (i + 1))) = X) := hide (by rw [← hx, blR, if_pos hb])
        clear hx hb d0
        go_wp2_with fail
        refine (S1.out n).mono ?_
        rintro e w1 ⟨rfl, n1, rfl⟩
        go_wp2
        go_roundw
        case rel => exact ⟨i + 1, n + n1, by omega, by go_num, HX2, rfl⟩
        case measure => simp [intOf]; omega
      · rw [decide_eq_false hb] at S1
        have hX : X = c := by rw [← hx, blR, if_neg hb]; rfl
        subst hX
        clear hx hb d0
        go_wp2_with fail
        refine (S1.out n).mono ?_
        rintro e w1 ⟨rfl, n1, rfl⟩
        have e1 := (five_cells (HH.out.drewN (n + n1)).cell).1
        go_wp2
        go_ret
        exact ⟨rfl, _, rfl⟩
    · obtain ⟨e0, -⟩ := five_cells d0
      have hli : ¬ (i : Int) < (s.length : Int) := by omega
      have hX : X = 10 := by rw [← HXi.out, List.drop_eq_nil_of_le (by omega)]; rfl
      subst hX
      clear d0
      go_wp2
      go_ret
      exact ⟨rfl, _, rfl⟩
end Go.Proofs.YtdlmgkncneifaaaGreat.Rn
