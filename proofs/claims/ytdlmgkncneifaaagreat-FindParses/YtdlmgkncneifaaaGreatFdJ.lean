/- find: readLabels. -/
import Derived.Laws.OwnMore
import Derived.Test.YtdlmgkncneifaaaGreatProg
import Derived.Test.YtdlmgkncneifaaaGreatKit
import Derived.Test.YtdlmgkncneifaaaGreatReg
import Derived.Test.YtdlmgkncneifaaaGreatLSpec
import Derived.Test.YtdlmgkncneifaaaGreatLRow
import Derived.Test.YtdlmgkncneifaaaGreatLMak
import Derived.Test.YtdlmgkncneifaaaGreatLnA
import Derived.Test.YtdlmgkncneifaaaGreatLnB
import Derived.Test.YtdlmgkncneifaaaGreatLnC
import Derived.Test.YtdlmgkncneifaaaGreatLnD
import Derived.Test.YtdlmgkncneifaaaGreatLnE
import Derived.BigQuiet
set_option linter.unusedVariables false
set_option linter.unusedSimpArgs false
namespace Go.Proofs.YtdlmgkncneifaaaGreat.Ln
open Go.RowKit Lb
attribute [local go_sem] bs_size bs_toList bs_append bs_get bs_extract

/-! ### how long what is read is -/
theorem valG_out : ∀ (n : Nat) {r : List UInt8} {x : List UInt8 × List UInt8}, valG n r = .ok x → x.1.length ≤ r.length
  | 0, r, x, h => by cases h
  | n + 1, r, x, h => by
    rw [valG] at h
    split at h
    · cases h; simp
    · split at h
      · cases h
      · rename_i y hy
        obtain ⟨z, hz, rfl⟩ := ahead_ok h
        have h1 := valG_out n hz
        have h2 := vb_len hy
        simp only [List.length_append, List.length_cons, List.length_nil]
        omega
theorem lab_out {r : List UInt8} {x : Lab × List UInt8} (h : labE r = .ok x) : x.1.1.length ≤ r.length ∧ x.1.2.length ≤ r.length := by
  unfold labE at h
  split at h
  · cases h
  · rename_i a ha
    split at h
    · cases h
    · rename_i b hb
      split at h
      · cases h
      · rename_i c hc
        cases h
        have h1 := name_len ha
        have h2 := must_len hb
        have h4 := bl_len a.2
        have h5 := bl_len b.2
        constructor
        · show a.1.length ≤ _
          unfold nameE at ha
          split at ha
          · cases ha
          · cases ha; exact List.length_take_le' _ _
        · show c.1.length ≤ _
          unfold valE at hc
          split at hc
          · cases hc
          · rename_i d hd
            have h6 := must_len hd
            have h7 := valG_out _ hc
            omega
theorem labsG_out : ∀ (n : Nat) {r : List UInt8} {x : List Lab × List UInt8}, labsG n r = .ok x → x.1.length ≤ r.length ∧ ∀ y ∈ x.1, y.1.length ≤ r.length ∧ y.2.length ≤ r.length
  | 0, r, x, h => by cases h
  | n + 1, r, x, h => by
    rw [labsG] at h
    split at h
    · split at h
      · cases h
      · rename_i y hy
        have h1 := lab_len hy
        have h2 := lab_out hy
        split at h
        · rename_i hs
          obtain ⟨z, hz, rfl⟩ := ahead_ok h
          have h3 := labsG_out n hz
          have h4 := skip_len hs
          have h5 := bl_len (skipR 44 y.2)
          refine ⟨by simp only [List.length_append, List.length_cons, List.length_nil]; omega, fun u hu => ?_⟩
          rcases List.mem_append.1 hu with hu | hu
          · rw [List.mem_singleton] at hu; subst hu; exact h2
          · have := h3.2 u hu; omega
        · cases h
          refine ⟨by simp only [List.length_cons, List.length_nil]; omega, fun u hu => ?_⟩
          rw [List.mem_singleton] at hu; subst hu; exact h2
    · cases h
      exact ⟨by simp, fun u hu => absurd hu (by simp)⟩
theorem labs_out {r : List UInt8} {x : List Lab × List UInt8} (h : labsE r = .ok x) : x.1.length ≤ r.length ∧ ∀ y ∈ x.1, y.1.length ≤ r.length ∧ y.2.length ≤ r.length := by
  have h1 := labsG_out _ h
  have h2 := bl_len r
  exact ⟨by omega, fun y hy => by have := h1.2 y hy; omega⟩
/-- Labels that are a whole line, from a rest on. -/
def readE (t : List UInt8) (f : Nat) (r : List UInt8) : Except (Nat × Nat) (List Lab) := match labsE r with
  | .error q => .error (1, pos t q)
  | .ok x => if x.2 = [] then (if makeErr x.1 = 0 then (if makeAns x.1 = [] then .error (5, f) else .ok (makeAns x.1)) else .error (makeErr x.1, f)) else .error (1, pos t x.2)
/-- What readLabels comes to. -/
def readTurn (b f : Nat) (t : List UInt8) (o : Except (Nat × Nat) (List Lab)) (w : World) (e : Ending) (w' : World) : Prop := KI b w w' ∧ match o with
  | .ok ls => ∃ v, e = .returned v ∧ ownLabels w' w.heap.size v ls ∧ InL w' b t f []
  | .error x => e = gaveF x.1 x.2
set_option maxRecDepth 20000 in
set_option maxHeartbeats 1200000 in
theorem readLabels_any (w : World) (b f : Nat) (t r : List UInt8) (h : InL w b t f r) : Calls Tryz.prog 19 #[.pointer (some ⟨b, 0, none⟩)] w (readTurn b f t (readE t f r) w) := by
  have S1 := hide (labels_any w b f t r h)
  have HR : Hid (r.length ≤ 1000000) := hide (Nat.le_trans h.suf.length_le h.len)
  obtain ⟨O, HO⟩ : ∃ O, Hid (readE t f r = O) := ⟨_, hide rfl⟩
  rw [HO.out]
  have hO := HO.out
  unfold readE at hO
  cases hl : labsE r with
  | error q =>
    rw [hl] at S1 hO
    simp only at hO
    subst hO
    clear h hl
    go_enter Tryz.func19, Tryz.ntmps19
    go_wp2_with fail
    refine S1.out.mono ?_
    rintro e w1 ⟨hk, rfl⟩
    exact ⟨rfl, hk, rfl⟩
  | ok x =>
    rw [hl] at S1 hO
    simp only at hO
    have hx := labs_out hl
    have HLX : Hid (lensOk x.1) := hide fun y hy => by have := hx.2 y hy; have := HR.out; omega
    have hxl : x.1.length ≤ 1000000 := by have := HR.out; omega
    clear h hl hx
    go_enter Tryz.func19, Tryz.ntmps19
    go_wp2_with fail
    refine S1.out.mono ?_
    rintro e w1 ⟨hk, v, rfl, hv, hi⟩
    have HK1 := hide hk
    have HV1 := hide hv
    have S2 := hide (end_any w1 b f t x.2 hi)
    have HI1 := hide hi
    obtain ⟨vo, vc, hvv⟩ := own_shape hv
    clear hk hv hi S1
    subst hvv
    by_cases hq : x.2 = []
    · rw [if_pos hq] at hO S2
      rw [hq] at HI1
      clear hq
      go_wp2_with fail
      refine S2.out.mono ?_
      rintro e w2 ⟨rfl, n, rfl⟩
      have S3 := hide (make_any (w1.drewN n) _ x.1 (reads_ownLabels (own_grow HV1.out (⟨rfl, rfl, rfl, Nat.le_refl _, fun _ _ => rfl⟩ : Grow w1 (w1.drewN n)))) (by omega) HLX.out)
      have HK2 := hide (HK1.out.drewN n)
      have HI2 := hide (HI1.out.drewN n)
      clear S2
      generalize w1.drewN n = w2 at S3 HK2 HI2 ⊢
      go_wp2_with fail
      refine S3.out.mono ?_
      rintro e w3 ⟨mv, rfl, hm, hb3⟩
      have HG3 : Hid (Grow w2 w3) := hide hb3
      have HK3 := hide (HK2.out.trans (KI.grow HG3.out))
      have HI3 := hide (HI2.out.grow HG3.out)
      have HM := hide hm
      obtain ⟨mo, mc, hmv⟩ := own_shape hm
      clear hm hb3 S3
      subst hmv
      by_cases h0 : makeErr x.1 = 0
      · rw [if_pos h0] at hO
        rw [h0]
        clear h0
        by_cases hn : makeAns x.1 = []
        · rw [if_pos hn] at hO
          subst hO
          have hln : (makeAns x.1).length = 0 := by rw [hn]; rfl
          rw [hln]
          clear hn
          go_wp2_with (first | (go_at_call 22; refine (first_any _ b f t _ HI3.out).mono ?_; rintro e w' ⟨rfl, rfl⟩) | (go_at_call 21; refine (giveF_any _ _ _).mono ?_; rintro e w' ⟨rfl, rfl⟩))
          exact ⟨rfl, HK3.out, rfl⟩
        · rw [if_neg hn] at hO
          subst hO
          have hln : (makeAns x.1).length ≠ 0 := fun e => hn (List.eq_nil_of_length_eq_zero e)
          have hli : (((makeAns x.1).length : Int) == 0) = false := by simp only [beq_eq_false_iff_ne, ne_eq]; omega
          have HLW : Hid (ownLabels w3 w.heap.size (.slice mo (makeAns x.1).length mc) (makeAns x.1)) := hide (own_le HM.out HK2.out.size)
          generalize makeAns x.1 = ls at *
          clear hn
          go_wp2
          go_ret
          exact ⟨HK3.out, _, rfl, HLW.out, HI3.out⟩
      · rw [if_neg h0] at hO
        subst hO
        have hne : ((makeErr x.1 : Int) != 0) = true := by simpa using h0
        clear h0
        generalize makeErr x.1 = ME at *
        go_wp2_with (first | (go_at_call 22; refine (first_any _ b f t _ HI3.out).mono ?_; rintro e w' ⟨rfl, rfl⟩) | (go_at_call 21; refine (giveF_any _ _ _).mono ?_; rintro e w' ⟨rfl, rfl⟩))
        exact ⟨rfl, HK3.out, rfl⟩
    · rw [if_neg hq] at hO S2
      subst hO
      clear hq
      go_wp2_with fail
      refine S2.out.mono ?_
      rintro e w2 ⟨rfl, n, rfl⟩
      exact ⟨rfl, HK1.out.drewN n, rfl⟩
end Go.Proofs.YtdlmgkncneifaaaGreat.Ln
