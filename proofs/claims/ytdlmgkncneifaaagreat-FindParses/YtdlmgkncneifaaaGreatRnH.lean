/- find: the reference's targets of a text are Parse's; the walk of FindParses. -/
import Derived.Laws.OwnMore
import Derived.Test.YtdlmgkncneifaaaGreatProg
import Derived.Test.YtdlmgkncneifaaaGreatKit
import Derived.Test.YtdlmgkncneifaaaGreatReg
import Derived.Test.YtdlmgkncneifaaaGreatLSpec
import Derived.Test.YtdlmgkncneifaaaGreatLRow
import Derived.Test.YtdlmgkncneifaaaGreatLMak
import Derived.Test.YtdlmgkncneifaaaGreatFdA
import Derived.Test.YtdlmgkncneifaaaGreatFdC
import Derived.Test.YtdlmgkncneifaaaGreatFdJ
import Derived.Test.YtdlmgkncneifaaaGreatFdK
import Derived.Test.YtdlmgkncneifaaaGreatFdM
import Derived.Test.YtdlmgkncneifaaaGreatFdN
import Derived.Test.YtdlmgkncneifaaaGreatLnA
import Derived.Test.YtdlmgkncneifaaaGreatLnD
import Derived.Test.YtdlmgkncneifaaaGreatLnF
import Derived.Test.YtdlmgkncneifaaaGreatRnA
import Derived.Test.YtdlmgkncneifaaaGreatRnC
import Derived.Test.YtdlmgkncneifaaaGreatRnD
import Derived.Test.YtdlmgkncneifaaaGreatRnF
import Derived.Test.YtdlmgkncneifaaaGreatRnG
import Derived.BigQuiet
set_option linter.unusedVariables false
set_option linter.unusedSimpArgs false
namespace Go.Proofs.YtdlmgkncneifaaaGreat.Rn
open Go.RowKit Lb Ln Go.Proofs.YtdlmgkncneifaaaGreat.Fd
attribute [local go_sem] bs_size bs_toList bs_append bs_get bs_extract

theorem blR_idem : ∀ r : List UInt8, blR (blR r) = blR r
  | [] => rfl
  | x :: r => by
    by_cases h : x = 32 ∨ x = 9
    · rw [show blR (x :: r) = blR r by rw [blR, if_pos h]]
      exact blR_idem r
    · have h1 : blR (x :: r) = x :: r := by rw [blR, if_neg h]
      rw [h1, h1]
theorem readE_whole (t : List UInt8) (f : Nat) (r : List UInt8) : readE t f r = match wholeL (labsE r) with
    | .error q => .error (1, pos t q)
    | .ok ls => if makeErr ls = 0 then (if makeAns ls = [] then .error (5, f) else .ok (makeAns ls)) else .error (makeErr ls, f) := by
  unfold readE
  cases labsE r with
  | error q => rfl
  | ok x =>
    unfold wholeL
    simp only
    by_cases h : x.2 = []
    · rw [if_pos h, if_pos h]
    · rw [if_neg h, if_neg h]
/-! ### a fault is at a rest -/
theorem must_err {c : UInt8} {r q : List UInt8} (h : mustL c r = .error q) : q.length ≤ r.length := by
  unfold mustL at h
  split at h
  · cases h
  · cases h; exact Nat.le_refl _
theorem next_err {r q : List UInt8} (h : nextE r = .error q) : q.length ≤ r.length := by
  cases r with
  | nil => cases h; exact Nat.le_refl _
  | cons c r => cases h
theorem vb_err {r q : List UInt8} (h : vbE r = .error q) : q.length ≤ r.length := by
  unfold vbE at h
  split at h
  · rename_i hs
    have h1 := skip_len hs
    split at h
    · cases h; exact Nat.zero_le _
    · rename_i c q' hq
      rw [hq] at h1
      split at h
      · cases h
      · split at h
        · cases h
        · cases h; omega
  · exact next_err h
theorem ahead_err {α : Type} {a : List α} {o : Except (List UInt8) (List α × List UInt8)} {q : List UInt8} (h : Ln.ahead a o = .error q) : o = .error q := by
  cases o with
  | error q' => cases h; rfl
  | ok y => cases h
theorem valG_err : ∀ (n : Nat) {r q : List UInt8}, valG n r = .error q → q.length ≤ r.length
  | 0, r, q, h => by cases h; exact Nat.le_refl _
  | n + 1, r, q, h => by
    rw [valG] at h
    split at h
    · cases h
    · split at h
      · rename_i hq; cases h; exact vb_err hq
      · rename_i y hy
        have h1 := valG_err n (ahead_err h)
        have h2 := vb_len hy
        omega
theorem val_err {r q : List UInt8} (h : valE r = .error q) : q.length ≤ r.length := by
  unfold valE at h
  split at h
  · rename_i hq; cases h; exact must_err hq
  · rename_i y hy
    have h1 := must_len hy
    have h2 := valG_err _ h
    omega
theorem name_err {r q : List UInt8} (h : nameE r = .error q) : q.length ≤ r.length := by
  unfold nameE at h
  split at h
  · cases h; exact Nat.le_refl _
  · cases h
theorem lab_err {r q : List UInt8} (h : labE r = .error q) : q.length ≤ r.length := by
  unfold labE at h
  split at h
  · rename_i hq; cases h; exact name_err hq
  · rename_i a ha
    have h1 := name_len ha
    have h4 := bl_len a.2
    split at h
    · rename_i hq; cases h; have := must_err hq; omega
    · rename_i b hb
      have h2 := must_len hb
      have h5 := bl_len b.2
      split at h
      · rename_i hq; cases h; have := val_err hq; omega
      · cases h
theorem labsG_err : ∀ (n : Nat) {r q : List UInt8}, labsG n r = .error q → q.length ≤ r.length
  | 0, r, q, h => by cases h; exact Nat.le_refl _
  | n + 1, r, q, h => by
    rw [labsG] at h
    split at h
    · split at h
      · rename_i hq; cases h; exact lab_err hq
      · rename_i x hx
        have h1 := lab_len hx
        split at h
        · rename_i hs
          have h2 := skip_len hs
          have h3 := bl_len (skipR 44 x.2)
          have h4 := labsG_err n (ahead_err h)
          omega
        · cases h
    · cases h
theorem labsG_rest : ∀ (n : Nat) {r : List UInt8} {x : List Lab × List UInt8}, labsG n r = .ok x → x.2.length ≤ r.length
  | 0, r, x, h => by cases h
  | n + 1, r, x, h => by
    rw [labsG] at h
    split at h
    · split at h
      · cases h
      · rename_i y hy
        have h1 := lab_len hy
        split at h
        · rename_i hs
          have h2 := skip_len hs
          have h3 := bl_len (skipR 44 y.2)
          obtain ⟨z, hz, rfl⟩ := ahead_ok h
          have h4 := labsG_rest n hz
          show z.2.length ≤ _
          omega
        · cases h; exact Nat.le_of_lt h1
    · cases h; exact Nat.le_refl _
theorem wholeL_suf {n : Nat} {r q : List UInt8} (h : wholeL (labsG n r) = .error q) : q.length ≤ r.length := by
  cases hl : labsG n r with
  | error q' => rw [hl] at h; cases h; exact labsG_err n hl
  | ok x =>
    rw [hl] at h
    unfold wholeL at h
    simp only at h
    split at h
    · cases h
    · cases h; exact labsG_rest n hl
theorem step_eq {s : List UInt8} {f e : Nat} (hf : f ≤ e) (he : e ≤ s.length) (st : List Tgt) : stepR ((s.drop f).take (e - f)) f st = Go.Proofs.YtdlmgkncneifaaaGreat.Fd.stepT (s.take e) f st := by
  have hd : (s.take e).drop f = (s.drop f).take (e - f) := List.drop_take
  unfold stepR Go.Proofs.YtdlmgkncneifaaaGreat.Fd.stepT
  rw [hd]
  obtain ⟨S, hS⟩ : ∃ S, (s.drop f).take (e - f) = S := ⟨_, rfl⟩
  have hl : S.length = e - f := by rw [← hS, List.length_take, List.length_drop]; omega
  rw [hS]
  by_cases hz : blR S = [] ∨ skipB 35 (blR S) = true
  · rw [if_pos hz, if_pos hz]
  · rw [if_neg hz, if_neg hz, readE_whole]
    have hw : wholeL (labsE (blR S)) = lkR ((blR S).length + 1) (blR S) := by
      rw [lkR_eq _ _ (Nat.lt_succ_self _)]
      unfold labsE
      rw [blR_idem]
    rw [hw]
    cases hk : lkR ((blR S).length + 1) (blR S) with
    | error q =>
      have hq : q.length ≤ S.length := by
        rw [lkR_eq _ _ (Nat.lt_succ_self _)] at hk
        exact Nat.le_trans (wholeL_suf hk) (bl_len S)
      have : f + pos S q = pos (s.take e) q := by
        unfold pos
        rw [List.length_take, hl]
        omega
      simp only [this]
    | ok ls =>
      simp only
      by_cases hm : makeErr ls = 0
      · rw [if_pos hm, if_pos hm, makeAns_ok hm]
        by_cases h0 : makeL ls = []
        · rw [if_pos h0, if_pos h0]
        · rw [if_neg h0, if_neg h0]
      · rw [if_neg hm, if_neg hm]
theorem run_eq (s : List UInt8) : ∀ (n f : Nat) (st : List Tgt), runR s (linesR s n f) st = linesG Go.Proofs.YtdlmgkncneifaaaGreat.Fd.stepT s n f st
  | 0, f, st => rfl
  | n + 1, f, st => by
    rw [linesR, linesG]
    by_cases hlt : f < s.length
    · have hle := lineEnd_le (s := s) (f := f) (by omega)
      rw [if_pos hlt, if_pos hlt, runR, step_eq hle.1 hle.2]
      cases Go.Proofs.YtdlmgkncneifaaaGreat.Fd.stepT (s.take (lineEnd s f)) f st with
      | error x => rfl
      | ok st' => exact run_eq s n _ st'
    · rw [if_neg hlt, if_neg hlt]; rfl
theorem targets_eq (s : List UInt8) : targetsR s = parseT s := by
  unfold targetsR parseT eachF
  split
  · rfl
  · exact run_eq s _ _ _
theorem linesG_inv {σ : Type} {step : List UInt8 → Nat → σ → Except (Nat × Nat) σ} {P : σ → Prop} (h : ∀ t f st st', P st → step t f st = .ok st' → P st') (s : List UInt8) : ∀ n f st st', P st → linesG step s n f st = .ok st' → P st'
  | 0, f, st, st', hp, he => by cases he; exact hp
  | n + 1, f, st, st', hp, he => by
    rw [linesG] at he
    split at he
    · split at he
      · cases he
      · rename_i st2 h2; exact linesG_inv h s n _ st2 st' (h _ _ _ _ hp h2) he
    · cases he; exact hp
theorem step_inv {t : List UInt8} {f : Nat} {st st' : List Tgt} (hp : st.length ≤ 100 ∧ ∀ x ∈ st, x.length ≤ 20) (h : Go.Proofs.YtdlmgkncneifaaaGreat.Fd.stepT t f st = .ok st') : st'.length ≤ 100 ∧ ∀ x ∈ st', x.length ≤ 20 := by
  unfold Go.Proofs.YtdlmgkncneifaaaGreat.Fd.stepT at h
  split at h
  · cases h; exact hp
  · split at h
    · cases h
    · rename_i ls hr
      have h20 := (lens_right (read_right hr).1).1
      split at h
      · cases h
      · split at h
        · cases h
        · rename_i hne
          cases h
          refine ⟨by rw [List.length_append, List.length_singleton]; have := hp.1; omega, fun x hx => ?_⟩
          rcases List.mem_append.1 hx with hx | hx
          · exact hp.2 x hx
          · rw [List.mem_singleton] at hx; subst hx; exact h20
theorem parse_inv (s : List UInt8) : (okT (parseT s)).length ≤ 100 ∧ ∀ x ∈ okT (parseT s), x.length ≤ 20 := by
  cases h : parseT s with
  | error x => exact ⟨by simp [okT], fun x hx => absurd hx (by simp [okT])⟩
  | ok st =>
    unfold parseT eachF at h
    split at h
    · cases h
    · exact linesG_inv (P := fun st => st.length ≤ 100 ∧ ∀ x ∈ st, x.length ≤ 20) (fun t f st st' hp he => step_inv hp he) s _ _ _ _ ⟨by simp, fun x hx => absurd hx (by simp)⟩ h
theorem sameTgts_self (w : World) (va vb : Value) (a : List Tgt) (ha : readsTgts w w.heap.size va a) (hb : readsTgts w w.heap.size vb a) (la : a.length ≤ 1000000) (hal : ∀ x ∈ a, x.length ≤ 20) :
    Calls Tryz.prog 8 #[va, vb] w fun e w' => e = .returned (.bool true) ∧ Grow w w' := by
  have := sameTgts_any w va vb a a ha hb la (fun x hx => by have := hal x hx; omega) (fun x hx => by have := hal x hx; omega)
  rwa [decide_eq_true (Eq.refl a)] at this
set_option maxRecDepth 20000 in
set_option maxHeartbeats 1200000 in
theorem findParses_any (w : World) (s : List UInt8) (hs : s.length ≤ 9223372036854775807) :
    Calls Tryz.prog 3 #[.string (bs s)] w fun e w' => e = .returned (.bool true) ∧ Grow w w' := by
  have S1 := hide (parse_any w s hs)
  obtain ⟨hi1, hi2⟩ := parse_inv s
  have HI2 := hide hi2
  have HT := hide (targets_eq s)
  obtain ⟨O, HO⟩ : ∃ O, Hid (parseT s = O) := ⟨_, hide rfl⟩
  rw [HO.out] at S1 HI2 HT hi1
  clear hi2
  go_enter Tryz.func3, Tryz.ntmps3
  go_wp2_with fail
  refine S1.out.mono ?_
  rintro e w1 ⟨v1, rfl, hr1, hg1⟩
  obtain ⟨a, ha⟩ : ∃ a : Int, ((faultT O).1 : Int) = a := ⟨_, rfl⟩
  obtain ⟨b, hb⟩ : ∃ b : Int, ((faultT O).2 : Int) = b := ⟨_, rfl⟩
  rw [ha, hb]
  have HA := hide ha
  have HB := hide hb
  obtain ⟨V1, HV1⟩ : ∃ V1, Hid (w1.alloc (.cells #[.int .i64 a, .int .i64 b] 25) = V1) := ⟨_, hide rfl⟩
  have hgv1 : Grow w1 V1 := by rw [← HV1.out]; exact (Grow.refl w1).alloc _
  have HC1 : Hid (V1.heap[w1.heap.size]? = some (.cells #[.int .i64 a, .int .i64 b] 25 (0, 0))) := hide (by rw [← HV1.out]; exact heap_alloc_new _ _)
  have HR1 := hide ((hr1.keep hgv1).more hgv1.size)
  have HG1 := hide (hg1.trans hgv1)
  have S2 := rtargets_any V1 s hs
  rw [HT.out, ha, hb] at S2
  have S2 := hide S2
  clear hr1 hg1 S1 hgv1 ha hb
  go_wp2_with fail
  rw [HV1.out]
  refine S2.out.mono ?_
  rintro e w2 ⟨v2, rfl, hr2, hg2⟩
  obtain ⟨V2, HV2⟩ : ∃ V2, Hid (w2.alloc (.cells #[.int .i64 a, .int .i64 b] 25) = V2) := ⟨_, hide rfl⟩
  have hgv2 : Grow w2 V2 := by rw [← HV2.out]; exact (Grow.refl w2).alloc _
  have HC2 : Hid (V2.heap[w2.heap.size]? = some (.cells #[.int .i64 a, .int .i64 b] 25 (0, 0))) := hide (by rw [← HV2.out]; exact heap_alloc_new _ _)
  have HR2 := hide ((hr2.keep hgv2).more hgv2.size)
  have HG2 := hide (hg2.trans hgv2)
  have S3 := hide (findBegun_any V2)
  clear hr2 hg2 S2 hgv2
  go_wp2_with fail
  rw [HV2.out]
  refine S3.out.mono ?_
  rintro e w3 ⟨rfl, hg3⟩
  have HG3 := hide hg3
  obtain ⟨c1, c2, -, -⟩ := two_free ((HG2.out.trans hg3).get HC1.out)
  obtain ⟨c3, c4, -, -⟩ := two_free (hg3.get HC2.out)
  have S4 := hide (sameTgts_self w3 v1 v2 (okT O) ((HR1.out.keep (HG2.out.trans hg3)).more (HG2.out.trans hg3).size) ((HR2.out.keep hg3).more hg3.size) (by omega) HI2.out)
  clear hg3 S3
  go_wp2_with fail
  refine S4.out.mono ?_
  rintro e w4 ⟨rfl, hg4⟩
  have HG4 : Hid (Grow w w4) := hide (((HG1.out.trans HG2.out).trans HG3.out).trans hg4)
  clear hg4 S4
  go_wp2
  go_ret
  exact ⟨rfl, HG4.out⟩
end Go.Proofs.YtdlmgkncneifaaaGreat.Rn
