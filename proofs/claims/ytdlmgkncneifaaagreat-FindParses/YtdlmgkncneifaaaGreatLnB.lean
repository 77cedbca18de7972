/- line: GiveUp, First, End, Must, Blanks, named, Name, next. -/
import Derived.Laws.OwnMore
import Derived.Test.YtdlmgkncneifaaaGreatProg
import Derived.Test.YtdlmgkncneifaaaGreatKit
import Derived.Test.YtdlmgkncneifaaaGreatReg
import Derived.Test.YtdlmgkncneifaaaGreatLSpec
import Derived.Test.YtdlmgkncneifaaaGreatLRow
import Derived.Test.YtdlmgkncneifaaaGreatLChk
import Derived.Test.YtdlmgkncneifaaaGreatLnA
import Derived.BigQuiet
set_option linter.unusedVariables false
set_option linter.unusedSimpArgs false
namespace Go.Proofs.YtdlmgkncneifaaaGreat.Ln
open Go.RowKit Lb
attribute [local go_sem] bs_size bs_toList bs_append bs_get bs_extract

set_option maxHeartbeats 1000000 in
theorem giveF_any (e p : Int) (w : World) : Calls Tryz.prog 21 #[.int .i64 e, .int .i64 p] w fun o w' => o = gaveF e p ∧ w' = w := by
  go_enter Tryz.func21, Tryz.ntmps21
  go_wp2
  exact ⟨rfl, rfl, rfl⟩
set_option maxHeartbeats 1000000 in
theorem giveUp_any (w : World) (b f : Nat) (t r : List UInt8) (h : InL w b t f r) : Calls Tryz.prog 55 #[.pointer (some ⟨b, 0, none⟩)] w fun o w' => o = gaveF 1 (pos t r) ∧ w' = w := by
  obtain ⟨c0, c1, c2, z2⟩ := three_cells h.cell
  clear h
  go_enter Tryz.func55, Tryz.ntmps55
  go_wp2_with (go_at_call 21; refine (giveF_any _ _ _).mono ?_; rintro e w' ⟨rfl, rfl⟩)
  exact ⟨rfl, rfl, rfl⟩
set_option maxHeartbeats 1000000 in
theorem first_any (w : World) (b f : Nat) (t r : List UInt8) (h : InL w b t f r) : Calls Tryz.prog 22 #[.pointer (some ⟨b, 0, none⟩)] w fun o w' => o = .returned (.int .i64 f) ∧ w' = w := by
  obtain ⟨c0, c1, c2, z2⟩ := three_cells h.cell
  clear h
  go_enter Tryz.func22, Tryz.ntmps22
  go_wp2
  go_ret
  exact ⟨rfl, rfl⟩
set_option maxHeartbeats 1000000 in
theorem end_any (w : World) (b f : Nat) (t r : List UInt8) (h : InL w b t f r) : Calls Tryz.prog 38 #[.pointer (some ⟨b, 0, none⟩)] w fun o w' => o = (if r = [] then .returned (.tuple #[]) else gaveF 1 (pos t r)) ∧ ∃ n, w' = w.drewN n := by
  have hE := hide (ended_any w b f t r h)
  have HH := hide h
  clear h
  by_cases hr : r = []
  · rw [if_pos hr]
    rw [decide_eq_true hr] at hE
    clear hr
    go_enter Tryz.func38, Tryz.ntmps38
    go_wp2_with (go_at_call 17; refine hE.out.mono ?_; rintro e w' ⟨rfl, n, rfl⟩)
    go_end0
    exact ⟨rfl, _, rfl⟩
  · rw [if_neg hr]
    rw [decide_eq_false hr] at hE
    clear hr
    go_enter Tryz.func38, Tryz.ntmps38
    go_wp2_with (first | (go_at_call 17; refine hE.out.mono ?_; rintro e w' ⟨rfl, n, rfl⟩) | (go_at_call 55; refine (giveUp_any _ b f t r (HH.out.drewN _)).mono ?_; rintro e w' ⟨rfl, rfl⟩))
    exact ⟨rfl, rfl, _, rfl⟩
/-- What a method that reads comes to: it answers, and the line is read further; or it gives up where a rest begins. -/
def lineAs {α : Type} (b f : Nat) (t : List UInt8) (V : α → Value) (o : Except (List UInt8) (α × List UInt8)) (w : World) (e : Ending) (w' : World) : Prop :=
  KI b w w' ∧ match o with
    | .ok x => e = .returned (V x.1) ∧ InL w' b t f x.2
    | .error r => e = gaveF 1 (pos t r)
def mustL (c : UInt8) (r : List UInt8) : Except (List UInt8) (Unit × List UInt8) := if skipB c r = true then .ok ((), skipR c r) else .error r
set_option maxHeartbeats 1000000 in
theorem must_any (w : World) (b f : Nat) (t r : List UInt8) (c : UInt8) (h : InL w b t f r) : Calls Tryz.prog 72 #[.pointer (some ⟨b, 0, none⟩), .int .u8 (c.toNat : Int)] w (lineAs b f t (fun _ => .tuple #[]) (mustL c r) w) := by
  have hE := hide (skip_any w b f t r c h)
  clear h
  unfold mustL
  cases hs : skipB c r with
  | true =>
    rw [if_pos rfl]
    rw [hs] at hE
    clear hs
    go_enter Tryz.func72, Tryz.ntmps72
    go_wp2_with fail
    refine hE.out.mono ?_
    rintro e w1 ⟨rfl, hk, hi⟩
    have HK := hide hk
    have HI := hide hi
    clear hk hi hE
    go_wp2
    go_end0
    exact ⟨HK.out, rfl, HI.out⟩
  | false =>
    rw [if_neg (by simp)]
    rw [hs, skipB_no hs] at hE
    clear hs
    go_enter Tryz.func72, Tryz.ntmps72
    go_wp2_with fail
    refine hE.out.mono ?_
    rintro e w1 ⟨rfl, hk, hi⟩
    have HK := hide hk
    have HI := hide hi
    clear hk hi hE
    go_wp2_with fail
    refine (giveUp_any _ b f t r HI.out).mono ?_
    rintro e w' ⟨rfl, rfl⟩
    exact ⟨rfl, HK.out, rfl⟩
/-- Behind blanks. -/
def blR : List UInt8 → List UInt8
  | [] => []
  | x :: r => if x = 32 ∨ x = 9 then blR r else x :: r
theorem blR_suf : ∀ r : List UInt8, blR r <:+ r
  | [] => List.suffix_refl _
  | x :: r => by
    unfold blR
    split
    · exact (blR_suf r).trans (List.suffix_cons x r)
    · exact List.suffix_refl _
theorem blR_go {r r' : List UInt8} {c : UInt8} (h : r = c :: r') (hc : c = 32 ∨ c = 9) : blR r = blR r' := by
  subst h
  rw [blR, if_pos hc]
theorem blR_end {r : List UInt8} (h1 : skipB 32 r = false) (h2 : skipB 9 r = false) : blR r = r := by
  cases r with
  | nil => rfl
  | cons x r =>
    rw [blR, if_neg]
    intro h
    rcases h with rfl | rfl
    · cases h1
    · cases h2
set_option maxRecDepth 20000 in
set_option maxHeartbeats 1000000 in
theorem blanks_any (w : World) (b f : Nat) (t r : List UInt8) (h : InL w b t f r) : Calls Tryz.prog 16 #[.pointer (some ⟨b, 0, none⟩)] w fun e w' => e = .returned (.bool (decide (blR r ≠ r))) ∧ KI b w w' ∧ InL w' b t f (blR r) := by
  obtain ⟨c0, c1, c2, z2⟩ := three_cells h.cell
  have HH := hide h
  have HD : Hid (decide (blR r ≠ r) = decide ((pos t r : Int) < (pos t (blR r) : Int))) := by
    have h1 := suf_len h.suf
    have h2 := suf_len ((blR_suf r).trans h.suf)
    have h3 := (blR_suf r).length_le
    show _ = _
    rw [Bool.eq_iff_iff, decide_eq_true_eq, decide_eq_true_eq]
    constructor
    · intro hne
      have : (blR r).length ≠ r.length := fun e => hne ((blR_suf r).eq_of_length e)
      omega
    · intro hlt e
      rw [e] at hlt
      omega
  obtain ⟨R, HR⟩ : ∃ R, Hid (blR r = R) := ⟨_, hide rfl⟩
  rw [HR.out] at HD ⊢
  clear h
  obtain ⟨p0, HP0⟩ : ∃ p0, Hid (pos t r = p0) := ⟨_, hide rfl⟩
  rw [HP0.out] at c2 HD
  go_enter Tryz.func16, Tryz.ntmps16
  go_wp2
  go_loopw [8] (fun _ wr => ∃ r' : List UInt8, Hid (InL wr b t f r') ∧ Hid (blR r' = R) ∧ Hid (KI b w wr)) (fun _ wr => match wr.heap[b]? with | some (.cells c _ _) => t.length - (intOf (c.getD 2 undef)).toNat | _ => 0)
  case atStart => exact ⟨r, HH, HR, hide (KI.refl _ _)⟩
  case round =>
    obtain ⟨r', HI, HRR, HK⟩ := hrel
    have hm : ∀ (W : World) (q : List UInt8), InL W b t f q → (match W.heap[b]? with | some (.cells c _ _) => t.length - (intOf (c.getD 2 undef)).toNat | _ => 0) = q.length := fun W q hq => by
      rw [hq.cell]
      have := suf_len hq.suf
      simp [intOf]
      omega
    have hle : ∀ c, skipB c r' = true → (skipR c r').length < r'.length := fun c hc => by
      have := congrArg List.length (skipB_yes hc)
      rw [List.length_cons] at this
      omega
    have HM := hide hm
    have HLE := hide hle
    have S1 := hide (skip_any wr b f t r' 32 HI.out)
    clear hm hle
    cases h1 : skipB 32 r' with
    | true =>
      rw [h1] at S1
      have H1 := hide h1
      clear h1
      go_wp2_with fail
      refine S1.out.mono ?_
      rintro e w1 ⟨rfl, hk, hi⟩
      have HK1 := hide (HK.out.trans hk)
      have HI1 := hide hi
      clear hk hi S1
      go_wp2
      go_roundw
      case rel => exact ⟨_, HI1, hide ((blR_go (skipB_yes H1.out) (.inl rfl)).symm.trans HRR.out), HK1⟩
      case measure => rw [HM.out _ _ HI1.out, HM.out _ _ HI.out]; exact HLE.out _ H1.out
    | false =>
      rw [h1, skipB_no h1] at S1
      have H1 := hide h1
      clear h1
      go_wp2_with fail
      refine S1.out.mono ?_
      rintro e w1 ⟨rfl, hk, hi⟩
      have HK1 := hide (HK.out.trans hk)
      have HI1 := hide hi
      have S2 := hide (skip_any w1 b f t r' 9 HI1.out)
      clear hk hi S1
      cases h2 : skipB 9 r' with
      | true =>
        rw [h2] at S2
        have H2 := hide h2
        clear h2
        go_wp2_with fail
        refine S2.out.mono ?_
        rintro e w2 ⟨rfl, hk, hi⟩
        have HK2 := hide (HK1.out.trans hk)
        have HI2 := hide hi
        clear hk hi S2
        go_wp2
        go_roundw
        case rel => exact ⟨_, HI2, hide ((blR_go (skipB_yes H2.out) (.inr rfl)).symm.trans HRR.out), HK2⟩
        case measure => rw [HM.out _ _ HI2.out, HM.out _ _ HI.out]; exact HLE.out _ H2.out
      | false =>
        rw [h2, skipB_no h2] at S2
        have H2 := hide h2
        clear h2
        go_wp2_with fail
        refine S2.out.mono ?_
        rintro e w2 ⟨rfl, hk, hi⟩
        have HK2 := hide (HK1.out.trans hk)
        have hRe : r' = R := (blR_end H1.out H2.out).symm.trans HRR.out
        subst hRe
        obtain ⟨d0, d1, d2, y2⟩ := three_cells hi.cell
        have HI2 := hide hi
        clear hk hi S2
        generalize pos t r' = p at *
        go_wp2
        go_ret
        refine ⟨ret_bool ?_, HK2.out, HI2.out⟩
        rw [HD.out, Bool.eq_iff_iff]
        simp
end Go.Proofs.YtdlmgkncneifaaaGreat.Ln
