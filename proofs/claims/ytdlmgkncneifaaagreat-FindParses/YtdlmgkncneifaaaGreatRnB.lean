/- The reference's line: a name. -/
import Derived.Laws.OwnMore
import Derived.Test.YtdlmgkncneifaaaGreatProg
import Derived.Test.YtdlmgkncneifaaaGreatKit
import Derived.Test.YtdlmgkncneifaaaGreatReg
import Derived.Test.YtdlmgkncneifaaaGreatLSpec
import Derived.Test.YtdlmgkncneifaaaGreatLRow
import Derived.Test.YtdlmgkncneifaaaGreatLRefA
import Derived.Test.YtdlmgkncneifaaaGreatLnA
import Derived.Test.YtdlmgkncneifaaaGreatLnB
import Derived.Test.YtdlmgkncneifaaaGreatLnC
import Derived.Test.YtdlmgkncneifaaaGreatRnA
import Derived.BigQuiet
set_option linter.unusedVariables false
set_option linter.unusedSimpArgs false
namespace Go.Proofs.YtdlmgkncneifaaaGreat.Rn
open Go.RowKit Lb Ln
attribute [local go_sem] bs_size bs_toList bs_append bs_get bs_extract

/-- What a method that reads comes to: it answers, and the line is read further; or the line holds a fault where a rest begins. -/
def rlAs {α : Type} (b g : Nat) (s : List UInt8) (V : α → Value) (E : Value → Prop) (o : Except (List UInt8) (α × List UInt8)) (w : World) (e : Ending) (w' : World) : Prop :=
  KI b w w' ∧ match o with
    | .ok x => e = .returned (V x.1) ∧ ∃ k', RL w' b s k' g 0 0 ∧ s.drop k' = x.2 ∧ k' ≤ s.length
    | .error q => ∃ v k', e = .returned v ∧ E v ∧ RL w' b s k' g 1 ((g : Int) + (pos s q : Int))
/-- Does the name go on behind j bytes? -/
def nmB (r : List UInt8) (j : Nat) : Bool := letB (nxt (r.drop j)) || (decide (j ≠ 0) && digB (nxt (r.drop j)))
def nameR (r : List UInt8) : Except (List UInt8) (List UInt8 × List UInt8) := match nameE r with
  | .error q => .error q
  | .ok x => if nmB r (namN r) = true then .error x.2 else .ok x
theorem let_dig {c : UInt8} (h : letB c = true) : digB c = false := by
  unfold letB at h
  unfold digB
  simp only [Bool.or_eq_true, Bool.and_eq_true, decide_eq_true_eq] at h
  simp only [Bool.and_eq_false_iff, decide_eq_false_iff_not]
  omega
theorem named_40 (r : List UInt8) : namedB r 40 = false := by
  unfold namedB
  by_cases h : 40 < r.length
  · have : nameB (r.take 41) = false := by
      rw [Bool.eq_false_iff]
      intro e
      have := (nameB_len e).2
      rw [List.length_take] at this
      omega
    rw [this, Bool.and_false]
  · rw [decide_eq_false h, Bool.false_and]
theorem named_nm {r : List UInt8} {j : Nat} (h : j = 0 ∨ nameB (r.take j) = true) (hj : j < 40) : namedB r j = nmB r j := by
  unfold namedB nmB
  by_cases hlt : j < r.length
  · rw [decide_eq_true hlt, Bool.true_and, drop_at hlt]
    show nameB (r.take (j + 1)) = (letB r[j] || (decide (j ≠ 0) && digB r[j]))
    rw [List.take_succ_eq_append_getElem hlt]
    generalize r[j] = c
    rcases Nat.eq_zero_or_pos j with rfl | hp
    · simp only [List.take_zero, List.nil_append]
      cases hc : letB c with
      | true => have := let_dig hc; simp [nameB, hc, this]
      | false => cases hd : digB c <;> simp [nameB, hc, hd]
    · have hn : nameB (r.take j) = true := h.resolve_left (by omega)
      have hlen : (r.take j).length = j := by rw [List.length_take]; omega
      generalize r.take j = l at *
      unfold nameB at hn ⊢
      simp only [Bool.and_eq_true, decide_eq_true_eq] at hn
      obtain ⟨⟨⟨h1, h2⟩, h3⟩, h4⟩ := hn
      have h5 : (l ++ [c]).getD 0 0 = l.getD 0 0 := by
        cases l with
        | nil => simp at h1
        | cons y l => rfl
      have h6 : decide (1 ≤ (l ++ [c]).length) = true := decide_eq_true (by simp)
      have h7 : decide ((l ++ [c]).length ≤ 40) = true := decide_eq_true (by simp; omega)
      rw [h5, h6, h7, h4, List.all_append, h3, decide_eq_true (by omega : j ≠ 0)]
      simp
  · rw [decide_eq_false hlt, Bool.false_and, List.drop_eq_nil_of_le (by omega)]
    have h1 : letB (nxt []) = false := by decide
    have h2 : digB (nxt []) = false := by decide
    rw [h1, h2, Bool.and_false]; rfl
theorem named_take {r : List UInt8} {j : Nat} (h : namedB r j = true) : nameB (r.take (j + 1)) = true := by
  unfold namedB at h
  rw [Bool.and_eq_true] at h
  exact h.2
theorem nm_some {r : List UInt8} {j : Nat} (h : nmB r j = true) : j < r.length := by
  rcases Nat.lt_or_ge j r.length with hl | hl
  · exact hl
  · unfold nmB at h
    rw [List.drop_eq_nil_of_le hl] at h
    have h1 : letB (nxt []) = false := by decide
    have h2 : digB (nxt []) = false := by decide
    rw [h1, h2, Bool.and_false] at h
    cases h
set_option maxRecDepth 20000 in
set_option maxHeartbeats 1600000 in
theorem rname_any (w : World) (b k g : Nat) (s : List UInt8) (hk : k ≤ s.length) (h : RL w b s k g 0 0) :
    Calls Tryz.prog 45 #[.pointer (some ⟨b, 0, none⟩)] w (rlAs b g s (fun x => .string (bs x)) (fun v => ∃ x, v = .string (bs x)) (nameR (s.drop k)) w) := by
  have HH := hide h
  obtain ⟨r, HRr⟩ : ∃ r, Hid (s.drop k = r) := ⟨_, hide rfl⟩
  obtain ⟨N, HN⟩ : ∃ N, Hid (namN r = N) := ⟨_, hide rfl⟩
  obtain ⟨O, HO⟩ : ∃ O, Hid (nameR r = O) := ⟨_, hide rfl⟩
  have hrl : r.length = s.length - k := by rw [← HRr.out, List.length_drop]
  have hl := h.len
  rw [HRr.out, HO.out]
  clear h
  go_enter Tryz.func45, Tryz.ntmps45
  go_wp2
  go_loopw [3] (fun v wr => ∃ acc : List UInt8, v = .string (bs acc) ∧ Hid (acc = r.take acc.length) ∧ acc.length ≤ 40 ∧ acc.length ≤ r.length ∧ Hid (namGo r (41 - acc.length) acc.length = N) ∧ Hid (acc.length = 0 ∨ nameB (r.take acc.length) = true) ∧ Hid (RL wr b s (k + acc.length) g 0 0) ∧ Hid (KI b w wr)) (fun _ wr => match wr.heap[b]? with | some (.cells c _ _) => s.length - (intOf (c.getD 1 undef)).toNat | _ => 0)
  case atStart => exact ⟨[], rfl, hide (by simp), by simp, by simp, HN, hide (.inl rfl), HH, hide (KI.refl _ _)⟩
  case round =>
    obtain ⟨acc, rfl, HAC, h40, har, HG, HB, HI, HK⟩ := hrel
    have hm : ∀ (W : World) (q : Nat), RL W b s q g 0 0 → (match W.heap[b]? with | some (.cells c _ _) => s.length - (intOf (c.getD 1 undef)).toNat | _ => 0) = s.length - q := fun W q hq => by
      rw [hq.cell]
      simp [intOf]
    have HM := hide hm
    clear hm
    obtain ⟨d0, d1, d2, d3, d4, y1, y3, y4⟩ := five_cells HI.out.cell
    have hdd : s.drop (k + acc.length) = r.drop acc.length := by rw [← HRr.out, List.drop_drop]
    have HDD := hide hdd
    obtain ⟨x, hx⟩ : ∃ x, nxt (r.drop acc.length) = x := ⟨_, rfl⟩
    have HX := hide hx
    have S1 := hide fun q => rnext_any (wr.drewN q) b (k + acc.length) g s 0 0 (HI.out.drewN q)
    rw [hdd, hx] at S1
    have S0 := hide (rnext_any wr b (k + acc.length) g s 0 0 HI.out)
    rw [hdd, hx] at S0
    have hg := HG.out
    rw [show 41 - acc.length = (40 - acc.length) + 1 by omega, namGo] at hg
    have HGG := hide hg
    have HMB : Hid (nmB r acc.length = (letB x || (decide (acc.length ≠ 0) && digB x))) := hide (by unfold nmB; rw [HX.out])
    clear hdd hx hg
    obtain ⟨GO, hGO⟩ : ∃ GO, nmB r acc.length = GO := ⟨_, rfl⟩
    cases GO with
    | true =>
      have HGO := hide hGO
      have hlt := nm_some hGO
      have hks : k + acc.length < s.length := by omega
      have hksi : (k : Int) + (acc.length : Int) + 1 ≤ (s.length : Int) := by omega
      have hsl : (s.drop (k + acc.length)).take 1 = [x] := by
        rw [HDD.out, drop_at hlt]
        have := HX.out
        rw [drop_at hlt] at this
        show [r[acc.length]] = [x]
        rw [← this]; rfl
      have HSL := hide hsl
      have hm2 := HMB.out
      rw [hGO] at hm2
      clear hsl hGO
      cases hL : letB x with
      | true =>
        clear hm2
        by_cases h4 : acc.length = 40
        · have hO : O = .error (r.drop 40) := by
            have hg := HGG.out
            rw [h4, named_40, if_neg (by simp)] at hg
            rw [← HO.out]
            unfold nameR nameE
            rw [HN.out, ← hg, if_neg (by decide)]
            simp only
            rw [if_pos (by rw [← h4]; exact HGO.out)]
          have hps : (pos s (r.drop 40) : Int) = (k : Int) + 40 := by
            have h1 : r.drop 40 = s.drop (k + 40) := by rw [← HRr.out, List.drop_drop]
            rw [h1]
            unfold pos
            rw [List.length_drop]
            omega
          have HPS := hide hps
          have h4i : (acc.length : Int) = 40 := by omega
          subst hO
          clear hps
          go_wp2_with fail
          refine S0.out.mono ?_
          rintro e w1 ⟨rfl, n, rfl⟩
          go_wp2_with fail
          refine (rIsLetter_any x _).mono ?_
          rintro e w2 ⟨rfl, rfl⟩
          go_wp2_with fail
          refine (rwrong_any (wr.drewN n) b (k + acc.length) g s 0 (HI.out.drewN _) 1 _ (by omega) (by omega)).mono ?_
          rintro e w9 ⟨rfl, hk9, hr9⟩
          have HK9 := hide hk9
          have HR9 := hide hr9
          clear hk9 hr9
          go_wp2
          go_ret
          refine ⟨(HK.out.drewN _).trans HK9.out, _, k + acc.length, rfl, ⟨acc, rfl⟩, ?_⟩
          rw [HPS.out]
          have := HR9.out
          simpa [h4i] using this
        · have hnb : namedB r acc.length = true := by rw [named_nm HB.out (by omega)]; exact HGO.out
          have hg := HGG.out
          rw [hnb, if_pos rfl] at hg
          have HG2 : Hid (namGo r (41 - (acc.length + 1)) (acc.length + 1) = N) := hide (by rw [show 41 - (acc.length + 1) = 40 - acc.length by omega]; exact hg)
          have HB2 := hide (named_take hnb)
          have h4f : ((acc.length : Int) == 40) = false := by simp only [beq_eq_false_iff_ne, ne_eq]; omega
          have HAX : Hid (acc ++ [x] = r.take (acc.length + 1)) := hide (by
            rw [List.take_succ_eq_append_getElem hlt, ← HAC.out]
            congr 1
            have := HX.out
            rw [drop_at hlt] at this
            rw [← this]; rfl)
          have hmv : ∀ n, RL ((wr.drewN n).setCell ⟨b, 1, none⟩ (.int .i64 ((k : Int) + (acc.length : Int) + 1))) b s (k + (acc.length + 1)) g 0 0 := fun n => (HI.out.drewN n).moved (by omega) (by omega)
          have HMV := hide hmv
          clear hnb hg hmv
          go_wp2_with fail
          refine S0.out.mono ?_
          rintro e w1 ⟨rfl, n, rfl⟩
          go_wp2_with fail
          refine (rIsLetter_any x _).mono ?_
          rintro e w2 ⟨rfl, rfl⟩
          go_wp2
          go_quiet (fail)
          go_wp2
          go_roundw
          case rel => exact ⟨acc ++ [x], by rw [HSL.out], hide (by rw [List.length_append]; exact HAX.out), by simp; omega, by simp; omega, hide (by rw [List.length_append]; exact HG2.out), hide (.inr (by rw [List.length_append]; exact HB2.out)), hide (by rw [List.length_append]; exact HMV.out _), hide ((HK.out.drewN _).set _ _)⟩
          case measure => rw [HM.out _ _ (HMV.out _), HM.out _ _ HI.out]; omega
      | false =>
        rw [hL, Bool.false_or] at hm2
        have hm3 := hm2.symm
        rw [Bool.and_eq_true, decide_eq_true_eq] at hm3
        obtain ⟨hne, hD⟩ := hm3
        clear hm2
        have hai : acc ≠ [] := fun e => hne (by rw [e]; rfl)
        have hie : acc.isEmpty = false := by
          cases acc with
          | nil => exact absurd rfl hai
          | cons _ _ => rfl
        by_cases h4 : acc.length = 40
        · have hO : O = .error (r.drop 40) := by
            have hg := HGG.out
            rw [h4, named_40, if_neg (by simp)] at hg
            rw [← HO.out]
            unfold nameR nameE
            rw [HN.out, ← hg, if_neg (by decide)]
            simp only
            rw [if_pos (by rw [← h4]; exact HGO.out)]
          have hps : (pos s (r.drop 40) : Int) = (k : Int) + 40 := by
            have h1 : r.drop 40 = s.drop (k + 40) := by rw [← HRr.out, List.drop_drop]
            rw [h1]
            unfold pos
            rw [List.length_drop]
            omega
          have HPS := hide hps
          have h4i : (acc.length : Int) = 40 := by omega
          subst hO
          clear hps
          go_wp2_with fail
          refine S0.out.mono ?_
          rintro e w1 ⟨rfl, n, rfl⟩
          go_wp2_with fail
          refine (rIsLetter_any x _).mono ?_
          rintro e w2 ⟨rfl, rfl⟩
          go_wp2_with fail
          refine (S1.out n).mono ?_
          rintro e w3 ⟨rfl, n3, rfl⟩
          go_wp2_with fail
          refine (rIsNumeral_any x _).mono ?_
          rintro e w4 ⟨rfl, rfl⟩
          go_wp2_with fail
          refine (rwrong_any (wr.drewN (n + n3)) b (k + acc.length) g s 0 (HI.out.drewN _) 1 _ (by omega) (by omega)).mono ?_
          rintro e w9 ⟨rfl, hk9, hr9⟩
          have HK9 := hide hk9
          have HR9 := hide hr9
          clear hk9 hr9
          go_wp2
          go_ret
          refine ⟨(HK.out.drewN _).trans HK9.out, _, k + acc.length, rfl, ⟨acc, rfl⟩, ?_⟩
          rw [HPS.out]
          have := HR9.out
          simpa [h4i] using this
        · have hnb : namedB r acc.length = true := by rw [named_nm HB.out (by omega)]; exact HGO.out
          have hg := HGG.out
          rw [hnb, if_pos rfl] at hg
          have HG2 : Hid (namGo r (41 - (acc.length + 1)) (acc.length + 1) = N) := hide (by rw [show 41 - (acc.length + 1) = 40 - acc.length by omega]; exact hg)
          have HB2 := hide (named_take hnb)
          have h4f : ((acc.length : Int) == 40) = false := by simp only [beq_eq_false_iff_ne, ne_eq]; omega
          have HAX : Hid (acc ++ [x] = r.take (acc.length + 1)) := hide (by
            rw [List.take_succ_eq_append_getElem hlt, ← HAC.out]
            congr 1
            have := HX.out
            rw [drop_at hlt] at this
            rw [← this]; rfl)
          have hmv : ∀ n, RL ((wr.drewN n).setCell ⟨b, 1, none⟩ (.int .i64 ((k : Int) + (acc.length : Int) + 1))) b s (k + (acc.length + 1)) g 0 0 := fun n => (HI.out.drewN n).moved (by omega) (by omega)
          have HMV := hide hmv
          clear hnb hg hmv
          go_wp2_with fail
          refine S0.out.mono ?_
          rintro e w1 ⟨rfl, n, rfl⟩
          go_wp2_with fail
          refine (rIsLetter_any x _).mono ?_
          rintro e w2 ⟨rfl, rfl⟩
          go_wp2_with fail
          refine (S1.out n).mono ?_
          rintro e w3 ⟨rfl, n3, rfl⟩
          go_wp2_with fail
          refine (rIsNumeral_any x _).mono ?_
          rintro e w4 ⟨rfl, rfl⟩
          go_wp2
          go_quiet (fail)
          go_wp2
          go_roundw
          case rel => exact ⟨acc ++ [x], by rw [HSL.out], hide (by rw [List.length_append]; exact HAX.out), by simp; omega, by simp; omega, hide (by rw [List.length_append]; exact HG2.out), hide (.inr (by rw [List.length_append]; exact HB2.out)), hide (by rw [List.length_append]; exact HMV.out _), hide ((HK.out.drewN _).set _ _)⟩
          case measure => rw [HM.out _ _ (HMV.out _), HM.out _ _ HI.out]; omega
    | false =>
      have hm2 := HMB.out
      rw [hGO, eq_comm, Bool.or_eq_false_iff] at hm2
      obtain ⟨hL, hD0⟩ := hm2
      have hj : acc.length < 41 := by omega
      have hnb : namedB r acc.length = false := by
        by_cases h4 : acc.length = 40
        · rw [h4]; exact named_40 r
        · rw [named_nm HB.out (by omega)]; exact hGO
      have hg := HGG.out
      rw [hnb, if_neg (by simp)] at hg
      have HGO := hide hGO
      clear hGO hnb
      by_cases h0 : acc = []
      · subst h0
        have hO : O = .error r := by
          rw [← HO.out]
          unfold nameR nameE
          rw [HN.out, ← hg]; rfl
        have hps : (pos s r : Int) = (k : Int) := by
          unfold pos
          omega
        have HPS := hide hps
        subst hO
        clear hps hD0 hg
        go_wp2_with fail
        refine S0.out.mono ?_
        rintro e w1 ⟨rfl, n, rfl⟩
        go_wp2_with fail
        refine (rIsLetter_any x _).mono ?_
        rintro e w2 ⟨rfl, rfl⟩
        go_wp2_with fail
        refine (rwrong_any (wr.drewN n) b k g s 0 (HI.out.drewN _) 1 _ (by omega) (by omega)).mono ?_
        rintro e w9 ⟨rfl, hk9, hr9⟩
        have HK9 := hide hk9
        have HR9 := hide hr9
        clear hk9 hr9
        go_wp2
        go_ret
        refine ⟨(HK.out.drewN _).trans HK9.out, _, k, rfl, ⟨[], rfl⟩, ?_⟩
        rw [HPS.out]
        exact HR9.out
      · have hne : acc.length ≠ 0 := fun e => h0 (List.eq_nil_of_length_eq_zero e)
        rw [decide_eq_true hne, Bool.true_and] at hD0
        have hie : acc.isEmpty = false := by
          cases acc with
          | nil => exact absurd rfl h0
          | cons _ _ => rfl
        have hO : O = .ok (acc, r.drop acc.length) := by
          rw [← HO.out]
          unfold nameR nameE
          rw [HN.out, ← hg, if_neg hne]
          simp only
          rw [if_neg (by rw [HGO.out]; simp), ← HAC.out]
        subst hO
        clear hg
        go_wp2_with fail
        refine S0.out.mono ?_
        rintro e w1 ⟨rfl, n, rfl⟩
        go_wp2_with fail
        refine (rIsLetter_any x _).mono ?_
        rintro e w2 ⟨rfl, rfl⟩
        go_wp2_with fail
        refine (S1.out n).mono ?_
        rintro e w3 ⟨rfl, n3, rfl⟩
        go_wp2_with fail
        refine (rIsNumeral_any x _).mono ?_
        rintro e w4 ⟨rfl, rfl⟩
        go_wp2
        go_ret
        exact ⟨HK.out.drewN _, rfl, k + acc.length, HI.out.drewN _, HDD.out, by omega⟩
end Go.Proofs.YtdlmgkncneifaaaGreat.Rn
