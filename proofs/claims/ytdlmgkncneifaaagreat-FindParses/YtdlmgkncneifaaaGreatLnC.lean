/- line: named, Name, next, valueByte. -/
import Derived.Laws.OwnMore
import Derived.Test.YtdlmgkncneifaaaGreatProg
import Derived.Test.YtdlmgkncneifaaaGreatKit
import Derived.Test.YtdlmgkncneifaaaGreatReg
import Derived.Test.YtdlmgkncneifaaaGreatLSpec
import Derived.Test.YtdlmgkncneifaaaGreatLRow
import Derived.Test.YtdlmgkncneifaaaGreatLChk
import Derived.Test.YtdlmgkncneifaaaGreatLnA
import Derived.Test.YtdlmgkncneifaaaGreatLnB
import Derived.BigQuiet
set_option linter.unusedVariables false
set_option linter.unusedSimpArgs false
namespace Go.Proofs.YtdlmgkncneifaaaGreat.Ln
open Go.RowKit Lb
attribute [local go_sem] bs_size bs_toList bs_append bs_get bs_extract

/-- Are the first k + 1 bytes there, and a name? -/
def namedB (r : List UInt8) (k : Nat) : Bool := decide (k < r.length) && nameB (r.take (k + 1))
def namGo (r : List UInt8) : Nat → Nat → Nat
  | 0, k => k
  | n + 1, k => if namedB r k = true then namGo r n (k + 1) else k
/-- How many bytes are a name, and all beginnings of it. -/
def namN (r : List UInt8) : Nat := namGo r 41 0
def nameE (r : List UInt8) : Except (List UInt8) (List UInt8 × List UInt8) := if namN r = 0 then .error r else .ok (r.take (namN r), r.drop (namN r))
theorem suf_drop {t r : List UInt8} (h : r <:+ t) (k : Nat) : r.drop k <:+ t := (List.drop_suffix k r).trans h
theorem pos_drop {t r : List UInt8} (h : r <:+ t) {k : Nat} (hk : k ≤ r.length) : pos t (r.drop k) = pos t r + k := by
  have h1 := suf_len h
  have h2 := suf_len (suf_drop h k)
  rw [List.length_drop] at h2
  omega
set_option maxRecDepth 20000 in
set_option maxHeartbeats 1000000 in
theorem named_any (w : World) (b f : Nat) (t r : List UInt8) (k : Nat) (hs : r <:+ t) (hk : k ≤ r.length) (h : InL w b t f (r.drop k)) :
    Calls Tryz.prog 53 #[.pointer (some ⟨b, 0, none⟩), .int .i64 (pos t r : Int)] w fun e w' => e = .returned (.bool (namedB r k)) ∧ ∃ n, w' = w.drewN n := by
  have hE := hide fun q => ended_any (w.drewN q) b f t (r.drop k) (h.drewN q)
  obtain ⟨c0, c1, c2, z2⟩ := three_cells h.cell
  have hl := h.len
  have hpd := pos_drop hs hk
  have hpl := suf_len hs
  have hdp := drop_pos hs
  unfold namedB
  by_cases hlt : k < r.length
  · rw [show decide (r.drop k = []) = false from decide_eq_false (fun e => by have := congrArg List.length e; simp at this; omega)] at hE
    rw [decide_eq_true hlt]
    obtain ⟨p, hp⟩ : ∃ p, pos t r = p := ⟨_, rfl⟩
    obtain ⟨a, ha⟩ : ∃ a, pos t (r.drop k) = a := ⟨_, rfl⟩
    rw [hp] at hpd hpl hdp ⊢
    rw [ha] at hpd c2
    have hx : (t.drop p).take (a + 1 - p) = r.take (k + 1) := by rw [hdp, show a + 1 - p = k + 1 by omega]
    have HX := hide hx
    obtain ⟨NB, HNB⟩ : ∃ NB, Hid (nameB (r.take (k + 1)) = NB) := ⟨_, hide rfl⟩
    have HIN : Hid (∀ W, Calls Tryz.prog 70 #[.string (bs ((t.drop p).take (a + 1 - p)))] W fun e w' => e = .returned (.bool NB) ∧ ∃ n, w' = W.drewN n) := hide fun W => by
      rw [HX.out, ← HNB.out]
      refine (isName_any (r.take (k + 1)) W (by have := List.length_take_le (k + 1) r; unfold maxLen; omega)).mono ?_
      rintro e w' ⟨rfl, rfl⟩
      exact ⟨rfl, 0, rfl⟩
    have h1 : (p : Int) ≤ (a : Int) + 1 := by omega
    have h2 : (a : Int) + 1 ≤ (t.length : Int) := by omega
    have h3 : ((a : Int) + 1).toNat = a + 1 := by omega
    have h4 : (0 : Int) ≤ (a : Int) + 1 := by omega
    rw [HNB.out]
    clear h hs hk hp ha hdp hx hpd hlt
    go_enter Tryz.func53, Tryz.ntmps53
    go_wp2
    go_quiet ((first | (go_at_call 17; exact Calls.quiet_of (hE.out _)) | (go_at_call 70; exact Calls.quiet_of (HIN.out _))))
    go_wp2
    go_ret
    exact ⟨rfl, _, rfl⟩
  · rw [show decide (r.drop k = []) = true from decide_eq_true (List.drop_eq_nil_of_le (by omega))] at hE
    rw [decide_eq_false hlt]
    generalize pos t r = p at *
    clear h hs hk hdp
    go_enter Tryz.func53, Tryz.ntmps53
    go_wp2
    go_quiet ((go_at_call 17; exact Calls.quiet_of (hE.out _)))
    go_wp2
    go_ret
    exact ⟨rfl, _, rfl⟩
set_option maxRecDepth 20000 in
set_option maxHeartbeats 1000000 in
theorem name_any (w : World) (b f : Nat) (t r : List UInt8) (h : InL w b t f r) : Calls Tryz.prog 71 #[.pointer (some ⟨b, 0, none⟩)] w (lineAs b f t (fun s => .string (bs s)) (nameE r) w) := by
  obtain ⟨c0, c1, c2, z2⟩ := three_cells h.cell
  have HH := hide h
  have HSF := hide h.suf
  have hl := h.len
  have hpl := suf_len h.suf
  obtain ⟨N, HN⟩ : ∃ N, Hid (namN r = N) := ⟨_, hide rfl⟩
  obtain ⟨O, HO⟩ : ∃ O, Hid (nameE r = O) := ⟨_, hide rfl⟩
  rw [HO.out]
  clear h
  obtain ⟨p0, HP0⟩ : ∃ p0, Hid (pos t r = p0) := ⟨_, hide rfl⟩
  rw [HP0.out] at c2 hpl
  go_enter Tryz.func71, Tryz.ntmps71
  go_wp2
  go_loopw [10] (fun _ wr => ∃ k : Nat, k ≤ 40 ∧ k ≤ r.length ∧ Hid (namGo r (41 - k) k = N) ∧ Hid (InL wr b t f (r.drop k)) ∧ Hid (KI b w wr)) (fun _ wr => match wr.heap[b]? with | some (.cells c _ _) => t.length - (intOf (c.getD 2 undef)).toNat | _ => 0)
  case atStart => exact ⟨0, by omega, by omega, HN, HH, hide (KI.refl _ _)⟩
  case round =>
    obtain ⟨k, hk40, hkr, HG, HI, HK⟩ := hrel
    obtain ⟨d0, d1, d2, y2⟩ := three_cells HI.out.cell
    have hpd := pos_drop HSF.out hkr
    rw [HP0.out] at hpd
    have hm : ∀ (W : World) (q : List UInt8), InL W b t f q → (match W.heap[b]? with | some (.cells c _ _) => t.length - (intOf (c.getD 2 undef)).toNat | _ => 0) = q.length := fun W q hq => by
      rw [hq.cell]
      have := suf_len hq.suf
      simp [intOf]
      omega
    have HM := hide hm
    have HC := hide (named_any wr b f t r k HSF.out hkr HI.out)
    rw [HP0.out] at HC
    have hfu : 41 - k = (40 - k) + 1 := by omega
    have hg := HG.out
    rw [hfu, namGo] at hg
    rw [hpd] at d2
    clear hm hfu
    cases hn : namedB r k with
    | true =>
      rw [hn] at HC hg
      rw [if_pos rfl] at hg
      unfold namedB at hn
      simp only [Bool.and_eq_true, decide_eq_true_eq] at hn
      obtain ⟨hlt, hnb⟩ := hn
      have h40 := (nameB_len hnb).2
      rw [List.length_take] at h40
      have HG2 : Hid (namGo r (41 - (k + 1)) (k + 1) = N) := hide (by rw [show 41 - (k + 1) = 40 - k by omega]; exact hg)
      have hmv : ∀ n, InL ((wr.drewN n).setCell ⟨b, 2, none⟩ (.int .i64 ((p0 : Int) + (k : Int) + 1))) b t f (r.drop (k + 1)) := fun n => (HI.out.drewN n).moved (suf_drop HSF.out _) (by rw [pos_drop HSF.out (by omega : k + 1 ≤ r.length), HP0.out]; omega)
      have HMV := hide hmv
      clear hg hnb hmv
      go_wp2_with fail
      refine HC.out.mono ?_
      rintro e w1 ⟨rfl, n, rfl⟩
      go_wp2
      go_roundw
      case rel => exact ⟨k + 1, by omega, by omega, HG2, hide (HMV.out n), hide ((HK.out.drewN n).set _ _)⟩
      case measure => rw [HM.out _ _ (HMV.out n), HM.out _ _ HI.out, List.length_drop, List.length_drop]; omega
    | false =>
      rw [hn] at HC hg
      rw [if_neg (by simp)] at hg
      subst hg
      clear hn
      by_cases hk0 : k = 0
      · have hO : O = .error r := by rw [← HO.out]; unfold nameE; rw [HN.out, if_pos hk0]
        subst hO hk0
        go_wp2_with fail
        refine HC.out.mono ?_
        rintro e w1 ⟨rfl, n, rfl⟩
        go_wp2_with fail
        refine (giveUp_any _ b f t (r.drop 0) (HI.out.drewN n)).mono ?_
        rintro e w2 ⟨rfl, rfl⟩
        exact ⟨rfl, HK.out.drewN n, rfl⟩
      · have hO : O = .ok (r.take k, r.drop k) := by rw [← HO.out]; unfold nameE; rw [HN.out, if_neg hk0]
        subst hO
        have hq1 : ((p0 : Int) + (k : Int) == (p0 : Int)) = false := by
          simp only [beq_eq_false_iff_ne, ne_eq]; omega
        have hq2 : (p0 : Int) ≤ (p0 : Int) + (k : Int) := by omega
        have hq3 : (p0 : Int) + (k : Int) ≤ (t.length : Int) := by omega
        have hq4 : ((p0 : Int) + (k : Int)).toNat = p0 + k := by omega
        have hx : (t.drop p0).take k = r.take k := by rw [← HP0.out, drop_pos HSF.out]
        have HX := hide hx
        clear hx
        go_wp2_with fail
        refine HC.out.mono ?_
        rintro e w1 ⟨rfl, n, rfl⟩
        go_wp2
        go_quiet (fail)
        go_wp2
        go_ret
        refine ⟨(HK.out.drewN n).drewN _, ?_, (HI.out.drewN n).drewN _⟩
        rw [← HX.out]
        rfl
def nextE : List UInt8 → Except (List UInt8) (UInt8 × List UInt8)
  | [] => .error []
  | c :: r => .ok (c, r)
set_option maxRecDepth 20000 in
set_option maxHeartbeats 1000000 in
theorem next_any (w : World) (b f : Nat) (t r : List UInt8) (h : InL w b t f r) : Calls Tryz.prog 109 #[.pointer (some ⟨b, 0, none⟩)] w (lineAs b f t (fun c => .int .u8 (c.toNat : Int)) (nextE r) w) := by
  have hE := hide (ended_any w b f t r h)
  have HH := hide h
  obtain ⟨c0, c1, c2, z2⟩ := three_cells h.cell
  have hl := h.len
  cases r with
  | nil =>
    rw [show decide (([] : List UInt8) = []) = true from rfl] at hE
    clear h
    go_enter Tryz.func109, Tryz.ntmps109
    go_wp2_with fail
    refine hE.out.mono ?_
    rintro e w1 ⟨rfl, n, rfl⟩
    go_wp2_with fail
    refine (giveUp_any _ b f t [] (HH.out.drewN n)).mono ?_
    rintro e w2 ⟨rfl, rfl⟩
    exact ⟨rfl, (KI.refl _ _).drewN n, rfl⟩
  | cons c r =>
    rw [show decide ((c :: r) = []) = false from rfl] at hE
    obtain ⟨hp, hg⟩ := get_pos h.suf
    have hpt := pos_tail h.suf
    have HPT : Hid ((pos t (c :: r) : Int) + 1 = (pos t r : Int)) := hide (by omega)
    have HS := hide (suf_tail h.suf)
    have hmv : ∀ n, InL ((w.drewN n).setCell ⟨b, 2, none⟩ (.int .i64 ((pos t (c :: r) : Int) + 1))) b t f r := fun n => (HH.out.drewN n).moved HS.out HPT.out
    have HMV := hide hmv
    generalize pos t (c :: r) = p at *
    have hpi : (p : Int) < (t.length : Int) := by omega
    have h5 : (p : Int) + 1 - 1 = (p : Int) := by omega
    have HG := hide hg
    have hcell2 : ∀ n, ((w.drewN n).setCell ⟨b, 2, none⟩ (.int .i64 ((p : Int) + 1))).cell? ⟨b, 2, none⟩ = some (.int .i64 ((p : Int) + 1)) ∧ ((w.drewN n).setCell ⟨b, 2, none⟩ (.int .i64 ((p : Int) + 1))).cell? ⟨b, 0, none⟩ = some (.string (bs t)) := fun n => by
      obtain ⟨e0, e1, e2, e3⟩ := three_cells (HMV.out n).cell
      exact ⟨by rw [e2, HPT.out], e0⟩
    have HC2 := hide hcell2
    clear h hg hpt hmv hcell2
    go_enter Tryz.func109, Tryz.ntmps109
    go_wp2_with fail
    refine hE.out.mono ?_
    rintro e w1 ⟨rfl, n, rfl⟩
    go_wp2
    obtain ⟨W, HW⟩ : ∃ W, Hid ((w.drewN n).setCell ⟨b, 2, none⟩ (.int .i64 ((p : Int) + 1)) = W) := ⟨_, hide rfl⟩
    obtain ⟨e2, e0⟩ := HC2.out n
    rw [HW.out] at e2 e0 ⊢
    go_quiet (fail)
    go_wp2
    go_ret
    refine ⟨?_, ?_, ?_⟩
    · rw [← HW.out]; exact (((KI.refl _ _).drewN n).set _ _).drewN _
    · rw [HG.out]; rfl
    · rw [← HW.out]; exact (HMV.out n).drewN _
/-- A byte of a value, which may be told by two. -/
def vbE (r : List UInt8) : Except (List UInt8) (UInt8 × List UInt8) :=
  if skipB 92 r = true then
    match skipR 92 r with
    | [] => .error []
    | c :: q => if c = 92 ∨ c = 34 then .ok (c, q) else if c = 110 then .ok (10, q) else .error (c :: q)
  else nextE r
set_option maxRecDepth 20000 in
set_option maxHeartbeats 1000000 in
theorem valueByte_any (w : World) (b f : Nat) (t r : List UInt8) (h : InL w b t f r) : Calls Tryz.prog 97 #[.pointer (some ⟨b, 0, none⟩)] w (lineAs b f t (fun c => .int .u8 (c.toNat : Int)) (vbE r) w) := by
  have S1 := hide (skip_any w b f t r 92 h)
  obtain ⟨O, HO⟩ : ∃ O, Hid (vbE r = O) := ⟨_, hide rfl⟩
  rw [HO.out]
  have hO := HO.out
  unfold vbE at hO
  cases hs : skipB 92 r with
  | false =>
    rw [hs, if_neg (by simp)] at hO
    rw [hs, skipB_no hs] at S1
    clear h hs
    go_enter Tryz.func97, Tryz.ntmps97
    go_wp2_with fail
    refine S1.out.mono ?_
    rintro e w1 ⟨rfl, hk, hi⟩
    have HK := hide hk
    have S2 := hide (next_any w1 b f t r hi)
    clear hk hi S1
    cases hn : nextE r with
    | error q =>
      rw [hn] at S2 hO
      subst hO
      clear hn
      go_wp2_with fail
      refine S2.out.mono ?_
      rintro e w2 ⟨hk2, rfl⟩
      exact ⟨rfl, HK.out.trans hk2, rfl⟩
    | ok x =>
      rw [hn] at S2 hO
      subst hO
      clear hn
      go_wp2_with fail
      refine S2.out.mono ?_
      rintro e w2 ⟨hk2, rfl, hi2⟩
      have HK2 := hide (HK.out.trans hk2)
      have HI2 := hide hi2
      clear hk2 hi2 S2
      go_wp2
      go_ret
      exact ⟨HK2.out, rfl, HI2.out⟩
  | true =>
    rw [hs, if_pos rfl] at hO
    rw [hs] at S1
    obtain ⟨r1, hr1⟩ : ∃ r1, skipR 92 r = r1 := ⟨_, rfl⟩
    rw [hr1] at S1 hO
    clear h hs hr1
    go_enter Tryz.func97, Tryz.ntmps97
    go_wp2_with fail
    refine S1.out.mono ?_
    rintro e w1 ⟨rfl, hk, hi⟩
    have HK := hide hk
    have HI := hide hi
    have S2 := hide (next_any w1 b f t r1 hi)
    obtain ⟨c0, c1, c2, z2⟩ := three_cells hi.cell
    clear hk hi S1
    cases r1 with
    | nil =>
      simp only [nextE] at S2 hO
      subst hO
      go_wp2_with fail
      refine S2.out.mono ?_
      rintro e w2 ⟨hk2, rfl⟩
      exact ⟨rfl, HK.out.trans hk2, rfl⟩
    | cons c q =>
      simp only [nextE] at S2 hO
      have hcl := c.toNat_lt
      obtain ⟨p, HP⟩ : ∃ p, Hid (pos t (c :: q) = p) := ⟨_, hide rfl⟩
      rw [HP.out] at c2
      have HSUF := hide HI.out.suf
      by_cases h1 : c = 92
      · subst h1
        rw [if_pos (.inl rfl)] at hO
        subst hO
        go_wp2_with fail
        refine S2.out.mono ?_
        rintro e w2 ⟨hk2, rfl, hi2⟩
        have HK2 := hide (HK.out.trans hk2)
        have HI2 := hide hi2
        clear hk2 hi2 S2
        go_wp2
        go_ret
        exact ⟨HK2.out, rfl, HI2.out⟩
      · have h1i : ((c.toNat : Int) == 92) = false := by
          simp only [beq_eq_false_iff_ne, ne_eq]; intro e; exact h1 (UInt8.toNat_inj.1 (by simpa using (show c.toNat = 92 by omega)))
        by_cases h2 : c = 34
        · subst h2
          rw [if_pos (.inr rfl)] at hO
          subst hO
          clear h1 h1i
          go_wp2_with fail
          refine S2.out.mono ?_
          rintro e w2 ⟨hk2, rfl, hi2⟩
          have HK2 := hide (HK.out.trans hk2)
          have HI2 := hide hi2
          clear hk2 hi2 S2
          go_wp2
          go_ret
          exact ⟨HK2.out, rfl, HI2.out⟩
        · have h2i : ((c.toNat : Int) == 34) = false := by
            simp only [beq_eq_false_iff_ne, ne_eq]; intro e; exact h2 (UInt8.toNat_inj.1 (by simpa using (show c.toNat = 34 by omega)))
          rw [if_neg (by intro h; rcases h with h | h; exact h1 h; exact h2 h)] at hO
          by_cases h3 : c = 110
          · subst h3
            rw [if_pos rfl] at hO
            subst hO
            clear h1 h1i h2 h2i
            go_wp2_with fail
            refine S2.out.mono ?_
            rintro e w2 ⟨hk2, rfl, hi2⟩
            have HK2 := hide (HK.out.trans hk2)
            have HI2 := hide hi2
            clear hk2 hi2 S2
            go_wp2
            go_ret
            exact ⟨HK2.out, rfl, HI2.out⟩
          · have h3i : ((c.toNat : Int) == 110) = false := by
              simp only [beq_eq_false_iff_ne, ne_eq]; intro e; exact h3 (UInt8.toNat_inj.1 (by simpa using (show c.toNat = 110 by omega)))
            rw [if_neg h3] at hO
            subst hO
            clear h1 h2 h3
            go_wp2_with fail
            refine S2.out.mono ?_
            rintro e w2 ⟨hk2, rfl, hi2⟩
            have HK2 := hide (HK.out.trans hk2)
            obtain ⟨d0, d1, d2, y2⟩ := three_cells hi2.cell
            have HI3 := hide (hi2.moved (r' := c :: q) HSUF.out (p := (p : Int)) (by rw [HP.out]))
            clear hk2 hi2 S2
            go_wp2_with fail
            refine (giveUp_any _ b f t (c :: q) HI3.out).mono ?_
            rintro e w3 ⟨rfl, rfl⟩
            exact ⟨rfl, HK2.out.set _ _, rfl⟩
end Go.Proofs.YtdlmgkncneifaaaGreat.Ln
