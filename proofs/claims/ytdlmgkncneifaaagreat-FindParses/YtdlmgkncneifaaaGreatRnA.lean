/- The reference's line: what it is; next, wrong, blanks, must. -/
import Derived.Laws.OwnMore
import Derived.Test.YtdlmgkncneifaaaGreatProg
import Derived.Test.YtdlmgkncneifaaaGreatKit
import Derived.Test.YtdlmgkncneifaaaGreatReg
import Derived.Test.YtdlmgkncneifaaaGreatLSpec
import Derived.Test.YtdlmgkncneifaaaGreatLRow
import Derived.Test.YtdlmgkncneifaaaGreatLRefA
import Derived.Test.YtdlmgkncneifaaaGreatLnA
import Derived.Test.YtdlmgkncneifaaaGreatLnB
import Derived.BigQuiet
set_option linter.unusedVariables false
set_option linter.unusedSimpArgs false
namespace Go.Proofs.YtdlmgkncneifaaaGreat.Rn
open Go.RowKit Lb Ln
attribute [local go_sem] bs_size bs_toList bs_append bs_get bs_extract

/-- Block b is the reference's line of a text s that begins at g; k bytes of it are read; its fault is e at a. -/
structure RL (w : World) (b : Nat) (s : List UInt8) (k g : Nat) (e a : Int) : Prop where
  len : s.length ≤ 1000000
  kk : k ≤ 1000002
  fir : g ≤ 1000000
  cell : w.heap[b]? = some (.cells #[.string (bs s), .int .i64 (k : Int), .int .i64 (g : Int), .int .i64 e, .int .i64 a] 58 (0, 0))
theorem five_cells {w : World} {b : Nat} {x y z u v : Value} {t : TypeId} (h : w.heap[b]? = some (.cells #[x, y, z, u, v] t (0, 0))) : w.cell? ⟨b, 0, none⟩ = some x ∧ w.cell? ⟨b, 1, none⟩ = some y ∧ w.cell? ⟨b, 2, none⟩ = some z ∧ w.cell? ⟨b, 3, none⟩ = some u ∧ w.cell? ⟨b, 4, none⟩ = some v ∧ w.frozen? ⟨b, 1, none⟩ = false ∧ w.frozen? ⟨b, 3, none⟩ = false ∧ w.frozen? ⟨b, 4, none⟩ = false := by simp [World.cell?, World.frozen?, h]
theorem RL.drewN {w : World} {b k g : Nat} {s : List UInt8} {e a : Int} (h : RL w b s k g e a) (n : Nat) : RL (w.drewN n) b s k g e a := ⟨h.len, h.kk, h.fir, h.cell⟩
theorem RL.grow {w w' : World} {b k g : Nat} {s : List UInt8} {e a : Int} (h : RL w b s k g e a) (hg : Grow w w') : RL w' b s k g e a := ⟨h.len, h.kk, h.fir, hg.get h.cell⟩
theorem RL.moved {w : World} {b k g : Nat} {s : List UInt8} {e a : Int} (h : RL w b s k g e a) {k' : Nat} (hk : k' ≤ 1000002) {p : Int} (hp : p = (k' : Int)) : RL (w.setCell ⟨b, 1, none⟩ (.int .i64 p)) b s k' g e a := by
  subst hp
  refine ⟨h.len, hk, h.fir, ?_⟩
  simp [World.setCell, Array.getElem?_modify, h.cell]
theorem RL.failed {w : World} {b k g : Nat} {s : List UInt8} {e a : Int} (h : RL w b s k g e a) (e' a' : Int) : RL ((w.setCell ⟨b, 3, none⟩ (.int .i64 e')).setCell ⟨b, 4, none⟩ (.int .i64 a')) b s k g e' a' := by
  refine ⟨h.len, h.kk, h.fir, ?_⟩
  simp [World.setCell, Array.getElem?_modify, h.cell]
/-- The byte that comes; 10: there is none. -/
def nxt : List UInt8 → UInt8
  | [] => 10
  | x :: _ => x
theorem skipB_nxt {c : UInt8} {r : List UInt8} (hc : c ≠ 10) : skipB c r = (nxt r == c) := by
  cases r with
  | nil => symm; simpa [nxt, skipB] using fun e : (10 : UInt8) = c => hc e.symm
  | cons x r => rfl
theorem drop_at {s : List UInt8} {k : Nat} (h : k < s.length) : s.drop k = s[k] :: s.drop (k + 1) := List.drop_eq_getElem_cons h
set_option maxRecDepth 20000 in
set_option maxHeartbeats 1000000 in
theorem rnext_any (w : World) (b k g : Nat) (s : List UInt8) (e a : Int) (h : RL w b s k g e a) :
    Calls Tryz.prog 26 #[.pointer (some ⟨b, 0, none⟩)] w fun o w' => o = .returned (.int .u8 ((nxt (s.drop k)).toNat : Int)) ∧ ∃ n, w' = w.drewN n := by
  obtain ⟨c0, c1, c2, c3, c4, z1, z3, z4⟩ := five_cells h.cell
  have hl := h.len
  by_cases hlt : k < s.length
  · have hli : (k : Int) < (s.length : Int) := by omega
    rw [drop_at hlt]
    show Calls _ _ _ _ (fun o w' => o = .returned (.int .u8 ((s[k]).toNat : Int)) ∧ ∃ n, w' = w.drewN n)
    clear h
    go_enter Tryz.func26, Tryz.ntmps26
    go_wp2
    go_quiet (fail)
    go_wp2
    go_quiet (fail)
    go_wp2
    go_ret
    exact ⟨rfl, _, World.drewN_drewN _ _ _⟩
  · have hli : ¬ (k : Int) < (s.length : Int) := by omega
    rw [List.drop_eq_nil_of_le (by omega : s.length ≤ k)]
    clear h
    go_enter Tryz.func26, Tryz.ntmps26
    go_wp2
    go_quiet (fail)
    go_wp2
    go_ret
    exact ⟨rfl, _, rfl⟩
set_option maxRecDepth 20000 in
set_option maxHeartbeats 1000000 in
theorem rwrong_any (w : World) (b k g : Nat) (s : List UInt8) (a0 : Int) (h : RL w b s k g 0 a0) (e p : Int) (hp0 : 0 ≤ p) (hp1 : p ≤ 1000002) :
    Calls Tryz.prog 27 #[.pointer (some ⟨b, 0, none⟩), .int .i64 e, .int .i64 p] w fun o w' => o = .returned (.tuple #[]) ∧ KI b w w' ∧ RL w' b s k g e ((g : Int) + p) := by
  have HH := hide h
  obtain ⟨c0, c1, c2, c3, c4, z1, z3, z4⟩ := five_cells h.cell
  have hl := h.fir
  clear h
  go_enter Tryz.func27, Tryz.ntmps27
  go_wp2
  go_end0
  exact ⟨rfl, ((KI.refl _ _).set _ _).set _ _, HH.out.failed _ _⟩
set_option maxHeartbeats 1000000 in
theorem rIsBlank_any (c : UInt8) (w : World) : Calls Tryz.prog 43 #[.int .u8 (c.toNat : Int)] w fun e w' => e = .returned (.bool (decide (c = 32 ∨ c = 9))) ∧ ∃ n, w' = w.drewN n := by
  have hb : decide (c = 32 ∨ c = 9) = (((c.toNat : Int) == 32) || ((c.toNat : Int) == 9)) := by
    rw [Bool.eq_iff_iff, decide_eq_true_eq]
    simp only [Bool.or_eq_true, beq_iff_eq]
    constructor
    · rintro (rfl | rfl)
      · exact .inl rfl
      · exact .inr rfl
    · rintro (e | e)
      · exact .inl (UInt8.toNat_inj.1 (by show c.toNat = 32; omega))
      · exact .inr (UInt8.toNat_inj.1 (by show c.toNat = 9; omega))
  rw [hb]
  generalize (c.toNat : Int) = x
  by_cases h1 : x = 32
  · subst h1
    go_enter Tryz.func43, Tryz.ntmps43
    go_wp2
    go_ret
    exact ⟨rfl, 0, rfl⟩
  · have h1b : (x == 32) = false := by simpa using h1
    go_enter Tryz.func43, Tryz.ntmps43
    go_wp2
    go_ret
    exact ⟨by simp [h1b], 0, rfl⟩
theorem blR_in {s : List UInt8} {k : Nat} (h : k < s.length) (hb : nxt (s.drop k) = 32 ∨ nxt (s.drop k) = 9) : blR (s.drop (k + 1)) = blR (s.drop k) := by
  rw [drop_at h] at hb ⊢
  exact (blR_go rfl hb).symm
theorem blR_out {r : List UInt8} (hb : ¬ (nxt r = 32 ∨ nxt r = 9)) : blR r = r := by
  cases r with
  | nil => rfl
  | cons x r => rw [blR]; exact if_neg hb
set_option maxRecDepth 20000 in
set_option maxHeartbeats 1000000 in
theorem rblanks_any (w : World) (b k g : Nat) (s : List UInt8) (e a : Int) (h : RL w b s k g e a) :
    Calls Tryz.prog 44 #[.pointer (some ⟨b, 0, none⟩)] w fun o w' => ∃ d k', o = .returned (.bool d) ∧ KI b w w' ∧ RL w' b s k' g e a ∧ s.drop k' = blR (s.drop k) ∧ k ≤ k' ∧ (k ≤ s.length → k' ≤ s.length) := by
  have HH := hide h
  obtain ⟨c0, c1, c2, c3, c4, z1, z3, z4⟩ := five_cells h.cell
  have hl := h.len
  clear h
  go_enter Tryz.func44, Tryz.ntmps44
  go_wp2
  go_loopw [9] (fun _ wr => ∃ k' : Nat, k ≤ k' ∧ Hid (k ≤ s.length → k' ≤ s.length) ∧ Hid (RL wr b s k' g e a) ∧ Hid (blR (s.drop k') = blR (s.drop k)) ∧ Hid (KI b w wr)) (fun _ wr => match wr.heap[b]? with | some (.cells c _ _) => s.length - (intOf (c.getD 1 undef)).toNat | _ => 0)
  case atStart => exact ⟨k, Nat.le_refl _, hide id, HH, hide rfl, hide (KI.refl _ _)⟩
  case round =>
    obtain ⟨k', hkk, HLE, HI, HR, HK⟩ := hrel
    have hm : ∀ (W : World) (q : Nat), RL W b s q g e a → (match W.heap[b]? with | some (.cells c _ _) => s.length - (intOf (c.getD 1 undef)).toNat | _ => 0) = s.length - q := fun W q hq => by
      rw [hq.cell]
      simp [intOf]
    have HM := hide hm
    have S1 := hide (rnext_any wr b k' g s e a HI.out)
    obtain ⟨d0, d1, d2, d3, d4, y1, y3, y4⟩ := five_cells HI.out.cell
    have hk2 := HI.out.kk
    clear hm
    by_cases hb : nxt (s.drop k') = 32 ∨ nxt (s.drop k') = 9
    · have hlt : k' < s.length := by
        rcases Nat.lt_or_ge k' s.length with h | h
        · exact h
        · rw [List.drop_eq_nil_of_le h] at hb; simp [nxt] at hb
      have S2 := hide fun q => rIsBlank_any (nxt (s.drop k')) (wr.drewN q)
      rw [decide_eq_true hb] at S2
      have HB := hide (blR_in hlt hb)
      have hmv : ∀ n, RL ((wr.drewN n).setCell ⟨b, 1, none⟩ (.int .i64 ((k' : Int) + 1))) b s (k' + 1) g e a := fun n => (HI.out.drewN n).moved (by omega) (by omega)
      have HMV := hide hmv
      clear hb hmv
      go_wp2_with fail
      refine S1.out.mono ?_
      rintro e w1 ⟨rfl, n, rfl⟩
      go_wp2_with fail
      refine (S2.out n).mono ?_
      rintro e w2 ⟨rfl, m, rfl⟩
      clear S1 S2
      go_wp2
      go_roundw
      case rel => exact ⟨k' + 1, by omega, hide (fun h => by omega), hide (HMV.out (n + m)), hide (HB.out.trans HR.out), hide ((HK.out.drewN (n + m)).set _ _)⟩
      case measure => rw [HM.out _ _ (HMV.out (n + m)), HM.out _ _ HI.out]; omega
    · have S2 := hide fun q => rIsBlank_any (nxt (s.drop k')) (wr.drewN q)
      rw [decide_eq_false hb] at S2
      have HB := hide (blR_out hb)
      clear hb
      go_wp2_with fail
      refine S1.out.mono ?_
      rintro e w1 ⟨rfl, n, rfl⟩
      go_wp2_with fail
      refine (S2.out n).mono ?_
      rintro e w2 ⟨rfl, m, rfl⟩
      clear S1 S2
      go_wp2
      go_ret
      exact ⟨_, k', rfl, HK.out.drewN (n + m), HI.out.drewN (n + m), HB.out.symm.trans HR.out, hkk, HLE.out⟩
set_option maxRecDepth 20000 in
set_option maxHeartbeats 1000000 in
theorem rmust_any (w : World) (b k g : Nat) (s : List UInt8) (a0 : Int) (c : UInt8) (hc : c ≠ 10) (hk : k ≤ s.length) (h : RL w b s k g 0 a0) :
    Calls Tryz.prog 46 #[.pointer (some ⟨b, 0, none⟩), .int .u8 (c.toNat : Int)] w fun o w' => o = .returned (.tuple #[]) ∧ KI b w w' ∧
      if skipB c (s.drop k) = true then RL w' b s (k + 1) g 0 a0 ∧ s.drop (k + 1) = skipR c (s.drop k) ∧ k + 1 ≤ s.length else RL w' b s (k + 1) g 1 ((g : Int) + (k : Int)) := by
  have HH := hide h
  have S1 := hide (rnext_any w b k g s 0 a0 h)
  obtain ⟨c0, c1, c2, c3, c4, z1, z3, z4⟩ := five_cells h.cell
  have hl := h.len
  clear h
  obtain ⟨x, hx⟩ : ∃ x, nxt (s.drop k) = x := ⟨_, rfl⟩
  have hb := skipB_nxt (c := c) (r := s.drop k) hc
  rw [hx] at S1 hb
  by_cases hxc : x = c
  · subst hxc
    rw [beq_self_eq_true] at hb
    simp only [hb, if_true]
    have hlt : k < s.length := by
      rcases Nat.lt_or_ge k s.length with h | h
      · exact h
      · rw [List.drop_eq_nil_of_le h] at hb; cases hb
    have HSK : Hid (s.drop (k + 1) = skipR x (s.drop k)) := hide (by unfold skipR; rw [if_pos hb, drop_at hlt]; rfl)
    clear hb hx hc
    go_enter Tryz.func46, Tryz.ntmps46
    go_wp2_with fail
    refine S1.out.mono ?_
    rintro e w1 ⟨rfl, n, rfl⟩
    go_wp2
    go_end0
    exact ⟨rfl, ((KI.refl _ _).drewN n).set _ _, (HH.out.drewN n).moved (by omega) (by omega), HSK.out, by omega⟩
  · have hbb : (x == c) = false := by simpa using hxc
    rw [hbb] at hb
    simp only [hb, Bool.false_eq_true, if_false]
    have hxi : ((x.toNat : Int) != (c.toNat : Int)) = true := by
      simp only [bne_iff_ne, ne_eq]
      intro e; exact hxc (UInt8.toNat_inj.1 (by omega))
    clear hb hbb hx hxc hc
    go_enter Tryz.func46, Tryz.ntmps46
    go_wp2_with fail
    refine S1.out.mono ?_
    rintro e w1 ⟨rfl, n, rfl⟩
    have S2 := hide (rwrong_any (w.drewN n) b k g s a0 (HH.out.drewN n) 1 (k : Int) (by omega) (by omega))
    go_wp2_with fail
    refine S2.out.mono ?_
    rintro e w2 ⟨rfl, hk2, hr2⟩
    have HK2 := hide hk2
    have HR2 := hide hr2
    obtain ⟨d0, d1, d2, d3, d4, y1, y3, y4⟩ := five_cells hr2.cell
    clear hk2 hr2 S1 S2
    go_wp2
    go_end0
    exact ⟨rfl, (((KI.refl _ _).drewN n).trans HK2.out).set _ _, HR2.out.moved (by omega) (by omega)⟩
end Go.Proofs.YtdlmgkncneifaaaGreat.Rn
