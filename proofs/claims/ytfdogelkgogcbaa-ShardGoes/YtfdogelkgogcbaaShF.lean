/- shard: how many go. -/
import Derived.Laws.OwnMore
import Derived.Test.YtfdogelkgogcbaaProg
import Derived.Test.YtfdogelkgogcbaaKit
import Derived.Test.YtfdogelkgogcbaaReg
import Derived.Test.YtfdogelkgogcbaaShA
import Derived.Test.YtfdogelkgogcbaaShC
import Derived.Test.YtfdogelkgogcbaaShD
import Derived.BigQuiet
set_option linter.unusedVariables false
set_option linter.unusedSimpArgs false
namespace Go.Proofs.Ytfdogelkgogcbaa.Sh
open Go.RowKit
attribute [local go_sem] bs_size bs_toList bs_append bs_get bs_extract

/-- How many go, from m on. -/
def aheadN (l : List Itm) (m : Nat) : Nat := if h : m = 0 then 0 else if writeErr (sersOf (l.take m)) = 0 then m else aheadN l (m / 2)
termination_by m
decreasing_by omega
theorem aheadN_zero (l : List Itm) : aheadN l 0 = 0 := by rw [aheadN]; rfl
theorem aheadN_yes {l : List Itm} {m : Nat} (h0 : m ≠ 0) (h : writeErr (sersOf (l.take m)) = 0) : aheadN l m = m := by rw [aheadN, dif_neg h0, if_pos h]
theorem aheadN_no {l : List Itm} {m : Nat} (h0 : m ≠ 0) (h : ¬ writeErr (sersOf (l.take m)) = 0) : aheadN l m = aheadN l (m / 2) := by rw [aheadN, dif_neg h0, if_neg h]
theorem aheadN_le (l : List Itm) (m : Nat) : aheadN l m ≤ m := by
  induction m using Nat.strongRecOn with
  | ind m ih =>
    by_cases h0 : m = 0
    · subst h0; rw [aheadN_zero]; omega
    · by_cases h : writeErr (sersOf (l.take m)) = 0
      · rw [aheadN_yes h0 h]; omega
      · rw [aheadN_no h0 h]; have := ih (m / 2) (by omega); omega
def firstM (s : Shd) : Nat := min s.batch.toNat s.items.length
/-- What is packed of those that go. -/
def aheadT (l : List Itm) (n : Nat) (T : List UInt8) : Prop := (n = 0 ∧ T = []) ∨ (n ≠ 0 ∧ writeErr (sersOf (l.take n)) = 0 ∧ ∃ P, Packs (writeTxt (sersOf (l.take n))) P ∧ T = numB (writeTxt (sersOf (l.take n))).length ++ P)

set_option maxRecDepth 20000 in
set_option maxHeartbeats 2000000 in
theorem ahead_any (w : World) (vi : Value) (s : Shd) (hv : readsItems w w.heap.size vi s.items) (hok : okShd s) (hlen : s.items.length ≤ 1000) (hb : 1 ≤ s.batch) :
    Calls Try.prog 35 #[.agg #[vi, .int .i64 s.batch, .int .i64 s.room, .int .i64 s.first, .int .i64 s.most, .int .i64 s.waits, .int .i64 s.till]] w fun e w' => ∃ T, e = .returned (.tuple #[.int .i64 (aheadN s.items (firstM s) : Nat), .string (bs T)]) ∧ aheadT s.items (aheadN s.items (firstM s)) T ∧ Grow w w' := by
  obtain ⟨M, HM⟩ : ∃ M, Hid (firstM s = M) := ⟨_, hide rfl⟩
  obtain ⟨N, HN⟩ : ∃ N, Hid (aheadN s.items M = N) := ⟨_, hide rfl⟩
  rw [HM.out, HN.out]
  obtain ⟨hl, hit, hbb, -⟩ := hok
  obtain ⟨is, batch, room, first, most, waits, till⟩ := s
  have HM1 : Hid (min batch.toNat is.length = M) := HM
  simp only at hv hl hit hbb hlen hb HN ⊢
  have HIT := hide hit
  have HV := hide hv
  obtain ⟨io, ic, hvi, hcap, -⟩ := hv
  subst hvi
  obtain ⟨W, eW, gW, hW⟩ := laid_at w #[.slice io is.length ic, .int .i64 batch, .int .i64 room, .int .i64 first, .int .i64 most, .int .i64 waits, .int .i64 till] 24
  obtain ⟨c0, c1, c2, c3, c4, c5, c6⟩ := seven_of hW
  have HG := hide gW
  have HW := hide hW
  clear gW hW hit HM
  go_enter Try.func35, Try.ntmps35
  go_wp2
  rw [show min batch (is.length : Int) = (M : Int) by rw [← HM1.out]; omega]
  have hMl : M ≤ is.length := by rw [← HM1.out]; omega
  go_loopw [4, 5, 6] (fun nv _ _ wr => ∃ m : Nat, m ≤ is.length ∧ nv = .int .i64 m ∧ Hid (aheadN is m = N) ∧ Hid (Grow W wr)) (fun nv _ _ _ => (intOf nv).toNat)
  case atStart => exact ⟨M, hMl, rfl, HN, hide (Grow.refl _)⟩
  case round =>
    clear c0 c1 c2 c3 c4 c5 c6
    obtain ⟨m, hml, rfl, HNm, HGr⟩ := hrel
    have HGwr : Hid (Grow w wr) := hide (HG.out.trans HGr.out)
    obtain ⟨c0, c1, c2, c3, c4, c5, c6⟩ := seven_of (HGr.out.get HW.out)
    by_cases hm0 : m = 0
    · subst hm0
      have HZ : Hid (N = 0) := hide (by rw [← HNm.out, aheadN_zero])
      go_wp2
      go_ret2
      exact ⟨[], by rw [HZ.out]; rfl, .inl ⟨HZ.out, rfl⟩, HGwr.out⟩
    · have hmp : decide (0 < m) = true := decide_eq_true (by omega)
      have hkl : (m : Int) ≤ (ic : Int) := by omega
      have hkn : m ≤ ic := by omega
      have HP := hide (packed_any wr (.slice io m ic) (is.take m) (((HV.out.keep HGwr.out).take hml).more HGwr.out.size) (by rw [List.length_take]; omega) (fun x hx => HIT.out x (List.mem_of_mem_take hx)))
      have HM0 := hide hm0
      have hdiv : (m : Int).tdiv 2 = ((m / 2 : Nat) : Int) := by rw [Int.tdiv_eq_ediv_of_nonneg (by omega)]; omega
      clear hm0
      go_wp2_with fail
      refine HP.out.mono ?_
      rintro e w2 ⟨T, PE, rfl, hres, hg2⟩
      have HG2 : Hid (Grow W w2) := hide (HGr.out.trans hg2)
      clear hg2 HP
      rcases hres with ⟨h1, rfl, rfl⟩ | ⟨h1, rfl, P, hP, rfl⟩
      · have hne : (writeErr (sersOf (is.take m)) == 0) = false := by rw [beq_eq_false_iff_ne]; exact h1
        have HA2 : Hid (aheadN is (m / 2) = N) := hide (by rw [← HNm.out, aheadN_no HM0.out h1])
        generalize writeErr (sersOf (is.take m)) = we at hne
        clear h1
        go_wp2
        go_roundw
        case rel => exact ⟨m / 2, Nat.le_trans (Nat.div_le_self _ _) hml, by simp, HA2, HG2⟩
        case measure =>
          have := HM0.out
          simp [intOf]
          omega
      · have HA2 : Hid (N = m) := hide (by rw [← HNm.out, aheadN_yes HM0.out h1])
        have H1 := hide h1
        have HPP := hide hP
        clear h1 hP
        go_wp2
        go_ret2
        exact ⟨_, by rw [HA2.out]; rfl, .inr ⟨by rw [HA2.out]; exact HM0.out, by rw [HA2.out]; exact H1.out, P, by rw [HA2.out]; exact HPP.out, by rw [HA2.out]⟩, HG.out.trans HG2.out⟩
end Go.Proofs.Ytfdogelkgogcbaa.Sh
