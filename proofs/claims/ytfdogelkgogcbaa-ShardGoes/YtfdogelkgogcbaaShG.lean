/- shard: checkAt, Next. -/
import Derived.Laws.OwnMore
import Derived.Test.YtfdogelkgogcbaaProg
import Derived.Test.YtfdogelkgogcbaaKit
import Derived.Test.YtfdogelkgogcbaaReg
import Derived.Test.YtfdogelkgogcbaaShA
import Derived.Test.YtfdogelkgogcbaaShC
import Derived.Test.YtfdogelkgogcbaaShD
import Derived.Test.YtfdogelkgogcbaaShE
import Derived.Test.YtfdogelkgogcbaaShF
import Derived.BigQuiet
set_option linter.unusedVariables false
set_option linter.unusedSimpArgs false
namespace Go.Proofs.Ytfdogelkgogcbaa.Sh
open Go.RowKit
attribute [local go_sem] bs_size bs_toList bs_append bs_get bs_extract

def shdV (vi : Value) (s : Shd) : Value := .agg #[vi, .int .i64 s.batch, .int .i64 s.room, .int .i64 s.first, .int .i64 s.most, .int .i64 s.waits, .int .i64 s.till]
def atErr (s : Shd) (now : Int) : Nat := if shardErr s ≠ 0 then shardErr s else if timeB now = false then 3 else if now < s.till then 4 else 0
/-- A shard that passes Check. -/
theorem shardErr_zero {s : Shd} (h : shardErr s = 0) : inB s = true ∧ (s.items.length : Int) ≤ s.room ∧ s.room ≤ 100 ∧ 1 ≤ s.batch ∧ ∀ i, i < s.items.length → oneE s.items i = 0 := by
  unfold shardErr at h
  cases hb : inB s with
  | false => rw [hb] at h; simp at h
  | true =>
    rw [hb, if_neg (by simp)] at h
    by_cases hr : s.room < (s.items.length : Int)
    · rw [if_pos hr] at h; cases h
    · rw [if_neg hr] at h
      unfold inB at hb
      simp only [Bool.and_eq_true, decide_eq_true_eq] at hb
      exact ⟨rfl, by omega, hb.2.2.2.1, hb.1, firstN_zero h⟩
set_option maxRecDepth 20000 in
set_option maxHeartbeats 2000000 in
theorem checkAt_any (w : World) (vi : Value) (s : Shd) (now : Int) (hv : readsItems w w.heap.size vi s.items) (hok : okShd s) :
    Calls Try.prog 33 #[shdV vi s, .int .i64 now] w fun e w' => e = .returned (.int .i64 (atErr s now)) ∧ Grow w w' := by
  obtain ⟨E, HE⟩ : ∃ E, Hid (atErr s now = E) := ⟨_, hide rfl⟩
  rw [HE.out]
  obtain ⟨C, HC⟩ : ∃ C, Hid (shardErr s = C) := ⟨_, hide rfl⟩
  have HE1 : Hid ((if C ≠ 0 then C else if timeB now = false then 3 else if now < s.till then 4 else 0) = E) := by rw [← HC.out]; exact HE
  clear HE
  unfold shdV
  have hsh : ∃ ao n cp, vi = .slice ao n cp := by obtain ⟨ao, cp, e, _⟩ := hv; exact ⟨_, _, _, e⟩
  obtain ⟨io, n, ic, hvi⟩ := hsh
  obtain ⟨W, eW, gW, hW⟩ := laid_at w #[vi, .int .i64 s.batch, .int .i64 s.room, .int .i64 s.first, .int .i64 s.most, .int .i64 s.waits, .int .i64 s.till] 24
  obtain ⟨c0, c1, c2, c3, c4, c5, c6⟩ := seven_of hW
  have HG := hide gW
  have HW := hide hW
  have HSC := scheck_any W vi s ((hv.keep gW).more gW.size) hok
  rw [HC.out] at HSC
  have HT := hide (isTime_any now)
  clear HC hok hv gW hW
  obtain ⟨is, batch, room, first, most, waits, till⟩ := s
  simp only at HE1 HSC HW c0 c1 c2 c3 c4 c5 c6 eW ⊢
  replace HSC := hide HSC
  subst hvi
  go_enter Try.func33, Try.ntmps33
  go_wp2_with fail
  refine HSC.out.mono ?_
  rintro e w2 ⟨rfl, hg2⟩
  have HG2 : Hid (Grow W w2) := hide hg2
  clear hg2 HSC c0 c1 c2 c3 c4 c5 c6
  obtain ⟨c0, c1, c2, c3, c4, c5, c6⟩ := seven_of (HG2.out.get HW.out)
  by_cases h0 : C = 0
  · rw [if_neg (by omega)] at HE1
    have hz : ((C : Int) != 0) = false := by simp [h0]
    clear h0
    cases ht : timeB now with
    | false =>
      rw [if_pos ht] at HE1
      rw [ht] at HT
      clear ht
      go_wp2_with fail
      refine (HT.out _).mono ?_
      rintro e w3 ⟨rfl, rfl⟩
      go_wp2
      go_ret
      exact ⟨ret_int (by rw [← HE1.out]; rfl), HG.out.trans HG2.out⟩
    | true =>
      rw [if_neg (by rw [ht]; simp)] at HE1
      rw [ht] at HT
      clear ht
      cases hn : decide (now < till) with
      | true =>
        rw [if_pos (of_decide_eq_true hn)] at HE1
        go_wp2_with fail
        refine (HT.out _).mono ?_
        rintro e w3 ⟨rfl, rfl⟩
        go_wp2
        go_ret
        exact ⟨ret_int (by rw [← HE1.out]; rfl), HG.out.trans HG2.out⟩
      | false =>
        rw [if_neg (of_decide_eq_false hn)] at HE1
        go_wp2_with fail
        refine (HT.out _).mono ?_
        rintro e w3 ⟨rfl, rfl⟩
        go_wp2
        go_ret
        exact ⟨ret_int (by rw [← HE1.out]; rfl), HG.out.trans HG2.out⟩
  · rw [if_pos h0] at HE1
    have hz : ((C : Int) != 0) = true := by simp; exact h0
    clear h0
    go_wp2
    go_ret
    exact ⟨ret_int (by rw [← HE1.out]), HG.out.trans HG2.out⟩
/-- What Next answers. -/
def nextN (s : Shd) : Nat := aheadN s.items (firstM s)
theorem nextN_le (s : Shd) : nextN s ≤ s.items.length := Nat.le_trans (aheadN_le _ _) (Nat.min_le_right _ _)
theorem atErr_zero {s : Shd} {now : Int} (h : atErr s now = 0) : shardErr s = 0 ∧ timeB now = true ∧ s.till ≤ now := by
  unfold atErr at h
  by_cases h1 : shardErr s = 0
  · rw [if_neg (by omega)] at h
    cases h2 : timeB now with
    | false => rw [h2] at h; simp at h
    | true =>
      rw [if_neg (by rw [h2]; simp)] at h
      by_cases h3 : now < s.till
      · rw [if_pos h3] at h; cases h
      · exact ⟨h1, rfl, by omega⟩
  · rw [if_pos h1] at h; exact absurd h h1

set_option maxRecDepth 20000 in
set_option maxHeartbeats 2000000 in
theorem next_any (w : World) (vi : Value) (s : Shd) (now : Int) (hv : readsItems w w.heap.size vi s.items) (hok : okShd s) :
    Calls Try.prog 20 #[shdV vi s, .int .i64 now] w fun e w' => Grow w w' ∧ ((atErr s now ≠ 0 ∧ e = .returned (.tuple #[.slice none 0 0, .string (bs []), .int .i64 (atErr s now)])) ∨
      (atErr s now = 0 ∧ ∃ v' ps T, e = .returned (.tuple #[v', .string (bs T), .int .i64 0]) ∧ ownItems w' w.heap.size v' ps ∧ ps.map (·.1) = (s.items.take (nextN s)).map copyI ∧ aheadT s.items (nextN s) T)) := by
  obtain ⟨io, ic, hvi, hcap, -⟩ := id hv
  obtain ⟨E, HE⟩ : ∃ E, Hid (atErr s now = E) := ⟨_, hide rfl⟩
  rw [HE.out]
  obtain ⟨N, HN⟩ : ∃ N, Hid (nextN s = N) := ⟨_, hide rfl⟩
  rw [HN.out]
  have hNl : N ≤ s.items.length := by rw [← HN.out]; exact nextN_le s
  obtain ⟨W, eW, gW, hW⟩ := laid_at w #[vi, .int .i64 s.batch, .int .i64 s.room, .int .i64 s.first, .int .i64 s.most, .int .i64 s.waits, .int .i64 s.till] 24
  obtain ⟨c0, c1, c2, c3, c4, c5, c6⟩ := seven_of hW
  have HG := hide gW
  have HW := hide hW
  have HCA := hide (checkAt_any W vi s now ((hv.keep gW).more gW.size) hok)
  rw [HE.out] at HCA
  have HAH : Hid (E = 0 → ∀ W', Grow W W' → Calls Try.prog 35 #[shdV vi s] W' fun e w' => ∃ T, e = .returned (.tuple #[.int .i64 (N : Nat), .string (bs T)]) ∧ aheadT s.items N T ∧ Grow W' w') := hide fun h0 W' g => by
    obtain ⟨h1, _, _⟩ := atErr_zero (HE.out.trans h0)
    obtain ⟨_, h2, h3, h4, _⟩ := shardErr_zero h1
    have := ahead_any W' vi s ((hv.keep (Below.trans gW (Below.mono g gW.size))).more (Nat.le_trans gW.size g.size)) hok (by omega) h4
    rw [show aheadN s.items (firstM s) = N from HN.out] at this
    exact this
  have HCO : Hid (E = 0 → ∀ W', Grow W W' → Calls Try.prog 32 #[.slice io N ic] W' fun e w' => ∃ v' ps, e = .returned v' ∧ ownItems w' W'.heap.size v' ps ∧ ps.map (·.1) = (s.items.take N).map copyI ∧ Grow W' w') := hide fun h0 W' g => by
    obtain ⟨h1, _, _⟩ := atErr_zero (HE.out.trans h0)
    obtain ⟨_, h2, h3, h4, _⟩ := shardErr_zero h1
    have hr := (hv.keep (Below.trans gW (Below.mono g gW.size))).more (Nat.le_trans gW.size g.size)
    rw [hvi] at hr
    exact copied_any W' (.slice io N ic) (s.items.take N) (hr.take hNl) (by rw [List.length_take]; omega) (fun x hx => hok.2.1 x (List.mem_of_mem_take hx))
  clear hW gW hok hv HE HN
  unfold shdV at HCA HAH ⊢
  obtain ⟨is, batch, room, first, most, waits, till⟩ := s
  simp only at HCA HAH HCO HW c0 c1 c2 c3 c4 c5 c6 eW hvi hcap hNl ⊢
  subst hvi
  have hkl : (N : Int) ≤ (ic : Int) := by omega
  have hkn : N ≤ ic := by omega
  go_enter Try.func20, Try.ntmps20
  go_wp2_with fail
  refine HCA.out.mono ?_
  rintro e w2 ⟨rfl, hg2⟩
  have HG2 : Hid (Grow W w2) := hide hg2
  clear hg2 HCA c0 c1 c2 c3 c4 c5 c6
  obtain ⟨c0, c1, c2, c3, c4, c5, c6⟩ := seven_of (HG2.out.get HW.out)
  by_cases h0 : E = 0
  · have hz : ((E : Int) != 0) = false := by simp [h0]
    have HA := hide (HAH.out h0 w2 HG2.out)
    have HZ := hide h0
    clear h0 HAH
    go_wp2_with fail
    refine HA.out.mono ?_
    rintro e w3 ⟨T, rfl, hT, hg3⟩
    have HTT := hide hT
    have HG3 : Hid (Grow W w3) := hide (HG2.out.trans hg3)
    have HC := hide (HCO.out HZ.out w3 HG3.out)
    clear hg3 hT HA HCO c0 c1 c2 c3 c4 c5 c6
    obtain ⟨c0, c1, c2, c3, c4, c5, c6⟩ := seven_of (HG3.out.get HW.out)
    go_wp2_with fail
    refine HC.out.mono ?_
    rintro e w4 ⟨v', ps, rfl, hown, hps, hg4⟩
    have HOW := hide hown
    have HPS := hide hps
    have HG4 : Hid (Grow w w4) := hide (HG.out.trans (HG3.out.trans hg4))
    have hsz : w.heap.size ≤ w3.heap.size := (HG.out.trans HG3.out).size
    obtain ⟨vo, vc, hvv⟩ := own_shape hown.1
    clear hown hps hg4 HC
    subst hvv
    go_wp2
    go_ret3
    exact ⟨HG4.out, .inr ⟨HZ.out, _, ps, T, rfl, HOW.out.le hsz, HPS.out, HTT.out⟩⟩
  · have hz : ((E : Int) != 0) = true := by simp; exact h0
    have HZ := hide h0
    clear h0
    go_wp2
    go_ret3
    exact ⟨HG.out.trans HG2.out, .inl ⟨HZ.out, rfl⟩⟩
end Go.Proofs.Ytfdogelkgogcbaa.Sh
