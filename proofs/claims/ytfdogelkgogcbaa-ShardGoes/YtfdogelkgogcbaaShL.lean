/- shard: longer; Done, where nothing came. -/
import Derived.Laws.OwnMore
import Derived.Test.YtfdogelkgogcbaaProg
import Derived.Test.YtfdogelkgogcbaaKit
import Derived.Test.YtfdogelkgogcbaaReg
import Derived.Test.YtfdogelkgogcbaaShA
import Derived.Test.YtfdogelkgogcbaaShC
import Derived.Test.YtfdogelkgogcbaaShD
import Derived.Test.YtfdogelkgogcbaaShE
import Derived.Test.YtfdogelkgogcbaaShG
import Derived.Test.YtfdogelkgogcbaaShH
import Derived.BigQuiet
set_option linter.unusedVariables false
set_option linter.unusedSimpArgs false
namespace Go.Proofs.Ytfdogelkgogcbaa.Sh
open Go.RowKit
attribute [local go_sem] bs_size bs_toList bs_append bs_get bs_extract

def longerN (s : Shd) : Int := if s.waits = 0 then s.first else min (2 * s.waits) s.most
theorem inB_is {s : Shd} (h : inB s = true) : 1 ≤ s.batch ∧ s.batch ≤ 200 ∧ 1 ≤ s.room ∧ s.room ≤ 100 ∧ 1 ≤ s.first ∧ s.first ≤ s.most ∧ s.most ≤ 100000 ∧ (s.waits = 0 ∨ (s.first ≤ s.waits ∧ s.waits ≤ s.most)) ∧ -9007199254740991 ≤ s.till ∧ s.till ≤ 9007199254740991 := by
  unfold inB timeB at h
  simpa only [Bool.and_eq_true, Bool.or_eq_true, decide_eq_true_eq, beq_iff_eq] using h
theorem longerN_bounds {s : Shd} (h : inB s = true) : s.first ≤ longerN s ∧ longerN s ≤ s.most ∧ s.waits ≤ longerN s := by
  have := inB_is h
  unfold longerN
  split <;> omega
set_option maxRecDepth 20000 in
set_option maxHeartbeats 1000000 in
theorem longer_any (w : World) (vi : Value) (s : Shd) (hvi : ∃ ao n cp, vi = .slice ao n cp) (h : inB s = true) :
    Calls Try.prog 34 #[shdV vi s] w fun e w' => e = .returned (.int .i64 (longerN s)) ∧ Grow w w' := by
  have hb := inB_is h
  obtain ⟨N, HN⟩ : ∃ N, Hid (longerN s = N) := ⟨_, hide rfl⟩
  rw [HN.out]
  unfold longerN at HN
  unfold shdV
  obtain ⟨is, batch, room, first, most, waits, till⟩ := s
  obtain ⟨io, n, ic, rfl⟩ := hvi
  simp only at HN hb ⊢
  obtain ⟨W, eW, gW, hW⟩ := laid_at w #[.slice io n ic, .int .i64 batch, .int .i64 room, .int .i64 first, .int .i64 most, .int .i64 waits, .int .i64 till] 24
  obtain ⟨c0, c1, c2, c3, c4, c5, c6⟩ := seven_of hW
  have HG := hide gW
  clear gW hW h
  by_cases h0 : waits = 0
  · rw [if_pos h0] at HN
    have hz : (waits == 0) = true := by simp [h0]
    clear h0
    go_enter Try.func34, Try.ntmps34
    go_wp2
    go_ret
    exact ⟨ret_int (by rw [← HN.out]), HG.out⟩
  · rw [if_neg h0] at HN
    have hz : (waits == 0) = false := by rw [beq_eq_false_iff_ne]; exact h0
    have hm : 2 * waits ≤ 9223372036854775807 := by omega
    have hm2 : -9223372036854775808 ≤ 2 * waits := by omega
    clear h0
    go_enter Try.func34, Try.ntmps34
    go_wp2
    go_ret
    exact ⟨ret_int (by rw [← HN.out]), HG.out⟩

/-- What is wrong with what came. -/
def doneErr (s : Shd) (now ans : Int) : Nat := if atErr s now ≠ 0 then atErr s now else if ans ≠ 200 ∧ ans ≠ 400 ∧ ans ≠ 0 then 7 else if s.items.length = 0 then 5 else 0
/-- The shard when nothing came. -/
def waitS (s : Shd) (now : Int) : Shd := { s with waits := longerN s, till := min (now + longerN s) 9007199254740991 }

set_option maxRecDepth 20000 in
set_option maxHeartbeats 4000000 in
theorem done_none (w : World) (vi : Value) (s : Shd) (now : Int) (hv : readsItems w w.heap.size vi s.items) (hok : okShd s) (h0 : atErr s now = 0) (hne : 0 < s.items.length) :
    Calls Try.prog 18 #[shdV vi s, .int .i64 now, .int .i64 0] w fun e w' => ∃ v' ps, e = .returned (.tuple #[shdV v' (waitS s now), .int .i64 0]) ∧ ownItems w' w.heap.size v' ps ∧ ps.map (·.1) = s.items.map copyI ∧ Grow w w' := by
  obtain ⟨hse, htb, htl⟩ := atErr_zero h0
  obtain ⟨hib, hr1, hr2, _⟩ := shardErr_zero hse
  have hbn := inB_is hib
  have hlb := longerN_bounds hib
  have htn : -9007199254740991 ≤ now ∧ now ≤ 9007199254740991 := by unfold timeB at htb; simpa only [Bool.and_eq_true, decide_eq_true_eq] using htb
  obtain ⟨io, ic, hvi, hcap, -⟩ := id hv
  obtain ⟨V1, e1, g1, b1⟩ := laid_at w #[vi, .int .i64 s.batch, .int .i64 s.room, .int .i64 s.first, .int .i64 s.most, .int .i64 s.waits, .int .i64 s.till] 24
  obtain ⟨V2, e2, g2, b2⟩ := laid_at V1 #[.slice none 0 0, .int .i64 0, .int .i64 0, .int .i64 0, .int .i64 0, .int .i64 0, .int .i64 0] 24
  have s1 : V1.heap.size = w.heap.size + 1 := by rw [← e1]; simp
  have s2 : V2.heap.size = w.heap.size + 2 := by rw [← e2]; simp [s1]
  have hg2 : Grow w V2 := g1.trans g2
  have HB1 := hide (g2.get b1)
  have HB2 := hide (by have := b2; rw [s1] at this; exact this)
  have HCA := checkAt_any V2 vi s now ((hv.keep hg2).more hg2.size) hok
  rw [h0] at HCA
  have HLO : Hid (∀ W', Calls Try.prog 34 #[shdV vi s] W' fun e w' => e = .returned (.int .i64 (longerN s)) ∧ Grow W' w') := hide fun W' => longer_any W' vi s ⟨_, _, _, hvi⟩ hib
  have HCO : Hid (∀ W', Below w.heap.size w W' → Calls Try.prog 32 #[vi] W' fun e w' => ∃ v' ps, e = .returned v' ∧ ownItems w' W'.heap.size v' ps ∧ ps.map (·.1) = s.items.map copyI ∧ Grow W' w') := hide fun W' g => copied_any W' vi s.items ((hv.keep g).more g.size) (by omega) hok.2.1
  obtain ⟨lo, hlo⟩ : ∃ lo, longerN s = lo := ⟨_, rfl⟩
  have HWS : Hid (waitS s now = { s with waits := lo, till := min (now + lo) 9007199254740991 }) := hide (by unfold waitS; rw [hlo])
  rw [hlo] at HLO hlb
  rw [HWS.out]
  have HG2 := hide hg2
  have hlen0 : ((s.items.length : Int) == 0) = false := by rw [beq_eq_false_iff_ne]; omega
  clear hv hok h0 hse htb hib g1 g2 b1 b2 hg2 hlo HWS htl hne
  unfold shdV at *
  obtain ⟨is, batch, room, first, most, waits, till⟩ := s
  simp only at HCA HLO HCO HB1 hvi hcap hlen0 hbn hlb e1 ⊢
  replace HCA := hide HCA
  subst hvi
  obtain ⟨c0, c1, c2, c3, c4, c5, c6⟩ := seven_of HB1.out
  go_enter Try.func18, Try.ntmps18
  go_wp2_with fail
  refine HCA.out.mono ?_
  rintro e w3 ⟨rfl, hg3⟩
  have HG3 : Hid (Grow V2 w3) := hide hg3
  clear hg3 HCA c0 c1 c2 c3 c4 c5 c6 e1 e2
  obtain ⟨c0, c1, c2, c3, c4, c5, c6⟩ := seven_of (HG3.out.get HB1.out)
  go_wp2_with fail
  refine (HLO.out w3).mono ?_
  rintro e w4 ⟨rfl, hg4⟩
  have HG4 : Hid (Grow V2 w4) := hide (HG3.out.trans hg4)
  have b14 := HG4.out.get HB1.out
  have z5 : w4.frozen? ⟨w.heap.size, 5, none⟩ = false := by simp only [World.frozen?, b14]; rfl
  obtain ⟨W5, e5⟩ : ∃ W5, w4.setCell ⟨w.heap.size, 5, none⟩ (.int .i64 lo) = W5 := ⟨_, rfl⟩
  have b15 : W5.heap[w.heap.size]? = some (.cells #[.slice io is.length ic, .int .i64 batch, .int .i64 room, .int .i64 first, .int .i64 most, .int .i64 lo, .int .i64 till] 24 (0, 0)) := by
    rw [← e5]
    have := set4 b14 5 (.int .i64 lo)
    simpa using this
  obtain ⟨W6, e6⟩ : ∃ W6, W5.setCell ⟨w.heap.size, 6, none⟩ (.int .i64 (min (now + lo) 9007199254740991)) = W6 := ⟨_, rfl⟩
  have z6 : W5.frozen? ⟨w.heap.size, 6, none⟩ = false := by simp only [World.frozen?, b15]; rfl
  have b16 : W6.heap[w.heap.size]? = some (.cells #[.slice io is.length ic, .int .i64 batch, .int .i64 room, .int .i64 first, .int .i64 most, .int .i64 lo, .int .i64 (min (now + lo) 9007199254740991)] 24 (0, 0)) := by
    rw [← e6]
    have := set4 b15 6 (.int .i64 (min (now + lo) 9007199254740991))
    simpa using this
  have b26 : W6.heap[w.heap.size + 1]? = some (.cells #[.slice none 0 0, .int .i64 0, .int .i64 0, .int .i64 0, .int .i64 0, .int .i64 0, .int .i64 0] 24 (0, 0)) := by
    rw [← e6, ← e5]
    exact (Below.heap_setCell _ _ _ _ (by show w.heap.size + 1 ≠ w.heap.size; omega)).trans ((Below.heap_setCell _ _ _ _ (by show w.heap.size + 1 ≠ w.heap.size; omega)).trans (HG4.out.get HB2.out))
  have g6 : Below w.heap.size w W6 := by
    rw [← e6, ← e5]
    exact Below.setCell (Below.setCell (Below.trans HG2.out (Below.mono HG4.out HG2.out.size)) (Nat.le_refl _) _) (Nat.le_refl _) _
  have HC6 := hide (HCO.out W6 g6)
  have HB16 := hide b16
  have HB26 := hide b26
  have HG6 := hide g6
  clear c0 c1 c2 c3 c4 c5 c6
  obtain ⟨c0, c1, c2, c3, c4, c5, c6⟩ := seven_of b14
  obtain ⟨f0, f1, f2, f3, f4, f5, f6⟩ := seven_of b15
  obtain ⟨k0, k1, k2, k3, k4, k5, k6⟩ := seven_of b16
  have hn1 : -9223372036854775808 ≤ now + lo := by omega
  have hn2 : now + lo ≤ 9223372036854775807 := by omega
  clear hg4 b14 b15 b16 b26 g6 HLO HCO
  go_wp2_with fail
  refine HC6.out.mono ?_
  rintro e w7 ⟨v', ps, rfl, hown, hps, hg7⟩
  obtain ⟨vo, vc, hvv⟩ := own_shape hown.1
  subst hvv
  have hg7' : Grow W6 w7 := hg7
  have b17 := hg7'.get HB16.out
  have b27 := hg7'.get HB26.out
  have hsz7 : w.heap.size ≤ W6.heap.size := HG6.out.size
  obtain ⟨W8, e8⟩ : ∃ W8, w7.setCell ⟨w.heap.size, 0, none⟩ (.slice vo ps.length vc) = W8 := ⟨_, rfl⟩
  have b18 : W8.heap[w.heap.size]? = some (.cells #[.slice vo ps.length vc, .int .i64 batch, .int .i64 room, .int .i64 first, .int .i64 most, .int .i64 lo, .int .i64 (min (now + lo) 9007199254740991)] 24 (0, 0)) := by
    rw [← e8]
    have := set4 b17 0 (.slice vo ps.length vc)
    simpa using this
  have b28 : W8.heap[w.heap.size + 1]? = some (.cells #[.slice none 0 0, .int .i64 0, .int .i64 0, .int .i64 0, .int .i64 0, .int .i64 0, .int .i64 0] 24 (0, 0)) := by
    rw [← e8]
    exact (Below.heap_setCell _ _ _ _ (by show w.heap.size + 1 ≠ w.heap.size; omega)).trans b27
  have o8 : ownItems W8 w.heap.size (.slice vo ps.length vc) ps := by
    rw [← e8]
    exact (hown.le hsz7).set b17 (by decide) (by decide)
  have g8 : Below w.heap.size w W8 := by
    rw [← e8]
    exact Below.setCell (Below.trans HG6.out (Below.mono hg7' hsz7)) (Nat.le_refl _) _
  have z0 : w7.frozen? ⟨w.heap.size, 0, none⟩ = false := by simp only [World.frozen?, b17]; rfl
  clear c0 c1 c2 c3 c4 c5 c6 f0 f1 f2 f3 f4 f5 f6 k0 k1 k2 k3 k4 k5 k6 e5 e6 z5 z6
  obtain ⟨m0, m1, m2, m3, m4, m5, m6⟩ := seven_of b17
  obtain ⟨c0, c1, c2, c3, c4, c5, c6⟩ := seven_of b18
  have y0 : W8.frozen? ⟨w.heap.size + 1, 0, none⟩ = false := by simp only [World.frozen?, b28]; rfl
  have y1 : W8.frozen? ⟨w.heap.size + 1, 1, none⟩ = false := by simp only [World.frozen?, b28]; rfl
  have y2 : W8.frozen? ⟨w.heap.size + 1, 2, none⟩ = false := by simp only [World.frozen?, b28]; rfl
  have y3 : W8.frozen? ⟨w.heap.size + 1, 3, none⟩ = false := by simp only [World.frozen?, b28]; rfl
  have y4 : W8.frozen? ⟨w.heap.size + 1, 4, none⟩ = false := by simp only [World.frozen?, b28]; rfl
  have y5 : W8.frozen? ⟨w.heap.size + 1, 5, none⟩ = false := by simp only [World.frozen?, b28]; rfl
  have y6 : W8.frozen? ⟨w.heap.size + 1, 6, none⟩ = false := by simp only [World.frozen?, b28]; rfl
  obtain ⟨k0, k1, k2, k3, k4, k5, k6⟩ := seven_of b28
  have B28 := hide b28
  have O8 := hide o8
  have G8 := hide g8
  have HPS := hide hps
  clear hown hps b17 b27 b18 b28 o8 g8 hg7 hg7' hsz7
  go_wp2
  have h0 := set4 B28.out 0 (.slice vo ps.length vc)
  have h1 := set4 h0 1 (.int .i64 batch)
  have h2 := set4 h1 2 (.int .i64 room)
  have h3 := set4 h2 3 (.int .i64 first)
  have h4 := set4 h3 4 (.int .i64 most)
  have h5 := set4 h4 5 (.int .i64 lo)
  have h6 := set4 h5 6 (.int .i64 (min (now + lo) 9007199254740991))
  obtain ⟨f0, f1, f2, f3, f4, f5, f6⟩ := seven_of h6
  have n0 := O8.out.set (i := 0) (u := .slice vo ps.length vc) B28.out (by decide) (by decide)
  have n1 := n0.set (i := 1) (u := .int .i64 batch) h0 (by decide) (by decide)
  have n2 := n1.set (i := 2) (u := .int .i64 room) h1 (by decide) (by decide)
  have n3 := n2.set (i := 3) (u := .int .i64 first) h2 (by decide) (by decide)
  have n4 := n3.set (i := 4) (u := .int .i64 most) h3 (by decide) (by decide)
  have n5 := n4.set (i := 5) (u := .int .i64 lo) h4 (by decide) (by decide)
  have n6 := n5.set (i := 6) (u := .int .i64 (min (now + lo) 9007199254740991)) h5 (by decide) (by decide)
  have hle : w.heap.size ≤ w.heap.size + 1 := by omega
  refine bodyPost_ret (v := .tuple #[.agg #[.slice vo ps.length vc, .int .i64 batch, .int .i64 room, .int .i64 first, .int .i64 most, .int .i64 lo, .int .i64 (min (now + lo) 9007199254740991)], .int .i64 0]) (by simp [results, Try.results18, go_sem, f0, f1, f2, f3, f4, f5, f6]) rfl ?_
  exact ⟨_, ps, rfl, n6, HPS.out, Below.setCell (Below.setCell (Below.setCell (Below.setCell (Below.setCell (Below.setCell (Below.setCell (G8.out) hle _) hle _) hle _) hle _) hle _) hle _) hle _⟩
end Go.Proofs.Ytfdogelkgogcbaa.Sh
