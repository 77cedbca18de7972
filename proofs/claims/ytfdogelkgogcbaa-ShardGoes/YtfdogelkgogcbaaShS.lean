/- shard: one alone is never too long; Done, where all came; the walk of ShardGoes. -/
import Derived.Laws.OwnMore
import Derived.Test.YtfdogelkgogcbaaProg
import Derived.Test.YtfdogelkgogcbaaKit
import Derived.Test.YtfdogelkgogcbaaReg
import Derived.Test.YtfdogelkgogcbaaShA
import Derived.Test.YtfdogelkgogcbaaShC
import Derived.Test.YtfdogelkgogcbaaShD
import Derived.Test.YtfdogelkgogcbaaShE
import Derived.Test.YtfdogelkgogcbaaShG
import Derived.Test.YtfdogelkgogcbaaShF
import Derived.Test.YtfdogelkgogcbaaShH
import Derived.Test.YtfdogelkgogcbaaShL
import Derived.Test.YtfdogelkgogcbaaLSpec
import Derived.BigQuiet
import Derived.Deep.AppendLies
import Derived.Test.YtfdogelkgogcbaaReg2
import Derived.Test.YtfdogelkgogcbaaShB
import Derived.Test.YtfdogelkgogcbaaShJ
import Derived.Test.YtfdogelkgogcbaaShM
set_option linter.unusedVariables false
set_option linter.unusedSimpArgs false
namespace Go.Proofs.Ytfdogelkgogcbaa.Sh
open Go.RowKit
attribute [local go_sem] bs_size bs_toList bs_append bs_get bs_extract

theorem fieldB_len (h : Nat) (l : List UInt8) : (fieldB h l).length ≤ l.length + 20 := by
  unfold fieldB
  have h1 := numB_length h
  have h2 := numB_length l.length
  simp only [List.length_append]
  omega
theorem labelsB_len (l : List Lab) (h : ∀ x ∈ l, x.1.length ≤ 40 ∧ x.2.length ≤ 100) : (labelsB l).length ≤ 200 * l.length := by
  induction l with
  | nil => simp [labelsB]
  | cons x l ih =>
    have h1 := ih fun y hy => h y (List.mem_cons_of_mem _ hy)
    have h2 := h x (by simp)
    have h3 := fieldB_len 10 (labelIn x)
    have h4 := fieldB_len 10 x.1
    have h5 := fieldB_len 18 x.2
    have h6 : (labelIn x).length = (fieldB 10 x.1).length + (fieldB 18 x.2).length := by unfold labelIn; rw [List.length_append]
    simp only [labelsB, List.length_append, List.length_cons]
    omega
theorem sampleIn_len (x : Sam) : (sampleIn x).length ≤ 100 := by
  unfold sampleIn
  have h1 := numB_length 9
  have h2 := numB_length 16
  have h3 := numB_length (unsig x.1)
  have h4 : (wordB x.2).length = 8 := wordB_length _
  simp only [List.length_append]
  omega
/-- One right item alone is never too long. -/
theorem write_one {x : Itm} (h : itemErr x = 0) : writeErr (sersOf [x]) = 0 := by
  unfold itemErr at h
  split at h
  · cases h
  · rename_i hn
    obtain ⟨h1, h2⟩ := Lb.eachErr_names (Lb.checkB_zero.1 h).1
    have ht : timeB x.2.2.1 = true := by
      cases ht : timeB x.2.2.1 with
      | true => rfl
      | false => exact absurd (.inr ht) hn
    have hs : (seriesB (sersOf [x])).length ≤ 20000 := by
      have k1 := fieldB_len 10 (labelsB x.2.1 ++ samplesB [x.2.2])
      have k2 := labelsB_len x.2.1 h2
      have k3 := fieldB_len 18 (sampleIn x.2.2)
      have k4 := sampleIn_len x.2.2
      have k5 : (labelsB x.2.1 ++ samplesB [x.2.2]).length = (labelsB x.2.1).length + (fieldB 18 (sampleIn x.2.2)).length := by simp [samplesB]
      show (fieldB 10 (labelsB x.2.1 ++ samplesB [x.2.2]) ++ []).length ≤ 20000
      rw [List.append_nil]
      omega
    have hc : countsB (sersOf [x]) = true := by
      unfold countsB
      simp only [sersOf, List.map_cons, List.map_nil, List.length_singleton, List.all_cons, List.all_nil, Bool.and_true, Bool.and_eq_true, decide_eq_true_eq, List.all_eq_true]
      exact ⟨by decide, h1, by simp [itSer], fun y hy => by have := h2 y hy; omega⟩
    have htt : timesB (sersOf [x]) = true := by
      unfold timesB
      unfold timeB at ht
      simpa [sersOf, itSer] using ht
    unfold writeErr
    rw [hc, htt]
    simp only [if_true]
    rw [if_pos hs]
theorem aheadN_pos {l : List Itm} (h : writeErr (sersOf (l.take 1)) = 0) : ∀ m, 0 < m → 0 < aheadN l m := by
  intro m
  induction m using Nat.strongRecOn with
  | ind m ih =>
    intro hm
    by_cases hw : writeErr (sersOf (l.take m)) = 0
    · rw [aheadN_yes (by omega) hw]; exact hm
    · rw [aheadN_no (by omega) hw]
      have : m ≠ 1 := fun e => hw (by rw [e]; exact h)
      exact ih (m / 2) (by omega) (by omega)
theorem nextN_pos {s : Shd} (h : shardErr s = 0) (hne : 0 < s.items.length) : 0 < nextN s := by
  obtain ⟨hib, _, _, hb, hone⟩ := shardErr_zero h
  have h0 := hone 0 hne
  rw [oneE_is hne] at h0
  have h1 : itemErr s.items[0] = 0 := by
    by_cases h0' : itemErr s.items[0] = 0
    · exact h0'
    · rw [if_pos h0'] at h0; exact absurd h0 h0'
  unfold nextN
  refine aheadN_pos ?_ _ ?_
  · have e : s.items.take 1 = [s.items[0]] := by
      rw [show (1 : Nat) = 0 + 1 from rfl, List.take_succ_eq_append_getElem hne]; rfl
    rw [e]; exact write_one h1
  · unfold firstM
    omega
theorem readsItems.drop {w : World} {B : Nat} {ao : Option Addr} {n cp : Nat} {l : List Itm} (h : readsItems w B (.slice ao n cp) l) {k : Nat} (hk : k ≤ l.length) : readsItems w B (.slice (if cp = k then ao else ao.map (·.add (k * 4))) (n - k) (cp - k)) (l.drop k) := by
  obtain ⟨ao', cp', hv, hc, h⟩ := h
  cases hv
  have e : (l.drop k).length = l.length - k := List.length_drop
  refine ⟨_, cp - k, by rw [e], by omega, fun i hi => ?_⟩
  rw [e] at hi
  obtain ⟨b, o, vl, rfl, hb, hl, c0, c1, c2, c3⟩ := h (k + i) (by omega)
  rw [if_neg (by omega)]
  have g : (l.drop k)[i]'(by omega) = l[k + i] := List.getElem_drop
  refine ⟨b, o + k * 4, vl, ?_, hb, ?_, ?_, ?_, ?_, ?_⟩
  · simp only [Option.map_some, Addr.add]
    by_cases h0 : k * 4 = 0
    · rw [if_pos h0, h0]; rfl
    · rw [if_neg h0]
  · rw [g]; exact hl
  · rw [g, show o + k * 4 + i * 4 = o + (k + i) * 4 by omega]; exact c0
  · rw [show o + k * 4 + i * 4 + 1 = o + (k + i) * 4 + 1 by omega]; exact c1
  · rw [g, show o + k * 4 + i * 4 + 2 = o + (k + i) * 4 + 2 by omega]; exact c2
  · rw [g, show o + k * 4 + i * 4 + 3 = o + (k + i) * 4 + 3 by omega]; exact c3
/-- The shard when all came. -/
def doneS (s : Shd) : Shd := { s with items := s.items.drop (nextN s), waits := 0, till := 0 }
set_option maxRecDepth 20000 in
set_option maxHeartbeats 1200000 in
theorem done_ok (w : World) (vi : Value) (s : Shd) (now : Int) (hv : readsItems w w.heap.size vi s.items) (hok : okShd s) (h0 : atErr s now = 0) (hne : 0 < s.items.length) :
    Calls Try.prog 18 #[shdV vi s, .int .i64 now, .int .i64 200] w fun e w' => ∃ v' ps, e = .returned (.tuple #[shdV v' (doneS s), .int .i64 0]) ∧ ownItems w' w.heap.size v' ps ∧ ps.map (·.1) = (s.items.drop (nextN s)).map copyI ∧ Grow w w' := by
  obtain ⟨hse, htb, htl⟩ := atErr_zero h0
  obtain ⟨hib, hr1, hr2, hb1, _⟩ := shardErr_zero hse
  obtain ⟨io, ic, hvi, hcap, -⟩ := id hv
  obtain ⟨N, HN⟩ : ∃ N, Hid (nextN s = N) := ⟨_, hide rfl⟩
  have hNl : N ≤ s.items.length := by rw [← HN.out]; exact nextN_le s
  obtain ⟨V1, e1, g1, b1⟩ := laid_at w #[vi, .int .i64 s.batch, .int .i64 s.room, .int .i64 s.first, .int .i64 s.most, .int .i64 s.waits, .int .i64 s.till] 24
  obtain ⟨V2, e2, g2, b2⟩ := laid_at V1 #[.slice none 0 0, .int .i64 0, .int .i64 0, .int .i64 0, .int .i64 0, .int .i64 0, .int .i64 0] 24
  have s1 : V1.heap.size = w.heap.size + 1 := by rw [← e1]; simp
  have s2 : V2.heap.size = w.heap.size + 2 := by rw [← e2]; simp [s1]
  have hg2 : Grow w V2 := g1.trans g2
  have HB1 := hide (g2.get b1)
  have HB2 := hide (by have := b2; rw [s1] at this; exact this)
  have HCA := checkAt_any V2 vi s now ((hv.keep hg2).more hg2.size) hok
  rw [h0] at HCA
  have HAH : Hid (∀ W', Below w.heap.size w W' → Calls Try.prog 35 #[shdV vi s] W' fun e w' => ∃ T, e = .returned (.tuple #[.int .i64 (N : Nat), .string (bs T)]) ∧ Grow W' w') := hide fun W' g => by
    have := ahead_any W' vi s ((hv.keep g).more g.size) hok (by omega) hb1
    rw [show aheadN s.items (firstM s) = N from HN.out] at this
    exact this.mono fun e w' h => by
      obtain ⟨T, h1, _, h2⟩ := h
      exact ⟨T, h1, h2⟩
  have HCO : Hid (∀ W', Below w.heap.size w W' → Calls Try.prog 32 #[.slice (if ic = N then io else io.map (·.add (N * 4))) (s.items.length - N) (ic - N)] W' fun e w' => ∃ v' ps, e = .returned v' ∧ ownItems w' W'.heap.size v' ps ∧ ps.map (·.1) = (s.items.drop N).map copyI ∧ Grow W' w') := hide fun W' g => by
    have hr := (hv.keep g).more g.size
    rw [hvi] at hr
    exact copied_any W' _ (s.items.drop N) (hr.drop hNl) (by rw [List.length_drop]; omega) (fun x hx => hok.2.1 x (List.mem_of_mem_drop hx))
  have HDS : Hid (doneS s = { s with items := s.items.drop N, waits := 0, till := 0 }) := hide (by unfold doneS; rw [HN.out])
  rw [HDS.out, HN.out]
  have HG2 := hide hg2
  have hlen0 : ((s.items.length : Int) == 0) = false := by rw [beq_eq_false_iff_ne]; omega
  clear hv hok h0 hse htb hib g1 g2 b1 b2 hg2 HDS htl hne HN
  unfold shdV at *
  obtain ⟨is, batch, room, first, most, waits, till⟩ := s
  simp only at HCA HAH HCO HB1 hvi hcap hlen0 hNl hr1 e1 ⊢
  replace HCA := hide HCA
  subst hvi
  have hNi : (N : Int) ≤ (is.length : Int) := by omega
  obtain ⟨c0, c1, c2, c3, c4, c5, c6⟩ := seven_of HB1.out
  go_enter Try.func18, Try.ntmps18
  go_wp2_with fail
  refine HCA.out.mono ?_
  rintro e w3 ⟨rfl, hg3⟩
  have HG3 : Hid (Grow V2 w3) := hide hg3
  clear hg3 HCA c0 c1 c2 c3 c4 c5 c6 e1 e2
  obtain ⟨c0, c1, c2, c3, c4, c5, c6⟩ := seven_of (HG3.out.get HB1.out)
  have HA3 := hide (HAH.out w3 (Below.trans HG2.out (Below.mono HG3.out HG2.out.size)))
  go_wp2_with fail
  refine HA3.out.mono ?_
  rintro e w4 ⟨T, rfl, hg4⟩
  have HG4 : Hid (Grow V2 w4) := hide (HG3.out.trans hg4)
  have HW4 : Hid (Below w.heap.size w w4) := hide (Below.trans HG2.out (Below.mono HG4.out HG2.out.size))
  have HC4 := hide (HCO.out w4 HW4.out)
  clear hg4 HA3 HAH HCO c0 c1 c2 c3 c4 c5 c6
  obtain ⟨c0, c1, c2, c3, c4, c5, c6⟩ := seven_of (HG4.out.get HB1.out)
  by_cases hin : ic = N
  all_goals (first | (subst hin; rw [if_pos rfl, Nat.sub_self, show is.length - ic = 0 by omega] at HC4) | rw [if_neg hin] at HC4)
  all_goals go_wp2_with fail
  all_goals refine HC4.out.mono ?_
  all_goals (
    rintro e w7 ⟨v', ps, rfl, hown, hps, hg7⟩
    obtain ⟨vo, vc, hvv⟩ := own_shape hown.1
    subst hvv
    have hg7' : Grow V2 w7 := Grow.trans HG4.out hg7
    have b17 := hg7'.get HB1.out
    have b27 := hg7'.get HB2.out
    have hsz7 : w.heap.size ≤ w4.heap.size := HW4.out.size
    obtain ⟨W8, e8⟩ : ∃ W8, w7.setCell ⟨w.heap.size, 5, none⟩ (.int .i64 0) = W8 := ⟨_, rfl⟩
    have b18 : W8.heap[w.heap.size]? = some (.cells #[.slice io is.length ic, .int .i64 batch, .int .i64 room, .int .i64 first, .int .i64 most, .int .i64 0, .int .i64 till] 24 (0, 0)) := by
      rw [← e8]
      have := set4 b17 5 (.int .i64 0)
      simpa using this
    obtain ⟨W9, e9⟩ : ∃ W9, W8.setCell ⟨w.heap.size, 6, none⟩ (.int .i64 0) = W9 := ⟨_, rfl⟩
    have b19 : W9.heap[w.heap.size]? = some (.cells #[.slice io is.length ic, .int .i64 batch, .int .i64 room, .int .i64 first, .int .i64 most, .int .i64 0, .int .i64 0] 24 (0, 0)) := by
      rw [← e9]
      have := set4 b18 6 (.int .i64 0)
      simpa using this
    obtain ⟨WA, eA⟩ : ∃ WA, W9.setCell ⟨w.heap.size, 0, none⟩ (.slice vo ps.length vc) = WA := ⟨_, rfl⟩
    have b1A : WA.heap[w.heap.size]? = some (.cells #[.slice vo ps.length vc, .int .i64 batch, .int .i64 room, .int .i64 first, .int .i64 most, .int .i64 0, .int .i64 0] 24 (0, 0)) := by
      rw [← eA]
      have := set4 b19 0 (.slice vo ps.length vc)
      simpa using this
    have b2A : WA.heap[w.heap.size + 1]? = some (.cells #[.slice none 0 0, .int .i64 0, .int .i64 0, .int .i64 0, .int .i64 0, .int .i64 0, .int .i64 0] 24 (0, 0)) := by
      rw [← eA, ← e9, ← e8]
      exact (Below.heap_setCell _ _ _ _ (by show w.heap.size + 1 ≠ w.heap.size; omega)).trans ((Below.heap_setCell _ _ _ _ (by show w.heap.size + 1 ≠ w.heap.size; omega)).trans ((Below.heap_setCell _ _ _ _ (by show w.heap.size + 1 ≠ w.heap.size; omega)).trans b27))
    have o8 : ownItems W8 w.heap.size (.slice vo ps.length vc) ps := by
      rw [← e8]
      exact (hown.le hsz7).set b17 (by decide) (by decide)
    have o9 : ownItems W9 w.heap.size (.slice vo ps.length vc) ps := by
      rw [← e9]
      exact o8.set b18 (by decide) (by decide)
    have oA : ownItems WA w.heap.size (.slice vo ps.length vc) ps := by
      rw [← eA]
      exact o9.set b19 (by decide) (by decide)
    have gA : Below w.heap.size w WA := by
      rw [← eA, ← e9, ← e8]
      exact Below.setCell (Below.setCell (Below.setCell (Below.trans HW4.out (Below.mono hg7 hsz7)) (Nat.le_refl _) _) (Nat.le_refl _) _) (Nat.le_refl _) _
    have z5 : w7.frozen? ⟨w.heap.size, 5, none⟩ = false := by simp only [World.frozen?, b17]; rfl
    have z6 : W8.frozen? ⟨w.heap.size, 6, none⟩ = false := by simp only [World.frozen?, b18]; rfl
    have z0 : W9.frozen? ⟨w.heap.size, 0, none⟩ = false := by simp only [World.frozen?, b19]; rfl
    clear c0 c1 c2 c3 c4 c5 c6
    obtain ⟨m0, m1, m2, m3, m4, m5, m6⟩ := seven_of b17
    obtain ⟨f0, f1, f2, f3, f4, f5, f6⟩ := seven_of b18
    obtain ⟨k0, k1, k2, k3, k4, k5, k6⟩ := seven_of b19
    obtain ⟨c0, c1, c2, c3, c4, c5, c6⟩ := seven_of b1A
    have y0 : WA.frozen? ⟨w.heap.size + 1, 0, none⟩ = false := by simp only [World.frozen?, b2A]; rfl
    have y1 : WA.frozen? ⟨w.heap.size + 1, 1, none⟩ = false := by simp only [World.frozen?, b2A]; rfl
    have y2 : WA.frozen? ⟨w.heap.size + 1, 2, none⟩ = false := by simp only [World.frozen?, b2A]; rfl
    have y3 : WA.frozen? ⟨w.heap.size + 1, 3, none⟩ = false := by simp only [World.frozen?, b2A]; rfl
    have y4 : WA.frozen? ⟨w.heap.size + 1, 4, none⟩ = false := by simp only [World.frozen?, b2A]; rfl
    have y5 : WA.frozen? ⟨w.heap.size + 1, 5, none⟩ = false := by simp only [World.frozen?, b2A]; rfl
    have y6 : WA.frozen? ⟨w.heap.size + 1, 6, none⟩ = false := by simp only [World.frozen?, b2A]; rfl
    obtain ⟨n0, n1, n2, n3, n4, n5, n6⟩ := seven_of b2A
    have B2A := hide b2A
    have OA := hide oA
    have GA := hide gA
    have HPS := hide hps
    clear hown hps b17 b27 b18 b19 b1A b2A o8 o9 oA gA hg7 hg7' hsz7 HC4
    go_wp2
    have h0 := set4 B2A.out 0 (.slice vo ps.length vc)
    have h1 := set4 h0 1 (.int .i64 batch)
    have h2 := set4 h1 2 (.int .i64 room)
    have h3 := set4 h2 3 (.int .i64 first)
    have h4 := set4 h3 4 (.int .i64 most)
    have h5 := set4 h4 5 (.int .i64 0)
    have h6 := set4 h5 6 (.int .i64 0)
    obtain ⟨r0, r1, r2, r3, r4, r5, r6⟩ := seven_of h6
    have q0 := OA.out.set (i := 0) (u := .slice vo ps.length vc) B2A.out (by decide) (by decide)
    have q1 := q0.set (i := 1) (u := .int .i64 batch) h0 (by decide) (by decide)
    have q2 := q1.set (i := 2) (u := .int .i64 room) h1 (by decide) (by decide)
    have q3 := q2.set (i := 3) (u := .int .i64 first) h2 (by decide) (by decide)
    have q4 := q3.set (i := 4) (u := .int .i64 most) h3 (by decide) (by decide)
    have q5 := q4.set (i := 5) (u := .int .i64 0) h4 (by decide) (by decide)
    have q6 := q5.set (i := 6) (u := .int .i64 0) h5 (by decide) (by decide)
    have hle : w.heap.size ≤ w.heap.size + 1 := by omega
    refine bodyPost_ret (v := .tuple #[.agg #[.slice vo ps.length vc, .int .i64 batch, .int .i64 room, .int .i64 first, .int .i64 most, .int .i64 0, .int .i64 0], .int .i64 0]) (by simp [results, Try.results18, go_sem, r0, r1, r2, r3, r4, r5, r6]) rfl ?_
    exact ⟨_, ps, rfl, q6, HPS.out, Below.setCell (Below.setCell (Below.setCell (Below.setCell (Below.setCell (Below.setCell (Below.setCell (GA.out) hle _) hle _) hle _) hle _) hle _) hle _) hle _⟩)
theorem inB_mk {s : Shd} (h : 1 ≤ s.batch ∧ s.batch ≤ 200 ∧ 1 ≤ s.room ∧ s.room ≤ 100 ∧ 1 ≤ s.first ∧ s.first ≤ s.most ∧ s.most ≤ 100000 ∧ (s.waits = 0 ∨ (s.first ≤ s.waits ∧ s.waits ≤ s.most)) ∧ -9007199254740991 ≤ s.till ∧ s.till ≤ 9007199254740991) : inB s = true := by
  unfold inB timeB
  simpa only [Bool.and_eq_true, Bool.or_eq_true, decide_eq_true_eq, beq_iff_eq] using h
/-- The shard when so many came in so many rounds. -/
def goS (s : Shd) (j c : Nat) : Shd := { s with items := s.items.drop c, waits := if j = 0 then s.waits else 0, till := if j = 0 then s.till else 0 }
theorem one_drop {l : List Itm} (h : ∀ i, i < l.length → oneE l i = 0) (c : Nat) : ∀ i, i < (l.drop c).length → oneE (l.drop c) i = 0 := by
  intro i hi
  have hl : (l.drop c).length = l.length - c := List.length_drop
  have h1 := h (c + i) (by omega)
  have hg : (l.drop c)[i] = l[c + i]'(by omega) := List.getElem_drop
  rw [oneE_is (show c + i < l.length by omega)] at h1
  rw [oneE_is hi, hg]
  by_cases h0 : itemErr (l[c + i]'(by omega)) = 0
  · rw [if_neg (by omega)] at h1 ⊢
    cases hf : fitsB (l.take (c + i)) (l[c + i]'(by omega)).1 with
    | false => rw [if_pos hf] at h1; cases h1
    | true =>
      rw [if_neg]
      by_cases hz : i = 0
      · subst hz
        simp [fitsB_nil]
      · rw [fitsB_at (by rw [List.length_take]; omega)] at hf ⊢
        have e : ((l.drop c).take i)[((l.drop c).take i).length - 1]'(by rw [List.length_take]; omega) = (l.take (c + i))[(l.take (c + i)).length - 1]'(by rw [List.length_take]; omega) := by
          simp only [List.getElem_take, List.getElem_drop, List.length_take, List.length_drop]
          congr 1
          omega
        rw [e]
        rw [hf]
        simp
  · rw [if_pos h0] at h1; exact absurd h1 h0
theorem goS_right {s : Shd} (hok : okShd s) (h : shardErr s = 0) (j c : Nat) : shardErr (goS s j c) = 0 ∧ okShd (goS s j c) := by
  obtain ⟨hib, hr1, hr2, hb1, hone⟩ := shardErr_zero h
  have hb := inB_is hib
  obtain ⟨o1, o2, o3, o4, o5, o6, o7, o8⟩ := hok
  have hld : (s.items.drop c).length = s.items.length - c := List.length_drop
  have hw : (if j = 0 then s.waits else 0) = s.waits ∨ (if j = 0 then s.waits else 0) = 0 := by split <;> simp
  have ht : (if j = 0 then s.till else 0) = s.till ∨ (if j = 0 then s.till else 0) = 0 := by split <;> simp
  refine ⟨?_, ?_⟩
  · have hib2 : inB (goS s j c) = true := inB_mk (by
      refine ⟨hb.1, hb.2.1, hb.2.2.1, hb.2.2.2.1, hb.2.2.2.2.1, hb.2.2.2.2.2.1, hb.2.2.2.2.2.2.1, ?_, ?_, ?_⟩
      · show (if j = 0 then s.waits else 0) = 0 ∨ (s.first ≤ (if j = 0 then s.waits else 0) ∧ (if j = 0 then s.waits else 0) ≤ s.most)
        rcases hw with e | e <;> rw [e]
        · exact hb.2.2.2.2.2.2.2.1
        · exact .inl rfl
      · show _ ≤ (if j = 0 then s.till else 0)
        rcases ht with e | e <;> rw [e] <;> omega
      · show (if j = 0 then s.till else 0) ≤ _
        rcases ht with e | e <;> rw [e] <;> omega)
    unfold shardErr
    rw [hib2, if_neg (by simp)]
    show (if s.room < ((s.items.drop c).length : Int) then 2 else firstN (oneE (s.items.drop c)) (s.items.drop c).length) = 0
    rw [if_neg (by omega)]
    exact firstN_none (one_drop hone c)
  · refine ⟨by show (s.items.drop c).length ≤ _; omega, fun x hx => o2 x (List.mem_of_mem_drop hx), o3, o4, o5, o6, ?_, ?_⟩
    · show _ ≤ (if j = 0 then s.waits else 0) ∧ (if j = 0 then s.waits else 0) ≤ _
      rcases hw with e | e <;> rw [e] <;> omega
    · show _ ≤ (if j = 0 then s.till else 0) ∧ (if j = 0 then s.till else 0) ≤ _
      rcases ht with e | e <;> rw [e] <;> omega
theorem goS_at {s : Shd} {now : Int} (hok : okShd s) (h : atErr s now = 0) (hn : 0 ≤ now) (j c : Nat) : atErr (goS s j c) now = 0 := by
  obtain ⟨hs, ht, htl⟩ := atErr_zero h
  unfold atErr
  rw [if_neg (by have := (goS_right hok hs j c).1; omega), if_neg (by rw [ht]; simp), if_neg]
  show ¬ now < (if j = 0 then s.till else 0)
  split <;> omega
theorem goS_zero (s : Shd) : goS s 0 0 = s := by
  unfold goS
  simp
theorem goS_done (s : Shd) (j c : Nat) : doneS (goS s j c) = goS s (j + 1) (c + nextN (goS s j c)) := by
  unfold doneS
  show ({ goS s j c with items := (s.items.drop c).drop (nextN (goS s j c)), waits := 0, till := 0 } : Shd) = _
  rw [List.drop_drop]
  rfl
/-- One row of the call's own behind another. -/
theorem ownItems.app {w w' : World} {B : Nat} {v v' v5 : Value} {ps qs : List (Itm × Value)} (h : ownItems w B v ps) (h5 : ownItems w B v5 qs) (hown : w'.ownsRow B 39 4 v' (ps.length + qs.length) (itCells ps ++ itCells qs)) (hgrow : w.grownBy w' v.ownBlock) : ownItems w' B v' (ps ++ qs) := by
  refine ⟨by rw [List.length_append, itCells_append]; exact hown, fun p hp => ?_⟩
  rcases List.mem_append.1 hp with hp | hp
  · exact ownRow_grown (h.2 p hp) h.1 hgrow (by decide)
  · exact ownRow_grown (h5.2 p hp) h.1 hgrow (by decide)
theorem ownItems.apart {w w' : World} {B : Nat} {v : Value} {ps : List (Itm × Value)} {row : Option Nat} (h : ownItems w B v ps) (hg : w.grownBy w' row) (hr : ∀ g, row = some g → g < B) : ownItems w' B v ps := by
  refine ⟨?_, fun p hp => ?_⟩
  · obtain ⟨h3, h4⟩ := h.1
    refine ⟨h3, ?_⟩
    rcases h4 with h4 | ⟨g, cap, cur, r1, r2, r3, r4⟩
    · exact .inl h4
    · exact .inr ⟨g, cap, cur, r1, r2, grown_block hg r3 (fun e => by have := hr g e; omega), r4⟩
  · obtain ⟨h3, h4⟩ := h.2 p hp
    refine ⟨h3, ?_⟩
    rcases h4 with h4 | ⟨g, cap, cur, r1, r2, r3, r4⟩
    · exact .inl h4
    · exact .inr ⟨g, cap, cur, r1, r2, grown_block hg r3 (fun e => by have := hr g e; omega), r4⟩
/-- The items that the shard's box names: those that came, or copies made behind all that went. -/
def goRow (w : World) (sb : Nat) (wv v : Value) (l : List Itm) : Prop := readsItems w sb v l ∨ ∃ B ps, sb + 1 ≤ B ∧ ownItems w B v ps ∧ ps.map (·.1) = l ∧ ∀ g, wv.ownBlock = some g → g < B
theorem goRow.reads {w : World} {sb : Nat} {wv v : Value} {l : List Itm} (h : goRow w sb wv v l) (hs : sb ≤ w.heap.size) : readsItems w w.heap.size v l := by
  rcases h with h | ⟨B, ps, _, h, rfl, _⟩
  · exact h.more hs
  · exact h.reads
theorem goRow.step {w w' w'' : World} {sb : Nat} {wv v : Value} {l : List Itm} (h : goRow w sb wv v l) (g : Grow w w') (h2 : w'.grownBy w'' wv.ownBlock) (hb : Below sb w' w'') (hs : sb ≤ w.heap.size) : readsItems w'' w''.heap.size v l := by
  rcases h with h | ⟨B, ps, h0, h, rfl, hr⟩
  · exact ((h.keep (Below.mono g hs)).keep hb).more (Nat.le_trans hs (Nat.le_trans g.size hb.size))
  · exact ((h.grow g).apart h2 hr).reads
theorem put7 {w : World} {b : Nat} {x0 x1 x2 x3 x4 x5 x6 y0 y1 y2 y3 y4 y5 y6 : Value} {X : World} (hb : w.heap[b]? = some (.cells #[x0, x1, x2, x3, x4, x5, x6] 24 (0, 0)))
    (hX : ((((((w.setCell ⟨b, 0, none⟩ y0).setCell ⟨b, 1, none⟩ y1).setCell ⟨b, 2, none⟩ y2).setCell ⟨b, 3, none⟩ y3).setCell ⟨b, 4, none⟩ y4).setCell ⟨b, 5, none⟩ y5).setCell ⟨b, 6, none⟩ y6 = X) :
    X.heap[b]? = some (.cells #[y0, y1, y2, y3, y4, y5, y6] 24 (0, 0)) ∧ X.heap.size = w.heap.size ∧ (∀ B v ps, ownItems w B v ps → ownItems X B v ps) ∧ (∀ w0 : World, Below b w0 w → Below b w0 X) := by
  have h0 := set4 hb 0 y0
  have h1 := set4 h0 1 y1
  have h2 := set4 h1 2 y2
  have h3 := set4 h2 3 y3
  have h4 := set4 h3 4 y4
  have h5 := set4 h4 5 y5
  have h6 := set4 h5 6 y6
  rw [← hX]
  refine ⟨by simpa using h6, by simp [World.setCell], fun B v ps n => ?_, fun w0 g => ?_⟩
  · have n0 := n.set (i := 0) (u := y0) hb (by decide) (by decide)
    have n1 := n0.set (i := 1) (u := y1) h0 (by decide) (by decide)
    have n2 := n1.set (i := 2) (u := y2) h1 (by decide) (by decide)
    have n3 := n2.set (i := 3) (u := y3) h2 (by decide) (by decide)
    have n4 := n3.set (i := 4) (u := y4) h3 (by decide) (by decide)
    have n5 := n4.set (i := 5) (u := y5) h4 (by decide) (by decide)
    exact n5.set (i := 6) (u := y6) h5 (by decide) (by decide)
  · exact (((((((g.setCell (Nat.le_refl _) _).setCell (Nat.le_refl _) _).setCell (Nat.le_refl _) _).setCell (Nat.le_refl _) _).setCell (Nat.le_refl _) _).setCell (Nat.le_refl _) _).setCell (Nat.le_refl _) _)
set_option maxRecDepth 20000 in
set_option maxHeartbeats 1200000 in
theorem shardGoes_any (w : World) (vi : Value) (s : Shd) (hr : readsItems w w.heap.size vi s.items) (hok : okShd s) (now : Int) (hn0 : -9223372036854775808 ≤ now) (hn1 : now ≤ 9223372036854775807) :
    Calls Try.prog 7 #[shdV vi s, .int .i64 now] w fun e w' => e = .returned (.bool true) ∧ Below w.heap.size w w' := by
  obtain ⟨i0, hi0, hz0, hz1, hz2⟩ := info_parts infoItm
  obtain ⟨V1, e1, g1, b1⟩ := laid_at w #[vi, .int .i64 s.batch, .int .i64 s.room, .int .i64 s.first, .int .i64 s.most, .int .i64 s.waits, .int .i64 s.till] 24
  have HB1 := hide b1
  have HG1 := hide g1
  have HRI := hide hr
  have HOK := hide hok
  have hsh : ∃ ao cp, vi = .slice ao s.items.length cp := by obtain ⟨ao, cp, e, _⟩ := hr; exact ⟨_, _, e⟩
  obtain ⟨io, ic, hvi⟩ := hsh
  subst hvi
  obtain ⟨SE, HSE⟩ : ∃ SE, Hid (shardErr s = SE) := ⟨_, hide rfl⟩
  have HCK : Hid (∀ W', Grow V1 W' → Calls Try.prog 10 #[.agg #[.slice io s.items.length ic, .int .i64 s.batch, .int .i64 s.room, .int .i64 s.first, .int .i64 s.most, .int .i64 s.waits, .int .i64 s.till]] W' fun e w' => e = .returned (.int .i64 SE) ∧ Grow W' w') := hide fun W' g => by
    have := scheck_any W' (.slice io s.items.length ic) s ((HRI.out.keep (HG1.out.trans g)).more (HG1.out.trans g).size) HOK.out
    rw [HSE.out] at this
    exact this
  clear g1 b1 hr hok hn0 hn1
  unfold shdV
  go_enter Try.func7, Try.ntmps7
  go_wp2_with fail
  refine (shardBegun_any V1).mono ?_
  rintro e w2 ⟨rfl, hg2⟩
  have HG2 : Hid (Grow V1 w2) := hide hg2
  have HC2 := hide (HCK.out w2 hg2)
  obtain ⟨c0, c1, c2, c3, c4, c5, c6⟩ := seven_of (hg2.get HB1.out)
  clear hg2 e1 HCK
  go_wp2_with fail
  refine HC2.out.mono ?_
  rintro e w3 ⟨rfl, hg3⟩
  have HG3 : Hid (Grow V1 w3) := hide (HG2.out.trans hg3)
  clear hg3 HC2 c0 c1 c2 c3 c4 c5 c6
  by_cases h0 : SE = 0
  · have hz : ((SE : Int) != 0) = false := by simp [h0]
    have HZ : Hid (shardErr s = 0) := hide (HSE.out.trans h0)
    clear h0
    by_cases hn : now < 0
    · go_wp2_with fail
      refine (shardBegun_any _).mono ?_
      rintro e w4 ⟨rfl, hg4⟩
      have HG4 : Hid (Grow w w4) := hide ((HG1.out.trans HG3.out).trans hg4)
      clear hg4
      go_wp2
      go_ret
      exact ⟨rfl, HG4.out⟩
    · obtain ⟨c0, c1, c2, c3, c4, c5, c6⟩ := seven_of (HG3.out.get HB1.out)
      have hn0 : 0 ≤ now := by omega
      obtain ⟨hib, hr1, hr2, hb1, hone⟩ := shardErr_zero HZ.out
      have hL : s.items.length ≤ 100 := by omega
      have hcopy : ∀ c, (s.items.drop c).map copyI = s.items.drop c := fun c => copies_right (one_drop hone c)
      have HCOPY := hide hcopy
      have hlab : ∀ x ∈ s.items, x.2.1.length ≤ 1000000 := fun x hx => by
        obtain ⟨i, hi, rfl⟩ := List.getElem_of_mem hx
        have h1 := hone i hi
        rw [oneE_is hi] at h1
        have h2 : itemErr s.items[i] = 0 := by
          by_cases h0 : itemErr s.items[i] = 0
          · exact h0
          · rw [if_pos h0] at h1; exact absurd h1 h0
        unfold itemErr at h2
        split at h2
        · cases h2
        · have := (Lb.eachErr_names (Lb.checkB_zero.1 h2).1).1
          omega
      have HLAB := hide hlab
      clear hib hr1 hr2 hb1 hone hcopy hlab
      go_wp2
      go_loopw [6, 7, 8, 9, 10] (fun wv iv _ _ _ wr => ∃ (j c : Nat) (vj : Value) (qs : List (Itm × Value)), j ≤ c ∧ c ≤ s.items.length ∧ iv = .int .i64 j ∧ Hid (j = 0 → c = 0) ∧ Hid (ownItems wr (w.heap.size + 1) wv qs) ∧ Hid (qs.map (·.1) = s.items.take c) ∧ Hid (wr.heap[w.heap.size]? = some (.cells #[vj, .int .i64 s.batch, .int .i64 s.room, .int .i64 s.first, .int .i64 s.most, .int .i64 (goS s j c).waits, .int .i64 (goS s j c).till] 24 (0, 0))) ∧ Hid (goRow wr w.heap.size wv vj (s.items.drop c)) ∧ Hid (j ≠ 0 → atErr s now = 0) ∧ Hid (Below w.heap.size w wr)) (fun _ iv _ _ _ _ => s.items.length + 1 - (intOf iv).toNat)
      case atStart => exact ⟨0, 0, .slice io s.items.length ic, [], by omega, by omega, rfl, hide (fun _ => rfl), hide ⟨World.ownsRow_nil _ _ _ _, fun p hp => by simp at hp⟩, hide rfl, hide (by rw [goS_zero]; exact HG3.out.get HB1.out), hide (.inl (by rw [List.drop_zero]; exact HRI.out.keep (HG1.out.trans HG3.out))), hide (fun h => absurd rfl h), hide (HG1.out.trans HG3.out)⟩
      case round =>
        clear c0 c1 c2 c3 c4 c5 c6
        obtain ⟨j, c, vj, qs, hjc, hcl, rfl, HJ0, HQ, HQM, HBX, HRO, HAT, HBW⟩ := hrel
        obtain ⟨wo, wc, hwv⟩ := own_shape HQ.out.1
        subst hwv
        have hql : qs.length = c := by
          have := congrArg List.length HQM.out
          rw [List.length_map, List.length_take] at this
          omega
        have hrj := HRO.out.reads HBW.out.size
        obtain ⟨jo, jc, hvj⟩ : ∃ ao cp, vj = .slice ao (s.items.drop c).length cp := by
          obtain ⟨ao, cp, e, _⟩ := hrj
          exact ⟨_, _, e⟩
        subst hvj
        have hji : (j : Int) ≤ (s.items.length : Int) := by omega
        obtain ⟨kse, kok⟩ := goS_right HOK.out HZ.out j c
        have HNX : Calls Try.prog 20 #[.agg #[.slice jo (s.items.drop c).length jc, .int .i64 s.batch, .int .i64 s.room, .int .i64 s.first, .int .i64 s.most, .int .i64 (goS s j c).waits, .int .i64 (goS s j c).till], .int .i64 now] wr _ := next_any wr _ (goS s j c) now hrj kok
        have HDN : Hid (∀ W : World, readsItems W W.heap.size (.slice jo (s.items.drop c).length jc) (goS s j c).items → atErr (goS s j c) now = 0 → 0 < (goS s j c).items.length → Calls Try.prog 18 #[.agg #[.slice jo (s.items.drop c).length jc, .int .i64 s.batch, .int .i64 s.room, .int .i64 s.first, .int .i64 s.most, .int .i64 (goS s j c).waits, .int .i64 (goS s j c).till], .int .i64 now, .int .i64 200] W fun e w' => ∃ v' ps, e = .returned (.tuple #[.agg #[v', .int .i64 s.batch, .int .i64 s.room, .int .i64 s.first, .int .i64 s.most, .int .i64 0, .int .i64 0], .int .i64 0]) ∧ ownItems w' W.heap.size v' ps ∧ ps.map (·.1) = ((goS s j c).items.drop (nextN (goS s j c))).map copyI ∧ Grow W w') := hide fun W hr ha hl => done_ok W _ (goS s j c) now hr kok ha hl
        have HKS := hide kse
        replace HNX := hide HNX
        have HRJ := hide hrj
        obtain ⟨c0, c1, c2, c3, c4, c5, c6⟩ := seven_of HBX.out
        obtain ⟨wt, HWT⟩ : ∃ wt, Hid ((goS s j c).waits = wt) := ⟨_, hide rfl⟩
        obtain ⟨tl, HTL⟩ : ∃ tl, Hid ((goS s j c).till = tl) := ⟨_, hide rfl⟩
        rw [HWT.out] at c5 HNX HDN HBX
        rw [HTL.out] at c6 HNX HDN HBX
        have hdl : (s.items.drop c).length = s.items.length - c := List.length_drop
        rw [hdl] at c0 HNX HDN HBX HRJ HRO
        clear kse kok hrj
        go_wp2_with fail
        refine HNX.out.mono ?_
        rintro e w5 ⟨hg5, ⟨hne, rfl⟩ | ⟨ha0, v', ps, T, rfl, hown, hps, hT⟩⟩
        · have hj0 : j = 0 := by
            rcases Nat.eq_zero_or_pos j with h | h
            · exact h
            · exact absurd (goS_at HOK.out (HAT.out (by omega)) hn0 j c) hne
          subst hj0
          have HG5 : Hid (Below w.heap.size w w5) := hide (HBW.out.trans (Below.mono hg5 HBW.out.size))
          have hz5 : ((atErr (goS s 0 c) now : Int) != 0) = true := by simp; exact hne
          generalize atErr (goS s 0 c) now = E at hz5
          clear hg5 HNX HDN hne
          go_wp2
          go_ret
          exact ⟨ret_bool (by simp), HG5.out⟩
        · obtain ⟨n, HN⟩ : ∃ n, Hid (nextN (goS s j c) = n) := ⟨_, hide rfl⟩
          rw [HN.out] at hps HDN
          have hps2 : ps.map (·.1) = (s.items.drop c).take n := by
            rw [hps]
            show ((s.items.drop c).take n).map copyI = _
            rw [List.map_take, HCOPY.out]
          have hnle : n ≤ s.items.length - c := by
            have := nextN_le (goS s j c)
            rw [HN.out] at this
            have e : (goS s j c).items.length = s.items.length - c := List.length_drop
            omega
          have hpl : ps.length = n := by
            have := congrArg List.length hps2
            rw [List.length_map, List.length_take, List.length_drop] at this
            omega
          obtain ⟨vo, vc, hvv⟩ := own_shape hown.1
          rw [hpl] at hvv
          subst hvv
          have HG5 : Hid (Grow wr w5) := hide hg5
          have HW5 : Hid (Below w.heap.size w w5) := hide (HBW.out.trans (Below.mono hg5 HBW.out.size))
          have HOWN := hide hown
          have HPS := hide hps2
          have HA0 := hide ha0
          have hsb : w.heap.size + 1 ≤ w5.heap.size := Nat.lt_of_lt_of_le (lt_of_block HBX.out) hg5.size
          have HQ5 : Hid (ownItems w5 (w.heap.size + 1) (.slice wo qs.length wc) qs) := hide (HQ.out.grow hg5)
          clear hg5 hown hps hps2 ha0 hT HNX c0 c1 c2 c3 c4 c5 c6
          by_cases hcn : c = s.items.length
          · obtain rfl : n = 0 := by omega
            have HSI := hide (sameItems_yes w5 (.slice wo qs.length wc) (.slice io s.items.length ic) s.items (by
              have := HQ5.out.reads
              rw [HQM.out, hcn, List.take_length] at this
              exact this) ((HRI.out.keep HW5.out).more HW5.out.size) (by omega) HLAB.out)
            clear hcn hql hnle hdl hpl
            go_wp2_with fail
            refine HSI.out.mono ?_
            rintro e w6 ⟨rfl, q, rfl⟩
            go_wp2
            go_ret
            exact ⟨rfl, HW5.out.trans (Below.mono (grow_drew _ _) HW5.out.size)⟩
          · have hn1 : 0 < n := by
              rw [← HN.out]
              exact nextN_pos HKS.out (by show 0 < (s.items.drop c).length; omega)
            have hne0 : ((n : Int) == 0) = false := by rw [beq_eq_false_iff_ne]; omega
            obtain ⟨g, rfl, HNW⟩ : ∃ g, vo = some ⟨g, 0, none⟩ ∧ Hid (∀ (q : Nat) (u : Value), (itCells ps)[q]? = some u → w5.cell? ((⟨g, 0, none⟩ : Addr).add q) = some u) := by
              rcases HOWN.out.1.2 with ⟨_, h0⟩ | ⟨g, cap, cur, hv, k1, k2, k3⟩
              · omega
              · simp only [Value.slice.injEq] at hv
                obtain ⟨rfl, _, _⟩ := hv
                exact ⟨g, rfl, hide fun q u hq => World.ownsRow.cells HOWN.out.1 (g := g) rfl q u hq⟩
            have HQ6 : Hid (w5.ownsRow (w.heap.size + 1) 39 4 (.slice wo c wc) c (itCells qs)) := hide (by have := HQ5.out.1; rw [hql] at this; exact this)
            rw [hql]
            have HPL := hide hpl
            have HQL := hide hql
            clear hpl hql hdl
            go_wp2_with (at_builtin; go_loud (refine wpList_append_own _ rfl _ _ 22 rfl (w.heap.size + 1) 39 i0 _ 4 48 Try.underlying22 hi0 hz0 hz1 hz2 rfl (by decide) _ c (itCells qs) rfl HQ6.out ⟨g, 0, none⟩ n vc (itCells ps) rfl (by rw [itCells_length, HPL.out]) HNW.out (itCells_one HOWN.out.2) (by unfold maxLen; omega) (by omega) hsb ?_))
            intro v6 w6 hown6 hgrow6 _
            obtain ⟨o6, c6, hv6⟩ := own_shape hown6
            subst hv6
            have hgrow6' : w5.grownBy w6 (Value.slice wo qs.length wc).ownBlock := by rw [HQL.out]; exact hgrow6
            have hbel6 : Below (w.heap.size + 1) w5 w6 := (Below.refl _ _).grown hgrow6 hsb (fun k hk => (HQ6.out.lt k hk).1)
            have hO6 : ownItems w6 (w.heap.size + 1) (.slice o6 (c + n) c6) (qs ++ ps) := HQ5.out.app (HOWN.out.le (by have := lt_of_block HBX.out; omega)) (by rw [HQL.out, HPL.out]; exact hown6) hgrow6'
            have b6 := grown_block hgrow6 (HG5.out.get HBX.out) (own_apart HQ6.out (HG5.out.get HBX.out) (by decide))
            have hR6 : readsItems w6 w6.heap.size (.slice jo (s.items.length - c) jc) (s.items.drop c) := HRO.out.step HG5.out hgrow6' (Below.mono hbel6 (by omega)) HBW.out.size
            have HW6 : Hid (Below w.heap.size w w6) := hide (HW5.out.trans (Below.mono hbel6 (by have := HW5.out.size; omega)))
            have HM6 : Hid ((qs ++ ps).map (·.1) = s.items.take (c + n)) := hide (by
              rw [List.map_append, HQM.out, HPS.out, List.take_add])
            have HDO := hide (HDN.out w6 hR6 HA0.out (by show 0 < (s.items.drop c).length; rw [List.length_drop]; omega))
            have HO6 := hide hO6
            have HB6 := hide b6
            obtain ⟨c0, c1, c2, c3, c4, c5, c6'⟩ := seven_of b6
            clear hown6 hgrow6 hgrow6' hbel6 hO6 b6 hR6 HDN
            go_wp2_with fail
            refine HDO.out.mono ?_
            rintro e w7 ⟨v'', ps2, rfl, hown7, hps7, hg7⟩
            obtain ⟨o7, c7, hv7⟩ := own_shape hown7.1
            subst hv7
            have b7 := hg7.get HB6.out
            have hps8 : ps2.map (·.1) = s.items.drop (c + n) := by
              rw [hps7]
              show ((s.items.drop c).drop n).map copyI = _
              rw [List.drop_drop, HCOPY.out]
            obtain ⟨X, eX⟩ : ∃ X, ((((((w7.setCell ⟨w.heap.size, 0, none⟩ (.slice o7 ps2.length c7)).setCell ⟨w.heap.size, 1, none⟩ (.int .i64 s.batch)).setCell ⟨w.heap.size, 2, none⟩ (.int .i64 s.room)).setCell ⟨w.heap.size, 3, none⟩ (.int .i64 s.first)).setCell ⟨w.heap.size, 4, none⟩ (.int .i64 s.most)).setCell ⟨w.heap.size, 5, none⟩ (.int .i64 0)).setCell ⟨w.heap.size, 6, none⟩ (.int .i64 0) = X := ⟨_, rfl⟩
            obtain ⟨bX, sX, oX, gX⟩ := put7 b7 eX
            have hoX := oX _ _ _ hown7
            have hoQ := oX _ _ _ (HO6.out.grow hg7)
            have hgX : Below w.heap.size w X := gX _ (HW6.out.trans (Below.mono hg7 HW6.out.size))
            have hrX : readsItems X X.heap.size (.slice o7 ps2.length c7) (s.items.drop (c + n)) := by
              have := hoX.reads
              rw [hps8] at this
              exact this
            obtain ⟨kse, kok⟩ := goS_right HOK.out HZ.out (j + 1) (c + n)
            have HCX : Calls Try.prog 10 #[.agg #[.slice o7 ps2.length c7, .int .i64 s.batch, .int .i64 s.room, .int .i64 s.first, .int .i64 s.most, .int .i64 0, .int .i64 0]] X fun e w' => e = .returned (.int .i64 0) ∧ Grow X w' := by
              have := scheck_any X (.slice o7 ps2.length c7) (goS s (j + 1) (c + n)) hrX kok
              rw [kse] at this
              exact this
            have HAT2 : Hid (atErr s now = 0) := hide (by
              by_cases h0 : j = 0
              · subst h0
                have hc0 := HJ0.out rfl
                subst hc0
                have := HA0.out
                rw [goS_zero] at this
                exact this
              · exact HAT.out h0)
            have y0 : w7.frozen? ⟨w.heap.size, 0, none⟩ = false := by simp only [World.frozen?, b7]; rfl
            have y1 : w7.frozen? ⟨w.heap.size, 1, none⟩ = false := by simp only [World.frozen?, b7]; rfl
            have y2 : w7.frozen? ⟨w.heap.size, 2, none⟩ = false := by simp only [World.frozen?, b7]; rfl
            have y3 : w7.frozen? ⟨w.heap.size, 3, none⟩ = false := by simp only [World.frozen?, b7]; rfl
            have y4 : w7.frozen? ⟨w.heap.size, 4, none⟩ = false := by simp only [World.frozen?, b7]; rfl
            have y5 : w7.frozen? ⟨w.heap.size, 5, none⟩ = false := by simp only [World.frozen?, b7]; rfl
            have y6 : w7.frozen? ⟨w.heap.size, 6, none⟩ = false := by simp only [World.frozen?, b7]; rfl
            clear c0 c1 c2 c3 c4 c5 c6'
            obtain ⟨k0, k1, k2, k3, k4, k5, k6⟩ := seven_of b7
            obtain ⟨x0, x1, x2, x3, x4, x5, x6⟩ := seven_of bX
            have HHX := hide hoX
            have HHQ := hide hoQ
            have HGX := hide hgX
            have HBX2 := hide bX
            have HP8 := hide hps8
            have HSX : Hid (w.heap.size + 1 ≤ w6.heap.size) := hide (lt_of_block HB6.out)
            replace HCX := hide HCX
            clear hown7 hps7 hg7 b7 hps8 bX sX oX gX hoX hoQ hgX hrX kse kok HDO
            go_wp2_with fail
            refine HCX.out.mono ?_
            rintro e w8 ⟨rfl, hg8⟩
            have HG8 := hide hg8
            clear hg8 HCX k0 k1 k2 k3 k4 k5 k6 x0 x1 x2 x3 x4 x5 x6 y0 y1 y2 y3 y4 y5 y6 eX
            go_wp2
            go_roundw
            case rel =>
              refine ⟨j + 1, c + n, .slice o7 ps2.length c7, qs ++ ps, by omega, by omega, by go_num, hide (fun h => by omega), hide (HHQ.out.grow HG8.out), HM6, hide (HG8.out.get HBX2.out), hide (.inr ⟨w6.heap.size, ps2, HSX.out, HHX.out.grow HG8.out, HP8.out, fun g hg => (HO6.out.1.lt g hg).2⟩), hide (fun _ => HAT2.out), hide (HGX.out.trans (Below.mono HG8.out HGX.out.size))⟩
            case measure => simp [intOf]; omega
  · have hz : ((SE : Int) != 0) = true := by simp; exact h0
    clear h0
    go_wp2_with fail
    refine (shardBegun_any _).mono ?_
    rintro e w4 ⟨rfl, hg4⟩
    have HG4 : Hid (Grow w w4) := hide ((HG1.out.trans HG3.out).trans hg4)
    clear hg4
    go_wp2
    go_ret
    exact ⟨rfl, HG4.out⟩
end Go.Proofs.Ytfdogelkgogcbaa.Sh
