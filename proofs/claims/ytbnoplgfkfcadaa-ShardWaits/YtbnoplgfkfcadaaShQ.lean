/- shard: the walk of ShardWaits. -/
import Derived.Laws.OwnMore
import Derived.Test.YtbnoplgfkfcadaaProg
import Derived.Test.YtbnoplgfkfcadaaKit
import Derived.Test.YtbnoplgfkfcadaaReg
import Derived.Test.YtbnoplgfkfcadaaReg2
import Derived.Test.YtbnoplgfkfcadaaShA
import Derived.Test.YtbnoplgfkfcadaaShB
import Derived.Test.YtbnoplgfkfcadaaShC
import Derived.Test.YtbnoplgfkfcadaaShJ
import Derived.Test.YtbnoplgfkfcadaaShL
import Derived.Test.YtbnoplgfkfcadaaShM
import Derived.Test.YtbnoplgfkfcadaaShG
import Derived.BigQuiet
set_option linter.unusedVariables false
set_option linter.unusedSimpArgs false
namespace Go.Proofs.Ytbnoplgfkfcadaa.Sh
open Go.RowKit
attribute [local go_sem] bs_size bs_toList bs_append bs_get bs_extract

theorem doneErr_zero {s : Shd} {now : Int} (h : doneErr s now 0 = 0) : atErr s now = 0 ∧ 0 < s.items.length := by
  unfold doneErr at h
  by_cases h1 : atErr s now = 0
  · rw [if_neg (by omega), if_neg (fun h => h.2.2 rfl)] at h
    by_cases h2 : s.items.length = 0
    · rw [if_pos h2] at h; cases h
    · exact ⟨h1, by omega⟩
  · rw [if_pos h1] at h; exact absurd h h1
theorem doneErr_ok {s : Shd} {now : Int} (h1 : atErr s now = 0) (h2 : 0 < s.items.length) : doneErr s now 0 = 0 := by
  unfold doneErr
  rw [if_neg (by omega), if_neg (fun h => h.2.2 rfl), if_neg (by omega)]
theorem inB_mk {s : Shd} (h : 1 ≤ s.batch ∧ s.batch ≤ 200 ∧ 1 ≤ s.room ∧ s.room ≤ 100 ∧ 1 ≤ s.first ∧ s.first ≤ s.most ∧ s.most ≤ 100000 ∧ (s.waits = 0 ∨ (s.first ≤ s.waits ∧ s.waits ≤ s.most)) ∧ -9007199254740991 ≤ s.till ∧ s.till ≤ 9007199254740991) : inB s = true := by
  unfold inB timeB
  simpa only [Bool.and_eq_true, Bool.or_eq_true, decide_eq_true_eq, beq_iff_eq] using h
/-- What holds of the shard when nothing came. -/
theorem wait_right {s : Shd} {now : Int} (hok : okShd s) (h : doneErr s now 0 = 0) :
    doneErr (waitS s now) (waitS s now).till 0 = 0 ∧ okShd (waitS s now) ∧ s.first ≤ longerN s ∧ longerN s ≤ s.most ∧ s.waits ≤ longerN s ∧ now ≤ (waitS s now).till ∧ (waitS s now).till ≤ 9007199254740991 ∧ shardErr (waitS s now) = 0 := by
  obtain ⟨ha, hl⟩ := doneErr_zero h
  obtain ⟨hs, ht, htl⟩ := atErr_zero ha
  obtain ⟨hib, hr1, hr2, hb1, hone⟩ := shardErr_zero hs
  have hb := inB_is hib
  obtain ⟨b1, b2, b3⟩ := longerN_bounds hib
  have htn : -9007199254740991 ≤ now ∧ now ≤ 9007199254740991 := by unfold timeB at ht; simpa only [Bool.and_eq_true, decide_eq_true_eq] using ht
  have e1 : (waitS s now).till = min (now + longerN s) 9007199254740991 := rfl
  have hib2 : inB (waitS s now) = true := inB_mk (by
    refine ⟨hb.1, hb.2.1, hb.2.2.1, hb.2.2.2.1, hb.2.2.2.2.1, hb.2.2.2.2.2.1, hb.2.2.2.2.2.2.1, .inr ⟨b1, b2⟩, ?_, ?_⟩ <;> rw [e1] <;> omega)
  have hse : shardErr (waitS s now) = 0 := by
    unfold shardErr
    rw [hib2, if_neg (by simp)]
    show (if s.room < (s.items.length : Int) then 2 else firstN (oneE s.items) s.items.length) = 0
    rw [if_neg (by omega)]
    exact firstN_none hone
  have hat : atErr (waitS s now) (waitS s now).till = 0 := by
    unfold atErr
    rw [if_neg (by omega), if_neg, if_neg (by omega)]
    have h2 := (inB_is hib2).2.2.2.2.2.2.2.2
    unfold timeB
    simp only [Bool.and_eq_false_iff, decide_eq_false_iff_not]
    omega
  obtain ⟨o1, o2, o3, o4, o5, o6, o7, o8⟩ := hok
  exact ⟨doneErr_ok hat hl, ⟨o1, o2, o3, o4, o5, o6, by show _ ≤ longerN s ∧ longerN s ≤ _; omega, by rw [e1]; omega⟩, b1, b2, b3, by rw [e1]; omega, by rw [e1]; omega, hse⟩
def itS (s : Shd) (now : Int) : Nat → Shd × Int
  | 0 => (s, now)
  | j + 1 => (waitS (itS s now j).1 (itS s now j).2, (waitS (itS s now j).1 (itS s now j).2).till)
theorem itS_right {s : Shd} {now : Int} (hok : okShd s) (h : doneErr s now 0 = 0) : ∀ j, doneErr (itS s now j).1 (itS s now j).2 0 = 0 ∧ okShd (itS s now j).1 ∧ (itS s now j).1.items = s.items ∧ (itS s now j).1.first = s.first ∧ (itS s now j).1.most = s.most
  | 0 => ⟨h, hok, rfl, rfl, rfl⟩
  | j + 1 => by
    obtain ⟨h1, h2, h3, h4, h5⟩ := itS_right hok h j
    obtain ⟨k1, k2, _⟩ := wait_right h2 h1
    exact ⟨k1, k2, h3, h4, h5⟩
theorem itS_grows {s : Shd} {now : Int} (hok : okShd s) (h : doneErr s now 0 = 0) : ∀ j, min s.most (s.first * 2 ^ j) ≤ (itS s now (j + 1)).1.waits ∧ (itS s now (j + 1)).1.waits ≤ s.most := by
  have hf : 1 ≤ s.first ∧ s.first ≤ s.most := by
    obtain ⟨ha, _⟩ := doneErr_zero h
    obtain ⟨hs, _⟩ := atErr_zero ha
    have := inB_is (shardErr_zero hs).1
    exact ⟨this.2.2.2.2.1, this.2.2.2.2.2.1⟩
  intro j
  induction j with
  | zero =>
    obtain ⟨_, _, b1, b2, _⟩ := wait_right hok h
    show _ ≤ longerN s ∧ longerN s ≤ _
    simp only [Int.pow_zero, Int.mul_one]
    omega
  | succ j ih =>
    obtain ⟨h1, h2, h3, h4, h5⟩ := itS_right hok h (j + 1)
    obtain ⟨_, _, b1, b2, _⟩ := wait_right h2 h1
    show _ ≤ longerN (itS s now (j + 1)).1 ∧ longerN (itS s now (j + 1)).1 ≤ _
    rw [h5] at b2
    refine ⟨?_, b2⟩
    have hp : (2 : Int) ^ (j + 1) = 2 * 2 ^ j := by rw [Int.pow_succ]; omega
    have hp1 : (1 : Int) ≤ s.first * 2 ^ j := by
      have : (0 : Int) < 2 ^ j := Int.pow_pos (by decide)
      have h2 : (0 : Int) < s.first * 2 ^ j := Int.mul_pos (by omega) this
      omega
    have e : s.first * 2 ^ (j + 1) = 2 * (s.first * 2 ^ j) := by rw [hp, Int.mul_left_comm]
    rw [e]
    unfold longerN
    rw [h5, if_neg (by omega)]
    omega
theorem itS_most {s : Shd} {now : Int} (hok : okShd s) (h : doneErr s now 0 = 0) : (itS s now 30).1.waits = s.most := by
  obtain ⟨h1, h2⟩ := itS_grows hok h 29
  obtain ⟨ha, _⟩ := doneErr_zero h
  obtain ⟨hs, _⟩ := atErr_zero ha
  have := inB_is (shardErr_zero hs).1
  have e : (2 : Int) ^ 29 = 536870912 := by decide
  rw [e] at h1
  have k1 : min s.most (s.first * 536870912) ≤ (itS s now 30).1.waits := h1
  have k2 : (itS s now 30).1.waits ≤ s.most := h2
  omega
/-- The items that a shard's box names: those that came, or copies. -/
def rowOk (w : World) (sb : Nat) (v : Value) (l : List Itm) : Prop := readsItems w sb v l ∨ ∃ ps, ownItems w (sb + 1) v ps ∧ ps.map (·.1) = l
theorem rowOk.reads {w : World} {sb : Nat} {v : Value} {l : List Itm} (h : rowOk w sb v l) (hs : sb ≤ w.heap.size) : readsItems w w.heap.size v l := by
  rcases h with h | ⟨ps, h, rfl⟩
  · exact h.more hs
  · exact h.reads
theorem grow_drew1 (w : World) : Grow w w.drew := ⟨rfl, rfl, rfl, Nat.le_refl _, fun _ _ => rfl⟩
/-- What stands in the region that puts the new shard into the box. -/
def stJ (w A : World) (xb : Nat) (cs : Array Value) (v : Value) (ps : List (Itm × Value)) (d : Bool) (w' : World) : Prop :=
  (d = false → Grow A w') ∧ (d = true → w'.heap[w.heap.size]? = some (.cells cs 24 (0, 0)) ∧ ownItems w' (w.heap.size + 1) v ps ∧ Below w.heap.size w w') ∧ w'.heap[xb]? = some (.cells cs 24 (0, 0))
set_option maxRecDepth 20000 in
set_option maxHeartbeats 1200000 in
theorem shardWaits_any (w : World) (vi : Value) (s : Shd) (hr : readsItems w w.heap.size vi s.items) (hok : okShd s) (now : Int) (hn0 : -9223372036854775808 ≤ now) (hn1 : now ≤ 9223372036854775807) :
    Calls Try.prog 8 #[shdV vi s, .int .i64 now] w fun e w' => e = .returned (.bool true) ∧ Below w.heap.size w w' := by
  obtain ⟨V1, e1, g1, b1⟩ := laid_at w #[vi, .int .i64 s.batch, .int .i64 s.room, .int .i64 s.first, .int .i64 s.most, .int .i64 s.waits, .int .i64 s.till] 24
  have HB1 := hide b1
  have HG1 := hide g1
  have HRI := hide hr
  have HOK := hide hok
  have hsh : ∃ ao n cp, vi = .slice ao n cp := by obtain ⟨ao, cp, e, _⟩ := hr; exact ⟨_, _, _, e⟩
  obtain ⟨io, n, ic, hvi⟩ := hsh
  subst hvi
  have hS : Hid (∀ j, ∃ sj : Shd, (itS s now j).1 = sj) := hide fun j => ⟨_, rfl⟩
  clear g1 b1 hr hok hn0 hn1
  unfold shdV
  go_enter Try.func8, Try.ntmps8
  go_wp2_with fail
  refine (shardBegun_any V1).mono ?_
  rintro e w2 ⟨rfl, hg2⟩
  have HG2 : Hid (Grow V1 w2) := hide hg2
  clear hg2 e1
  go_wp2
  go_loopw [1, 5, 6, 7] (fun nv iv _ _ wr => ∃ (j : Nat) (vj : Value), j ≤ 30 ∧ iv = .int .i64 j ∧ nv = .int .i64 (itS s now j).2 ∧ Hid (wr.heap[w.heap.size]? = some (.cells #[vj, .int .i64 (itS s now j).1.batch, .int .i64 (itS s now j).1.room, .int .i64 (itS s now j).1.first, .int .i64 (itS s now j).1.most, .int .i64 (itS s now j).1.waits, .int .i64 (itS s now j).1.till] 24 (0, 0))) ∧ Hid (rowOk wr w.heap.size vj s.items) ∧ Hid (j ≠ 0 → doneErr s now 0 = 0) ∧ Hid (Below w.heap.size w wr)) (fun _ iv _ _ _ => 30 - (intOf iv).toNat)
  case atStart => exact ⟨0, .slice io n ic, by omega, rfl, rfl, hide (HG2.out.get HB1.out), hide (.inl (HRI.out.keep (HG1.out.trans HG2.out))), hide (fun h => absurd rfl h), hide (HG1.out.trans HG2.out)⟩
  case round =>
    obtain ⟨j, vj, hj, rfl, rfl, HBX, HRO, HDZ, HBW⟩ := hrel
    obtain ⟨jo, jn, jc, hvj⟩ : ∃ ao n cp, vj = .slice ao n cp := by
      obtain ⟨ao, cp, e, _⟩ := HRO.out.reads HBW.out.size
      exact ⟨_, _, _, e⟩
    subst hvj
    by_cases hlt : j < 30
    · have hlti : (j : Int) < 30 := by omega
      obtain ⟨Sj, HSj⟩ : ∃ Sj, Hid ((itS s now j).1 = Sj) := ⟨_, hide rfl⟩
      obtain ⟨Nj, HNj⟩ : ∃ Nj, Hid ((itS s now j).2 = Nj) := ⟨_, hide rfl⟩
      rw [HSj.out] at HBX
      rw [HNj.out]
      obtain ⟨hokj, hitj⟩ : okShd Sj ∧ Sj.items = s.items := by
        rw [← HSj.out]
        by_cases h0 : j = 0
        · subst h0; exact ⟨HOK.out, rfl⟩
        · have := itS_right HOK.out (HDZ.out h0) j; exact ⟨this.2.1, this.2.2.1⟩
      have hrj := HRO.out.reads HBW.out.size
      rw [← hitj] at hrj
      obtain ⟨c0, c1, c2, c3, c4, c5, c6⟩ := seven_of HBX.out
      by_cases hD : doneErr Sj Nj 0 = 0
      · have HST : Hid ((itS s now (j + 1)).1 = waitS Sj Nj) := hide (by show waitS _ _ = _; rw [HSj.out, HNj.out])
        have HST2 : Hid ((itS s now (j + 1)).2 = (waitS Sj Nj).till) := hide (by show (waitS _ _).till = _; rw [HSj.out, HNj.out])
        have HD0 : Hid (doneErr s now 0 = 0) := hide (by
          by_cases h0 : j = 0
          · subst h0
            have h1 : s = Sj := HSj.out
            have h2 : now = Nj := HNj.out
            rw [h1, h2]; exact hD
          · exact HDZ.out h0)
        obtain ⟨kD, kok, kb1, kb2, kb3, kt1, kt2, kse⟩ := wait_right hokj hD
        obtain ⟨ha, hlen⟩ := doneErr_zero hD
        have hs0 := (atErr_zero ha).1
        obtain ⟨_, hr1, hr2, _, hone⟩ := shardErr_zero hs0
        have hcp : Sj.items.map copyI = s.items := by rw [copies_right hone, hitj]
        obtain ⟨LO, HLO⟩ : ∃ LO, Hid (longerN Sj = LO) := ⟨_, hide rfl⟩
        obtain ⟨TI, HTI⟩ : ∃ TI, Hid ((waitS Sj Nj).till = TI) := ⟨_, hide rfl⟩
        have HDN : Calls Try.prog 18 #[.agg #[.slice jo jn jc, .int .i64 Sj.batch, .int .i64 Sj.room, .int .i64 Sj.first, .int .i64 Sj.most, .int .i64 Sj.waits, .int .i64 Sj.till], .int .i64 Nj, .int .i64 0] wr fun e w' => ∃ v' ps, e = .returned (.tuple #[.agg #[v', .int .i64 Sj.batch, .int .i64 Sj.room, .int .i64 Sj.first, .int .i64 Sj.most, .int .i64 (longerN Sj), .int .i64 (waitS Sj Nj).till], .int .i64 0]) ∧ ownItems w' wr.heap.size v' ps ∧ ps.map (·.1) = Sj.items.map copyI ∧ Grow wr w' := done_none wr (.slice jo jn jc) Sj Nj hrj hokj ha hlen
        rw [HLO.out, HTI.out, hcp] at HDN
        rw [HLO.out] at kb1 kb2 kb3
        rw [HTI.out] at kt1 kt2 HST2
        have HOKW := hide kok
        have HSE := hide kse
        have hil : s.items.length ≤ 1000 := by rw [← hitj]; omega
        have hlab : ∀ x ∈ s.items, x.2.1.length ≤ 1000000 := fun x hx => by
          rw [← hitj] at hx
          obtain ⟨i, hi, rfl⟩ := List.getElem_of_mem hx
          have h1 := hone i hi
          rw [oneE_is hi] at h1
          have h2 : itemErr Sj.items[i] = 0 := by
            by_cases h0 : itemErr Sj.items[i] = 0
            · exact h0
            · rw [if_pos h0] at h1; exact absurd h1 h0
          unfold itemErr at h2
          split at h2
          · cases h2
          · have := (Lb.eachErr_names (Lb.checkB_zero.1 h2).1).1
            omega
        have HLAB := hide hlab
        have HWI : Hid ((waitS Sj Nj).items = s.items) := hide hitj
        have HCKA : Hid (∀ (W' : World) (v' : Value), readsItems W' W'.heap.size v' s.items → Calls Try.prog 10 #[.agg #[v', .int .i64 Sj.batch, .int .i64 Sj.room, .int .i64 Sj.first, .int .i64 Sj.most, .int .i64 LO, .int .i64 TI]] W' fun e w' => e = .returned (.int .i64 0) ∧ Grow W' w') := hide fun W' v' hrd => by
          have h1 := scheck_any W' v' (waitS Sj Nj) (by rw [HWI.out]; exact hrd) HOKW.out
          rw [HSE.out] at h1
          have h2 : Calls Try.prog 10 #[.agg #[v', .int .i64 Sj.batch, .int .i64 Sj.room, .int .i64 Sj.first, .int .i64 Sj.most, .int .i64 (longerN Sj), .int .i64 (waitS Sj Nj).till]] W' fun e w' => e = .returned (.int .i64 0) ∧ Grow W' w' := h1
          rw [HLO.out, HTI.out] at h2
          exact h2
        have HBC : Hid (∀ v', (Value.agg #[v', .int .i64 (waitS Sj Nj).batch, .int .i64 (waitS Sj Nj).room, .int .i64 (waitS Sj Nj).first, .int .i64 (waitS Sj Nj).most, .int .i64 (waitS Sj Nj).waits, .int .i64 (waitS Sj Nj).till]) = .agg #[v', .int .i64 Sj.batch, .int .i64 Sj.room, .int .i64 Sj.first, .int .i64 Sj.most, .int .i64 LO, .int .i64 TI]) := hide fun v' => by
          show Value.agg #[v', .int .i64 Sj.batch, .int .i64 Sj.room, .int .i64 Sj.first, .int .i64 Sj.most, .int .i64 (longerN Sj), .int .i64 (waitS Sj Nj).till] = _
          rw [HLO.out, HTI.out]
        have hsb : w.heap.size < wr.heap.size := lt_of_block HBX.out
        have HRJ := hide hrj
        rw [hitj] at HRJ
        have f1 : decide (LO < Sj.first) = false := decide_eq_false (by omega)
        have f2 : decide (Sj.most < LO) = false := decide_eq_false (by omega)
        have f3 : decide (LO < Sj.waits) = false := decide_eq_false (by omega)
        have f4 : decide (TI < Nj) = false := decide_eq_false (by omega)
        have f5 : decide (9007199254740991 < TI) = false := decide_eq_false (by omega)
        replace HDN := hide HDN
        generalize Sj.batch = batch at *
        generalize Sj.room = room at *
        generalize Sj.first = first at *
        generalize Sj.most = most at *
        generalize Sj.waits = waits at *
        generalize Sj.till = till at *
        clear hrj hokj hD kD kok kb1 kb2 kb3 kt1 kt2 kse ha hlen hs0 hr1 hr2 hone hcp hlab hitj
        go_wp2_with fail
        refine HDN.out.mono ?_
        rintro e w5 ⟨v', ps, rfl, hown, hps, hg5⟩
        obtain ⟨vo, vc, hvv⟩ := own_shape hown.1
        subst hvv
        obtain ⟨A, eA, gA, bA⟩ := laid_at w5 #[.slice vo ps.length vc, .int .i64 batch, .int .i64 room, .int .i64 first, .int .i64 most, .int .i64 LO, .int .i64 TI] 24
        have hgA : Grow wr A := Grow.trans hg5 gA
        have HOA := hide (hown.grow gA)
        have HGA := hide hgA
        have HSX : Hid (w.heap.size < w5.heap.size) := hide (Nat.lt_of_lt_of_le hsb hg5.size)
        have HBA := hide bA
        have HRA : Hid (∀ W', Grow A W' → readsItems W' W'.heap.size (.slice vo ps.length vc) s.items) := hide fun W' g => by
          have := (HOA.out.grow g).reads
          rw [hps] at this
          exact this
        have HSI : Hid (∀ W', Grow A W' → Calls Try.prog 21 #[.slice vo ps.length vc, .slice jo jn jc] W' fun e w' => e = .returned (.bool true) ∧ ∃ n, w' = W'.drewN n) := hide fun W' g => sameItems_yes W' _ _ s.items (HRA.out W' g) ((HRJ.out.keep (hgA.trans g)).more (hgA.trans g).size) hil HLAB.out
        obtain ⟨x0, x1, x2, x3, x4, x5, x6⟩ := seven_of bA
        clear c0 c1 c2 c3 c4 c5 c6
        obtain ⟨c0, c1, c2, c3, c4, c5, c6⟩ := seven_of (hgA.get HBX.out)
        have HS0 := HSI.out A (Grow.refl _)
        rw [← eA] at HS0 x0 x1 x2 x3 x4 x5 x6 c0 c1 c2 c3 c4 c5 c6
        replace HS0 := hide HS0
        have HPS := hide hps
        have EA := hide eA
        clear hown hps hg5 gA bA hgA HDN eA
        go_wp2_with fail
        refine HS0.out.mono ?_
        rintro e w6 ⟨rfl, q, hw6⟩
        rw [EA.out] at hw6
        have HG6 : Hid (Grow A w6) := hide (by rw [hw6]; exact grow_drew _ _)
        clear hw6 HS0 x0 x1 x2 x3 x4 x5 x6 c0 c1 c2 c3 c4 c5 c6
        obtain ⟨x0, x1, x2, x3, x4, x5, x6⟩ := seven_of (HG6.out.get HBA.out)
        have HC0 := hide (HCKA.out w6 _ (HRA.out w6 HG6.out))
        go_wp2_with fail
        refine HC0.out.mono ?_
        rintro e w7 ⟨rfl, hg7⟩
        have HG7 : Hid (Grow A w7) := hide (HG6.out.trans hg7)
        clear hg7 HC0 x0 x1 x2 x3 x4 x5 x6
        go_wp2
        have b7 := HG7.out.get HBA.out
        have hW7 : Grow wr w7 := HGA.out.trans HG7.out
        have q7 := hW7.get HBX.out
        have hxb : w5.heap.size ≠ w.heap.size := by have := HGA.out.size; have := HSX.out; omega
        obtain ⟨x0, x1, x2, x3, x4, x5, x6⟩ := seven_of b7
        obtain ⟨c0, c1, c2, c3, c4, c5, c6⟩ := seven_of q7
        have y0 : w7.frozen? ⟨w.heap.size, 0, none⟩ = false := by simp only [World.frozen?, q7]; rfl
        have y1 : w7.frozen? ⟨w.heap.size, 1, none⟩ = false := by simp only [World.frozen?, q7]; rfl
        have y2 : w7.frozen? ⟨w.heap.size, 2, none⟩ = false := by simp only [World.frozen?, q7]; rfl
        have y3 : w7.frozen? ⟨w.heap.size, 3, none⟩ = false := by simp only [World.frozen?, q7]; rfl
        have y4 : w7.frozen? ⟨w.heap.size, 4, none⟩ = false := by simp only [World.frozen?, q7]; rfl
        have y5 : w7.frozen? ⟨w.heap.size, 5, none⟩ = false := by simp only [World.frozen?, q7]; rfl
        have y6 : w7.frozen? ⟨w.heap.size, 6, none⟩ = false := by simp only [World.frozen?, q7]; rfl
        have B7 := hide b7
        have Q7 := hide q7
        have HW7 := hide hW7
        clear b7 q7 hW7
        go_region
        go_wp2
        have hW7 : Grow wr w7 := HW7.out
        have n7 : ownItems w7 (w.heap.size + 1) (.slice vo ps.length vc) ps := (HOA.out.grow HG7.out).le hsb
        have g7 : Below w.heap.size w w7 := HBW.out.trans (Below.mono hW7 HBW.out.size)
        have h0 := set4 Q7.out 0 (.slice vo ps.length vc)
        have h1 := set4 h0 1 (.int .i64 batch)
        have h2 := set4 h1 2 (.int .i64 room)
        have h3 := set4 h2 3 (.int .i64 first)
        have h4 := set4 h3 4 (.int .i64 most)
        have h5 := set4 h4 5 (.int .i64 LO)
        have h6 := set4 h5 6 (.int .i64 TI)
        have n0 := n7.set (i := 0) (u := .slice vo ps.length vc) Q7.out (by decide) (by decide)
        have n1 := n0.set (i := 1) (u := .int .i64 batch) h0 (by decide) (by decide)
        have n2 := n1.set (i := 2) (u := .int .i64 room) h1 (by decide) (by decide)
        have n3 := n2.set (i := 3) (u := .int .i64 first) h2 (by decide) (by decide)
        have n4 := n3.set (i := 4) (u := .int .i64 most) h3 (by decide) (by decide)
        have n5 := n4.set (i := 5) (u := .int .i64 LO) h4 (by decide) (by decide)
        have n16 := n5.set (i := 6) (u := .int .i64 TI) h5 (by decide) (by decide)
        have gg0 : Below w.heap.size w (w7.setCell ⟨w.heap.size, 0, none⟩ (.slice vo ps.length vc)) := g7.setCell (Nat.le_refl _) _
        have gg1 : Below w.heap.size w ((w7.setCell ⟨w.heap.size, 0, none⟩ (.slice vo ps.length vc)).setCell ⟨w.heap.size, 1, none⟩ (.int .i64 batch)) := gg0.setCell (Nat.le_refl _) _
        have gg2 : Below w.heap.size w (((w7.setCell ⟨w.heap.size, 0, none⟩ (.slice vo ps.length vc)).setCell ⟨w.heap.size, 1, none⟩ (.int .i64 batch)).setCell ⟨w.heap.size, 2, none⟩ (.int .i64 room)) := gg1.setCell (Nat.le_refl _) _
        have gg3 : Below w.heap.size w ((((w7.setCell ⟨w.heap.size, 0, none⟩ (.slice vo ps.length vc)).setCell ⟨w.heap.size, 1, none⟩ (.int .i64 batch)).setCell ⟨w.heap.size, 2, none⟩ (.int .i64 room)).setCell ⟨w.heap.size, 3, none⟩ (.int .i64 first)) := gg2.setCell (Nat.le_refl _) _
        have gg4 : Below w.heap.size w (((((w7.setCell ⟨w.heap.size, 0, none⟩ (.slice vo ps.length vc)).setCell ⟨w.heap.size, 1, none⟩ (.int .i64 batch)).setCell ⟨w.heap.size, 2, none⟩ (.int .i64 room)).setCell ⟨w.heap.size, 3, none⟩ (.int .i64 first)).setCell ⟨w.heap.size, 4, none⟩ (.int .i64 most)) := gg3.setCell (Nat.le_refl _) _
        have gg5 : Below w.heap.size w ((((((w7.setCell ⟨w.heap.size, 0, none⟩ (.slice vo ps.length vc)).setCell ⟨w.heap.size, 1, none⟩ (.int .i64 batch)).setCell ⟨w.heap.size, 2, none⟩ (.int .i64 room)).setCell ⟨w.heap.size, 3, none⟩ (.int .i64 first)).setCell ⟨w.heap.size, 4, none⟩ (.int .i64 most)).setCell ⟨w.heap.size, 5, none⟩ (.int .i64 LO)) := gg4.setCell (Nat.le_refl _) _
        have gg6 : Below w.heap.size w (((((((w7.setCell ⟨w.heap.size, 0, none⟩ (.slice vo ps.length vc)).setCell ⟨w.heap.size, 1, none⟩ (.int .i64 batch)).setCell ⟨w.heap.size, 2, none⟩ (.int .i64 room)).setCell ⟨w.heap.size, 3, none⟩ (.int .i64 first)).setCell ⟨w.heap.size, 4, none⟩ (.int .i64 most)).setCell ⟨w.heap.size, 5, none⟩ (.int .i64 LO)).setCell ⟨w.heap.size, 6, none⟩ (.int .i64 TI)) := gg5.setCell (Nat.le_refl _) _
        have H6 := hide ((grow_drew1 _).get h6)
        have N6 := hide (n16.grow (grow_drew1 _))
        have G6 := hide (gg6.trans (Below.mono (grow_drew1 _) gg6.size))
        clear h0 h1 h2 h3 h4 h5 h6 n0 n1 n2 n3 n4 n5 n16 n7 g7 gg0 gg1 gg2 gg3 gg4 gg5 gg6 hW7
        go_roundw
        case rel =>
          refine ⟨j + 1, .slice vo ps.length vc, by omega, by go_num, by rw [HST2.out], hide ?_, hide (.inr ⟨ps, N6.out, HPS.out⟩), hide (fun _ => HD0.out), G6⟩
          rw [HST.out]
          obtain ⟨q1, q2, q3, q4, q5, q6⟩ : (waitS Sj Nj).batch = batch ∧ (waitS Sj Nj).room = room ∧ (waitS Sj Nj).first = first ∧ (waitS Sj Nj).most = most ∧ (waitS Sj Nj).waits = LO ∧ (waitS Sj Nj).till = TI := by simpa using HBC.out undef
          rw [q1, q2, q3, q4, q5, q6]
          exact H6.out
        case measure => simp [intOf]; omega
      · have hj0 : j = 0 := by
          rcases Nat.eq_zero_or_pos j with h | h
          · exact h
          · have := (itS_right HOK.out (HDZ.out (by omega)) j).1
            rw [HSj.out, HNj.out] at this
            exact absurd this hD
        subst hj0
        have HDB := done_bad wr (.slice jo jn jc) Sj Nj hrj hokj hD
        unfold shdV at HDB
        replace HDB := hide HDB
        generalize doneErr Sj Nj 0 = E at HDB hD
        obtain ⟨is, batch, room, first, most, waits, till⟩ := Sj
        simp only at HDB HBX c0 c1 c2 c3 c4 c5 c6
        have hz : ((E : Int) != 0) = true := by simp; exact hD
        clear hrj hokj hitj HSj hD
        go_wp2_with fail
        refine HDB.out.mono ?_
        rintro e w5 ⟨rfl, hg5⟩
        have HG5 : Hid (Below w.heap.size w w5) := hide (HBW.out.trans (Below.mono hg5 HBW.out.size))
        clear hg5 HDB
        go_wp2
        go_ret
        exact ⟨ret_bool (by simp), HG5.out.alloc HG5.out.size _⟩
    · obtain rfl : j = 30 := by omega
      have hm := itS_most HOK.out (HDZ.out (by decide))
      have hm2 := (itS_right HOK.out (HDZ.out (by decide)) 30).2.2.2.2
      have HX : Hid ((itS s now 30).1.waits = (itS s now 30).1.most) := hide (by rw [hm, hm2])
      obtain ⟨c0, c1, c2, c3, c4, c5, c6⟩ := seven_of HBX.out
      rw [HX.out] at c5
      generalize (itS s now 30).1.most = mm at c4 c5
      clear hm hm2
      go_wp2
      go_ret
      exact ⟨ret_bool (by simp), HBW.out⟩
end Go.Proofs.Ytbnoplgfkfcadaa.Sh
