/- 1 texts in one. -/
import Derived.Laws.OwnMore
import Derived.Test.YtmdakfmecfcbhaaGreatProg
import Derived.Test.YtmdakfmecfcbhaaGreatK7e06493
import Derived.Test.YtmdakfmecfcbhaaGreatK85cc7d6
import Derived.Test.YtmdakfmecfcbhaaGreatK6ada7ca
import Derived.Test.YtmdakfmecfcbhaaGreatK2303fdd
import Derived.Test.YtmdakfmecfcbhaaGreatK658df2a
import Derived.Test.YtmdakfmecfcbhaaGreatKe26850f
import Derived.Test.YtmdakfmecfcbhaaGreatK3e23582
import Derived.Test.YtmdakfmecfcbhaaGreatK14d8a0b
import Derived.Test.YtmdakfmecfcbhaaGreatKf7a2202
import Derived.Test.YtmdakfmecfcbhaaGreatKbe49eb6
import Derived.Test.YtmdakfmecfcbhaaGreatK62f8920
import Derived.Test.YtmdakfmecfcbhaaGreatK0e4cd72
import Derived.BigQuiet
set_option linter.unusedVariables false
set_option linter.unusedSimpArgs false
namespace Go.Proofs.YtmdakfmecfcbhaaGreat.Tk
open Go.RowKit
attribute [local go_sem] bs_size bs_toList bs_append bs_get bs_extract
theorem ownSeries_le {w : World} {B B' : Nat} {v : Value} {ls : List Ser} (h : ownSeries w B v ls) (hb : B' ≤ B) : ownSeries w B' v ls := by
  obtain ⟨vs, h1, h2, h3⟩ := h
  exact ⟨vs, h1, own_leT h2 hb, fun i x s hx hs => ⟨own_leT (h3 i x s hx hs).1 hb, own_leT (h3 i x s hx hs).2 hb⟩⟩
/-! ### mathematics -/
theorem keepP_mem {x : List Lb.Lab} {p : Sam} : ∀ {l : List Ser} {s : Ser}, s ∈ keepP l x p → (∃ t ∈ l, s.1 = t.1 ∧ s.2.length ≤ t.2.length + 1) ∨ (s.1 = x ∧ s.2.length ≤ 1)
  | [], s, h => by
    simp only [keepP, List.mem_singleton] at h
    subst h
    exact .inr ⟨rfl, by simp⟩
  | t :: l, s, h => by
    rw [keepP] at h
    split at h
    · rcases List.mem_cons.1 h with rfl | h
      · exact .inl ⟨s, by simp, rfl, by omega⟩
      · rcases keepP_mem h with ⟨u, hu, h1, h2⟩ | h
        · exact .inl ⟨u, List.mem_cons_of_mem _ hu, h1, h2⟩
        · exact .inr h
    · split at h
      · rcases List.mem_cons.1 h with rfl | h
        · exact .inl ⟨t, by simp, rfl, addS_len _ _⟩
        · exact .inl ⟨s, List.mem_cons_of_mem _ h, rfl, by omega⟩
      · rcases List.mem_cons.1 h with rfl | h
        · exact .inr ⟨rfl, by simp⟩
        · exact .inl ⟨s, h, rfl, by omega⟩
theorem keepP_len (x : List Lb.Lab) (p : Sam) : ∀ l : List Ser, (keepP l x p).length ≤ l.length + 1
  | [] => by simp [keepP]
  | t :: l => by
    rw [keepP]
    have := keepP_len x p l
    split
    · simp only [List.length_cons]; omega
    · split <;> simp
theorem keepP_rise {x : List Lb.Lab} {p : Sam} : ∀ {l : List Ser}, l.Pairwise (fun p q => Lb.ordB p.1 q.1 < 0) → (keepP l x p).Pairwise (fun p q => Lb.ordB p.1 q.1 < 0)
  | [], _ => by simp [keepP]
  | t :: l, h => by
    have h0 := h
    rw [List.pairwise_cons] at h
    rw [keepP]
    split
    · rename_i hlt
      rw [List.pairwise_cons]
      refine ⟨fun s hs => ?_, keepP_rise h.2⟩
      rcases keepP_mem hs with ⟨u, hu, h1, _⟩ | ⟨h1, _⟩
      · rw [h1]; exact h.1 u hu
      · rw [h1]; exact hlt
    · split
      · rw [List.pairwise_cons]
        exact ⟨h.1, h.2⟩
      · rename_i h1 h2
        rw [List.pairwise_cons]
        have hx : Lb.ordB x t.1 < 0 := by rw [Lb.ordB_neg]; omega
        refine ⟨fun s hs => ?_, h0⟩
        rcases List.mem_cons.1 hs with rfl | hs
        · exact hx
        · exact Lb.ordB_trans hx (h.1 s hs)
/-- What is right of a store, in so many words. -/
def fitS (l : List Ser) (n m : Nat) : Prop := l.length ≤ n ∧ (∀ s ∈ l, s.2.length ≤ m) ∧ (∀ s ∈ l, Lb.checkB s.1 = 0) ∧ l.Pairwise (fun p q => Lb.ordB p.1 q.1 < 0)
theorem keepP_fit {l : List Ser} {n m : Nat} {x : List Lb.Lab} {p : Sam} (h : fitS l n m) (hx : Lb.checkB x = 0) : fitS (keepP l x p) (n + 1) (m + 1) := by
  obtain ⟨h1, h2, h3, h4⟩ := h
  refine ⟨Nat.le_trans (keepP_len _ _ _) (by omega), fun s hs => ?_, fun s hs => ?_, keepP_rise h4⟩
  · rcases keepP_mem hs with ⟨u, hu, _, h⟩ | ⟨_, h⟩
    · have := h2 u hu; omega
    · omega
  · rcases keepP_mem hs with ⟨u, hu, h, _⟩ | ⟨h, _⟩
    · rw [h]; exact h3 u hu
    · rw [h]; exact hx
theorem keepAll_fit {x : List Lb.Lab} (hx : Lb.checkB x = 0) : ∀ (ps : List Sam) {l : List Ser} {n m : Nat}, fitS l n m → fitS (keepAll l x ps) (n + ps.length) (m + ps.length)
  | [], l, n, m, h => h
  | p :: ps, l, n, m, h => by
    have := keepAll_fit hx ps (keepP_fit (p := p) h hx)
    show fitS (keepAll (keepP l x p) x ps) _ _
    rw [List.length_cons, show n + (ps.length + 1) = n + 1 + ps.length by omega, show m + (ps.length + 1) = m + 1 + ps.length by omega]
    exact this
/-- All that was sent is taken. -/
def takeAll (l : List Ser) (x : List Ser) : List Ser := x.foldl (fun l y => keepAll l y.1 y.2) l
theorem takeAll_fit : ∀ (x : List Ser) {l : List Ser} {n m : Nat}, (∀ y ∈ x, Lb.checkB y.1 = 0 ∧ y.2.length ≤ 200) → fitS l n m → fitS (takeAll l x) (n + 200 * x.length) (m + 200 * x.length)
  | [], l, n, m, _, h => h
  | y :: x, l, n, m, hy, h => by
    have h1 := keepAll_fit (hy y (by simp)).1 y.2 h
    have h2 : fitS (keepAll l y.1 y.2) (n + 200) (m + 200) := ⟨Nat.le_trans h1.1 (by have := (hy y (by simp)).2; omega), fun s hs => Nat.le_trans (h1.2.1 s hs) (by have := (hy y (by simp)).2; omega), h1.2.2⟩
    have := takeAll_fit x (fun z hz => hy z (List.mem_cons_of_mem _ hz)) h2
    show fitS (takeAll (keepAll l y.1 y.2) x) _ _
    rw [List.length_cons, show n + 200 * (x.length + 1) = n + 200 + 200 * x.length by omega, show m + 200 * (x.length + 1) = m + 200 + 200 * x.length by omega]
    exact this
theorem takeAll_snoc (l x : List Ser) {k : Nat} (h : k < x.length) : takeAll l (x.take (k + 1)) = keepAll (takeAll l (x.take k)) x[k].1 x[k].2 := by
  unfold takeAll
  rw [List.take_succ_eq_append_getElem h, List.foldl_append]
  rfl
theorem store_fit {l : List Ser} (h : storeErr l = 0) : fitS l 500 5000 := by
  obtain ⟨h1, h2, h3, h4⟩ := store_right h
  exact ⟨h1, h2, fun s hs => (serErr_labels (h3 s hs)).1, rise_pw.1 h4⟩
/-- Is it what may be sent? -/
def mayB (x : List Ser) : Bool := x.all (fun y => decide (y.1.length ≠ 0) && decide (Lb.checkB y.1 = 0))
/-- The series of a text that was sent. -/
def sentOf (s : List UInt8) : Option (List Ser) := if (unpackB s 20000).1 ≠ 0 then none else if readErr (unpackB s 20000).2 ≠ 0 then none else match allRead (unpackB s 20000).2 with
  | none => none
  | some x => if mayB x = true then some x else none
theorem sentOf_some {s : List UInt8} {x : List Ser} (h : sentOf s = some x) : x.length ≤ 200 ∧ (∀ y ∈ x, Lb.checkB y.1 = 0 ∧ y.2.length ≤ 200) ∧ mayB x = true := by
  unfold sentOf at h
  split at h
  · cases h
  · split at h
    · cases h
    · rename_i h1 h2
      split at h
      · cases h
      · rename_i y hy
        split at h
        · rename_i hm
          obtain rfl := Option.some.inj h
          obtain ⟨hc, _, _⟩ := readErr_none (by simpa using h2) hy
          unfold countsB at hc
          simp only [Bool.and_eq_true, decide_eq_true_eq, List.all_eq_true] at hc
          unfold mayB at hm
          refine ⟨hc.1, fun z hz => ⟨?_, (hc.2 z hz).2.1⟩, by unfold mayB; exact hm⟩
          have := List.all_eq_true.1 hm z hz
          simp only [Bool.and_eq_true, decide_eq_true_eq] at this
          exact this.2
        · cases h
theorem unpack_short (s : List UInt8) : (unpackB s 20000).2.length ≤ 20000 := by
  unfold unpackB
  rw [if_neg (by omega)]
  split
  · simp
  · rename_i n r _
    split
    · simp
    · split
      · simp
      · rename_i hn m hm
        have := unpB_full (told := n) r.length (r := r) (made := []) (by simp) hm
        show m.length ≤ _
        omega
theorem mayB_no {x : List Ser} {k : Nat} (hk : k < x.length) (h : ¬ (x[k].1.length ≠ 0 ∧ Lb.checkB x[k].1 = 0)) : mayB x = false := by
  cases hm : mayB x with
  | false => rfl
  | true =>
    unfold mayB at hm
    have := List.all_eq_true.1 hm _ (List.getElem_mem hk)
    simp only [Bool.and_eq_true, decide_eq_true_eq] at this
    exact absurd this h
theorem mayB_yes {x : List Ser} (h : ∀ j (hj : j < x.length), x[j].1.length ≠ 0 ∧ Lb.checkB x[j].1 = 0) : mayB x = true := by
  unfold mayB
  refine List.all_eq_true.2 fun y hy => ?_
  obtain ⟨j, hj, rfl⟩ := List.getElem_of_mem hy
  simp only [Bool.and_eq_true, decide_eq_true_eq]
  exact h j hj
set_option maxRecDepth 20000 in
set_option maxHeartbeats 2000000 in
theorem sent_any (w : World) (s : List UInt8) (hs : s.length ≤ 140737488355328) :
    Calls Tryz.prog 29 #[.string (bs s)] w fun e w' => Grow w w' ∧ ((sentOf s = none ∧ e = .returned (.tuple #[.slice none 0 0, .bool false])) ∨ (∃ x v, sentOf s = some x ∧ e = .returned (.tuple #[v, .bool true]) ∧ ownSeries w' w.heap.size v x)) := by
  have HU := hide (unpack_any w s 20000 hs (by decide) (by decide))
  obtain ⟨U, HUE⟩ : ∃ U, Hid ((unpackB s 20000).1 = U) := ⟨_, hide rfl⟩
  obtain ⟨T, HTE⟩ : ∃ T, Hid ((unpackB s 20000).2 = T) := ⟨_, hide rfl⟩
  rw [HUE.out, HTE.out] at HU
  obtain ⟨SO, HSO⟩ : ∃ SO, Hid (sentOf s = SO) := ⟨_, hide rfl⟩
  have HS1 : Hid ((if U ≠ 0 then none else if readErr T ≠ 0 then none else match allRead T with | none => none | some x => if mayB x = true then some x else none) = SO) := by
    rw [← HUE.out, ← HTE.out]; exact HSO
  rw [HSO.out]
  go_enter Tryz.func29, Tryz.ntmps29
  go_wp2_with fail
  refine HU.out.mono ?_
  rintro e w1 ⟨rfl, hg1⟩
  have HG1 : Hid (Grow w w1) := hide hg1
  clear hg1 HU
  by_cases hU : U = 0
  · have hz : (U != 0) = false := by simp [hU]
    rw [if_neg (by simpa using hU)] at HS1
    clear hU
    have HR := hide (read_any w1 T (by have := unpack_short s; rw [HTE.out] at this; omega))
    go_wp2_with fail
    refine HR.out.mono ?_
    rintro e w2 ⟨hg2, (⟨hr, x, v, hx, rfl, hown⟩ | ⟨hne, rfl⟩)⟩
    · have HG2 : Hid (Grow w w2) := hide (HG1.out.trans hg2)
      have HG12 : Hid (Grow w1 w2) := hide hg2
      rw [if_neg (by simpa using hr), hx] at HS1
      have HS2 : Hid ((if mayB x = true then some x else none) = SO) := HS1
      have HOWN := hide hown
      obtain ⟨vs, hvl, hrow, hall⟩ := id hown
      obtain ⟨vo, vc, hvv⟩ := own_shape hrow
      subst hvv
      have hrd := reads_ownSeries hown
      obtain ⟨ao, cp, hv2, hcells⟩ := hrd
      have hx20 : x.length ≤ 200 := by
        obtain ⟨hc, _, _⟩ := readErr_none hr hx
        unfold countsB at hc
        simp only [Bool.and_eq_true, decide_eq_true_eq] at hc
        exact hc.1
      have HLF : Hid (∀ y ∈ x, y.1.length ≤ 20 ∧ Lb.lensOk y.1) := hide (fun y hy => by
        obtain ⟨hc, _, _⟩ := readErr_none hr hx
        unfold countsB at hc
        simp only [Bool.and_eq_true, decide_eq_true_eq, List.all_eq_true] at hc
        obtain ⟨q1, q2, q3⟩ := hc.2 y hy
        exact ⟨q1, fun z hz => by have := q3 z hz; omega⟩)
      simp only [Value.slice.injEq] at hv2
      obtain ⟨rfl, _, rfl⟩ := hv2
      clear hg2 HR hr hx hown hvl hrow hall HS1
      go_wp2
      go_loopw [25] (fun iv wr => ∃ k : Nat, k ≤ x.length ∧ iv = .int .i64 k ∧ Hid (∀ j (hj : j < x.length), j < k → x[j].1.length ≠ 0 ∧ Lb.checkB x[j].1 = 0) ∧ Hid (Grow w2 wr)) (fun iv _ => x.length - (intOf iv).toNat)
      case atStart => exact ⟨0, by omega, rfl, hide (fun j hj h => by omega), hide (Grow.refl _)⟩
      case round =>
        obtain ⟨k, hk, rfl, HD, HGr⟩ := hrel
        have HGw : Hid (Grow w wr) := hide (HG2.out.trans HGr.out)
        by_cases hlt : k < x.length
        · have hlti : (k : Int) < (x.length : Int) := by omega
          obtain ⟨rb, rf, xa, ya, rfl, hrB, a0, a1, ha, hss⟩ := hcells k hlt
          have c0 := (HGr.out.cell (p := ⟨rb, rf + k * 2, none⟩) hrB).trans a0
          have c1 := (HGr.out.cell (p := ⟨rb, rf + k * 2 + 1, none⟩) hrB).trans a1
          obtain ⟨V, eV, gV, bV⟩ := laid_at wr #[xa, ya] 41
          have hgV : Grow w2 V := HGr.out.trans gV
          have hfl := HLF.out _ (List.getElem_mem hlt)
          have HCK := Lb.check_any V xa x[k].1 (Lb.readsLabels_mono (Lb.readsLabels_below (show Lb.readsLabels w2 w2.heap.size xa x[k].1 from ha) hgV) hgV.size) (by omega) hfl.2
          obtain ⟨C, HC⟩ : ∃ C, Hid (Lb.checkB x[k].1 = C) := ⟨_, hide rfl⟩
          rw [HC.out] at HCK
          replace HCK := hide HCK
          obtain ⟨xo, xc, hxa⟩ := readsLabels_len ha
          obtain ⟨yo, yc, hya⟩ := readsSamples_len hss
          obtain ⟨n1, hn1⟩ : ∃ n1, x[k].1.length = n1 := ⟨_, rfl⟩
          have HN1 := hide hn1
          rw [hn1] at hxa
          subst hxa hya
          generalize x[k].2.length = n2 at *
          obtain ⟨d0, d1⟩ := two_cells bV
          have HGV := hide hgV
          clear ha hss a0 a1 gV bV hgV hfl hn1 hcells
          by_cases h0 : n1 = 0
          · have hz0 : ((n1 : Int) == 0) = true := by simp [h0]
            have hbad := mayB_no hlt (fun h => h.1 (HN1.out.trans h0))
            rw [if_neg (by rw [hbad]; simp)] at HS2
            clear hbad h0
            go_wp2
            go_ret2
            exact ⟨HG2.out.trans HGV.out, .inl ⟨HS2.out.symm, rfl⟩⟩
          · have hz0 : ((n1 : Int) == 0) = false := by rw [beq_eq_false_iff_ne]; omega
            have HZ := hide h0
            clear h0
            go_wp2_with fail
            refine HCK.out.mono ?_
            rintro e w3 ⟨rfl, hg3⟩
            have HG3 : Hid (Grow w2 w3) := hide (HGV.out.trans hg3)
            clear hg3 HCK c0 c1 d0 d1 eV
            by_cases hC : C = 0
            · have hzc : ((C : Int) != 0) = false := by simp [hC]
              have HC0 := hide hC
              clear hC
              go_wp2
              go_roundw
              case rel => exact ⟨k + 1, by omega, by go_num, hide (fun j hj hjk => by
                by_cases e : j = k
                · subst e; exact ⟨by rw [HN1.out]; exact HZ.out, HC.out.trans HC0.out⟩
                · exact HD.out j hj (by omega)), HG3⟩
              case measure => simp [intOf]; omega
            · have hzc : ((C : Int) != 0) = true := by simp; exact hC
              have hbad := mayB_no hlt (fun h => hC (by rw [← HC.out]; exact h.2))
              rw [if_neg (by rw [hbad]; simp)] at HS2
              clear hbad hC
              go_wp2
              go_ret2
              exact ⟨HG2.out.trans HG3.out, .inl ⟨HS2.out.symm, rfl⟩⟩
        · obtain rfl : k = x.length := by omega
          have hyes := mayB_yes (fun j hj => HD.out j hj hj)
          rw [if_pos hyes] at HS2
          have hgs : w.heap.size ≤ w1.heap.size := HG1.out.size
          clear hyes hcells
          go_wp2
          go_ret2
          refine ⟨HGw.out, .inr ⟨x, _, HS2.out.symm, rfl, ?_⟩⟩
          exact ownSeries_le (ownSeries_grow HOWN.out HGr.out) hgs
    · rw [if_pos hne] at HS1
      have HG2 : Hid (Grow w w2) := hide (HG1.out.trans hg2)
      have hnz : (readErr T != 0) = true := by simpa using hne
      clear hg2 HR hne
      go_wp2
      go_ret2
      exact ⟨HG2.out, .inl ⟨HS1.out.symm, rfl⟩⟩
  · have hz : (U != 0) = true := by simpa using hU
    rw [if_pos hU] at HS1
    clear hU
    go_wp2
    go_ret2
    exact ⟨HG1.out, .inl ⟨HS1.out.symm, rfl⟩⟩
theorem own_mid {w w' : World} {M N e size n : Nat} {v : Value} {xs : List Value} (h : w.ownsRow M e size v n xs) (hN : w.heap.size ≤ N) (hm : ∀ k, M ≤ k → k < N → w'.heap[k]? = w.heap[k]?) : w'.ownsRow M e size v n xs :=
  own_keep h fun g hg => hm g (h.lt g hg).1 (Nat.lt_of_lt_of_le (h.lt g hg).2 hN)
theorem labCells_is : ∀ l : List Lb.Lab, labCells l = Lb.labCells l
  | [] => rfl
  | x :: l => by rw [labCells, labCells_is l]; rfl
theorem samCells_is : ∀ l : List Sam, samCells l = samC l
  | [] => rfl
  | x :: l => by rw [samCells, samCells_is l]; rfl
set_option maxRecDepth 20000 in
set_option maxHeartbeats 2000000 in
theorem take_any (w : World) (v : Value) (l : List Ser) (s : List UInt8) (hv : readsSer w w.heap.size v l) (hok : okStore l) (hs : s.length ≤ 140737488355328) :
    Calls Tryz.prog 11 #[v, .string (bs s)] w fun e w' => Grow w w' ∧ ((storeErr l ≠ 0 ∧ e = .returned (.tuple #[.slice none 0 0, .int .i64 0, .int .i64 (storeErr l : Nat)])) ∨
      (storeErr l = 0 ∧ sentOf s = none ∧ ∃ v' ps, e = .returned (.tuple #[v', .int .i64 400, .int .i64 0]) ∧ ownStore w' w.heap.size v' ps ∧ ps.map (·.1) = l) ∨
      (storeErr l = 0 ∧ ∃ x, sentOf s = some x ∧ ((manyB (takeAll l x) = true ∧ e = .returned (.tuple #[.slice none 0 0, .int .i64 0, .int .i64 2])) ∨ (manyB (takeAll l x) = false ∧ ∃ v' ps, e = .returned (.tuple #[v', .int .i64 200, .int .i64 0]) ∧ ownStore w' w.heap.size v' ps ∧ ps.map (·.1) = takeAll l x)))) := by
  obtain ⟨S, HS⟩ : ∃ S, Hid (storeErr l = S) := ⟨_, hide rfl⟩
  rw [HS.out]
  have HTC := tcheck_any w v l hv hok
  rw [HS.out] at HTC
  replace HTC := hide HTC
  have HV := hide hv
  obtain ⟨ao, cp, hvv, -, -⟩ := id hv
  subst hvv
  have HSN : Hid (∀ W, Calls Tryz.prog 29 #[.string (bs s)] W fun e w' => Grow W w' ∧ ((sentOf s = none ∧ e = .returned (.tuple #[.slice none 0 0, .bool false])) ∨ (∃ x v, sentOf s = some x ∧ e = .returned (.tuple #[v, .bool true]) ∧ ownSeries w' W.heap.size v x))) := hide fun W => sent_any W s hs
  clear hv hok hs
  go_enter Tryz.func11, Tryz.ntmps11
  go_wp2_with fail
  refine HTC.out.mono ?_
  rintro e w1 ⟨rfl, hg1⟩
  have HG1 : Hid (Grow w w1) := hide hg1
  clear hg1 HTC
  by_cases hS : S = 0
  · have hz : ((S : Int) != 0) = false := by simp [hS]
    have HS0 := hide hS
    clear hS
    obtain ⟨f1, f2, f3, f4⟩ := store_right (HS.out.trans HS0.out)
    have HFI := hide (store_fit (HS.out.trans HS0.out))
    have HCP := hide (tcopied_any w1 (.slice ao l.length cp) l ((HV.out.keep HG1.out).more HG1.out.size) (by omega) (fun y hy => ⟨(serErr_labels (f3 y hy)).1, (serErr_labels (f3 y hy)).2.1, by have := f2 y hy; omega⟩))
    clear f1 f2 f3 f4
    go_wp2_with fail
    refine HCP.out.mono ?_
    rintro e w2 ⟨v2, ps, rfl, hst, hps, hg2⟩
    obtain ⟨vo, vc, hvv⟩ := own_shape hst.1
    subst hvv
    have HST := hide hst
    have HPS := hide hps
    have HG12 : Hid (Grow w1 w2) := hide hg2
    have HG2 : Hid (Grow w w2) := hide (HG1.out.trans hg2)
    clear hst hps hg2 HCP
    go_wp2_with fail
    refine (HSN.out w2).mono ?_
    rintro e w3 ⟨hg3, ⟨hno, rfl⟩ | ⟨x, vx, hx, rfl, hown⟩⟩
    · have HG23 : Hid (Grow w2 w3) := hide hg3
      have HNO := hide hno
      have hws : w.heap.size ≤ w1.heap.size := HG1.out.size
      clear hg3 hno HSN
      go_wp2
      go_ret3
      exact ⟨HG2.out.trans HG23.out, .inr (.inl ⟨HS0.out, HNO.out, _, ps, rfl, (HST.out.grow HG23.out).le hws, HPS.out⟩)⟩
    · obtain ⟨hx1, hx2, _⟩ := sentOf_some hx
      have HX2 := hide hx2
      have HXE := hide hx
      obtain ⟨vs, hvl, hrow, hall⟩ := hown
      obtain ⟨xo, xc, hxv⟩ := own_shape hrow
      subst hxv
      have HROW := hide hrow
      have HALL := hide hall
      have HG23 : Hid (Grow w2 w3) := hide hg3
      obtain ⟨M, HM⟩ : ∃ M, Hid (w2.heap.size = M) := ⟨_, hide rfl⟩
      obtain ⟨N, HN⟩ : ∃ N, Hid (w3.heap.size = N) := ⟨_, hide rfl⟩
      rw [HM.out] at HROW HALL
      have hBM : w.heap.size ≤ M := by rw [← HM.out]; exact HG2.out.size
      have hMN : M ≤ N := by rw [← HM.out, ← HN.out]; exact HG23.out.size
      have hlt2 : ∀ {e size n : Nat} {u : Value} {ys : List Value}, w2.ownsRow w1.heap.size e size u n ys → freeB M N u := fun h b hb => .inl (by rw [← HM.out]; exact (h.lt b hb).2)
      have HF0 : Hid (freeS M N (.slice vo ps.length vc) ps) := hide ⟨hlt2 HST.out.1, fun p hp => hlt2 (HST.out.2.1 p hp).2⟩
      have HS3 : Hid (ownStore w3 w.heap.size (.slice vo ps.length vc) ps) := hide ((HST.out.grow HG23.out).le HG1.out.size)
      clear hg3 hx hx2 hrow hall HSN hlt2
      go_wp2
      go_loopw [8, 30] (fun sv iv wr => ∃ (k : Nat) (qs : List Pt), k ≤ x.length ∧ iv = .int .i64 k ∧ Hid (ownStore wr w.heap.size sv qs) ∧ Hid (freeS M N sv qs) ∧ Hid (qs.map (·.1) = takeAll l (x.take k)) ∧ Hid (KeptM w.heap.size M N w3 wr) ∧ Hid (N ≤ wr.heap.size)) (fun _ iv _ => x.length - (intOf iv).toNat)
      case atStart => exact ⟨0, ps, by omega, rfl, HS3, HF0, hide (by rw [HPS.out]; rfl), hide (KeptM.refl _ _ _ _), hide (by rw [HN.out]; exact Nat.le_refl _)⟩
      case round =>
        obtain ⟨k, qs, hk, rfl, HOS, HFS, HQS, HKM, HNW⟩ := hrel
        obtain ⟨so, sc, hsv⟩ := own_shape HOS.out.1
        subst hsv
        have HBW : Hid (Below w.heap.size w wr) := hide (Below.trans (HG2.out.trans HG23.out) HKM.out.below)
        have hfit := takeAll_fit (x.take k) (fun y hy => HX2.out y (List.mem_of_mem_take hy)) HFI.out
        rw [← HQS.out] at hfit
        have hkl : (x.take k).length ≤ 200 := by rw [List.length_take]; omega
        have hql : qs.length ≤ 40500 := by have := hfit.1; rw [List.length_map] at this; omega
        by_cases hlt : k < x.length
        · have hlti : (k : Int) < (x.length : Int) := by omega
          have hkv : k < vs.length := by omega
          obtain ⟨xb, hxo, c0, c1⟩ : ∃ b, xo = some ⟨b, 0, none⟩ ∧ wr.cell? ⟨b, k * 2, none⟩ = some vs[k].1 ∧ wr.cell? ⟨b, k * 2 + 1, none⟩ = some vs[k].2 := by
            have hr := own_mid HROW.out (by rw [HN.out]; exact Nat.le_refl _) HKM.out.mid
            rcases hr.2 with ⟨_, h0⟩ | ⟨b, cap, cur, r1, r2, r3, _⟩
            · omega
            · simp only [Value.slice.injEq] at r1
              obtain ⟨rfl, _, _⟩ := r1
              have hc := World.ownsRow.cells hr (g := b) rfl
              obtain ⟨q0, q1⟩ := pairCells_at vs k hkv
              have z0 := hc _ _ q0
              have z1 := hc _ _ q1
              rw [Addr.add_lit] at z0 z1
              exact ⟨b, rfl, by simpa using z0, by simpa using z1⟩
          subst hxo
          obtain ⟨hla, hsa⟩ := HALL.out k vs[k] x[k] (List.getElem?_eq_getElem hkv) (List.getElem?_eq_getElem hlt)
          have hlaw : Lb.ownLabels wr M vs[k].1 x[k].1 := by
            have := own_mid (w' := wr) hla (by rw [HN.out]; exact Nat.le_refl _) HKM.out.mid
            rw [labCells_is] at this
            exact this
          have hsaw : ownSam wr M vs[k].2 x[k].2 := by
            have := own_mid (w' := wr) hsa (by rw [HN.out]; exact Nat.le_refl _) HKM.out.mid
            rw [samCells_is] at this
            exact this
          have hsN : ∀ g, vs[k].2.ownBlock = some g → g < N := fun g hg => by rw [← HN.out]; exact (hsa.lt g hg).2
          obtain ⟨V, eV, gV, bV⟩ := laid_at wr #[vs[k].1, vs[k].2] 41
          obtain ⟨hcx, hxn⟩ := HX2.out _ (List.getElem_mem hlt)
          have HK := hide (keep_any V w.heap.size M N (.slice so qs.length sc) qs x[k] vs[k].1 vs[k].2 (HOS.out.grow gV) HFS.out hBM hMN (Nat.le_trans HNW.out gV.size) (own_growT hlaw gV) (own_growT hsaw gV) hsN (by omega) (fun p hp => by
              have := hfit.2.1 p.1 (List.mem_map.2 ⟨p, hp, rfl⟩)
              omega) hxn (fun p hp => hfit.2.2.1 p.1 (List.mem_map.2 ⟨p, hp, rfl⟩)) hcx (rise_pw.2 hfit.2.2.2))
          have HGV := hide gV
          have HTS := hide (takeAll_snoc l x hlt)
          obtain ⟨lo, lc, hlv⟩ := own_shape hlaw
          obtain ⟨mo, mc, hmv⟩ := own_shape hsaw
          obtain ⟨d0, d1⟩ := two_cells bV
          rw [HQS.out, ← HTS.out] at HK
          generalize vs[k].1 = xl at *
          generalize vs[k].2 = xs at *
          subst hlv hmv
          clear hla hsa hlaw hsaw hsN gV bV hcx hxn hfit
          go_wp2_with fail
          refine HK.out.mono ?_
          rintro e w5 ⟨v', qs', rfl, hos, hfs, hqs, hkm⟩
          obtain ⟨so', sc', hsv'⟩ := own_shape hos.1
          subst hsv'
          have H1 := hide hos
          have H2 := hide hfs
          have H3 := hide hqs
          have H4 := hide hkm
          have hBr : w.heap.size ≤ wr.heap.size := HBW.out.size
          clear hos hfs hqs hkm HK c0 c1 d0 d1 eV
          go_wp2
          go_roundw
          case rel => exact ⟨k + 1, qs', by omega, by go_num, H1, H2, H3, hide (KeptM.trans HKM.out (KeptM.trans (KeptM.grow HGV.out hBr HNW.out) H4.out)), hide (Nat.le_trans HNW.out (Nat.le_trans HGV.out.size H4.out.below.size))⟩
          case measure => simp [intOf]; omega
        · obtain rfl : k = x.length := by omega
          rw [List.take_length] at HQS
          have HTM := tooMany_any wr (.slice so qs.length sc) (qs.map (·.1)) HOS.out.reads (by rw [List.length_map]; omega)
          rw [HQS.out] at HTM
          replace HTM := hide HTM
          obtain ⟨MB, HMB⟩ : ∃ MB, Hid (manyB (takeAll l x) = MB) := ⟨_, hide rfl⟩
          rw [HMB.out] at HTM
          clear hfit
          go_wp2_with fail
          refine HTM.out.mono ?_
          rintro e w5 ⟨rfl, hg5⟩
          have HG5 : Hid (Grow wr w5) := hide hg5
          have hBr : w.heap.size ≤ wr.heap.size := HBW.out.size
          have HB5 : Hid (Below w.heap.size w w5) := hide (Below.trans HBW.out (Below.mono hg5 hBr))
          clear hg5 HTM
          cases MB with
          | true =>
            go_wp2
            go_ret3
            exact ⟨HB5.out, .inr (.inr ⟨HS0.out, x, HXE.out, .inl ⟨HMB.out, rfl⟩⟩)⟩
          | false =>
            go_wp2
            go_ret3
            exact ⟨HB5.out, .inr (.inr ⟨HS0.out, x, HXE.out, .inr ⟨HMB.out, _, qs, rfl, HOS.out.grow HG5.out, HQS.out⟩⟩)⟩
  · have hz : ((S : Int) != 0) = true := by simp; exact hS
    have HSN0 := hide hS
    clear hS
    go_wp2
    go_ret3
    exact ⟨HG1.out, .inl ⟨HSN0.out, rfl⟩⟩
end Go.Proofs.YtmdakfmecfcbhaaGreat.Tk
