/- 3 texts in one. -/
import Derived.Laws.OwnMore
import Derived.Test.YtmdakfmecfcbhaaGreatProg
import Derived.Test.YtmdakfmecfcbhaaGreatK7e06493
import Derived.Test.YtmdakfmecfcbhaaGreatK85cc7d6
import Derived.Test.YtmdakfmecfcbhaaGreatK6ada7ca
import Derived.Test.YtmdakfmecfcbhaaGreatK2318fee
import Derived.Test.YtmdakfmecfcbhaaGreatK14d8a0b
import Derived.Test.YtmdakfmecfcbhaaGreatKf7a2202
import Derived.Lib.BufferMore
import Derived.BigQuiet
set_option linter.unusedVariables false
set_option linter.unusedSimpArgs false
namespace Go.Proofs.YtmdakfmecfcbhaaGreat.Tk
open Go.RowKit Lb
attribute [local go_sem] bs_size bs_toList bs_append bs_get bs_extract
theorem own_leT {w : World} {B B' e size n : Nat} {v : Value} {xs : List Value} (h : w.ownsRow B e size v n xs) (hb : B' ≤ B) : w.ownsRow B' e size v n xs := by
  obtain ⟨h3, h4⟩ := h
  refine ⟨h3, ?_⟩
  rcases h4 with h4 | ⟨g, cap, cur, r1, r2, r3, r4⟩
  · exact .inl h4
  · exact .inr ⟨g, cap, cur, r1, by omega, r3, r4⟩
theorem own_growT {w w' : World} {base e size n : Nat} {v : Value} {xs : List Value} (h : w.ownsRow base e size v n xs) (hg : Grow w w') : w'.ownsRow base e size v n xs := by
  obtain ⟨h3, h4⟩ := h
  refine ⟨h3, ?_⟩
  rcases h4 with h4 | ⟨g, cap, cur, r1, r2, r3, r4⟩
  · exact .inl h4
  · exact .inr ⟨g, cap, cur, r1, r2, hg.get r3, r4⟩
theorem infoSam : (Tryz.prog.info? 48).map (fun i => (i.zero, i.size, i.bytes)) = some (some (.agg #[.int .i64 0, .int .u64 0]), 2, 16) := by kernel_rfl
/-- What the cells of samples hold. -/
def samC : List Sam → List Value
  | [] => []
  | p :: l => .int .i64 p.1 :: .int .u64 (p.2 : Nat) :: samC l
theorem samC_length (l : List Sam) : (samC l).length = l.length * 2 := by
  induction l with
  | nil => rfl
  | cons x l ih => show (samC l).length + 1 + 1 = _; rw [ih, List.length_cons]; omega
theorem samC_append (l r : List Sam) : samC (l ++ r) = samC l ++ samC r := by
  induction l with
  | nil => rfl
  | cons x l ih => show _ :: _ :: samC (l ++ r) = _; rw [ih]; rfl
theorem samC_at : ∀ (l : List Sam) (i : Nat) (h : i < l.length), (samC l)[i * 2]? = some (.int .i64 l[i].1) ∧ (samC l)[i * 2 + 1]? = some (.int .u64 (l[i].2 : Nat))
  | [], i, h => absurd h (by simp)
  | p :: l, 0, h => ⟨rfl, rfl⟩
  | p :: l, i + 1, h => by
    have := samC_at l i (by simpa using h)
    have e0 : (i + 1) * 2 = i * 2 + 2 := by omega
    have e1 : (i + 1) * 2 + 1 = i * 2 + 1 + 2 := by omega
    rw [e1, e0]
    exact this
theorem samC_one (l : List Sam) : ∀ u ∈ samC l, u.oneCell' = true := by
  induction l with
  | nil => intro u hu; simp [samC] at hu
  | cons p l ih =>
    intro u hu
    rcases List.mem_cons.1 hu with rfl | hu
    · rfl
    rcases List.mem_cons.1 hu with rfl | hu
    · rfl
    exact ih u hu
/-- Samples that a call owns. -/
def ownSam (w : World) (B : Nat) (v : Value) (l : List Sam) : Prop := w.ownsRow B 48 2 v l.length (samC l)
theorem ownSam.reads {w : World} {B : Nat} {v : Value} {l : List Sam} (h : ownSam w B v l) : readsSam w w.heap.size v l := by
  rcases h.2 with ⟨hv, h0⟩ | ⟨g, cap, cur, hv, h1, h2, h3⟩
  · refine ⟨none, 0, by rw [hv, h0], by omega, fun i hi => by omega⟩
  · refine ⟨some ⟨g, 0, none⟩, cap, hv, h3.1, fun i hi => ?_⟩
    have hc := World.ownsRow.cells h (g := g) (by rw [hv]; rfl)
    obtain ⟨q0, q1⟩ := samC_at l i hi
    have r0 := hc _ _ q0
    have r1 := hc _ _ q1
    rw [Addr.add_lit] at r0 r1
    exact ⟨g, 0, rfl, lt_of_block h2, by simpa using r0, by simpa using r1⟩
/-- The cells of a row that is read. -/
theorem readsSam.cells {w : World} {B : Nat} {b o n cp : Nat} {l : List Sam} (h : readsSam w B (.slice (some ⟨b, o, none⟩) n cp) l) : ∀ (j : Nat) (u : Value), (samC l)[j]? = some u → w.cell? ((⟨b, o, none⟩ : Addr).add j) = some u := by
  obtain ⟨ao, cp', hv, _, h⟩ := h
  cases hv
  intro j u hu
  have hj : j < (samC l).length := by
    rcases Nat.lt_or_ge j (samC l).length with h | h
    · exact h
    · rw [List.getElem?_eq_none h] at hu; cases hu
  rw [samC_length] at hj
  obtain ⟨b', o', e, _, c0, c1⟩ := h (j / 2) (by omega)
  cases e
  obtain ⟨q0, q1⟩ := samC_at l (j / 2) (by omega)
  rw [Addr.add_lit]
  rcases Nat.mod_two_eq_zero_or_one j with hm | hm
  · have e : j = j / 2 * 2 := by omega
    rw [← e] at q0 c0
    rw [q0] at hu
    obtain rfl := Option.some.inj hu
    exact c0
  · have e : j = j / 2 * 2 + 1 := by omega
    have e2 : o + j = o + j / 2 * 2 + 1 := by omega
    rw [← e] at q1
    rw [q1] at hu
    obtain rfl := Option.some.inj hu
    rw [e2]
    exact c1
set_option maxRecDepth 20000 in
set_option maxHeartbeats 1000000 in
theorem cloneSam_any (w : World) (v : Value) (l : List Sam) (hv : readsSam w w.heap.size v l) (h1 : 0 < l.length) (h2 : l.length ≤ 1000000) :
    Calls Tryz.prog 45 #[v] w fun e w' => ∃ v', e = .returned v' ∧ ownSam w' w.heap.size v' l ∧ Grow w w' := by
  obtain ⟨i0, hi0, hz0, hz1, hz2⟩ := info_parts infoSam
  obtain ⟨ao, cp, rfl, hcp, hcells⟩ := id hv
  obtain ⟨b, o, rfl, hb, -⟩ := hcells 0 h1
  have HV := hide hv
  clear hv hcells
  go_enter Tryz.func45, Tryz.ntmps45
  have hnil : ∀ W, (binOp .eql 35 (.slice (some ⟨b, o, none⟩) l.length cp) (.slice none 0 0)).run Tryz.prog W = .ok (.bool false) W := fun W => Lib.run_eql_slice_some_nil W _ _ _ Tryz.underlying35
  obtain ⟨W, hWe⟩ : ∃ W, w.alloc (.cells #[] 48) = W := ⟨_, rfl⟩
  have hgW : Grow w W := by rw [← hWe]; exact (Grow.refl _).alloc _
  have hbW : W.heap[w.heap.size]? = some (.cells #[] 48 (0, 0)) := by rw [← hWe]; exact heap_alloc_new _ _
  have HGW := hide hgW
  have HOW : Hid (W.ownsRow w.heap.size 48 2 (.slice (some ⟨w.heap.size, 0, none⟩) 0 0) 0 []) := hide ⟨rfl, .inr ⟨w.heap.size, 0, #[], rfl, Nat.le_refl _, hbW, Nat.le_refl _, Nat.zero_le _, rfl, rfl⟩⟩
  have HNW : Hid (∀ (q : Nat) (u : Value), (samC l)[q]? = some u → W.cell? ((⟨b, o, none⟩ : Addr).add q) = some u) := hide (HV.out.keep hgW).cells
  have hsz : w.heap.size ≤ W.heap.size := hgW.size
  clear hgW hbW
  go_wp2_with first | (simp only [hnil]) | (at_builtin; go_loud (refine wpList_append_own _ rfl _ _ 35 rfl w.heap.size 48 i0 _ 2 16 Tryz.underlying35 hi0 hz0 hz1 hz2 rfl (by decide) _ 0 [] rfl HOW.out ⟨b, o, none⟩ l.length cp (samC l) rfl (samC_length l) HNW.out (samC_one l) (by unfold maxLen; omega) (by omega) hsz ?_))
  intro v' w2 hown hgrow _
  rw [Nat.zero_add] at hown
  obtain ⟨vo, vc, rfl⟩ := own_shape hown
  have hbel : Below w.heap.size W w2 := (Below.refl _ _).grown hgrow hsz (fun k hk => (HOW.out.lt k hk).1)
  have HB : Hid (Below w.heap.size w w2) := hide (Below.trans HGW.out hbel)
  have HO : Hid (ownSam w2 w.heap.size (.slice vo l.length vc) l) := hide (by
    unfold ownSam
    simpa using hown)
  clear hown hgrow hbel hWe
  go_wp2
  go_ret
  exact ⟨_, rfl, HO.out, HB.out⟩
set_option maxRecDepth 20000 in
set_option maxHeartbeats 1000000 in
theorem find1_any (w : World) (va vy vb : Value) (a b : List Lab) (ha : readsLabels w w.heap.size va a) (hy : ∃ ao n cp, vy = .slice ao n cp) (hb : readsLabels w w.heap.size vb b) (hca : checkB a = 0) (hcb : checkB b = 0) :
    Calls Tryz.prog 77 #[.agg #[va, vy], vb] w fun e w' => e = .returned (.int .i64 (ordB a b)) ∧ Grow w w' := by
  obtain ⟨yo, n, yc, rfl⟩ := hy
  obtain ⟨ao, ac, hva⟩ := readsLabels_len ha
  obtain ⟨bo, bc, hvb⟩ := readsLabels_len hb
  obtain ⟨W, eW, gW, hW⟩ := laid_at w #[va, .slice yo n yc] 41
  have HC := hide (tcmp_any W va vb a b (readsLabels_mono (readsLabels_below ha gW) gW.size) (readsLabels_mono (readsLabels_below hb gW) gW.size) hca hcb)
  obtain ⟨c0, c1⟩ := two_cells hW
  have HG := hide gW
  subst hva hvb
  generalize ordB a b = O at HC
  generalize a.length = n1 at *
  generalize b.length = n2 at *
  clear gW hW ha hb
  go_enter Tryz.func77, Tryz.ntmps77
  go_wp2_with fail
  refine HC.out.mono ?_
  rintro e w2 ⟨rfl, hg⟩
  have HG2 : Hid (Grow w w2) := hide (HG.out.trans hg)
  clear hg HC
  go_wp2
  go_ret
  exact ⟨rfl, HG2.out⟩
/-- In a store that rises, what is less lies ahead. -/
theorem rise_less {l : List Ser} (h : riseS l = true) : ∀ (j i : Nat) (hi : i < l.length) (hij : j < i), ordB (l[j]'(by omega)).1 l[i].1 < 0 := by
  intro j i hi hij
  induction i with
  | zero => omega
  | succ i ih =>
    have h1 := of_decide_eq_true (adj_iff.1 h i hi)
    by_cases e : j = i
    · subst e; exact h1
    · exact ordB_trans (ih (by omega) (by omega)) h1
theorem less_ahead {l : List Ser} (h : riseS l = true) {x : List Lab} {i : Nat} (hi : i < l.length) (hx : ordB l[i].1 x < 0) : ∀ j (hj : j < l.length), j ≤ i → ordB l[j].1 x < 0 := by
  intro j hj hji
  by_cases e : j = i
  · subst e; exact hx
  · exact ordB_trans (rise_less h j i hi (by omega)) hx
theorem more_behind {l : List Ser} (h : riseS l = true) {x : List Lab} {i : Nat} (hi : i < l.length) (hx : ¬ ordB l[i].1 x < 0) : ∀ j (hj : j < l.length), i ≤ j → ¬ ordB l[j].1 x < 0 := by
  intro j hj hij hlt
  exact hx (less_ahead h hj hlt i hi hij)
set_option maxRecDepth 20000 in
set_option maxHeartbeats 2000000 in
theorem bsearch_any (w : World) (v vx : Value) (l : List Ser) (x : List Lab) (hv : readsSer w w.heap.size v l) (hx : readsLabels w w.heap.size vx x) (hl : l.length ≤ 1000000) (hr : ∀ s ∈ l, checkB s.1 = 0) (hcx : checkB x = 0) (hri : riseS l = true) :
    Calls Tryz.prog 76 #[v, vx, .func (.func 77) #[] #[]] w fun e w' => ∃ i : Nat, i ≤ l.length ∧ (∀ p (hp : p < l.length), p < i → ordB l[p].1 x < 0) ∧ (∀ p (hp : p < l.length), i ≤ p → 0 ≤ ordB l[p].1 x) ∧ ∃ F : Bool, e = .returned (.tuple #[.int .i64 i, .bool F]) ∧ (F = true ↔ ∃ h : i < l.length, ordB l[i].1 x = 0) ∧ Grow w w' := by
  obtain ⟨ao, cp, rfl, -, hcells⟩ := id hv
  obtain ⟨xo, xc, hvx⟩ := readsLabels_len hx
  have HF : Hid (∀ k (hk : k < l.length) (xa ya : Value) W, Grow w W → readsLabels w w.heap.size xa l[k].1 → (∃ ao n cp, ya = .slice ao n cp) → Calls Tryz.prog 77 #[.agg #[xa, ya], vx] W fun e w' => e = .returned (.int .i64 (ordB l[k].1 x)) ∧ Grow W w') := hide fun k hk xa ya W g ha hy => find1_any W xa ya vx _ x (readsLabels_mono (readsLabels_below ha g) g.size) hy (readsLabels_mono (readsLabels_below hx g) g.size) (hr _ (List.getElem_mem hk)) hcx
  subst hvx
  have HRI := hide hri
  generalize x.length = nx at *
  clear hv hx hr hcx hri
  go_enter Tryz.func76, Tryz.ntmps76
  go_wp2
  go_loopw [9, 10] (fun iv jv wr => ∃ i j : Nat, i ≤ j ∧ j ≤ l.length ∧ iv = .int .i64 i ∧ jv = .int .i64 j ∧ Hid (∀ p (hp : p < l.length), p < i → ordB l[p].1 x < 0) ∧ Hid (∀ p (hp : p < l.length), j ≤ p → 0 ≤ ordB l[p].1 x) ∧ Hid (Grow w wr)) (fun iv jv _ => (intOf jv).toNat - (intOf iv).toNat)
  case atStart => exact ⟨0, l.length, by omega, by omega, rfl, rfl, hide (fun p hp h => by omega), hide (fun p hp h => by omega), hide (Grow.refl _)⟩
  case round =>
    obtain ⟨i, j, hij, hjl, rfl, rfl, HA, HB, HG⟩ := hrel
    by_cases hlt : i < j
    · have hlti : (i : Int) < (j : Int) := by omega
      obtain ⟨h, hh, hh1, hh2⟩ : ∃ h : Nat, ((i : Int) + (j : Int)) / 2 = (h : Int) ∧ i ≤ h ∧ h < j := ⟨(i + j) / 2, by omega, by omega, by omega⟩
      have hhl : (h : Int) < (l.length : Int) := by omega
      have hhn : h < l.length := by omega
      obtain ⟨rb, rf, xa, ya, rfl, hrB, ha, hs, a0, a1⟩ := hcells h hhn
      have c0 := (HG.out.cell (p := ⟨rb, rf + h * 2, none⟩) hrB).trans a0
      have c1 := (HG.out.cell (p := ⟨rb, rf + h * 2 + 1, none⟩) hrB).trans a1
      have H1 := hide (HF.out h hhn xa ya wr HG.out ha (by obtain ⟨so, sc, e, _⟩ := readsSam_len hs; exact ⟨_, _, _, e⟩))
      obtain ⟨O, HO⟩ : ∃ O, Hid (ordB l[h].1 x = O) := ⟨_, hide rfl⟩
      rw [HO.out] at H1
      obtain ⟨ao', ac, hxa⟩ := readsLabels_len ha
      obtain ⟨so, sc, hya, -⟩ := readsSam_len hs
      generalize l[h].1.length = n1 at hxa
      generalize l[h].2.length = n2 at hya
      subst hxa hya
      have hn2 : (0 : Int) ≤ (h : Int) := by omega
      clear ha hs a0 a1 hcells
      go_wp2_with fail
      refine H1.out.mono ?_
      rintro e w2 ⟨rfl, hg2⟩
      have HG2 : Hid (Grow w w2) := hide (HG.out.trans hg2)
      clear hg2 H1 c0 c1
      by_cases hO : O < 0
      · have HL := hide (less_ahead HRI.out hhn (by rw [HO.out]; exact hO))
        go_wp2
        go_roundw
        case rel => exact ⟨h + 1, j, by omega, hjl, by go_num, rfl, hide (fun p hp hpi => HL.out p hp (by omega)), HB, HG2⟩
        case measure => simp [intOf]; omega
      · have HL := hide (more_behind HRI.out hhn (by rw [HO.out]; exact hO))
        go_wp2
        go_roundw
        case rel => exact ⟨i, h, by omega, by omega, rfl, rfl, HA, hide (fun p hp hpi => by have := HL.out p hp hpi; omega), HG2⟩
        case measure => simp [intOf]; omega
    · obtain rfl : i = j := by omega
      by_cases hil : i < l.length
      · have hili : (i : Int) < (l.length : Int) := by omega
        obtain ⟨rb, rf, xa, ya, rfl, hrB, ha, hs, a0, a1⟩ := hcells i hil
        have c0 := (HG.out.cell (p := ⟨rb, rf + i * 2, none⟩) hrB).trans a0
        have c1 := (HG.out.cell (p := ⟨rb, rf + i * 2 + 1, none⟩) hrB).trans a1
        have H1 := hide (HF.out i hil xa ya wr HG.out ha (by obtain ⟨so, sc, e, _⟩ := readsSam_len hs; exact ⟨_, _, _, e⟩))
        obtain ⟨O, HO⟩ : ∃ O, Hid (ordB l[i].1 x = O) := ⟨_, hide rfl⟩
        rw [HO.out] at H1
        obtain ⟨ao', ac, hxa⟩ := readsLabels_len ha
        obtain ⟨so, sc, hya, -⟩ := readsSam_len hs
        have HD : Hid (decide (O = 0) = true ↔ ∃ h : i < l.length, ordB l[i].1 x = 0) := hide (by
          rw [decide_eq_true_eq, ← HO.out]
          exact ⟨fun h => ⟨hil, h⟩, fun ⟨_, h⟩ => h⟩)
        generalize l[i].1.length = n1 at hxa
        generalize l[i].2.length = n2 at hya
        subst hxa hya
        clear ha hs a0 a1 hcells
        go_wp2_with fail
        refine H1.out.mono ?_
        rintro e w2 ⟨rfl, hg2⟩
        have HG2 : Hid (Grow w w2) := hide (HG.out.trans hg2)
        clear hg2 H1 c0 c1
        go_wp2
        go_ret2
        exact ⟨i, hjl, HA.out, HB.out, _, rfl, by first | exact HD.out | simpa using HD.out, HG2.out⟩
      · have hili : ¬ (i : Int) < (l.length : Int) := by omega
        go_wp2
        go_ret2
        exact ⟨i, hjl, HA.out, HB.out, .inl ⟨rfl, fun h => absurd h hil, HG.out⟩⟩
/-- A store that passes Check. -/
theorem store_right {l : List Ser} (h : storeErr l = 0) : l.length ≤ 500 ∧ (∀ x ∈ l, x.2.length ≤ 5000) ∧ (∀ x ∈ l, serErr x = 0) ∧ riseS l = true := by
  unfold storeErr at h
  cases hm : manyB l with
  | true => rw [hm] at h; simp at h
  | false =>
    rw [hm, if_neg (by simp)] at h
    by_cases h1 : firstE serErr l = 0
    · rw [if_neg (by omega)] at h
      unfold manyB at hm
      simp only [Bool.or_eq_false_iff, decide_eq_false_iff_not, List.any_eq_false] at hm
      refine ⟨by omega, fun x hx => ?_, firstE_none h1, ?_⟩
      · have := hm.2 x hx
        unfold muchB at this
        simp at this
        omega
      · cases hr : riseS l with
        | true => rfl
        | false => rw [hr] at h; simp at h
    · rw [if_pos h1] at h; exact absurd h h1
theorem find_iff {l : List Ser} {x : List Lab} {i : Nat} (hi : i ≤ l.length) (ha : ∀ p (hp : p < l.length), p < i → ordB l[p].1 x < 0) (hb : ∀ p (hp : p < l.length), i ≤ p → 0 ≤ ordB l[p].1 x) (hri : riseS l = true) : (∃ h : i < l.length, ordB l[i].1 x = 0) ∨ (∀ s ∈ l, s.1 ≠ x) := by
  by_cases h : ∃ h : i < l.length, ordB l[i].1 x = 0
  · exact .inl h
  · refine .inr fun s hs e => ?_
    obtain ⟨p, hp, rfl⟩ := List.getElem_of_mem hs
    have h0 : ordB l[p].1 x = 0 := ordB_zero.2 e
    have hip : i ≤ p := by
      rcases Nat.lt_or_ge p i with hlt | hge
      · have := ha p hp hlt; omega
      · exact hge
    by_cases e2 : i = p
    · subst e2; exact h ⟨hp, h0⟩
    · have h1 := rise_less hri i p hp (by omega)
      rw [e] at h1
      have := hb i (by omega) (Nat.le_refl _); omega
set_option maxRecDepth 20000 in
set_option maxHeartbeats 2000000 in
theorem tfind_any (w : World) (v vx : Value) (l : List Ser) (x : List Lab) (hv : readsSer w w.heap.size v l) (hx : readsLabels w w.heap.size vx x) (hl : l.length ≤ 1000000) (hr : ∀ s ∈ l, checkB s.1 = 0) (hcx : checkB x = 0) (hri : riseS l = true) :
    Calls Tryz.prog 44 #[v, vx] w fun e w' => ∃ i : Nat, i ≤ l.length ∧ (∀ p (hp : p < l.length), p < i → ordB l[p].1 x < 0) ∧ (∀ p (hp : p < l.length), i ≤ p → 0 ≤ ordB l[p].1 x) ∧ ∃ F : Bool, e = .returned (.tuple #[.int .i64 i, .bool F]) ∧ (F = true ↔ ∃ h : i < l.length, ordB l[i].1 x = 0) ∧ Grow w w' := by
  have HB := hide (bsearch_any w v vx l x hv hx hl hr hcx hri)
  obtain ⟨ao, cp, rfl, -, -⟩ := hv
  obtain ⟨xo, xc, rfl⟩ := readsLabels_len hx
  clear hx hr hcx hri
  go_enter Tryz.func44, Tryz.ntmps44
  go_wp2_with fail
  refine HB.out.mono ?_
  rintro e w2 ⟨i, hi, ha, hb, F, rfl, hF, hg⟩
  have HF := hide hF
  have HA := hide ha
  have HB2 := hide hb
  have HG := hide hg
  clear ha hb hg HB hF
  go_wp2
  go_ret2
  exact ⟨i, hi, HA.out, HB2.out, F, rfl, HF.out, HG.out⟩
set_option maxRecDepth 20000 in
set_option maxHeartbeats 2000000 in
theorem tget_any (w : World) (v vx : Value) (l : List Ser) (x : List Lab) (hv : readsSer w w.heap.size v l) (hok : okStore l) (hx : readsLabels w w.heap.size vx x) (hxl : x.length ≤ 9223372036854775807) (hxi : lensOk x) :
    Calls Tryz.prog 18 #[v, vx] w fun e w' => Grow w w' ∧ ((storeErr l ≠ 0 ∧ e = .returned (.tuple #[.slice none 0 0, .int .i64 (storeErr l : Nat)])) ∨ (storeErr l = 0 ∧ checkB x ≠ 0 ∧ e = .returned (.tuple #[.slice none 0 0, .int .i64 (checkB x : Nat)])) ∨ (storeErr l = 0 ∧ checkB x = 0 ∧ (∀ s ∈ l, s.1 ≠ x) ∧ e = .returned (.tuple #[.slice none 0 0, .int .i64 5])) ∨ (storeErr l = 0 ∧ checkB x = 0 ∧ ∃ (i : Nat) (h : i < l.length) (v' : Value), l[i].1 = x ∧ e = .returned (.tuple #[v', .int .i64 0]) ∧ ownSam w' w.heap.size v' l[i].2)) := by
  obtain ⟨S, HS⟩ : ∃ S, Hid (storeErr l = S) := ⟨_, hide rfl⟩
  obtain ⟨C, HC⟩ : ∃ C, Hid (checkB x = C) := ⟨_, hide rfl⟩
  rw [HS.out, HC.out]
  have HTC := tcheck_any w v l hv hok
  rw [HS.out] at HTC
  have HV := hide hv
  have HX := hide hx
  have HCL : Hid (∀ W, Grow w W → Calls Tryz.prog 43 #[vx] W fun e w' => e = .returned (.int .i64 (C : Nat)) ∧ Grow W w') := hide fun W g => by
    have := Lb.check_any W vx x (readsLabels_mono (readsLabels_below HX.out g) g.size) hxl hxi
    rw [HC.out] at this
    exact this
  obtain ⟨ao, cp, hvv, -, hcells⟩ := id hv
  obtain ⟨xo, xc, hvx⟩ := readsLabels_len hx
  subst hvv hvx
  replace HTC := hide HTC
  clear hv hx hxl hxi hok
  go_enter Tryz.func18, Tryz.ntmps18
  go_wp2_with fail
  refine HTC.out.mono ?_
  rintro e w1 ⟨rfl, hg1⟩
  have HG1 : Hid (Grow w w1) := hide hg1
  have HC1 := hide (HCL.out w1 hg1)
  clear hg1 HTC HCL
  by_cases hS : S = 0
  · have hz : ((S : Int) != 0) = false := by simp [hS]
    have HS0 := hide hS
    clear hS
    go_wp2_with fail
    refine HC1.out.mono ?_
    rintro e w2 ⟨rfl, hg2⟩
    have HG2 : Hid (Grow w w2) := hide (HG1.out.trans hg2)
    clear hg2 HC1
    by_cases hC : C = 0
    · have hz2 : ((C : Int) != 0) = false := by simp [hC]
      have HC0 := hide hC
      clear hC
      obtain ⟨s1, s2, s3, s4⟩ := store_right (HS.out.trans HS0.out)
      have HS2 := hide s2
      have HS4 := hide s4
      have HFI := hide (tfind_any w2 (.slice ao l.length cp) (.slice xo x.length xc) l x ((HV.out.keep HG2.out).more HG2.out.size) (readsLabels_mono (readsLabels_below HX.out HG2.out) HG2.out.size) (by omega) (fun s hs => (serErr_labels (s3 s hs)).1) (HC.out.trans HC0.out) s4)
      have HPOS : Hid (∀ s ∈ l, 0 < s.2.length) := hide fun s hs => (serErr_labels (s3 s hs)).2.1
      clear s1 s2 s3 s4
      go_wp2_with fail
      refine HFI.out.mono ?_
      rintro e w3 ⟨i, hi, ha, hb, F, rfl, hFi, hg3⟩
      have HG3 : Hid (Grow w w3) := hide (HG2.out.trans hg3)
      have HIF := hide (find_iff hi ha hb HS4.out)
      clear hg3 ha hb HFI
      by_cases hF : ∃ h : i < l.length, ordB l[i].1 x = 0
      · obtain rfl := hFi.2 hF
        obtain ⟨hil, h0⟩ := hF
        have HE : Hid (l[i].1 = x) := hide (ordB_zero.1 h0)
        have hili : (i : Int) < (l.length : Int) := by omega
        obtain ⟨rb, rf, xa, ya, rfl, hrB, ha, hs, a0, a1⟩ := hcells i hil
        have c1 := (HG3.out.cell (p := ⟨rb, rf + i * 2 + 1, none⟩) hrB).trans a1
        have HCN : Hid (Calls Tryz.prog 45 #[ya] w3 fun e w' => ∃ v', e = .returned v' ∧ ownSam w' w3.heap.size v' l[i].2 ∧ Grow w3 w') := hide (cloneSam_any w3 ya l[i].2 ((hs.keep HG3.out).more HG3.out.size) (HPOS.out _ (List.getElem_mem hil)) (by have := HS2.out _ (List.getElem_mem hil); omega))
        obtain ⟨yo, yc, hya, -⟩ := readsSam_len hs
        generalize l[i].2.length = n2 at hya
        subst hya
        clear ha hs a0 a1 hcells h0 HIF hFi
        go_wp2_with fail
        refine HCN.out.mono ?_
        rintro e w4 ⟨v', rfl, hown, hg4⟩
        obtain ⟨vo, vc, hvv⟩ := own_shape hown
        subst hvv
        have HO := hide hown
        have HG4 : Hid (Grow w w4) := hide (HG3.out.trans hg4)
        have hsz : w.heap.size ≤ w3.heap.size := HG3.out.size
        clear hown hg4 HCN
        go_wp2
        go_ret2
        exact ⟨HG4.out, .inr (.inr (.inr ⟨HS0.out, HC0.out, i, hil, _, HE.out, rfl, own_leT HO.out hsz⟩))⟩
      · obtain rfl : F = false := by
          cases F with
          | false => rfl
          | true => exact absurd (hFi.1 rfl) hF
        have HN : Hid (∀ s ∈ l, s.1 ≠ x) := hide (HIF.out.resolve_left hF)
        clear hF HIF hFi
        go_wp2
        go_ret2
        exact ⟨HG3.out, .inr (.inr (.inl ⟨HS0.out, HC0.out, HN.out, rfl⟩))⟩
    · have hz2 : ((C : Int) != 0) = true := by simp; exact hC
      have HCN := hide hC
      clear hC
      go_wp2
      go_ret2
      exact ⟨HG2.out, .inr (.inl ⟨HS0.out, HCN.out, rfl⟩)⟩
  · have hz : ((S : Int) != 0) = true := by simp; exact hS
    have HSN := hide hS
    clear hS
    go_wp2
    go_ret2
    exact ⟨HG1.out, .inl ⟨HSN.out, rfl⟩⟩
end Go.Proofs.YtmdakfmecfcbhaaGreat.Tk
namespace Go.Proofs.YtmdakfmecfcbhaaGreat.Tk
open Go.RowKit Lb
/-- A sample more, if it is later. -/
def addS (ss : List Sam) (p : Sam) : List Sam := if laterB ss p.1 = true then ss ++ [p] else ss
/-- A sample of some labels is kept. -/
def keepP : List Ser → List Lab → Sam → List Ser
  | [], x, p => [(x, [p])]
  | s :: l, x, p => if ordB s.1 x < 0 then s :: keepP l x p else if ordB s.1 x = 0 then (s.1, addS s.2 p) :: l else (x, [p]) :: s :: l
def keepAll (l : List Ser) (x : List Lab) (ps : List Sam) : List Ser := ps.foldl (fun l p => keepP l x p) l
theorem addS_nil (p : Sam) : addS [] p = [p] := by unfold addS; rw [laterB_nil, if_pos rfl]; rfl
theorem keepP_in {a b : List Ser} {s : Ser} {x : List Lab} {p : Sam} (ha : ∀ t ∈ a, ordB t.1 x < 0) (hs : s.1 = x) : keepP (a ++ s :: b) x p = a ++ (x, addS s.2 p) :: b := by
  induction a with
  | nil =>
    show keepP (s :: b) x p = _
    have h0 : ordB s.1 x = 0 := ordB_zero.2 hs
    rw [keepP, if_neg (by omega), if_pos h0, hs]
    rfl
  | cons t a ih =>
    show keepP (t :: (a ++ s :: b)) x p = _
    rw [keepP, if_pos (ha t (by simp)), ih fun u hu => ha u (List.mem_cons_of_mem _ hu)]
    rfl
theorem keepP_new {a b : List Ser} {x : List Lab} {p : Sam} (ha : ∀ t ∈ a, ordB t.1 x < 0) (hb : ∀ t ∈ b, 0 ≤ ordB t.1 x) (hn : ∀ t ∈ b, t.1 ≠ x) : keepP (a ++ b) x p = a ++ (x, [p]) :: b := by
  induction a with
  | nil =>
    show keepP b x p = (x, [p]) :: b
    cases b with
    | nil => rfl
    | cons t b =>
      have h1 := hb t (by simp)
      have h2 : ordB t.1 x ≠ 0 := fun e => hn t (by simp) (ordB_zero.1 e)
      rw [keepP, if_neg (by omega), if_neg h2]
  | cons t a ih =>
    show keepP (t :: (a ++ b)) x p = _
    rw [keepP, if_pos (ha t (by simp)), ih fun u hu => ha u (List.mem_cons_of_mem _ hu)]
    rfl
theorem keepAll_in {a b : List Ser} {x : List Lab} (ha : ∀ t ∈ a, ordB t.1 x < 0) : ∀ (ps : List Sam) (ss : List Sam), keepAll (a ++ (x, ss) :: b) x ps = a ++ (x, ps.foldl addS ss) :: b
  | [], ss => rfl
  | p :: ps, ss => by
    show keepAll (keepP (a ++ (x, ss) :: b) x p) x ps = _
    rw [keepP_in ha rfl, keepAll_in ha ps]
    rfl
theorem keepAll_new {a b : List Ser} {x : List Lab} (ha : ∀ t ∈ a, ordB t.1 x < 0) (hb : ∀ t ∈ b, 0 ≤ ordB t.1 x) (hn : ∀ t ∈ b, t.1 ≠ x) {ps : List Sam} (hp : ps ≠ []) : keepAll (a ++ b) x ps = a ++ (x, ps.foldl addS []) :: b := by
  cases ps with
  | nil => exact absurd rfl hp
  | cons p ps =>
    show keepAll (keepP (a ++ b) x p) x ps = _
    rw [keepP_new ha hb hn, keepAll_in ha ps]
    show _ = a ++ (x, ps.foldl addS (addS [] p)) :: b
    rw [addS_nil]
theorem foldl_addS_snoc (ss : List Sam) (ps : List Sam) {k : Nat} (h : k < ps.length) : (ps.take (k + 1)).foldl addS ss = addS ((ps.take k).foldl addS ss) ps[k] := by
  rw [List.take_succ_eq_append_getElem h, List.foldl_append]
  rfl
theorem addS_len (ss : List Sam) (p : Sam) : (addS ss p).length ≤ ss.length + 1 := by
  unfold addS
  split
  · rw [List.length_append]; simp
  · omega
theorem foldl_addS_len : ∀ (ps ss : List Sam), (ps.foldl addS ss).length ≤ ss.length + ps.length
  | [], ss => by simp
  | p :: ps, ss => by
    have h1 := foldl_addS_len ps (addS ss p)
    have h2 := addS_len ss p
    simp only [List.foldl_cons, List.length_cons]
    omega
theorem rise_pw {l : List Ser} : riseS l = true ↔ l.Pairwise (fun p q => ordB p.1 q.1 < 0) := by
  rw [List.pairwise_iff_getElem]
  exact ⟨fun h i j hi hj hij => rise_less h i j hj hij, fun h => riseS_yes fun j hj => h j (j + 1) (by omega) hj (by omega)⟩
/-- Where a series is, or would be, in a store that rises. -/
theorem place_of {l : List Ser} {x : List Lab} {i : Nat} (hi : i ≤ l.length) (ha : ∀ p (hp : p < l.length), p < i → ordB l[p].1 x < 0) (hb : ∀ p (hp : p < l.length), i ≤ p → 0 ≤ ordB l[p].1 x) : (∀ t ∈ l.take i, ordB t.1 x < 0) ∧ (∀ t ∈ l.drop i, 0 ≤ ordB t.1 x) := by
  constructor
  · intro t ht
    obtain ⟨j, hj, rfl⟩ := List.getElem_of_mem ht
    rw [List.length_take] at hj
    rw [List.getElem_take]
    exact ha j (by omega) (by omega)
  · intro t ht
    obtain ⟨j, hj, rfl⟩ := List.getElem_of_mem ht
    rw [List.length_drop] at hj
    rw [List.getElem_drop]
    exact hb (i + j) (by omega) (by omega)
end Go.Proofs.YtmdakfmecfcbhaaGreat.Tk
