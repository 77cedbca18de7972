/- take: Get. -/
import Derived.Laws.OwnMore
import Derived.Test.YtmdakfmecfcbhaaGreatProg
import Derived.Test.YtmdakfmecfcbhaaGreatKit
import Derived.Test.YtmdakfmecfcbhaaGreatReg
import Derived.Test.YtmdakfmecfcbhaaGreatLSpec
import Derived.Test.YtmdakfmecfcbhaaGreatLRow
import Derived.Test.YtmdakfmecfcbhaaGreatLCmp
import Derived.Test.YtmdakfmecfcbhaaGreatTkA
import Derived.Test.YtmdakfmecfcbhaaGreatTkB
import Derived.Test.YtmdakfmecfcbhaaGreatTkC
import Derived.Test.YtmdakfmecfcbhaaGreatTkF
import Derived.BigQuiet
set_option linter.unusedVariables false
set_option linter.unusedSimpArgs false
namespace Go.Proofs.YtmdakfmecfcbhaaGreat.Tk
open Go.RowKit Lb
attribute [local go_sem] bs_size bs_toList bs_append bs_get bs_extract

/-- A store that passes Check. -/
theorem store_right {l : List Ser} (h : storeErr l = 0) : l.length ≤ 500 ∧ (∀ x ∈ l, x.2.length ≤ 5000) ∧ (∀ x ∈ l, serErr x = 0) ∧ riseS l = true := by
  unfold storeErr at h
  cases hm : manyB l with
  | true => rw [hm] at h; simp at h
  | false =>
    rw [hm, if_neg (by simp)] at h
    by_cases h1 : firstE serErr l = 0
    · rw [if_neg (by omega)] at h
      unfold manyB at hm
      simp only [Bool.or_eq_false_iff, decide_eq_false_iff_not, List.any_eq_false] at hm
      refine ⟨by omega, fun x hx => ?_, firstE_none h1, ?_⟩
      · have := hm.2 x hx
        unfold muchB at this
        simp at this
        omega
      · cases hr : riseS l with
        | true => rfl
        | false => rw [hr] at h; simp at h
    · rw [if_pos h1] at h; exact absurd h h1
theorem find_iff {l : List Ser} {x : List Lab} {i : Nat} (hi : i ≤ l.length) (ha : ∀ p (hp : p < l.length), p < i → ordB l[p].1 x < 0) (hb : ∀ p (hp : p < l.length), i ≤ p → 0 ≤ ordB l[p].1 x) (hri : riseS l = true) : (∃ h : i < l.length, ordB l[i].1 x = 0) ∨ (∀ s ∈ l, s.1 ≠ x) := by
  by_cases h : ∃ h : i < l.length, ordB l[i].1 x = 0
  · exact .inl h
  · refine .inr fun s hs e => ?_
    obtain ⟨p, hp, rfl⟩ := List.getElem_of_mem hs
    have h0 : ordB l[p].1 x = 0 := ordB_zero.2 e
    have hip : i ≤ p := by
      rcases Nat.lt_or_ge p i with hlt | hge
      · have := ha p hp hlt; omega
      · exact hge
    by_cases e2 : i = p
    · subst e2; exact h ⟨hp, h0⟩
    · have h1 := rise_less hri i p hp (by omega)
      rw [e] at h1
      have := hb i (by omega) (Nat.le_refl _); omega
set_option maxRecDepth 20000 in
set_option maxHeartbeats 2000000 in
theorem tfind_any (w : World) (v vx : Value) (l : List Ser) (x : List Lab) (hv : readsSer w w.heap.size v l) (hx : readsLabels w w.heap.size vx x) (hl : l.length ≤ 1000000) (hr : ∀ s ∈ l, checkB s.1 = 0) (hcx : checkB x = 0) (hri : riseS l = true) :
    Calls Tryz.prog 44 #[v, vx] w fun e w' => ∃ i : Nat, i ≤ l.length ∧ (∀ p (hp : p < l.length), p < i → ordB l[p].1 x < 0) ∧ (∀ p (hp : p < l.length), i ≤ p → 0 ≤ ordB l[p].1 x) ∧ ∃ F : Bool, e = .returned (.tuple #[.int .i64 i, .bool F]) ∧ (F = true ↔ ∃ h : i < l.length, ordB l[i].1 x = 0) ∧ Grow w w' := by
  have HB := hide (bsearch_any w v vx l x hv hx hl hr hcx hri)
  obtain ⟨ao, cp, rfl, -, -⟩ := hv
  obtain ⟨xo, xc, rfl⟩ := readsLabels_len hx
  clear hx hr hcx hri
  go_enter Tryz.func44, Tryz.ntmps44
  go_wp2_with fail
  refine HB.out.mono ?_
  rintro e w2 ⟨i, hi, ha, hb, F, rfl, hF, hg⟩
  have HF := hide hF
  have HA := hide ha
  have HB2 := hide hb
  have HG := hide hg
  clear ha hb hg HB hF
  go_wp2
  go_ret2
  exact ⟨i, hi, HA.out, HB2.out, F, rfl, HF.out, HG.out⟩
set_option maxRecDepth 20000 in
set_option maxHeartbeats 2000000 in
theorem tget_any (w : World) (v vx : Value) (l : List Ser) (x : List Lab) (hv : readsSer w w.heap.size v l) (hok : okStore l) (hx : readsLabels w w.heap.size vx x) (hxl : x.length ≤ 9223372036854775807) (hxi : lensOk x) :
    Calls Tryz.prog 18 #[v, vx] w fun e w' => Grow w w' ∧ ((storeErr l ≠ 0 ∧ e = .returned (.tuple #[.slice none 0 0, .int .i64 (storeErr l : Nat)])) ∨ (storeErr l = 0 ∧ checkB x ≠ 0 ∧ e = .returned (.tuple #[.slice none 0 0, .int .i64 (checkB x : Nat)])) ∨ (storeErr l = 0 ∧ checkB x = 0 ∧ (∀ s ∈ l, s.1 ≠ x) ∧ e = .returned (.tuple #[.slice none 0 0, .int .i64 5])) ∨ (storeErr l = 0 ∧ checkB x = 0 ∧ ∃ (i : Nat) (h : i < l.length) (v' : Value), l[i].1 = x ∧ e = .returned (.tuple #[v', .int .i64 0]) ∧ ownSam w' w.heap.size v' l[i].2)) := by
  obtain ⟨S, HS⟩ : ∃ S, Hid (storeErr l = S) := ⟨_, hide rfl⟩
  obtain ⟨C, HC⟩ : ∃ C, Hid (checkB x = C) := ⟨_, hide rfl⟩
  rw [HS.out, HC.out]
  have HTC := tcheck_any w v l hv hok
  rw [HS.out] at HTC
  have HV := hide hv
  have HX := hide hx
  have HCL : Hid (∀ W, Grow w W → Calls Tryz.prog 43 #[vx] W fun e w' => e = .returned (.int .i64 (C : Nat)) ∧ Grow W w') := hide fun W g => by
    have := Lb.check_any W vx x (readsLabels_mono (readsLabels_below HX.out g) g.size) hxl hxi
    rw [HC.out] at this
    exact this
  obtain ⟨ao, cp, hvv, -, hcells⟩ := id hv
  obtain ⟨xo, xc, hvx⟩ := readsLabels_len hx
  subst hvv hvx
  replace HTC := hide HTC
  clear hv hx hxl hxi hok
  go_enter Tryz.func18, Tryz.ntmps18
  go_wp2_with fail
  refine HTC.out.mono ?_
  rintro e w1 ⟨rfl, hg1⟩
  have HG1 : Hid (Grow w w1) := hide hg1
  have HC1 := hide (HCL.out w1 hg1)
  clear hg1 HTC HCL
  by_cases hS : S = 0
  · have hz : ((S : Int) != 0) = false := by simp [hS]
    have HS0 := hide hS
    clear hS
    go_wp2_with fail
    refine HC1.out.mono ?_
    rintro e w2 ⟨rfl, hg2⟩
    have HG2 : Hid (Grow w w2) := hide (HG1.out.trans hg2)
    clear hg2 HC1
    by_cases hC : C = 0
    · have hz2 : ((C : Int) != 0) = false := by simp [hC]
      have HC0 := hide hC
      clear hC
      obtain ⟨s1, s2, s3, s4⟩ := store_right (HS.out.trans HS0.out)
      have HS2 := hide s2
      have HS4 := hide s4
      have HFI := hide (tfind_any w2 (.slice ao l.length cp) (.slice xo x.length xc) l x ((HV.out.keep HG2.out).more HG2.out.size) (readsLabels_mono (readsLabels_below HX.out HG2.out) HG2.out.size) (by omega) (fun s hs => (serErr_labels (s3 s hs)).1) (HC.out.trans HC0.out) s4)
      have HPOS : Hid (∀ s ∈ l, 0 < s.2.length) := hide fun s hs => (serErr_labels (s3 s hs)).2.1
      clear s1 s2 s3 s4
      go_wp2_with fail
      refine HFI.out.mono ?_
      rintro e w3 ⟨i, hi, ha, hb, F, rfl, hFi, hg3⟩
      have HG3 : Hid (Grow w w3) := hide (HG2.out.trans hg3)
      have HIF := hide (find_iff hi ha hb HS4.out)
      clear hg3 ha hb HFI
      by_cases hF : ∃ h : i < l.length, ordB l[i].1 x = 0
      · obtain rfl := hFi.2 hF
        obtain ⟨hil, h0⟩ := hF
        have HE : Hid (l[i].1 = x) := hide (ordB_zero.1 h0)
        have hili : (i : Int) < (l.length : Int) := by omega
        obtain ⟨rb, rf, xa, ya, rfl, hrB, ha, hs, a0, a1⟩ := hcells i hil
        have c1 := (HG3.out.cell (p := ⟨rb, rf + i * 2 + 1, none⟩) hrB).trans a1
        have HCN : Hid (Calls Tryz.prog 45 #[ya] w3 fun e w' => ∃ v', e = .returned v' ∧ ownSam w' w3.heap.size v' l[i].2 ∧ Grow w3 w') := hide (cloneSam_any w3 ya l[i].2 ((hs.keep HG3.out).more HG3.out.size) (HPOS.out _ (List.getElem_mem hil)) (by have := HS2.out _ (List.getElem_mem hil); omega))
        obtain ⟨yo, yc, hya, -⟩ := readsSam_len hs
        generalize l[i].2.length = n2 at hya
        subst hya
        clear ha hs a0 a1 hcells h0 HIF hFi
        go_wp2_with fail
        refine HCN.out.mono ?_
        rintro e w4 ⟨v', rfl, hown, hg4⟩
        obtain ⟨vo, vc, hvv⟩ := own_shape hown
        subst hvv
        have HO := hide hown
        have HG4 : Hid (Grow w w4) := hide (HG3.out.trans hg4)
        have hsz : w.heap.size ≤ w3.heap.size := HG3.out.size
        clear hown hg4 HCN
        go_wp2
        go_ret2
        exact ⟨HG4.out, .inr (.inr (.inr ⟨HS0.out, HC0.out, i, hil, _, HE.out, rfl, own_leT HO.out hsz⟩))⟩
      · obtain rfl : F = false := by
          cases F with
          | false => rfl
          | true => exact absurd (hFi.1 rfl) hF
        have HN : Hid (∀ s ∈ l, s.1 ≠ x) := hide (HIF.out.resolve_left hF)
        clear hF HIF hFi
        go_wp2
        go_ret2
        exact ⟨HG3.out, .inr (.inr (.inl ⟨HS0.out, HC0.out, HN.out, rfl⟩))⟩
    · have hz2 : ((C : Int) != 0) = true := by simp; exact hC
      have HCN := hide hC
      clear hC
      go_wp2
      go_ret2
      exact ⟨HG2.out, .inr (.inl ⟨HS0.out, HCN.out, rfl⟩)⟩
  · have hz : ((S : Int) != 0) = true := by simp; exact hS
    have HSN := hide hS
    clear hS
    go_wp2
    go_ret2
    exact ⟨HG1.out, .inl ⟨HSN.out, rfl⟩⟩
end Go.Proofs.YtmdakfmecfcbhaaGreat.Tk
