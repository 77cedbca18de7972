/- 2 texts in one. -/
import Derived.Laws.OwnMore
import Derived.Test.YtmdakfmecfcbhaaGreatProg
import Derived.Test.YtmdakfmecfcbhaaGreatK7e06493
import Derived.Test.YtmdakfmecfcbhaaGreatK85cc7d6
import Derived.Test.YtmdakfmecfcbhaaGreatK6ada7ca
import Derived.Test.YtmdakfmecfcbhaaGreatKcd6d4df
import Derived.Test.YtmdakfmecfcbhaaGreatKe26850f
import Derived.Test.YtmdakfmecfcbhaaGreatK0fc28a6
import Derived.Test.YtmdakfmecfcbhaaGreatK81db387
import Derived.Test.YtmdakfmecfcbhaaGreatK14d8a0b
import Derived.Test.YtmdakfmecfcbhaaGreatKc7cc8d4
import Derived.Test.YtmdakfmecfcbhaaGreatKa708f3e
import Derived.BigQuiet
import Derived.Test.YtmdakfmecfcbhaaGreatK3cde4cc
import Derived.Test.YtmdakfmecfcbhaaGreatKf7a2202
import Derived.Test.YtmdakfmecfcbhaaGreatKbe49eb6
import Derived.Test.YtmdakfmecfcbhaaGreatK1440184
import Derived.Test.YtmdakfmecfcbhaaGreatK70bb736
set_option linter.unusedVariables false
set_option linter.unusedSimpArgs false
namespace Go.Proofs.YtmdakfmecfcbhaaGreat.Tk
open Go.RowKit
attribute [local go_sem] bs_size bs_toList bs_append bs_get bs_extract
theorem store_bits {l : List Ser} (h : okStore l) : ∀ x ∈ l, bitsFit x := fun x hx y hy => ((h.2 x hx).2.2 y hy).2
theorem store_lens {l : List Ser} (h : okStore l) : lensFit l := ⟨h.1, fun x hx => ⟨(h.2 x hx).1.1, (h.2 x hx).2.1, fun y hy => (h.2 x hx).1.2 y hy⟩⟩
/-- What is written is short. -/
theorem written_short {l : List Ser} (h : okStore l) (h0 : writeErr l = 0) : (writeTxt l).length ≤ 20000 := by
  have hR := readErr_series l h0 (store_bits h)
  have hT : writeTxt l = seriesB l := by simp [writeTxt, h0]
  rw [hT]
  have h := hR.2
  unfold readErr at h
  split at h
  · assumption
  · simp at h
set_option maxRecDepth 20000 in
set_option maxHeartbeats 2000000 in
theorem takeSeries_any (w : World) (v : Value) (l : List Ser) (hv : readsSer w w.heap.size v l) (hok : okStore l) (hf : rowForm v l.length) (vi : Value) (ls : List Ser) (hvi : readsSer w w.heap.size vi ls) (hoki : okStore ls) :
    Calls Tryz.prog 5 #[v, vi] w fun e w' => e = .returned (.bool true) ∧ Grow w w' := by
  have HTT : Hid (∀ W (s : List UInt8), Grow w W → s.length ≤ 140737488355328 → Calls Tryz.prog 4 #[v, .string (bs s)] W fun e w' => e = .returned (.bool true) ∧ Grow W w') := hide fun W s g hs => takeTakes_any W v l ((hv.keep g).more g.size) hok hf s hs
  have HWR : Hid (∀ W, Grow w W → Calls Tryz.prog 16 #[vi] W fun e w' => e = .returned (.tuple #[.string (bs (writeTxt ls)), .int .i64 (writeErr ls)]) ∧ Grow W w') := hide fun W g => write_any W vi ls ((hvi.keep g).more g.size).wires (store_bits hoki) (store_lens hoki)
  obtain ⟨WE, HWE⟩ : ∃ WE, Hid (writeErr ls = WE) := ⟨_, hide rfl⟩
  obtain ⟨WT, HWT⟩ : ∃ WT, Hid (writeTxt ls = WT) := ⟨_, hide rfl⟩
  have HSH : Hid (WE = 0 → WT.length ≤ 20000) := hide fun h => by rw [← HWT.out]; exact written_short hoki (HWE.out.trans h)
  rw [HWE.out, HWT.out] at HWR
  obtain ⟨vo, vc, hvv⟩ := hv.shape
  obtain ⟨io, ic, hii⟩ := hvi.shape
  subst hvv hii
  clear hv hvi hok hoki hf
  go_enter Tryz.func5, Tryz.ntmps5
  go_wp2_with fail
  refine (takeBegun_any w).mono ?_
  rintro e w1 ⟨rfl, hg1⟩
  have HG1 : Hid (Grow w w1) := hide hg1
  clear hg1
  go_wp2_with fail
  refine (wireBegun_any w1).mono ?_
  rintro e w2 ⟨rfl, hg2⟩
  have HG2 : Hid (Grow w w2) := hide (HG1.out.trans hg2)
  clear hg2
  go_wp2_with fail
  refine (pressBegun_any w2).mono ?_
  rintro e w3 ⟨rfl, hg3⟩
  have HG3 : Hid (Grow w w3) := hide (HG2.out.trans hg3)
  have H3 := hide (HWR.out w3 HG3.out)
  clear hg3
  go_wp2_with fail
  refine H3.out.mono ?_
  rintro e w4 ⟨rfl, hg4⟩
  have HG4 : Hid (Grow w w4) := hide (HG3.out.trans hg4)
  clear hg4 H3
  by_cases hW : WE = 0
  · have hz : (WE != 0) = false := by simp [hW]
    have hsh := HSH.out hW
    clear hW
    go_wp2_with fail
    refine (pack_any w4 WT (by omega)).mono ?_
    rintro e w5 ⟨hg5, (⟨_, E, hE, rfl⟩ | ⟨h, _⟩)⟩
    · have HG5 : Hid (Grow w w5) := hide (HG4.out.trans hg5)
      have hl := packs_len hE hsh
      obtain ⟨t, HT⟩ : ∃ t, Hid (numB WT.length ++ E = t) := ⟨_, hide rfl⟩
      rw [HT.out] at hl ⊢
      have H5 := hide (HTT.out w5 t HG5.out (by omega))
      clear hE hg5
      go_wp2_with fail
      refine H5.out.mono ?_
      rintro e w6 ⟨rfl, hg6⟩
      have HG6 : Hid (Grow w w6) := hide (HG5.out.trans hg6)
      clear hg6
      go_wp2
      go_ret
      exact ⟨ret_bool (by simp), HG6.out⟩
    · omega
  · have hz : (WE != 0) = true := by simpa using hW
    clear hW
    go_wp2
    go_ret
    exact ⟨ret_bool (by simp), HG4.out⟩
end Go.Proofs.YtmdakfmecfcbhaaGreat.Tk
namespace Go.Proofs.YtmdakfmecfcbhaaGreat.Tk
open Go.RowKit
theorem later_snoc (ss : List Sam) (p : Sam) (t : Int) : laterB (ss ++ [p]) t = decide (p.1 < t) := by
  rw [laterB_at (by simp)]
  simp
theorem addS_later {ss : List Sam} {p : Sam} {t : Int} (h : laterB ss t = false) : laterB (addS ss p) t = false := by
  unfold addS
  split
  · rename_i hp
    rw [later_snoc]
    rcases List.eq_nil_or_concat ss with rfl | ⟨l, b, rfl⟩
    · rw [laterB_nil] at h; cases h
    · rw [List.concat_eq_append] at h hp
      rw [later_snoc] at h hp
      simp only [decide_eq_false_iff_not, decide_eq_true_eq] at *
      omega
  · exact h
theorem addS_self (ss : List Sam) (p : Sam) : laterB (addS ss p) p.1 = false := by
  unfold addS
  split
  · rw [later_snoc]; simp
  · rename_i h
    simpa using h
/-- A series of these labels has this time behind it. -/
def cov (l : List Ser) (x : List Lb.Lab) (t : Int) : Prop := ∃ s ∈ l, s.1 = x ∧ laterB s.2 t = false
theorem cov_keep {x y : List Lb.Lab} {p : Sam} {t : Int} : ∀ {l : List Ser}, cov l y t → cov (keepP l x p) y t
  | [], ⟨s, hs, _⟩ => by simp at hs
  | u :: l, ⟨s, hs, h1, h2⟩ => by
    rw [keepP]
    rcases List.mem_cons.1 hs with rfl | hs
    · split
      · exact ⟨s, by simp, h1, h2⟩
      · split
        · exact ⟨_, List.mem_cons_self .., h1, addS_later h2⟩
        · exact ⟨s, by simp, h1, h2⟩
    · split
      · obtain ⟨s', k1, k2, k3⟩ := cov_keep (x := x) (p := p) ⟨s, hs, h1, h2⟩
        exact ⟨s', List.mem_cons_of_mem _ k1, k2, k3⟩
      · split
        · exact ⟨s, List.mem_cons_of_mem _ hs, h1, h2⟩
        · exact ⟨s, List.mem_cons_of_mem _ (List.mem_cons_of_mem _ hs), h1, h2⟩
theorem cov_self {x : List Lb.Lab} {p : Sam} : ∀ (l : List Ser), cov (keepP l x p) x p.1
  | [] => ⟨(x, [p]), by simp [keepP], rfl, by rw [show (x, [p]).2 = [] ++ [p] from rfl, later_snoc]; simp⟩
  | u :: l => by
    rw [keepP]
    split
    · obtain ⟨s', k1, k2, k3⟩ := cov_self (x := x) (p := p) l
      exact ⟨s', List.mem_cons_of_mem _ k1, k2, k3⟩
    · split
      · rename_i h
        exact ⟨_, List.mem_cons_self .., Lb.ordB_zero.1 h, addS_self _ _⟩
      · exact ⟨_, List.mem_cons_self .., rfl, by rw [show (x, [p]).2 = [] ++ [p] from rfl, later_snoc]; simp⟩
theorem keepP_id {x : List Lb.Lab} {p : Sam} : ∀ {l : List Ser}, l.Pairwise (fun a b => Lb.ordB a.1 b.1 < 0) → cov l x p.1 → keepP l x p = l
  | [], _, ⟨s, hs, _⟩ => by simp at hs
  | u :: l, hp, ⟨s, hs, h1, h2⟩ => by
    obtain ⟨hp1, hp2⟩ := List.pairwise_cons.1 hp
    rw [keepP]
    rcases List.mem_cons.1 hs with rfl | hs
    · have h0 : Lb.ordB s.1 x = 0 := Lb.ordB_zero.2 h1
      rw [if_neg (by omega), if_pos h0]
      have : addS s.2 p = s.2 := by simp [addS, h2]
      rw [this]
    · have h0 := hp1 s hs
      rw [h1] at h0
      rw [if_pos h0, keepP_id hp2 ⟨s, hs, h1, h2⟩]
theorem cov_all {x y : List Lb.Lab} {t : Int} : ∀ (ps : List Sam) {l : List Ser}, cov l y t → cov (keepAll l x ps) y t
  | [], l, h => h
  | p :: ps, l, h => cov_all ps (l := keepP l x p) (cov_keep h)
theorem cov_these {x : List Lb.Lab} : ∀ (ps : List Sam) (l : List Ser), ∀ p ∈ ps, cov (keepAll l x ps) x p.1
  | [], l, p, h => by simp at h
  | q :: ps, l, p, h => by
    rcases List.mem_cons.1 h with rfl | h
    · exact cov_all ps (l := keepP l x p) (cov_self l)
    · exact cov_these ps (keepP l x q) p h
theorem cov_take {y : List Lb.Lab} {t : Int} : ∀ (x : List Ser) {l : List Ser}, cov l y t → cov (takeAll l x) y t
  | [], l, h => h
  | z :: x, l, h => cov_take x (l := keepAll l z.1 z.2) (cov_all z.2 h)
theorem cov_taken : ∀ (x : List Ser) (l : List Ser), ∀ y ∈ x, ∀ p ∈ y.2, cov (takeAll l x) y.1 p.1
  | [], l, y, h, _, _ => by simp at h
  | z :: x, l, y, h, p, hp => by
    rcases List.mem_cons.1 h with rfl | h
    · exact cov_take x (l := keepAll l y.1 y.2) (cov_these y.2 l p hp)
    · exact cov_taken x (keepAll l z.1 z.2) y h p hp
theorem keepAll_id {x : List Lb.Lab} {l : List Ser} (hl : l.Pairwise (fun a b => Lb.ordB a.1 b.1 < 0)) : ∀ (ps : List Sam), (∀ p ∈ ps, cov l x p.1) → keepAll l x ps = l
  | [], _ => rfl
  | p :: ps, h => by
    show keepAll (keepP l x p) x ps = l
    rw [keepP_id hl (h p (by simp))]
    exact keepAll_id hl ps fun q hq => h q (List.mem_cons_of_mem _ hq)
theorem takeAll_id {l : List Ser} (hl : l.Pairwise (fun a b => Lb.ordB a.1 b.1 < 0)) : ∀ (x : List Ser), (∀ y ∈ x, ∀ p ∈ y.2, cov l y.1 p.1) → takeAll l x = l
  | [], _ => rfl
  | y :: x, h => by
    show takeAll (keepAll l y.1 y.2) x = l
    rw [keepAll_id hl y.2 (h y (by simp))]
    exact takeAll_id hl x fun z hz => h z (List.mem_cons_of_mem _ hz)
/-- What holds of each series and sample goes on to hold. -/
theorem addS_rise {ss : List Sam} {p : Sam} (h : riseT ss = true) : riseT (addS ss p) = true := by
  unfold addS
  split
  · rename_i hp
    refine riseT_yes fun j hj => ?_
    rw [List.length_append, List.length_singleton] at hj
    by_cases hjl : j < ss.length
    · rw [List.take_append_of_le_length (by omega), List.getElem_append_left hjl]
      cases hc : laterB (ss.take j) ss[j].1 with
      | true => rfl
      | false => rw [riseT_no hjl hc] at h; cases h
    · obtain rfl : j = ss.length := by omega
      rw [List.take_append_of_le_length (Nat.le_refl _), List.take_length, List.getElem_append_right (Nat.le_refl _)]
      simpa using hp
  · exact h
def goodS (s : Ser) : Prop := (∀ p ∈ s.2, timeB p.1 = true ∧ okSam p) ∧ riseT s.2 = true
theorem addS_good {u : Ser} {p : Sam} (hp : timeB p.1 = true ∧ okSam p) (h : goodS u) : goodS (u.1, addS u.2 p) := by
  refine ⟨fun q hq => ?_, addS_rise h.2⟩
  unfold addS at hq
  split at hq
  · rcases List.mem_append.1 hq with hq | hq
    · exact h.1 q hq
    · rw [List.mem_singleton.1 hq]; exact hp
  · exact h.1 q hq
theorem keepP_good {x : List Lb.Lab} {p : Sam} (hp : timeB p.1 = true ∧ okSam p) : ∀ {l : List Ser}, (∀ s ∈ l, goodS s) → ∀ s ∈ keepP l x p, goodS s
  | [], _, s, h => by
    simp only [keepP, List.mem_singleton] at h
    subst h
    exact ⟨fun q hq => by rw [List.mem_singleton.1 hq]; exact hp, rfl⟩
  | u :: l, hl, s, h => by
    rw [keepP] at h
    split at h
    · rcases List.mem_cons.1 h with rfl | h
      · exact hl _ (by simp)
      · exact keepP_good hp (fun v hv => hl v (List.mem_cons_of_mem _ hv)) s h
    · split at h
      · rcases List.mem_cons.1 h with rfl | h
        · exact addS_good hp (hl _ (by simp))
        · exact hl s (List.mem_cons_of_mem _ h)
      · rcases List.mem_cons.1 h with rfl | h
        · exact ⟨fun q hq => by rw [List.mem_singleton.1 hq]; exact hp, rfl⟩
        · exact hl s h
theorem keepAll_good {x : List Lb.Lab} : ∀ (ps : List Sam) {l : List Ser}, (∀ p ∈ ps, timeB p.1 = true ∧ okSam p) → (∀ s ∈ l, goodS s) → ∀ s ∈ keepAll l x ps, goodS s
  | [], l, _, h => h
  | p :: ps, l, hp, h => keepAll_good ps (l := keepP l x p) (fun q hq => hp q (List.mem_cons_of_mem _ hq)) (keepP_good (hp p (by simp)) h)
theorem takeAll_good : ∀ (x : List Ser) {l : List Ser}, (∀ y ∈ x, ∀ p ∈ y.2, timeB p.1 = true ∧ okSam p) → (∀ s ∈ l, goodS s) → ∀ s ∈ takeAll l x, goodS s
  | [], l, _, h => h
  | y :: x, l, hy, h => takeAll_good x (l := keepAll l y.1 y.2) (fun z hz => hy z (List.mem_cons_of_mem _ hz)) (keepAll_good y.2 (hy y (by simp)) h)
/-- What was there is there, and more behind it. -/
def front (l m : List Ser) : Prop := ∀ s ∈ l, ∃ u ∈ m, u.1 = s.1 ∧ s.2 <+: u.2
theorem front.refl (l : List Ser) : front l l := fun s hs => ⟨s, hs, rfl, List.prefix_refl _⟩
theorem front.trans {a b c : List Ser} (h : front a b) (k : front b c) : front a c := fun s hs => by
  obtain ⟨u, hu, h1, h2⟩ := h s hs
  obtain ⟨v, hv, k1, k2⟩ := k u hu
  exact ⟨v, hv, k1.trans h1, h2.trans k2⟩
theorem addS_front (ss : List Sam) (p : Sam) : ss <+: addS ss p := by
  unfold addS
  split
  · exact List.prefix_append _ _
  · exact List.prefix_refl _
theorem keepP_front {x : List Lb.Lab} {p : Sam} : ∀ (l : List Ser), front l (keepP l x p)
  | [] => fun s hs => by simp at hs
  | u :: l => fun s hs => by
    rw [keepP]
    split
    · rcases List.mem_cons.1 hs with rfl | hs
      · exact ⟨s, by simp, rfl, List.prefix_refl _⟩
      · obtain ⟨v, hv, h⟩ := keepP_front (x := x) (p := p) l s hs
        exact ⟨v, List.mem_cons_of_mem _ hv, h⟩
    · split
      · rcases List.mem_cons.1 hs with rfl | hs
        · exact ⟨_, List.mem_cons_self .., rfl, addS_front _ _⟩
        · exact ⟨s, List.mem_cons_of_mem _ hs, rfl, List.prefix_refl _⟩
      · exact ⟨s, List.mem_cons_of_mem _ hs, rfl, List.prefix_refl _⟩
theorem keepAll_front {x : List Lb.Lab} : ∀ (ps : List Sam) (l : List Ser), front l (keepAll l x ps)
  | [], l => front.refl l
  | p :: ps, l => (keepP_front (x := x) (p := p) l).trans (keepAll_front ps _)
theorem takeAll_front : ∀ (x l : List Ser), front l (takeAll l x)
  | [], l => front.refl l
  | y :: x, l => (keepAll_front y.2 l).trans (takeAll_front x _)
theorem store_yes {l : List Ser} (h1 : manyB l = false) (h2 : ∀ s ∈ l, Lb.checkB s.1 = 0 ∧ 0 < s.2.length) (h3 : ∀ s ∈ l, goodS s) (h4 : l.Pairwise (fun a b => Lb.ordB a.1 b.1 < 0)) : storeErr l = 0 := by
  have h5 : firstE serErr l = 0 := firstE_zero fun i hi => by
    obtain ⟨k1, k2⟩ := h2 _ (List.getElem_mem hi)
    obtain ⟨k3, k4⟩ := h3 _ (List.getElem_mem hi)
    unfold serErr
    rw [if_neg (by simpa using k1), if_neg (by
      intro h
      rcases h with h | h
      · omega
      · obtain ⟨p, hp, hb⟩ := List.any_eq_true.1 h
        rw [(k3 p hp).1] at hb
        cases hb), if_pos k4]
  have h6 : riseS l = true := rise_pw.2 h4
  unfold storeErr
  rw [if_neg (by rw [h1]; simp), if_neg (by simpa using h5), if_pos h6]
theorem store_good {l : List Ser} (h : storeErr l = 0) (hok : okStore l) : ∀ s ∈ l, goodS s := fun s hs => by
  obtain ⟨_, _, h3, h4⟩ := serErr_labels ((store_right h).2.2.1 s hs)
  exact ⟨fun p hp => ⟨h3 p hp, (hok.2 s hs).2.2 p hp⟩, h4⟩
end Go.Proofs.YtmdakfmecfcbhaaGreat.Tk
