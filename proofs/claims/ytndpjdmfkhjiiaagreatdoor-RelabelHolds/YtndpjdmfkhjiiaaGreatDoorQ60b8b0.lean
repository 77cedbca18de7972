/- 2 texts in one. -/
import Derived.Test.YtndpjdmfkhjiiaaGreatDoorProg
import Derived.Test.YtndpjdmfkhjiiaaGreatDoorQ74d152
import Derived.Test.YtndpjdmfkhjiiaaGreatDoorMLikV
import Derived.Test.YtndpjdmfkhjiiaaGreatDoorLRefAV
import Derived.Test.YtndpjdmfkhjiiaaGreatDoorQce0acf
import Derived.Test.YtndpjdmfkhjiiaaGreatDoorRlPV
import Derived.BigFrame
import Derived.Test.YtndpjdmfkhjiiaaGreatDoorQe64d52
import Derived.BigQuiet
/- RelabelNone: what no rules do, and rules that take whatever there is; the law's walk. -/
set_option linter.unusedVariables false
set_option linter.unusedSimpArgs false
namespace Go.Proofs.YtndpjdmfkhjiiaaGreatDoor.Rl
open Go.RowKit Lb
attribute [local go_sem] bs_size bs_toList bs_append bs_get bs_extract

/-- A rule that takes whatever there is. -/
def anyR (k : Int) (src : List (List UInt8)) (bt : List UInt8) : Rul := { kind := k, sources := src, between := bt, mask := [46, 42], modulus := 0, target := [], repl := [] }
theorem any_like (src : List UInt8) (k : Int) (s : List (List UInt8)) (bt : List UInt8) : likeR (trOf (anyR k s bt)).1 src = true := by
  have h : trOf (anyR k s bt) = (starT (fun _ => true) 42, 0) := by unfold trOf anyR; simp only [any_is]
  rw [h]
  exact star_like (fun i hi => hits_true hi)
theorem any_err (s : List (List UInt8)) (bt : List UInt8) : ruleErr (anyR 2 s bt) = ruleErr (anyR 3 s bt) := by
  unfold ruleErr kindErr
  have h : partsErr (anyR 2 s bt) = partsErr (anyR 3 s bt) := rfl
  rw [h]
  simp [anyR]
theorem none_apply (ls : List Lab) : applyB ls [] = if checkB ls ≠ 0 then ([], false, checkB ls) else (ls, true, 0) := by
  unfold applyB allErr
  simp only [List.length_nil, rulesErr]
  by_cases h : checkB ls = 0
  · simp [h, ruleGo]
  · simp [h]
/-- What the two rules make of labels that are right: the same error; the one keeps them, the other one drops them. -/
theorem any_apply (ls : List Lab) (s : List (List UInt8)) (bt : List UInt8) : (applyB ls [anyR 2 s bt]).2.2 = (applyB ls [anyR 3 s bt]).2.2 ∧ ((applyB ls [anyR 2 s bt]).2.2 = 0 → applyB ls [anyR 2 s bt] = (ls, true, 0) ∧ applyB ls [anyR 3 s bt] = ([], false, 0)) := by
  have he : allErr ls [anyR 3 s bt] = allErr ls [anyR 2 s bt] := by
    unfold allErr rulesErr
    rw [any_err]
    simp [rulesErr]
  have hs : sourceB (anyR 3 s bt) ls = sourceB (anyR 2 s bt) ls := rfl
  have d2 : ∀ x, deedR (anyR 2 s bt) ls x = (ls, true, 0) := fun x => by
    have := any_like x 2 s bt
    unfold deedR deedB
    rw [if_neg (show ¬ (anyR 2 s bt).kind = 1 from (by decide : ¬ (2 : Int) = 1)), if_pos (show (anyR 2 s bt).kind = 2 from rfl), this]
  have d3 : ∀ x, deedR (anyR 3 s bt) ls x = (ls, false, 0) := fun x => by
    have := any_like x 3 s bt
    unfold deedR deedB
    rw [if_neg (show ¬ (anyR 3 s bt).kind = 1 from (by decide : ¬ (3 : Int) = 1)), if_neg (show ¬ (anyR 3 s bt).kind = 2 from (by decide : ¬ (3 : Int) = 2)), if_pos (show (anyR 3 s bt).kind = 3 from rfl), this]
    rfl
  unfold applyB
  rw [he]
  by_cases h : allErr ls [anyR 2 s bt] = 0
  · rw [if_neg (by omega), if_neg (by omega)]
    unfold ruleGo
    rw [hs, d2, d3]
    by_cases hl : 2000 < (sourceB (anyR 2 s bt) ls).length
    · rw [if_pos hl, if_pos hl]
      exact ⟨rfl, fun h => by cases h⟩
    · rw [if_neg hl, if_neg hl]
      simp [ruleGo]
  · rw [if_pos h, if_pos h]
    exact ⟨rfl, fun h2 => absurd h2 h⟩
theorem okR_any {s : List (List UInt8)} {bt : List UInt8} (k : Int) (h1 : s.length ≤ 9223372036854775807) (h2 : ∀ y ∈ s, y.length ≤ 9223372036854775807) (h3 : bt.length ≤ 9223372036854775807) : okR (anyR k s bt) :=
  ⟨h1, h2, h3, by simp [anyR], by simp [anyR], by simp [anyR]⟩

theorem one_rule (w : World) (b : Nat) (r : Rul) (v : Value) (h : w.heap[b]? = some (.cells (ruleC r v).toArray 24 (0, 0))) (hs : readsStrs w w.heap.size v r.sources) : readsRules w w.heap.size (.slice (some ⟨b, 0, none⟩) 1 1) [r] := by
  refine ⟨_, _, rfl, fun i hi => ?_⟩
  obtain rfl : i = 0 := by simp at hi; omega
  obtain ⟨c0, c1, c2, c3, c4, c5, c6⟩ := seven_cells h
  exact ⟨b, 0, v, rfl, lt_of_block h, hs, by simpa using c0, by simpa using c1, by simpa using c2, by simpa using c3, by simpa using c4, by simpa using c5, by simpa using c6⟩

set_option maxRecDepth 20000 in
set_option maxHeartbeats 4000000 in
theorem relabelNone_any (w : World) (va : Value) (ls : List Lab) (ha : readsLabels w w.heap.size va ls) (hlen : ls.length ≤ 9223372036854775807) (hin : ∀ y ∈ ls, y.1.length ≤ 9223372036854775807 ∧ y.2.length ≤ 9223372036854775807)
    (vs : Value) (src : List (List UInt8)) (hs : readsStrs w w.heap.size vs src) (hsl : src.length ≤ 9223372036854775807) (hsi : ∀ y ∈ src, y.length ≤ 9223372036854775807) (bt : List UInt8) (hbt : bt.length ≤ maxLen) :
    Calls Tryz.prog 6 #[va, vs, .string (bs bt)] w fun e w' => e = .returned (.bool true) ∧ Grow w w' := by
  unfold maxLen at hbt
  obtain ⟨so, sc, hvs, _⟩ := id hs
  subst hvs
  have HA := hide ha
  have HS := hide hs
  have HIN := hide hin
  have HSI := hide hsi
  obtain ⟨lo, lc, rfl⟩ := readsLabels_len ha
  clear ha hs hin hsi
  go_enter Tryz.func6, Tryz.ntmps6
  go_wp2_with fail
  refine (relabelBegun_any w).mono ?_
  rintro e w1 ⟨rfl, hg1⟩
  have HG1 := hide hg1
  have HA1 := hide (readsLabels_mono (readsLabels_below HA.out hg1) hg1.size)
  clear hg1
  go_wp2_with fail
  refine (apply_any w1 _ (.slice none 0 0) ls [] HA1.out hlen HIN.out ⟨none, 0, rfl, fun i h => by simp at h⟩ (by simp) (fun r hr => by simp at hr) (fun r hr => by simp at hr)).mono ?_
  rintro e w2 ⟨hg2, mo, n, mc, rfl, hown⟩
  rw [none_apply] at hown ⊢
  by_cases hck : checkB ls = 0
  · rw [if_neg (by omega)] at hown ⊢
    have h20 := (right_small hck).1
    have HG2 := hide (HG1.out.trans hg2)
    have HA2 := hide (readsLabels_mono (readsLabels_below HA1.out hg2) hg2.size)
    have HO2 := hide hown
    clear hg2 hown
    obtain ⟨W, eW, gW, sW, k1, k2, k3⟩ := laid3 w2 #[.int .i64 2, .slice so src.length sc, .string (bs bt), .string { data := #[46, 42] }, .int .i64 0, .string { data := #[] }, .string { data := #[] }] #[.int .i64 3, .slice so src.length sc, .string (bs bt), .string { data := #[46, 42] }, .int .i64 0, .string { data := #[] }, .string { data := #[] }] #[.int .i64 2, .slice so src.length sc, .string (bs bt), .string { data := #[46, 42] }, .int .i64 0, .string { data := #[] }, .string { data := #[] }] 24 24 24
    have HGW := hide (HG2.out.trans gW)
    have HS2 := hide ((HS.out.keep HGW.out).more HGW.out.size)
    have HA3 := hide (readsLabels_mono (readsLabels_below HA2.out gW) gW.size)
    have HO3 := hide (own_grow HO2.out gW)
    have HK2 := hide k2
    have HY := hide (apply_any W _ (.slice (some ⟨w2.heap.size + 1 + 1, 0, none⟩) 1 1) ls [anyR 2 src bt] HA3.out hlen HIN.out (one_rule W _ (anyR 2 src bt) _ k3 HS2.out) (by simp) (fun r hr => by simp at hr; subst hr; exact ⟨okR_any 2 hsl HSI.out hbt, (by decide : (Lit.int .i64 2).wf = true)⟩) (fun r hr => by simp at hr; subst hr; exact (by decide : (2 : Int) ≠ 4)))
    have hz : ∀ V, Grow W V → ∀ b, V.heap[b]? = some (.cells #[.int .i64 3, .slice so src.length sc, .string (bs bt), .string { data := #[46, 42] }, .int .i64 0, .string { data := #[] }, .string { data := #[] }] 24 (0, 0)) → Calls Tryz.prog 13 #[.slice lo ls.length lc, .slice (some ⟨b, 0, none⟩) 1 1] V fun e w' => Grow V w' ∧ ApplyPost V.heap.size (applyB ls [anyR 3 src bt]) e w' := fun V hg b hb =>
      apply_any V _ _ ls [anyR 3 src bt] (readsLabels_mono (readsLabels_below HA3.out hg) hg.size) hlen HIN.out (one_rule V _ (anyR 3 src bt) _ hb ((HS2.out.keep hg).more hg.size)) (by simp) (fun r hr => by simp at hr; subst hr; exact ⟨okR_any 3 hsl HSI.out hbt, (by decide : (Lit.int .i64 3).wf = true)⟩) (fun r hr => by simp at hr; subst hr; exact (by decide : (3 : Int) ≠ 4))
    have HZ := hide hz
    obtain ⟨hq1, hq2⟩ := any_apply ls src bt
    generalize applyB ls [anyR 2 src bt] = Y at HY hq1 hq2
    generalize applyB ls [anyR 3 src bt] = Z at HZ hq1 hq2
    have HQ1 := hide hq1
    have HQ2 := hide hq2
    clear hz hq1 hq2 k1 k2 k3 gW
    go_wp2_with fail
    refine HY.out.mono ?_
    rintro e w3 ⟨hg3, yo, yn, yc, rfl, hownY⟩
    have hk3 := hg3.get HK2.out
    obtain ⟨c0, c1, c2, c3, c4, c5, c6⟩ := seven_cells hk3
    obtain ⟨V, eV, gV, sV, hV⟩ := laid_rule w3 (.int .i64 3) (.slice so src.length sc) (.string (bs bt)) (.string { data := #[46, 42] }) (.int .i64 0) (.string { data := #[] }) (.string { data := #[] }) 24
    have HGV := hide (HGW.out.trans (hg3.trans gV))
    have HZ2 := hide (HZ.out V (hg3.trans gV) w3.heap.size hV)
    have HOY := hide (own_grow hownY gV)
    have HO4 := hide (own_grow HO3.out (hg3.trans gV))
    have HA4 := hide (readsLabels_mono (readsLabels_below HA3.out (hg3.trans gV)) (hg3.trans gV).size)
    clear hk3 hg3 gV hownY hV eW sV sW
    go_wp2_with fail
    refine HZ2.out.mono ?_
    rintro e w4 ⟨hg4, zo, zn, zc, rfl, hownZ⟩
    have HG4 := hide (HGV.out.trans hg4)
    have HO5 := hide (reads_ownLabels (own_grow HO4.out hg4))
    have HOY5 := hide (own_grow HOY.out hg4)
    have HOZ5 := hide hownZ
    have HA5 := hide (readsLabels_mono (readsLabels_below HA4.out hg4) hg4.size)
    clear hg4 hownZ eV c0 c1 c2 c3 c4 c5 c6
    go_wp2_with fail
    refine (sameLabels_any w4 _ _ ls ls HO5.out HA5.out (by omega) (by omega)).mono ?_
    rintro e w5 ⟨rfl, n5, rfl⟩
    rw [decide_eq_true (rfl : ls = ls)]
    have HG5 : Hid (Grow w (w4.drewN n5)) := hide (Go.below_drewN HG4.out n5)
    have HOY6 : Hid (ownLabels (w4.drewN n5) W.heap.size (.slice yo yn yc) Y.1) := HOY5
    have HOZ6 : Hid (ownLabels (w4.drewN n5) V.heap.size (.slice zo zn zc) Z.1) := HOZ5
    have HA6 : Hid (readsLabels (w4.drewN n5) (w4.drewN n5).heap.size (.slice lo ls.length lc) ls) := HA5
    generalize w4.drewN n5 = w5 at HG5 HOY6 HOZ6 HA6 ⊢
    obtain ⟨Y1, Y2, Y3⟩ := Y
    obtain ⟨Z1, Z2, Z3⟩ := Z
    have hq1 := HQ1.out
    simp only at hq1
    subst hq1
    by_cases h0 : Y3 = 0
    · obtain ⟨e1, e2⟩ := HQ2.out h0
      simp only [Prod.mk.injEq] at e1 e2
      obtain ⟨rfl, rfl, rfl⟩ := e1
      obtain ⟨rfl, rfl, _⟩ := e2
      obtain ⟨_, _, hz1⟩ := own_shape HOZ6.out
      simp only [Value.slice.injEq] at hz1
      obtain ⟨_, rfl, _⟩ := hz1
      have HR := hide (reads_ownLabels HOY6.out)
      clear h0
      go_wp2_with fail
      refine (sameLabels_any w5 _ _ Y1 Y1 HR.out HA6.out (by omega) (by omega)).mono ?_
      rintro e w6 ⟨rfl, n6, rfl⟩
      rw [decide_eq_true (rfl : Y1 = Y1)]
      have hg6 : Grow w (w5.drewN n6) := Go.below_drewN HG5.out n6
      go_wp2_with fail
      go_ret
      exact ⟨rfl, hg6⟩
    · have hne : ((Y3 : Int) != 0) = true := by simp; omega
      clear h0
      go_wp2_with fail
      go_ret
      exact ⟨rfl, HG5.out⟩
  · rw [if_pos hck] at hown ⊢
    have HG2 := hide (HG1.out.trans hg2)
    have hne : ((checkB ls : Int) != 0) = true := by simp; omega
    clear hg2 hown hck
    go_wp2_with fail
    go_ret
    exact ⟨rfl, HG2.out⟩

end Go.Proofs.YtndpjdmfkhjiiaaGreatDoor.Rl

/- RelabelHolds: what is lost by a mask and what is held by it; the law's walk. -/
set_option linter.unusedVariables false
set_option linter.unusedSimpArgs false
namespace Go.Proofs.YtndpjdmfkhjiiaaGreatDoor.Rl
open Go.RowKit Lb
attribute [local go_sem] bs_size bs_toList bs_append bs_get bs_extract

/-- A rule by a mask alone. -/
def byR (k : Int) (m : List UInt8) : Rul := { kind := k, sources := [], between := [], mask := m, modulus := 0, target := [], repl := [] }
theorem by_err (m : List UInt8) : ruleErr (byR 6 m) = ruleErr (byR 7 m) := by
  unfold ruleErr kindErr
  have h : partsErr (byR 6 m) = partsErr (byR 7 m) := rfl
  rw [h]
  simp [byR]
/-- What the two rules make of labels that are right: the same error, or all of them, each once. -/
theorem by_apply (ls : List Lab) (m : List UInt8) : (applyB ls [byR 6 m]).2.2 = (applyB ls [byR 7 m]).2.2 ∧ ((applyB ls [byR 6 m]).2.2 = 0 → checkB ls = 0 ∧ ∃ p : Lab → Bool, (∀ x y : Lab, x = y → p x = p y) ∧ applyB ls [byR 6 m] = (ls.filter (fun x => !p x), true, 0) ∧ applyB ls [byR 7 m] = (ls.filter p, true, 0)) := by
  have he : allErr ls [byR 7 m] = allErr ls [byR 6 m] := by
    unfold allErr rulesErr
    rw [by_err]
    simp [rulesErr]
  have hs6 : sourceB (byR 6 m) ls = [] := rfl
  have hs7 : sourceB (byR 7 m) ls = [] := rfl
  have d6 : ∀ x, deedR (byR 6 m) ls x = (ls.filter (fun x => !likeR (trOf (byR 6 m)).1 x.1), true, 0) := fun x => by
    unfold deedR deedB
    rw [if_neg (show ¬ (byR 6 m).kind = 1 from (by decide : ¬ (6 : Int) = 1)), if_neg (show ¬ (byR 6 m).kind = 2 from (by decide : ¬ (6 : Int) = 2)), if_neg (show ¬ (byR 6 m).kind = 3 from (by decide : ¬ (6 : Int) = 3)), if_neg (show ¬ (byR 6 m).kind = 5 from (by decide : ¬ (6 : Int) = 5)), if_pos (show (byR 6 m).kind = 6 from rfl)]
  have d7 : ∀ x, deedR (byR 7 m) ls x = (ls.filter (fun x => likeR (trOf (byR 6 m)).1 x.1), true, 0) := fun x => by
    unfold deedR deedB
    rw [if_neg (show ¬ (byR 7 m).kind = 1 from (by decide : ¬ (7 : Int) = 1)), if_neg (show ¬ (byR 7 m).kind = 2 from (by decide : ¬ (7 : Int) = 2)), if_neg (show ¬ (byR 7 m).kind = 3 from (by decide : ¬ (7 : Int) = 3)), if_neg (show ¬ (byR 7 m).kind = 5 from (by decide : ¬ (7 : Int) = 5)), if_neg (show ¬ (byR 7 m).kind = 6 from (by decide : ¬ (7 : Int) = 6))]
    rfl
  unfold applyB
  rw [he]
  by_cases h : allErr ls [byR 6 m] = 0
  · rw [if_neg (by omega), if_neg (by omega)]
    unfold ruleGo
    rw [hs6, hs7, d6, d7, if_neg (by simp), if_neg (by simp)]
    refine ⟨by simp [ruleGo], fun _ => ⟨(allErr_zero h).2.1, fun x => likeR (trOf (byR 6 m)).1 x.1, fun x y h => by rw [h], by simp [ruleGo], by simp [ruleGo]⟩⟩
  · rw [if_pos h, if_pos h]
    exact ⟨rfl, fun h2 => absurd h2 h⟩
theorem okR_by {m : List UInt8} (k : Int) (h : m.length ≤ 9223372036854775807) : okR (byR k m) :=
  ⟨by simp [byR], by simp [byR], by simp [byR], h, by simp [byR], by simp [byR]⟩

/-- How many of the first k are taken. -/
def cntP (p : Lab → Bool) (l : List Lab) (k : Nat) : Nat := ((l.take k).filter p).length
theorem cntP_zero (p : Lab → Bool) (l : List Lab) : cntP p l 0 = 0 := by simp [cntP]
theorem cntP_yes {p : Lab → Bool} {l : List Lab} {k : Nat} (h : k < l.length) (hp : p l[k] = true) : cntP p l (k + 1) = cntP p l k + 1 := by
  unfold cntP
  rw [List.take_succ_eq_append_getElem h, List.filter_append]
  simp [hp]
theorem cntP_no {p : Lab → Bool} {l : List Lab} {k : Nat} (h : k < l.length) (hp : p l[k] = false) : cntP p l (k + 1) = cntP p l k := by
  unfold cntP
  rw [List.take_succ_eq_append_getElem h, List.filter_append]
  simp [hp]
theorem filter_at {p : Lab → Bool} {l : List Lab} {k : Nat} (h : k < l.length) (hp : p l[k] = true) : ∃ h2 : cntP p l k < (l.filter p).length, (l.filter p)[cntP p l k] = l[k] := by
  have e : l.filter p = (l.take k).filter p ++ l[k] :: (l.drop (k + 1)).filter p := by
    conv => lhs; rw [← List.take_append_drop k l, List.drop_eq_getElem_cons h]
    rw [List.filter_append, List.filter_cons, if_pos hp]
  have h2 : cntP p l k < (l.filter p).length := by
    rw [e, List.length_append]
    unfold cntP
    simp
  refine ⟨h2, ?_⟩
  simp only [e, cntP]
  simp
theorem filter_all {p : Lab → Bool} {l : List Lab} {i : Nat} (h : i < (l.filter p).length) : p (l.filter p)[i] = true := (List.mem_filter.1 (List.getElem_mem h)).2
theorem filter_both (p : Lab → Bool) (l : List Lab) : (l.filter (fun x => !p x)).length + (l.filter p).length = l.length := by
  induction l with
  | nil => rfl
  | cons x l ih =>
    simp only [List.filter_cons]
    cases hx : p x <;> simp <;> omega

set_option maxRecDepth 20000 in
set_option maxHeartbeats 4000000 in
theorem relabelHolds_any (w : World) (va : Value) (ls : List Lab) (ha : readsLabels w w.heap.size va ls) (hlen : ls.length ≤ 9223372036854775807) (hin : ∀ y ∈ ls, y.1.length ≤ 9223372036854775807 ∧ y.2.length ≤ 9223372036854775807)
    (m : List UInt8) (hm : m.length ≤ maxLen) :
    Calls Tryz.prog 7 #[va, .string (bs m)] w fun e w' => e = .returned (.bool true) ∧ Grow w w' := by
  unfold maxLen at hm
  have HA := hide ha
  have HIN := hide hin
  obtain ⟨lo, lc, rfl⟩ := readsLabels_len ha
  clear ha hin
  have happ : ∀ (k : Int), (Lit.int .i64 k).wf = true → k ≠ 4 → ∀ W, Grow w W → Calls Tryz.prog 13 #[.slice lo ls.length lc, .slice (some ⟨W.heap.size, 0, none⟩) 1 1] (W.alloc (.cells #[.int .i64 k, .slice none 0 0, .string { data := #[] }, .string (bs m), .int .i64 0, .string { data := #[] }, .string { data := #[] }] 24)) fun e w' => Grow W w' ∧ ApplyPost W.heap.size (applyB ls [byR k m]) e w' := by
    intro k hk hk4 W hg
    have g2 := (Grow.refl W).alloc (.cells #[.int .i64 k, .slice none 0 0, .string { data := #[] }, .string (bs m), .int .i64 0, .string { data := #[] }, .string { data := #[] }] 24)
    have h2 := heap_alloc_new W (.cells #[.int .i64 k, .slice none 0 0, .string { data := #[] }, .string (bs m), .int .i64 0, .string { data := #[] }, .string { data := #[] }] 24)
    generalize W.alloc (.cells #[.int .i64 k, .slice none 0 0, .string { data := #[] }, .string (bs m), .int .i64 0, .string { data := #[] }, .string { data := #[] }] 24) = V at g2 h2 ⊢
    refine (apply_any V _ _ ls [byR k m] (readsLabels_mono (readsLabels_below HA.out (hg.trans g2)) (hg.trans g2).size) hlen HIN.out (one_rule V _ (byR k m) _ h2 ⟨none, 0, rfl, fun i h => by simp [byR] at h⟩) (by simp) (fun r hr => by simp at hr; subst hr; exact ⟨okR_by k hm, hk⟩) (fun r hr => by simp at hr; subst hr; exact hk4)).mono ?_
    rintro e w' ⟨hg3, mo, n, mc, rfl, ho⟩
    exact ⟨g2.trans hg3, mo, n, mc, rfl, own_le ho g2.size⟩
  have H6 := hide (happ 6 (by decide) (by decide))
  have H7 := hide (happ 7 (by decide) (by decide))
  clear happ
  obtain ⟨hq1, hq2⟩ := by_apply ls m
  generalize applyB ls [byR 6 m] = Y at H6 hq1 hq2
  generalize applyB ls [byR 7 m] = Z at H7 hq1 hq2
  obtain ⟨Y1, Y2, Y3⟩ := Y
  obtain ⟨Z1, Z2, Z3⟩ := Z
  simp only at hq1
  subst hq1
  have HQ2 := hide hq2
  clear hq2
  go_enter Tryz.func7, Tryz.ntmps7
  go_wp2_with fail
  refine (relabelBegun_any w).mono ?_
  rintro e w1 ⟨rfl, hg1⟩
  have HG1 := hide hg1
  clear hg1
  go_wp2_with fail
  refine (H6.out w1 HG1.out).mono ?_
  rintro e w2 ⟨hg2, yo, yn, yc, rfl, hownY⟩
  have HG2 := hide (HG1.out.trans hg2)
  have HOY := hide hownY
  clear hg2 hownY
  go_wp2_with fail
  refine (H7.out w2 HG2.out).mono ?_
  rintro e w3 ⟨hg3, zo, zn, zc, rfl, hownZ⟩
  have HG3 := hide (HG2.out.trans hg3)
  have HOY3 := hide (own_grow HOY.out hg3)
  have HOZ3 := hide hownZ
  clear hg3 hownZ
  by_cases h0 : Y3 = 0
  · obtain ⟨hck, p, hpp, e1, e2⟩ := HQ2.out h0
    simp only [Prod.mk.injEq] at e1 e2
    obtain ⟨rfl, rfl, rfl⟩ := e1
    obtain ⟨rfl, rfl, _⟩ := e2
    have h20 := (right_small hck).1
    have HRL := hide (readsLabels_mono (readsLabels_below HA.out HG3.out) HG3.out.size)
    have HRY := hide (reads_ownLabels HOY3.out)
    have HRZ := hide (reads_ownLabels HOZ3.out)
    obtain ⟨_, _, hy1⟩ := own_shape HOY3.out
    obtain ⟨_, _, hz1⟩ := own_shape HOZ3.out
    simp only [Value.slice.injEq] at hy1 hz1
    obtain ⟨-, rfl, -⟩ := hy1
    obtain ⟨-, rfl, -⟩ := hz1
    have hboth := filter_both p ls
    obtain ⟨A, hA⟩ : ∃ A, A = ls.filter (fun x => !p x) := ⟨_, rfl⟩
    obtain ⟨B, hB⟩ : ∃ B, B = ls.filter p := ⟨_, rfl⟩
    have HAd := hide hA
    have HBd := hide hB
    have HPP := hide hpp
    rw [← hA, ← hB] at hboth
    rw [← hA] at HRY ⊢
    rw [← hB] at HRZ ⊢
    have hlens : (((A.length : Int) + (B.length : Int)) != (ls.length : Int)) = false := by simp; omega
    clear h0 hck hA hB hpp H6 H7 HQ2 HOY HOY3 HOZ3
    go_wp2_with fail
    go_loopw [11, 12, 13] (fun a b c wr => ∃ j d : Nat, j ≤ ls.length ∧ a = .int .i64 (cntP (fun x => !p x) ls j : Nat) ∧ b = .int .i64 (cntP p ls j : Nat) ∧ c = .int .i64 j ∧ Hid (wr = w3.drewN d)) (fun _ _ c _ => ls.length - (intOf c).toNat)
    case atStart => exact ⟨0, 0, by omega, by rw [cntP_zero]; rfl, by rw [cntP_zero]; rfl, rfl, hide rfl⟩
    case round =>
      obtain ⟨j, d, hj, rfl, rfl, rfl, HW⟩ := hrel
      rename World => wr
      by_cases hlt : j < ls.length
      · have HRLw : Hid (readsLabels wr wr.heap.size (.slice lo ls.length lc) ls) := hide (by rw [HW.out]; exact HRL.out)
        have HRYw : Hid (readsLabels wr wr.heap.size (.slice yo A.length yc) A) := hide (by rw [HW.out]; exact HRY.out)
        have HRZw : Hid (readsLabels wr wr.heap.size (.slice zo B.length zc) B) := hide (by rw [HW.out]; exact HRZ.out)
        obtain ⟨lo', lc', e1, lcells⟩ := HRLw.out
        obtain ⟨lb, lof, hlo, _, d0, d1⟩ := lcells j hlt
        simp only [Value.slice.injEq] at e1
        obtain ⟨rfl, -, -⟩ := e1
        subst hlo
        cases hp : p ls[j] with
        | false =>
          obtain ⟨hi, hAi⟩ := filter_at (p := fun x => !p x) hlt (by simp [hp])
          have hy := cntP_yes (p := fun x => !p x) hlt (by simp [hp])
          have hn := cntP_no (p := p) hlt hp
          rw [← HAd.out] at hi
          have hAi2 : A[cntP (fun x => !p x) ls j] = ls[j] := by simp only [HAd.out]; exact hAi
          have HY := hide hy
          have HN := hide hn
          obtain ⟨yo', yc', e2, ycells⟩ := HRYw.out
          obtain ⟨yb, yof, hyo, _, a0, a1⟩ := ycells _ hi
          simp only [Value.slice.injEq] at e2
          obtain ⟨rfl, -, -⟩ := e2
          subst hyo
          rw [hAi2] at a0 a1
          generalize cntP (fun x => !p x) ls j = I at hi a0 a1 HY ⊢
          generalize cntP p ls j = K at HN ⊢
          generalize ls[j] = x at d0 d1 a0 a1
          have t1 : decide ((I : Int) < (A.length : Int)) = true := by rw [decide_eq_true_iff]; omega
          have hii : (I : Int) < (A.length : Int) := by omega
          have hjj : (j : Int) < (ls.length : Int) := by omega
          clear lcells ycells hAi hAi2 hp hy hn
          go_wp2
          go_quiet (fail)
          go_wp2
          go_roundw
          case rel => exact ⟨j + 1, _, by omega, by rw [HY.out]; go_num, by rw [HN.out], by go_num, hide (by rw [HW.out, World.drewN_drewN])⟩
          case measure => simp [intOf]; omega
        | true =>
          obtain ⟨hi, hBi⟩ := filter_at (p := p) hlt hp
          have hy := cntP_yes (p := p) hlt hp
          have hn := cntP_no (p := fun x => !p x) hlt (by simp [hp])
          rw [← HBd.out] at hi
          have hBi2 : B[cntP p ls j] = ls[j] := by simp only [HBd.out]; exact hBi
          have HY := hide hy
          have HN := hide hn
          obtain ⟨zo', zc', e3, zcells⟩ := HRZw.out
          obtain ⟨zb, zof, hzo, _, b0, b1⟩ := zcells _ hi
          simp only [Value.slice.injEq] at e3
          obtain ⟨rfl, -, -⟩ := e3
          subst hzo
          rw [hBi2] at b0 b1
          have hAne : ∀ (i : Nat) (h : i < A.length), A[i] ≠ ls[j] := fun i h e => by
            have h2 : (!p A[i]) = true := by
              have h3 : ∀ y ∈ A, (!p y) = true := by rw [HAd.out]; exact fun y hy => (List.mem_filter.1 hy).2
              exact h3 _ (List.getElem_mem h)
            rw [HPP.out _ _ e, hp] at h2
            cases h2
          obtain ⟨yo', yc', e2, ycells⟩ := HRYw.out
          have hjj : (j : Int) < (ls.length : Int) := by omega
          generalize cntP (fun x => !p x) ls j = I at HN ⊢
          generalize cntP p ls j = K at hi b0 b1 HY ⊢
          have hAneI := hAne I
          generalize ls[j] = x at d0 d1 b0 b1 hAneI
          have t2 : decide ((K : Int) < (B.length : Int)) = true := by rw [decide_eq_true_iff]; omega
          have hki : (K : Int) < (B.length : Int) := by omega
          clear lcells zcells hBi hBi2 hp hy hn hAne
          by_cases hIA : I < A.length
          · obtain ⟨yb, yof, hyo, _, a0, a1⟩ := ycells I hIA
            simp only [Value.slice.injEq] at e2
            obtain ⟨rfl, -, -⟩ := e2
            subst hyo
            have hne := lab_ne (hAneI hIA)
            have t1 : decide ((I : Int) < (A.length : Int)) = true := by rw [decide_eq_true_iff]; omega
            have hii : (I : Int) < (A.length : Int) := by omega
            generalize A[I] = y at a0 a1 hne hAneI
            clear ycells hAneI
            rcases hne with h1 | ⟨h1, h2⟩
            all_goals
              go_wp2
              go_quiet (fail)
              go_wp2
              go_quiet (fail)
              go_wp2
              go_roundw
              case rel => exact ⟨j + 1, _, by omega, by rw [HN.out], by rw [HY.out]; go_num, by go_num, hide (by rw [HW.out, World.drewN_drewN])⟩
              case measure => simp [intOf]; omega
          · have t1 : decide ((I : Int) < (A.length : Int)) = false := by rw [decide_eq_false_iff_not]; omega
            clear ycells hAneI e2
            go_wp2
            go_quiet (fail)
            go_wp2
            go_quiet (fail)
            go_wp2
            go_roundw
            case rel => exact ⟨j + 1, _, by omega, by rw [HN.out], by rw [HY.out]; go_num, by go_num, hide (by rw [HW.out, World.drewN_drewN])⟩
            case measure => simp [intOf]; omega
      · go_wp2
        go_ret
        have hg := HG3.out
        exact ⟨rfl, by rw [HW.out]; exact Go.below_drewN hg d⟩
  · have hne : ((Y3 : Int) != 0) = true := by simp; omega
    clear h0
    go_wp2_with fail
    go_ret
    exact ⟨ret_bool (by simp), HG3.out⟩

end Go.Proofs.YtndpjdmfkhjiiaaGreatDoor.Rl
