/- 2 texts in one. -/
import Derived.Test.YtndpjdmfkhjiiaaGreatDoorProg
import Derived.Test.YtndpjdmfkhjiiaaGreatDoorQ74d152
import Derived.Test.YtndpjdmfkhjiiaaGreatDoorMBegV
import Derived.Test.YtndpjdmfkhjiiaaGreatDoorQce0acf
import Derived.BigFrame
import Derived.Test.YtndpjdmfkhjiiaaGreatDoorMLikV
import Derived.Test.YtndpjdmfkhjiiaaGreatDoorLRefAV
/- relabel: what the law's example makes. -/
set_option linter.unusedVariables false
set_option linter.unusedSimpArgs false
namespace Go.Proofs.YtndpjdmfkhjiiaaGreatDoor.Rl
open Go.RowKit Lb
attribute [local go_sem] bs_size bs_toList bs_append bs_get bs_extract

/-- The example's labels, and its rule. -/
def begLs : List Lab := [([97], [120, 49])]
def begR : Rul := { kind := 1, sources := [[97]], between := [], mask := [120, 40, 46, 41], modulus := 0, target := [98], repl := [121, 36, 49] }
theorem beg_check : checkB begLs = 0 := by decide +kernel
theorem beg_source : sourceB begR begLs = [120, 49] := by decide +kernel
theorem beg_tm : tmAt begR.repl 0 = some [([121], -1), ([], 1)] := by rfl
theorem beg_err : faultOf begR.mask = (0, 0) := by rfl
theorem beg_all : allErr begLs [begR] = 0 := by decide +kernel
def begT : Tr := .row (.set (between 120 120) 0 (.grp 0 (.row (.set (fun _ => true) 0 .nil) .nil) 0 .nil)) .nil
theorem beg_is : maskIs begR.mask = .ok (begT, 1) := by rfl
theorem beg_way : wayOf begT [120, 49] = some [(0, 1), (1, 2)] := wayOf_eq (f := 60) (by decide)
theorem beg_tr : trOf begR = (begT, 1) := by unfold trOf; rw [beg_is]
theorem beg_tmOf : tmOf begR = [([121], -1), ([], 1)] := by unfold tmOf; rw [beg_tm]; rfl
theorem beg_deed : deedR begR begLs [120, 49] = ([([97], [120, 49]), ([98], [121, 49])], true, 0) := by
  unfold deedR deedB
  rw [if_pos (show begR.kind = 1 from rfl), beg_tr, beg_tmOf]
  simp only [beg_way]
  decide +kernel
theorem beg_apply : applyB begLs [begR] = ([([97], [120, 49]), ([98], [121, 49])], true, 0) := by
  unfold applyB
  rw [if_neg (by rw [beg_all]; simp)]
  unfold ruleGo
  rw [beg_source, if_neg (by decide), beg_deed, if_neg (by simp)]
  rfl
theorem laid3 (w : World) (b1 b2 b3 : Array Value) (t1 t2 t3 : TypeId) : ∃ W : World, ((w.alloc (.cells b1 t1)).alloc (.cells b2 t2)).alloc (.cells b3 t3) = W ∧ Grow w W ∧ W.heap.size = w.heap.size + 3 ∧ W.heap[w.heap.size]? = some (.cells b1 t1 (0, 0)) ∧ W.heap[w.heap.size + 1]? = some (.cells b2 t2 (0, 0)) ∧ W.heap[w.heap.size + 2]? = some (.cells b3 t3 (0, 0)) := by
  have g1 := (Grow.refl w).alloc (.cells b1 t1)
  have h1 := heap_alloc_new w (.cells b1 t1)
  have s1 : (w.alloc (.cells b1 t1)).heap.size = w.heap.size + 1 := by simp
  generalize w.alloc (.cells b1 t1) = A at g1 h1 s1 ⊢
  have g2 := (Grow.refl A).alloc (.cells b2 t2)
  have h2 := heap_alloc_new A (.cells b2 t2)
  have s2 : (A.alloc (.cells b2 t2)).heap.size = A.heap.size + 1 := by simp
  generalize A.alloc (.cells b2 t2) = B at g2 h2 s2 ⊢
  have g3 := (Grow.refl B).alloc (.cells b3 t3)
  have h3 := heap_alloc_new B (.cells b3 t3)
  have s3 : (B.alloc (.cells b3 t3)).heap.size = B.heap.size + 1 := by simp
  refine ⟨_, rfl, (g1.trans g2).trans g3, by omega, (g2.trans g3).get h1, ?_, ?_⟩
  · rw [← s1]; exact g3.get h2
  · rw [show w.heap.size + 2 = B.heap.size by omega]; exact h3

set_option maxRecDepth 20000 in
set_option maxHeartbeats 4000000 in
theorem relabelBegun_any (w : World) : Calls Tryz.prog 10 #[] w fun e w' => e = .returned (.bool true) ∧ Grow w w' := by
  obtain ⟨W, eW, gW, sW, h1, h2, h3⟩ := laid3 w #[.string { data := #[97] }, .string { data := #[120, 49] }] #[.string { data := #[97] }] #[.int .i64 1, .slice (some ⟨w.heap.size + 1, 0, none⟩) 1 1, .string { data := #[] }, .string { data := #[120, 40, 46, 41] }, .int .i64 0, .string { data := #[98] }, .string { data := #[121, 36, 49] }] 39 9 24
  obtain ⟨a0, a1⟩ := two_cells h1
  have b0 : W.cell? ⟨w.heap.size + 1, 0, none⟩ = some (.string { data := #[97] }) := by simp [World.cell?, h2]
  obtain ⟨c0, c1, c2, c3, c4, c5, c6⟩ := seven_cells h3
  have hA : readsLabels W W.heap.size (.slice (some ⟨w.heap.size, 0, none⟩) 1 1) begLs := by
    refine ⟨_, _, rfl, fun i hi => ?_⟩
    match i, hi with
    | 0, _ => exact ⟨_, _, rfl, by omega, a0, a1⟩
  have hR : readsRules W W.heap.size (.slice (some ⟨w.heap.size + 2, 0, none⟩) 1 1) [begR] := by
    refine ⟨_, _, rfl, fun i hi => ?_⟩
    match i, hi with
    | 0, _ =>
      refine ⟨_, _, _, rfl, by omega, ⟨_, _, rfl, fun j hj => ?_⟩, c0, c1, c2, c3, c4, c5, c6⟩
      match j, hj with
      | 0, _ => exact ⟨_, _, rfl, by omega, b0⟩
  have HAP := hide (apply_any W _ _ begLs [begR] hA (by decide) (fun x hx => by simp [begLs] at hx; subst hx; decide) hR (by decide) (fun r hr => by simp at hr; subst hr; exact ⟨⟨by decide, fun s hs => by simp [begR] at hs; subst hs; decide, by decide, by decide, by decide, by decide⟩, by decide⟩) (fun r hr => by simp at hr; subst hr; decide))
  rw [beg_apply] at HAP
  have HGW := hide gW
  clear h1 h2 h3 a0 a1 b0 c0 c1 c2 c3 c4 c5 c6 hA hR gW
  go_enter Tryz.func10, Tryz.ntmps10
  go_wp2_with fail
  refine HAP.out.mono ?_
  rintro e w1 ⟨hg1, mo, n, mc, rfl, hown⟩
  have hrd := reads_ownLabels hown
  obtain ⟨ao, cp, e1, hcells⟩ := hrd
  obtain ⟨b, o, rfl, _, d0, d1⟩ := hcells 1 (by decide)
  simp only [Value.slice.injEq] at e1
  obtain ⟨rfl, rfl, rfl⟩ := e1
  have d2 : w1.cell? ⟨b, o + 1 * 2 + 1, none⟩ = some (.string { data := #[121, 49] }) := d1
  have HG1 := hide hg1
  clear hcells d0 d1 hown hg1 eW
  go_wp2
  go_ret
  exact ⟨rfl, HGW.out.trans HG1.out⟩
end Go.Proofs.YtndpjdmfkhjiiaaGreatDoor.Rl

/- RelabelNone: what no rules do, and rules that take whatever there is; the law's walk. -/
set_option linter.unusedVariables false
set_option linter.unusedSimpArgs false
namespace Go.Proofs.YtndpjdmfkhjiiaaGreatDoor.Rl
open Go.RowKit Lb
attribute [local go_sem] bs_size bs_toList bs_append bs_get bs_extract

/-- A rule that takes whatever there is. -/
def anyR (k : Int) (src : List (List UInt8)) (bt : List UInt8) : Rul := { kind := k, sources := src, between := bt, mask := [46, 42], modulus := 0, target := [], repl := [] }
theorem any_like (src : List UInt8) (k : Int) (s : List (List UInt8)) (bt : List UInt8) : likeR (trOf (anyR k s bt)).1 src = true := by
  have h : trOf (anyR k s bt) = (starT (fun _ => true) 42, 0) := by unfold trOf anyR; simp only [any_is]
  rw [h]
  exact star_like (fun i hi => hits_true hi)
theorem any_err (s : List (List UInt8)) (bt : List UInt8) : ruleErr (anyR 2 s bt) = ruleErr (anyR 3 s bt) := by
  unfold ruleErr kindErr
  have h : partsErr (anyR 2 s bt) = partsErr (anyR 3 s bt) := rfl
  rw [h]
  simp [anyR]
theorem none_apply (ls : List Lab) : applyB ls [] = if checkB ls ≠ 0 then ([], false, checkB ls) else (ls, true, 0) := by
  unfold applyB allErr
  simp only [List.length_nil, rulesErr]
  by_cases h : checkB ls = 0
  · simp [h, ruleGo]
  · simp [h]
/-- What the two rules make of labels that are right: the same error; the one keeps them, the other one drops them. -/
theorem any_apply (ls : List Lab) (s : List (List UInt8)) (bt : List UInt8) : (applyB ls [anyR 2 s bt]).2.2 = (applyB ls [anyR 3 s bt]).2.2 ∧ ((applyB ls [anyR 2 s bt]).2.2 = 0 → applyB ls [anyR 2 s bt] = (ls, true, 0) ∧ applyB ls [anyR 3 s bt] = ([], false, 0)) := by
  have he : allErr ls [anyR 3 s bt] = allErr ls [anyR 2 s bt] := by
    unfold allErr rulesErr
    rw [any_err]
    simp [rulesErr]
  have hs : sourceB (anyR 3 s bt) ls = sourceB (anyR 2 s bt) ls := rfl
  have d2 : ∀ x, deedR (anyR 2 s bt) ls x = (ls, true, 0) := fun x => by
    have := any_like x 2 s bt
    unfold deedR deedB
    rw [if_neg (show ¬ (anyR 2 s bt).kind = 1 from (by decide : ¬ (2 : Int) = 1)), if_pos (show (anyR 2 s bt).kind = 2 from rfl), this]
  have d3 : ∀ x, deedR (anyR 3 s bt) ls x = (ls, false, 0) := fun x => by
    have := any_like x 3 s bt
    unfold deedR deedB
    rw [if_neg (show ¬ (anyR 3 s bt).kind = 1 from (by decide : ¬ (3 : Int) = 1)), if_neg (show ¬ (anyR 3 s bt).kind = 2 from (by decide : ¬ (3 : Int) = 2)), if_pos (show (anyR 3 s bt).kind = 3 from rfl), this]
    rfl
  unfold applyB
  rw [he]
  by_cases h : allErr ls [anyR 2 s bt] = 0
  · rw [if_neg (by omega), if_neg (by omega)]
    unfold ruleGo
    rw [hs, d2, d3]
    by_cases hl : 2000 < (sourceB (anyR 2 s bt) ls).length
    · rw [if_pos hl, if_pos hl]
      exact ⟨rfl, fun h => by cases h⟩
    · rw [if_neg hl, if_neg hl]
      simp [ruleGo]
  · rw [if_pos h, if_pos h]
    exact ⟨rfl, fun h2 => absurd h2 h⟩
theorem okR_any {s : List (List UInt8)} {bt : List UInt8} (k : Int) (h1 : s.length ≤ 9223372036854775807) (h2 : ∀ y ∈ s, y.length ≤ 9223372036854775807) (h3 : bt.length ≤ 9223372036854775807) : okR (anyR k s bt) :=
  ⟨h1, h2, h3, by simp [anyR], by simp [anyR], by simp [anyR]⟩

theorem one_rule (w : World) (b : Nat) (r : Rul) (v : Value) (h : w.heap[b]? = some (.cells (ruleC r v).toArray 24 (0, 0))) (hs : readsStrs w w.heap.size v r.sources) : readsRules w w.heap.size (.slice (some ⟨b, 0, none⟩) 1 1) [r] := by
  refine ⟨_, _, rfl, fun i hi => ?_⟩
  obtain rfl : i = 0 := by simp at hi; omega
  obtain ⟨c0, c1, c2, c3, c4, c5, c6⟩ := seven_cells h
  exact ⟨b, 0, v, rfl, lt_of_block h, hs, by simpa using c0, by simpa using c1, by simpa using c2, by simpa using c3, by simpa using c4, by simpa using c5, by simpa using c6⟩

set_option maxRecDepth 20000 in
set_option maxHeartbeats 4000000 in
theorem relabelNone_any (w : World) (va : Value) (ls : List Lab) (ha : readsLabels w w.heap.size va ls) (hlen : ls.length ≤ 9223372036854775807) (hin : ∀ y ∈ ls, y.1.length ≤ 9223372036854775807 ∧ y.2.length ≤ 9223372036854775807)
    (vs : Value) (src : List (List UInt8)) (hs : readsStrs w w.heap.size vs src) (hsl : src.length ≤ 9223372036854775807) (hsi : ∀ y ∈ src, y.length ≤ 9223372036854775807) (bt : List UInt8) (hbt : bt.length ≤ maxLen) :
    Calls Tryz.prog 6 #[va, vs, .string (bs bt)] w fun e w' => e = .returned (.bool true) ∧ Grow w w' := by
  unfold maxLen at hbt
  obtain ⟨so, sc, hvs, _⟩ := id hs
  subst hvs
  have HA := hide ha
  have HS := hide hs
  have HIN := hide hin
  have HSI := hide hsi
  obtain ⟨lo, lc, rfl⟩ := readsLabels_len ha
  clear ha hs hin hsi
  go_enter Tryz.func6, Tryz.ntmps6
  go_wp2_with fail
  refine (relabelBegun_any w).mono ?_
  rintro e w1 ⟨rfl, hg1⟩
  have HG1 := hide hg1
  have HA1 := hide (readsLabels_mono (readsLabels_below HA.out hg1) hg1.size)
  clear hg1
  go_wp2_with fail
  refine (apply_any w1 _ (.slice none 0 0) ls [] HA1.out hlen HIN.out ⟨none, 0, rfl, fun i h => by simp at h⟩ (by simp) (fun r hr => by simp at hr) (fun r hr => by simp at hr)).mono ?_
  rintro e w2 ⟨hg2, mo, n, mc, rfl, hown⟩
  rw [none_apply] at hown ⊢
  by_cases hck : checkB ls = 0
  · rw [if_neg (by omega)] at hown ⊢
    have h20 := (right_small hck).1
    have HG2 := hide (HG1.out.trans hg2)
    have HA2 := hide (readsLabels_mono (readsLabels_below HA1.out hg2) hg2.size)
    have HO2 := hide hown
    clear hg2 hown
    obtain ⟨W, eW, gW, sW, k1, k2, k3⟩ := laid3 w2 #[.int .i64 2, .slice so src.length sc, .string (bs bt), .string { data := #[46, 42] }, .int .i64 0, .string { data := #[] }, .string { data := #[] }] #[.int .i64 3, .slice so src.length sc, .string (bs bt), .string { data := #[46, 42] }, .int .i64 0, .string { data := #[] }, .string { data := #[] }] #[.int .i64 2, .slice so src.length sc, .string (bs bt), .string { data := #[46, 42] }, .int .i64 0, .string { data := #[] }, .string { data := #[] }] 24 24 24
    have HGW := hide (HG2.out.trans gW)
    have HS2 := hide ((HS.out.keep HGW.out).more HGW.out.size)
    have HA3 := hide (readsLabels_mono (readsLabels_below HA2.out gW) gW.size)
    have HO3 := hide (own_grow HO2.out gW)
    have HK2 := hide k2
    have HY := hide (apply_any W _ (.slice (some ⟨w2.heap.size + 1 + 1, 0, none⟩) 1 1) ls [anyR 2 src bt] HA3.out hlen HIN.out (one_rule W _ (anyR 2 src bt) _ k3 HS2.out) (by simp) (fun r hr => by simp at hr; subst hr; exact ⟨okR_any 2 hsl HSI.out hbt, (by decide : (Lit.int .i64 2).wf = true)⟩) (fun r hr => by simp at hr; subst hr; exact (by decide : (2 : Int) ≠ 4)))
    have hz : ∀ V, Grow W V → ∀ b, V.heap[b]? = some (.cells #[.int .i64 3, .slice so src.length sc, .string (bs bt), .string { data := #[46, 42] }, .int .i64 0, .string { data := #[] }, .string { data := #[] }] 24 (0, 0)) → Calls Tryz.prog 13 #[.slice lo ls.length lc, .slice (some ⟨b, 0, none⟩) 1 1] V fun e w' => Grow V w' ∧ ApplyPost V.heap.size (applyB ls [anyR 3 src bt]) e w' := fun V hg b hb =>
      apply_any V _ _ ls [anyR 3 src bt] (readsLabels_mono (readsLabels_below HA3.out hg) hg.size) hlen HIN.out (one_rule V _ (anyR 3 src bt) _ hb ((HS2.out.keep hg).more hg.size)) (by simp) (fun r hr => by simp at hr; subst hr; exact ⟨okR_any 3 hsl HSI.out hbt, (by decide : (Lit.int .i64 3).wf = true)⟩) (fun r hr => by simp at hr; subst hr; exact (by decide : (3 : Int) ≠ 4))
    have HZ := hide hz
    obtain ⟨hq1, hq2⟩ := any_apply ls src bt
    generalize applyB ls [anyR 2 src bt] = Y at HY hq1 hq2
    generalize applyB ls [anyR 3 src bt] = Z at HZ hq1 hq2
    have HQ1 := hide hq1
    have HQ2 := hide hq2
    clear hz hq1 hq2 k1 k2 k3 gW
    go_wp2_with fail
    refine HY.out.mono ?_
    rintro e w3 ⟨hg3, yo, yn, yc, rfl, hownY⟩
    have hk3 := hg3.get HK2.out
    obtain ⟨c0, c1, c2, c3, c4, c5, c6⟩ := seven_cells hk3
    obtain ⟨V, eV, gV, sV, hV⟩ := laid_rule w3 (.int .i64 3) (.slice so src.length sc) (.string (bs bt)) (.string { data := #[46, 42] }) (.int .i64 0) (.string { data := #[] }) (.string { data := #[] }) 24
    have HGV := hide (HGW.out.trans (hg3.trans gV))
    have HZ2 := hide (HZ.out V (hg3.trans gV) w3.heap.size hV)
    have HOY := hide (own_grow hownY gV)
    have HO4 := hide (own_grow HO3.out (hg3.trans gV))
    have HA4 := hide (readsLabels_mono (readsLabels_below HA3.out (hg3.trans gV)) (hg3.trans gV).size)
    clear hk3 hg3 gV hownY hV eW sV sW
    go_wp2_with fail
    refine HZ2.out.mono ?_
    rintro e w4 ⟨hg4, zo, zn, zc, rfl, hownZ⟩
    have HG4 := hide (HGV.out.trans hg4)
    have HO5 := hide (reads_ownLabels (own_grow HO4.out hg4))
    have HOY5 := hide (own_grow HOY.out hg4)
    have HOZ5 := hide hownZ
    have HA5 := hide (readsLabels_mono (readsLabels_below HA4.out hg4) hg4.size)
    clear hg4 hownZ eV c0 c1 c2 c3 c4 c5 c6
    go_wp2_with fail
    refine (sameLabels_any w4 _ _ ls ls HO5.out HA5.out (by omega) (by omega)).mono ?_
    rintro e w5 ⟨rfl, n5, rfl⟩
    rw [decide_eq_true (rfl : ls = ls)]
    have HG5 : Hid (Grow w (w4.drewN n5)) := hide (Go.below_drewN HG4.out n5)
    have HOY6 : Hid (ownLabels (w4.drewN n5) W.heap.size (.slice yo yn yc) Y.1) := HOY5
    have HOZ6 : Hid (ownLabels (w4.drewN n5) V.heap.size (.slice zo zn zc) Z.1) := HOZ5
    have HA6 : Hid (readsLabels (w4.drewN n5) (w4.drewN n5).heap.size (.slice lo ls.length lc) ls) := HA5
    generalize w4.drewN n5 = w5 at HG5 HOY6 HOZ6 HA6 ⊢
    obtain ⟨Y1, Y2, Y3⟩ := Y
    obtain ⟨Z1, Z2, Z3⟩ := Z
    have hq1 := HQ1.out
    simp only at hq1
    subst hq1
    by_cases h0 : Y3 = 0
    · obtain ⟨e1, e2⟩ := HQ2.out h0
      simp only [Prod.mk.injEq] at e1 e2
      obtain ⟨rfl, rfl, rfl⟩ := e1
      obtain ⟨rfl, rfl, _⟩ := e2
      obtain ⟨_, _, hz1⟩ := own_shape HOZ6.out
      simp only [Value.slice.injEq] at hz1
      obtain ⟨_, rfl, _⟩ := hz1
      have HR := hide (reads_ownLabels HOY6.out)
      clear h0
      go_wp2_with fail
      refine (sameLabels_any w5 _ _ Y1 Y1 HR.out HA6.out (by omega) (by omega)).mono ?_
      rintro e w6 ⟨rfl, n6, rfl⟩
      rw [decide_eq_true (rfl : Y1 = Y1)]
      have hg6 : Grow w (w5.drewN n6) := Go.below_drewN HG5.out n6
      go_wp2_with fail
      go_ret
      exact ⟨rfl, hg6⟩
    · have hne : ((Y3 : Int) != 0) = true := by simp; omega
      clear h0
      go_wp2_with fail
      go_ret
      exact ⟨rfl, HG5.out⟩
  · rw [if_pos hck] at hown ⊢
    have HG2 := hide (HG1.out.trans hg2)
    have hne : ((checkB ls : Int) != 0) = true := by simp; omega
    clear hg2 hown hck
    go_wp2_with fail
    go_ret
    exact ⟨rfl, HG2.out⟩

end Go.Proofs.YtndpjdmfkhjiiaaGreatDoor.Rl
