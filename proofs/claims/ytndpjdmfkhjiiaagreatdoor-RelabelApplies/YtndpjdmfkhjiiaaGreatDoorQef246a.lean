/- 2 texts in one. -/
import Derived.Test.YtndpjdmfkhjiiaaGreatDoorProg
import Derived.Test.YtndpjdmfkhjiiaaGreatDoorQ74d152
import Derived.Test.YtndpjdmfkhjiiaaGreatDoorMBegV
import Derived.Test.YtndpjdmfkhjiiaaGreatDoorQaab1cc
import Derived.BigFrame
import Derived.Laws.OwnMore
import Derived.Test.YtndpjdmfkhjiiaaGreatDoorOpnV
/- relabel: what the law's example makes. -/
set_option linter.unusedVariables false
set_option linter.unusedSimpArgs false
namespace Go.Proofs.YtndpjdmfkhjiiaaGreatDoor.Rl
open Go.RowKit Lb
attribute [local go_sem] bs_size bs_toList bs_append bs_get bs_extract

/-- The example's labels, and its rule. -/
def begLs : List Lab := [([97], [120, 49])]
def begR : Rul := { kind := 1, sources := [[97]], between := [], mask := [120, 40, 46, 41], modulus := 0, target := [98], repl := [121, 36, 49] }
theorem beg_check : checkB begLs = 0 := by decide +kernel
theorem beg_source : sourceB begR begLs = [120, 49] := by decide +kernel
theorem beg_tm : tmAt begR.repl 0 = some [([121], -1), ([], 1)] := by rfl
theorem beg_err : faultOf begR.mask = (0, 0) := by rfl
theorem beg_all : allErr begLs [begR] = 0 := by decide +kernel
def begT : Tr := .row (.set (between 120 120) 0 (.grp 0 (.row (.set (fun _ => true) 0 .nil) .nil) 0 .nil)) .nil
theorem beg_is : maskIs begR.mask = .ok (begT, 1) := by rfl
theorem beg_way : wayOf begT [120, 49] = some [(0, 1), (1, 2)] := wayOf_eq (f := 60) (by decide)
theorem beg_tr : trOf begR = (begT, 1) := by unfold trOf; rw [beg_is]
theorem beg_tmOf : tmOf begR = [([121], -1), ([], 1)] := by unfold tmOf; rw [beg_tm]; rfl
theorem beg_deed : deedR begR begLs [120, 49] = ([([97], [120, 49]), ([98], [121, 49])], true, 0) := by
  unfold deedR deedB
  rw [if_pos (show begR.kind = 1 from rfl), beg_tr, beg_tmOf]
  simp only [beg_way]
  decide +kernel
theorem beg_apply : applyB begLs [begR] = ([([97], [120, 49]), ([98], [121, 49])], true, 0) := by
  unfold applyB
  rw [if_neg (by rw [beg_all]; simp)]
  unfold ruleGo
  rw [beg_source, if_neg (by decide), beg_deed, if_neg (by simp)]
  rfl
theorem laid3 (w : World) (b1 b2 b3 : Array Value) (t1 t2 t3 : TypeId) : ∃ W : World, ((w.alloc (.cells b1 t1)).alloc (.cells b2 t2)).alloc (.cells b3 t3) = W ∧ Grow w W ∧ W.heap.size = w.heap.size + 3 ∧ W.heap[w.heap.size]? = some (.cells b1 t1 (0, 0)) ∧ W.heap[w.heap.size + 1]? = some (.cells b2 t2 (0, 0)) ∧ W.heap[w.heap.size + 2]? = some (.cells b3 t3 (0, 0)) := by
  have g1 := (Grow.refl w).alloc (.cells b1 t1)
  have h1 := heap_alloc_new w (.cells b1 t1)
  have s1 : (w.alloc (.cells b1 t1)).heap.size = w.heap.size + 1 := by simp
  generalize w.alloc (.cells b1 t1) = A at g1 h1 s1 ⊢
  have g2 := (Grow.refl A).alloc (.cells b2 t2)
  have h2 := heap_alloc_new A (.cells b2 t2)
  have s2 : (A.alloc (.cells b2 t2)).heap.size = A.heap.size + 1 := by simp
  generalize A.alloc (.cells b2 t2) = B at g2 h2 s2 ⊢
  have g3 := (Grow.refl B).alloc (.cells b3 t3)
  have h3 := heap_alloc_new B (.cells b3 t3)
  have s3 : (B.alloc (.cells b3 t3)).heap.size = B.heap.size + 1 := by simp
  refine ⟨_, rfl, (g1.trans g2).trans g3, by omega, (g2.trans g3).get h1, ?_, ?_⟩
  · rw [← s1]; exact g3.get h2
  · rw [show w.heap.size + 2 = B.heap.size by omega]; exact h3

set_option maxRecDepth 20000 in
set_option maxHeartbeats 4000000 in
theorem relabelBegun_any (w : World) (htab : tabOk w) : Calls Tryz.prog 10 #[] w fun e w' => e = .returned (.bool true) ∧ Grow w w' := by
  obtain ⟨W, eW, gW, sW, h1, h2, h3⟩ := laid3 w #[.string { data := #[97] }, .string { data := #[120, 49] }] #[.string { data := #[97] }] #[.int .i64 1, .slice (some ⟨w.heap.size + 1, 0, none⟩) 1 1, .string { data := #[] }, .string { data := #[120, 40, 46, 41] }, .int .i64 0, .string { data := #[98] }, .string { data := #[121, 36, 49] }] 39 9 24
  obtain ⟨a0, a1⟩ := two_cells h1
  have b0 : W.cell? ⟨w.heap.size + 1, 0, none⟩ = some (.string { data := #[97] }) := by simp [World.cell?, h2]
  obtain ⟨c0, c1, c2, c3, c4, c5, c6⟩ := seven_cells h3
  have hA : readsLabels W W.heap.size (.slice (some ⟨w.heap.size, 0, none⟩) 1 1) begLs := by
    refine ⟨_, _, rfl, fun i hi => ?_⟩
    match i, hi with
    | 0, _ => exact ⟨_, _, rfl, by omega, a0, a1⟩
  have hR : readsRules W W.heap.size (.slice (some ⟨w.heap.size + 2, 0, none⟩) 1 1) [begR] := by
    refine ⟨_, _, rfl, fun i hi => ?_⟩
    match i, hi with
    | 0, _ =>
      refine ⟨_, _, _, rfl, by omega, ⟨_, _, rfl, fun j hj => ?_⟩, c0, c1, c2, c3, c4, c5, c6⟩
      match j, hj with
      | 0, _ => exact ⟨_, _, rfl, by omega, b0⟩
  have HAP := hide (apply_any W _ _ begLs [begR] hA (by decide) (fun x hx => by simp [begLs] at hx; subst hx; decide) hR (by decide) (fun r hr => by simp at hr; subst hr; exact ⟨⟨by decide, fun s hs => by simp [begR] at hs; subst hs; decide, by decide, by decide, by decide, by decide⟩, by decide⟩) (tab_grow htab gW))
  rw [beg_apply] at HAP
  have HGW := hide gW
  clear h1 h2 h3 a0 a1 b0 c0 c1 c2 c3 c4 c5 c6 hA hR gW
  go_enter Tryz.func10, Tryz.ntmps10
  go_wp2_with fail
  refine HAP.out.mono ?_
  rintro e w1 ⟨hg1, mo, n, mc, rfl, hown⟩
  have hrd := reads_ownLabels hown
  obtain ⟨ao, cp, e1, hcells⟩ := hrd
  obtain ⟨b, o, rfl, _, d0, d1⟩ := hcells 1 (by decide)
  simp only [Value.slice.injEq] at e1
  obtain ⟨rfl, rfl, rfl⟩ := e1
  have d2 : w1.cell? ⟨b, o + 1 * 2 + 1, none⟩ = some (.string { data := #[121, 49] }) := d1
  have HG1 := hide hg1
  clear hcells d0 d1 hown hg1 eW
  go_wp2
  go_ret
  exact ⟨rfl, HGW.out.trans HG1.out⟩
end Go.Proofs.YtndpjdmfkhjiiaaGreatDoor.Rl

/- relabel: rules one behind the other; rows of rules put together. -/
set_option linter.unusedVariables false
set_option linter.unusedSimpArgs false
namespace Go.Proofs.YtndpjdmfkhjiiaaGreatDoor.Rl
open Go.RowKit Lb
attribute [local go_sem] bs_size bs_toList bs_append bs_get bs_extract

theorem ruleGo_shape : ∀ (rs : List Rul) (made : List Lab), (∃ n, ruleGo rs made = ([], false, n)) ∨ ∃ l, ruleGo rs made = (l, true, 0)
  | [], made => .inr ⟨made, rfl⟩
  | r :: rs, made => by
    unfold ruleGo
    split
    · exact .inl ⟨_, rfl⟩
    · split
      · exact .inl ⟨_, rfl⟩
      · exact ruleGo_shape rs _
theorem ruleGo_append : ∀ (a b : List Rul) (made : List Lab), ruleGo (a ++ b) made = if (ruleGo a made).2.1 = true then ruleGo b (ruleGo a made).1 else ruleGo a made
  | [], b, made => by simp [ruleGo]
  | r :: a, b, made => by
    rw [List.cons_append]
    by_cases h1 : 2000 < (sourceB r made).length
    · have k : ∀ x, ruleGo (r :: x) made = ([], false, 2) := fun x => by simp only [ruleGo]; rw [if_pos h1]
      rw [k, k]
      simp
    · by_cases h2 : (deedR r made (sourceB r made)).2.2 ≠ 0 ∨ (deedR r made (sourceB r made)).2.1 = false
      · have k : ∀ x, ruleGo (r :: x) made = ([], false, (deedR r made (sourceB r made)).2.2) := fun x => by simp only [ruleGo]; rw [if_neg h1, if_pos h2]
        rw [k, k]
        simp
      · have k : ∀ x, ruleGo (r :: x) made = ruleGo x (deedR r made (sourceB r made)).1 := fun x => by simp only [ruleGo]; rw [if_neg h1, if_neg h2]
        rw [k, k]
        exact ruleGo_append a b _
theorem ruleGo_right : ∀ (rs : List Rul) (made : List Lab), checkB made = 0 → (ruleGo rs made).2.1 = true → checkB (ruleGo rs made).1 = 0
  | [], made, h, _ => h
  | r :: rs, made, h, h1 => by
    unfold ruleGo at h1 ⊢
    by_cases k1 : 2000 < (sourceB r made).length
    · rw [if_pos k1] at h1; cases h1
    · rw [if_neg k1] at h1 ⊢
      by_cases k2 : (deedR r made (sourceB r made)).2.2 ≠ 0 ∨ (deedR r made (sourceB r made)).2.1 = false
      · rw [if_pos k2] at h1; cases h1
      · rw [if_neg k2] at h1 ⊢
        exact ruleGo_right rs _ (deedR_right h (by omega)) h1
theorem rulesErr_append {a b : List Rul} (h : rulesErr a = 0) : rulesErr (a ++ b) = rulesErr b := by
  induction a with
  | nil => rfl
  | cons x a ih =>
    have h' : (if ruleErr x ≠ 0 then ruleErr x else rulesErr a) = 0 := h
    by_cases hx : ruleErr x = 0
    · rw [if_neg (by omega)] at h'
      show (if ruleErr x ≠ 0 then ruleErr x else rulesErr (a ++ b)) = _
      rw [if_neg (by omega)]
      exact ih h'
    · rw [if_pos hx] at h'
      exact absurd h' hx
/-- What comes of Apply: nothing and an error, nothing without one, or labels that are right. -/
theorem apply_shape (ls : List Lab) (rs : List Rul) : (∃ n, n ≠ 0 ∧ applyB ls rs = ([], false, n)) ∨ (allErr ls rs = 0 ∧ applyB ls rs = ruleGo rs ls ∧ (applyB ls rs = ([], false, 0) ∨ ∃ l, applyB ls rs = (l, true, 0) ∧ checkB l = 0)) := by
  unfold applyB
  by_cases h : allErr ls rs = 0
  · rw [if_neg (by omega)]
    rcases ruleGo_shape rs ls with ⟨n, e⟩ | ⟨l, e⟩
    · by_cases hn : n = 0
      · subst hn; exact .inr ⟨h, rfl, .inl e⟩
      · exact .inl ⟨n, hn, e⟩
    · have hr := ruleGo_right rs ls (allErr_zero h).2.1 (by rw [e])
      rw [e] at hr
      exact .inr ⟨h, rfl, .inr ⟨l, e, hr⟩⟩
  · rw [if_pos h]
    exact .inl ⟨_, h, rfl⟩
theorem allErr_of {ls : List Lab} {rs : List Rul} (hc : checkB ls = 0) : allErr ls rs = if 30 < rs.length then 2 else rulesErr rs := by
  unfold allErr
  by_cases h : 30 < rs.length
  · rw [if_pos h, if_pos h]
  · rw [if_neg h, if_neg h, if_neg (by omega)]
theorem allErr_rules {ls : List Lab} {rs : List Rul} (h : allErr ls rs = 0) : rulesErr rs = 0 := by
  have hc := (allErr_zero h).2.1
  have hl := (allErr_zero h).1
  rw [allErr_of hc, if_neg (by omega)] at h
  exact h
/-- Both rows at once, where nothing came of the first. -/
theorem joins_none {ls : List Lab} {a b : List Rul} (h0 : allErr ls a = 0) (h : ruleGo a ls = ([], false, 0)) : ∃ g, applyB ls (a ++ b) = ([], false, g) := by
  unfold applyB
  by_cases hh : allErr ls (a ++ b) = 0
  · rw [if_neg (by omega), ruleGo_append, h]
    exact ⟨0, by simp⟩
  · rw [if_pos hh]
    exact ⟨_, rfl⟩
theorem joins_many {ls : List Lab} {a b : List Rul} (h : 30 < a.length + b.length) : applyB ls (a ++ b) = ([], false, 2) := by
  have e : allErr ls (a ++ b) = 2 := by
    unfold allErr
    rw [if_pos (by rw [List.length_append]; exact h)]
  unfold applyB
  rw [e]
  rfl
theorem joins_some {ls l : List Lab} {a b : List Rul} (h0 : allErr ls a = 0) (h : ruleGo a ls = (l, true, 0)) (hl : checkB l = 0) (hn : a.length + b.length ≤ 30) : applyB ls (a ++ b) = applyB l b := by
  have hc := (allErr_zero h0).2.1
  have e1 : allErr ls (a ++ b) = rulesErr b := by rw [allErr_of hc, if_neg (by rw [List.length_append]; omega), rulesErr_append (allErr_rules h0)]
  have e2 : allErr l b = rulesErr b := by rw [allErr_of hl, if_neg (by omega)]
  unfold applyB
  rw [e1, e2, ruleGo_append, h]
  simp

/-! ### rows of rules -/
def rulesC : List (Rul × Value) → List Value
  | [] => []
  | x :: l => ruleC x.1 x.2 ++ rulesC l
theorem ruleC_len (r : Rul) (u : Value) : (ruleC r u).length = 7 := rfl
theorem rulesC_len : ∀ l : List (Rul × Value), (rulesC l).length = l.length * 7
  | [] => rfl
  | x :: l => by simp only [rulesC, List.length_append, ruleC_len, rulesC_len l, List.length_cons]; omega
theorem rulesC_append : ∀ a b : List (Rul × Value), rulesC (a ++ b) = rulesC a ++ rulesC b
  | [], b => rfl
  | x :: a, b => by simp [rulesC, rulesC_append a b]
theorem rulesC_at : ∀ (l : List (Rul × Value)) (i : Nat) (h : i < l.length) (k : Nat), k < 7 → (rulesC l)[i * 7 + k]? = (ruleC l[i].1 l[i].2)[k]?
  | [], i, h, _, _ => by simp at h
  | x :: l, 0, h, k, hk => by
    rw [rulesC, Nat.zero_mul, Nat.zero_add, List.getElem?_append_left (by rw [ruleC_len]; exact hk)]
    rfl
  | x :: l, i + 1, h, k, hk => by
    rw [rulesC, List.getElem?_append_right (by rw [ruleC_len]; omega), ruleC_len, show (i + 1) * 7 + k - 7 = i * 7 + k by omega, rulesC_at l i (by simp at h; omega) k hk]
    rfl
/-- The rules of a row as pairs of a rule and its sources' value. -/
theorem rules_pairs {w : World} {B : Nat} {v : Value} {rs : List Rul} (h : readsRules w B v rs) : ∃ ps : List (Rul × Value), ps.map Prod.fst = rs ∧ (∀ p ∈ ps, readsStrs w B p.2 p.1.sources) ∧
    ((rs = [] ∧ ∃ ao cp, v = .slice ao 0 cp) ∨ ∃ b o cp, v = .slice (some ⟨b, o, none⟩) rs.length cp ∧ b < B ∧ ∀ j u, (rulesC ps)[j]? = some u → w.cell? ((⟨b, o, none⟩ : Addr).add j) = some u) := by
  obtain ⟨ao, cp, rfl, hc⟩ := h
  obtain ⟨us, hul, hus⟩ := olist_of (n := rs.length) (p := fun i (u : Value) => ∀ h : i < rs.length, ∃ b o, ao = some ⟨b, o, none⟩ ∧ b < B ∧ readsStrs w B u rs[i].sources ∧ ∀ k x, (ruleC rs[i] u)[k]? = some x → w.cell? ⟨b, o + (i * 7 + k), none⟩ = some x) (fun i hi => by
    obtain ⟨b, o, vs, e, hb, hs, c0, c1, c2, c3, c4, c5, c6⟩ := hc i hi
    refine ⟨vs, fun _ => ⟨b, o, e, hb, hs, fun k x hx => ?_⟩⟩
    match k, hx with
    | 0, hx => obtain rfl := Option.some.inj hx; exact c0
    | 1, hx => obtain rfl := Option.some.inj hx; exact c1
    | 2, hx => obtain rfl := Option.some.inj hx; exact c2
    | 3, hx => obtain rfl := Option.some.inj hx; exact c3
    | 4, hx => obtain rfl := Option.some.inj hx; exact c4
    | 5, hx => obtain rfl := Option.some.inj hx; exact c5
    | 6, hx => obtain rfl := Option.some.inj hx; exact c6
    | k + 7, hx => rw [List.getElem?_eq_none (by rw [ruleC_len]; omega)] at hx; cases hx)
  refine ⟨rs.zip us, by rw [List.map_fst_zip]; omega, ?_, ?_⟩
  · intro p hp
    obtain ⟨i, hi, rfl⟩ := List.getElem_of_mem hp
    have hi' : i < rs.length := by rw [List.length_zip] at hi; omega
    obtain ⟨b, o, _, _, hs, _⟩ := hus i (by omega) hi'
    rw [List.getElem_zip]
    exact hs
  · by_cases h0 : rs = []
    · subst h0
      exact .inl ⟨rfl, _, _, rfl⟩
    · have hp : 0 < rs.length := List.length_pos_iff.2 h0
      obtain ⟨b, o, e, hb, _, _⟩ := hus 0 (by omega) hp
      refine .inr ⟨b, o, cp, by rw [e], hb, fun j u hj => ?_⟩
      have hjl : j < (rulesC (rs.zip us)).length := (List.getElem?_eq_some_iff.1 hj).1
      rw [rulesC_len, List.length_zip] at hjl
      have hi : j / 7 < rs.length := by omega
      have hat := rulesC_at (rs.zip us) (j / 7) (by rw [List.length_zip]; omega) (j % 7) (by omega)
      rw [show j / 7 * 7 + j % 7 = j by omega, hj, List.getElem_zip] at hat
      obtain ⟨b2, o2, e2, _, _, hcell⟩ := hus (j / 7) (by omega) hi
      rw [e] at e2
      simp only [Option.some.injEq, Addr.mk.injEq] at e2
      obtain ⟨rfl, rfl, _⟩ := e2
      have h2 := hcell (j % 7) u hat.symm
      rw [show j / 7 * 7 + j % 7 = j by omega] at h2
      rw [Addr.add_lit]
      exact h2
theorem rulesC_one {w : World} {B : Nat} : ∀ {ps : List (Rul × Value)}, (∀ p ∈ ps, readsStrs w B p.2 p.1.sources) → ∀ u ∈ rulesC ps, u.oneCell' = true
  | [], _, u, hu => by simp [rulesC] at hu
  | x :: l, h, u, hu => by
    rw [rulesC] at hu
    rcases List.mem_append.1 hu with hu | hu
    · obtain ⟨ao, cp, e, _⟩ := h x (by simp)
      unfold ruleC at hu
      rw [e] at hu
      simp at hu
      rcases hu with rfl | rfl | rfl | rfl | rfl | rfl | rfl <;> rfl
    · exact rulesC_one (fun p hp => h p (by simp [hp])) u hu
theorem Tryz.infoRule : (Tryz.prog.info? 24).map (fun i => (i.zero, i.size, i.bytes)) = some (some (.agg #[.int .i64 0, .slice none 0 0, .string ByteArray.empty, .string ByteArray.empty, .int .i64 0, .string ByteArray.empty, .string ByteArray.empty]), 7, 104) := by kernel_rfl
end Go.Proofs.YtndpjdmfkhjiiaaGreatDoor.Rl
