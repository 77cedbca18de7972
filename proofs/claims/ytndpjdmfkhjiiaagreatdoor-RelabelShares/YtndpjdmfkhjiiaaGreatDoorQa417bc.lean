/- 3 texts in one. -/
import Derived.Test.YtndpjdmfkhjiiaaGreatDoorProg
import Derived.Test.YtndpjdmfkhjiiaaGreatDoorQ74d152
import Derived.Test.YtndpjdmfkhjiiaaGreatDoorMBegV
import Derived.Test.YtndpjdmfkhjiiaaGreatDoorQaab1cc
import Derived.BigFrame
import Derived.Laws.OwnMore
import Derived.Test.YtndpjdmfkhjiiaaGreatDoorOpnV
import Derived.Test.YtndpjdmfkhjiiaaGreatDoorLBegV
import Derived.Test.YtndpjdmfkhjiiaaGreatDoorQe64d52
import Derived.BigQuiet
/- relabel: what the law's example makes. -/
set_option linter.unusedVariables false
set_option linter.unusedSimpArgs false
namespace Go.Proofs.YtndpjdmfkhjiiaaGreatDoor.Rl
open Go.RowKit Lb
attribute [local go_sem] bs_size bs_toList bs_append bs_get bs_extract

/-- The example's labels, and its rule. -/
def begLs : List Lab := [([97], [120, 49])]
def begR : Rul := { kind := 1, sources := [[97]], between := [], mask := [120, 40, 46, 41], modulus := 0, target := [98], repl := [121, 36, 49] }
theorem beg_check : checkB begLs = 0 := by decide +kernel
theorem beg_source : sourceB begR begLs = [120, 49] := by decide +kernel
theorem beg_tm : tmAt begR.repl 0 = some [([121], -1), ([], 1)] := by rfl
theorem beg_err : faultOf begR.mask = (0, 0) := by rfl
theorem beg_all : allErr begLs [begR] = 0 := by decide +kernel
def begT : Tr := .row (.set (between 120 120) 0 (.grp 0 (.row (.set (fun _ => true) 0 .nil) .nil) 0 .nil)) .nil
theorem beg_is : maskIs begR.mask = .ok (begT, 1) := by rfl
theorem beg_way : wayOf begT [120, 49] = some [(0, 1), (1, 2)] := wayOf_eq (f := 60) (by decide)
theorem beg_tr : trOf begR = (begT, 1) := by unfold trOf; rw [beg_is]
theorem beg_tmOf : tmOf begR = [([121], -1), ([], 1)] := by unfold tmOf; rw [beg_tm]; rfl
theorem beg_deed : deedR begR begLs [120, 49] = ([([97], [120, 49]), ([98], [121, 49])], true, 0) := by
  unfold deedR deedB
  rw [if_pos (show begR.kind = 1 from rfl), beg_tr, beg_tmOf]
  simp only [beg_way]
  decide +kernel
theorem beg_apply : applyB begLs [begR] = ([([97], [120, 49]), ([98], [121, 49])], true, 0) := by
  unfold applyB
  rw [if_neg (by rw [beg_all]; simp)]
  unfold ruleGo
  rw [beg_source, if_neg (by decide), beg_deed, if_neg (by simp)]
  rfl
theorem laid3 (w : World) (b1 b2 b3 : Array Value) (t1 t2 t3 : TypeId) : ∃ W : World, ((w.alloc (.cells b1 t1)).alloc (.cells b2 t2)).alloc (.cells b3 t3) = W ∧ Grow w W ∧ W.heap.size = w.heap.size + 3 ∧ W.heap[w.heap.size]? = some (.cells b1 t1 (0, 0)) ∧ W.heap[w.heap.size + 1]? = some (.cells b2 t2 (0, 0)) ∧ W.heap[w.heap.size + 2]? = some (.cells b3 t3 (0, 0)) := by
  have g1 := (Grow.refl w).alloc (.cells b1 t1)
  have h1 := heap_alloc_new w (.cells b1 t1)
  have s1 : (w.alloc (.cells b1 t1)).heap.size = w.heap.size + 1 := by simp
  generalize w.alloc (.cells b1 t1) = A at g1 h1 s1 ⊢
  have g2 := (Grow.refl A).alloc (.cells b2 t2)
  have h2 := heap_alloc_new A (.cells b2 t2)
  have s2 : (A.alloc (.cells b2 t2)).heap.size = A.heap.size + 1 := by simp
  generalize A.alloc (.cells b2 t2) = B at g2 h2 s2 ⊢
  have g3 := (Grow.refl B).alloc (.cells b3 t3)
  have h3 := heap_alloc_new B (.cells b3 t3)
  have s3 : (B.alloc (.cells b3 t3)).heap.size = B.heap.size + 1 := by simp
  refine ⟨_, rfl, (g1.trans g2).trans g3, by omega, (g2.trans g3).get h1, ?_, ?_⟩
  · rw [← s1]; exact g3.get h2
  · rw [show w.heap.size + 2 = B.heap.size by omega]; exact h3

set_option maxRecDepth 20000 in
set_option maxHeartbeats 4000000 in
theorem relabelBegun_any (w : World) (htab : tabOk w) : Calls Tryz.prog 10 #[] w fun e w' => e = .returned (.bool true) ∧ Grow w w' := by
  obtain ⟨W, eW, gW, sW, h1, h2, h3⟩ := laid3 w #[.string { data := #[97] }, .string { data := #[120, 49] }] #[.string { data := #[97] }] #[.int .i64 1, .slice (some ⟨w.heap.size + 1, 0, none⟩) 1 1, .string { data := #[] }, .string { data := #[120, 40, 46, 41] }, .int .i64 0, .string { data := #[98] }, .string { data := #[121, 36, 49] }] 39 9 24
  obtain ⟨a0, a1⟩ := two_cells h1
  have b0 : W.cell? ⟨w.heap.size + 1, 0, none⟩ = some (.string { data := #[97] }) := by simp [World.cell?, h2]
  obtain ⟨c0, c1, c2, c3, c4, c5, c6⟩ := seven_cells h3
  have hA : readsLabels W W.heap.size (.slice (some ⟨w.heap.size, 0, none⟩) 1 1) begLs := by
    refine ⟨_, _, rfl, fun i hi => ?_⟩
    match i, hi with
    | 0, _ => exact ⟨_, _, rfl, by omega, a0, a1⟩
  have hR : readsRules W W.heap.size (.slice (some ⟨w.heap.size + 2, 0, none⟩) 1 1) [begR] := by
    refine ⟨_, _, rfl, fun i hi => ?_⟩
    match i, hi with
    | 0, _ =>
      refine ⟨_, _, _, rfl, by omega, ⟨_, _, rfl, fun j hj => ?_⟩, c0, c1, c2, c3, c4, c5, c6⟩
      match j, hj with
      | 0, _ => exact ⟨_, _, rfl, by omega, b0⟩
  have HAP := hide (apply_any W _ _ begLs [begR] hA (by decide) (fun x hx => by simp [begLs] at hx; subst hx; decide) hR (by decide) (fun r hr => by simp at hr; subst hr; exact ⟨⟨by decide, fun s hs => by simp [begR] at hs; subst hs; decide, by decide, by decide, by decide, by decide⟩, by decide⟩) (tab_grow htab gW))
  rw [beg_apply] at HAP
  have HGW := hide gW
  clear h1 h2 h3 a0 a1 b0 c0 c1 c2 c3 c4 c5 c6 hA hR gW
  go_enter Tryz.func10, Tryz.ntmps10
  go_wp2_with fail
  refine HAP.out.mono ?_
  rintro e w1 ⟨hg1, mo, n, mc, rfl, hown⟩
  have hrd := reads_ownLabels hown
  obtain ⟨ao, cp, e1, hcells⟩ := hrd
  obtain ⟨b, o, rfl, _, d0, d1⟩ := hcells 1 (by decide)
  simp only [Value.slice.injEq] at e1
  obtain ⟨rfl, rfl, rfl⟩ := e1
  have d2 : w1.cell? ⟨b, o + 1 * 2 + 1, none⟩ = some (.string { data := #[121, 49] }) := d1
  have HG1 := hide hg1
  clear hcells d0 d1 hown hg1 eW
  go_wp2
  go_ret
  exact ⟨rfl, HGW.out.trans HG1.out⟩
end Go.Proofs.YtndpjdmfkhjiiaaGreatDoor.Rl

/- relabel: rules one behind the other; rows of rules put together. -/
set_option linter.unusedVariables false
set_option linter.unusedSimpArgs false
namespace Go.Proofs.YtndpjdmfkhjiiaaGreatDoor.Rl
open Go.RowKit Lb
attribute [local go_sem] bs_size bs_toList bs_append bs_get bs_extract

theorem ruleGo_shape : ∀ (rs : List Rul) (made : List Lab), (∃ n, ruleGo rs made = ([], false, n)) ∨ ∃ l, ruleGo rs made = (l, true, 0)
  | [], made => .inr ⟨made, rfl⟩
  | r :: rs, made => by
    unfold ruleGo
    split
    · exact .inl ⟨_, rfl⟩
    · split
      · exact .inl ⟨_, rfl⟩
      · exact ruleGo_shape rs _
theorem ruleGo_append : ∀ (a b : List Rul) (made : List Lab), ruleGo (a ++ b) made = if (ruleGo a made).2.1 = true then ruleGo b (ruleGo a made).1 else ruleGo a made
  | [], b, made => by simp [ruleGo]
  | r :: a, b, made => by
    rw [List.cons_append]
    by_cases h1 : 2000 < (sourceB r made).length
    · have k : ∀ x, ruleGo (r :: x) made = ([], false, 2) := fun x => by simp only [ruleGo]; rw [if_pos h1]
      rw [k, k]
      simp
    · by_cases h2 : (deedR r made (sourceB r made)).2.2 ≠ 0 ∨ (deedR r made (sourceB r made)).2.1 = false
      · have k : ∀ x, ruleGo (r :: x) made = ([], false, (deedR r made (sourceB r made)).2.2) := fun x => by simp only [ruleGo]; rw [if_neg h1, if_pos h2]
        rw [k, k]
        simp
      · have k : ∀ x, ruleGo (r :: x) made = ruleGo x (deedR r made (sourceB r made)).1 := fun x => by simp only [ruleGo]; rw [if_neg h1, if_neg h2]
        rw [k, k]
        exact ruleGo_append a b _
theorem ruleGo_right : ∀ (rs : List Rul) (made : List Lab), checkB made = 0 → (ruleGo rs made).2.1 = true → checkB (ruleGo rs made).1 = 0
  | [], made, h, _ => h
  | r :: rs, made, h, h1 => by
    unfold ruleGo at h1 ⊢
    by_cases k1 : 2000 < (sourceB r made).length
    · rw [if_pos k1] at h1; cases h1
    · rw [if_neg k1] at h1 ⊢
      by_cases k2 : (deedR r made (sourceB r made)).2.2 ≠ 0 ∨ (deedR r made (sourceB r made)).2.1 = false
      · rw [if_pos k2] at h1; cases h1
      · rw [if_neg k2] at h1 ⊢
        exact ruleGo_right rs _ (deedR_right h (by omega)) h1
theorem rulesErr_append {a b : List Rul} (h : rulesErr a = 0) : rulesErr (a ++ b) = rulesErr b := by
  induction a with
  | nil => rfl
  | cons x a ih =>
    have h' : (if ruleErr x ≠ 0 then ruleErr x else rulesErr a) = 0 := h
    by_cases hx : ruleErr x = 0
    · rw [if_neg (by omega)] at h'
      show (if ruleErr x ≠ 0 then ruleErr x else rulesErr (a ++ b)) = _
      rw [if_neg (by omega)]
      exact ih h'
    · rw [if_pos hx] at h'
      exact absurd h' hx
/-- What comes of Apply: nothing and an error, nothing without one, or labels that are right. -/
theorem apply_shape (ls : List Lab) (rs : List Rul) : (∃ n, n ≠ 0 ∧ applyB ls rs = ([], false, n)) ∨ (allErr ls rs = 0 ∧ applyB ls rs = ruleGo rs ls ∧ (applyB ls rs = ([], false, 0) ∨ ∃ l, applyB ls rs = (l, true, 0) ∧ checkB l = 0)) := by
  unfold applyB
  by_cases h : allErr ls rs = 0
  · rw [if_neg (by omega)]
    rcases ruleGo_shape rs ls with ⟨n, e⟩ | ⟨l, e⟩
    · by_cases hn : n = 0
      · subst hn; exact .inr ⟨h, rfl, .inl e⟩
      · exact .inl ⟨n, hn, e⟩
    · have hr := ruleGo_right rs ls (allErr_zero h).2.1 (by rw [e])
      rw [e] at hr
      exact .inr ⟨h, rfl, .inr ⟨l, e, hr⟩⟩
  · rw [if_pos h]
    exact .inl ⟨_, h, rfl⟩
theorem allErr_of {ls : List Lab} {rs : List Rul} (hc : checkB ls = 0) : allErr ls rs = if 30 < rs.length then 2 else rulesErr rs := by
  unfold allErr
  by_cases h : 30 < rs.length
  · rw [if_pos h, if_pos h]
  · rw [if_neg h, if_neg h, if_neg (by omega)]
theorem allErr_rules {ls : List Lab} {rs : List Rul} (h : allErr ls rs = 0) : rulesErr rs = 0 := by
  have hc := (allErr_zero h).2.1
  have hl := (allErr_zero h).1
  rw [allErr_of hc, if_neg (by omega)] at h
  exact h
/-- Both rows at once, where nothing came of the first. -/
theorem joins_none {ls : List Lab} {a b : List Rul} (h0 : allErr ls a = 0) (h : ruleGo a ls = ([], false, 0)) : ∃ g, applyB ls (a ++ b) = ([], false, g) := by
  unfold applyB
  by_cases hh : allErr ls (a ++ b) = 0
  · rw [if_neg (by omega), ruleGo_append, h]
    exact ⟨0, by simp⟩
  · rw [if_pos hh]
    exact ⟨_, rfl⟩
theorem joins_many {ls : List Lab} {a b : List Rul} (h : 30 < a.length + b.length) : applyB ls (a ++ b) = ([], false, 2) := by
  have e : allErr ls (a ++ b) = 2 := by
    unfold allErr
    rw [if_pos (by rw [List.length_append]; exact h)]
  unfold applyB
  rw [e]
  rfl
theorem joins_some {ls l : List Lab} {a b : List Rul} (h0 : allErr ls a = 0) (h : ruleGo a ls = (l, true, 0)) (hl : checkB l = 0) (hn : a.length + b.length ≤ 30) : applyB ls (a ++ b) = applyB l b := by
  have hc := (allErr_zero h0).2.1
  have e1 : allErr ls (a ++ b) = rulesErr b := by rw [allErr_of hc, if_neg (by rw [List.length_append]; omega), rulesErr_append (allErr_rules h0)]
  have e2 : allErr l b = rulesErr b := by rw [allErr_of hl, if_neg (by omega)]
  unfold applyB
  rw [e1, e2, ruleGo_append, h]
  simp

/-! ### rows of rules -/
def rulesC : List (Rul × Value) → List Value
  | [] => []
  | x :: l => ruleC x.1 x.2 ++ rulesC l
theorem ruleC_len (r : Rul) (u : Value) : (ruleC r u).length = 7 := rfl
theorem rulesC_len : ∀ l : List (Rul × Value), (rulesC l).length = l.length * 7
  | [] => rfl
  | x :: l => by simp only [rulesC, List.length_append, ruleC_len, rulesC_len l, List.length_cons]; omega
theorem rulesC_append : ∀ a b : List (Rul × Value), rulesC (a ++ b) = rulesC a ++ rulesC b
  | [], b => rfl
  | x :: a, b => by simp [rulesC, rulesC_append a b]
theorem rulesC_at : ∀ (l : List (Rul × Value)) (i : Nat) (h : i < l.length) (k : Nat), k < 7 → (rulesC l)[i * 7 + k]? = (ruleC l[i].1 l[i].2)[k]?
  | [], i, h, _, _ => by simp at h
  | x :: l, 0, h, k, hk => by
    rw [rulesC, Nat.zero_mul, Nat.zero_add, List.getElem?_append_left (by rw [ruleC_len]; exact hk)]
    rfl
  | x :: l, i + 1, h, k, hk => by
    rw [rulesC, List.getElem?_append_right (by rw [ruleC_len]; omega), ruleC_len, show (i + 1) * 7 + k - 7 = i * 7 + k by omega, rulesC_at l i (by simp at h; omega) k hk]
    rfl
/-- The rules of a row as pairs of a rule and its sources' value. -/
theorem rules_pairs {w : World} {B : Nat} {v : Value} {rs : List Rul} (h : readsRules w B v rs) : ∃ ps : List (Rul × Value), ps.map Prod.fst = rs ∧ (∀ p ∈ ps, readsStrs w B p.2 p.1.sources) ∧
    ((rs = [] ∧ ∃ ao cp, v = .slice ao 0 cp) ∨ ∃ b o cp, v = .slice (some ⟨b, o, none⟩) rs.length cp ∧ b < B ∧ ∀ j u, (rulesC ps)[j]? = some u → w.cell? ((⟨b, o, none⟩ : Addr).add j) = some u) := by
  obtain ⟨ao, cp, rfl, hc⟩ := h
  obtain ⟨us, hul, hus⟩ := olist_of (n := rs.length) (p := fun i (u : Value) => ∀ h : i < rs.length, ∃ b o, ao = some ⟨b, o, none⟩ ∧ b < B ∧ readsStrs w B u rs[i].sources ∧ ∀ k x, (ruleC rs[i] u)[k]? = some x → w.cell? ⟨b, o + (i * 7 + k), none⟩ = some x) (fun i hi => by
    obtain ⟨b, o, vs, e, hb, hs, c0, c1, c2, c3, c4, c5, c6⟩ := hc i hi
    refine ⟨vs, fun _ => ⟨b, o, e, hb, hs, fun k x hx => ?_⟩⟩
    match k, hx with
    | 0, hx => obtain rfl := Option.some.inj hx; exact c0
    | 1, hx => obtain rfl := Option.some.inj hx; exact c1
    | 2, hx => obtain rfl := Option.some.inj hx; exact c2
    | 3, hx => obtain rfl := Option.some.inj hx; exact c3
    | 4, hx => obtain rfl := Option.some.inj hx; exact c4
    | 5, hx => obtain rfl := Option.some.inj hx; exact c5
    | 6, hx => obtain rfl := Option.some.inj hx; exact c6
    | k + 7, hx => rw [List.getElem?_eq_none (by rw [ruleC_len]; omega)] at hx; cases hx)
  refine ⟨rs.zip us, by rw [List.map_fst_zip]; omega, ?_, ?_⟩
  · intro p hp
    obtain ⟨i, hi, rfl⟩ := List.getElem_of_mem hp
    have hi' : i < rs.length := by rw [List.length_zip] at hi; omega
    obtain ⟨b, o, _, _, hs, _⟩ := hus i (by omega) hi'
    rw [List.getElem_zip]
    exact hs
  · by_cases h0 : rs = []
    · subst h0
      exact .inl ⟨rfl, _, _, rfl⟩
    · have hp : 0 < rs.length := List.length_pos_iff.2 h0
      obtain ⟨b, o, e, hb, _, _⟩ := hus 0 (by omega) hp
      refine .inr ⟨b, o, cp, by rw [e], hb, fun j u hj => ?_⟩
      have hjl : j < (rulesC (rs.zip us)).length := (List.getElem?_eq_some_iff.1 hj).1
      rw [rulesC_len, List.length_zip] at hjl
      have hi : j / 7 < rs.length := by omega
      have hat := rulesC_at (rs.zip us) (j / 7) (by rw [List.length_zip]; omega) (j % 7) (by omega)
      rw [show j / 7 * 7 + j % 7 = j by omega, hj, List.getElem_zip] at hat
      obtain ⟨b2, o2, e2, _, _, hcell⟩ := hus (j / 7) (by omega) hi
      rw [e] at e2
      simp only [Option.some.injEq, Addr.mk.injEq] at e2
      obtain ⟨rfl, rfl, _⟩ := e2
      have h2 := hcell (j % 7) u hat.symm
      rw [show j / 7 * 7 + j % 7 = j by omega] at h2
      rw [Addr.add_lit]
      exact h2
theorem rulesC_one {w : World} {B : Nat} : ∀ {ps : List (Rul × Value)}, (∀ p ∈ ps, readsStrs w B p.2 p.1.sources) → ∀ u ∈ rulesC ps, u.oneCell' = true
  | [], _, u, hu => by simp [rulesC] at hu
  | x :: l, h, u, hu => by
    rw [rulesC] at hu
    rcases List.mem_append.1 hu with hu | hu
    · obtain ⟨ao, cp, e, _⟩ := h x (by simp)
      unfold ruleC at hu
      rw [e] at hu
      simp at hu
      rcases hu with rfl | rfl | rfl | rfl | rfl | rfl | rfl <;> rfl
    · exact rulesC_one (fun p hp => h p (by simp [hp])) u hu
theorem Tryz.infoRule : (Tryz.prog.info? 24).map (fun i => (i.zero, i.size, i.bytes)) = some (some (.agg #[.int .i64 0, .slice none 0 0, .string ByteArray.empty, .string ByteArray.empty, .int .i64 0, .string ByteArray.empty, .string ByteArray.empty]), 7, 104) := by kernel_rfl
end Go.Proofs.YtndpjdmfkhjiiaaGreatDoor.Rl

/- RelabelJoins: rows of rules put together; the law's walk. -/
set_option linter.unusedVariables false
set_option linter.unusedSimpArgs false
namespace Go.Proofs.YtndpjdmfkhjiiaaGreatDoor.Rl
open Go.RowKit Lb
attribute [local go_sem] bs_size bs_toList bs_append bs_get bs_extract

theorem append_nilC {w : World} (base : Nat) (t ty e : TypeId) (i : TypeInfo) (size cp : Nat) (ht : Tryz.prog.underlying t = some (.slice e)) (hi : Tryz.prog.info? e = some i)
    (v : Value) (n : Nat) (xs : List Value) (hown : w.ownsRow base e size v n xs) :
    (Builtin.append_ #[t, t] ty #[v, .slice none 0 cp]).run Tryz.prog w = .ok v w := by
  rcases hown.2 with ⟨rfl, rfl⟩ | ⟨g, cap, cur, rfl, _, _, hnc, _⟩
  · simp [Builtin.append_, run_underlying ht, sizeOf, typeInfo, hi, Builtin.lenOf, Builtin.firstCells]
  · simp [Builtin.append_, run_underlying ht, sizeOf, typeInfo, hi, Builtin.lenOf, Builtin.firstCells, hnc, storeCells]

/-- Rules behind a row of the call's own. -/
theorem append_rules {w : World} {ops : Array Oper} {rest : List Oper} {o : Oper} {a : Act} {Q : Exit → Act → World → Prop} (hw : Region.wanted o (yielded ops a.tmps) = true) (s x : Operand)
    (ho : o.op = .call { callee := .builtin .append, args := #[s, x], argTypes := #[30, 30] })
    (base n1 n2 n : Nat) (v v2 : Value) (qs ps : List (Rul × Value)) (hs : a.eval s = v) (hx : a.eval x = v2) (hn : n1 + n2 = n)
    (hown : w.ownsRow base 24 7 v n1 (rulesC qs)) (hl : ps.length = n2)
    (hrd : (n2 = 0 ∧ ∃ ao cp, v2 = .slice ao 0 cp) ∨ ∃ b o cp, v2 = .slice (some ⟨b, o, none⟩) n2 cp ∧ ∀ j u, (rulesC ps)[j]? = some u → w.cell? ((⟨b, o, none⟩ : Addr).add j) = some u)
    (hone : ∀ u ∈ rulesC ps, u.oneCell' = true) (hlen : n ≤ 4000000) (hbase : base ≤ w.heap.size)
    (h : ∀ ao cp w', w'.ownsRow base 24 7 (.slice ao n cp) n (rulesC (qs ++ ps)) → Below base w w' → wpList Tryz.prog ops Q rest (a.put o.dst (.slice ao n cp)) w') : wpList Tryz.prog ops Q (o :: rest) a w := by
  subst hn
  obtain ⟨i0, hi0, hz0, hz1, hz2⟩ := info_parts Tryz.infoRule
  refine wpList_step fun K hK => ?_
  rw [if_pos hw]
  obtain ⟨ao, cp, rfl⟩ := own_shape hown
  have main : ∀ (ad : Addr) (c : Nat), v2 = .slice (some ad) n2 c → (∀ j u, (rulesC ps)[j]? = some u → w.cell? (ad.add j) = some u) → o.wp Tryz.prog a w K Q := by
    intro ad c e hc
    subst e
    refine wp_append_own w s x 30 ho base 24 i0 _ 7 104 Tryz.underlying30 hi0 hz0 hz1 hz2 rfl (by omega) _ n1 (rulesC qs) hs hown ad n2 c (rulesC ps) hx (by rw [rulesC_len, hl]) hc hone (by unfold maxLen; omega) (by omega) hbase ?_
    intro v' w' hown' hgrow _
    obtain ⟨ao', cp', rfl⟩ := own_shape hown'
    exact hK _ _ (h ao' cp' w' (by rw [rulesC_append]; exact hown') ((Below.refl base w).grown hgrow hbase (fun k hk => (hown.lt k hk).1)))
  rcases hrd with ⟨rfl, ao2, cp2, rfl⟩ | ⟨b, off, c, rfl, hc⟩
  · have hps : ps = [] := List.eq_nil_of_length_eq_zero hl
    subst hps
    cases ao2 with
    | none =>
      have hrun := append_nilC base 30 o.type 24 i0 7 cp2 Tryz.underlying30 hi0 _ n1 (rulesC qs) hown
      unfold Oper.wp
      simp [execOp, ho, resolve, invoke, builtin, hs, hx, hrun, Result.andThen]
      exact hK _ _ (h ao cp w (by simpa using hown) (Below.refl _ _))
    | some ad => exact main ad cp2 rfl (fun j u hj => by simp [rulesC] at hj)
  · exact main _ c rfl hc

/-- A row of the call's own, read. -/
theorem reads_rules {w : World} {base n : Nat} {v : Value} {ps : List (Rul × Value)} (h : w.ownsRow base 24 7 v n (rulesC ps)) (hn : n = ps.length)
    (hall : ∀ p ∈ ps, readsStrs w w.heap.size p.2 p.1.sources) : readsRules w w.heap.size v (ps.map Prod.fst) := by
  obtain ⟨ao, cp, e⟩ := own_shape h
  refine ⟨ao, cp, by rw [e, hn, List.length_map], fun i hi => ?_⟩
  rw [List.length_map] at hi
  rcases h.2 with ⟨rfl, h0⟩ | ⟨g, cap, cur, rfl, h1, h2, h3⟩
  · omega
  · simp at e
    have hc := World.ownsRow.cells h (g := g) rfl
    have ha := rulesC_at ps i hi
    have hk : ∀ k u, k < 7 → (ruleC ps[i].1 ps[i].2)[k]? = some u → w.cell? ⟨g, 0 + (i * 7 + k), none⟩ = some u := fun k u hk hu => by
      have := hc _ _ ((ha k hk).trans hu)
      rw [Addr.add_lit] at this
      exact this
    refine ⟨g, 0, ps[i].2, e.1.symm, lt_of_block h2, by rw [List.getElem_map]; exact hall _ (List.getElem_mem hi), ?_⟩
    simp only [List.getElem_map]
    exact ⟨hk 0 _ (by omega) rfl, hk 1 _ (by omega) rfl, hk 2 _ (by omega) rfl, hk 3 _ (by omega) rfl, hk 4 _ (by omega) rfl, hk 5 _ (by omega) rfl, hk 6 _ (by omega) rfl⟩

theorem readsRules.more {w : World} {B B' : Nat} {v : Value} {rs : List Rul} (h : readsRules w B v rs) (hB : B ≤ B') : readsRules w B' v rs := by
  obtain ⟨ao, cp, hv, h⟩ := h
  refine ⟨ao, cp, hv, fun i hi => ?_⟩
  obtain ⟨b, o, vs, e, hb, hs, hc⟩ := h i hi
  exact ⟨b, o, vs, e, by omega, hs.more hB, hc⟩
theorem rules_pairs2 {w : World} {B : Nat} {v : Value} {rs : List Rul} (h : readsRules w B v rs) : ∃ ps : List (Rul × Value), ps.map Prod.fst = rs ∧ ps.length = rs.length ∧ (∀ p ∈ ps, readsStrs w B p.2 p.1.sources) ∧ (∀ u ∈ rulesC ps, u.oneCell' = true) ∧
    ((rs.length = 0 ∧ ∃ ao cp, v = .slice ao 0 cp) ∨ ∃ b o cp, v = .slice (some ⟨b, o, none⟩) rs.length cp ∧ ∀ j u, (rulesC ps)[j]? = some u → w.cell? ((⟨b, o, none⟩ : Addr).add j) = some u) := by
  obtain ⟨ps, h1, h2, h3⟩ := rules_pairs h
  refine ⟨ps, h1, by rw [← h1, List.length_map], h2, rulesC_one h2, ?_⟩
  rcases h3 with ⟨e, h⟩ | ⟨b, o, cp, e, _, hc⟩
  · exact .inl ⟨by rw [e]; rfl, h⟩
  · exact .inr ⟨b, o, cp, e, hc⟩

/-- What Apply's call answers, of a row of rules anywhere behind w. -/
theorem apply_at (w : World) (htab : tabOk w) (va : Value) (ls : List Lab) (hlen : ls.length ≤ 9223372036854775807) (hin : lensOk ls) (vr : Value) (rs : List Rul) (hrl : rs.length ≤ 9223372036854775807) (hok : okRs rs) :
    ∀ W, Grow w W → readsLabels W W.heap.size va ls → readsRules W W.heap.size vr rs → Calls Tryz.prog 13 #[va, vr] W fun e w' => Grow W w' ∧ ApplyPost W.heap.size (applyB ls rs) e w' :=
  fun W hg ha hr => apply_any W va vr ls rs ha hlen hin hr hrl hok (tab_grow htab hg)

set_option maxRecDepth 20000 in
set_option maxHeartbeats 8000000 in
theorem relabelJoins_any (w : World) (htab : tabOk w) (va : Value) (ls : List Lab) (ha : readsLabels w w.heap.size va ls) (hlen : ls.length ≤ 9223372036854775807) (hin : ∀ y ∈ ls, y.1.length ≤ 9223372036854775807 ∧ y.2.length ≤ 9223372036854775807)
    (vx : Value) (a : List Rul) (hx : readsRules w w.heap.size vx a) (hxl : a.length ≤ 1048576) (hxo : okRs a) (vy : Value) (b : List Rul) (hy : readsRules w w.heap.size vy b) (hyl : b.length ≤ 1048576) (hyo : okRs b) :
    Calls Tryz.prog 5 #[va, vx, vy] w fun e w' => e = .returned (.bool true) ∧ Grow w w' := by
  have HTAB := hide htab
  have HA := hide ha
  have HIN := hide hin
  have HX := hide hx
  have HY := hide hy
  have HAP1 := hide (apply_at w htab va ls hlen hin vx a (by omega) hxo)
  have HAP2 : Hid (∀ (vr : Value) W, Grow w W → readsLabels W W.heap.size va ls → readsRules W W.heap.size vr (a ++ b) → Calls Tryz.prog 13 #[va, vr] W fun e w' => Grow W w' ∧ ApplyPost W.heap.size (applyB ls (a ++ b)) e w') := hide (fun vr => apply_at w htab va ls hlen hin vr (a ++ b) (by rw [List.length_append]; omega) (fun r hr => by
    rcases List.mem_append.1 hr with h | h
    · exact hxo r h
    · exact hyo r h))
  have HAP3 : Hid (∀ (vl : Value) (l : List Lab), checkB l = 0 → ∀ W, Grow w W → readsLabels W W.heap.size vl l → readsRules W W.heap.size vy b → Calls Tryz.prog 13 #[vl, vy] W fun e w' => Grow W w' ∧ ApplyPost W.heap.size (applyB l b) e w') := hide (fun vl l hc => by
    have hs := right_small hc
    exact apply_at w htab vl l (by omega) (fun x hx => by have := hs.2 x hx; omega) vy b (by omega) hyo)
  obtain ⟨lo, lc, rfl⟩ := readsLabels_len ha
  have hxs : ∃ ao cp, vx = .slice ao a.length cp := ⟨_, _, hx.choose_spec.choose_spec.1⟩
  have hys : ∃ ao cp, vy = .slice ao b.length cp := ⟨_, _, hy.choose_spec.choose_spec.1⟩
  obtain ⟨xo, xc, rfl⟩ := hxs
  obtain ⟨yo, yc, rfl⟩ := hys
  have HSH := hide (apply_shape ls a)
  clear ha hin hx hy htab hxo hyo
  go_enter Tryz.func5, Tryz.ntmps5
  go_wp2_with fail
  refine (relabelBegun_any w HTAB.out).mono ?_
  rintro e w1 ⟨rfl, hg1⟩
  have HG1 := hide hg1
  clear hg1
  go_wp2_with fail
  refine (labelsBegun_any w1).mono ?_
  rintro e w2 ⟨rfl, hg2⟩
  have HG2 : Hid (Grow w w2) := hide (HG1.out.trans hg2)
  have HA2 := hide (readsLabels_mono (readsLabels_below HA.out HG2.out) HG2.out.size)
  have HX2 := hide ((HX.out.keep HG2.out).more HG2.out.size)
  clear hg2
  go_wp2_with fail
  refine (HAP1.out w2 HG2.out HA2.out HX2.out).mono ?_
  rintro e w3 ⟨hg3, mo, n, mc, rfl, hown⟩
  have HG3 : Hid (Grow w w3) := hide (HG2.out.trans hg3)
  clear hg3
  rcases HSH.out with ⟨n1, hn1, hX⟩ | ⟨hal, hgo, hX⟩
  · rw [hX] at hown ⊢
    obtain ⟨ao, cp, hsh⟩ := own_shape hown
    simp only [Value.slice.injEq, List.length_nil] at hsh
    obtain ⟨-, rfl, -⟩ := hsh
    have hne : ((n1 : Int) != 0) = true := by simp; omega
    clear hn1 hown
    go_wp2
    go_ret
    exact ⟨rfl, HG3.out⟩
  · have HAL := hide hal
    have HGO := hide hgo
    have hX0 : (applyB ls a).2.2 = 0 := by
      rcases hX with h | ⟨l, h, _⟩ <;> rw [h]
    have HXX := hide hX
    rw [hX0]
    clear hal hgo hX hX0
    obtain ⟨W, HW⟩ : ∃ W, Hid (W = w3.alloc (.cells #[] 24)) := ⟨_, hide rfl⟩
    have gW : Grow w3 W := by rw [HW.out]; exact (Grow.refl _).alloc _
    have hlit : W.ownsRow w3.heap.size 24 7 (.slice (some ⟨w3.heap.size, 0, none⟩) 0 0) 0 (rulesC []) := by rw [HW.out]; exact World.ownsRow_lit w3 #[] 0 (Nat.le_refl _) (by decide) rfl
    have HGW : Hid (Grow w W) := hide (HG3.out.trans gW)
    have h3s := HG3.out.size
    obtain ⟨ps, hp1, hpl, hp2, hp3, hp4⟩ := rules_pairs2 (HX.out.keep HGW.out)
    have HQ : Hid (∀ w6, Below w3.heap.size W w6 → ∃ qs : List (Rul × Value), qs.map Prod.fst = b ∧ qs.length = b.length ∧ (∀ p ∈ qs, readsStrs w6 w.heap.size p.2 p.1.sources) ∧ (∀ u ∈ rulesC qs, u.oneCell' = true) ∧
        ((b.length = 0 ∧ ∃ ao cp, (.slice yo b.length yc : Value) = .slice ao 0 cp) ∨ ∃ b' o cp, (.slice yo b.length yc : Value) = .slice (some ⟨b', o, none⟩) b.length cp ∧ ∀ j u, (rulesC qs)[j]? = some u → w6.cell? ((⟨b', o, none⟩ : Addr).add j) = some u)) := hide (fun w6 hb6 => rules_pairs2 ((HY.out.keep HGW.out).keep (Below.mono hb6 h3s)))
    rw [HW.out] at hlit hp4
    have HL := hide hlit
    have HP1 := hide hp1
    have HP2 := hide hp2
    have HP3 := hide hp3
    have HP4 := hide hp4
    have HOWN := hide hown
    have HGW3 := hide gW
    clear hlit hp1 hp2 hp3 hp4 hown gW
    go_wp2_with (first
      | (at_builtin; refine append_rules (by rfl) _ _ rfl w3.heap.size 0 a.length a.length _ _ [] ps rfl rfl (by omega) HL.out hpl HP4.out HP3.out (by omega) (by simp) ?_; intro ao1 cp1 w6 hrow1 hb6; rw [← HW.out] at hb6; obtain ⟨qs, hq1, hql, hq2, hq3, hq4⟩ := HQ.out w6 hb6; have HB6 := hide hb6; have hs6 := hb6.size; have hsW := HGW3.out.size; have HQ1 := hide hq1; have HQ2 := hide hq2; have HQ3 := hide hq3; have HQ4 := hide hq4; have HROW1 := hide hrow1; clear hb6 hq1 hq2 hq3 hq4 hrow1)
      | (at_builtin; refine append_rules (by rfl) _ _ rfl w3.heap.size a.length b.length (a.length + b.length) _ _ ([] ++ ps) qs rfl rfl rfl HROW1.out hql HQ4.out HQ3.out (by omega) (by omega) ?_; intro ao2 cp2 w7 hrow2 hb7))
    have hb67 : Below w3.heap.size w6 w7 := hb7
    have HB7 : Hid (Below w3.heap.size w3 w7) := hide (Below.trans (Below.trans HGW3.out HB6.out) hb67)
    have HG7 : Hid (Grow w w7) := hide (Below.trans HG3.out (Below.mono HB7.out h3s))
    have hsz7 := HG7.out.size
    have hRD : readsRules w7 w7.heap.size (.slice ao2 (a.length + b.length) cp2) (a ++ b) := by
      have h := reads_rules hrow2 (by simp [hpl, hql]) (fun p hp => by
        rw [List.nil_append] at hp
        rcases List.mem_append.1 hp with hp | hp
        · exact ((HP2.out p hp).keep (Below.mono (Below.trans HB6.out hb67) h3s)).more hsz7
        · exact ((HQ2.out p hp).keep (Below.mono hb67 h3s)).more hsz7)
      rw [List.nil_append, List.map_append, HP1.out, HQ1.out] at h
      exact h
    have HRD := hide hRD
    have HA7 := hide (readsLabels_mono (readsLabels_below HA.out HG7.out) HG7.out.size)
    have HO7 := hide (own_grow HOWN.out HB7.out)
    clear hRD hrow2 hb7 hb67
    go_wp2_with fail
    refine (HAP2.out _ w7 HG7.out HA7.out HRD.out).mono ?_
    rintro e w8 ⟨hg8, to, tn, tc, rfl, hown8⟩
    have HG8 : Hid (Grow w w8) := hide (HG7.out.trans hg8)
    have HO8 := hide (own_grow HO7.out hg8)
    have HT8 := hide hown8
    clear hg8 hown8
    rcases HXX.out with hX | ⟨l, hX, hl⟩
    · obtain ⟨g, hg⟩ := joins_none (b := b) HAL.out (HGO.out.symm.trans hX)
      have h1 := HO8.out
      have h2 := HT8.out
      rw [hX] at h1 ⊢
      rw [hg] at h2 ⊢
      obtain ⟨_, _, e1⟩ := own_shape h1
      obtain ⟨_, _, e2⟩ := own_shape h2
      simp only [Value.slice.injEq, List.length_nil] at e1 e2
      obtain ⟨-, rfl, -⟩ := e1
      obtain ⟨-, rfl, -⟩ := e2
      clear h1 h2 hX hg
      by_cases hg0 : g = 0
      · subst hg0
        go_wp2
        go_ret
        exact ⟨rfl, HG8.out⟩
      · have hne : ((g : Int) != 0) = true := by simp; omega
        clear hg0
        go_wp2
        go_ret
        exact ⟨rfl, HG8.out⟩
    · have h1 := HO8.out
      rw [hX] at h1 ⊢
      obtain ⟨_, _, e1⟩ := own_shape h1
      simp only [Value.slice.injEq] at e1
      obtain ⟨-, rfl, -⟩ := e1
      have H1 := hide h1
      have HJS := hide (fun hn => joins_some (b := b) HAL.out (HGO.out.symm.trans hX) hl hn)
      have HC := hide hl
      have hs := right_small hl
      have HIL : Hid (lensOk l) := hide (fun x hx => by have := hs.2 x hx; omega)
      have hll : l.length ≤ 9223372036854775807 := by omega
      have HAP4 := hide (HAP3.out (.slice mo l.length mc) l hl w8 HG8.out (reads_ownLabels h1) ((HY.out.keep HG8.out).more HG8.out.size))
      have hYb : (applyB l b).1.length ≤ 1000000 := by
        rcases apply_shape l b with ⟨k, _, e⟩ | ⟨_, _, e | ⟨l2, e, hl2⟩⟩
        · rw [e]; simp
        · rw [e]; simp
        · rw [e]
          have := (right_small hl2).1
          simp only
          omega
      clear h1 hX hl hs
      go_wp2_with fail
      refine HAP4.out.mono ?_
      rintro e w9 ⟨hg9, zo, zn, zc, rfl, hown9⟩
      have HG9 : Hid (Grow w w9) := hide (HG8.out.trans hg9)
      have H19 := hide (own_grow H1.out hg9)
      have HT9 := hide (own_grow HT8.out hg9)
      have HZ9 := hide hown9
      clear hg9 hown9
      go_wp2_with fail
      refine (check_any w9 _ l (reads_ownLabels H19.out) hll HIL.out).mono ?_
      rintro e w10 ⟨rfl, hg10⟩
      rw [HC.out]
      have HG10 : Hid (Grow w w10) := hide (HG9.out.trans hg10)
      have HT10 := hide (own_grow HT9.out hg10)
      have HZ10 := hide (own_grow HZ9.out hg10)
      clear hg10
      by_cases hm : 30 < a.length + b.length
      · have hm' : (30 : Int) < a.length + b.length := by omega
        rw [joins_many (ls := ls) hm]
        clear hm
        go_wp2
        go_ret
        exact ⟨rfl, HG10.out⟩
      · have hm' : ¬ (30 : Int) < a.length + b.length := by omega
        rw [HJS.out (by omega)] at HT10 ⊢
        generalize applyB l b = Y at HT10 HZ10 hYb ⊢
        clear hm
        obtain ⟨Y1, Y2, Y3⟩ := Y
        simp only at HT10 HZ10 hYb ⊢
        have r1 := hide (reads_ownLabels HT10.out)
        have r2 := hide (reads_ownLabels HZ10.out)
        go_wp2_with fail
        refine (sameLabels_any w10 _ _ Y1 Y1 r1.out r2.out hYb (by omega)).mono ?_
        rintro e w11 ⟨rfl, n11, rfl⟩
        rw [decide_eq_true (rfl : Y1 = Y1)]
        have HG11 : Hid (Grow w (w10.drewN n11)) := hide (Go.below_drewN HG10.out n11)
        generalize w10.drewN n11 = w11 at HG11 ⊢
        go_wp2
        go_ret
        exact ⟨rfl, HG11.out⟩
end Go.Proofs.YtndpjdmfkhjiiaaGreatDoor.Rl
