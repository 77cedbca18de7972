/- relabel: what the law's example makes. -/
import Derived.Test.YtndpjdmfkhjiiaaGreatDoorProg
import Derived.Test.YtndpjdmfkhjiiaaGreatDoorQ74d152
import Derived.Test.YtndpjdmfkhjiiaaGreatDoorMBegV
import Derived.Test.YtndpjdmfkhjiiaaGreatDoorQce0acf
import Derived.BigFrame
set_option linter.unusedVariables false
set_option linter.unusedSimpArgs false
namespace Go.Proofs.YtndpjdmfkhjiiaaGreatDoor.Rl
open Go.RowKit Lb
attribute [local go_sem] bs_size bs_toList bs_append bs_get bs_extract

/-- The example's labels, and its rule. -/
def begLs : List Lab := [([97], [120, 49])]
def begR : Rul := { kind := 1, sources := [[97]], between := [], mask := [120, 40, 46, 41], modulus := 0, target := [98], repl := [121, 36, 49] }
theorem beg_check : checkB begLs = 0 := by decide +kernel
theorem beg_source : sourceB begR begLs = [120, 49] := by decide +kernel
theorem beg_tm : tmAt begR.repl 0 = some [([121], -1), ([], 1)] := by rfl
theorem beg_err : faultOf begR.mask = (0, 0) := by rfl
theorem beg_all : allErr begLs [begR] = 0 := by decide +kernel
def begT : Tr := .row (.set (between 120 120) 0 (.grp 0 (.row (.set (fun _ => true) 0 .nil) .nil) 0 .nil)) .nil
theorem beg_is : maskIs begR.mask = .ok (begT, 1) := by rfl
theorem beg_way : wayOf begT [120, 49] = some [(0, 1), (1, 2)] := wayOf_eq (f := 60) (by decide)
theorem beg_tr : trOf begR = (begT, 1) := by unfold trOf; rw [beg_is]
theorem beg_tmOf : tmOf begR = [([121], -1), ([], 1)] := by unfold tmOf; rw [beg_tm]; rfl
theorem beg_deed : deedR begR begLs [120, 49] = ([([97], [120, 49]), ([98], [121, 49])], true, 0) := by
  unfold deedR deedB
  rw [if_pos (show begR.kind = 1 from rfl), beg_tr, beg_tmOf]
  simp only [beg_way]
  decide +kernel
theorem beg_apply : applyB begLs [begR] = ([([97], [120, 49]), ([98], [121, 49])], true, 0) := by
  unfold applyB
  rw [if_neg (by rw [beg_all]; simp)]
  unfold ruleGo
  rw [beg_source, if_neg (by decide), beg_deed, if_neg (by simp)]
  rfl
theorem laid3 (w : World) (b1 b2 b3 : Array Value) (t1 t2 t3 : TypeId) : ∃ W : World, ((w.alloc (.cells b1 t1)).alloc (.cells b2 t2)).alloc (.cells b3 t3) = W ∧ Grow w W ∧ W.heap.size = w.heap.size + 3 ∧ W.heap[w.heap.size]? = some (.cells b1 t1 (0, 0)) ∧ W.heap[w.heap.size + 1]? = some (.cells b2 t2 (0, 0)) ∧ W.heap[w.heap.size + 2]? = some (.cells b3 t3 (0, 0)) := by
  have g1 := (Grow.refl w).alloc (.cells b1 t1)
  have h1 := heap_alloc_new w (.cells b1 t1)
  have s1 : (w.alloc (.cells b1 t1)).heap.size = w.heap.size + 1 := by simp
  generalize w.alloc (.cells b1 t1) = A at g1 h1 s1 ⊢
  have g2 := (Grow.refl A).alloc (.cells b2 t2)
  have h2 := heap_alloc_new A (.cells b2 t2)
  have s2 : (A.alloc (.cells b2 t2)).heap.size = A.heap.size + 1 := by simp
  generalize A.alloc (.cells b2 t2) = B at g2 h2 s2 ⊢
  have g3 := (Grow.refl B).alloc (.cells b3 t3)
  have h3 := heap_alloc_new B (.cells b3 t3)
  have s3 : (B.alloc (.cells b3 t3)).heap.size = B.heap.size + 1 := by simp
  refine ⟨_, rfl, (g1.trans g2).trans g3, by omega, (g2.trans g3).get h1, ?_, ?_⟩
  · rw [← s1]; exact g3.get h2
  · rw [show w.heap.size + 2 = B.heap.size by omega]; exact h3

set_option maxRecDepth 20000 in
set_option maxHeartbeats 4000000 in
theorem relabelBegun_any (w : World) : Calls Tryz.prog 10 #[] w fun e w' => e = .returned (.bool true) ∧ Grow w w' := by
  obtain ⟨W, eW, gW, sW, h1, h2, h3⟩ := laid3 w #[.string { data := #[97] }, .string { data := #[120, 49] }] #[.string { data := #[97] }] #[.int .i64 1, .slice (some ⟨w.heap.size + 1, 0, none⟩) 1 1, .string { data := #[] }, .string { data := #[120, 40, 46, 41] }, .int .i64 0, .string { data := #[98] }, .string { data := #[121, 36, 49] }] 39 9 24
  obtain ⟨a0, a1⟩ := two_cells h1
  have b0 : W.cell? ⟨w.heap.size + 1, 0, none⟩ = some (.string { data := #[97] }) := by simp [World.cell?, h2]
  obtain ⟨c0, c1, c2, c3, c4, c5, c6⟩ := seven_cells h3
  have hA : readsLabels W W.heap.size (.slice (some ⟨w.heap.size, 0, none⟩) 1 1) begLs := by
    refine ⟨_, _, rfl, fun i hi => ?_⟩
    match i, hi with
    | 0, _ => exact ⟨_, _, rfl, by omega, a0, a1⟩
  have hR : readsRules W W.heap.size (.slice (some ⟨w.heap.size + 2, 0, none⟩) 1 1) [begR] := by
    refine ⟨_, _, rfl, fun i hi => ?_⟩
    match i, hi with
    | 0, _ =>
      refine ⟨_, _, _, rfl, by omega, ⟨_, _, rfl, fun j hj => ?_⟩, c0, c1, c2, c3, c4, c5, c6⟩
      match j, hj with
      | 0, _ => exact ⟨_, _, rfl, by omega, b0⟩
  have HAP := hide (apply_any W _ _ begLs [begR] hA (by decide) (fun x hx => by simp [begLs] at hx; subst hx; decide) hR (by decide) (fun r hr => by simp at hr; subst hr; exact ⟨⟨by decide, fun s hs => by simp [begR] at hs; subst hs; decide, by decide, by decide, by decide, by decide⟩, by decide⟩) (fun r hr => by simp at hr; subst hr; decide))
  rw [beg_apply] at HAP
  have HGW := hide gW
  clear h1 h2 h3 a0 a1 b0 c0 c1 c2 c3 c4 c5 c6 hA hR gW
  go_enter Tryz.func10, Tryz.ntmps10
  go_wp2_with fail
  refine HAP.out.mono ?_
  rintro e w1 ⟨hg1, mo, n, mc, rfl, hown⟩
  have hrd := reads_ownLabels hown
  obtain ⟨ao, cp, e1, hcells⟩ := hrd
  obtain ⟨b, o, rfl, _, d0, d1⟩ := hcells 1 (by decide)
  simp only [Value.slice.injEq] at e1
  obtain ⟨rfl, rfl, rfl⟩ := e1
  have d2 : w1.cell? ⟨b, o + 1 * 2 + 1, none⟩ = some (.string { data := #[121, 49] }) := d1
  have HG1 := hide hg1
  clear hcells d0 d1 hown hg1 eW
  go_wp2
  go_ret
  exact ⟨rfl, HGW.out.trans HG1.out⟩
end Go.Proofs.YtndpjdmfkhjiiaaGreatDoor.Rl
