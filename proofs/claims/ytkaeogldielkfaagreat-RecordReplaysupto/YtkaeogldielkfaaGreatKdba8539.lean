/- 1 texts in one. -/
import Derived.Test.YtkaeogldielkfaaGreatProg
import Derived.Test.YtkaeogldielkfaaGreatKabe2b5f
import Derived.Test.YtkaeogldielkfaaGreatKa96aaab
import Derived.Test.YtkaeogldielkfaaGreatKa7e3600
import Derived.Lib.AppendZeros
import Derived.Laws.OwnMore
import Derived.Deep.AppendLies
set_option linter.unusedVariables false
set_option linter.unusedSimpArgs false
namespace Go.Proofs.YtkaeogldielkfaaGreat.Lb
open Go.RowKit
attribute [local go_sem] bs_size bs_toList bs_append bs_get bs_extract
theorem zeroLab : (Value.agg #[.string ByteArray.empty, .string ByteArray.empty]).cells.size = 2 := rfl
theorem run_append_none_c {P : Program} {w : World} (base : Nat) (t ty e : TypeId) (i : TypeInfo) (size c : Nat) (ht : P.underlying t = some (.slice e)) (hi : P.info? e = some i)
    (v : Value) (n : Nat) (xs : List Value) (hown : w.ownsRow base e size v n xs) :
    (Builtin.append_ #[t, t] ty #[v, .slice none 0 c]).run P w = .ok v w := by
  rcases hown.2 with ⟨rfl, rfl⟩ | ⟨g, cap, cur, rfl, _, _, hnc, _⟩
  · simp [Builtin.append_, run_underlying ht, sizeOf, typeInfo, hi, Builtin.lenOf, Builtin.firstCells]
  · simp [Builtin.append_, run_underlying ht, sizeOf, typeInfo, hi, Builtin.lenOf, Builtin.firstCells, hnc, storeCells]
set_option maxRecDepth 20000 in
/-- Labels appended to a row of the call's own. -/
theorem append_labels {w : World} {ops : Array Oper} {rest : List Oper} {o : Oper} {a : Act} {Q : Exit → Act → World → Prop} (hw : Region.wanted o (yielded ops a.tmps) = true) (s x : Operand)
    (ho : o.op = .call { callee := .builtin .append, args := #[s, x], argTypes := #[57, 57] })
    (base B2 n1 n2 n : Nat) (v v2 : Value) (vs ms : List Lab) (hs : a.eval s = v) (hx : a.eval x = v2) (h1 : vs.length = n1) (h2 : ms.length = n2) (hn : n1 + n2 = n)
    (hown : ownLabels w base v vs) (hm : readsLabels w B2 v2 ms) (hlen : n ≤ 2000000) (hbase : base ≤ w.heap.size)
    (h : ∀ ao cp w', ownLabels w' base (.slice ao n cp) (vs ++ ms) → Below base w w' → wpList Tryz.prog ops Q rest (a.put o.dst (.slice ao n cp)) w') : wpList Tryz.prog ops Q (o :: rest) a w := by
  subst hn
  subst h1
  subst h2
  obtain ⟨i0, hi0, hz0, hz1, hz2⟩ := info_parts Tryz.infoL
  refine wpList_step fun K hK => ?_
  rw [if_pos hw]
  obtain ⟨ao, cp, rfl⟩ := own_shape hown
  obtain ⟨bo, bc, rfl, hcells⟩ := hm
  have done : ∀ w' v', w'.ownsRow base 107 2 v' (vs.length + ms.length) (labCells vs ++ labCells ms) → Below base w w' → K (a.put o.dst v') w' := by
    intro v1 v' hown' hb
    obtain ⟨ao', cp', rfl⟩ := own_shape hown'
    refine hK _ _ (h ao' cp' v1 ?_ hb)
    unfold ownLabels
    rw [labCells_append, List.length_append]
    exact hown'
  cases bo with
  | none =>
    have hms : ms = [] := by
      cases ms with
      | nil => rfl
      | cons y r => obtain ⟨b, o', e, _⟩ := hcells 0 (by simp); cases e
    subst hms
    have hrun := run_append_none_c (P := Tryz.prog) (w := w) base 57 o.type 107 i0 2 bc Tryz.underlying57 hi0 _ vs.length (labCells vs) hown
    unfold Oper.wp
    have hd := done w (.slice ao vs.length cp) (by have h2 : w.ownsRow base 107 2 (.slice ao vs.length cp) vs.length (labCells vs) := hown; simpa [labCells] using h2) (Below.refl _ _)
    simp [execOp, ho, resolve, invoke, builtin, hs, hx, hrun, Result.andThen]
    exact hd
  | some ad =>
    have hnews : ∀ j u, (labCells ms)[j]? = some u → w.cell? (ad.add j) = some u := by
      intro j u hu
      have hj : j < (labCells ms).length := (List.getElem?_eq_some_iff.1 hu).1
      rw [labCells_length] at hj
      obtain ⟨b, o', e, _, c0, c1⟩ := hcells (j / 2) (by omega)
      cases e
      obtain ⟨a0, a1⟩ := labCells_at ms (j / 2) (by omega)
      rw [Addr.add_lit]
      rcases Nat.mod_two_eq_zero_or_one j with hj2 | hj2
      · have ej : j / 2 * 2 = j := by omega
        rw [ej] at a0 c0
        rw [a0] at hu
        cases hu
        exact c0
      · have ej : j / 2 * 2 + 1 = j := by omega
        rw [ej] at a1
        rw [a1] at hu
        cases hu
        rw [show o' + j = o' + j / 2 * 2 + 1 by omega]
        exact c1
    refine wp_append_own w s x 57 ho base 107 i0 _ 2 32 Tryz.underlying57 hi0 hz0 hz1 hz2 zeroLab (by omega) _ vs.length (labCells vs) hs hown ad ms.length bc (labCells ms) hx (labCells_length ms) hnews (labCells_one ms) (by unfold maxLen; omega) (by omega) hbase ?_
    intro v' w' hown' hgrow _
    exact done w' v' hown' ((Below.refl base w).grown hgrow hbase (fun k hk => (hown.lt k hk).1))
set_option maxRecDepth 20000 in
set_option maxHeartbeats 1000000 in
theorem growLabels_any (w : World) (n : Nat) (hn : n ≤ 1000) : Calls Tryz.prog 143 #[.slice none 0 0, .int .i64 n] w fun e w' => ∃ ao cp, e = .returned (.slice ao 0 cp) ∧ ownLabels w' w.heap.size (.slice ao 0 cp) [] ∧ Below w.heap.size w w' := by
  obtain ⟨i0, hi0, hz0, hz1, hz2⟩ := info_parts Tryz.infoL
  by_cases h0 : n = 0
  · subst h0
    go_enter Tryz.func143, Tryz.ntmps143
    go_wp2
    go_ret
    exact ⟨none, 0, rfl, World.ownsRow_nil _ _ _ _, Below.refl _ _⟩
  · have h0' : 0 < n := by omega
    have hr := Lib.run_append_nil_zeros (P := Tryz.prog) w 57 3 57 107 i0 _ .i64 .i64 Tryz.underlying57 Tryz.underlying3 hi0 hz0 n h0' (by omega) (by omega) (by rw [hz2]; omega)
    have hcap : grownCap w n 0 107 ≤ maxLen := grownCap_le_maxLen w n 0 _ (by unfold maxLen; omega)
    have hcge := grownCap_ge w n 0 107
    obtain ⟨cp, HCp⟩ : ∃ cp, Hid (grownCap w n 0 107 = cp) := ⟨_, hide rfl⟩
    rw [HCp.out] at hr hcap hcge
    obtain ⟨cs, HCs⟩ : ∃ cs, Hid (Builtin.zeroCells (Value.agg #[.string ByteArray.empty, .string ByteArray.empty]).cells n ++ Builtin.zeroCells (Value.agg #[.string ByteArray.empty, .string ByteArray.empty]).cells (cp - n) = cs) := ⟨_, hide rfl⟩
    rw [HCs.out] at hr
    have hcs : cs.size = cp * 2 := by
      rw [← HCs.out, Array.size_append, size_zeroCells, size_zeroCells, zeroLab]
      omega
    have HR := hide hr
    clear hr
    have hn' : (0 : Int) < n := by omega
    go_enter Tryz.func143, Tryz.ntmps143
    go_wp2_with (at_builtin; refine Lib.wpList_append_run _ rfl _ _ _ _ rfl _ _ rfl rfl _ _ HR.out ?_)
    go_ret
    exact ⟨some ⟨w.heap.size, 0, none⟩, cp, rfl, ⟨rfl, .inr ⟨w.heap.size, cp, cs, rfl, Nat.le_refl _, heap_alloc_new w.drew _, Nat.zero_le _, hcap, hcs, by simp [labCells]⟩⟩, (show Below w.heap.size w w.drew from ⟨rfl, rfl, rfl, Nat.le_refl _, fun _ _ => rfl⟩).alloc (Nat.le_refl _) _⟩
set_option maxRecDepth 20000 in
set_option maxHeartbeats 1000000 in
theorem concat_any (w : World) (g : Nat) (va vb : Value) (t : TypeId) (a b : List Lab) (hg : w.heap[g]? = some (.cells #[va, vb] t (0, 0))) (ha : readsLabels w w.heap.size va a) (hb : readsLabels w w.heap.size vb b) (hal : a.length ≤ 100) (hbl : b.length ≤ 100) :
    Calls Tryz.prog 116 #[.slice (some ⟨g, 0, none⟩) 2 2] w fun e w' => ∃ ao cp, e = .returned (.slice ao (a.length + b.length) cp) ∧ ownLabels w' w.heap.size (.slice ao (a.length + b.length) cp) (a ++ b) ∧ Below w.heap.size w w' := by
  obtain ⟨c0, c1⟩ := two_cells hg
  have hgl := lt_of_block hg
  obtain ⟨ao, ac, hva⟩ := readsLabels_len ha
  obtain ⟨bo, bc, hvb⟩ := readsLabels_len hb
  have HA := hide ha
  have HB := hide hb
  clear ha hb hg
  subst hva hvb
  go_enter Tryz.func116, Tryz.ntmps116
  go_wp2
  refine wp_loop_rounds 3 ?_
  rw [rounds_succ]
  go_wp2
  rw [rounds_succ]
  go_wp2
  rw [rounds_succ]
  go_wp2_with fail
  have e1 : (a.length : Int) + (b.length : Int) = ((a.length + b.length : Nat) : Int) := by omega
  rw [e1]
  refine (growLabels_any w (a.length + b.length) (by omega)).mono ?_
  rintro e w1 ⟨o1, p1, rfl, hown1, hb1⟩
  have hs1 := hb1.size
  have d0 := (hb1.cell (p := ⟨g, 0, none⟩) hgl).trans c0
  have d1 := (hb1.cell (p := ⟨g, 1, none⟩) hgl).trans c1
  have HO1 := hide hown1
  have HA1 := hide (readsLabels_mono (readsLabels_below HA.out hb1) hs1)
  clear hown1 c0 c1 e1
  go_wp2
  refine wp_loop_rounds 3 ?_
  rw [rounds_succ]
  go_wp2_with (at_builtin; refine append_labels (by rfl) _ _ rfl w.heap.size w1.heap.size 0 a.length a.length _ _ [] a rfl rfl rfl rfl (by omega) HO1.out HA1.out (by omega) hs1 ?_; intro o2 p2 w2 hown2 hb2)
  have hb02 : Below w.heap.size w w2 := hb1.trans hb2
  have hs2 := hb02.size
  have HB2 := hide (readsLabels_mono (readsLabels_below HB.out hb02) hs2)
  have d2 := (hb2.cell (p := ⟨g, 1, none⟩) hgl).trans d1
  have HO2 := hide hown2
  clear d0 d1 hown2
  rw [rounds_succ]
  go_wp2_with (at_builtin; refine append_labels (by rfl) _ _ rfl w.heap.size w2.heap.size a.length b.length (a.length + b.length) _ _ a b rfl rfl rfl rfl rfl HO2.out HB2.out (by omega) hs2 ?_; intro o3 p3 w3 hown3 hb3)
  rw [rounds_succ]
  go_wp2
  go_ret
  exact ⟨o3, p3, rfl, hown3, hb02.trans hb3⟩
theorem filter_take (l : List Lab) (p : Lab → Bool) (k : Nat) (h : k < l.length) : (l.take (k + 1)).filter p = (l.take k).filter p ++ (if p l[k] = true then [l[k]] else []) := by
  rw [List.take_succ_eq_append_getElem h, List.filter_append]
  by_cases e : p l[k] = true
  · rw [if_pos e]; simp [e]
  · rw [if_neg e]; simp [e]
end Go.Proofs.YtkaeogldielkfaaGreat.Lb
