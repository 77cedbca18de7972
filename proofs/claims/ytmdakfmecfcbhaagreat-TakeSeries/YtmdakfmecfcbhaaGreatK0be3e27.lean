/- 1 texts in one. -/
import Derived.Laws.OwnMore
import Derived.Laws.CopyRow
import Derived.Laws.CopyOwn
import Derived.Laws.Externs
import Derived.Lib.AppendZerosOnto
import Derived.Lib.Overlaps
import Derived.Deep.AppendLies
import Derived.Maps.AppendAt
import Derived.Shelf.RegionOpenPlain
import Derived.Test.YtmdakfmecfcbhaaGreatProg
import Derived.Test.YtmdakfmecfcbhaaGreatK7e06493
import Derived.Test.YtmdakfmecfcbhaaGreatK14d8a0b
import Derived.Test.YtmdakfmecfcbhaaGreatKbe49eb6
import Derived.BigQuiet
set_option linter.unusedVariables false
set_option linter.unusedSimpArgs false
namespace Go.Proofs.YtmdakfmecfcbhaaGreat.Tk
open Go.RowKit Go.Shelf
attribute [local go_sem] bs_size bs_toList bs_append bs_get bs_extract
theorem infoSer2 : (Tryz.prog.info? 41).map (fun i => (i.zero, i.size, i.bytes)) = some (some (.agg #[.slice none 0 0, .slice none 0 0]), 2, 48) := by kernel_rfl
/-- 'copy' over elements of two cells. -/
theorem run_copy_row2 {P : Program} (w : World) (dT sT ty elem : TypeId) (g o dLen dCap : Nat) (a : Addr) (sLen sCap : Nat) (cur : Array Value) (t : TypeId) (cs : List Value)
    (hu : P.underlying dT = some (.slice elem)) (hs : (P.info? elem).map (·.size) = some 2)
    (hg : w.heap[g]? = some (.cells cur t (0, 0))) (hn : cs.length = Nat.min sLen dLen * 2)
    (hsrc : ∀ j v, cs[j]? = some v → w.cell? (a.add j) = some v) (hfit : o + cs.length ≤ cur.size) (h1 : ∀ v ∈ cs, v.oneCell' = true) :
    (Builtin.copy_ #[dT, sT] ty #[.slice (some ⟨g, o, none⟩) dLen dCap, .slice (some a) sLen sCap]).run P w =
      .ok (goInt (Nat.min sLen dLen)) (w.setRow g (cur.toList.take o ++ cs ++ cur.toList.drop (o + cs.length)).toArray) := by
  have hl := run_loadCells_list (P := P) w a cs hsrc
  have hst := run_storeCells_at P g o t cs 0 cur w hg (by simpa using hfit) h1
  cases hq : P.info? elem with
  | none => simp [hq] at hs
  | some i =>
    have hi : i.size = 2 := by simpa [hq] using hs
    simp [Builtin.copy_, run_underlying hu, Builtin.lenOf, Builtin.firstCells, sizeOf, typeInfo, hq, hi, ← hn, hl, hst]
theorem wpList_copy2 {P : Program} {w : World} {ops : Array Oper} {rest : List Oper} {o : Oper} {a : Act} {Q : Exit → Act → World → Prop} (hgd : o.guard = none) (d s : Operand) (t t' : TypeId)
    (ho : o.op = .call { callee := .builtin .copy, args := #[d, s], argTypes := #[t, t'] }) (v u : Value) (hd : a.eval d = v) (hs : a.eval s = u) {v' : Value} {w' : World}
    (hr : ∀ ty, (Builtin.copy_ #[t, t'] ty #[v, u]).run P w = .ok v' w') (h : wpList P ops Q rest (a.put o.dst v') w') : wpList P ops Q (o :: rest) a w := by
  refine wpList_plain hgd fun K hK => ?_
  unfold Oper.wp
  simp [execOp, ho, resolve, invoke, builtin, hd, hs, hr, Result.andThen]
  exact hK _ _ h
theorem wpList_app2 {P : Program} {w : World} {ops : Array Oper} {rest : List Oper} {o : Oper} {a : Act} {Q : Exit → Act → World → Prop} (hgd : o.guard = none) (d s : Operand) (t t' : TypeId)
    (ho : o.op = .call { callee := .builtin .append, args := #[d, s], argTypes := #[t, t'] }) (v u : Value) (hd : a.eval d = v) (hs : a.eval s = u) {v' : Value} {w' : World}
    (hr : ∀ ty, (Builtin.append_ #[t, t'] ty #[v, u]).run P w = .ok v' w') (h : wpList P ops Q rest (a.put o.dst v') w') : wpList P ops Q (o :: rest) a w := by
  refine wpList_plain hgd fun K hK => ?_
  unfold Oper.wp
  simp [execOp, ho, resolve, invoke, builtin, hd, hs, hr, Result.andThen]
  exact hK _ _ h
theorem step_copy2 {P : Program} {ops : Array Oper} {o : Oper} {a : Act} {w : World} {K : Act → World → Prop} {Q : Exit → Act → World → Prop} {E : Prop}
    (hg : o.guard = none) (d x : Operand) (dT sT : TypeId) (hop : o.op = Op.call { callee := Callee.builtin Builtin.copy, args := #[d, x], argTypes := #[dT, sT] })
    (v u : Value) (hd : a.eval d = v) (hx : a.eval x = u) {v' : Value} {w' : World} (hr : ∀ ty, (Builtin.copy_ #[dT, sT] ty #[v, u]).run P w = .ok v' w') (hK : K (a.put o.dst v') w') :
    if Region.wanted o (yielded ops a.tmps) = true then Oper.wp P o a w K Q else E := by
  have hw : Region.wanted o (yielded ops a.tmps) = true := by simp [Region.wanted, hg]
  rw [if_pos hw]
  unfold Oper.wp
  simp [execOp, hop, resolve, invoke, builtin, hd, hx, hr, Result.andThen]
  exact hK
theorem grown_setRow {w w0 : World} {g : Nat} {cs : Array Value} (h : w0.grownBy w (some g)) : w0.grownBy (w.setRow g cs) (some g) :=
  ⟨h.os, h.tape, h.output, by simpa [World.setRow] using h.size, fun k hk hn => (setRow_other w g k cs (fun e => hn (by rw [e]))).trans (h.block k hk hn)⟩
theorem grown_refl (w : World) (r : Option Nat) : w.grownBy w r := ⟨rfl, rfl, rfl, Nat.le_refl _, fun _ _ _ => rfl⟩
/-- The lists of the two roads. -/
theorem splice_room (cur : List Value) (i n : Nat) (hi : i < n) (hc : (n + 1) * 2 ≤ cur.length) (a b : Value) :
    let cs := (cur.take (n * 2)).drop (i * 2)
    let c1 := cur.take ((i + 1) * 2) ++ cs ++ cur.drop ((i + 1) * 2 + cs.length)
    let c2 := c1.take (i * 2) ++ [a, b] ++ c1.drop (i * 2 + 2)
    c1.length = cur.length ∧ c2.length = cur.length ∧ c2.take ((n + 1) * 2) = (cur.take (n * 2)).take (i * 2) ++ [a, b] ++ (cur.take (n * 2)).drop (i * 2) := by
  intro cs c1 c2
  have hcs : cs.length = (n - i) * 2 := by simp only [cs, List.length_drop, List.length_take]; omega
  have h1 : c1.length = cur.length := by
    simp only [c1, List.length_append, List.length_take, List.length_drop, hcs]; omega
  have e1 : c1.take (i * 2) = cur.take (i * 2) := by
    simp only [c1]
    rw [List.append_assoc, List.take_append_of_le_length (by rw [List.length_take]; omega), List.take_take]
    congr 1; omega
  have e2 : c1.drop (i * 2 + 2) = cs ++ cur.drop ((i + 1) * 2 + cs.length) := by
    simp only [c1]
    rw [List.append_assoc, List.drop_append_of_le_length (by rw [List.length_take]; omega), List.drop_eq_nil_of_le (by rw [List.length_take]; omega), List.nil_append]
  have h2 : c2.length = cur.length := by
    simp only [c2, List.length_append, List.length_take, List.length_drop, h1, List.length_cons, List.length_nil]; omega
  refine ⟨h1, h2, ?_⟩
  simp only [c2]
  rw [e1, e2, List.take_take, show min (i * 2) (n * 2) = i * 2 by omega]
  rw [List.append_assoc, List.append_assoc, List.take_append, List.length_take, show min (i * 2) cur.length = i * 2 by omega, List.take_of_length_le (by rw [List.length_take]; omega)]
  congr 1
  show List.take ((n + 1) * 2 - i * 2) ([a, b] ++ (cs ++ _)) = _
  rw [List.take_append, List.take_of_length_le (by simp; omega)]
  congr 1
  rw [List.take_append_of_le_length (by rw [hcs]; simp; omega), List.take_of_length_le (by rw [hcs]; simp; omega)]
theorem splice_grow (xs zs : List Value) (i n : Nat) (hi : i < n) (hx : xs.length = n * 2) (hz : (n + 1 - i) * 2 ≤ zs.length) (a b : Value) :
    let c0 := xs.take (i * 2) ++ zs
    let c1 := c0.take (i * 2) ++ [a, b] ++ c0.drop (i * 2 + 2)
    let cs := xs.drop (i * 2)
    let c2 := c1.take ((i + 1) * 2) ++ cs ++ c1.drop ((i + 1) * 2 + cs.length)
    c1.length = c0.length ∧ c2.length = c0.length ∧ c2.take ((n + 1) * 2) = xs.take (i * 2) ++ [a, b] ++ xs.drop (i * 2) := by
  intro c0 c1 cs c2
  have hcs : cs.length = (n - i) * 2 := by simp only [cs, List.length_drop, hx]; omega
  have h0 : c0.length = i * 2 + zs.length := by simp only [c0, List.length_append, List.length_take, hx]; omega
  have h1 : c1.length = c0.length := by
    simp only [c1, List.length_append, List.length_take, List.length_drop, h0, List.length_cons, List.length_nil]; omega
  have e0 : c0.take (i * 2) = xs.take (i * 2) := by
    simp only [c0]
    rw [List.take_append_of_le_length (by rw [List.length_take]; omega), List.take_take]
    congr 1; omega
  have e1 : c1.take ((i + 1) * 2) = xs.take (i * 2) ++ [a, b] := by
    simp only [c1]
    rw [e0, List.take_append_of_le_length (by simp only [List.length_append, List.length_take, hx, List.length_cons, List.length_nil]; omega), List.take_of_length_le (by simp only [List.length_append, List.length_take, hx, List.length_cons, List.length_nil]; omega)]
  have h2 : c2.length = c0.length := by
    simp only [c2, List.length_append, List.length_take, List.length_drop, h1, h0, hcs]; omega
  refine ⟨h1, h2, ?_⟩
  simp only [c2]
  rw [e1, List.append_assoc, List.take_append, List.take_of_length_le (by simp only [List.length_append, List.length_take, hx, List.length_cons, List.length_nil]; omega)]
  congr 1
  rw [List.take_append_of_le_length (by rw [hcs]; simp only [List.length_append, List.length_take, hx, List.length_cons, List.length_nil]; omega), List.take_of_length_le (by rw [hcs]; simp only [List.length_append, List.length_take, hx, List.length_cons, List.length_nil]; omega)]
set_option maxRecDepth 20000 in
set_option maxHeartbeats 2000000 in
theorem insert_any (w : World) (B : Nat) (v : Value) (n i : Nat) (xs : List Value) (hown : w.ownsRow B 41 2 v n xs) (hxs : ∀ u ∈ xs, u.oneCell' = true) (hi : i ≤ n) (hn : n ≤ 1000000) (hB : B ≤ w.heap.size) (nb : Nat) (a b : Value) (hnb : w.heap[nb]? = some (.cells #[a, b] 41 (0, 0))) (ha : a.oneCell' = true) (hb : b.oneCell' = true) (hne : v.ownBlock ≠ some nb) :
    Calls Tryz.prog 56 #[v, .int .i64 i, .slice (some ⟨nb, 0, none⟩) 1 1] w fun e w' => ∃ v', e = .returned v' ∧ w'.ownsRow B 41 2 v' (n + 1) (xs.take (i * 2) ++ [a, b] ++ xs.drop (i * 2)) ∧ w.grownBy w' v.ownBlock ∧ (v'.ownBlock = v.ownBlock ∨ v'.ownBlock = some w.heap.size) := by
  obtain ⟨i0, hi0, hz0, hz1, hz2⟩ := info_parts infoSer2
  have hnews : ∀ (q : Nat) (u : Value), ([a, b] : List Value)[q]? = some u → w.cell? ((⟨nb, 0, none⟩ : Addr).add q) = some u := World.news_of_block hnb
  have hone : ∀ u ∈ ([a, b] : List Value), u.oneCell' = true := fun u hu => by
    rcases List.mem_cons.1 hu with rfl | hu
    · exact ha
    · rcases List.mem_cons.1 hu with rfl | hu
      · exact hb
      · simp at hu
  by_cases hin : i = n
  · subst hin
    obtain ⟨ao, cp, hvv⟩ := own_shape hown
    have hicap : i ≤ cp := by
      rcases hown.2 with ⟨h1, h2⟩ | ⟨g, cap, cur, h1, h2, h3, h4, _⟩
      · omega
      · rw [hvv] at h1; cases h1; exact h4
    have HO := hide hown
    have HN := hide hnews
    have hil : xs.take (i * 2) = xs := List.take_of_length_le (by rw [hown.1]; omega)
    have hid : xs.drop (i * 2) = [] := List.drop_eq_nil_of_le (by rw [hown.1]; omega)
    rw [hil, hid]
    subst hvv
    have HX : Hid (xs ++ [a, b] ++ [] = xs ++ [a, b]) := hide (List.append_nil _)
    clear hown hnews hil hid hxs
    by_cases hc : cp = i
    all_goals (
      first | subst hc | skip
      go_enter Tryz.func56, Tryz.ntmps56
      go_wp2_with (at_builtin; go_loud (refine wpList_append_own_at _ rfl _ _ 22 rfl B 41 i0 _ 2 48 Tryz.underlying22 hi0 hz0 hz1 hz2 rfl (by decide) _ _ xs rfl HO.out ⟨nb, 0, none⟩ 1 1 [a, b] rfl rfl HN.out hone (by unfold maxLen; omega) (by omega) hB ?_))
      intro v' w2 hown' hgrow _ hat
      obtain ⟨vo, vc, rfl⟩ := own_shape hown'
      have HAT := hide hat
      have HO2 := hide hown'
      have HG2 := hide hgrow
      clear hown' hgrow hat
      go_wp2
      go_ret
      exact ⟨_, rfl, by rw [HX.out]; exact HO2.out, HG2.out, HAT.out⟩)
  · have hlt : i < n := by omega
    obtain ⟨g, cap, cur, rfl, hgB, hg, hnc, hcm, hcs, hct⟩ : ∃ g cap cur, v = .slice (some ⟨g, 0, none⟩) n cap ∧ B ≤ g ∧ w.heap[g]? = some (.cells cur 41 (0, 0)) ∧ n ≤ cap ∧ cap ≤ maxLen ∧ cur.size = cap * 2 ∧ cur.toList.take (n * 2) = xs := by
      rcases hown.2 with ⟨h1, h2⟩ | h
      · omega
      · exact h
    have hgn : nb ≠ g := fun e => hne (by rw [e]; rfl)
    have hsz : (Tryz.prog.info? 41).map (·.size) = some 2 := by rw [hi0]; simp [hz1]
    have hili : ¬ ((i : Int) = (n : Int)) := by omega
    have hxl : xs.length = n * 2 := hown.1
    have hb4 : ¬ (cap = i) := by omega
    have hin1 : (i : Int) ≤ (n : Int) := by omega
    have hsrcX : ∀ (W : World), W.heap[g]? = some (.cells cur 41 (0, 0)) → ∀ j u, (xs.drop (i * 2))[j]? = some u → W.cell? ((⟨g, i * 2, none⟩ : Addr).add j) = some u := fun W hW j u hj => by
      rw [List.getElem?_drop, ← hct] at hj
      have hjj : i * 2 + j < n * 2 := by
        rcases Nat.lt_or_ge (i * 2 + j) (n * 2) with h | h
        · exact h
        · rw [List.getElem?_eq_none (by rw [List.length_take]; omega)] at hj; cases hj
      rw [List.getElem?_take_of_lt hjj] at hj
      rw [Addr.add_lit]
      simp only [World.cell?, hW]
      simpa using hj
    have hdl : (xs.drop (i * 2)).length = (n - i) * 2 := by rw [List.length_drop, hxl]; omega
    by_cases hroom : n + 1 ≤ cap
    · have hroomi : (n : Int) + 1 ≤ (cap : Int) := by omega
      have hnr : ¬ ((cap : Int) < (n : Int) + 1) := by omega
      obtain ⟨l1, l2, l3⟩ := splice_room cur.toList i n hlt (by rw [Array.length_toList, hcs]; omega) a b
      rw [hct] at l1 l2 l3
      obtain ⟨C1, hC1⟩ : ∃ C1 : List Value, cur.toList.take ((i + 1) * 2) ++ xs.drop (i * 2) ++ cur.toList.drop ((i + 1) * 2 + (xs.drop (i * 2)).length) = C1 := ⟨_, rfl⟩
      rw [hC1] at l1 l2 l3
      obtain ⟨C2, hC2⟩ : ∃ C2 : List Value, C1.take (i * 2) ++ [a, b] ++ C1.drop (i * 2 + 2) = C2 := ⟨_, rfl⟩
      rw [hC2] at l2 l3
      have hov : ∀ lb cb, (callFunc 85 #[.slice (some ⟨nb, 0, none⟩) 1 1, .slice (some ⟨g, (i + 1) * 2, none⟩) lb cb]).run Tryz.prog w = .ok (.value (.bool false)) w := fun lb cb => by
        rw [run_callFunc_extern Tryz.func85 (by kernel_rfl) (by kernel_rfl) (by kernel_rfl) (e := Extern.SlicesOverlaps.overlaps #[22, 22] #[4]) (by kernel_rfl),
          Lib.run_overlaps_apart w 22 4 41 Tryz.underlying22 2 Tryz.sizeOf41 ⟨nb, 0, none⟩ ⟨g, (i + 1) * 2, none⟩ 1 1 lb cb hgn 41 41 2 (cap * 2) (by simp [World.shape?, hnb]) (by simp [World.shape?, hg, hcs]) (by omega) (by simp only [World.frozen?, hnb]; rfl) (by simp only [World.frozen?, hnb]; rfl)]
        rfl
      have hcpA : ∀ ty dc sc, (Builtin.copy_ #[22, 22] ty #[.slice (some ⟨g, (i + 1) * 2, none⟩) (n - i) dc, .slice (some ⟨g, i * 2, none⟩) (n + 1 - i) sc]).run Tryz.prog w.drew = .ok (goInt ((n - i : Nat) : Int)) (w.drew.setRow g C1.toArray) := fun ty dc sc => by
        have := run_copy_row2 (P := Tryz.prog) w.drew 22 22 ty 41 g ((i + 1) * 2) (n - i) dc ⟨g, i * 2, none⟩ (n + 1 - i) sc cur 41 (xs.drop (i * 2)) Tryz.underlying22 hsz hg (by rw [hdl]; congr 1; simp only [Nat.min_def]; split <;> omega) (hsrcX w.drew hg) (by rw [hdl, hcs]; omega) (fun u hu => hxs u (List.mem_of_mem_drop hu))
        rw [hC1, show Nat.min (n + 1 - i) (n - i) = n - i by simp only [Nat.min_def]; split <;> omega] at this
        exact this
      obtain ⟨W1, hW1⟩ : ∃ W1, w.drew.setRow g C1.toArray = W1 := ⟨_, rfl⟩
      have hg1 : W1.heap[g]? = some (.cells C1.toArray 41 (0, 0)) := by rw [← hW1]; exact setRow_heap w.drew g cur _ _ _ hg
      have hnb1 : W1.heap[nb]? = some (.cells #[a, b] 41 (0, 0)) := by rw [← hW1, setRow_other _ _ _ _ hgn]; exact hnb
      have hcpB : ∀ ty dc, (Builtin.copy_ #[22, 22] ty #[.slice (some ⟨g, i * 2, none⟩) (n + 1 - i) dc, .slice (some ⟨nb, 0, none⟩) 1 1]).run Tryz.prog W1 = .ok (goInt 1) (W1.setRow g C2.toArray) := fun ty dc => by
        have := run_copy_row2 (P := Tryz.prog) W1 22 22 ty 41 g (i * 2) (n + 1 - i) dc ⟨nb, 0, none⟩ 1 1 C1.toArray 41 [a, b] Tryz.underlying22 hsz hg1 (by rw [show Nat.min 1 (n + 1 - i) = 1 by simp only [Nat.min_def]; split <;> omega]; rfl) (World.news_of_block hnb1) (by simp only [List.size_toArray, l1, Array.length_toList, hcs, List.length_cons, List.length_nil]; omega) hone
        rw [show Nat.min 1 (n + 1 - i) = 1 by simp only [Nat.min_def]; split <;> omega] at this
        simp only [List.length_cons, List.length_nil] at this
        rw [hC2] at this
        exact this
      have hgB2 : w.grownBy (W1.setRow g C2.toArray) (some g) := by
        refine grown_setRow ?_
        rw [← hW1]
        exact grown_setRow ⟨rfl, rfl, rfl, Nat.le_refl _, fun _ _ _ => rfl⟩
      have hO2 : (W1.setRow g C2.toArray).ownsRow B 41 2 (.slice (some ⟨g, 0, none⟩) (n + 1) cap) (n + 1) (xs.take (i * 2) ++ [a, b] ++ xs.drop (i * 2)) :=
        ⟨by simp only [List.length_append, List.length_take, List.length_drop, hxl, List.length_cons, List.length_nil]; omega, .inr ⟨g, cap, C2.toArray, rfl, hgB, setRow_heap W1 g _ _ _ _ hg1, hroom, hcm, by simp only [List.size_toArray, l2, Array.length_toList, hcs], l3⟩⟩
      have HO2 := hide hO2
      have HG2 := hide hgB2
      have mixed : Tryz.prog.follows .mixedOrders = true := by kernel_rfl
      have hb5 : ¬ (cap = i + 1) := by omega
      have hb6 : (i : Int) + 1 ≤ (n : Int) + 1 := by omega
      have hb7 : (i : Int) ≤ (n : Int) + 1 := by omega
      have hw1 : IntKind.i64.wrap ((i : Int) + 1) = (i : Int) + 1 := by rw [IntKind.wrap_i64]; omega
      have htn : ((i : Int) + 1).toNat = i + 1 := by omega
      have hb8 : (0 : Int) ≤ (i : Int) + 1 := by omega
      clear hO2 hgB2 l1 l2 l3 hC1 hC2 hown hnews hcs hct hsrcX hg hnb hg1 hnb1 hxs hone hdl hxl
      rw [hW1] at hcpA
      go_enter Tryz.func56, Tryz.ntmps56
      go_wp2_with (simp only [hov])
      go_region_law_o (refine step_copy2 rfl _ _ 22 22 rfl _ _ (by simp [Act.eval, Act.put]) (by simp [Act.eval, Act.put]) (fun ty => hcpA ty _ _) ?_)
      go_wp2_with (at_builtin; refine wpList_copy2 rfl _ _ 22 22 rfl _ _ rfl rfl (fun ty => hcpB ty _) ?_)
      go_ret
      exact ⟨_, rfl, HO2.out, HG2.out, .inl rfl⟩
    · have hcn : n = cap := by omega
      subst hcn
      obtain ⟨gc, hgc⟩ : ∃ gc, grownCap w (n + 1) n 41 = gc := ⟨_, rfl⟩
      have hge : n + 1 ≤ gc := by rw [← hgc]; exact grownCap_ge w (n + 1) n 41
      have hgm : gc ≤ maxLen := by rw [← hgc]; exact grownCap_le_maxLen w (n + 1) n 41 (by unfold maxLen; omega)
      obtain ⟨k, hk⟩ : ∃ k, n + 1 - i = k := ⟨_, rfl⟩
      have hik : i + k = n + 1 := by omega
      have hk1 : k = n - i + 1 := by omega
      have hki : (n : Int) + 1 - (i : Int) = (k : Int) := by omega
      have hold : (Builtin.firstCells i0.size i (.slice (some ⟨g, 0, none⟩) i n)).run Tryz.prog w.drew = .ok (xs.take (i * 2)).toArray w.drew := by
        have hl := run_loadCells_list (P := Tryz.prog) w.drew ⟨g, 0, none⟩ (xs.take (i * 2)) (fun j u hj => by
          have hjj : j < i * 2 := by
            rcases Nat.lt_or_ge j (i * 2) with h | h
            · exact h
            · rw [List.getElem?_eq_none (by rw [List.length_take]; omega)] at hj; cases hj
          rw [List.getElem?_take_of_lt hjj, ← hct, List.getElem?_take_of_lt (by omega)] at hj
          rw [Addr.add_lit]
          show World.cell? w _ = _
          simp only [World.cell?, hg]
          simpa using hj)
        have hll : (xs.take (i * 2)).length = i * 2 := by rw [List.length_take, hxl]; omega
        rw [hll] at hl
        simp [Builtin.firstCells, hz1, hl]
      obtain ⟨Z, hZ⟩ : ∃ Z : Array Value, Builtin.zeroCells (Value.agg #[.slice none 0 0, .slice none 0 0]).cells k ++ Builtin.zeroCells (Value.agg #[.slice none 0 0, .slice none 0 0]).cells (gc - (n + 1)) = Z := ⟨_, rfl⟩
      have hap0 : ∀ ty, (Builtin.append_ #[22, 3] ty #[.slice (some ⟨g, 0, none⟩) i n, .int .i64 (k : Nat)]).run Tryz.prog w = .ok (.slice (some ⟨w.heap.size, 0, none⟩) (n + 1) gc) (w.drew.alloc (.cells ((xs.take (i * 2)).toArray ++ Z) 41)) := fun ty => by
        have := Lib.run_append_grow_zeros (P := Tryz.prog) w 22 3 ty 41 i0 _ .i64 .i64 Tryz.underlying22 Tryz.underlying3 hi0 hz0 (some ⟨g, 0, none⟩) i n _ hold k (by omega) (by omega) (by omega) (by omega) (by rw [hz2]; omega) (by rw [hz2]; exact growslice_fits (by omega) (by omega))
        rw [hik, hgc, Array.append_assoc, hZ] at this
        exact this
      obtain ⟨C0, hC0⟩ : ∃ C0 : List Value, xs.take (i * 2) ++ Z.toList = C0 := ⟨_, rfl⟩
      have hzl : Z.toList.length = (k + (gc - (n + 1))) * 2 := by
        rw [← hZ, Array.length_toList, Array.size_append, size_zeroCells, size_zeroCells]
        show k * 2 + (gc - (n + 1)) * 2 = _
        omega
      have hW0 : ((xs.take (i * 2)).toArray ++ Z) = C0.toArray := by rw [← hC0]; simp
      rw [hW0] at hap0
      obtain ⟨l1, l2, l3⟩ := splice_grow xs Z.toList i n hlt hxl (by rw [hzl]; omega) a b
      rw [hC0] at l1 l2 l3
      have l0 : C0.length = gc * 2 := by rw [← hC0, List.length_append, List.length_take, hxl, hzl]; omega
      obtain ⟨C1, hC1⟩ : ∃ C1 : List Value, C0.take (i * 2) ++ [a, b] ++ C0.drop (i * 2 + 2) = C1 := ⟨_, rfl⟩
      rw [hC1] at l1 l2 l3
      obtain ⟨C2, hC2⟩ : ∃ C2 : List Value, C1.take ((i + 1) * 2) ++ xs.drop (i * 2) ++ C1.drop ((i + 1) * 2 + (xs.drop (i * 2)).length) = C2 := ⟨_, rfl⟩
      rw [hC2] at l2 l3
      obtain ⟨W0, hW0e⟩ : ∃ W0, w.drew.alloc (.cells C0.toArray 41) = W0 := ⟨_, rfl⟩
      have hG0 : Grow w.drew W0 := by rw [← hW0e]; exact (Grow.refl _).alloc _
      have hs0 : W0.heap[w.heap.size]? = some (.cells C0.toArray 41 (0, 0)) := by rw [← hW0e]; exact heap_alloc_new _ _
      have hnb0 : W0.heap[nb]? = some (.cells #[a, b] 41 (0, 0)) := hG0.get hnb
      have hg0 : W0.heap[g]? = some (.cells cur 41 (0, 0)) := hG0.get hg
      have hgw : g ≠ w.heap.size := by have := lt_of_block hg; omega
      have hnw : nb ≠ w.heap.size := by have := lt_of_block hnb; omega
      rw [hW0e] at hap0
      have hcpA : ∀ ty dc, (Builtin.copy_ #[22, 22] ty #[.slice (some ⟨w.heap.size, i * 2, none⟩) (n + 1 - i) dc, .slice (some ⟨nb, 0, none⟩) 1 1]).run Tryz.prog W0 = .ok (goInt 1) (W0.setRow w.heap.size C1.toArray) := fun ty dc => by
        have := run_copy_row2 (P := Tryz.prog) W0 22 22 ty 41 w.heap.size (i * 2) (n + 1 - i) dc ⟨nb, 0, none⟩ 1 1 C0.toArray 41 [a, b] Tryz.underlying22 hsz hs0 (by rw [show Nat.min 1 (n + 1 - i) = 1 by simp only [Nat.min_def]; split <;> omega]; rfl) (World.news_of_block hnb0) (by simp only [List.size_toArray, l0, List.length_cons, List.length_nil]; omega) hone
        rw [show Nat.min 1 (n + 1 - i) = 1 by simp only [Nat.min_def]; split <;> omega] at this
        simp only [List.length_cons, List.length_nil] at this
        rw [hC1] at this
        exact this
      obtain ⟨W1, hW1⟩ : ∃ W1, W0.setRow w.heap.size C1.toArray = W1 := ⟨_, rfl⟩
      have hs1 : W1.heap[w.heap.size]? = some (.cells C1.toArray 41 (0, 0)) := by rw [← hW1]; exact setRow_heap W0 _ _ _ _ _ hs0
      have hg1 : W1.heap[g]? = some (.cells cur 41 (0, 0)) := by rw [← hW1, setRow_other _ _ _ _ hgw]; exact hg0
      have hcpB : ∀ ty dc sc, (Builtin.copy_ #[22, 22] ty #[.slice (some ⟨w.heap.size, (i + 1) * 2, none⟩) (n - i) dc, .slice (some ⟨g, i * 2, none⟩) (n - i) sc]).run Tryz.prog W1.drew = .ok (goInt ((n - i : Nat) : Int)) (W1.drew.setRow w.heap.size C2.toArray) := fun ty dc sc => by
        have := run_copy_row2 (P := Tryz.prog) W1.drew 22 22 ty 41 w.heap.size ((i + 1) * 2) (n - i) dc ⟨g, i * 2, none⟩ (n - i) sc C1.toArray 41 (xs.drop (i * 2)) Tryz.underlying22 hsz hs1 (by rw [hdl]; congr 1; simp only [Nat.min_def]; split <;> omega) (hsrcX W1.drew hg1) (by simp only [List.size_toArray, l1, l0, hdl]; omega) (fun u hu => hxs u (List.mem_of_mem_drop hu))
        rw [show Nat.min (n - i) (n - i) = n - i by simp only [Nat.min_def]; split <;> omega] at this
        simp only at this
        rw [hC2] at this
        exact this
      have hgB2 : w.grownBy (W1.drew.setRow w.heap.size C2.toArray) (some g) := by
        have e1 : Grow w W0 := Grow.trans (⟨rfl, rfl, rfl, Nat.le_refl _, fun _ _ => rfl⟩ : Grow w w.drew) hG0
        refine ⟨?_, ?_, ?_, ?_, fun q hq hqn => ?_⟩
        · rw [← hW1]; exact e1.os
        · rw [← hW1]; exact e1.tape
        · rw [← hW1]; exact e1.output
        · rw [← hW1]; simpa [World.setRow] using e1.size
        · rw [setRow_other _ _ _ _ (by omega)]
          show W1.heap[q]? = _
          rw [← hW1, setRow_other _ _ _ _ (by omega)]
          exact e1.block q hq
      have hO2 : (W1.drew.setRow w.heap.size C2.toArray).ownsRow B 41 2 (.slice (some ⟨w.heap.size, 0, none⟩) (n + 1) gc) (n + 1) (xs.take (i * 2) ++ [a, b] ++ xs.drop (i * 2)) :=
        ⟨by simp only [List.length_append, List.length_take, List.length_drop, hxl, List.length_cons, List.length_nil]; omega, .inr ⟨w.heap.size, gc, C2.toArray, rfl, hB, setRow_heap W1.drew _ _ _ _ _ hs1, hge, hgm, by simp only [List.size_toArray, l2, l0], l3⟩⟩
      have HO2 := hide hO2
      have HG2 := hide hgB2
      have mixed : Tryz.prog.follows .mixedOrders = true := by kernel_rfl
      have hb5 : ¬ (gc = i + 1) := by omega
      have hb51 : ¬ (gc = i) := by omega
      have hb6 : (i : Int) + 1 ≤ (n : Int) + 1 := by omega
      have hb7 : (i : Int) ≤ (n : Int) + 1 := by omega
      have hw1 : IntKind.i64.wrap ((i : Int) + 1) = (i : Int) + 1 := by rw [IntKind.wrap_i64]; omega
      have htn : ((i : Int) + 1).toNat = i + 1 := by omega
      have hb8 : (0 : Int) ≤ (i : Int) + 1 := by omega
      have hb9 : ¬ ((n : Int) + 1 ≤ (n : Int)) := by omega
      clear hO2 hgB2 l1 l2 l3 l0 hC1 hC2 hown hnews hcs hct hsrcX hg hnb hg1 hs1 hs0 hnb0 hg0 hxs hone hdl hxl hold hZ hzl hW0 hW0e hG0 hC0 hgc hik hk hk1 hroom
      rw [hW1] at hcpA
      go_enter Tryz.func56, Tryz.ntmps56
      go_wp2_with (at_builtin; first | (refine wpList_app2 rfl _ _ 22 3 rfl _ _ rfl rfl hap0 ?_) | (refine wpList_copy2 rfl _ _ 22 22 rfl _ _ rfl rfl (fun ty => hcpA ty _) ?_))
      go_region_law_o (refine step_copy2 rfl _ _ 22 22 rfl _ _ (by simp [Act.eval, Act.put]) (by simp [Act.eval, Act.put]) (fun ty => hcpB ty _ _) ?_)
      go_wp2
      go_ret
      exact ⟨_, rfl, HO2.out, HG2.out, .inr rfl⟩
end Go.Proofs.YtmdakfmecfcbhaaGreat.Tk
