/- 1 texts in one. -/
import Derived.RangeFuncNested
import Derived.RangeFuncBound
import Derived.RangeFuncCalls
import Derived.RangeFuncLeaves
import Derived.RangeFuncBox
import Derived.Shelf.Abstract
import Derived.Shelf.RegionOpen
import Derived.WalkKit
import Derived.OwnWalkIn
import Derived.TacticsInMore
import Derived.LoopNIn
import Derived.LoopIn
import Derived.Maps.AppendAt
import Derived.Deep.AppendLies
import Derived.Laws.OwnMore
import Derived.Test.YtkaeogldielkfaaGreatProg
import Derived.Test.YtkaeogldielkfaaGreatKabe2b5f
import Derived.Test.YtkaeogldielkfaaGreatKd1f2bd3
import Derived.Test.YtkaeogldielkfaaGreatKfb00f3c
import Derived.Test.YtkaeogldielkfaaGreatKf01485e
import Derived.Test.YtkaeogldielkfaaGreatK943a67d
set_option linter.unusedVariables false
set_option linter.unusedSimpArgs false
namespace Go.Proofs.YtkaeogldielkfaaGreat.Rc
open Go.RowKit Go.Shelf Lb
attribute [local go_sem] Oper.semAt_some
/-- One that is kept, its labels' value being a slice. -/
abbrev KS := { p : KV // ∃ ao n cp, p.2 = .slice ao n cp }
def encS (x : KS) : Value := .agg #[.int .i64 x.1.1.1.1, x.1.2, .int .i64 x.1.1.2.1, .bool x.1.1.2.2]
def cellsS (x : KS) : Array Value := #[.int .i64 x.1.1.1.1, x.1.2, .int .i64 x.1.1.2.1, .bool x.1.1.2.2]
def kvs (l : List KS) : List KV := l.map (·.1)
theorem kvs_snoc (l : List KS) (x : KS) : kvs (l ++ [x]) = kvs l ++ [x.1] := by unfold kvs; rw [List.map_append]; rfl
theorem kvs_length (l : List KS) : (kvs l).length = l.length := by unfold kvs; rw [List.length_map]
set_option maxRecDepth 100000 in
set_option maxHeartbeats 4000000 in
/-- The iterator over a row: each one, in order, as long as rounds go on. -/
theorem values1_in (F : Fence) (n : Nat) (h7 : F.fn 87) (hro : F.round = none) (hn : 1 ≤ n) (l Bs n₀ b cap : Nat) (zs : List KS) (hreach : zs.length ≤ 2000) (hb : b < n₀) (J Jx : List KS → World → Prop)
    (W : World) (hJa : AbidesFrom W.heap.size J) (hn₀ : n₀ ≤ W.heap.size)
    (hY : ∀ pre x W, J pre W → pre.length < zs.length → YieldAt F (n - 1) Tryz.prog l #[encS x] W fun e W' =>
      (e = .returned (.bool true) ∧ J (pre ++ [x]) W' ∧ Below n₀ W W') ∨ (e = .returned (.bool false) ∧ Jx (pre ++ [x]) W'))
    (hBs : W.cell? ⟨Bs, 0, none⟩ = some (.slice (some ⟨b, 0, none⟩) zs.length cap)) (hc : ∀ j (hj : j < zs.length), W.cell? ⟨b, j * 4, none⟩ = some (.int .i64 zs[j].1.1.1.1) ∧ W.cell? ⟨b, j * 4 + 1, none⟩ = some zs[j].1.2 ∧ W.cell? ⟨b, j * 4 + 2, none⟩ = some (.int .i64 zs[j].1.1.2.1) ∧ W.cell? ⟨b, j * 4 + 3, none⟩ = some (.bool zs[j].1.1.2.2)) (h0 : J [] W) :
    CallsIn F n Tryz.prog 87 #[.func (.yield l) #[] #[], .pointer (some ⟨Bs, 0, none⟩)] W fun e W' => (∃ v, e = .returned v) ∧
      ((∃ ys, ys = zs ∧ J ys W') ∨ (∃ pre, pre <+: zs ∧ Jx pre W')) := by
  refine callsIn_of_wp Tryz.func87 rfl h7 ?_ hro
  simp only [Tryz.ntmps87, List.size_toArray, List.length_cons, List.length_nil, Nat.reduceAdd, Nat.reduceSub, Array.replicate_succ, Array.replicate_zero, List.push_toArray, List.append_toArray, List.nil_append, List.cons_append]
  gi_wp2
  gi_loopw [7] (fun i wr => ∃ k : Nat, k ≤ zs.length ∧ i = .int .i64 k ∧ J (zs.take k) wr ∧ Below n₀ W wr)
    (fun i _ => zs.length - (intOf i).toNat)
  case atStart => exact ⟨0, Nat.zero_le _, rfl, h0, Below.refl _ _⟩
  case round =>
    obtain ⟨k, hk, rfl, hJs, hnx⟩ := hrel
    by_cases hlt : k < zs.length
    · have hlti : (k : Int) < (zs.length : Int) := by omega
      obtain ⟨c0, c1, c2, c3⟩ := hc k hlt
      have htk : zs.take (k + 1) = zs.take k ++ [zs[k]] := List.take_succ_eq_append_getElem hlt
      have e0 := (hnx.cell (p := ⟨b, k * 4, none⟩) hb).trans c0
      have e1 := (hnx.cell (p := ⟨b, k * 4 + 1, none⟩) hb).trans c1
      have e2 := (hnx.cell (p := ⟨b, k * 4 + 2, none⟩) hb).trans c2
      have e3 := (hnx.cell (p := ⟨b, k * 4 + 3, none⟩) hb).trans c3
      obtain ⟨x, HX⟩ : ∃ x : KS, Hid (zs[k] = x) := ⟨_, hide rfl⟩
      rw [HX.out] at e0 e1 e2 e3 htk
      obtain ⟨V, eV, gV, hV⟩ := laid_at wr (cellsS x) 96
      have hJV : J (zs.take k) V := by rw [← eV]; exact hJa _ _ _ none hJs (World.grownBy_alloc _ _ none) (fun r e => by cases e)
      obtain ⟨fn, tmps, assign, body, hy, hR⟩ := hY _ x V hJV (by rw [List.length_take]; omega)
      obtain ⟨xk, ao, xn, cp, hxe⟩ := x
      have hnV : Below n₀ W V := hnx.trans (Below.mono gV (by have := hnx.size; omega))
      have HT := hide htk
      clear htk c0 c1 c2 c3 hJs hJV
      unfold cellsS at eV hV
      unfold encS at hy
      rw [hxe] at e1
      simp only [hxe] at eV hV hy
      obtain ⟨d0, d1, d2, d3⟩ := four_of hV
      gi_wp2
      refine hR.mono ?_
      rintro e W3 (⟨rfl, hJ3, hk3⟩ | ⟨rfl, hJx3⟩)
      · gi_wp2
        go_roundw
        case rel => exact ⟨k + 1, by omega, by simp, by rw [HT.out]; exact hJ3, hnV.trans hk3⟩
        case measure => simp [intOf]; omega
      · gi_wp2
        refine bodyPost_ret (results_none rfl _ _ _) rfl ?_
        exact ⟨⟨_, rfl⟩, .inr ⟨_, by rw [← HT.out]; exact List.take_prefix _ _, hJx3⟩⟩
    · obtain rfl : k = zs.length := by omega
      gi_wp2
      go_end0
      exact ⟨⟨_, rfl⟩, .inl ⟨_, List.take_of_length_le (Nat.le_refl _), hJs⟩⟩
set_option maxRecDepth 100000 in
set_option maxHeartbeats 4000000 in
theorem values1_nil_in (F : Fence) (n : Nat) (h7 : F.fn 87) (hro : F.round = none) (l Bs : Nat) (J : List KS → World → Prop) (W : World) (hBs : W.cell? ⟨Bs, 0, none⟩ = some (.slice none 0 0)) (h0 : J [] W) :
    CallsIn F n Tryz.prog 87 #[.func (.yield l) #[] #[], .pointer (some ⟨Bs, 0, none⟩)] W fun e W' => (∃ v, e = .returned v) ∧ J [] W' := by
  refine callsIn_of_wp Tryz.func87 rfl h7 ?_ hro
  simp only [Tryz.ntmps87, List.size_toArray, List.length_cons, List.length_nil, Nat.reduceAdd, Nat.reduceSub, Array.replicate_succ, Array.replicate_zero, List.push_toArray, List.append_toArray, List.nil_append, List.cons_append]
  gi_wp2
  gi_loopw [7] (fun i wr => i = .int .i64 0 ∧ J [] wr) (fun _ _ => 0)
  case atStart => exact ⟨rfl, h0⟩
  case round =>
    obtain ⟨rfl, hJs⟩ := hrel
    gi_wp2
    go_end0
    exact ⟨⟨_, rfl⟩, hJs⟩
/-- A row that a slice holds, in a block below n₀; or it is nil and there are none. -/
def holdsS (n₀ : Nat) (W : World) (sv : Value) (zs : List KS) : Prop :=
  (sv = .slice none 0 0 ∧ zs = []) ∨ ∃ b cap, sv = .slice (some ⟨b, 0, none⟩) zs.length cap ∧ b < n₀ ∧ ∀ j (hj : j < zs.length), W.cell? ⟨b, j * 4, none⟩ = some (.int .i64 zs[j].1.1.1.1) ∧ W.cell? ⟨b, j * 4 + 1, none⟩ = some zs[j].1.2 ∧ W.cell? ⟨b, j * 4 + 2, none⟩ = some (.int .i64 zs[j].1.1.2.1) ∧ W.cell? ⟨b, j * 4 + 3, none⟩ = some (.bool zs[j].1.1.2.2)
theorem holdsS.below {n₀ : Nat} {A B : World} (h : Below n₀ A B) {sv : Value} {zs : List KS} : holdsS n₀ A sv zs → holdsS n₀ B sv zs
  | .inl e => .inl e
  | .inr ⟨b, cap, e, hb, hc⟩ => .inr ⟨b, cap, e, hb, fun j hj => ⟨(h.cell (p := ⟨b, _, none⟩) hb).trans (hc j hj).1, (h.cell (p := ⟨b, _, none⟩) hb).trans (hc j hj).2.1, (h.cell (p := ⟨b, _, none⟩) hb).trans (hc j hj).2.2.1, (h.cell (p := ⟨b, _, none⟩) hb).trans (hc j hj).2.2.2⟩⟩
theorem values_stops (F : Fence) (n : Nat) (h7 : F.fn 87) (hro : F.round = none) (hn : 1 ≤ n) (Bs n₀ : Nat) (sv : Value) (zs : List KS) (hreach : zs.length ≤ 2000) (w : World) (hBs : Bs < w.heap.size) (hn₀ : n₀ ≤ w.heap.size)
    (hc : w.cell? ⟨Bs, 0, none⟩ = some sv) (hI : holdsS n₀ w sv zs) :
    SeqStopsK F n Tryz.prog 87 #[.pointer (some ⟨Bs, 0, none⟩)] (fun x : KS => #[encS x]) (Below n₀) (fun ys => ys = zs) (fun pre => pre <+: zs) zs.length w := fun l J Jx W hW hJa _ hY h0 => by
  have hc' := (hW.cell (p := ⟨Bs, 0, none⟩) hBs).trans hc
  rcases hI.below (hW.mono hn₀) with ⟨rfl, rfl⟩ | ⟨b, cap, rfl, hb, hcs⟩
  · exact (values1_nil_in F n h7 hro l Bs J W hc' h0).mono fun e W' ⟨he, hj⟩ => ⟨he, .inl ⟨_, rfl, hj⟩⟩
  · exact values1_in F n h7 hro hn l Bs n₀ b cap zs hreach hb J Jx W hJa (by have := hW.size; omega) hY hc' hcs h0
set_option maxRecDepth 100000 in
set_option maxHeartbeats 8000000 in
/-- slices.AppendSeq onto nil, over that iterator: a row of the call's own. -/
theorem appendSeq_in (F : Fence) (n : Nat) (h3 : F.fn 112) (h7 : F.fn 87) (hro : F.round = none) (hn : 3 ≤ n) (Bs : Nat) (sv : Value) (zs : List KS) (hreach : zs.length ≤ 2000) (w : World) (hBs : Bs < w.heap.size) (hc : w.cell? ⟨Bs, 0, none⟩ = some sv) (hI : holdsS w.heap.size w sv zs) :
    CallsIn F n Tryz.prog 112 #[.slice none 0 0, .func (.func 87) #[] #[.pointer (some ⟨Bs, 0, none⟩)]] w fun e W' => ∃ v, e = .returned v ∧ W'.ownsRow w.heap.size 96 4 v zs.length (kepC (kvs zs)) ∧ Below w.heap.size w W' := by
  have h1 : 1 ≤ n := by omega
  obtain ⟨i0, hi, hz0, hz1, hz2⟩ := info_parts infoK
  refine callsIn_of_wp_marks Tryz.func112 rfl h3 ?_ hro
  simp only [Tryz.ntmps112, List.size_toArray, List.length_cons, List.length_nil, Nat.reduceAdd, Nat.reduceSub, Array.replicate_succ, Array.replicate_zero, List.push_toArray, List.append_toArray, List.nil_append, List.cons_append]
  gi_wp2
  have bO := Boxed.new w 86 (.slice none 0 0)
  have hB0 : Below w.heap.size w (w.alloc (.cells #[.slice none 0 0] 86)) := (Below.refl _ w).alloc (Nat.le_refl _) _
  refine wpIn_rangeFunc_ownH hro h1 (gf := 87) (lb := #[.pointer (some ⟨Bs, 0, none⟩)]) rfl h7 (enters_of Tryz.func87 (by kernel_rfl) rfl)
    (values_stops F (n - 1) h7 hro (by omega) Bs w.heap.size sv zs hreach _ (by simp; omega) (by simp) ((hB0.cell (p := ⟨Bs, 0, none⟩) hBs).trans hc) (hI.below hB0)) belowK_t (belowK_b (by simp)) (Below.refl _ _) (fun _ => rfl)
    (fun pre W => (∃ v, Boxed W w.heap.size 86 v ∧ W.ownsRow w.heap.size 96 4 v pre.length (kepC (kvs pre)) ∧ True) ∧ Below w.heap.size w W)
    (fun _ _ _ => False)
    (OwnFrom.and (Own.from (holdsRow_own w.heap.size w.heap.size 86 96 4 (fun pre : List KS => pre.length) (fun pre => kepC (kvs pre)) (fun pre v => True)) _) (ownFrom_below (Nat.le_refl _) (by simp)))
    (fun _ _ _ _ _ hs _ _ => hs)
    ⟨⟨_, bO, World.ownsRow_nil _ _ _ _, trivial⟩, hB0⟩
    (fun x a' W => ∃ Bx, W.heap[Bx]? = some (.cells (cellsS x) 96 (0, 0)) ∧ a' = { tmps := #[.slice none 0 0, .func (.func 87) #[] #[.pointer (some ⟨Bs, 0, none⟩)], .pointer (some ⟨w.heap.size, 0, none⟩), undef, .slice none 0 0, .pointer (some ⟨Bx, 0, none⟩), .func (.func 87) #[] #[.pointer (some ⟨Bs, 0, none⟩)], encS x, undef, undef, undef, undef, undef], defers := [] })
    (fun x a' _ X Y row hs hg hr => by
      obtain ⟨Bx, h2, h3⟩ := hs
      refine ⟨Bx, grown_block hg h2 (fun e => ?_), h3⟩
      obtain ⟨_, o, ho, hc⟩ := hr Bx e
      rw [h2] at ho; cases ho; cases hc)
    ?assign ?body ?done ?stop
  case assign =>
    rintro l pre x W K ⟨⟨v, hv, hrow, _⟩, hB⟩ hK
    obtain ⟨V, eV, gV, hV⟩ := laid_at W (cellsS x) 96
    obtain ⟨xk, ao, xn, cp, hxe⟩ := x
    have hKV := hK (a' := { tmps := #[.slice none 0 0, .func (.func 87) #[] #[.pointer (some ⟨Bs, 0, none⟩)], .pointer (some ⟨w.heap.size, 0, none⟩), undef, .slice none 0 0, .pointer (some ⟨W.heap.size, 0, none⟩), .func (.func 87) #[] #[.pointer (some ⟨Bs, 0, none⟩)], encS ⟨xk, ao, xn, cp, hxe⟩, undef, undef, undef, undef, undef], defers := [] }) V (by rw [← eV]; exact (KeepsOthers.alloc _ _).from _) (by rw [← eV]; exact (Below.refl _ W).alloc hB.size _) (by rw [← eV]; exact ⟨⟨v, hv.alloc _, hrow.alloc _, trivial⟩, hB.alloc hB.size _⟩) ⟨W.heap.size, hV, rfl⟩
    clear hK hV gV
    unfold cellsS at eV
    unfold encS at hKV ⊢
    simp only [hxe] at eV hKV ⊢
    gi_wp2
    exact hKV
  case body =>
    rintro l pre x a' W hl ⟨r, hr⟩ ⟨⟨v, hv, hrow, _⟩, hB⟩ ⟨Bx, bX, rfl⟩ hlt
    have hc := hv.cell
    obtain ⟨xk, ao, xn, cp, hxe⟩ := x
    have hks : kepC (kvs (pre ++ [⟨xk, ao, xn, cp, hxe⟩])) = kepC (kvs pre) ++ [.int .i64 xk.1.1.1, xk.2, .int .i64 xk.1.2.1, .bool xk.1.2.2] := by rw [kvs_snoc, kepC_append]; rfl
    unfold cellsS at bX
    unfold encS
    simp only [hxe] at bX hks ⊢
    obtain ⟨d0, d1, d2, d3⟩ := four_of bX
    have HKS := hide hks
    clear hks
    gi_wp2_with (gi_at_builtin; refine wpListIn_append_own _ rfl _ _ 86 rfl w.heap.size 96 i0 _ 4 48 Tryz.underlying86 hi hz0 hz1 hz2 rfl (by decide) _ _ _ rfl (hrow.alloc _) ⟨W.heap.size, 0, none⟩ 1 1 [.int .i64 xk.1.1.1, .slice ao xn cp, .int .i64 xk.1.2.1, .bool xk.1.2.2] rfl rfl (World.news_of_block (heap_alloc_new _ _)) (by simp [Value.oneCell']) (by unfold maxLen; omega) (by omega) (by have := hB.size; simp; omega) ?_; intro v' w1 hown' hgrow _; obtain ⟨g', cap', rfl⟩ := ownsRow_succ hown'; obtain ⟨hv1, hv2, hr2, hk2, hb2⟩ := hv.appended (by decide) hrow hB.size (Nat.le_refl _) hown' hgrow; have hc1 := hv1.cell; have hf1 := hv1.frozen)
    exact ⟨hk2.from _, hb2, ⟨_, hv2, by rw [List.length_append, HKS.out]; simpa using hr2, trivial⟩, hB.trans hb2⟩
  case done =>
    rintro D ys W hD rfl ⟨⟨v, hv, hrow, _⟩, hB⟩ hK
    have hc := hv.cell
    gi_wp2
    refine ⟨by simp, .inl ⟨_, _, rfl, run_takeDeferred hK, ?_⟩⟩
    exact ⟨_, results_tmp rfl _ _ _, v, rfl, ownsRow_putObj hrow _ hK rfl, hB.trans (belowK_b (w := w) (Nat.le_refl _) W D _ _ (by simp at hD; omega) hK rfl rfl)⟩
  case stop =>
    rintro D c pre W _ _ h _
    exact h.elim
end Go.Proofs.YtkaeogldielkfaaGreat.Rc
