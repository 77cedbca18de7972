/- 3 texts in one. -/
import Derived.RangeFuncBound
import Derived.Laws.OwnMore
import Derived.Test.YtkaeogldielkfaaGreatProg
import Derived.Test.YtkaeogldielkfaaGreatK0755ea5
import Derived.Test.YtkaeogldielkfaaGreatK01ac73c
import Derived.Test.YtkaeogldielkfaaGreatK5804e26
import Derived.Test.YtkaeogldielkfaaGreatK3b2be08
import Derived.Test.YtkaeogldielkfaaGreatK87eb233
import Derived.Test.YtkaeogldielkfaaGreatKbcce139
import Derived.Test.YtkaeogldielkfaaGreatK3baca7f
import Derived.Test.YtkaeogldielkfaaGreatKa8a2389
import Derived.Sort.OwnSorted
import Derived.BigQuiet
import Derived.Deep.AppendLies
import Derived.Test.YtkaeogldielkfaaGreatK1cde199
import Derived.Test.YtkaeogldielkfaaGreatK27654cb
import Derived.Test.YtkaeogldielkfaaGreatK3c7d114
import Derived.Test.YtkaeogldielkfaaGreatK594a6b0
import Derived.Test.YtkaeogldielkfaaGreatK946d219
import Derived.Test.YtkaeogldielkfaaGreatKfd23cdb
import Derived.Test.YtkaeogldielkfaaGreatK2f2640c
set_option linter.unusedVariables false
set_option linter.unusedSimpArgs false
namespace Go.Proofs.YtkaeogldielkfaaGreat.Rc
open Go.RowKit Go.Sort Lb
attribute [local go_sem] bs_size bs_toList bs_append bs_get bs_extract
def cmpI (a b : Int) : Int := if a < b then -1 else if b < a then 1 else 0
set_option maxRecDepth 20000 in
set_option maxHeartbeats 1000000 in
theorem isNaN_any (a : Int) (w : World) : Calls Tryz.prog 88 #[.int .i64 a] w fun e w' => e = .returned (.bool false) ∧ w' = w := by
  go_enter Tryz.func88, Tryz.ntmps88
  go_wp2
  go_ret
  exact ⟨by simp, rfl⟩
set_option maxRecDepth 20000 in
set_option maxHeartbeats 1000000 in
theorem compareInt_any (a b : Int) (w : World) : Calls Tryz.prog 59 #[.int .i64 a, .int .i64 b] w fun e w' => e = .returned (.int .i64 (cmpI a b)) ∧ w' = w := by
  have hna := fun W => isNaN_any a W
  have hnb := fun W => isNaN_any b W
  unfold cmpI
  by_cases h1 : a < b
  · have hd1 : decide (a < b) = true := decide_eq_true h1
    rw [if_pos h1]
    clear h1
    go_enter Tryz.func59, Tryz.ntmps59
    go_wp2_with fail
    refine (hna w).mono ?_
    rintro e w1 ⟨rfl, hw1⟩
    subst hw1
    go_wp2_with fail
    refine (hnb w1).mono ?_
    rintro e w1 ⟨rfl, hw1⟩
    subst hw1
    go_wp2
    go_ret
    exact ⟨rfl, rfl⟩
  · have hd1 : decide (a < b) = false := decide_eq_false h1
    rw [if_neg h1]
    by_cases h2 : b < a
    · have hd2 : decide (b < a) = true := decide_eq_true h2
      rw [if_pos h2]
      clear h1 h2
      go_enter Tryz.func59, Tryz.ntmps59
      go_wp2_with fail
      refine (hna w).mono ?_
      rintro e w1 ⟨rfl, hw1⟩
      subst hw1
      go_wp2_with fail
      refine (hnb w1).mono ?_
      rintro e w1 ⟨rfl, hw1⟩
      subst hw1
      go_wp2
      go_ret
      exact ⟨rfl, rfl⟩
    · have hd2 : decide (b < a) = false := decide_eq_false h2
      rw [if_neg h2]
      clear h1 h2
      go_enter Tryz.func59, Tryz.ntmps59
      go_wp2_with fail
      refine (hna w).mono ?_
      rintro e w1 ⟨rfl, hw1⟩
      subst hw1
      go_wp2_with fail
      refine (hnb w1).mono ?_
      rintro e w1 ⟨rfl, hw1⟩
      subst hw1
      go_wp2
      go_ret
      exact ⟨rfl, rfl⟩
instance : Inhabited KS := ⟨⟨(((0, []), 0, false), .slice none 0 0), none, 0, 0, rfl⟩⟩
def encK (x : KS) : List Value := [.int .i64 x.1.1.1.1, x.1.2, .int .i64 x.1.1.2.1, .bool x.1.1.2.2]
def cfK (x y : KS) : Int := cmpI x.1.1.1.1 y.1.1.1.1
theorem ltK (x y : KS) : ltOf cfK x y = decide (x.1.1.1.1 < y.1.1.1.1) := by
  unfold ltOf cfK cmpI
  by_cases h : x.1.1.1.1 < y.1.1.1.1
  · simp [h]
  · by_cases h2 : y.1.1.1.1 < x.1.1.1.1
    · simp [h, h2]
    · simp [h, h2]
theorem swoK : SWO (ltOf cfK) where
  irrefl x := by rw [ltK]; simp
  trans x y z h1 h2 := by rw [ltK, decide_eq_true_eq] at *; omega
  ntrans x y z h1 h2 := by rw [ltK, decide_eq_false_iff_not] at *; omega
theorem flat_kep (l : List KS) : (flatK encK 4 l.toArray).toList = kepC (kvs l) := by
  apply List.ext_getElem?
  intro t
  by_cases ht : t < l.length * 4
  · have h1 := get_flatK encK 4 l.toArray t (by simpa using ht)
    have hs : t < (flatK encK 4 l.toArray).size := by rw [size_flatK]; simpa using ht
    rw [getElem!_pos _ t hs] at h1
    rw [Array.getElem?_toList, Array.getElem?_eq_getElem hs, h1]
    have hi : t / 4 < l.length := by omega
    have hg : l.toArray[t / 4]! = l[t / 4] := by rw [getElem!_pos _ _ (by simpa using hi)]; simp
    rw [hg]
    obtain ⟨a0, a1, a2, a3⟩ := kepC_at (kvs l) (t / 4) (by rw [kvs_length]; exact hi)
    have hk : (kvs l)[t / 4]'(by rw [kvs_length]; exact hi) = l[t / 4].1 := by simp [kvs]
    rw [hk] at a0 a1 a2 a3
    have hm : t % 4 = 0 ∨ t % 4 = 1 ∨ t % 4 = 2 ∨ t % 4 = 3 := by omega
    rcases hm with hm | hm | hm | hm
    · rw [hm]
      rw [show t / 4 * 4 = t by omega] at a0
      rw [a0]; rfl
    · rw [hm]
      rw [show t / 4 * 4 + 1 = t by omega] at a1
      rw [a1]; rfl
    · rw [hm]
      rw [show t / 4 * 4 + 2 = t by omega] at a2
      rw [a2]; rfl
    · rw [hm]
      rw [show t / 4 * 4 + 3 = t by omega] at a3
      rw [a3]; rfl
  · rw [List.getElem?_eq_none (by rw [Array.length_toList, size_flatK]; simp; omega), List.getElem?_eq_none (by rw [kepC_length, kvs_length]; omega)]
theorem holdsKs {w : World} {g : Nat} {cur : Array Value} {e : TypeId} {l : List KS} (hb : w.heap[g]? = some (.cells cur e (0, 0))) (ht : cur.toList.take (l.length * 4) = kepC (kvs l)) : HoldsK encK 4 w g 0 l.toArray := by
  intro j hj
  rw [size_flatK] at hj
  have hj' : j < l.length * 4 := by simpa using hj
  have hs : j < (flatK encK 4 l.toArray).size := by rw [size_flatK]; exact hj
  refine ⟨?_, by simp [World.frozen?, hb]⟩
  have h1 : (cur.toList.take (l.length * 4))[j]? = (flatK encK 4 l.toArray).toList[j]? := by rw [ht, flat_kep]
  rw [List.getElem?_take_of_lt hj', Array.getElem?_toList, Array.getElem?_toList, Array.getElem?_eq_getElem hs] at h1
  rw [getElem!_pos _ j hs]
  simp only [World.cell?, hb, Nat.zero_add]
  simp only [Option.isSome_none, Bool.false_eq_true, if_false]
  exact h1
theorem heap_sortedKs {w : World} {g n : Nat} {os : Array Obj} {cur : Array Value} {e : TypeId} {fr : Nat × Nat} (d : Array KS) (hb : w.heap[g]? = some (.cells cur e fr)) :
    (sortWorldK encK 4 w g 0 n d os).heap[g]? = some (.cells (putCells id 0 (flatK encK 4 d) cur) e fr) := by
  have hg : g < w.heap.size := (Array.getElem?_eq_some_iff.1 hb).1
  unfold sortWorldK putRowK
  rw [heap_grow_old _ _ (by simpa using hg)]
  simp [putRow, mapBlock, Sort.ahead, Array.getElem?_modify, hb, onCells]
theorem grownBy_sortedKs {w : World} {g n : Nat} {os : Array Obj} (d : Array KS) : w.grownBy (sortWorldK encK 4 w g 0 n d os) (some g) := by
  unfold sortWorldK putRowK
  refine ⟨rfl, rfl, rfl, by simp, fun k hk hne => ?_⟩
  rw [heap_grow_old _ _ (by simpa using hk)]
  have : g ≠ k := fun e => hne (by rw [e])
  simp [putRow, mapBlock, Sort.ahead, Array.getElem?_modify, this]
set_option maxRecDepth 20000 in
set_option maxHeartbeats 1000000 in
theorem known1_any (x y : KS) (W : World) : Calls Tryz.prog 58 #[.agg (encK x).toArray, .agg (encK y).toArray] W fun e w' => e = .returned (.int .i64 (cfK x y)) ∧ ∃ q os', w' = grow (W.drewN q) os' := by
  obtain ⟨⟨⟨⟨a, la⟩, ta, ha⟩, va⟩, ao, an, ac, hva⟩ := x
  obtain ⟨⟨⟨⟨b, lb⟩, tb, hb⟩, vb⟩, bo, bn, bc, hvb⟩ := y
  simp only at hva hvb
  subst hva hvb
  have hcon := fun W' => compareInt_any a b W'
  unfold cfK encK
  simp only
  generalize cmpI a b = r at hcon ⊢
  go_enter Tryz.func58, Tryz.ntmps58
  go_wp2_with (go_at_call 59; refine (hcon _).mono ?_; rintro e w' ⟨rfl, rfl⟩)
  go_ret
  exact ⟨rfl, 0, _, by rw [alloc_eq_grow, alloc_eq_grow, grow_grow]; rfl⟩
set_option maxRecDepth 20000 in
set_option maxHeartbeats 1000000 in
/-- slices.SortFunc over a row that the call owns. -/
theorem sortKs_any (w : World) (base : Nat) (v : Value) (ls : List KS) (h : w.ownsRow base 96 4 v ls.length (kepC (kvs ls))) (hl : ls.length ≤ 2000) :
    Calls Tryz.prog 86 #[v, .func (.func 58) #[] #[]] w fun e w' => e = .returned (.tuple #[]) ∧ ∃ d : List KS, w'.ownsRow base 96 4 v d.length (kepC (kvs d)) ∧ d.Perm ls ∧ d.Pairwise (fun p q => p.1.1.1.1 ≤ q.1.1.1.1) ∧ w.grownBy w' v.ownBlock := by
  rcases id h.2 with ⟨rfl, h0⟩ | ⟨g, cap, cur, rfl, h1, h2, h3, h4, h5, h6⟩
  · have : ls = [] := List.eq_nil_of_length_eq_zero h0
    subst this
    refine (AnyF.slices_SortFunc_none Tryz.sortK none 0 _ w).mono ?_
    rintro e w' ⟨rfl, rfl⟩
    exact ⟨rfl, [], h, List.Perm.refl _, List.Pairwise.nil, ⟨rfl, rfl, rfl, Nat.le_refl _, fun _ _ _ => rfl⟩⟩
  · have eg : ∀ args w, (callFunc 58 args).run Tryz.prog w = .ok (.enter 58 args) w := enters_of Tryz.func58 (by kernel_rfl) rfl
    have hsz : ls.toArray.size = ls.length := by simp
    have hcon := AnyQ.slices_SortFunc Tryz.sortK 4 Tryz.isAgg96 Tryz.sizeOf96 encK (fun _ => rfl) (fun x v hv => by
      obtain ⟨xk, ao, xn, cp, hxe⟩ := x
      simp [encK, hxe] at hv
      rcases hv with rfl | rfl | rfl | rfl <;> rfl) cfK swoK 58 #[] g 0 cap ls.toArray w eg (fun m os dk hs x y => known1_any x y _) (holdsKs h2 h6) (lt_of_block h2) (by rw [hsz]; omega)
    rw [hsz] at hcon
    refine Calls.mono hcon ?_
    rintro e w' ⟨rfl, d', n, os, hp, hs, rfl⟩
    rw [← hsz] at hp hs
    have hdl : d'.toList.length = ls.length := by have := hp.1; simpa using this
    have hpm : d'.toList.Perm ls := by
      obtain ⟨hs1, _, hp1⟩ := hp
      rw [Array.extract_eq_self_of_le (by omega), Array.extract_eq_self_of_le (by omega)] at hp1
      exact hp1
    refine ⟨rfl, d'.toList, ?_, hpm, ?_, grownBy_sortedKs _⟩
    · have hf : (flatK encK 4 d').size = ls.length * 4 := by rw [size_flatK, ← hdl]; simp
      refine ⟨by rw [kepC_length, kvs_length], .inr ⟨g, cap, _, by rw [hdl], h1, heap_sortedKs _ h2, by omega, h4, by simp [putCells, h5], ?_⟩⟩
      have ht := take_putL cur (flatK encK 4 d') (by rw [hf]; omega)
      rw [hf] at ht
      have hft := flat_kep d'.toList
      simp only [Array.toArray_toList] at hft
      rw [hdl, ht, hft]
    · rw [List.pairwise_iff_getElem]
      intro i j hi hj hij
      have hi' : i < d'.size := by simpa using hi
      have hj' : j < d'.size := by simpa using hj
      have e1 := hs i j (by omega) hij (by omega)
      rw [ltK, getElem!_pos _ i hi', getElem!_pos _ j hj', decide_eq_false_iff_not] at e1
      simp only [Array.getElem_toList]
      omega
set_option maxRecDepth 20000 in
set_option maxHeartbeats 1000000 in
theorem values_any (w : World) (a : Option Addr) (len cap : Nat) :
    Calls Tryz.prog 57 #[.slice a len cap] w fun e w' => e = .returned (.func (.func 87) #[] #[.pointer (some ⟨w.heap.size, 0, none⟩)]) ∧ w' = w.alloc (.cells #[.slice a len cap] 86) := by
  have hmf : ∀ (fn : Fn) (first cap : Array Value) (w : World), (Instr.makeFunc fn first cap).run Tryz.prog w = .ok (.func fn first cap) w := fun _ _ _ _ => rfl
  go_enter Tryz.func57, Tryz.ntmps57
  go_wp2
  go_ret
  exact ⟨rfl, rfl⟩
set_option maxRecDepth 20000 in
set_option maxHeartbeats 1000000 in
theorem collect_any (w : World) (Bs : Nat) (sv : Value) (zs : List KS) (hreach : zs.length ≤ 2000) (hBs : Bs < w.heap.size) (hc : w.cell? ⟨Bs, 0, none⟩ = some sv) (hI : holdsS w.heap.size w sv zs) :
    Calls Tryz.prog 85 #[.func (.func 87) #[] #[.pointer (some ⟨Bs, 0, none⟩)]] w fun e W' => ∃ v, e = .returned v ∧ W'.ownsRow w.heap.size 96 4 v zs.length (kepC (kvs zs)) ∧ Grow w W' := by
  have HA := hide (callsIn_wide.1 (appendSeq_in Fence.wide 5 trivial trivial rfl (by omega) Bs sv zs hreach w hBs hc hI))
  clear hc hI
  go_enter Tryz.func85, Tryz.ntmps85
  go_wp2_with fail
  refine HA.out.mono ?_
  rintro e W' ⟨v, rfl, hr, hb⟩
  obtain ⟨ao, cp, rfl⟩ := own_shape hr
  have HR := hide hr
  have HB := hide hb
  clear hr hb HA
  go_wp2
  go_ret
  exact ⟨_, rfl, HR.out, HB.out⟩
set_option maxRecDepth 20000 in
set_option maxHeartbeats 1000000 in
theorem sortedFunc_any (w : World) (Bs : Nat) (sv : Value) (zs : List KS) (hreach : zs.length ≤ 2000) (hBs : Bs < w.heap.size) (hc : w.cell? ⟨Bs, 0, none⟩ = some sv) (hI : holdsS w.heap.size w sv zs) :
    Calls Tryz.prog 56 #[.func (.func 87) #[] #[.pointer (some ⟨Bs, 0, none⟩)], .func (.func 58) #[] #[]] w fun e W' => ∃ (v : Value) (d : List KS), e = .returned v ∧ W'.ownsRow w.heap.size 96 4 v d.length (kepC (kvs d)) ∧ d.Perm zs ∧ d.Pairwise (fun p q => p.1.1.1.1 ≤ q.1.1.1.1) ∧ Grow w W' := by
  have HA := hide (collect_any w Bs sv zs hreach hBs hc hI)
  clear hc hI
  go_enter Tryz.func56, Tryz.ntmps56
  go_wp2_with fail
  refine HA.out.mono ?_
  rintro e W1 ⟨v, rfl, hr, hb⟩
  have HS := hide (sortKs_any W1 w.heap.size v zs hr hreach)
  have hlt := fun g hg => (hr.lt g hg).1
  obtain ⟨ao, cp, rfl⟩ := own_shape hr
  have HB := hide hb
  have HLT := hide hlt
  clear hr hb HA hlt
  go_wp2_with fail
  refine HS.out.mono ?_
  rintro e W2 ⟨rfl, d, hr2, hp, hpw, hg⟩
  have hgB : Grow w W2 := HB.out.grown hg HB.out.size (fun j hj => HLT.out j hj)
  have HR2 := hide hr2
  have HP := hide hp
  have HPW := hide hpw
  have HG := hide hgB
  clear hr2 hp hpw hg hgB HS
  go_wp2
  go_ret
  exact ⟨_, d, rfl, HR2.out, HP.out, HPW.out, HG.out⟩
end Go.Proofs.YtkaeogldielkfaaGreat.Rc
namespace Go.Proofs.YtkaeogldielkfaaGreat.Rc
open Go.RowKit Lb
attribute [local go_sem] bs_size bs_toList bs_append bs_get bs_extract
theorem make_rightK {ls : List Lab} (h : checkB ls = 0) : makeErr ls = 0 ∧ makeAns ls = ls := by
  obtain ⟨h1, h2, h3⟩ : eachErr 1 ls = 0 ∧ twiceB ls = false ∧ riseB ls = true := by
    unfold checkB at h
    split at h
    · rename_i h1
      split at h
      · rename_i h2
        split at h
        · rename_i h3
          exact ⟨h1, h2, h3⟩
        · cases h
      · cases h
    · rename_i h1; exact absurd h h1
  obtain ⟨hl, hx⟩ := eachErr_zero.1 h1
  have h0 : makeErr ls = 0 := by
    unfold makeErr
    rw [if_pos (eachErr_zero.2 ⟨hl, fun x hm => by have := hx x hm; exact ⟨this.1, by omega, this.2.2⟩⟩), if_pos h2]
  refine ⟨h0, ?_⟩
  rw [makeAns_ok h0]
  refine (makeL_uniq h2 (rise_iff.2 h3) fun y => ⟨fun hy => ⟨hy, fun e => ?_⟩, fun hy => hy.1⟩).symm
  have := (hx y hy).2.1
  rw [e] at this
  simp at this
theorem infoRefK : (Tryz.prog.info? 59).map (fun i => (i.zero, i.size, i.bytes)) = some (some (.agg #[.int .i64 0, .slice none 0 0]), 2, 32) := by kernel_rfl
theorem infoIntK : (Tryz.prog.info? 3).map (fun i => (i.zero, i.size, i.bytes)) = some (some (.int .i64 0), 1, 8) := by kernel_rfl
theorem infoBoolK : (Tryz.prog.info? 4).map (fun i => (i.zero, i.size, i.bytes)) = some (some (.bool false), 1, 1) := by kernel_rfl
def knwOf (D : List Kp) : Knw := ⟨D.map (·.1), D.map (·.2.1), D.map (·.2.2)⟩
def intsV (l : List Int) : List Value := l.map fun x => .int .i64 x
def boolsV (l : List Bool) : List Value := l.map fun x => .bool x
/-- What is known, in rows of the call's own. -/
structure ownKnw (w : World) (Z : Nat) (vr vl vh : Value) (k : Knw) : Prop where
  r : ownRefs w Z vr k.refs
  l : w.ownsRow Z 3 1 vl k.lasts.length (intsV k.lasts)
  h : w.ownsRow Z 4 1 vh k.has.length (boolsV k.has)
/-- An append to a row, and the cell that names it. -/
theorem app_step {X w6 : World} {kb o base e size n m : Nat} {c : Array Value} {v v' : Value} {xs ys : List Value} (hk : X.heap[kb]? = some (.cells c 26 (0, 0))) (hrow : X.ownsRow base e size v n xs) (hne : e ≠ 26) (hg : X.grownBy w6 v.ownBlock) (hown : w6.ownsRow base e size v' m ys) :
    w6.heap[kb]? = some (.cells c 26 (0, 0)) ∧ (w6.setCell ⟨kb, o, none⟩ v').heap[kb]? = some (.cells (c.setIfInBounds o v') 26 (0, 0)) ∧ (w6.setCell ⟨kb, o, none⟩ v').ownsRow base e size v' m ys ∧
      (∀ (k : Nat) (c : Array Value) (t : TypeId) (fr : Nat × Nat), X.heap[k]? = some (.cells c t fr) → t ≠ e → k ≠ kb → (w6.setCell ⟨kb, o, none⟩ v').heap[k]? = some (.cells c t fr)) ∧
      (∀ B, B ≤ kb → B ≤ base → B ≤ X.heap.size → Below B X (w6.setCell ⟨kb, o, none⟩ v')) := by
  have h6 := grown_block hg hk (own_apart hrow hk hne)
  refine ⟨h6, setAt h6 _, ownsRow_setCell_other hown (own_apart hown h6 hne) _, fun k c t fr hx ht hkb => ?_, fun B h1 h2 h3 => ?_⟩
  · exact (Below.heap_setCell _ _ _ _ hkb).trans (grown_block hg hx (own_apart hrow hx (Ne.symm ht)))
  · exact ((Below.refl _ _).grown hg h3 (fun g hgv => Nat.le_trans h2 (hrow.lt g hgv).1)).setCell (p := ⟨kb, o, none⟩) h1 _
theorem own_typed {X w7 : World} {kb base f size n e : Nat} {c : Array Value} {v : Value} {xs : List Value} (h : ∀ (k : Nat) (c : Array Value) (t : TypeId) (fr : Nat × Nat), X.heap[k]? = some (.cells c t fr) → t ≠ e → k ≠ kb → w7.heap[k]? = some (.cells c t fr)) (hk : X.heap[kb]? = some (.cells c 26 (0, 0))) (ho : X.ownsRow base f size v n xs) (hf : f ≠ e) (hfk : f ≠ 26) : w7.ownsRow base f size v n xs := by
  have hap := own_apart ho hk hfk
  refine own_keep ho fun g hg => ?_
  rcases id ho.2 with ⟨hv, _⟩ | ⟨g', cap, cur, r1, r2, r3, _⟩
  · rw [hv] at hg; cases hg
  · rw [r1] at hg
    cases hg
    rw [r3]
    exact h _ _ _ _ r3 hf (fun e => hap (by rw [r1]; exact congrArg some e))
/-- While it is put together. -/
structure KJ (w : World) (kb rb : Nat) (v : Value) (d : List KS) (vr vl vh : Value) (ps : List (Int × Value)) (i : Nat) (wr : World) : Prop where
  gr : Grow w wr
  at' : wr.heap[kb]? = some (.cells #[vr, vl, vh] 26 (0, 0))
  res : wr.heap[rb]? = some (.cells #[.slice none 0 0, .slice none 0 0, .slice none 0 0] 26 (0, 0))
  ne : rb ≠ kb
  kb : w.heap.size ≤ kb
  row : wr.ownsRow w.heap.size 96 4 v d.length (kepC (kvs d))
  r : wr.ownsRow w.heap.size 59 2 vr i (refCells ps)
  l : wr.ownsRow w.heap.size 3 1 vl i (intsV ((d.take i).map (·.1.1.2.1)))
  h : wr.ownsRow w.heap.size 4 1 vh i (boolsV ((d.take i).map (·.1.1.2.2)))
  len : ps.length = i
  labs : ∀ (j : Nat) (p : Int × Value) (x : KS), ps[j]? = some p → d[j]? = some x → p.1 = x.1.1.1.1 ∧ ownLabels wr w.heap.size p.2 x.1.1.1.2
theorem KJ.grow {w w1 w2 : World} {kb rb : Nat} {v : Value} {d : List KS} {vr vl vh : Value} {ps : List (Int × Value)} {i : Nat} (h : KJ w kb rb v d vr vl vh ps i w1) (g : Grow w1 w2) : KJ w kb rb v d vr vl vh ps i w2 :=
  ⟨h.gr.trans g, g.get h.at', g.get h.res, h.ne, h.kb, own_grow h.row g, own_grow h.r g, own_grow h.l g, own_grow h.h g, h.len, fun j p x hp hx => ⟨(h.labs j p x hp hx).1, own_grow (h.labs j p x hp hx).2 g⟩⟩
theorem kvs_of (ps : List KV) (h : ∀ p ∈ ps, ∃ ao n cp, p.2 = .slice ao n cp) : ∃ zs : List KS, kvs zs = ps := by
  induction ps with
  | nil => exact ⟨[], rfl⟩
  | cons p ps ih =>
    obtain ⟨zs, hz⟩ := ih fun q hq => h q (List.mem_cons_of_mem _ hq)
    exact ⟨⟨p, h p (by simp)⟩ :: zs, by unfold kvs at hz ⊢; rw [List.map_cons, hz]⟩
theorem row_cellsK {w : World} {B : Nat} {v : Value} {d : List KS} (h : w.ownsRow B 96 4 v d.length (kepC (kvs d))) {i : Nat} (hi : i < d.length) :
    ∃ g cap, v = .slice (some ⟨g, 0, none⟩) d.length cap ∧ B ≤ g ∧ g < w.heap.size ∧ w.cell? ⟨g, i * 4, none⟩ = some (.int .i64 d[i].1.1.1.1) ∧ w.cell? ⟨g, i * 4 + 1, none⟩ = some d[i].1.2 ∧ w.cell? ⟨g, i * 4 + 2, none⟩ = some (.int .i64 d[i].1.1.2.1) ∧ w.cell? ⟨g, i * 4 + 3, none⟩ = some (.bool d[i].1.1.2.2) := by
  rcases id h.2 with ⟨_, h0⟩ | ⟨g, cap, cur, r1, r2, r3, r4, r5, r6, r7⟩
  · omega
  · have hc := World.ownsRow.cells h (g := g) (by rw [r1]; rfl)
    obtain ⟨k0, k1, k2, k3⟩ := kepC_at (kvs d) i (by rw [kvs_length]; exact hi)
    have hk : (kvs d)[i]'(by rw [kvs_length]; exact hi) = d[i].1 := by simp [kvs]
    rw [hk] at k0 k1 k2 k3
    have c0 := hc _ _ k0
    have c1 := hc _ _ k1
    have c2 := hc _ _ k2
    have c3 := hc _ _ k3
    rw [Addr.add_lit] at c0 c1 c2 c3
    exact ⟨g, cap, r1, r2, lt_of_block r3, by simpa using c0, by simpa using c1, by simpa using c2, by simpa using c3⟩
set_option maxRecDepth 20000 in
set_option maxHeartbeats 4000000 in
theorem known_any (w : World) (B : Nat) (F : Nat → Prop) (b : Nat) (K : List Kp) (hm : memJ w B F b K) (hr : rightM K) (hl : K.length ≤ 1000) :
    Calls Tryz.prog 27 #[.pointer (some ⟨b, 0, none⟩)] w fun e w' => ∃ (vr vl vh : Value) (D : List Kp), e = .returned (.agg #[vr, vl, vh]) ∧ D.Perm K ∧ D.Pairwise (fun p q => p.1.1 ≤ q.1.1) ∧ ownKnw w' w.heap.size vr vl vh (knwOf D) ∧ Grow w w' := by
  obtain ⟨v, mb, tb, ps, D1, D2, hP⟩ := hm
  obtain ⟨zs, hzs⟩ := kvs_of ps fun p hp => by
    obtain ⟨ao, cp, e⟩ := readsLabels_len (hP.labs p hp).reads
    exact ⟨_, _, _, e⟩
  have hzl : zs.length = K.length := by rw [← hP.kept, ← hzs, List.length_map, kvs_length]
  have hzK : zs.map (·.1.1) = K := by rw [← hP.kept, ← hzs]; unfold kvs; rw [List.map_map]; rfl
  have hlab : ∀ z ∈ zs, readsLabels w w.heap.size z.1.2 z.1.1.1.2 ∧ checkB z.1.1.1.2 = 0 := fun z hz => by
    have h1 : z.1 ∈ ps := by rw [← hzs]; exact List.mem_map.2 ⟨z, hz, rfl⟩
    refine ⟨(hP.labs _ h1).reads, (refErr_zero (hr z.1.1 ?_)).2.2⟩
    rw [← hzK]; exact List.mem_map.2 ⟨z, hz, rfl⟩
  have hrow := hP.row
  rw [← hzs] at hrow
  have hhold : ∀ W, Grow w W → holdsS W.heap.size W v zs := fun W hW => by
    have hro := own_grow hrow hW
    rcases id hro.2 with ⟨hv, h0⟩ | ⟨g, cap, cur, r1, r2, r3, r4⟩
    · exact .inl ⟨hv, List.eq_nil_of_length_eq_zero (by rw [hzl]; exact h0)⟩
    · rw [← hzl] at r1 hro
      refine .inr ⟨g, cap, r1, lt_of_block r3, fun j hj => ?_⟩
      obtain ⟨g', cap', e, _, _, c0, c1, c2, c3⟩ := row_cellsK hro hj
      rw [r1] at e
      obtain ⟨rfl, rfl⟩ : g = g' ∧ cap = cap' := by simpa using e
      exact ⟨c0, c1, c2, c3⟩
  obtain ⟨vo, vc, hvv⟩ := own_shape hP.row
  subst hvv
  obtain ⟨V1, e1, g1, b1⟩ := laid_at w #[.slice none 0 0, .slice none 0 0, .slice none 0 0] 26
  obtain ⟨V2, e2, g2, b2⟩ := laid_at V1 #[.slice vo K.length vc] 86
  have s1 : V1.heap.size = w.heap.size + 1 := by rw [← e1]; simp
  have s2 : V2.heap.size = V1.heap.size + 1 := by rw [← e2]; simp
  have HSF := hide (sortedFunc_any V2 V1.heap.size (.slice vo K.length vc) zs (by omega) (by omega) (cell_of_one b2) (hhold V2 (g1.trans g2)))
  obtain ⟨c0, c1, c2⟩ := three_of (g1.get hP.at')
  have HB1 := hide (g2.get b1)
  have HG2 := hide (g1.trans g2)
  have HVA := hide (values_any V1 vo K.length vc)
  rw [e2, s1] at HVA
  rw [s1] at HSF s2
  have HSZ2 : Hid (w.heap.size ≤ V2.heap.size) := hide (by omega)
  have HLAB := hide hlab
  have HZK := hide hzK
  obtain ⟨i1, hi1, hx0, hx1, hx2⟩ := info_parts infoRefK
  obtain ⟨i2, hi2, hy0, hy1, hy2⟩ := info_parts infoIntK
  obtain ⟨i3, hi3, hz0, hz1, hz2⟩ := info_parts infoBoolK
  clear hP hr hzs hlab hrow hhold b1 b2 g1 g2 hzK e2 s1 s2
  go_enter Tryz.func27, Tryz.ntmps27
  go_wp2_with fail
  refine HVA.out.mono ?_
  rintro e W ⟨rfl, hw⟩
  subst hw
  clear c0 c1 c2
  go_wp2_with fail
  refine HSF.out.mono ?_
  rintro e W3 ⟨v3, d, rfl, hrow3, hperm, hpw, hg3⟩
  have hdl : d.length ≤ 1000 := by rw [hperm.length_eq]; omega
  have hB3 := HB1.out
  have hG3 := HG2.out.trans hg3
  have hlabd : ∀ z ∈ d, readsLabels w w.heap.size z.1.2 z.1.1.1.2 ∧ checkB z.1.1.1.2 = 0 := fun z hz => HLAB.out z (hperm.mem_iff.1 hz)
  have hrow4 := own_le hrow3 HSZ2.out
  obtain ⟨V4, e4, g4, b4⟩ := laid_at W3 #[.slice none 0 0, .slice none 0 0, .slice none 0 0] 26
  have hKJ : KJ w W3.heap.size w.heap.size v3 d (.slice none 0 0) (.slice none 0 0) (.slice none 0 0) [] 0 V4 :=
    ⟨hG3.trans g4, b4, g4.get (hg3.get HB1.out), by have := HSZ2.out; have := hg3.size; have := lt_of_block HB1.out; omega, hG3.size, own_grow hrow4 g4, World.ownsRow_nil _ _ _ _, World.ownsRow_nil _ _ _ _, World.ownsRow_nil _ _ _ _, rfl, fun j p x hp => by simp at hp⟩
  obtain ⟨vo3, vc3, hv3⟩ := own_shape hrow3
  subst hv3
  have HKJ := hide hKJ
  have HLD := hide hlabd
  have HPE := hide hperm
  have HPW := hide hpw
  clear hKJ hlabd hperm hpw hrow3 hrow4 hB3 hG3 hg3 g4 b4 HSF HVA HB1 HG2 HLAB hzl e1 hl
  go_wp2
  go_loopw [17] (fun iv wr => ∃ (i : Nat) (vr vl vh : Value) (ps : List (Int × Value)), i ≤ d.length ∧ iv = .int .i64 i ∧ Hid (KJ w W3.heap.size w.heap.size (.slice vo3 d.length vc3) d vr vl vh ps i wr)) (fun iv _ => d.length - (intOf iv).toNat)
  case atStart => exact ⟨0, _, _, _, [], by omega, rfl, HKJ⟩
  case round =>
    obtain ⟨i, vr, vl, vh, ps, hi, rfl, HJ⟩ := hrel
    rename World => wr
    obtain ⟨ro, rc, hvr⟩ := own_shape HJ.out.r
    obtain ⟨lo, lc, hvl⟩ := own_shape HJ.out.l
    obtain ⟨ho, hc, hvh⟩ := own_shape HJ.out.h
    subst hvr hvl hvh
    by_cases hlt : i < d.length
    · have hlti : (i : Int) < (d.length : Int) := by omega
      obtain ⟨g, cap, hge, hgB, hgs, q0, q1, q2, q3⟩ := row_cellsK HJ.out.row hlt
      obtain ⟨hls, hck⟩ := HLD.out _ (List.getElem_mem hlt)
      have htk1 : (d.take (i + 1)).map (·.1.1.2.1) = (d.take i).map (·.1.1.2.1) ++ [d[i].1.1.2.1] := by rw [List.take_succ_eq_append_getElem hlt, List.map_append]; rfl
      have htk2 : (d.take (i + 1)).map (·.1.1.2.2) = (d.take i).map (·.1.1.2.2) ++ [d[i].1.1.2.2] := by rw [List.take_succ_eq_append_getElem hlt, List.map_append]; rfl
      obtain ⟨nn, ls, tt, ss, ao, xn, cp, HX⟩ : ∃ (nn : Int) (ls : List Lab) (tt : Int) (ss : Bool) (ao : Option Addr) (xn cp : Nat), Hid (d[i].1 = (((nn, ls), tt, ss), .slice ao xn cp)) := by
        obtain ⟨⟨⟨⟨nn, ls⟩, tt, ss⟩, vv⟩, ao, xn, cp, hxe⟩ := d[i]
        simp only at hxe
        subst hxe
        exact ⟨nn, ls, tt, ss, ao, xn, cp, hide rfl⟩
      rw [HX.out] at q0 q1 q2 q3 hls hck htk1 htk2
      simp only at q0 q1 q2 q3 hls hck htk1 htk2
      obtain ⟨rfl, rfl⟩ : vo3 = some ⟨g, 0, none⟩ ∧ vc3 = cap := by simpa using hge
      obtain ⟨V, eV, gV, hV⟩ := laid_at wr #[.int .i64 nn, .slice ao xn cp, .int .i64 tt, .bool ss] 96
      obtain ⟨d0, d1, d2, d3⟩ := four_of hV
      obtain ⟨hme, hma⟩ := make_rightK hck
      obtain ⟨hsl1, hsl2⟩ := check_small hck
      have hgw := HJ.out.gr.trans gV
      have HMK := hide (make_any V (.slice ao xn cp) ls (readsLabels_mono (readsLabels_below hls hgw) hgw.size) (by omega) (fun y hy => by have := hsl2 y hy; omega))
      rw [hme, hma] at HMK
      have HJV := hide (HJ.out.grow gV)
      have HV := hide hV
      have HKN : Hid (W3.heap.size < wr.heap.size) := hide (lt_of_block HJ.out.at')
      have HTK1 := hide htk1
      have HTK2 := hide htk2
      clear hV gV hls hck htk1 htk2 hme hma hsl1 hsl2 hge hgw
      go_wp2_with fail
      refine HMK.out.mono ?_
      rintro e W5 ⟨v5, rfl, hown5, hg5⟩
      have HJ5 := hide (HJV.out.grow hg5)
      have HV5 := hide ((show Grow V W5 from hg5).get HV.out)
      have HL5 := hide (own_le hown5 (Nat.le_trans HJ.out.gr.size (show wr.heap.size ≤ V.heap.size by rw [← eV]; simp)))
      obtain ⟨a5, p5, hv5⟩ := own_shape hown5
      subst hv5
      clear hown5 hg5 HMK eV d0 d1 d2 d3 q0 q1 q2 q3 HJ HJV HV
      obtain ⟨c0, c1, c2⟩ := three_of HJ5.out.at'
      obtain ⟨d0, d1, d2, d3⟩ := four_of HV5.out
      obtain ⟨X, eX, gX, hX⟩ := laid_at W5 #[.int .i64 nn, .slice a5 ls.length p5] 59
      have HJX := hide (HJ5.out.grow gX)
      have HVX := hide (gX.get HV5.out)
      have HLX := hide (own_grow HL5.out gX)
      have hszX : w.heap.size ≤ X.heap.size := HJX.out.gr.size
      go_wp2_with (first
        | (at_builtin; refine wpList_append_own _ rfl _ _ 22 rfl w.heap.size 59 i1 _ 2 32 Tryz.underlying22 hi1 hx0 hx1 hx2 rfl (by omega) (.slice ro i rc) i (refCells ps) rfl HJX.out.r ⟨W5.heap.size, 0, none⟩ 1 1 [.int .i64 nn, .slice a5 ls.length p5] rfl rfl (World.news_of_block hX) (by simp [Value.oneCell']) (by unfold maxLen; omega) (by omega) hszX ?_; intro v6 W6 hown6 hgrow6 _; obtain ⟨h6, h7, ho7, ht7, hb7⟩ := app_step (o := 0) HJX.out.at' HJX.out.r (by decide) hgrow6 hown6; obtain ⟨o6, c6, hv6⟩ := own_shape hown6; subst hv6; have k0 := (three_of h6).1; have z0 : W6.frozen? ⟨W3.heap.size, 0, none⟩ = false := (by simp [World.frozen?, h6]); generalize e7 : W6.setCell ⟨W3.heap.size, 0, none⟩ (.slice o6 (i + 1) c6) = W7 at h7 ho7 ht7 hb7; have h7' : W7.heap[W3.heap.size]? = some (.cells #[.slice o6 (i + 1) c6, .slice lo i lc, .slice ho i hc] 26 (0, 0)) := h7; have hV7 := ht7 _ _ _ _ HVX.out (by decide) (by have := lt_of_block HJ5.out.at'; have := HKN.out; omega); obtain ⟨c70, c71, c72⟩ := three_of h7'; obtain ⟨d70, d71, d72, d73⟩ := four_of hV7; have hs7 : w.heap.size ≤ W7.heap.size := Nat.le_trans hszX (hb7 0 (Nat.zero_le _) (Nat.zero_le _) (Nat.zero_le _)).size; have hl7 := own_typed ht7 HJX.out.at' HJX.out.l (by decide) (by decide); have hh7 := own_typed ht7 HJX.out.at' HJX.out.h (by decide) (by decide))
        | (at_builtin; refine wpList_append_own _ rfl _ _ 23 rfl w.heap.size 3 i2 _ 1 8 Tryz.underlying23 hi2 hy0 hy1 hy2 rfl (by omega) (.slice lo i lc) i (intsV ((d.take i).map (·.1.1.2.1))) rfl (own_grow hl7 ((Grow.refl W7).alloc _)) ⟨W7.heap.size, 0, none⟩ 1 1 [.int .i64 tt] rfl rfl (World.news_of_block (heap_alloc_new _ _)) (by simp [Value.oneCell']) (by unfold maxLen; omega) (by omega) (by simp; omega) ?_; intro v8 W8 hown8 hgrow8 _; obtain ⟨h8, h9, ho9, ht9, hb9⟩ := app_step (o := 1) (((Grow.refl W7).alloc _).get h7') (own_grow hl7 ((Grow.refl W7).alloc _)) (by decide) hgrow8 hown8; obtain ⟨o8, c8, hv8⟩ := own_shape hown8; subst hv8; have k1 := (three_of h8).2.1; have z1 : W8.frozen? ⟨W3.heap.size, 1, none⟩ = false := (by simp [World.frozen?, h8]); generalize e9 : W8.setCell ⟨W3.heap.size, 1, none⟩ (.slice o8 (i + 1) c8) = W9 at h9 ho9 ht9 hb9; have h9' : W9.heap[W3.heap.size]? = some (.cells #[.slice o6 (i + 1) c6, .slice o8 (i + 1) c8, .slice ho i hc] 26 (0, 0)) := h9; have hV9 := ht9 _ _ _ _ (((Grow.refl W7).alloc _).get hV7) (by decide) (by have := HKN.out; omega); obtain ⟨c90, c91, c92⟩ := three_of h9'; obtain ⟨d90, d91, d92, d93⟩ := four_of hV9; have hs9 : w.heap.size ≤ W9.heap.size := Nat.le_trans (by simp; omega) (hb9 0 (Nat.zero_le _) (Nat.zero_le _) (Nat.zero_le _)).size; have hh9 := own_typed ht9 (((Grow.refl W7).alloc _).get h7') (own_grow hh7 ((Grow.refl W7).alloc _)) (by decide) (by decide); have hr9 := own_typed ht9 (((Grow.refl W7).alloc _).get h7') (own_grow ho7 ((Grow.refl W7).alloc _)) (by decide) (by decide))
        | (at_builtin; refine wpList_append_own _ rfl _ _ 24 rfl w.heap.size 4 i3 _ 1 1 Tryz.underlying24 hi3 hz0 hz1 hz2 rfl (by omega) (.slice ho i hc) i (boolsV ((d.take i).map (·.1.1.2.2))) rfl (own_grow hh9 ((Grow.refl W9).alloc _)) ⟨W9.heap.size, 0, none⟩ 1 1 [.bool ss] rfl rfl (World.news_of_block (heap_alloc_new _ _)) (by simp [Value.oneCell']) (by unfold maxLen; omega) (by omega) (by simp; omega) ?_; intro v10 W10 hown10 hgrow10 _; obtain ⟨h10, h11, ho11, ht11, hb11⟩ := app_step (o := 2) (((Grow.refl W9).alloc _).get h9') (own_grow hh9 ((Grow.refl W9).alloc _)) (by decide) hgrow10 hown10; obtain ⟨o10, c10, hv10⟩ := own_shape hown10; subst hv10; have k2 := (three_of h10).2.2; have z2 : W10.frozen? ⟨W3.heap.size, 2, none⟩ = false := (by simp [World.frozen?, h10]); generalize e11 : W10.setCell ⟨W3.heap.size, 2, none⟩ (.slice o10 (i + 1) c10) = W11 at h11 ho11 ht11 hb11; have h11' : W11.heap[W3.heap.size]? = some (.cells #[.slice o6 (i + 1) c6, .slice o8 (i + 1) c8, .slice o10 (i + 1) c10] 26 (0, 0)) := h11; have hr11 := own_typed ht11 (((Grow.refl W9).alloc _).get h9') (own_grow hr9 ((Grow.refl W9).alloc _)) (by decide) (by decide); have hl11 := own_typed ht11 (((Grow.refl W9).alloc _).get h9') (own_grow ho9 ((Grow.refl W9).alloc _)) (by decide) (by decide)))
      have HKB := hide HJ5.out.kb
      have hal7 : Grow W7 (W7.alloc (.cells #[.int .i64 tt] 3)) := (Grow.refl W7).alloc _
      have hal9 : Grow W9 (W9.alloc (.cells #[.bool ss] 4)) := (Grow.refl W9).alloc _
      have hch : ∀ {f size n : Nat} {u : Value} {xs : List Value}, f ≠ 59 → f ≠ 3 → f ≠ 4 → f ≠ 26 → X.ownsRow w.heap.size f size u n xs → W11.ownsRow w.heap.size f size u n xs := fun g1 g2 g3 g4 ho => own_typed ht11 (hal9.get h9') (own_grow (own_typed ht9 (hal7.get h7') (own_grow (own_typed ht7 HJX.out.at' ho g1 g4) hal7) g2 g4) hal9) g3 g4
      have hgr : Grow w W11 := Below.trans (Below.trans (Below.trans (Below.trans (Below.trans HJX.out.gr (hb7 w.heap.size HKB.out (Nat.le_refl _) hszX)) (Below.mono hal7 hs7)) (hb9 w.heap.size HKB.out (Nat.le_refl _) (by simp; omega))) (Below.mono hal9 hs9)) (hb11 w.heap.size HKB.out (Nat.le_refl _) (by simp; omega))
      have hrs := ht11 _ _ _ _ (hal9.get (ht9 _ _ _ _ (hal7.get (ht7 _ _ _ _ HJX.out.res (by decide) HJX.out.ne)) (by decide) HJX.out.ne)) (by decide) HJX.out.ne
      refine ⟨⟨i + 1, .slice o6 (i + 1) c6, .slice o8 (i + 1) c8, .slice o10 (i + 1) c10, ps ++ [(nn, .slice a5 ls.length p5)], by omega, by go_num, hide ⟨hgr, h11', hrs, HJX.out.ne, HKB.out, hch (by decide) (by decide) (by decide) (by decide) HJX.out.row, ?_, ?_, ?_, by rw [List.length_append, HJX.out.len]; rfl, fun j p x hp hx => ?_⟩⟩, by simp [intOf]; omega⟩
      · rw [refCells_snoc]; exact hr11
      · rw [HTK1.out]; unfold intsV at hl11 ⊢; rw [List.map_append]; exact hl11
      · rw [HTK2.out]; unfold boolsV at ho11 ⊢; rw [List.map_append]; exact ho11
      · by_cases hj : j < i
        · rw [List.getElem?_append_left (by rw [HJX.out.len]; exact hj)] at hp
          obtain ⟨h1, h2⟩ := HJX.out.labs j p x hp hx
          exact ⟨h1, hch (by decide) (by decide) (by decide) (by decide) h2⟩
        · rw [List.getElem?_append_right (by rw [HJX.out.len]; omega), HJX.out.len] at hp
          have hji : j = i := by
            have : j - i < 1 := by
              have := List.getElem?_eq_some_iff.1 hp
              obtain ⟨h, _⟩ := this
              simpa using h
            omega
          subst hji
          simp at hp
          subst hp
          have hxd : d[j] = x := by rw [List.getElem?_eq_getElem hlt] at hx; exact Option.some.inj hx
          have hX := HX.out
          rw [hxd] at hX
          refine ⟨by rw [hX], ?_⟩
          have e1 : x.1.1.1.2 = ls := by rw [hX]
          rw [e1]
          exact hch (by decide) (by decide) (by decide) (by decide) HLX.out
    · obtain rfl : i = d.length := by omega
      obtain ⟨ck0, ck1, ck2⟩ := three_of HJ.out.at'
      have HR := hide HJ.out.res
      obtain ⟨cr0, cr1, cr2⟩ := three_of HJ.out.res
      have z0 : wr.frozen? ⟨w.heap.size, 0, none⟩ = false := by simp [World.frozen?, HR.out]
      have z1 : wr.frozen? ⟨w.heap.size, 1, none⟩ = false := by simp [World.frozen?, HR.out]
      have z2 : wr.frozen? ⟨w.heap.size, 2, none⟩ = false := by simp [World.frozen?, HR.out]
      go_wp2
      have hF := set3 (set3 (set3 HR.out 0 (.slice ro d.length rc)) 1 (.slice lo d.length lc)) 2 (.slice ho d.length hc)
      obtain ⟨f0, f1, f2⟩ := three_of hF
      refine bodyPost_ret (v := .agg #[.slice ro d.length rc, .slice lo d.length lc, .slice ho d.length hc]) (by simp [results, Tryz.results27, go_sem, f0, f1, f2]) rfl ?_
      have hset : ∀ {f size n : Nat} {u : Value} {xs : List Value}, f ≠ 26 → wr.ownsRow w.heap.size f size u n xs → (((wr.setCell ⟨w.heap.size, 0, none⟩ (.slice ro d.length rc)).setCell ⟨w.heap.size, 1, none⟩ (.slice lo d.length lc)).setCell ⟨w.heap.size, 2, none⟩ (.slice ho d.length hc)).ownsRow w.heap.size f size u n xs := fun g h0 => by
        have h1 := ownsRow_setCell_other (a := ⟨w.heap.size, 0, none⟩) h0 (own_apart h0 HR.out g) (.slice ro d.length rc)
        have h2 := ownsRow_setCell_other (a := ⟨w.heap.size, 1, none⟩) h1 (own_apart h1 (set3 HR.out 0 _) g) (.slice lo d.length lc)
        exact ownsRow_setCell_other (a := ⟨w.heap.size, 2, none⟩) h2 (own_apart h2 (set3 (set3 HR.out 0 _) 1 _) g) _
      have htk : d.take d.length = d := List.take_of_length_le (Nat.le_refl _)
      refine ⟨_, _, _, d.map (·.1.1), rfl, ?_, ?_, ⟨⟨ps, ?_, ?_, ?_⟩, ?_, ?_⟩, Below.setCell (Below.setCell (Below.setCell HJ.out.gr (Nat.le_refl _) _) (Nat.le_refl _) _) (Nat.le_refl _) _⟩
      · rw [← HZK.out]; exact HPE.out.map _
      · rw [List.pairwise_map]; exact HPW.out
      · simp [knwOf, HJ.out.len]
      · have := hset (by decide) HJ.out.r
        simpa [knwOf] using this
      · intro j p x hp hx
        simp only [knwOf, List.map_map, List.getElem?_map, Option.map_eq_some_iff] at hx
        obtain ⟨z, hz, rfl⟩ := hx
        obtain ⟨h1, h2⟩ := HJ.out.labs j p z hp hz
        exact ⟨h1, hset (by decide) h2⟩
      · have := hset (by decide) HJ.out.l
        rw [htk] at this
        have e : (knwOf (d.map (·.1.1))).lasts = d.map (·.1.1.2.1) := by show (d.map (·.1.1)).map (·.2.1) = _; rw [List.map_map]; rfl
        rw [e, List.length_map]
        exact this
      · have := hset (by decide) HJ.out.h
        rw [htk] at this
        have e : (knwOf (d.map (·.1.1))).has = d.map (·.1.1.2.2) := by show (d.map (·.1.1)).map (·.2.2) = _; rw [List.map_map]; rfl
        rw [e, List.length_map]
        exact this
/-- What is kept, by number. -/
def sortK (K : List Kp) : List Kp := K.mergeSort fun a b => decide (a.1.1 ≤ b.1.1)
theorem sortK_perm (K : List Kp) : (sortK K).Perm K := List.mergeSort_perm _ _
theorem sortK_rise (K : List Kp) : (sortK K).Pairwise fun a b => a.1.1 ≤ b.1.1 := by
  have h := List.pairwise_mergeSort (le := fun a b : Kp => decide (a.1.1 ≤ b.1.1)) (fun a b c h1 h2 => by
    simp only [decide_eq_true_eq] at *; omega) (fun a b => by
    simp only [Bool.or_eq_true, decide_eq_true_eq]; omega) K
  exact h.imp fun h => by simpa using h
theorem Dist.mem_eq {K : List Kp} (hd : Dist K) {a b : Kp} (ha : a ∈ K) (hb : b ∈ K) (h : a.1.1 = b.1.1) : a = b := by
  obtain ⟨i, hi, rfl⟩ := List.getElem_of_mem ha
  obtain ⟨j, hj, rfl⟩ := List.getElem_of_mem hb
  have := hd.numEq hi hj h
  subst this
  rfl
theorem sortK_uniq {K D : List Kp} (hd : Dist K) (hp : D.Perm K) (hr : D.Pairwise fun a b => a.1.1 ≤ b.1.1) : D = sortK K := by
  refine (hp.trans (sortK_perm K).symm).eq_of_pairwise (le := fun a b => a.1.1 ≤ b.1.1) (fun a b ha hb h1 h2 => ?_) hr (sortK_rise K)
  exact hd.mem_eq (hp.mem_iff.1 ha) ((sortK_perm K).mem_iff.1 hb) (by omega)
/-- What Learn answers. -/
def learnE (k : Knw) (r : Rcd) : Nat := if knwErr k ≠ 0 then knwErr k else if recErr r ≠ 0 then recErr r else (learnR (kpsOf k k.refs.length) r).1
def learnK (k : Knw) (r : Rcd) : List Kp := (learnR (kpsOf k k.refs.length) r).2
def noKnw : Knw := ⟨[], [], []⟩
def learnAns (k : Knw) (r : Rcd) : Knw := if learnE k r = 0 then knwOf (sortK (learnK k r)) else noKnw
theorem learnE_zero {k : Knw} {r : Rcd} (h : learnE k r = 0) : knwErr k = 0 ∧ recErr r = 0 ∧ learnR (kpsOf k k.refs.length) r = (0, learnK k r) := by
  unfold learnE at h
  split at h
  · rename_i h1; exact absurd h h1
  · rename_i h1
    split at h
    · rename_i h2; exact absurd h h2
    · rename_i h2
      exact ⟨by omega, by omega, Prod.ext h rfl⟩
theorem learnE_knw {k : Knw} {r : Rcd} (h : knwErr k ≠ 0) : learnE k r = knwErr k := by unfold learnE; rw [if_pos h]
theorem learnE_rec {k : Knw} {r : Rcd} (h : knwErr k = 0) (h2 : recErr r ≠ 0) : learnE k r = recErr r := by unfold learnE; rw [if_neg (by omega), if_pos h2]
theorem learnE_all {k : Knw} {r : Rcd} (h : knwErr k = 0) (h2 : recErr r = 0) : learnE k r = (learnR (kpsOf k k.refs.length) r).1 := by unfold learnE; rw [if_neg (by omega), if_neg (by omega)]
def readsRcd (w : World) (B : Nat) (vr vp : Value) (r : Rcd) : Prop := readsRefs w B vr r.refs ∧ readsPoints w B vp r.points
theorem readsRcd.keep {w w' : World} {B : Nat} {vr vp : Value} {r : Rcd} (h : readsRcd w B vr vp r) (g : Below B w w') : readsRcd w' B vr vp r := ⟨h.1.keep g, h.2.keep g⟩
theorem readsRcd.more {w : World} {B B' : Nat} {vr vp : Value} {r : Rcd} (h : readsRcd w B vr vp r) (hB : B ≤ B') : readsRcd w B' vr vp r := ⟨h.1.more hB, h.2.more hB⟩
set_option maxRecDepth 20000 in
set_option maxHeartbeats 8000000 in
theorem learn1_any (w : World) (B : Nat) (F : Nat → Prop) (b kb rb pb : Nat) (vr vl vh ur up : Value) (k : Knw) (r : Rcd) (hkb : w.heap[kb]? = some (.cells #[vr, vl, vh] 26 (0, 0))) (hrb : w.heap[rb]? = some (.cells #[.int .i64 r.kind, ur, up] 29 (0, 0))) (hpb : w.heap[pb]? = some (.cells #[.pointer (some ⟨b, 0, none⟩)] 50 (0, 0)))
    (hm : memJ w B F b []) (hF : ∀ k, w.heap.size ≤ k → F k) (hFB : ∀ k, F k → B ≤ k) (hBw : B ≤ w.heap.size) (hk : readsKnw w B vr vl vh k) (hok : okKnw k) (hr : readsRcd w B ur up r) (hor : okRec r) :
    Calls Tryz.prog 22 #[.pointer (some ⟨kb, 0, none⟩), .pointer (some ⟨rb, 0, none⟩), .pointer (some ⟨pb, 0, none⟩)] w (worked fun E w' => E = learnE k r ∧ (E = 0 → memJ w' B F b (learnK k r)) ∧ KeptR F w w') := by
  have HCK := hide (checkKnown_any w vr vl vh k (hk.more hBw) hok)
  have HCR := hide (fun W (g : Grow w W) => checkRecord_any W ur up r ((hr.1.keep (Below.mono g hBw)).more (Nat.le_trans hBw g.size)) ((hr.2.keep (Below.mono g hBw)).more (Nat.le_trans hBw g.size)) hor.1 hor.2.1 hor.2.2.1 hor.2.2.2.1 hor.2.2.2.2)
  have HRC := hide (fun W (g : Grow w W) (h : knwErr k = 0) => recall_any W B F b vr vl vh k (hm.grow g) (fun k h => hF k (Nat.le_trans g.size h)) hFB (Nat.le_trans hBw g.size) (hk.keep (Below.mono g hBw)) h)
  have HKB := hide hkb
  have HRB := hide hrb
  have HPB := hide hpb
  have HF := hide hF
  have HFB := hide hFB
  have HRR := hide hr
  obtain ⟨⟨ro, rc, rfl, _⟩, ⟨lo, lc, rfl, _⟩, ⟨ho, hc, rfl, _⟩⟩ := hk
  obtain ⟨⟨uo, uc, rfl, _⟩, ⟨po, pc, rfl, _⟩⟩ := hr
  obtain ⟨c0, c1, c2⟩ := three_of hkb
  obtain ⟨P1, HP1⟩ : ∃ E, Hid (knwErr k = E) := ⟨_, hide rfl⟩
  rw [HP1.out] at HCK
  clear hkb hrb hpb hm hF hFB hok hor
  go_enter Tryz.func22, Tryz.ntmps22
  go_wp2_with fail
  refine HCK.out.mono ?_
  rintro e w1 ⟨rfl, hg1⟩
  have HG1 := hide hg1
  clear hg1 HCK c0 c1 c2
  by_cases h0 : P1 = 0
  · have HK0 : Hid (knwErr k = 0) := hide (by rw [HP1.out]; exact h0)
    rw [h0, outc_ok]
    clear h0 HP1
    obtain ⟨r0, r1, r2⟩ := three_of (HG1.out.get HRB.out)
    have HCR1 := hide (HCR.out w1 HG1.out)
    obtain ⟨P2, HP2⟩ : ∃ E, Hid (recErr r = E) := ⟨_, hide rfl⟩
    rw [HP2.out] at HCR1
    clear HCR
    go_wp2_with fail
    refine HCR1.out.mono ?_
    rintro e w2 ⟨rfl, hg2⟩
    have HG2 := hide (HG1.out.trans hg2)
    clear hg2 HCR1 r0 r1 r2
    by_cases h0 : P2 = 0
    · have HR0 : Hid (recErr r = 0) := hide (by rw [HP2.out]; exact h0)
      rw [h0, outc_ok]
      clear h0 HP2
      obtain ⟨c0, c1, c2⟩ := three_of (HG2.out.get HKB.out)
      have p0 := cell_of_one (HG2.out.get HPB.out)
      have HRC2 := hide (HRC.out w2 HG2.out HK0.out)
      clear HRC
      go_wp2_with fail
      refine HRC2.out.mono ?_
      rintro e w3 ⟨rfl, hm3, hk3⟩
      have HM3 := hide hm3
      have HK3 : Hid (KeptR F w w3) := hide ((KeptR.grow HG2.out).trans hk3)
      have hl3 := (knwErr_zero HK0.out).2.2.1
      have hs3 := HK3.out.size
      have HLN := hide (learn_any w3 B F b (kpsOf k k.refs.length) (.slice uo r.refs.length uc) (.slice po r.points.length pc) r hm3 (fun k h => HF.out k (by omega)) HFB.out (by omega) (kps_dist HK0.out (Nat.le_refl _)) (kps_right HK0.out (Nat.le_refl _))
        ((SR.of_reads HRR.out.1 hBw).keep (HK3.out.mono HFB.out)) ((SP.of_reads HRR.out.2 hBw).keep (HK3.out.mono HFB.out)) HR0.out (by rw [kpsOf_length]; exact hl3))
      have HLE : Hid (learnE k r = (learnR (kpsOf k k.refs.length) r).1) := hide (learnE_all HK0.out HR0.out)
      have HLK : Hid ((learnR (kpsOf k k.refs.length) r).2 = learnK k r) := hide rfl
      rw [HLK.out] at HLN
      rw [← HLE.out] at HLN
      obtain ⟨r0, r1, r2⟩ := three_of (HK3.out.typed _ _ _ _ HRB.out (by decide) (by decide) (by decide))
      have p0' := cell_of_one (HK3.out.typed _ _ _ _ HPB.out (by decide) (by decide) (by decide))
      clear hm3 hk3 HRC2 c0 c1 c2 p0 HLE HLK HM3 hs3 hl3
      go_wp2_with fail
      refine HLN.out.mono ?_
      rintro e w4 ⟨rfl, hm4, hk4⟩
      have HM4 := hide hm4
      have HK4 : Hid (KeptR F w w4) := hide (HK3.out.trans hk4)
      clear hm4 hk4 HLN r0 r1 r2 p0'
      obtain ⟨E, HE⟩ : ∃ E, Hid (learnE k r = E) := ⟨_, hide rfl⟩
      rw [HE.out]
      by_cases h0 : E = 0
      · have HZ := hide h0
        rw [h0, outc_ok]
        clear h0
        go_wp2
        go_end0
        exact ⟨0, outc_ok.symm, by rw [HE.out, HZ.out], fun _ => HM4.out, HK4.out⟩
      · rw [outc_no h0]
        exact ⟨rfl, E, (outc_no h0).symm, HE.out.symm, fun h => absurd h h0, HK4.out⟩
    · have HE : Hid (learnE k r = P2) := hide (by rw [learnE_rec HK0.out (by rw [HP2.out]; exact h0), HP2.out])
      rw [outc_no h0]
      exact ⟨rfl, P2, (outc_no h0).symm, HE.out.symm, fun h => absurd h h0, KeptR.grow HG2.out⟩
  · have HE : Hid (learnE k r = P1) := hide (by rw [learnE_knw (by rw [HP1.out]; exact h0), HP1.out])
    rw [outc_no h0]
    exact ⟨rfl, P1, (outc_no h0).symm, HE.out.symm, fun h => absurd h h0, KeptR.grow HG1.out⟩
theorem learn_dist {k : Knw} {r : Rcd} (h : learnE k r = 0) : Dist (learnK k r) ∧ rightM (learnK k r) ∧ (learnK k r).length ≤ 1000 := by
  obtain ⟨h1, h2, h3⟩ := learnE_zero h
  obtain ⟨h4, h5⟩ := learnR_right h3 (kps_dist h1 (Nat.le_refl _)) (kps_right h1 (Nat.le_refl _)) (recErr_zero h2).2.2.2.1
  exact ⟨h4, h5, learnR_len h3 (by rw [kpsOf_length]; exact (knwErr_zero h1).2.2.1)⟩
set_option maxRecDepth 20000 in
set_option maxHeartbeats 8000000 in
theorem Learn_any (w : World) (vr vl vh ur up : Value) (k : Knw) (r : Rcd) (hk : readsKnw w w.heap.size vr vl vh k) (hok : okKnw k) (hr : readsRcd w w.heap.size ur up r) (hor : okRec r) :
    Calls Tryz.prog 7 #[.agg #[vr, vl, vh], .agg #[.int .i64 r.kind, ur, up]] w fun e w' => ∃ xr xl xh, e = .returned (.tuple #[.agg #[xr, xl, xh], .int .i64 (learnE k r)]) ∧ ownKnw w' w.heap.size xr xl xh (learnAns k r) ∧ Grow w w' := by
  have hcf : ∀ (args : Array Value) (w : World), (callFunc 22 args).run Tryz.prog w = .ok (.enter 22 args) w := fun args w => by simp [go_sem]
  have hmf : ∀ (fn : Fn) (first cap : Array Value) (w : World), (Instr.makeFunc fn first cap).run Tryz.prog w = .ok (.func fn first cap) w := fun _ _ _ _ => rfl
  obtain ⟨V1, e1, g1, b1⟩ := laid_at w #[vr, vl, vh] 26
  obtain ⟨V2, e2, g2, b2⟩ := laid_at V1 #[.int .i64 r.kind, ur, up] 29
  obtain ⟨V3, e3, g3, b3⟩ := laid_at V2 #[.slice none 0 0, .slice none 0 0, .slice none 0 0] 26
  have s1 : V1.heap.size = w.heap.size + 1 := by rw [← e1]; simp
  have s2 : V2.heap.size = w.heap.size + 2 := by rw [← e2]; simp [s1]
  have s3 : V3.heap.size = w.heap.size + 3 := by rw [← e3]; simp [s2]
  have HV1 : Hid (w.heap.size < V1.heap.size) := hide (by omega)
  have HV2 : Hid (V1.heap.size < V2.heap.size) := hide (by omega)
  have HV3 : Hid (V2.heap.size < V3.heap.size) := hide (by omega)
  have HKB := hide (g3.get (g2.get b1))
  have HRB := hide (g3.get b2)
  have HRES := hide b3
  have HG3 := hide ((g1.trans g2).trans g3)
  have HK := hide hk
  have HR := hide hr
  have HOK := hide hok
  have HOR := hide hor
  have HS3 := hide s3
  obtain ⟨⟨ro, rc, rfl, _⟩, ⟨lo, lc, rfl, _⟩, ⟨ho, hc, rfl, _⟩⟩ := hk
  obtain ⟨⟨uo, uc, rfl, _⟩, ⟨po, pc, rfl, _⟩⟩ := hr
  clear g1 g2 g3 b1 b2 b3 s1 s2 s3 hok hor
  go_enter Tryz.func7, Tryz.ntmps7
  go_wp2_with fail
  refine (newMemory_any V3 w.heap.size (fun k => V3.heap.size ≤ k) (fun k h => h)).mono ?_
  rintro e w4 ⟨b, rfl, hg4, hm4, hbN⟩
  obtain ⟨V5, e5, g5, b5⟩ := laid_at w4 #[.pointer (some ⟨b, 0, none⟩)] 50
  obtain ⟨V6, e6, g6, b6⟩ := laid_at V5 #[.int .i64 0] 30
  have s5 : V5.heap.size = w4.heap.size + 1 := by rw [← e5]; simp
  have s6 : V6.heap.size = V5.heap.size + 1 := by rw [← e6]; simp
  have hs4 := hg4.size
  have hG4 : Grow V3 V6 := (hg4.trans g5).trans g6
  have hgw : Grow w V6 := HG3.out.trans hG4
  have h1 := HV1.out
  have h2 := HV2.out
  have h3 := HV3.out
  have HL1 := hide (learn1_any V6 w.heap.size (fun k => V3.heap.size ≤ k ∧ k ≠ V5.heap.size) b w.heap.size V1.heap.size w4.heap.size _ _ _ _ _ k r (hG4.get HKB.out) (hG4.get HRB.out) (g6.get b5)
    ((hm4.mono (fun k hk hl => ⟨hk, by omega⟩)).grow (g5.trans g6)) (fun k h => ⟨by omega, by omega⟩) (fun k h => by omega) (by omega) (HK.out.keep hgw) HOK.out (HR.out.keep hgw) HOR.out)
  have HB6 := hide b6
  have E6 := hide e6
  have HAT := hide (attempt_any V5 22 #[.pointer (some ⟨w.heap.size, 0, none⟩), .pointer (some ⟨V1.heap.size, 0, none⟩), .pointer (some ⟨w4.heap.size, 0, none⟩)] (fun E w' => E = learnE k r ∧ (E = 0 → memJ w' w.heap.size (fun k => V3.heap.size ≤ k ∧ k ≠ V5.heap.size) b (learnK k r)) ∧ KeptR (fun k => V3.heap.size ≤ k ∧ k ≠ V5.heap.size) V6 w') hcf (by
    rw [E6.out]
    refine HL1.out.mono ?_
    rintro e w' ⟨E, he, h1, h2, h3⟩
    exact ⟨E, he, ⟨h1, h2, h3⟩, (h3.block _ (lt_of_block HB6.out) (fun h => h.2 rfl)).trans HB6.out⟩))
  have HGW := hide hgw
  have HP6 := hide (g6.get b5)
  have HR6 := hide (hG4.get HRES.out)
  have HS5 : Hid (V5.heap.size = w4.heap.size + 1 ∧ V6.heap.size = V5.heap.size + 1 ∧ V3.heap.size ≤ w4.heap.size) := hide ⟨s5, s6, hs4⟩
  clear s5 s6 hs4 hg4 hm4 hbN g5 g6 b5 b6 e6 hG4 hgw HL1 h1 h2 h3
  go_wp2_with fail
  refine HAT.out.mono ?_
  rintro e w2 ⟨E, w1, rfl, ⟨hE, hm1, hk1⟩, hw2⟩
  obtain ⟨q1, q2, q3⟩ := HS5.out
  have h1 := HV1.out
  have h2 := HV2.out
  have h3 := HV3.out
  have hsz := hk1.size
  have hoth : ∀ q, q ≠ V5.heap.size → w2.heap[q]? = w1.heap[q]? := fun q hq => by rw [hw2]; exact Below.heap_setCell _ _ _ _ hq
  have hp2 : w2.heap[w4.heap.size]? = some (.cells #[.pointer (some ⟨b, 0, none⟩)] 50 (0, 0)) := (hoth _ (by omega)).trans (hk1.typed _ _ _ _ HP6.out (by decide) (by decide) (by decide))
  have hr2 : w2.heap[V2.heap.size]? = some (.cells #[.slice none 0 0, .slice none 0 0, .slice none 0 0] 26 (0, 0)) := (hoth _ (by omega)).trans (hk1.typed _ _ _ _ HR6.out (by decide) (by decide) (by decide))
  have hg2 : Grow w w2 := by
    rw [hw2]
    exact (Below.trans HGW.out (hk1.below (fun k h => by omega) (by omega))).setCell (p := ⟨V5.heap.size, 0, none⟩) (by show w.heap.size ≤ V5.heap.size; omega) _
  have hs2 : w1.heap.size = w2.heap.size := by rw [hw2]; simp [World.setCell]
  have HM2 : Hid (E = 0 → memJ w2 w.heap.size (fun k => V3.heap.size ≤ k ∧ k ≠ V5.heap.size) b (learnK k r)) := hide fun h0 => by
    refine (hm1 h0).keep (fun q hq _ => hoth q hq.2) ?_
    rw [hw2]
    have h6 : w1.heap[V5.heap.size]? = some (.cells #[.int .i64 0] 30 (0, 0)) := (hk1.block _ (by omega) (fun h => h.2 rfl)).trans HB6.out
    exact KeptR.setMem h6 (.inr (.inr rfl)) (by omega) _
  have HG2 := hide hg2
  have HP2 := hide hp2
  have HR2 := hide hr2
  have HE := hide hE
  have hwle : w.heap.size ≤ V2.heap.size := by omega
  clear hw2 hk1 hm1 hoth hsz q1 q2 q3 h1 h2 h3 HAT hE e3 e5 hg2 hs2 hp2 hr2 HS5 HGW HP6 HR6 E6 HB6
  obtain ⟨cr0, cr1, cr2⟩ := three_of HR2.out
  have z0 : w2.frozen? ⟨V2.heap.size, 0, none⟩ = false := by simp [World.frozen?, HR2.out]
  have z1 : w2.frozen? ⟨V2.heap.size, 1, none⟩ = false := by simp [World.frozen?, HR2.out]
  have z2 : w2.frozen? ⟨V2.heap.size, 2, none⟩ = false := by simp [World.frozen?, HR2.out]
  by_cases hm : E = 0
  · have HZ : Hid (learnE k r = 0) := hide (by rw [← HE.out, hm])
    obtain ⟨hd, hri, hln⟩ := learn_dist HZ.out
    have HKN := hide (known_any w2 w.heap.size _ b (learnK k r) (HM2.out hm) hri hln)
    have HD := hide hd
    have hz : E = 0 := hm
    subst hz
    have p0 := cell_of_one HP2.out
    clear hm hd hri hln HM2 HP2 cr0 cr1 cr2 z0 z1 z2
    go_wp2_with fail
    refine HKN.out.mono ?_
    rintro e w3 ⟨xr, xl, xh, D, rfl, hpe, hpw, hok3, hg3⟩
    have hr3 := hg3.get HR2.out
    have HR3 := hide hr3
    have HDS : Hid (D = sortK (learnK k r)) := hide (sortK_uniq HD.out hpe hpw)
    have HO3 := hide hok3
    have HG3 := hide (HG2.out.trans hg3)
    have HL23 := hide HG2.out.size
    obtain ⟨xro, xrc, hx1⟩ := ownRefs_shape hok3.r
    obtain ⟨xlo, xlc, hx2⟩ := own_shape hok3.l
    obtain ⟨xho, xhc, hx3⟩ := own_shape hok3.h
    subst hx1 hx2 hx3
    obtain ⟨cr0, cr1, cr2⟩ := three_of hr3
    have z0 : w3.frozen? ⟨V2.heap.size, 0, none⟩ = false := by simp [World.frozen?, hr3]
    have z1 : w3.frozen? ⟨V2.heap.size, 1, none⟩ = false := by simp [World.frozen?, hr3]
    have z2 : w3.frozen? ⟨V2.heap.size, 2, none⟩ = false := by simp [World.frozen?, hr3]
    clear hpe hpw hok3 hg3 hr3 HKN p0
    go_wp2
    have hF := set3 (set3 (set3 HR3.out 0 (.slice xro (knwOf D).refs.length xrc)) 1 (.slice xlo (knwOf D).lasts.length xlc)) 2 (.slice xho (knwOf D).has.length xhc)
    obtain ⟨f0, f1, f2⟩ := three_of hF
    have hans : learnAns k r = knwOf D := by unfold learnAns; rw [if_pos HZ.out, HDS.out]
    refine bodyPost_ret (v := .tuple #[.agg #[.slice xro (knwOf D).refs.length xrc, .slice xlo (knwOf D).lasts.length xlc, .slice xho (knwOf D).has.length xhc], .int .i64 0]) (by simp [results, Tryz.results7, go_sem, f0, f1, f2]) rfl ?_
    refine ⟨_, _, _, by rw [HZ.out]; rfl, ?_, Below.setCell (Below.setCell (Below.setCell HG3.out hwle _) hwle _) hwle _⟩
    rw [hans]
    have hset : ∀ {f size n : Nat} {u : Value} {xs : List Value}, f ≠ 26 → w3.ownsRow w2.heap.size f size u n xs → (((w3.setCell ⟨V2.heap.size, 0, none⟩ (.slice xro (knwOf D).refs.length xrc)).setCell ⟨V2.heap.size, 1, none⟩ (.slice xlo (knwOf D).lasts.length xlc)).setCell ⟨V2.heap.size, 2, none⟩ (.slice xho (knwOf D).has.length xhc)).ownsRow w.heap.size f size u n xs := fun g hh => by
      have h0 := own_le hh HL23.out
      have h1 := ownsRow_setCell_other (a := ⟨V2.heap.size, 0, none⟩) h0 (own_apart h0 HR3.out g) (.slice xro (knwOf D).refs.length xrc)
      have h2 := ownsRow_setCell_other (a := ⟨V2.heap.size, 1, none⟩) h1 (own_apart h1 (set3 HR3.out 0 _) g) (.slice xlo (knwOf D).lasts.length xlc)
      exact ownsRow_setCell_other (a := ⟨V2.heap.size, 2, none⟩) h2 (own_apart h2 (set3 (set3 HR3.out 0 _) 1 _) g) _
    obtain ⟨⟨ps, p1, p2, p3⟩, hl, hh⟩ := HO3.out
    exact ⟨⟨ps, p1, hset (by decide) p2, fun j p x hp hx => ⟨(p3 j p x hp hx).1, hset (by decide) (p3 j p x hp hx).2⟩⟩, hset (by decide) hl, hset (by decide) hh⟩
  · have hne : ((E : Int) != 0) = true := by simp; exact hm
    have HN : Hid (learnE k r ≠ 0) := hide (by rw [← HE.out]; exact hm)
    clear hm HM2
    go_wp2
    have hF := set3 (set3 (set3 HR2.out 0 (.slice none 0 0)) 1 (.slice none 0 0)) 2 (.slice none 0 0)
    obtain ⟨f0, f1, f2⟩ := three_of hF
    have hans : learnAns k r = noKnw := by unfold learnAns; rw [if_neg HN.out]
    refine bodyPost_ret (v := .tuple #[.agg #[.slice none 0 0, .slice none 0 0, .slice none 0 0], .int .i64 E]) (by simp [results, Tryz.results7, go_sem, f0, f1, f2]) rfl ?_
    refine ⟨_, _, _, by rw [HE.out], ?_, Below.setCell (Below.setCell (Below.setCell HG2.out hwle _) hwle _) hwle _⟩
    rw [hans]
    exact ⟨ownRefs_nil _ _, World.ownsRow_nil _ _ _ _, World.ownsRow_nil _ _ _ _⟩
end Go.Proofs.YtkaeogldielkfaaGreat.Rc
