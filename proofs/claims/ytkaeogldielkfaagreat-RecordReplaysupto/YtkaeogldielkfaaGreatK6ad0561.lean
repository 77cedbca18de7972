/- 4 texts in one. -/
import Derived.RangeFuncBound
import Derived.Laws.OwnMore
import Derived.Test.YtkaeogldielkfaaGreatProg
import Derived.Test.YtkaeogldielkfaaGreatKabe2b5f
import Derived.Test.YtkaeogldielkfaaGreatK4b9d97c
import Derived.Test.YtkaeogldielkfaaGreatKd1f2bd3
import Derived.Test.YtkaeogldielkfaaGreatKfb00f3c
import Derived.Test.YtkaeogldielkfaaGreatKf01485e
import Derived.Test.YtkaeogldielkfaaGreatK943a67d
import Derived.Test.YtkaeogldielkfaaGreatK977fa4e
import Derived.Test.YtkaeogldielkfaaGreatKdfef78d
import Derived.Sort.OwnSorted
import Derived.BigQuiet
import Derived.Deep.AppendLies
import Derived.Test.YtkaeogldielkfaaGreatKa96aaab
import Derived.Test.YtkaeogldielkfaaGreatKa7e3600
import Derived.Test.YtkaeogldielkfaaGreatK7731767
import Derived.Test.YtkaeogldielkfaaGreatK6683a6f
import Derived.Test.YtkaeogldielkfaaGreatK2180bdf
import Derived.Test.YtkaeogldielkfaaGreatKa48e839
set_option linter.unusedVariables false
set_option linter.unusedSimpArgs false
namespace Go.Proofs.YtkaeogldielkfaaGreat.Rc
open Go.RowKit Go.Sort Lb
attribute [local go_sem] bs_size bs_toList bs_append bs_get bs_extract
def cmpI (a b : Int) : Int := if a < b then -1 else if b < a then 1 else 0
set_option maxRecDepth 20000 in
set_option maxHeartbeats 1000000 in
theorem isNaN_any (a : Int) (w : World) : Calls Tryz.prog 88 #[.int .i64 a] w fun e w' => e = .returned (.bool false) ∧ w' = w := by
  go_enter Tryz.func88, Tryz.ntmps88
  go_wp2
  go_ret
  exact ⟨by simp, rfl⟩
set_option maxRecDepth 20000 in
set_option maxHeartbeats 1000000 in
theorem compareInt_any (a b : Int) (w : World) : Calls Tryz.prog 59 #[.int .i64 a, .int .i64 b] w fun e w' => e = .returned (.int .i64 (cmpI a b)) ∧ w' = w := by
  have hna := fun W => isNaN_any a W
  have hnb := fun W => isNaN_any b W
  unfold cmpI
  by_cases h1 : a < b
  · have hd1 : decide (a < b) = true := decide_eq_true h1
    rw [if_pos h1]
    clear h1
    go_enter Tryz.func59, Tryz.ntmps59
    go_wp2_with fail
    refine (hna w).mono ?_
    rintro e w1 ⟨rfl, hw1⟩
    subst hw1
    go_wp2_with fail
    refine (hnb w1).mono ?_
    rintro e w1 ⟨rfl, hw1⟩
    subst hw1
    go_wp2
    go_ret
    exact ⟨rfl, rfl⟩
  · have hd1 : decide (a < b) = false := decide_eq_false h1
    rw [if_neg h1]
    by_cases h2 : b < a
    · have hd2 : decide (b < a) = true := decide_eq_true h2
      rw [if_pos h2]
      clear h1 h2
      go_enter Tryz.func59, Tryz.ntmps59
      go_wp2_with fail
      refine (hna w).mono ?_
      rintro e w1 ⟨rfl, hw1⟩
      subst hw1
      go_wp2_with fail
      refine (hnb w1).mono ?_
      rintro e w1 ⟨rfl, hw1⟩
      subst hw1
      go_wp2
      go_ret
      exact ⟨rfl, rfl⟩
    · have hd2 : decide (b < a) = false := decide_eq_false h2
      rw [if_neg h2]
      clear h1 h2
      go_enter Tryz.func59, Tryz.ntmps59
      go_wp2_with fail
      refine (hna w).mono ?_
      rintro e w1 ⟨rfl, hw1⟩
      subst hw1
      go_wp2_with fail
      refine (hnb w1).mono ?_
      rintro e w1 ⟨rfl, hw1⟩
      subst hw1
      go_wp2
      go_ret
      exact ⟨rfl, rfl⟩
instance : Inhabited KS := ⟨⟨(((0, []), 0, false), .slice none 0 0), none, 0, 0, rfl⟩⟩
def encK (x : KS) : List Value := [.int .i64 x.1.1.1.1, x.1.2, .int .i64 x.1.1.2.1, .bool x.1.1.2.2]
def cfK (x y : KS) : Int := cmpI x.1.1.1.1 y.1.1.1.1
theorem ltK (x y : KS) : ltOf cfK x y = decide (x.1.1.1.1 < y.1.1.1.1) := by
  unfold ltOf cfK cmpI
  by_cases h : x.1.1.1.1 < y.1.1.1.1
  · simp [h]
  · by_cases h2 : y.1.1.1.1 < x.1.1.1.1
    · simp [h, h2]
    · simp [h, h2]
theorem swoK : SWO (ltOf cfK) where
  irrefl x := by rw [ltK]; simp
  trans x y z h1 h2 := by rw [ltK, decide_eq_true_eq] at *; omega
  ntrans x y z h1 h2 := by rw [ltK, decide_eq_false_iff_not] at *; omega
theorem flat_kep (l : List KS) : (flatK encK 4 l.toArray).toList = kepC (kvs l) := by
  apply List.ext_getElem?
  intro t
  by_cases ht : t < l.length * 4
  · have h1 := get_flatK encK 4 l.toArray t (by simpa using ht)
    have hs : t < (flatK encK 4 l.toArray).size := by rw [size_flatK]; simpa using ht
    rw [getElem!_pos _ t hs] at h1
    rw [Array.getElem?_toList, Array.getElem?_eq_getElem hs, h1]
    have hi : t / 4 < l.length := by omega
    have hg : l.toArray[t / 4]! = l[t / 4] := by rw [getElem!_pos _ _ (by simpa using hi)]; simp
    rw [hg]
    obtain ⟨a0, a1, a2, a3⟩ := kepC_at (kvs l) (t / 4) (by rw [kvs_length]; exact hi)
    have hk : (kvs l)[t / 4]'(by rw [kvs_length]; exact hi) = l[t / 4].1 := by simp [kvs]
    rw [hk] at a0 a1 a2 a3
    have hm : t % 4 = 0 ∨ t % 4 = 1 ∨ t % 4 = 2 ∨ t % 4 = 3 := by omega
    rcases hm with hm | hm | hm | hm
    · rw [hm]
      rw [show t / 4 * 4 = t by omega] at a0
      rw [a0]; rfl
    · rw [hm]
      rw [show t / 4 * 4 + 1 = t by omega] at a1
      rw [a1]; rfl
    · rw [hm]
      rw [show t / 4 * 4 + 2 = t by omega] at a2
      rw [a2]; rfl
    · rw [hm]
      rw [show t / 4 * 4 + 3 = t by omega] at a3
      rw [a3]; rfl
  · rw [List.getElem?_eq_none (by rw [Array.length_toList, size_flatK]; simp; omega), List.getElem?_eq_none (by rw [kepC_length, kvs_length]; omega)]
theorem holdsKs {w : World} {g : Nat} {cur : Array Value} {e : TypeId} {l : List KS} (hb : w.heap[g]? = some (.cells cur e (0, 0))) (ht : cur.toList.take (l.length * 4) = kepC (kvs l)) : HoldsK encK 4 w g 0 l.toArray := by
  intro j hj
  rw [size_flatK] at hj
  have hj' : j < l.length * 4 := by simpa using hj
  have hs : j < (flatK encK 4 l.toArray).size := by rw [size_flatK]; exact hj
  refine ⟨?_, by simp [World.frozen?, hb]⟩
  have h1 : (cur.toList.take (l.length * 4))[j]? = (flatK encK 4 l.toArray).toList[j]? := by rw [ht, flat_kep]
  rw [List.getElem?_take_of_lt hj', Array.getElem?_toList, Array.getElem?_toList, Array.getElem?_eq_getElem hs] at h1
  rw [getElem!_pos _ j hs]
  simp only [World.cell?, hb, Nat.zero_add]
  simp only [Option.isSome_none, Bool.false_eq_true, if_false]
  exact h1
theorem heap_sortedKs {w : World} {g n : Nat} {os : Array Obj} {cur : Array Value} {e : TypeId} {fr : Nat × Nat} (d : Array KS) (hb : w.heap[g]? = some (.cells cur e fr)) :
    (sortWorldK encK 4 w g 0 n d os).heap[g]? = some (.cells (putCells id 0 (flatK encK 4 d) cur) e fr) := by
  have hg : g < w.heap.size := (Array.getElem?_eq_some_iff.1 hb).1
  unfold sortWorldK putRowK
  rw [heap_grow_old _ _ (by simpa using hg)]
  simp [putRow, mapBlock, Sort.ahead, Array.getElem?_modify, hb, onCells]
theorem grownBy_sortedKs {w : World} {g n : Nat} {os : Array Obj} (d : Array KS) : w.grownBy (sortWorldK encK 4 w g 0 n d os) (some g) := by
  unfold sortWorldK putRowK
  refine ⟨rfl, rfl, rfl, by simp, fun k hk hne => ?_⟩
  rw [heap_grow_old _ _ (by simpa using hk)]
  have : g ≠ k := fun e => hne (by rw [e])
  simp [putRow, mapBlock, Sort.ahead, Array.getElem?_modify, this]
set_option maxRecDepth 20000 in
set_option maxHeartbeats 1000000 in
theorem known1_any (x y : KS) (W : World) : Calls Tryz.prog 58 #[.agg (encK x).toArray, .agg (encK y).toArray] W fun e w' => e = .returned (.int .i64 (cfK x y)) ∧ ∃ q os', w' = grow (W.drewN q) os' := by
  obtain ⟨⟨⟨⟨a, la⟩, ta, ha⟩, va⟩, ao, an, ac, hva⟩ := x
  obtain ⟨⟨⟨⟨b, lb⟩, tb, hb⟩, vb⟩, bo, bn, bc, hvb⟩ := y
  simp only at hva hvb
  subst hva hvb
  have hcon := fun W' => compareInt_any a b W'
  unfold cfK encK
  simp only
  generalize cmpI a b = r at hcon ⊢
  go_enter Tryz.func58, Tryz.ntmps58
  go_wp2_with (go_at_call 59; refine (hcon _).mono ?_; rintro e w' ⟨rfl, rfl⟩)
  go_ret
  exact ⟨rfl, 0, _, by rw [alloc_eq_grow, alloc_eq_grow, grow_grow]; rfl⟩
set_option maxRecDepth 20000 in
set_option maxHeartbeats 1000000 in
/-- slices.SortFunc over a row that the call owns. -/
theorem sortKs_any (w : World) (base : Nat) (v : Value) (ls : List KS) (h : w.ownsRow base 96 4 v ls.length (kepC (kvs ls))) (hl : ls.length ≤ 2000) :
    Calls Tryz.prog 86 #[v, .func (.func 58) #[] #[]] w fun e w' => e = .returned (.tuple #[]) ∧ ∃ d : List KS, w'.ownsRow base 96 4 v d.length (kepC (kvs d)) ∧ d.Perm ls ∧ d.Pairwise (fun p q => p.1.1.1.1 ≤ q.1.1.1.1) ∧ w.grownBy w' v.ownBlock := by
  rcases id h.2 with ⟨rfl, h0⟩ | ⟨g, cap, cur, rfl, h1, h2, h3, h4, h5, h6⟩
  · have : ls = [] := List.eq_nil_of_length_eq_zero h0
    subst this
    refine (AnyF.slices_SortFunc_none Tryz.sortK none 0 _ w).mono ?_
    rintro e w' ⟨rfl, rfl⟩
    exact ⟨rfl, [], h, List.Perm.refl _, List.Pairwise.nil, ⟨rfl, rfl, rfl, Nat.le_refl _, fun _ _ _ => rfl⟩⟩
  · have eg : ∀ args w, (callFunc 58 args).run Tryz.prog w = .ok (.enter 58 args) w := enters_of Tryz.func58 (by kernel_rfl) rfl
    have hsz : ls.toArray.size = ls.length := by simp
    have hcon := AnyQ.slices_SortFunc Tryz.sortK 4 Tryz.isAgg96 Tryz.sizeOf96 encK (fun _ => rfl) (fun x v hv => by
      obtain ⟨xk, ao, xn, cp, hxe⟩ := x
      simp [encK, hxe] at hv
      rcases hv with rfl | rfl | rfl | rfl <;> rfl) cfK swoK 58 #[] g 0 cap ls.toArray w eg (fun m os dk hs x y => known1_any x y _) (holdsKs h2 h6) (lt_of_block h2) (by rw [hsz]; omega)
    rw [hsz] at hcon
    refine Calls.mono hcon ?_
    rintro e w' ⟨rfl, d', n, os, hp, hs, rfl⟩
    rw [← hsz] at hp hs
    have hdl : d'.toList.length = ls.length := by have := hp.1; simpa using this
    have hpm : d'.toList.Perm ls := by
      obtain ⟨hs1, _, hp1⟩ := hp
      rw [Array.extract_eq_self_of_le (by omega), Array.extract_eq_self_of_le (by omega)] at hp1
      exact hp1
    refine ⟨rfl, d'.toList, ?_, hpm, ?_, grownBy_sortedKs _⟩
    · have hf : (flatK encK 4 d').size = ls.length * 4 := by rw [size_flatK, ← hdl]; simp
      refine ⟨by rw [kepC_length, kvs_length], .inr ⟨g, cap, _, by rw [hdl], h1, heap_sortedKs _ h2, by omega, h4, by simp [putCells, h5], ?_⟩⟩
      have ht := take_putL cur (flatK encK 4 d') (by rw [hf]; omega)
      rw [hf] at ht
      have hft := flat_kep d'.toList
      simp only [Array.toArray_toList] at hft
      rw [hdl, ht, hft]
    · rw [List.pairwise_iff_getElem]
      intro i j hi hj hij
      have hi' : i < d'.size := by simpa using hi
      have hj' : j < d'.size := by simpa using hj
      have e1 := hs i j (by omega) hij (by omega)
      rw [ltK, getElem!_pos _ i hi', getElem!_pos _ j hj', decide_eq_false_iff_not] at e1
      simp only [Array.getElem_toList]
      omega
set_option maxRecDepth 20000 in
set_option maxHeartbeats 1000000 in
theorem values_any (w : World) (a : Option Addr) (len cap : Nat) :
    Calls Tryz.prog 57 #[.slice a len cap] w fun e w' => e = .returned (.func (.func 87) #[] #[.pointer (some ⟨w.heap.size, 0, none⟩)]) ∧ w' = w.alloc (.cells #[.slice a len cap] 86) := by
  have hmf : ∀ (fn : Fn) (first cap : Array Value) (w : World), (Instr.makeFunc fn first cap).run Tryz.prog w = .ok (.func fn first cap) w := fun _ _ _ _ => rfl
  go_enter Tryz.func57, Tryz.ntmps57
  go_wp2
  go_ret
  exact ⟨rfl, rfl⟩
set_option maxRecDepth 20000 in
set_option maxHeartbeats 1000000 in
theorem collect_any (w : World) (Bs : Nat) (sv : Value) (zs : List KS) (hreach : zs.length ≤ 2000) (hBs : Bs < w.heap.size) (hc : w.cell? ⟨Bs, 0, none⟩ = some sv) (hI : holdsS w.heap.size w sv zs) :
    Calls Tryz.prog 85 #[.func (.func 87) #[] #[.pointer (some ⟨Bs, 0, none⟩)]] w fun e W' => ∃ v, e = .returned v ∧ W'.ownsRow w.heap.size 96 4 v zs.length (kepC (kvs zs)) ∧ Grow w W' := by
  have HA := hide (callsIn_wide.1 (appendSeq_in Fence.wide 5 trivial trivial rfl (by omega) Bs sv zs hreach w hBs hc hI))
  clear hc hI
  go_enter Tryz.func85, Tryz.ntmps85
  go_wp2_with fail
  refine HA.out.mono ?_
  rintro e W' ⟨v, rfl, hr, hb⟩
  obtain ⟨ao, cp, rfl⟩ := own_shape hr
  have HR := hide hr
  have HB := hide hb
  clear hr hb HA
  go_wp2
  go_ret
  exact ⟨_, rfl, HR.out, HB.out⟩
set_option maxRecDepth 20000 in
set_option maxHeartbeats 1000000 in
theorem sortedFunc_any (w : World) (Bs : Nat) (sv : Value) (zs : List KS) (hreach : zs.length ≤ 2000) (hBs : Bs < w.heap.size) (hc : w.cell? ⟨Bs, 0, none⟩ = some sv) (hI : holdsS w.heap.size w sv zs) :
    Calls Tryz.prog 56 #[.func (.func 87) #[] #[.pointer (some ⟨Bs, 0, none⟩)], .func (.func 58) #[] #[]] w fun e W' => ∃ (v : Value) (d : List KS), e = .returned v ∧ W'.ownsRow w.heap.size 96 4 v d.length (kepC (kvs d)) ∧ d.Perm zs ∧ d.Pairwise (fun p q => p.1.1.1.1 ≤ q.1.1.1.1) ∧ Grow w W' := by
  have HA := hide (collect_any w Bs sv zs hreach hBs hc hI)
  clear hc hI
  go_enter Tryz.func56, Tryz.ntmps56
  go_wp2_with fail
  refine HA.out.mono ?_
  rintro e W1 ⟨v, rfl, hr, hb⟩
  have HS := hide (sortKs_any W1 w.heap.size v zs hr hreach)
  have hlt := fun g hg => (hr.lt g hg).1
  obtain ⟨ao, cp, rfl⟩ := own_shape hr
  have HB := hide hb
  have HLT := hide hlt
  clear hr hb HA hlt
  go_wp2_with fail
  refine HS.out.mono ?_
  rintro e W2 ⟨rfl, d, hr2, hp, hpw, hg⟩
  have hgB : Grow w W2 := HB.out.grown hg HB.out.size (fun j hj => HLT.out j hj)
  have HR2 := hide hr2
  have HP := hide hp
  have HPW := hide hpw
  have HG := hide hgB
  clear hr2 hp hpw hg hgB HS
  go_wp2
  go_ret
  exact ⟨_, d, rfl, HR2.out, HP.out, HPW.out, HG.out⟩
end Go.Proofs.YtkaeogldielkfaaGreat.Rc
namespace Go.Proofs.YtkaeogldielkfaaGreat.Rc
open Go.RowKit Lb
attribute [local go_sem] bs_size bs_toList bs_append bs_get bs_extract
theorem make_rightK {ls : List Lab} (h : checkB ls = 0) : makeErr ls = 0 ∧ makeAns ls = ls := by
  obtain ⟨h1, h2, h3⟩ : eachErr 1 ls = 0 ∧ twiceB ls = false ∧ riseB ls = true := by
    unfold checkB at h
    split at h
    · rename_i h1
      split at h
      · rename_i h2
        split at h
        · rename_i h3
          exact ⟨h1, h2, h3⟩
        · cases h
      · cases h
    · rename_i h1; exact absurd h h1
  obtain ⟨hl, hx⟩ := eachErr_zero.1 h1
  have h0 : makeErr ls = 0 := by
    unfold makeErr
    rw [if_pos (eachErr_zero.2 ⟨hl, fun x hm => by have := hx x hm; exact ⟨this.1, by omega, this.2.2⟩⟩), if_pos h2]
  refine ⟨h0, ?_⟩
  rw [makeAns_ok h0]
  refine (makeL_uniq h2 (rise_iff.2 h3) fun y => ⟨fun hy => ⟨hy, fun e => ?_⟩, fun hy => hy.1⟩).symm
  have := (hx y hy).2.1
  rw [e] at this
  simp at this
theorem infoRefK : (Tryz.prog.info? 59).map (fun i => (i.zero, i.size, i.bytes)) = some (some (.agg #[.int .i64 0, .slice none 0 0]), 2, 32) := by kernel_rfl
theorem infoIntK : (Tryz.prog.info? 3).map (fun i => (i.zero, i.size, i.bytes)) = some (some (.int .i64 0), 1, 8) := by kernel_rfl
theorem infoBoolK : (Tryz.prog.info? 4).map (fun i => (i.zero, i.size, i.bytes)) = some (some (.bool false), 1, 1) := by kernel_rfl
def knwOf (D : List Kp) : Knw := ⟨D.map (·.1), D.map (·.2.1), D.map (·.2.2)⟩
def intsV (l : List Int) : List Value := l.map fun x => .int .i64 x
def boolsV (l : List Bool) : List Value := l.map fun x => .bool x
/-- What is known, in rows of the call's own. -/
structure ownKnw (w : World) (Z : Nat) (vr vl vh : Value) (k : Knw) : Prop where
  r : ownRefs w Z vr k.refs
  l : w.ownsRow Z 3 1 vl k.lasts.length (intsV k.lasts)
  h : w.ownsRow Z 4 1 vh k.has.length (boolsV k.has)
/-- An append to a row, and the cell that names it. -/
theorem app_step {X w6 : World} {kb o base e size n m : Nat} {c : Array Value} {v v' : Value} {xs ys : List Value} (hk : X.heap[kb]? = some (.cells c 26 (0, 0))) (hrow : X.ownsRow base e size v n xs) (hne : e ≠ 26) (hg : X.grownBy w6 v.ownBlock) (hown : w6.ownsRow base e size v' m ys) :
    w6.heap[kb]? = some (.cells c 26 (0, 0)) ∧ (w6.setCell ⟨kb, o, none⟩ v').heap[kb]? = some (.cells (c.setIfInBounds o v') 26 (0, 0)) ∧ (w6.setCell ⟨kb, o, none⟩ v').ownsRow base e size v' m ys ∧
      (∀ (k : Nat) (c : Array Value) (t : TypeId) (fr : Nat × Nat), X.heap[k]? = some (.cells c t fr) → t ≠ e → k ≠ kb → (w6.setCell ⟨kb, o, none⟩ v').heap[k]? = some (.cells c t fr)) ∧
      (∀ B, B ≤ kb → B ≤ base → B ≤ X.heap.size → Below B X (w6.setCell ⟨kb, o, none⟩ v')) := by
  have h6 := grown_block hg hk (own_apart hrow hk hne)
  refine ⟨h6, setAt h6 _, ownsRow_setCell_other hown (own_apart hown h6 hne) _, fun k c t fr hx ht hkb => ?_, fun B h1 h2 h3 => ?_⟩
  · exact (Below.heap_setCell _ _ _ _ hkb).trans (grown_block hg hx (own_apart hrow hx (Ne.symm ht)))
  · exact ((Below.refl _ _).grown hg h3 (fun g hgv => Nat.le_trans h2 (hrow.lt g hgv).1)).setCell (p := ⟨kb, o, none⟩) h1 _
theorem own_typed {X w7 : World} {kb base f size n e : Nat} {c : Array Value} {v : Value} {xs : List Value} (h : ∀ (k : Nat) (c : Array Value) (t : TypeId) (fr : Nat × Nat), X.heap[k]? = some (.cells c t fr) → t ≠ e → k ≠ kb → w7.heap[k]? = some (.cells c t fr)) (hk : X.heap[kb]? = some (.cells c 26 (0, 0))) (ho : X.ownsRow base f size v n xs) (hf : f ≠ e) (hfk : f ≠ 26) : w7.ownsRow base f size v n xs := by
  have hap := own_apart ho hk hfk
  refine own_keep ho fun g hg => ?_
  rcases id ho.2 with ⟨hv, _⟩ | ⟨g', cap, cur, r1, r2, r3, _⟩
  · rw [hv] at hg; cases hg
  · rw [r1] at hg
    cases hg
    rw [r3]
    exact h _ _ _ _ r3 hf (fun e => hap (by rw [r1]; exact congrArg some e))
/-- While it is put together. -/
structure KJ (w : World) (kb rb : Nat) (v : Value) (d : List KS) (vr vl vh : Value) (ps : List (Int × Value)) (i : Nat) (wr : World) : Prop where
  gr : Grow w wr
  at' : wr.heap[kb]? = some (.cells #[vr, vl, vh] 26 (0, 0))
  res : wr.heap[rb]? = some (.cells #[.slice none 0 0, .slice none 0 0, .slice none 0 0] 26 (0, 0))
  ne : rb ≠ kb
  kb : w.heap.size ≤ kb
  row : wr.ownsRow w.heap.size 96 4 v d.length (kepC (kvs d))
  r : wr.ownsRow w.heap.size 59 2 vr i (refCells ps)
  l : wr.ownsRow w.heap.size 3 1 vl i (intsV ((d.take i).map (·.1.1.2.1)))
  h : wr.ownsRow w.heap.size 4 1 vh i (boolsV ((d.take i).map (·.1.1.2.2)))
  len : ps.length = i
  labs : ∀ (j : Nat) (p : Int × Value) (x : KS), ps[j]? = some p → d[j]? = some x → p.1 = x.1.1.1.1 ∧ ownLabels wr w.heap.size p.2 x.1.1.1.2
theorem KJ.grow {w w1 w2 : World} {kb rb : Nat} {v : Value} {d : List KS} {vr vl vh : Value} {ps : List (Int × Value)} {i : Nat} (h : KJ w kb rb v d vr vl vh ps i w1) (g : Grow w1 w2) : KJ w kb rb v d vr vl vh ps i w2 :=
  ⟨h.gr.trans g, g.get h.at', g.get h.res, h.ne, h.kb, own_grow h.row g, own_grow h.r g, own_grow h.l g, own_grow h.h g, h.len, fun j p x hp hx => ⟨(h.labs j p x hp hx).1, own_grow (h.labs j p x hp hx).2 g⟩⟩
theorem kvs_of (ps : List KV) (h : ∀ p ∈ ps, ∃ ao n cp, p.2 = .slice ao n cp) : ∃ zs : List KS, kvs zs = ps := by
  induction ps with
  | nil => exact ⟨[], rfl⟩
  | cons p ps ih =>
    obtain ⟨zs, hz⟩ := ih fun q hq => h q (List.mem_cons_of_mem _ hq)
    exact ⟨⟨p, h p (by simp)⟩ :: zs, by unfold kvs at hz ⊢; rw [List.map_cons, hz]⟩
theorem row_cellsK {w : World} {B : Nat} {v : Value} {d : List KS} (h : w.ownsRow B 96 4 v d.length (kepC (kvs d))) {i : Nat} (hi : i < d.length) :
    ∃ g cap, v = .slice (some ⟨g, 0, none⟩) d.length cap ∧ B ≤ g ∧ g < w.heap.size ∧ w.cell? ⟨g, i * 4, none⟩ = some (.int .i64 d[i].1.1.1.1) ∧ w.cell? ⟨g, i * 4 + 1, none⟩ = some d[i].1.2 ∧ w.cell? ⟨g, i * 4 + 2, none⟩ = some (.int .i64 d[i].1.1.2.1) ∧ w.cell? ⟨g, i * 4 + 3, none⟩ = some (.bool d[i].1.1.2.2) := by
  rcases id h.2 with ⟨_, h0⟩ | ⟨g, cap, cur, r1, r2, r3, r4, r5, r6, r7⟩
  · omega
  · have hc := World.ownsRow.cells h (g := g) (by rw [r1]; rfl)
    obtain ⟨k0, k1, k2, k3⟩ := kepC_at (kvs d) i (by rw [kvs_length]; exact hi)
    have hk : (kvs d)[i]'(by rw [kvs_length]; exact hi) = d[i].1 := by simp [kvs]
    rw [hk] at k0 k1 k2 k3
    have c0 := hc _ _ k0
    have c1 := hc _ _ k1
    have c2 := hc _ _ k2
    have c3 := hc _ _ k3
    rw [Addr.add_lit] at c0 c1 c2 c3
    exact ⟨g, cap, r1, r2, lt_of_block r3, by simpa using c0, by simpa using c1, by simpa using c2, by simpa using c3⟩
set_option maxRecDepth 20000 in
set_option maxHeartbeats 4000000 in
theorem known_any (w : World) (B : Nat) (F : Nat → Prop) (b : Nat) (K : List Kp) (hm : memJ w B F b K) (hr : rightM K) (hl : K.length ≤ 1000) :
    Calls Tryz.prog 27 #[.pointer (some ⟨b, 0, none⟩)] w fun e w' => ∃ (vr vl vh : Value) (D : List Kp), e = .returned (.agg #[vr, vl, vh]) ∧ D.Perm K ∧ D.Pairwise (fun p q => p.1.1 ≤ q.1.1) ∧ ownKnw w' w.heap.size vr vl vh (knwOf D) ∧ Grow w w' := by
  obtain ⟨v, mb, tb, ps, D1, D2, hP⟩ := hm
  obtain ⟨zs, hzs⟩ := kvs_of ps fun p hp => by
    obtain ⟨ao, cp, e⟩ := readsLabels_len (hP.labs p hp).reads
    exact ⟨_, _, _, e⟩
  have hzl : zs.length = K.length := by rw [← hP.kept, ← hzs, List.length_map, kvs_length]
  have hzK : zs.map (·.1.1) = K := by rw [← hP.kept, ← hzs]; unfold kvs; rw [List.map_map]; rfl
  have hlab : ∀ z ∈ zs, readsLabels w w.heap.size z.1.2 z.1.1.1.2 ∧ checkB z.1.1.1.2 = 0 := fun z hz => by
    have h1 : z.1 ∈ ps := by rw [← hzs]; exact List.mem_map.2 ⟨z, hz, rfl⟩
    refine ⟨(hP.labs _ h1).reads, (refErr_zero (hr z.1.1 ?_)).2.2⟩
    rw [← hzK]; exact List.mem_map.2 ⟨z, hz, rfl⟩
  have hrow := hP.row
  rw [← hzs] at hrow
  have hhold : ∀ W, Grow w W → holdsS W.heap.size W v zs := fun W hW => by
    have hro := own_grow hrow hW
    rcases id hro.2 with ⟨hv, h0⟩ | ⟨g, cap, cur, r1, r2, r3, r4⟩
    · exact .inl ⟨hv, List.eq_nil_of_length_eq_zero (by rw [hzl]; exact h0)⟩
    · rw [← hzl] at r1 hro
      refine .inr ⟨g, cap, r1, lt_of_block r3, fun j hj => ?_⟩
      obtain ⟨g', cap', e, _, _, c0, c1, c2, c3⟩ := row_cellsK hro hj
      rw [r1] at e
      obtain ⟨rfl, rfl⟩ : g = g' ∧ cap = cap' := by simpa using e
      exact ⟨c0, c1, c2, c3⟩
  obtain ⟨vo, vc, hvv⟩ := own_shape hP.row
  subst hvv
  obtain ⟨V1, e1, g1, b1⟩ := laid_at w #[.slice none 0 0, .slice none 0 0, .slice none 0 0] 26
  obtain ⟨V2, e2, g2, b2⟩ := laid_at V1 #[.slice vo K.length vc] 86
  have s1 : V1.heap.size = w.heap.size + 1 := by rw [← e1]; simp
  have s2 : V2.heap.size = V1.heap.size + 1 := by rw [← e2]; simp
  have HSF := hide (sortedFunc_any V2 V1.heap.size (.slice vo K.length vc) zs (by omega) (by omega) (cell_of_one b2) (hhold V2 (g1.trans g2)))
  obtain ⟨c0, c1, c2⟩ := three_of (g1.get hP.at')
  have HB1 := hide (g2.get b1)
  have HG2 := hide (g1.trans g2)
  have HVA := hide (values_any V1 vo K.length vc)
  rw [e2, s1] at HVA
  rw [s1] at HSF s2
  have HSZ2 : Hid (w.heap.size ≤ V2.heap.size) := hide (by omega)
  have HLAB := hide hlab
  have HZK := hide hzK
  obtain ⟨i1, hi1, hx0, hx1, hx2⟩ := info_parts infoRefK
  obtain ⟨i2, hi2, hy0, hy1, hy2⟩ := info_parts infoIntK
  obtain ⟨i3, hi3, hz0, hz1, hz2⟩ := info_parts infoBoolK
  clear hP hr hzs hlab hrow hhold b1 b2 g1 g2 hzK e2 s1 s2
  go_enter Tryz.func27, Tryz.ntmps27
  go_wp2_with fail
  refine HVA.out.mono ?_
  rintro e W ⟨rfl, hw⟩
  subst hw
  clear c0 c1 c2
  go_wp2_with fail
  refine HSF.out.mono ?_
  rintro e W3 ⟨v3, d, rfl, hrow3, hperm, hpw, hg3⟩
  have hdl : d.length ≤ 1000 := by rw [hperm.length_eq]; omega
  have hB3 := HB1.out
  have hG3 := HG2.out.trans hg3
  have hlabd : ∀ z ∈ d, readsLabels w w.heap.size z.1.2 z.1.1.1.2 ∧ checkB z.1.1.1.2 = 0 := fun z hz => HLAB.out z (hperm.mem_iff.1 hz)
  have hrow4 := own_le hrow3 HSZ2.out
  obtain ⟨V4, e4, g4, b4⟩ := laid_at W3 #[.slice none 0 0, .slice none 0 0, .slice none 0 0] 26
  have hKJ : KJ w W3.heap.size w.heap.size v3 d (.slice none 0 0) (.slice none 0 0) (.slice none 0 0) [] 0 V4 :=
    ⟨hG3.trans g4, b4, g4.get (hg3.get HB1.out), by have := HSZ2.out; have := hg3.size; have := lt_of_block HB1.out; omega, hG3.size, own_grow hrow4 g4, World.ownsRow_nil _ _ _ _, World.ownsRow_nil _ _ _ _, World.ownsRow_nil _ _ _ _, rfl, fun j p x hp => by simp at hp⟩
  obtain ⟨vo3, vc3, hv3⟩ := own_shape hrow3
  subst hv3
  have HKJ := hide hKJ
  have HLD := hide hlabd
  have HPE := hide hperm
  have HPW := hide hpw
  clear hKJ hlabd hperm hpw hrow3 hrow4 hB3 hG3 hg3 g4 b4 HSF HVA HB1 HG2 HLAB hzl e1 hl
  go_wp2
  go_loopw [17] (fun iv wr => ∃ (i : Nat) (vr vl vh : Value) (ps : List (Int × Value)), i ≤ d.length ∧ iv = .int .i64 i ∧ Hid (KJ w W3.heap.size w.heap.size (.slice vo3 d.length vc3) d vr vl vh ps i wr)) (fun iv _ => d.length - (intOf iv).toNat)
  case atStart => exact ⟨0, _, _, _, [], by omega, rfl, HKJ⟩
  case round =>
    obtain ⟨i, vr, vl, vh, ps, hi, rfl, HJ⟩ := hrel
    rename World => wr
    obtain ⟨ro, rc, hvr⟩ := own_shape HJ.out.r
    obtain ⟨lo, lc, hvl⟩ := own_shape HJ.out.l
    obtain ⟨ho, hc, hvh⟩ := own_shape HJ.out.h
    subst hvr hvl hvh
    by_cases hlt : i < d.length
    · have hlti : (i : Int) < (d.length : Int) := by omega
      obtain ⟨g, cap, hge, hgB, hgs, q0, q1, q2, q3⟩ := row_cellsK HJ.out.row hlt
      obtain ⟨hls, hck⟩ := HLD.out _ (List.getElem_mem hlt)
      have htk1 : (d.take (i + 1)).map (·.1.1.2.1) = (d.take i).map (·.1.1.2.1) ++ [d[i].1.1.2.1] := by rw [List.take_succ_eq_append_getElem hlt, List.map_append]; rfl
      have htk2 : (d.take (i + 1)).map (·.1.1.2.2) = (d.take i).map (·.1.1.2.2) ++ [d[i].1.1.2.2] := by rw [List.take_succ_eq_append_getElem hlt, List.map_append]; rfl
      obtain ⟨nn, ls, tt, ss, ao, xn, cp, HX⟩ : ∃ (nn : Int) (ls : List Lab) (tt : Int) (ss : Bool) (ao : Option Addr) (xn cp : Nat), Hid (d[i].1 = (((nn, ls), tt, ss), .slice ao xn cp)) := by
        obtain ⟨⟨⟨⟨nn, ls⟩, tt, ss⟩, vv⟩, ao, xn, cp, hxe⟩ := d[i]
        simp only at hxe
        subst hxe
        exact ⟨nn, ls, tt, ss, ao, xn, cp, hide rfl⟩
      rw [HX.out] at q0 q1 q2 q3 hls hck htk1 htk2
      simp only at q0 q1 q2 q3 hls hck htk1 htk2
      obtain ⟨rfl, rfl⟩ : vo3 = some ⟨g, 0, none⟩ ∧ vc3 = cap := by simpa using hge
      obtain ⟨V, eV, gV, hV⟩ := laid_at wr #[.int .i64 nn, .slice ao xn cp, .int .i64 tt, .bool ss] 96
      obtain ⟨d0, d1, d2, d3⟩ := four_of hV
      obtain ⟨hme, hma⟩ := make_rightK hck
      obtain ⟨hsl1, hsl2⟩ := check_small hck
      have hgw := HJ.out.gr.trans gV
      have HMK := hide (make_any V (.slice ao xn cp) ls (readsLabels_mono (readsLabels_below hls hgw) hgw.size) (by omega) (fun y hy => by have := hsl2 y hy; omega))
      rw [hme, hma] at HMK
      have HJV := hide (HJ.out.grow gV)
      have HV := hide hV
      have HKN : Hid (W3.heap.size < wr.heap.size) := hide (lt_of_block HJ.out.at')
      have HTK1 := hide htk1
      have HTK2 := hide htk2
      clear hV gV hls hck htk1 htk2 hme hma hsl1 hsl2 hge hgw
      go_wp2_with fail
      refine HMK.out.mono ?_
      rintro e W5 ⟨v5, rfl, hown5, hg5⟩
      have HJ5 := hide (HJV.out.grow hg5)
      have HV5 := hide ((show Grow V W5 from hg5).get HV.out)
      have HL5 := hide (own_le hown5 (Nat.le_trans HJ.out.gr.size (show wr.heap.size ≤ V.heap.size by rw [← eV]; simp)))
      obtain ⟨a5, p5, hv5⟩ := own_shape hown5
      subst hv5
      clear hown5 hg5 HMK eV d0 d1 d2 d3 q0 q1 q2 q3 HJ HJV HV
      obtain ⟨c0, c1, c2⟩ := three_of HJ5.out.at'
      obtain ⟨d0, d1, d2, d3⟩ := four_of HV5.out
      obtain ⟨X, eX, gX, hX⟩ := laid_at W5 #[.int .i64 nn, .slice a5 ls.length p5] 59
      have HJX := hide (HJ5.out.grow gX)
      have HVX := hide (gX.get HV5.out)
      have HLX := hide (own_grow HL5.out gX)
      have hszX : w.heap.size ≤ X.heap.size := HJX.out.gr.size
      go_wp2_with (first
        | (at_builtin; refine wpList_append_own _ rfl _ _ 22 rfl w.heap.size 59 i1 _ 2 32 Tryz.underlying22 hi1 hx0 hx1 hx2 rfl (by omega) (.slice ro i rc) i (refCells ps) rfl HJX.out.r ⟨W5.heap.size, 0, none⟩ 1 1 [.int .i64 nn, .slice a5 ls.length p5] rfl rfl (World.news_of_block hX) (by simp [Value.oneCell']) (by unfold maxLen; omega) (by omega) hszX ?_; intro v6 W6 hown6 hgrow6 _; obtain ⟨h6, h7, ho7, ht7, hb7⟩ := app_step (o := 0) HJX.out.at' HJX.out.r (by decide) hgrow6 hown6; obtain ⟨o6, c6, hv6⟩ := own_shape hown6; subst hv6; have k0 := (three_of h6).1; have z0 : W6.frozen? ⟨W3.heap.size, 0, none⟩ = false := (by simp [World.frozen?, h6]); generalize e7 : W6.setCell ⟨W3.heap.size, 0, none⟩ (.slice o6 (i + 1) c6) = W7 at h7 ho7 ht7 hb7; have h7' : W7.heap[W3.heap.size]? = some (.cells #[.slice o6 (i + 1) c6, .slice lo i lc, .slice ho i hc] 26 (0, 0)) := h7; have hV7 := ht7 _ _ _ _ HVX.out (by decide) (by have := lt_of_block HJ5.out.at'; have := HKN.out; omega); obtain ⟨c70, c71, c72⟩ := three_of h7'; obtain ⟨d70, d71, d72, d73⟩ := four_of hV7; have hs7 : w.heap.size ≤ W7.heap.size := Nat.le_trans hszX (hb7 0 (Nat.zero_le _) (Nat.zero_le _) (Nat.zero_le _)).size; have hl7 := own_typed ht7 HJX.out.at' HJX.out.l (by decide) (by decide); have hh7 := own_typed ht7 HJX.out.at' HJX.out.h (by decide) (by decide))
        | (at_builtin; refine wpList_append_own _ rfl _ _ 23 rfl w.heap.size 3 i2 _ 1 8 Tryz.underlying23 hi2 hy0 hy1 hy2 rfl (by omega) (.slice lo i lc) i (intsV ((d.take i).map (·.1.1.2.1))) rfl (own_grow hl7 ((Grow.refl W7).alloc _)) ⟨W7.heap.size, 0, none⟩ 1 1 [.int .i64 tt] rfl rfl (World.news_of_block (heap_alloc_new _ _)) (by simp [Value.oneCell']) (by unfold maxLen; omega) (by omega) (by simp; omega) ?_; intro v8 W8 hown8 hgrow8 _; obtain ⟨h8, h9, ho9, ht9, hb9⟩ := app_step (o := 1) (((Grow.refl W7).alloc _).get h7') (own_grow hl7 ((Grow.refl W7).alloc _)) (by decide) hgrow8 hown8; obtain ⟨o8, c8, hv8⟩ := own_shape hown8; subst hv8; have k1 := (three_of h8).2.1; have z1 : W8.frozen? ⟨W3.heap.size, 1, none⟩ = false := (by simp [World.frozen?, h8]); generalize e9 : W8.setCell ⟨W3.heap.size, 1, none⟩ (.slice o8 (i + 1) c8) = W9 at h9 ho9 ht9 hb9; have h9' : W9.heap[W3.heap.size]? = some (.cells #[.slice o6 (i + 1) c6, .slice o8 (i + 1) c8, .slice ho i hc] 26 (0, 0)) := h9; have hV9 := ht9 _ _ _ _ (((Grow.refl W7).alloc _).get hV7) (by decide) (by have := HKN.out; omega); obtain ⟨c90, c91, c92⟩ := three_of h9'; obtain ⟨d90, d91, d92, d93⟩ := four_of hV9; have hs9 : w.heap.size ≤ W9.heap.size := Nat.le_trans (by simp; omega) (hb9 0 (Nat.zero_le _) (Nat.zero_le _) (Nat.zero_le _)).size; have hh9 := own_typed ht9 (((Grow.refl W7).alloc _).get h7') (own_grow hh7 ((Grow.refl W7).alloc _)) (by decide) (by decide); have hr9 := own_typed ht9 (((Grow.refl W7).alloc _).get h7') (own_grow ho7 ((Grow.refl W7).alloc _)) (by decide) (by decide))
        | (at_builtin; refine wpList_append_own _ rfl _ _ 24 rfl w.heap.size 4 i3 _ 1 1 Tryz.underlying24 hi3 hz0 hz1 hz2 rfl (by omega) (.slice ho i hc) i (boolsV ((d.take i).map (·.1.1.2.2))) rfl (own_grow hh9 ((Grow.refl W9).alloc _)) ⟨W9.heap.size, 0, none⟩ 1 1 [.bool ss] rfl rfl (World.news_of_block (heap_alloc_new _ _)) (by simp [Value.oneCell']) (by unfold maxLen; omega) (by omega) (by simp; omega) ?_; intro v10 W10 hown10 hgrow10 _; obtain ⟨h10, h11, ho11, ht11, hb11⟩ := app_step (o := 2) (((Grow.refl W9).alloc _).get h9') (own_grow hh9 ((Grow.refl W9).alloc _)) (by decide) hgrow10 hown10; obtain ⟨o10, c10, hv10⟩ := own_shape hown10; subst hv10; have k2 := (three_of h10).2.2; have z2 : W10.frozen? ⟨W3.heap.size, 2, none⟩ = false := (by simp [World.frozen?, h10]); generalize e11 : W10.setCell ⟨W3.heap.size, 2, none⟩ (.slice o10 (i + 1) c10) = W11 at h11 ho11 ht11 hb11; have h11' : W11.heap[W3.heap.size]? = some (.cells #[.slice o6 (i + 1) c6, .slice o8 (i + 1) c8, .slice o10 (i + 1) c10] 26 (0, 0)) := h11; have hr11 := own_typed ht11 (((Grow.refl W9).alloc _).get h9') (own_grow hr9 ((Grow.refl W9).alloc _)) (by decide) (by decide); have hl11 := own_typed ht11 (((Grow.refl W9).alloc _).get h9') (own_grow ho9 ((Grow.refl W9).alloc _)) (by decide) (by decide)))
      have HKB := hide HJ5.out.kb
      have hal7 : Grow W7 (W7.alloc (.cells #[.int .i64 tt] 3)) := (Grow.refl W7).alloc _
      have hal9 : Grow W9 (W9.alloc (.cells #[.bool ss] 4)) := (Grow.refl W9).alloc _
      have hch : ∀ {f size n : Nat} {u : Value} {xs : List Value}, f ≠ 59 → f ≠ 3 → f ≠ 4 → f ≠ 26 → X.ownsRow w.heap.size f size u n xs → W11.ownsRow w.heap.size f size u n xs := fun g1 g2 g3 g4 ho => own_typed ht11 (hal9.get h9') (own_grow (own_typed ht9 (hal7.get h7') (own_grow (own_typed ht7 HJX.out.at' ho g1 g4) hal7) g2 g4) hal9) g3 g4
      have hgr : Grow w W11 := Below.trans (Below.trans (Below.trans (Below.trans (Below.trans HJX.out.gr (hb7 w.heap.size HKB.out (Nat.le_refl _) hszX)) (Below.mono hal7 hs7)) (hb9 w.heap.size HKB.out (Nat.le_refl _) (by simp; omega))) (Below.mono hal9 hs9)) (hb11 w.heap.size HKB.out (Nat.le_refl _) (by simp; omega))
      have hrs := ht11 _ _ _ _ (hal9.get (ht9 _ _ _ _ (hal7.get (ht7 _ _ _ _ HJX.out.res (by decide) HJX.out.ne)) (by decide) HJX.out.ne)) (by decide) HJX.out.ne
      refine ⟨⟨i + 1, .slice o6 (i + 1) c6, .slice o8 (i + 1) c8, .slice o10 (i + 1) c10, ps ++ [(nn, .slice a5 ls.length p5)], by omega, by go_num, hide ⟨hgr, h11', hrs, HJX.out.ne, HKB.out, hch (by decide) (by decide) (by decide) (by decide) HJX.out.row, ?_, ?_, ?_, by rw [List.length_append, HJX.out.len]; rfl, fun j p x hp hx => ?_⟩⟩, by simp [intOf]; omega⟩
      · rw [refCells_snoc]; exact hr11
      · rw [HTK1.out]; unfold intsV at hl11 ⊢; rw [List.map_append]; exact hl11
      · rw [HTK2.out]; unfold boolsV at ho11 ⊢; rw [List.map_append]; exact ho11
      · by_cases hj : j < i
        · rw [List.getElem?_append_left (by rw [HJX.out.len]; exact hj)] at hp
          obtain ⟨h1, h2⟩ := HJX.out.labs j p x hp hx
          exact ⟨h1, hch (by decide) (by decide) (by decide) (by decide) h2⟩
        · rw [List.getElem?_append_right (by rw [HJX.out.len]; omega), HJX.out.len] at hp
          have hji : j = i := by
            have : j - i < 1 := by
              have := List.getElem?_eq_some_iff.1 hp
              obtain ⟨h, _⟩ := this
              simpa using h
            omega
          subst hji
          simp at hp
          subst hp
          have hxd : d[j] = x := by rw [List.getElem?_eq_getElem hlt] at hx; exact Option.some.inj hx
          have hX := HX.out
          rw [hxd] at hX
          refine ⟨by rw [hX], ?_⟩
          have e1 : x.1.1.1.2 = ls := by rw [hX]
          rw [e1]
          exact hch (by decide) (by decide) (by decide) (by decide) HLX.out
    · obtain rfl : i = d.length := by omega
      obtain ⟨ck0, ck1, ck2⟩ := three_of HJ.out.at'
      have HR := hide HJ.out.res
      obtain ⟨cr0, cr1, cr2⟩ := three_of HJ.out.res
      have z0 : wr.frozen? ⟨w.heap.size, 0, none⟩ = false := by simp [World.frozen?, HR.out]
      have z1 : wr.frozen? ⟨w.heap.size, 1, none⟩ = false := by simp [World.frozen?, HR.out]
      have z2 : wr.frozen? ⟨w.heap.size, 2, none⟩ = false := by simp [World.frozen?, HR.out]
      go_wp2
      have hF := set3 (set3 (set3 HR.out 0 (.slice ro d.length rc)) 1 (.slice lo d.length lc)) 2 (.slice ho d.length hc)
      obtain ⟨f0, f1, f2⟩ := three_of hF
      refine bodyPost_ret (v := .agg #[.slice ro d.length rc, .slice lo d.length lc, .slice ho d.length hc]) (by simp [results, Tryz.results27, go_sem, f0, f1, f2]) rfl ?_
      have hset : ∀ {f size n : Nat} {u : Value} {xs : List Value}, f ≠ 26 → wr.ownsRow w.heap.size f size u n xs → (((wr.setCell ⟨w.heap.size, 0, none⟩ (.slice ro d.length rc)).setCell ⟨w.heap.size, 1, none⟩ (.slice lo d.length lc)).setCell ⟨w.heap.size, 2, none⟩ (.slice ho d.length hc)).ownsRow w.heap.size f size u n xs := fun g h0 => by
        have h1 := ownsRow_setCell_other (a := ⟨w.heap.size, 0, none⟩) h0 (own_apart h0 HR.out g) (.slice ro d.length rc)
        have h2 := ownsRow_setCell_other (a := ⟨w.heap.size, 1, none⟩) h1 (own_apart h1 (set3 HR.out 0 _) g) (.slice lo d.length lc)
        exact ownsRow_setCell_other (a := ⟨w.heap.size, 2, none⟩) h2 (own_apart h2 (set3 (set3 HR.out 0 _) 1 _) g) _
      have htk : d.take d.length = d := List.take_of_length_le (Nat.le_refl _)
      refine ⟨_, _, _, d.map (·.1.1), rfl, ?_, ?_, ⟨⟨ps, ?_, ?_, ?_⟩, ?_, ?_⟩, Below.setCell (Below.setCell (Below.setCell HJ.out.gr (Nat.le_refl _) _) (Nat.le_refl _) _) (Nat.le_refl _) _⟩
      · rw [← HZK.out]; exact HPE.out.map _
      · rw [List.pairwise_map]; exact HPW.out
      · simp [knwOf, HJ.out.len]
      · have := hset (by decide) HJ.out.r
        simpa [knwOf] using this
      · intro j p x hp hx
        simp only [knwOf, List.map_map, List.getElem?_map, Option.map_eq_some_iff] at hx
        obtain ⟨z, hz, rfl⟩ := hx
        obtain ⟨h1, h2⟩ := HJ.out.labs j p z hp hz
        exact ⟨h1, hset (by decide) h2⟩
      · have := hset (by decide) HJ.out.l
        rw [htk] at this
        have e : (knwOf (d.map (·.1.1))).lasts = d.map (·.1.1.2.1) := by show (d.map (·.1.1)).map (·.2.1) = _; rw [List.map_map]; rfl
        rw [e, List.length_map]
        exact this
      · have := hset (by decide) HJ.out.h
        rw [htk] at this
        have e : (knwOf (d.map (·.1.1))).has = d.map (·.1.1.2.2) := by show (d.map (·.1.1)).map (·.2.2) = _; rw [List.map_map]; rfl
        rw [e, List.length_map]
        exact this
/-- What is kept, by number. -/
def sortK (K : List Kp) : List Kp := K.mergeSort fun a b => decide (a.1.1 ≤ b.1.1)
theorem sortK_perm (K : List Kp) : (sortK K).Perm K := List.mergeSort_perm _ _
theorem sortK_rise (K : List Kp) : (sortK K).Pairwise fun a b => a.1.1 ≤ b.1.1 := by
  have h := List.pairwise_mergeSort (le := fun a b : Kp => decide (a.1.1 ≤ b.1.1)) (fun a b c h1 h2 => by
    simp only [decide_eq_true_eq] at *; omega) (fun a b => by
    simp only [Bool.or_eq_true, decide_eq_true_eq]; omega) K
  exact h.imp fun h => by simpa using h
theorem Dist.mem_eq {K : List Kp} (hd : Dist K) {a b : Kp} (ha : a ∈ K) (hb : b ∈ K) (h : a.1.1 = b.1.1) : a = b := by
  obtain ⟨i, hi, rfl⟩ := List.getElem_of_mem ha
  obtain ⟨j, hj, rfl⟩ := List.getElem_of_mem hb
  have := hd.numEq hi hj h
  subst this
  rfl
theorem sortK_uniq {K D : List Kp} (hd : Dist K) (hp : D.Perm K) (hr : D.Pairwise fun a b => a.1.1 ≤ b.1.1) : D = sortK K := by
  refine (hp.trans (sortK_perm K).symm).eq_of_pairwise (le := fun a b => a.1.1 ≤ b.1.1) (fun a b ha hb h1 h2 => ?_) hr (sortK_rise K)
  exact hd.mem_eq (hp.mem_iff.1 ha) ((sortK_perm K).mem_iff.1 hb) (by omega)
/-- What Learn answers. -/
def learnE (k : Knw) (r : Rcd) : Nat := if knwErr k ≠ 0 then knwErr k else if recErr r ≠ 0 then recErr r else (learnR (kpsOf k k.refs.length) r).1
def learnK (k : Knw) (r : Rcd) : List Kp := (learnR (kpsOf k k.refs.length) r).2
def noKnw : Knw := ⟨[], [], []⟩
def learnAns (k : Knw) (r : Rcd) : Knw := if learnE k r = 0 then knwOf (sortK (learnK k r)) else noKnw
theorem learnE_zero {k : Knw} {r : Rcd} (h : learnE k r = 0) : knwErr k = 0 ∧ recErr r = 0 ∧ learnR (kpsOf k k.refs.length) r = (0, learnK k r) := by
  unfold learnE at h
  split at h
  · rename_i h1; exact absurd h h1
  · rename_i h1
    split at h
    · rename_i h2; exact absurd h h2
    · rename_i h2
      exact ⟨by omega, by omega, Prod.ext h rfl⟩
theorem learnE_all {k : Knw} {r : Rcd} (h : knwErr k = 0) (h2 : recErr r = 0) : learnE k r = (learnR (kpsOf k k.refs.length) r).1 := by unfold learnE; rw [if_neg (by omega), if_neg (by omega)]
def readsRcd (w : World) (B : Nat) (vr vp : Value) (r : Rcd) : Prop := readsRefs w B vr r.refs ∧ readsPoints w B vp r.points
theorem readsRcd.keep {w w' : World} {B : Nat} {vr vp : Value} {r : Rcd} (h : readsRcd w B vr vp r) (g : Below B w w') : readsRcd w' B vr vp r := ⟨h.1.keep g, h.2.keep g⟩
theorem readsRcd.more {w : World} {B B' : Nat} {vr vp : Value} {r : Rcd} (h : readsRcd w B vr vp r) (hB : B ≤ B') : readsRcd w B' vr vp r := ⟨h.1.more hB, h.2.more hB⟩
theorem learn_dist {k : Knw} {r : Rcd} (h : learnE k r = 0) : Dist (learnK k r) ∧ rightM (learnK k r) ∧ (learnK k r).length ≤ 1000 := by
  obtain ⟨h1, h2, h3⟩ := learnE_zero h
  obtain ⟨h4, h5⟩ := learnR_right h3 (kps_dist h1 (Nat.le_refl _)) (kps_right h1 (Nat.le_refl _)) (recErr_zero h2).2.2.2.1
  exact ⟨h4, h5, learnR_len h3 (by rw [kpsOf_length]; exact (knwErr_zero h1).2.2.1)⟩
/-- Last times that may be. -/
def okT (K : List Kp) : Prop := ∀ y ∈ K, timeErr y.2.1 = 0 ∧ (y.2.2 = false → y.2.1 = 0)
theorem okT_kps {k : Knw} (h : knwErr k = 0) : okT (kpsOf k k.refs.length) := fun y hy => by
  obtain ⟨i, hi, rfl⟩ := kpsOf_mem hy
  have h1 := (knwErr_zero h).2.2.2.1 i hi
  unfold oneErr at h1
  split at h1
  · rename_i h0; exact absurd h1 h0
  · split at h1
    · cases h1
    · rename_i h2
      split at h1
      · cases h1
      · rename_i h3
        refine ⟨by show timeErr (k.lasts.getD i 0) = 0; omega, fun e => ?_⟩
        by_cases hz : k.lasts.getD i 0 = 0
        · exact hz
        · exact absurd ⟨e, hz⟩ h3
theorem okT_upd {K : List Kp} {p : Pnt} (h : okT K) (hp : timeErr p.2.1 = 0) : okT (updP K p) := fun y hy => by
  obtain ⟨z, hz, rfl⟩ := List.mem_map.1 hy
  split
  · exact ⟨hp, fun e => by cases e⟩
  · exact h z hz
theorem okT_all : ∀ {ps : List Pnt} {K : List Kp}, okT K → (∀ p ∈ ps, timeErr p.2.1 = 0) → okT (ps.foldl updP K)
  | [], K, h, _ => h
  | p :: ps, K, h, hp => okT_all (ps := ps) (okT_upd h (hp p (by simp))) fun q hq => hp q (List.mem_cons_of_mem _ hq)
theorem seriesGo_fresh {M : List Kp} : ∀ {l : List RefL} {C C' : List Kp}, seriesGo M C l = some C' → (∀ y ∈ C, y.2 = (0, false)) → (∀ y ∈ C', y.2 = (0, false)) ∧ (∀ x ∈ C.map (·.1), x ∈ C'.map (·.1)) ∧ ∀ x ∈ l, x ∈ M.map (·.1) ∨ x ∈ C'.map (·.1)
  | [], C, C', h, hc => by
    obtain rfl : C = C' := by simpa [seriesGo] using h
    exact ⟨hc, fun x hx => hx, fun x hx => by simp at hx⟩
  | x :: l, C, C', h, hc => by
    unfold seriesGo at h
    split at h
    · cases h
    · split at h
      · rename_i h1
        obtain ⟨a, b, c⟩ := seriesGo_fresh h hc
        refine ⟨a, b, fun y hy => ?_⟩
        rcases List.mem_cons.1 hy with rfl | hy
        · exact .inl (knowsR_mem.1 h1)
        · exact c y hy
      · split at h
        · cases h
        · split at h
          · rename_i h1
            obtain ⟨a, b, c⟩ := seriesGo_fresh h hc
            refine ⟨a, b, fun y hy => ?_⟩
            rcases List.mem_cons.1 hy with rfl | hy
            · exact .inr (b _ (knowsR_mem.1 h1))
            · exact c y hy
          · obtain ⟨a, b, c⟩ := seriesGo_fresh h (fun y hy => by
              rcases List.mem_append.1 hy with hy | hy
              · exact hc y hy
              · simp at hy; subst hy; rfl)
            refine ⟨a, fun y hy => b y (by rw [List.map_append]; exact List.mem_append_left _ hy), fun y hy => ?_⟩
            rcases List.mem_cons.1 hy with rfl | hy
            · exact .inr (b _ (by rw [List.map_append]; exact List.mem_append_right _ (by simp)))
            · exact c y hy
/-! ### what is known of a row of refs that rise -/
theorem kpAt_of {D : List Kp} {i : Nat} (hi : i < D.length) : kpAt (knwOf D) i = D[i] := by unfold kpAt knwOf; simp [hi]
theorem kps_knwOf (D : List Kp) : kpsOf (knwOf D) D.length = D := by
  apply List.ext_getElem
  · rw [kpsOf_length]
  · intro i h1 h2
    have : (kpsOf (knwOf D) D.length)[i] = kpAt (knwOf D) i := by simp [kpsOf]
    rw [this, kpAt_of h2]
theorem knwOf_right {D : List Kp} (hd : Dist D) (hr : rightM D) (hs : D.Pairwise fun a b => a.1.1 ≤ b.1.1) (ht : okT D) (hl : D.length ≤ 1000) : knwErr (knwOf D) = 0 := by
  have hlen : (knwOf D).refs.length = D.length := by simp [knwOf]
  have h1 : ∀ i, i < D.length → oneErr (knwOf D) i = 0 := fun i hi => by
    have e1 : (knwOf D).refs.getD i (0, []) = D[i].1 := by simp [knwOf, hi]
    have e2 : (knwOf D).lasts.getD i 0 = D[i].2.1 := by simp [knwOf, hi]
    have e3 : (knwOf D).has.getD i false = D[i].2.2 := by simp [knwOf, hi]
    obtain ⟨t1, t2⟩ := ht _ (List.getElem_mem hi)
    unfold oneErr
    rw [e1, e2, e3, if_neg (by have := hr _ (List.getElem_mem hi); omega), if_neg (by omega), if_neg (fun h => h.2 (t2 h.1)), if_neg]
    rintro ⟨h0, h2⟩
    have hi1 : i - 1 < D.length := by omega
    have e4 : (knwOf D).refs.getD (i - 1) (0, []) = D[i - 1].1 := by simp [knwOf, hi1]
    rw [e4] at h2
    have h3 := List.pairwise_iff_getElem.1 hs (i - 1) i hi1 hi (by omega)
    have := hd.numEq hi1 hi (by omega)
    omega
  unfold knwErr
  rw [hlen, if_neg (by simp [knwOf]), if_neg (by omega), firstErr_none h1, if_neg (by simp), if_neg]
  rw [Bool.not_eq_true]
  unfold dupB
  rw [Bool.not_eq_false', decide_eq_true_iff]
  have : (knwOf D).refs.map (·.2) = D.map (·.1.2) := by show (D.map (·.1)).map (·.2) = _; rw [List.map_map]; rfl
  rw [this]
  exact hd.lab
theorem learn_okT {k : Knw} {r : Rcd} (h : learnE k r = 0) : okT (learnK k r) := by
  obtain ⟨h1, h2, h3⟩ := learnE_zero h
  obtain ⟨_, _, _, hre, hpe⟩ := recErr_zero h2
  have h0 := okT_kps h1
  have h4 := h3
  unfold learnR at h4
  split at h4
  · unfold learnS at h4
    split at h4
    · cases h4
    · rename_i C hC
      split at h4
      · cases h4
      · have e : learnK k r = kpsOf k k.refs.length ++ C := (congrArg Prod.snd h4).symm
        rw [e]
        obtain ⟨hf, _⟩ := seriesGo_fresh hC (fun y hy => by simp at hy)
        intro y hy
        rcases List.mem_append.1 hy with hy | hy
        · exact h0 y hy
        · rw [hf y hy]; exact ⟨by decide, fun _ => rfl⟩
  · unfold learnP at h4
    split at h4
    · cases h4
    · have e : learnK k r = r.points.foldl updP (kpsOf k k.refs.length) := (congrArg Prod.snd h4).symm
      rw [e]
      refine okT_all h0 fun p hp => ?_
      have := hpe p hp
      unfold pointErr at this
      split at this
      · rename_i h9; exact absurd this h9
      · exact this
/-! ### rows of numbers, of bools -/
theorem reads_ownInts {w : World} {Z : Nat} {v : Value} {l : List Int} (h : w.ownsRow Z 3 1 v l.length (intsV l)) : readsInt w w.heap.size v l := by
  obtain ⟨ao, cp, e⟩ := own_shape h
  refine ⟨ao, cp, e, fun i hi => ?_⟩
  rcases id h.2 with ⟨_, h0⟩ | ⟨g, cap, cur, r1, r2, r3, _⟩
  · omega
  · rw [e] at r1
    obtain ⟨rfl, rfl⟩ : ao = some ⟨g, 0, none⟩ ∧ cp = cap := by simpa using r1
    have hc := World.ownsRow.cells h (g := g) (by rw [e]; rfl) i (.int .i64 l[i]) (by simp [intsV, hi])
    rw [Addr.add_lit] at hc
    exact ⟨g, 0, rfl, lt_of_block r3, by simpa using hc⟩
theorem reads_ownBools {w : World} {Z : Nat} {v : Value} {l : List Bool} (h : w.ownsRow Z 4 1 v l.length (boolsV l)) : readsBool w w.heap.size v l := by
  obtain ⟨ao, cp, e⟩ := own_shape h
  refine ⟨ao, cp, e, fun i hi => ?_⟩
  rcases id h.2 with ⟨_, h0⟩ | ⟨g, cap, cur, r1, r2, r3, _⟩
  · omega
  · rw [e] at r1
    obtain ⟨rfl, rfl⟩ : ao = some ⟨g, 0, none⟩ ∧ cp = cap := by simpa using r1
    have hc := World.ownsRow.cells h (g := g) (by rw [e]; rfl) i (.bool l[i]) (by simp [boolsV, hi])
    rw [Addr.add_lit] at hc
    exact ⟨g, 0, rfl, lt_of_block r3, by simpa using hc⟩
theorem ownKnw.reads {w : World} {Z : Nat} {vr vl vh : Value} {k : Knw} (h : ownKnw w Z vr vl vh k) : readsKnw w w.heap.size vr vl vh k := ⟨reads_ownRefs h.r, reads_ownInts h.l, reads_ownBools h.h⟩
set_option maxRecDepth 20000 in
set_option maxHeartbeats 8000000 in
/-- R.SameKnown of what is the same. -/
theorem sameKnw_yes (w : World) (ar al ah br bl bh : Value) (k : Knw) (ha : readsKnw w w.heap.size ar al ah k) (hb : readsKnw w w.heap.size br bl bh k) (hl : k.refs.length ≤ 1000000) (hll : ∀ x ∈ k.refs, x.2.length ≤ 1000000) (h2 : k.lasts.length ≤ 1000000) (h3 : k.has.length ≤ 1000000) :
    Calls Tryz.prog 12 #[.agg #[ar, al, ah], .agg #[br, bl, bh]] w fun e w' => e = .returned (.bool true) ∧ Grow w w' := by
  obtain ⟨rs, ls, hs⟩ := k
  simp only at ha hb hl hll h2 h3
  have HA := hide ha
  have HB := hide hb
  obtain ⟨⟨aro, arc, rfl, _⟩, ⟨alo, alc, rfl, _⟩, ⟨aho, ahc, rfl, _⟩⟩ := ha
  obtain ⟨⟨bro, brc, rfl, _⟩, ⟨blo, blc, rfl, _⟩, ⟨bho, bhc, rfl, _⟩⟩ := hb
  obtain ⟨V1, e1, g1, b1⟩ := laid_at w #[.slice aro rs.length arc, .slice alo ls.length alc, .slice aho hs.length ahc] 26
  obtain ⟨V2, e2, g2, b2⟩ := laid_at V1 #[.slice bro rs.length brc, .slice blo ls.length blc, .slice bho hs.length bhc] 26
  have s1 : V1.heap.size = w.heap.size + 1 := by rw [← e1]; simp
  rw [s1] at b2
  have HB1 := hide (g2.get b1)
  have HB2 := hide b2
  have HG := hide (g1.trans g2)
  have HSR := hide (sameRefs_yes V2 _ _ rs ((HA.out.1.keep HG.out).more HG.out.size) ((HB.out.1.keep HG.out).more HG.out.size) hl hll)
  obtain ⟨c0, c1, c2⟩ := three_of HB1.out
  obtain ⟨d0, d1, d2⟩ := three_of HB2.out
  have hn1 : ((ls.length : Int) != (ls.length : Int)) = false := by simp
  have hn2 : ((hs.length : Int) != (hs.length : Int)) = false := by simp
  clear g1 g2 b1 b2 hll
  go_enter Tryz.func12, Tryz.ntmps12
  go_wp2_with fail
  refine HSR.out.mono ?_
  rintro e w3 ⟨rfl, hg3⟩
  have HG3 : Hid (Grow V2 w3) := hide (by obtain ⟨n, rfl⟩ := hg3; exact ⟨rfl, rfl, rfl, Nat.le_refl _, fun _ _ => rfl⟩)
  clear hg3 HSR c0 c1 c2 d0 d1 d2 e1 e2 s1
  obtain ⟨c0, c1, c2⟩ := three_of (HG3.out.get HB1.out)
  obtain ⟨d0, d1, d2⟩ := three_of (HG3.out.get HB2.out)
  go_wp2
  clear c0 c1 c2 d0 d1 d2
  go_loopw [5] (fun iv wr => ∃ i : Nat, i ≤ ls.length ∧ iv = .int .i64 i ∧ Hid (Grow w3 wr)) (fun iv _ => ls.length - (intOf iv).toNat)
  case atStart => exact ⟨0, by omega, rfl, hide (Grow.refl _)⟩
  case round =>
    obtain ⟨i, hi, rfl, HGr⟩ := hrel
    obtain ⟨c0, c1, c2⟩ := three_of ((HG3.out.trans HGr.out).get HB1.out)
    obtain ⟨d0, d1, d2⟩ := three_of ((HG3.out.trans HGr.out).get HB2.out)
    by_cases hlt : i < ls.length
    · have hlti : (i : Int) < (ls.length : Int) := by omega
      have hgw : Grow w wr := HG.out.trans (HG3.out.trans HGr.out)
      obtain ⟨ab, af, rfl, _, q0⟩ : ∃ b' o, alo = some ⟨b', o, none⟩ ∧ b' < w.heap.size ∧ wr.cell? ⟨b', o + i, none⟩ = some (.int .i64 ls[i]) := by
        obtain ⟨ao', cp', e, h⟩ := HA.out.2.1.keep hgw
        cases e
        exact h i hlt
      obtain ⟨bb, bf, rfl, _, q1⟩ : ∃ b' o, blo = some ⟨b', o, none⟩ ∧ b' < w.heap.size ∧ wr.cell? ⟨b', o + i, none⟩ = some (.int .i64 ls[i]) := by
        obtain ⟨ao', cp', e, h⟩ := HB.out.2.1.keep hgw
        cases e
        exact h i hlt
      obtain ⟨t, HT⟩ : ∃ t : Int, Hid (ls[i] = t) := ⟨_, hide rfl⟩
      rw [HT.out] at q0 q1
      have hne : (t != t) = false := by simp
      clear hgw
      go_wp2
      go_quiet (fail)
      go_wp2
      go_roundw
      case rel => exact ⟨i + 1, by omega, by go_num, hide (HGr.out.trans (grow_drewR _ _))⟩
      case measure => simp [intOf]; omega
    · obtain rfl : i = ls.length := by omega
      go_wp2
      clear c0 c1 c2 d0 d1 d2
      go_loopw [6] (fun iv w5 => ∃ i : Nat, i ≤ hs.length ∧ iv = .int .i64 i ∧ Hid (Grow w3 w5)) (fun iv _ => hs.length - (intOf iv).toNat)
      case atStart => exact ⟨0, by omega, rfl, HGr⟩
      case round =>
        obtain ⟨i, hi, rfl, HG5⟩ := hrel
        rename World => w5
        obtain ⟨c0, c1, c2⟩ := three_of ((HG3.out.trans HG5.out).get HB1.out)
        obtain ⟨d0, d1, d2⟩ := three_of ((HG3.out.trans HG5.out).get HB2.out)
        by_cases hlt2 : i < hs.length
        · have hlti : (i : Int) < (hs.length : Int) := by omega
          have hgw : Grow w w5 := HG.out.trans (HG3.out.trans HG5.out)
          obtain ⟨ab, af, rfl, _, q0⟩ : ∃ b' o, aho = some ⟨b', o, none⟩ ∧ b' < w.heap.size ∧ w5.cell? ⟨b', o + i, none⟩ = some (.bool hs[i]) := by
            obtain ⟨ao', cp', e, h⟩ := HA.out.2.2.keep hgw
            cases e
            exact h i hlt2
          obtain ⟨bb, bf, rfl, _, q1⟩ : ∃ b' o, bho = some ⟨b', o, none⟩ ∧ b' < w.heap.size ∧ w5.cell? ⟨b', o + i, none⟩ = some (.bool hs[i]) := by
            obtain ⟨ao', cp', e, h⟩ := HB.out.2.2.keep hgw
            cases e
            exact h i hlt2
          obtain ⟨t, HT⟩ : ∃ t : Bool, Hid (hs[i] = t) := ⟨_, hide rfl⟩
          rw [HT.out] at q0 q1
          have hne : (t != t) = false := by simp
          clear hgw
          go_wp2
          go_quiet (fail)
          go_wp2
          go_roundw
          case rel => exact ⟨i + 1, by omega, by go_num, hide (HG5.out.trans (grow_drewR _ _))⟩
          case measure => simp [intOf]; omega
        · obtain rfl : i = hs.length := by omega
          go_wp2
          go_ret
          exact ⟨rfl, HG.out.trans (HG3.out.trans HG5.out)⟩
end Go.Proofs.YtkaeogldielkfaaGreat.Rc
