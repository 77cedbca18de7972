/- 2 texts in one. -/
import Derived.Test.YtkaeogldielkfaaGreatProg
import Derived.Test.YtkaeogldielkfaaGreatKabe2b5f
import Derived.Test.YtkaeogldielkfaaGreatKa96aaab
import Derived.Test.YtkaeogldielkfaaGreatKa7e3600
import Derived.Test.YtkaeogldielkfaaGreatKdba8539
import Derived.Test.YtkaeogldielkfaaGreatK5922e7b
import Derived.Test.YtkaeogldielkfaaGreatK2b69181
import Derived.Test.YtkaeogldielkfaaGreatKdfef78d
import Derived.Sort.OwnSorted
import Derived.Deep.RegionHeld3
import Derived.Deep.AppendLies
import Derived.Test.YtkaeogldielkfaaGreatK382d20d
import Derived.Test.YtkaeogldielkfaaGreatKde4a8e2
set_option linter.unusedVariables false
set_option linter.unusedSimpArgs false
namespace Go.Proofs.YtkaeogldielkfaaGreat.Lb
open Go.RowKit Go.Sort
attribute [local go_sem] bs_size bs_toList bs_append bs_get bs_extract
def encL (x : Lab) : List Value := [.string (bs x.1), .string (bs x.2)]
def cfL (x y : Lab) : Int := cmpStr x.1 y.1
theorem ltL (x y : Lab) : ltOf cfL x y = Op.bytesLess x.1 y.1 := by
  unfold ltOf cfL
  cases h : Op.bytesLess x.1 y.1 with
  | true => simpa using cmpStr_lt.2 h
  | false =>
    rw [decide_eq_false_iff_not]
    intro e
    rw [cmpStr_lt.1 e] at h
    cases h
theorem swoL : SWO (ltOf cfL) where
  irrefl x := by rw [ltL]; exact bl_irrefl _
  trans x y z h1 h2 := by rw [ltL] at *; exact bl_trans h1 h2
  ntrans x y z h1 h2 := by
    rw [ltL] at *
    cases h : Op.bytesLess x.1 z.1 with
    | false => rfl
    | true =>
      cases hy : Op.bytesLess y.1 x.1 with
      | true => rw [bl_trans hy h] at h2; cases h2
      | false => rw [bl_tri h1 hy] at h; rw [h] at h2; cases h2
theorem flat_lab (l : List Lab) : (flatK encL 2 l.toArray).toList = labCells l := by
  apply List.ext_getElem?
  intro t
  by_cases ht : t < l.length * 2
  · have h1 := get_flatK encL 2 l.toArray t (by simpa using ht)
    have hs : t < (flatK encL 2 l.toArray).size := by rw [size_flatK]; simpa using ht
    rw [getElem!_pos _ t hs] at h1
    rw [Array.getElem?_toList, Array.getElem?_eq_getElem hs, h1]
    have hi : t / 2 < l.length := by omega
    have hg : l.toArray[t / 2]! = l[t / 2] := by rw [getElem!_pos _ _ (by simpa using hi)]; simp
    rw [hg]
    obtain ⟨a0, a1⟩ := labCells_at l (t / 2) hi
    rcases Nat.mod_two_eq_zero_or_one t with hm | hm
    · rw [hm]
      rw [show t / 2 * 2 = t by omega] at a0
      rw [a0]; rfl
    · rw [hm]
      rw [show t / 2 * 2 + 1 = t by omega] at a1
      rw [a1]; rfl
  · rw [List.getElem?_eq_none (by rw [Array.length_toList, size_flatK]; simp; omega), List.getElem?_eq_none (by rw [labCells_length]; omega)]
theorem holdsL {w : World} {g : Nat} {cur : Array Value} {e : TypeId} {ls : List Lab} (hb : w.heap[g]? = some (.cells cur e (0, 0))) (ht : cur.toList.take (ls.length * 2) = labCells ls) : HoldsK encL 2 w g 0 ls.toArray := by
  intro j hj
  rw [size_flatK] at hj
  have hj' : j < ls.length * 2 := by simpa using hj
  have hs : j < (flatK encL 2 ls.toArray).size := by rw [size_flatK]; exact hj
  refine ⟨?_, by simp [World.frozen?, hb]⟩
  have h1 : (cur.toList.take (ls.length * 2))[j]? = (flatK encL 2 ls.toArray).toList[j]? := by rw [ht, flat_lab]
  rw [List.getElem?_take_of_lt hj', Array.getElem?_toList, Array.getElem?_toList, Array.getElem?_eq_getElem hs] at h1
  rw [getElem!_pos _ j hs]
  simp only [World.cell?, hb, Nat.zero_add]
  simp only [Option.isSome_none, Bool.false_eq_true, if_false]
  exact h1
theorem heap_sortedL {w : World} {g n : Nat} {os : Array Obj} {cur : Array Value} {e : TypeId} {fr : Nat × Nat} (d : Array Lab) (hb : w.heap[g]? = some (.cells cur e fr)) :
    (sortWorldK encL 2 w g 0 n d os).heap[g]? = some (.cells (putCells id 0 (flatK encL 2 d) cur) e fr) := by
  have hg : g < w.heap.size := (Array.getElem?_eq_some_iff.1 hb).1
  unfold sortWorldK putRowK
  rw [heap_grow_old _ _ (by simpa using hg)]
  simp [putRow, mapBlock, Sort.ahead, Array.getElem?_modify, hb, onCells]
theorem grownBy_sortedL {w : World} {g n : Nat} {os : Array Obj} (d : Array Lab) : w.grownBy (sortWorldK encL 2 w g 0 n d os) (some g) := by
  unfold sortWorldK putRowK
  refine ⟨rfl, rfl, rfl, by simp, fun k hk hne => ?_⟩
  rw [heap_grow_old _ _ (by simpa using hk)]
  have : g ≠ k := fun e => hne (by rw [e])
  simp [putRow, mapBlock, Sort.ahead, Array.getElem?_modify, this]
theorem take_putL (cur F : Array Value) (h : F.size ≤ cur.size) : (putCells id 0 F cur).toList.take F.size = F.toList := by
  apply List.ext_getElem?
  intro j
  by_cases hj : j < F.size
  · rw [List.getElem?_take_of_lt hj, Array.getElem?_toList, Array.getElem?_toList]
    simp [putCells, hj, show j < cur.size by omega]
  · rw [List.getElem?_take_eq_none (by omega), List.getElem?_eq_none (by simp; omega)]
theorem own_sortedL {w : World} {base g cap n : Nat} {os : Array Obj} {cur : Array Value} {ls d : List Lab} (hl : d.length = ls.length) (hbase : base ≤ g) (hb : w.heap[g]? = some (.cells cur 107 (0, 0))) (h1 : ls.length ≤ cap) (h2 : cap ≤ maxLen) (h3 : cur.size = cap * 2) :
    ownLabels (sortWorldK encL 2 w g 0 n d.toArray os) base (.slice (some ⟨g, 0, none⟩) ls.length cap) d := by
  have hf : (flatK encL 2 d.toArray).size = d.length * 2 := by rw [size_flatK]; simp
  refine ⟨labCells_length d, .inr ⟨g, cap, _, by rw [hl], hbase, heap_sortedL _ hb, by omega, h2, by simp [putCells, h3], ?_⟩⟩
  rw [← hf, take_putL cur _ (by omega), flat_lab]
theorem sort_perm {d d' : Array Lab} (h : PermIn 0 d.size d d') : d'.toList.Perm d.toList := by
  obtain ⟨hs, _, hp⟩ := h
  rw [Array.extract_eq_self_of_le (by omega), Array.extract_eq_self_of_le (by omega)] at hp
  exact hp
theorem sort_rise {d d' : Array Lab} (hp : PermIn 0 d.size d d') (hs : SortedIn (ltOf cfL) 0 d.size d') (hn : twiceB d.toList = false) : Rise d'.toList ∧ ∀ y, y ∈ d'.toList ↔ y ∈ d.toList := by
  have hpm := sort_perm hp
  refine ⟨?_, fun y => hpm.mem_iff⟩
  have hn2 : (d'.toList.map (·.1)).Nodup := (hpm.map (·.1)).nodup_iff.2 (by simpa [twiceB] using hn)
  have hn3 : twiceB d'.toList = false := by unfold twiceB; simpa using hn2
  unfold Rise
  rw [List.pairwise_iff_getElem]
  intro i j hi hj hij
  have hsz := hp.1
  have hi' : i < d'.size := by simpa using hi
  have hj' : j < d'.size := by simpa using hj
  have h1 := hs i j (by omega) hij (by omega)
  rw [ltL, getElem!_pos _ i hi', getElem!_pos _ j hj'] at h1
  have h2 := twiceB_false.1 hn3 i j hi hj hij
  simp only [Array.getElem_toList] at h2 ⊢
  cases h : Op.bytesLess d'[i].1 d'[j].1 with
  | true => rfl
  | false => exact absurd (bl_tri h h1) h2
set_option maxHeartbeats 1000000 in
theorem sorted1_any (x y : Lab) (W : World) : Calls Tryz.prog 119 #[.agg #[.string (bs x.1), .string (bs x.2)], .agg #[.string (bs y.1), .string (bs y.2)]] W fun e w' => e = .returned (.int .i64 (cfL x y)) ∧ ∃ q os', w' = grow (W.drewN q) os' := by
  have hcon := fun W' => cmpString_any x.1 y.1 W'
  unfold cfL
  generalize cmpStr x.1 y.1 = r at hcon ⊢
  go_enter Tryz.func119, Tryz.ntmps119
  go_wp2_with (go_at_call 120; refine (hcon _).mono ?_; rintro e w' ⟨rfl, rfl⟩)
  go_ret
  exact ⟨rfl, 0, _, by rw [alloc_eq_grow, alloc_eq_grow, grow_grow]; rfl⟩
set_option maxRecDepth 20000 in
set_option maxHeartbeats 1000000 in
/-- slices.SortFunc over a row of labels that the call owns. -/
theorem sortLabels_any (w : World) (base : Nat) (v : Value) (ls : List Lab) (h : ownLabels w base v ls) (hl : ls.length ≤ 1000) (hn : twiceB ls = false) :
    Calls Tryz.prog 118 #[v, .func (.func 119) #[] #[]] w fun e w' => e = .returned (.tuple #[]) ∧ ∃ d, ownLabels w' base v d ∧ Rise d ∧ (∀ y, y ∈ d ↔ y ∈ ls) ∧ d.length = ls.length ∧ w.grownBy w' v.ownBlock := by
  rcases id h.2 with ⟨rfl, h0⟩ | ⟨g, cap, cur, rfl, h1, h2, h3, h4, h5, h6⟩
  · have : ls = [] := List.eq_nil_of_length_eq_zero h0
    subst this
    refine (AnyF.slices_SortFunc_none Tryz.sortL none 0 _ w).mono ?_
    rintro e w' ⟨rfl, rfl⟩
    exact ⟨rfl, [], h, List.Pairwise.nil, fun y => Iff.rfl, rfl, ⟨rfl, rfl, rfl, Nat.le_refl _, fun _ _ _ => rfl⟩⟩
  · have eg : ∀ args w, (callFunc 119 args).run Tryz.prog w = .ok (.enter 119 args) w := enters_of Tryz.func119 (by kernel_rfl) rfl
    have hsz : ls.toArray.size = ls.length := by simp
    have hcon := AnyQ.slices_SortFunc Tryz.sortL 2 Tryz.isAgg107 Tryz.sizeOf107 encL (fun _ => rfl) (fun x v hv => by simp [encL] at hv; rcases hv with rfl | rfl <;> rfl) cfL swoL 119 #[] g 0 cap ls.toArray w eg (fun m os dk hs x y => sorted1_any x y _) (holdsL h2 h6) (lt_of_block h2) (by rw [hsz]; omega)
    rw [hsz] at hcon
    refine Calls.mono hcon ?_
    rintro e w' ⟨rfl, d', n, os, hp, hs, rfl⟩
    rw [← hsz] at hp hs
    obtain ⟨hr, hm⟩ := sort_rise hp hs hn
    have hdl : d'.toList.length = ls.length := by have := hp.1; simpa using this
    refine ⟨rfl, d'.toList, ?_, hr, hm, hdl, grownBy_sortedL _⟩
    have := own_sortedL (n := n) (os := os) (d := d'.toList) hdl h1 h2 h3 h4 h5
    simpa using this
def full (x : Lab) : Bool := decide (x.2 ≠ [])
set_option maxRecDepth 20000 in
set_option maxHeartbeats 2000000 in
theorem sorted_any (w : World) (va vb : Value) (a b : List Lab) (ha : readsLabels w w.heap.size va a) (hb : readsLabels w w.heap.size vb b) (hal : a.length ≤ 50) (hbl : b.length ≤ 50) (hin : ∀ x ∈ a ++ b, x.1.length ≤ 1000 ∧ x.2.length ≤ 1000) (hn : twiceB ((a ++ b).filter full) = false) :
    Calls Tryz.prog 91 #[va, vb] w fun e w' => ∃ v' d, e = .returned v' ∧ ownLabels w' w.heap.size v' d ∧ Rise d ∧ (∀ y, y ∈ d ↔ (y ∈ a ++ b ∧ y.2 ≠ [])) ∧ Below w.heap.size w w' := by
  obtain ⟨i0, hi0, hz0, hz1, hz2⟩ := info_parts Tryz.infoL
  obtain ⟨ao, ac, hva⟩ := readsLabels_len ha
  obtain ⟨bo, bc, hvb⟩ := readsLabels_len hb
  have HA := hide ha
  have HB := hide hb
  have HI := hide hin
  have HN := hide hn
  clear ha hb hin hn
  subst hva hvb
  obtain ⟨w1, HW⟩ : ∃ w1, Hid (w.alloc (.cells #[.slice ao a.length ac, .slice bo b.length bc] 57) = w1) := ⟨_, hide rfl⟩
  have hb1 : Below w.heap.size w w1 := by rw [← HW.out]; exact (Below.refl _ _).alloc (Nat.le_refl _) _
  have hg1 : w1.heap[w.heap.size]? = some (.cells #[.slice ao a.length ac, .slice bo b.length bc] 57 (0, 0)) := by rw [← HW.out]; exact heap_alloc_new w _
  have hs1 := hb1.size
  have C1 := hide (concat_any w1 w.heap.size _ _ _ a b hg1 (readsLabels_mono (readsLabels_below HA.out hb1) hs1) (readsLabels_mono (readsLabels_below HB.out hb1) hs1) (by omega) (by omega))
  have HB1 := hide hb1
  clear hg1 hb1
  go_enter Tryz.func91, Tryz.ntmps91
  go_wp2_with fail
  rw [HW.out]
  refine C1.out.mono ?_
  rintro e w2 ⟨o2, p2, rfl, hown2, hb2'⟩
  have hb2 : Below w.heap.size w w2 := HB1.out.trans (hb2'.mono hs1)
  have hr2 := reads_ownLabels hown2
  have hlen2 : a.length + b.length = (a ++ b).length := by rw [List.length_append]
  rw [hlen2] at hr2 ⊢
  have hlen : (a ++ b).length ≤ 100 := by omega
  clear hown2 hb2' HA HB C1 HW hlen2
  obtain ⟨ls, HLs⟩ : ∃ ls, Hid (a ++ b = ls) := ⟨_, hide rfl⟩
  rw [HLs.out] at hr2 HI HN hlen ⊢
  obtain ⟨_, _, he2, hcells⟩ := id hr2
  simp at he2
  obtain ⟨rfl, rfl⟩ := he2
  clear hr2
  have hs2 := hb2.size
  go_wp2
  go_loopw [5, 13] (fun v i wr => ∃ k : Nat, k ≤ ls.length ∧ i = .int .i64 k ∧ ownLabels wr w2.heap.size v ((ls.take k).filter full) ∧ Below w2.heap.size w2 wr) (fun _ i _ => ls.length - (intOf i).toNat)
  case atStart => exact ⟨0, by omega, rfl, World.ownsRow_nil _ _ _ _, Below.refl _ _⟩
  case round =>
    obtain ⟨k, hk, rfl, hown, hb⟩ := hrel
    rename World => wr
    have hbs := hb.size
    have hfl := List.length_filter_le full (ls.take k)
    rw [List.length_take] at hfl
    by_cases hlt : k < ls.length
    · have HF := hide (filter_take ls full k hlt)
      obtain ⟨lb, lo, rfl, hlB, c0, c1⟩ := hcells k hlt
      have d0 := (hb.cell (p := ⟨lb, lo + k * 2, none⟩) hlB).trans c0
      have d1 := (hb.cell (p := ⟨lb, lo + k * 2 + 1, none⟩) hlB).trans c1
      clear c0 c1 hcells
      obtain ⟨hl0, hl1⟩ := HI.out _ (List.getElem_mem hlt)
      obtain ⟨x, HX⟩ : ∃ x : Lab, Hid (ls[k] = x) := ⟨_, hide rfl⟩
      obtain ⟨L, HL⟩ : ∃ L, Hid ((ls.take k).filter full = L) := ⟨_, hide rfl⟩
      rw [HX.out] at d0 d1 HF hl0 hl1
      rw [HL.out] at hown hfl HF
      by_cases he : x.2 = []
      · have he' : ¬ (0 : Int) < x.2.length := by rw [he]; simp
        have HFo : Hid (List.filter full (List.take (k + 1) ls) = L) := by show _ = _; rw [HF.out]; simp [full, he]
        clear he
        go_wp2
        go_roundw
        case rel => exact ⟨k + 1, by omega, by go_num, by rw [HFo.out]; exact hown.alloc _, hb.alloc hbs _⟩
        case measure => simp [intOf]; omega
      · have he' : (0 : Int) < x.2.length := by
          have : x.2.length ≠ 0 := fun e => he (List.eq_nil_of_length_eq_zero e)
          omega
        have HFo : Hid (List.filter full (List.take (k + 1) ls) = L ++ [x]) := by show _ = _; rw [HF.out]; simp [full, he]
        clear he
        have HRow := hide hown
        obtain ⟨vo, vc, rfl⟩ := own_shape hown
        clear hown
        go_wp2_with fail
        have hx0 : (wr.alloc (.cells #[.string (bs x.1), .string (bs x.2)] 107)).cell? ⟨wr.heap.size, 0, none⟩ = some (.string (bs x.1)) := by simp
        have hx1 : (wr.alloc (.cells #[.string (bs x.1), .string (bs x.2)] 107)).cell? ⟨wr.heap.size, 1, none⟩ = some (.string (bs x.2)) := by simp
        have hwx : Grow wr (wr.alloc (.cells #[.string (bs x.1), .string (bs x.2)] 107)) := (Grow.refl wr).alloc _
        have hsx : wr.heap.size < (wr.alloc (.cells #[.string (bs x.1), .string (bs x.2)] 107)).heap.size := by simp
        generalize wr.alloc (.cells #[.string (bs x.1), .string (bs x.2)] 107) = wx at hx0 hx1 hwx hsx ⊢
        have hne : (Value.slice vo L.length vc).ownBlock ≠ some wr.heap.size := fun e => by have := (HRow.out.lt _ e).2; omega
        have hgx : Grow wx wx := Grow.refl wx
        go_region_held3 (fun w' => w'.cell? ⟨wr.heap.size, 0, none⟩ = some (.string (bs x.1)) ∧ w'.cell? ⟨wr.heap.size, 1, none⟩ = some (.string (bs x.2)))
          (first
            | go_keep
            | (exact ⟨(hgx.cell (p := ⟨wr.heap.size, 0, none⟩) hsx).trans hx0, (hgx.cell (p := ⟨wr.heap.size, 1, none⟩) hsx).trans hx1⟩)
            | (exact ⟨(hgrow3.cell_far _ (by simp; omega) (fun e => hne e.symm)).trans (((Grow.alloc hgx (.cells #[.string (bs x.1), .string (bs x.2)] 107)).cell (p := ⟨wr.heap.size, 0, none⟩) hsx).trans hx0), (hgrow3.cell_far _ (by simp; omega) (fun e => hne e.symm)).trans (((Grow.alloc hgx (.cells #[.string (bs x.1), .string (bs x.2)] 107)).cell (p := ⟨wr.heap.size, 1, none⟩) hsx).trans hx1)⟩))
          ((first
            | (go_at_call 117; refine (clone_any _ _ (by omega)).mono ?_; rintro e w4 ⟨rfl, hb4⟩; have hgx := Grow.trans hgx ⟨hb4.os, hb4.tape, hb4.output, hb4.size, hb4.block⟩; have hsx4 : wr.heap.size < w4.heap.size := by have := hgx.size; omega)
            | (refine step_append_lies _ (by rfl) _ _ 57 (by rfl) w2.heap.size 107 i0 _ 2 32 Tryz.underlying57 hi0 hz0 hz1 hz2 zeroLab (by omega) (.slice vo L.length vc) L.length (labCells L) (by rfl)
                (own_grow HRow.out (by have h := Grow.alloc (Grow.trans hwx hgx) (.cells #[.string (bs x.1), .string (bs x.2)] 107); exact ⟨h.os, h.tape, h.output, h.size, h.block⟩))
                ⟨w4.heap.size, 0, none⟩ 1 1 (labCells [x]) (by rfl) (labCells_length [x]) (World.news_of_block (cs := #[.string (bs x.1), .string (bs x.2)]) (t := 107) (fr := (0, 0)) (by exact heap_alloc_new _ _)) (labCells_one [x]) (by omega) (by unfold maxLen; omega) (by omega) (by simp; omega) (w4.heap.size + 1) (by simp) ?_; intro g3 cap3 w3 hown3 hgrow3 hat3 hlt3)))
        all_goals
          go_wp2
          have hcur := Grow.alloc (Grow.trans hwx hgx) (.cells #[.string (bs x.1), .string (bs x.2)] 107)
          have hbw : Below w2.heap.size w2 (w4.alloc (.cells #[.string (bs x.1), .string (bs x.2)] 107)) := hb.trans (hcur.mono hbs)
          have hsz2 := hbw.size
          go_roundw
          case rel => exact ⟨k + 1, by omega, by go_num, by rw [HFo.out]; show World.ownsRow _ _ _ _ _ _ _; rw [List.length_append, labCells_append]; exact hown3, Below.grown ⟨hbw.os, hbw.tape, hbw.output, hbw.size, hbw.block⟩ hgrow3 hsz2 (fun j hj => (HRow.out.lt j hj).1)⟩
          case measure => simp [intOf]; omega
    · obtain rfl : k = ls.length := by omega
      rw [List.take_of_length_le (Nat.le_refl _)] at hown hfl
      have HS := hide (sortLabels_any wr w2.heap.size _ (ls.filter full) hown (by omega) HN.out)
      have HRow := hide hown
      clear hown hcells
      go_wp2_with fail
      refine HS.out.mono ?_
      rintro e w5 ⟨rfl, d, hown5, hr, hm, hl5, hgr5⟩
      have HM := hide hm
      clear hm HS
      go_wp2
      go_ret
      refine ⟨_, d, rfl, own_le hown5 hs2, hr, fun y => ?_, ?_⟩
      · rw [HM.out, List.mem_filter, HLs.out]
        simp [full]
      · exact hb2.trans ((Below.grown hb hgr5 hbs (fun j hj => (HRow.out.lt j hj).1)).mono hs2)
end Go.Proofs.YtkaeogldielkfaaGreat.Lb
namespace Go.Proofs.YtkaeogldielkfaaGreat.Lb
open Go.RowKit
attribute [local go_sem] bs_size bs_toList bs_append bs_get bs_extract
theorem twice_filter {l : List Lab} (p : Lab → Bool) (h : twiceB l = false) : twiceB (l.filter p) = false := by
  have h1 : (l.map (·.1)).Nodup := by simpa [twiceB] using h
  have h2 : ((l.filter p).map (·.1)).Nodup := h1.sublist (List.filter_sublist.map _)
  unfold twiceB
  simpa using h2
theorem make_none {l : List Lab} : (∀ x ∈ l, nameB x.1 = true ∧ 0 ≤ x.2.length ∧ x.2.length ≤ 100) → ∀ x ∈ l, x.1.length ≤ 1000 ∧ x.2.length ≤ 1000 := by
  intro h x hx
  have := h x hx
  have h2 := nameB_len this.1
  omega
theorem makeErr_each {l : List Lab} (h : eachErr 0 l ≠ 0) : makeErr l = eachErr 0 l := by unfold makeErr; rw [if_neg h]
theorem makeErr_twice {l : List Lab} (h : eachErr 0 l = 0) (k : twiceB l = true) : makeErr l = 6 := by unfold makeErr; rw [if_pos h, if_neg (by rw [k]; simp)]
theorem makeErr_ok {l : List Lab} (h : eachErr 0 l = 0) (k : twiceB l = false) : makeErr l = 0 := by unfold makeErr; rw [if_pos h, if_pos k]
theorem makeAns_no {l : List Lab} (h : makeErr l ≠ 0) : makeAns l = [] := by unfold makeAns; rw [if_neg h]
theorem makeAns_ok {l : List Lab} (h : makeErr l = 0) : makeAns l = makeL l := by unfold makeAns; rw [if_pos h]
set_option maxRecDepth 20000 in
set_option maxHeartbeats 1000000 in
theorem make_any (w : World) (v : Value) (ls : List Lab) (hv : readsLabels w w.heap.size v ls) (hlen : ls.length ≤ 9223372036854775807) (hin : lensOk ls) :
    Calls Tryz.prog 60 #[v] w fun e w' => ∃ v', e = .returned (.tuple #[v', .int .i64 (makeErr ls)]) ∧ ownLabels w' w.heap.size v' (makeAns ls) ∧ Below w.heap.size w w' := by
  have HV := hide hv
  have HI := hide hin
  clear hv hin
  go_enter Tryz.func60, Tryz.ntmps60
  go_wp2_with fail
  refine (checkEach_any w v ls 0 HV.out hlen HI.out (by omega)).mono ?_
  rintro e w1 ⟨rfl, hb1⟩
  have hs1 := hb1.size
  by_cases h0 : eachErr 0 ls = 0
  · obtain ⟨hl20, hn⟩ := eachErr_names h0
    have HL := hide (eachErr_zero.1 h0).2
    have HN := hide hn
    have H0 := hide h0
    clear hn
    rw [h0]
    clear h0
    have HV1 := hide (readsLabels_mono (readsLabels_below HV.out hb1) hb1.size)
    go_wp2_with fail
    refine (twice_any w1 v ls HV1.out hl20 (fun x hx => (HN.out x hx).1)).mono ?_
    rintro e w2 ⟨rfl, hb2'⟩
    have hb2 : Below w.heap.size w w2 := hb1.trans (hb2'.mono hs1)
    clear hb2'
    cases ht : twiceB ls with
    | true =>
      have HE := hide (makeErr_twice H0.out ht)
      clear ht
      go_wp2
      go_ret2
      exact ⟨_, ret2 rfl (vint (by rw [HE.out]; rfl)), by rw [makeAns_no (by rw [HE.out]; omega)]; exact World.ownsRow_nil _ _ _ _, hb2⟩
    | false =>
      have HE := hide (makeErr_ok H0.out ht)
      have HT := hide ht
      clear ht
      have hr0 : readsLabels w2 w2.heap.size (.slice none 0 0) [] := ⟨none, 0, rfl, fun i hi => by simp at hi⟩
      have HS := hide (sorted_any w2 v (.slice none 0 0) ls [] (readsLabels_mono (readsLabels_below HV.out hb2) hb2.size) hr0 (by omega) (by simp) (by rw [List.append_nil]; exact make_none HL.out) (by rw [List.append_nil]; exact twice_filter _ HT.out))
      go_wp2_with fail
      refine HS.out.mono ?_
      rintro e w3 ⟨v', d, rfl, hown, hr, hm, hb3⟩
      have HD : Hid (d = makeL ls) := makeL_uniq HT.out hr (fun y => by rw [hm y, List.append_nil])
      clear hr hm HS
      go_wp2
      go_ret2
      exact ⟨_, ret2 rfl (vint (by rw [HE.out]; rfl)), by rw [makeAns_ok HE.out, ← HD.out]; exact own_le hown hb2.size, hb2.trans (hb3.mono hb2.size)⟩
  · have H0 := hide h0
    have HE := hide (makeErr_each h0)
    have hne : ((eachErr 0 ls : Int) != 0) = true := by simpa using h0
    clear h0
    go_wp2
    go_ret2
    exact ⟨_, ret2 rfl (vint (by rw [HE.out])), by rw [makeAns_no (by rw [HE.out]; exact H0.out)]; exact World.ownsRow_nil _ _ _ _, hb1⟩
end Go.Proofs.YtkaeogldielkfaaGreat.Lb
