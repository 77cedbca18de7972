/- find: the sort of targets that a call owns. -/
import Derived.Laws.OwnMore
import Derived.Test.YtdlmgkncneifaaaGreatProg
import Derived.Test.YtdlmgkncneifaaaGreatKit
import Derived.Test.YtdlmgkncneifaaaGreatReg
import Derived.Test.YtdlmgkncneifaaaGreatLSpec
import Derived.Test.YtdlmgkncneifaaaGreatLRow
import Derived.Test.YtdlmgkncneifaaaGreatLSrt
import Derived.Test.YtdlmgkncneifaaaGreatLDr
import Derived.Test.YtdlmgkncneifaaaGreatFdA
import Derived.Test.YtdlmgkncneifaaaGreatFdF
import Derived.Test.YtdlmgkncneifaaaGreatShelf
import Derived.Sort.OwnSorted
import Derived.BigQuiet
set_option linter.unusedVariables false
set_option linter.unusedSimpArgs false
namespace Go.Proofs.YtdlmgkncneifaaaGreat.Fd
open Go.RowKit Go.Sort Lb
attribute [local go_sem] bs_size bs_toList bs_append bs_get bs_extract

set_option maxRecDepth 20000 in
set_option maxHeartbeats 1000000 in
/-- Targets that are right, compared; no draw is taken back. -/
theorem fcmpD_any (w : World) (va vb : Value) (a b : List Lab) (ha : readsLabels w w.heap.size va a) (hb : readsLabels w w.heap.size vb b) (hca : checkB a = 0) (hcb : checkB b = 0) :
    Calls Tryz.prog 50 #[.agg #[va], .agg #[vb]] w fun e w' => e = .returned (.int .i64 (ordB a b)) ∧ Ld.Below w.heap.size w w' := by
  obtain ⟨la, ia⟩ := lens_right hca
  obtain ⟨lb, ib⟩ := lens_right hcb
  obtain ⟨V1, e1, g1, b1⟩ := laid1 w #[va] 36
  obtain ⟨V2, e2, g2, b2⟩ := laid1 V1 #[vb] 36
  have g12 : Ld.Below w.heap.size w V2 := ⟨g1.trans g2, by rw [← e2, ← e1]; exact Nat.le_refl _⟩
  have HC := Ld.compare_any V2 va vb a b (readsLabels_mono (Ld.readsLabels_below ha g12) g12.size) (by omega) ia (readsLabels_mono (Ld.readsLabels_below hb g12) g12.size) (by omega) ib
  have e0 : cmpErr a b = 0 := by unfold cmpErr; rw [if_pos hca]; exact hcb
  unfold cmpAns at HC
  rw [if_pos e0, e0] at HC
  obtain ⟨ao, ac, rfl⟩ := readsLabels_len ha
  obtain ⟨bo, bc, rfl⟩ := readsLabels_len hb
  replace HC := hide HC
  generalize ordB a b = o at HC ⊢
  have c1 := cell_one (g2.get b1)
  have c2 := cell_one b2
  have HG := hide g12
  clear ha hb ia ib e0 b1 b2 g1 g2 g12
  go_enter Tryz.func50, Tryz.ntmps50
  go_wp2_with fail
  refine HC.out.mono ?_
  rintro e w2 ⟨rfl, hg⟩
  have HG2 : Hid (Ld.Below w.heap.size w w2) := hide (HG.out.trans (hg.mono HG.out.size))
  clear hg HC
  go_wp2
  go_ret
  exact ⟨rfl, HG2.out⟩

/-- A row of targets that a call owns, their labels, too. -/
def ownTgts (w : World) (B : Nat) (v : Value) (ps : List TP) : Prop := rowT w B v ps ∧ ∀ p ∈ ps, ownLabels w B p.2 p.1
theorem own_growF {w w' : World} {base e size n : Nat} {v : Value} {xs : List Value} (h : w.ownsRow base e size v n xs) (g : Grow w w') : w'.ownsRow base e size v n xs := own_keep h fun b hb => g.block b (h.lt b hb).2
theorem own_leF {w : World} {base base' e size n : Nat} {v : Value} {xs : List Value} (h : w.ownsRow base e size v n xs) (hb : base' ≤ base) : w.ownsRow base' e size v n xs := own_le h hb
theorem ownTgts.grow {w w' : World} {B : Nat} {v : Value} {ps : List TP} (h : ownTgts w B v ps) (g : Grow w w') : ownTgts w' B v ps := ⟨own_growF h.1 g, fun p hp => own_growF (h.2 p hp) g⟩
theorem ownTgts.le {w : World} {B B' : Nat} {v : Value} {ps : List TP} (h : ownTgts w B v ps) (hb : B' ≤ B) : ownTgts w B' v ps := ⟨own_leF h.1 hb, fun p hp => own_leF (h.2 p hp) hb⟩
theorem own_oneF {w : World} {base e size n : Nat} {v : Value} {xs : List Value} (h : w.ownsRow base e size v n xs) : v.oneCell' = true := by
  obtain ⟨ao, cp, rfl⟩ := own_shape h
  rfl
theorem ownTgts.one {w : World} {B : Nat} {v : Value} {ps : List TP} (h : ownTgts w B v ps) : ∀ u ∈ vals ps, u.oneCell' = true := by
  intro u hu
  obtain ⟨p, hp, rfl⟩ := List.mem_map.1 hu
  exact own_oneF (h.2 p hp)
theorem ownTgts.lab {w : World} {B : Nat} {v : Value} {ps : List TP} (h : ownTgts w B v ps) : ∀ p ∈ ps, readsLabels w w.heap.size p.2 p.1 := fun p hp => reads_ownLabels (h.2 p hp)
theorem ownTgts.reads {w : World} {B : Nat} {v : Value} {ps : List TP} (h : ownTgts w B v ps) : readsTgts w w.heap.size v (tgts ps) := h.1.reads h.lab
theorem heap_sortedG {α : Type} [Inhabited α] (enc : α → List Value) (kk : Nat) {w : World} {g n : Nat} {os : Array Obj} {cur : Array Value} {e : TypeId} {fr : Nat × Nat} (d : Array α) (hb : w.heap[g]? = some (.cells cur e fr)) :
    (sortWorldK enc kk w g 0 n d os).heap[g]? = some (.cells (putCells id 0 (flatK enc kk d) cur) e fr) := by
  have hg : g < w.heap.size := (Array.getElem?_eq_some_iff.1 hb).1
  unfold sortWorldK putRowK
  rw [heap_grow_old _ _ (by simpa using hg)]
  simp [putRow, mapBlock, Sort.ahead, Array.getElem?_modify, hb, onCells]
theorem grownBy_sortedG {α : Type} [Inhabited α] (enc : α → List Value) (kk : Nat) {w : World} {g n : Nat} {os : Array Obj} (d : Array α) : w.grownBy (sortWorldK enc kk w g 0 n d os) (some g) := by
  unfold sortWorldK putRowK
  refine ⟨rfl, rfl, rfl, by simp, fun k hk hne => ?_⟩
  rw [heap_grow_old _ _ (by simpa using hk)]
  have : g ≠ k := fun e => hne (by rw [e])
  simp [putRow, mapBlock, Sort.ahead, Array.getElem?_modify, this]
/-- Targets that are right, with the rows of their labels in a world. -/
abbrev TV (w : World) (B : Nat) := { p : TP // ownLabels w B p.2 p.1 ∧ checkB p.1 = 0 }
instance {w : World} {B : Nat} : Inhabited (TV w B) := ⟨⟨([], .slice none 0 0), World.ownsRow_nil _ _ _ _, rfl⟩⟩
def encT {w : World} {B : Nat} (x : TV w B) : List Value := [x.1.2]
def cfT {w : World} {B : Nat} (x y : TV w B) : Int := ordB x.1.1 y.1.1
theorem ltT {w : World} {B : Nat} (x y : TV w B) : ltOf cfT x y = decide (ordB x.1.1 y.1.1 < 0) := rfl
theorem swoT {w : World} {B : Nat} : SWO (ltOf (cfT (w := w) (B := B))) where
  irrefl x := by
    rw [ltT, decide_eq_false_iff_not]
    have := (ordB_zero (a := x.1.1) (b := x.1.1)).2 rfl
    omega
  trans x y z h1 h2 := by
    rw [ltT, decide_eq_true_eq] at *
    exact ordB_trans h1 h2
  ntrans x y z h1 h2 := by
    rw [ltT, decide_eq_false_iff_not] at *
    have n1 := ordB_neg x.1.1 y.1.1
    have n2 := ordB_neg y.1.1 z.1.1
    have n3 := ordB_neg x.1.1 z.1.1
    have := (ordB_order (a := z.1.1) (b := y.1.1) (c := x.1.1) (by omega) (by omega)).1
    omega
theorem flat_tgt {w : World} {B : Nat} (l : List (TV w B)) : (flatK encT 1 l.toArray).toList = l.map fun x => x.1.2 := by
  apply List.ext_getElem?
  intro t
  by_cases ht : t < l.length
  · have h1 := get_flatK encT 1 l.toArray t (by simpa using ht)
    have hs : t < (flatK encT 1 l.toArray).size := by rw [size_flatK]; simpa using ht
    rw [getElem!_pos _ t hs] at h1
    rw [Array.getElem?_toList, Array.getElem?_eq_getElem hs, h1]
    have hg : l.toArray[t / 1]? = some l[t] := by simp [ht]
    rw [List.getElem?_map, List.getElem?_eq_getElem ht]
    simp [encT, ht, Nat.mod_one]
  · rw [List.getElem?_eq_none (by rw [Array.length_toList, size_flatK]; simp; omega), List.getElem?_eq_none (by rw [List.length_map]; omega)]
theorem some_subtype {α : Type} {p : α → Prop} (l : List α) (h : ∀ x ∈ l, p x) : ∃ d : List { x // p x }, d.map (·.1) = l := by
  induction l with
  | nil => exact ⟨[], rfl⟩
  | cons x l ih =>
    obtain ⟨d, hd⟩ := ih fun y hy => h y (List.mem_cons_of_mem _ hy)
    exact ⟨⟨x, h x (by simp)⟩ :: d, by rw [List.map_cons, hd]⟩
set_option maxRecDepth 20000 in
set_option maxHeartbeats 1000000 in
/-- slices.SortFunc over a row of targets that the call owns. -/
theorem sortTgts_any (w : World) (B : Nat) (v : Value) (ps : List TP) (h : ownTgts w B v ps) (hr : ∀ p ∈ ps, checkB p.1 = 0) (hl : ps.length ≤ 1000) :
    Calls Tryz.prog 49 #[v, .func (.func 50) #[] #[]] w fun e w' => e = .returned (.tuple #[]) ∧ ∃ qs, ownTgts w' B v qs ∧ qs.Perm ps ∧ qs.Pairwise (fun p q => ordB p.1 q.1 ≤ 0) ∧ w.grownBy w' v.ownBlock := by
  rcases id h.1.2 with ⟨hv, h0⟩ | ⟨g, cap, cur, hv, h1, h2, h3, h4, h5, h6⟩
  · have hps : ps = [] := List.eq_nil_of_length_eq_zero h0
    subst hps hv
    refine (AnyF.slices_SortFunc_none Tryz.sortT none 0 _ w).mono ?_
    rintro e w' ⟨rfl, rfl⟩
    exact ⟨rfl, [], h, List.Perm.refl _, List.Pairwise.nil, ⟨rfl, rfl, rfl, Nat.le_refl _, fun _ _ _ => rfl⟩⟩
  · obtain ⟨d, hd⟩ := some_subtype (p := fun p : TP => ownLabels w B p.2 p.1 ∧ checkB p.1 = 0) ps fun p hp => ⟨h.2 p hp, hr p hp⟩
    have hdl : d.length = ps.length := by rw [← hd, List.length_map]
    have hvals : d.map (fun x => x.1.2) = vals ps := by unfold vals; rw [← hd, List.map_map]; rfl
    have eg : ∀ args w, (callFunc 50 args).run Tryz.prog w = .ok (.enter 50 args) w := enters_of Tryz.func50 (by kernel_rfl) rfl
    have hsz : d.toArray.size = ps.length := by simpa using hdl
    have hH : HoldsK encT 1 w g 0 d.toArray := by
      intro j hj
      rw [size_flatK] at hj
      have hj' : j < ps.length := by simpa [hdl] using hj
      have hs : j < (flatK encT 1 d.toArray).size := by rw [size_flatK]; exact hj
      refine ⟨?_, by simp [World.frozen?, h2]⟩
      have e1 : (cur.toList.take (ps.length * 1))[j]? = (flatK encT 1 d.toArray).toList[j]? := by rw [h6, flat_tgt, hvals]
      rw [List.getElem?_take_of_lt (by omega), Array.getElem?_toList, Array.getElem?_toList, Array.getElem?_eq_getElem hs] at e1
      rw [getElem!_pos _ j hs]
      simp only [World.cell?, h2, Nat.zero_add]
      simp only [Option.isSome_none, Bool.false_eq_true, if_false]
      exact e1
    have hstay : ∀ {W : World}, w.grownBy W (some g) → ∀ x : TV w B, ownLabels W B x.1.2 x.1.1 := fun hW x =>
      own_keep x.2.1 fun b hb => hW.block b ((x.2.1.lt b hb).2) (fun e => own_apart x.2.1 h2 (by decide) (by rw [hb, ← e]))
    have hcmp : CmpLays Tryz.prog 50 #[] encT 1 (cfT (w := w) (B := B)) g 0 d.toArray.size w := by
      intro m os dk hs x y
      have hW := grownBy_sortedG encT 1 (w := w) (g := g) (n := m) (os := os) dk
      have hx := hstay hW x
      have hy := hstay hW y
      refine (fcmpD_any _ x.1.2 y.1.2 x.1.1 y.1.1 (reads_ownLabels hx) (reads_ownLabels hy) x.2.2 y.2.2).mono ?_
      rintro e w' ⟨rfl, hb⟩
      exact ⟨rfl, hb.as_grow⟩
    have hcon := AnyQ.slices_SortFunc Tryz.sortT 1 Tryz.isAgg36 Tryz.sizeOf36 encT (fun _ => rfl) (fun x v hv => by simp [encT] at hv; subst hv; exact own_oneF x.2.1) cfT swoT 50 #[] g 0 cap d.toArray w eg hcmp hH (lt_of_block h2) (by rw [hsz]; omega)
    rw [hsz] at hcon
    subst hv
    refine Calls.mono hcon ?_
    rintro e w' ⟨rfl, d', n, os, hp, hs, rfl⟩
    have hds : d'.size = d.length := by have := hp.1; simpa using this
    have hpm : d'.toList.Perm d := by
      obtain ⟨hs1, _, hp1⟩ := hp
      rw [Array.extract_eq_self_of_le (by omega), Array.extract_eq_self_of_le (by rw [hsz]; omega)] at hp1
      exact hp1
    have hW := grownBy_sortedG encT 1 (w := w) (g := g) (n := n) (os := os) d'
    refine ⟨rfl, d'.toList.map (·.1), ⟨⟨by simp [vals], .inr ⟨g, cap, _, by simp [hds, hdl], h1, heap_sortedG encT 1 _ h2, by simpa [hds, hdl] using h3, h4, by simp [putCells, h5], ?_⟩⟩, ?_⟩, ?_, ?_, hW⟩
    · have hf : (flatK encT 1 d').size = ps.length := by rw [size_flatK, hds, hdl]; omega
      have ht := take_putL cur (flatK encT 1 d') (by rw [hf]; omega)
      rw [hf] at ht
      have hft := flat_tgt d'.toList
      simp only [Array.toArray_toList] at hft
      rw [show (List.map (fun x => x.1) d'.toList).length * 1 = ps.length by simp [hds, hdl], ht, hft]
      unfold vals
      rw [List.map_map]
      rfl
    · intro p hp
      obtain ⟨x, hx, rfl⟩ := List.mem_map.1 hp
      exact hstay hW x
    · rw [← hd]; exact hpm.map _
    · rw [List.pairwise_map, List.pairwise_iff_getElem]
      intro i j hi hj hij
      have hi' : i < d'.size := by simpa using hi
      have hj' : j < d'.size := by simpa using hj
      have e1 := hs i j (by omega) hij (by omega)
      rw [ltT, getElem!_pos _ i hi', getElem!_pos _ j hj', decide_eq_false_iff_not] at e1
      have n1 := ordB_neg d'[i].1.1 d'[j].1.1
      simp only [Array.getElem_toList]
      omega
end Go.Proofs.YtdlmgkncneifaaaGreat.Fd
