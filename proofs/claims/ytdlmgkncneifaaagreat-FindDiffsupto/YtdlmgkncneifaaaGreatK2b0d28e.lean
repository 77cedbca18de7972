/- 3 texts in one. -/
import Derived.Laws.OwnMore
import Derived.Test.YtdlmgkncneifaaaGreatProg
import Derived.Test.YtdlmgkncneifaaaGreatK77c7527
import Derived.Test.YtdlmgkncneifaaaGreatKa9a7a6f
import Derived.Test.YtdlmgkncneifaaaGreatK261a29d
import Derived.Test.YtdlmgkncneifaaaGreatKb2518a8
import Derived.Test.YtdlmgkncneifaaaGreatKde5c165
import Derived.Test.YtdlmgkncneifaaaGreatK101b007
import Derived.Test.YtdlmgkncneifaaaGreatKda5cde6
import Derived.Test.YtdlmgkncneifaaaGreatK8cdfdb4
import Derived.Sort.OwnSorted
import Derived.BigQuiet
import Derived.Deep.AppendLies
set_option linter.unusedVariables false
set_option linter.unusedSimpArgs false
namespace Go.Proofs.YtdlmgkncneifaaaGreat.Fd
open Go.RowKit Go.Sort Lb
attribute [local go_sem] bs_size bs_toList bs_append bs_get bs_extract
set_option maxRecDepth 20000 in
set_option maxHeartbeats 1000000 in
/-- Targets that are right, compared; no draw is taken back. -/
theorem fcmpD_any (w : World) (va vb : Value) (a b : List Lab) (ha : readsLabels w w.heap.size va a) (hb : readsLabels w w.heap.size vb b) (hca : checkB a = 0) (hcb : checkB b = 0) :
    Calls Tryz.prog 50 #[.agg #[va], .agg #[vb]] w fun e w' => e = .returned (.int .i64 (ordB a b)) ∧ Ld.Below w.heap.size w w' := by
  obtain ⟨la, ia⟩ := lens_right hca
  obtain ⟨lb, ib⟩ := lens_right hcb
  obtain ⟨V1, e1, g1, b1⟩ := laid1 w #[va] 36
  obtain ⟨V2, e2, g2, b2⟩ := laid1 V1 #[vb] 36
  have g12 : Ld.Below w.heap.size w V2 := ⟨g1.trans g2, by rw [← e2, ← e1]; exact Nat.le_refl _⟩
  have HC := Ld.compare_any V2 va vb a b (readsLabels_mono (Ld.readsLabels_below ha g12) g12.size) (by omega) ia (readsLabels_mono (Ld.readsLabels_below hb g12) g12.size) (by omega) ib
  have e0 : cmpErr a b = 0 := by unfold cmpErr; rw [if_pos hca]; exact hcb
  unfold cmpAns at HC
  rw [if_pos e0, e0] at HC
  obtain ⟨ao, ac, rfl⟩ := readsLabels_len ha
  obtain ⟨bo, bc, rfl⟩ := readsLabels_len hb
  replace HC := hide HC
  generalize ordB a b = o at HC ⊢
  have c1 := cell_one (g2.get b1)
  have c2 := cell_one b2
  have HG := hide g12
  clear ha hb ia ib e0 b1 b2 g1 g2 g12
  go_enter Tryz.func50, Tryz.ntmps50
  go_wp2_with fail
  refine HC.out.mono ?_
  rintro e w2 ⟨rfl, hg⟩
  have HG2 : Hid (Ld.Below w.heap.size w w2) := hide (HG.out.trans (hg.mono HG.out.size))
  clear hg HC
  go_wp2
  go_ret
  exact ⟨rfl, HG2.out⟩
/-- A row of targets that a call owns, their labels, too. -/
def ownTgts (w : World) (B : Nat) (v : Value) (ps : List TP) : Prop := rowT w B v ps ∧ ∀ p ∈ ps, ownLabels w B p.2 p.1
theorem own_growF {w w' : World} {base e size n : Nat} {v : Value} {xs : List Value} (h : w.ownsRow base e size v n xs) (g : Grow w w') : w'.ownsRow base e size v n xs := own_keep h fun b hb => g.block b (h.lt b hb).2
theorem own_leF {w : World} {base base' e size n : Nat} {v : Value} {xs : List Value} (h : w.ownsRow base e size v n xs) (hb : base' ≤ base) : w.ownsRow base' e size v n xs := own_le h hb
theorem ownTgts.grow {w w' : World} {B : Nat} {v : Value} {ps : List TP} (h : ownTgts w B v ps) (g : Grow w w') : ownTgts w' B v ps := ⟨own_growF h.1 g, fun p hp => own_growF (h.2 p hp) g⟩
theorem own_oneF {w : World} {base e size n : Nat} {v : Value} {xs : List Value} (h : w.ownsRow base e size v n xs) : v.oneCell' = true := by
  obtain ⟨ao, cp, rfl⟩ := own_shape h
  rfl
theorem ownTgts.lab {w : World} {B : Nat} {v : Value} {ps : List TP} (h : ownTgts w B v ps) : ∀ p ∈ ps, readsLabels w w.heap.size p.2 p.1 := fun p hp => reads_ownLabels (h.2 p hp)
theorem ownTgts.reads {w : World} {B : Nat} {v : Value} {ps : List TP} (h : ownTgts w B v ps) : readsTgts w w.heap.size v (tgts ps) := h.1.reads h.lab
theorem heap_sortedG {α : Type} [Inhabited α] (enc : α → List Value) (kk : Nat) {w : World} {g n : Nat} {os : Array Obj} {cur : Array Value} {e : TypeId} {fr : Nat × Nat} (d : Array α) (hb : w.heap[g]? = some (.cells cur e fr)) :
    (sortWorldK enc kk w g 0 n d os).heap[g]? = some (.cells (putCells id 0 (flatK enc kk d) cur) e fr) := by
  have hg : g < w.heap.size := (Array.getElem?_eq_some_iff.1 hb).1
  unfold sortWorldK putRowK
  rw [heap_grow_old _ _ (by simpa using hg)]
  simp [putRow, mapBlock, Sort.ahead, Array.getElem?_modify, hb, onCells]
theorem grownBy_sortedG {α : Type} [Inhabited α] (enc : α → List Value) (kk : Nat) {w : World} {g n : Nat} {os : Array Obj} (d : Array α) : w.grownBy (sortWorldK enc kk w g 0 n d os) (some g) := by
  unfold sortWorldK putRowK
  refine ⟨rfl, rfl, rfl, by simp, fun k hk hne => ?_⟩
  rw [heap_grow_old _ _ (by simpa using hk)]
  have : g ≠ k := fun e => hne (by rw [e])
  simp [putRow, mapBlock, Sort.ahead, Array.getElem?_modify, this]
/-- Targets that are right, with the rows of their labels in a world. -/
abbrev TV (w : World) (B : Nat) := { p : TP // ownLabels w B p.2 p.1 ∧ checkB p.1 = 0 }
instance {w : World} {B : Nat} : Inhabited (TV w B) := ⟨⟨([], .slice none 0 0), World.ownsRow_nil _ _ _ _, rfl⟩⟩
def encT {w : World} {B : Nat} (x : TV w B) : List Value := [x.1.2]
def cfT {w : World} {B : Nat} (x y : TV w B) : Int := ordB x.1.1 y.1.1
theorem ltT {w : World} {B : Nat} (x y : TV w B) : ltOf cfT x y = decide (ordB x.1.1 y.1.1 < 0) := rfl
theorem swoT {w : World} {B : Nat} : SWO (ltOf (cfT (w := w) (B := B))) where
  irrefl x := by
    rw [ltT, decide_eq_false_iff_not]
    have := (ordB_zero (a := x.1.1) (b := x.1.1)).2 rfl
    omega
  trans x y z h1 h2 := by
    rw [ltT, decide_eq_true_eq] at *
    exact ordB_trans h1 h2
  ntrans x y z h1 h2 := by
    rw [ltT, decide_eq_false_iff_not] at *
    have n1 := ordB_neg x.1.1 y.1.1
    have n2 := ordB_neg y.1.1 z.1.1
    have n3 := ordB_neg x.1.1 z.1.1
    have := (ordB_order (a := z.1.1) (b := y.1.1) (c := x.1.1) (by omega) (by omega)).1
    omega
theorem flat_tgt {w : World} {B : Nat} (l : List (TV w B)) : (flatK encT 1 l.toArray).toList = l.map fun x => x.1.2 := by
  apply List.ext_getElem?
  intro t
  by_cases ht : t < l.length
  · have h1 := get_flatK encT 1 l.toArray t (by simpa using ht)
    have hs : t < (flatK encT 1 l.toArray).size := by rw [size_flatK]; simpa using ht
    rw [getElem!_pos _ t hs] at h1
    rw [Array.getElem?_toList, Array.getElem?_eq_getElem hs, h1]
    have hg : l.toArray[t / 1]? = some l[t] := by simp [ht]
    rw [List.getElem?_map, List.getElem?_eq_getElem ht]
    simp [encT, ht, Nat.mod_one]
  · rw [List.getElem?_eq_none (by rw [Array.length_toList, size_flatK]; simp; omega), List.getElem?_eq_none (by rw [List.length_map]; omega)]
theorem some_subtype {α : Type} {p : α → Prop} (l : List α) (h : ∀ x ∈ l, p x) : ∃ d : List { x // p x }, d.map (·.1) = l := by
  induction l with
  | nil => exact ⟨[], rfl⟩
  | cons x l ih =>
    obtain ⟨d, hd⟩ := ih fun y hy => h y (List.mem_cons_of_mem _ hy)
    exact ⟨⟨x, h x (by simp)⟩ :: d, by rw [List.map_cons, hd]⟩
set_option maxRecDepth 20000 in
set_option maxHeartbeats 1000000 in
/-- slices.SortFunc over a row of targets that the call owns. -/
theorem sortTgts_any (w : World) (B : Nat) (v : Value) (ps : List TP) (h : ownTgts w B v ps) (hr : ∀ p ∈ ps, checkB p.1 = 0) (hl : ps.length ≤ 1000) :
    Calls Tryz.prog 49 #[v, .func (.func 50) #[] #[]] w fun e w' => e = .returned (.tuple #[]) ∧ ∃ qs, ownTgts w' B v qs ∧ qs.Perm ps ∧ qs.Pairwise (fun p q => ordB p.1 q.1 ≤ 0) ∧ w.grownBy w' v.ownBlock := by
  rcases id h.1.2 with ⟨hv, h0⟩ | ⟨g, cap, cur, hv, h1, h2, h3, h4, h5, h6⟩
  · have hps : ps = [] := List.eq_nil_of_length_eq_zero h0
    subst hps hv
    refine (AnyF.slices_SortFunc_none Tryz.sortT none 0 _ w).mono ?_
    rintro e w' ⟨rfl, rfl⟩
    exact ⟨rfl, [], h, List.Perm.refl _, List.Pairwise.nil, ⟨rfl, rfl, rfl, Nat.le_refl _, fun _ _ _ => rfl⟩⟩
  · obtain ⟨d, hd⟩ := some_subtype (p := fun p : TP => ownLabels w B p.2 p.1 ∧ checkB p.1 = 0) ps fun p hp => ⟨h.2 p hp, hr p hp⟩
    have hdl : d.length = ps.length := by rw [← hd, List.length_map]
    have hvals : d.map (fun x => x.1.2) = vals ps := by unfold vals; rw [← hd, List.map_map]; rfl
    have eg : ∀ args w, (callFunc 50 args).run Tryz.prog w = .ok (.enter 50 args) w := enters_of Tryz.func50 (by kernel_rfl) rfl
    have hsz : d.toArray.size = ps.length := by simpa using hdl
    have hH : HoldsK encT 1 w g 0 d.toArray := by
      intro j hj
      rw [size_flatK] at hj
      have hj' : j < ps.length := by simpa [hdl] using hj
      have hs : j < (flatK encT 1 d.toArray).size := by rw [size_flatK]; exact hj
      refine ⟨?_, by simp [World.frozen?, h2]⟩
      have e1 : (cur.toList.take (ps.length * 1))[j]? = (flatK encT 1 d.toArray).toList[j]? := by rw [h6, flat_tgt, hvals]
      rw [List.getElem?_take_of_lt (by omega), Array.getElem?_toList, Array.getElem?_toList, Array.getElem?_eq_getElem hs] at e1
      rw [getElem!_pos _ j hs]
      simp only [World.cell?, h2, Nat.zero_add]
      simp only [Option.isSome_none, Bool.false_eq_true, if_false]
      exact e1
    have hstay : ∀ {W : World}, w.grownBy W (some g) → ∀ x : TV w B, ownLabels W B x.1.2 x.1.1 := fun hW x =>
      own_keep x.2.1 fun b hb => hW.block b ((x.2.1.lt b hb).2) (fun e => own_apart x.2.1 h2 (by decide) (by rw [hb, ← e]))
    have hcmp : CmpLays Tryz.prog 50 #[] encT 1 (cfT (w := w) (B := B)) g 0 d.toArray.size w := by
      intro m os dk hs x y
      have hW := grownBy_sortedG encT 1 (w := w) (g := g) (n := m) (os := os) dk
      have hx := hstay hW x
      have hy := hstay hW y
      refine (fcmpD_any _ x.1.2 y.1.2 x.1.1 y.1.1 (reads_ownLabels hx) (reads_ownLabels hy) x.2.2 y.2.2).mono ?_
      rintro e w' ⟨rfl, hb⟩
      exact ⟨rfl, hb.as_grow⟩
    have hcon := AnyQ.slices_SortFunc Tryz.sortT 1 Tryz.isAgg36 Tryz.sizeOf36 encT (fun _ => rfl) (fun x v hv => by simp [encT] at hv; subst hv; exact own_oneF x.2.1) cfT swoT 50 #[] g 0 cap d.toArray w eg hcmp hH (lt_of_block h2) (by rw [hsz]; omega)
    rw [hsz] at hcon
    subst hv
    refine Calls.mono hcon ?_
    rintro e w' ⟨rfl, d', n, os, hp, hs, rfl⟩
    have hds : d'.size = d.length := by have := hp.1; simpa using this
    have hpm : d'.toList.Perm d := by
      obtain ⟨hs1, _, hp1⟩ := hp
      rw [Array.extract_eq_self_of_le (by omega), Array.extract_eq_self_of_le (by rw [hsz]; omega)] at hp1
      exact hp1
    have hW := grownBy_sortedG encT 1 (w := w) (g := g) (n := n) (os := os) d'
    refine ⟨rfl, d'.toList.map (·.1), ⟨⟨by simp [vals], .inr ⟨g, cap, _, by simp [hds, hdl], h1, heap_sortedG encT 1 _ h2, by simpa [hds, hdl] using h3, h4, by simp [putCells, h5], ?_⟩⟩, ?_⟩, ?_, ?_, hW⟩
    · have hf : (flatK encT 1 d').size = ps.length := by rw [size_flatK, hds, hdl]; omega
      have ht := take_putL cur (flatK encT 1 d') (by rw [hf]; omega)
      rw [hf] at ht
      have hft := flat_tgt d'.toList
      simp only [Array.toArray_toList] at hft
      rw [show (List.map (fun x => x.1) d'.toList).length * 1 = ps.length by simp [hds, hdl], ht, hft]
      unfold vals
      rw [List.map_map]
      rfl
    · intro p hp
      obtain ⟨x, hx, rfl⟩ := List.mem_map.1 hp
      exact hstay hW x
    · rw [← hd]; exact hpm.map _
    · rw [List.pairwise_map, List.pairwise_iff_getElem]
      intro i j hi hj hij
      have hi' : i < d'.size := by simpa using hi
      have hj' : j < d'.size := by simpa using hj
      have e1 := hs i j (by omega) hij (by omega)
      rw [ltT, getElem!_pos _ i hi', getElem!_pos _ j hj', decide_eq_false_iff_not] at e1
      have n1 := ordB_neg d'[i].1.1 d'[j].1.1
      simp only [Array.getElem_toList]
      omega
end Go.Proofs.YtdlmgkncneifaaaGreat.Fd
namespace Go.Proofs.YtdlmgkncneifaaaGreat.Fd
open Go.RowKit Lb
attribute [local go_sem] bs_size bs_toList bs_append bs_get bs_extract
/-- Labels that are right are their own copy. -/
theorem make_ownF {ls : List Lab} (h : checkB ls = 0) : makeErr ls = 0 ∧ makeAns ls = ls := by
  obtain ⟨h1, h2, h3⟩ : eachErr 1 ls = 0 ∧ twiceB ls = false ∧ riseB ls = true := by
    unfold checkB at h
    split at h
    · rename_i h1
      split at h
      · rename_i h2
        split at h
        · rename_i h3; exact ⟨h1, h2, h3⟩
        · cases h
      · cases h
    · rename_i h1; exact absurd h h1
  obtain ⟨hl, hx⟩ := eachErr_zero.1 h1
  have h0 : makeErr ls = 0 := by
    unfold makeErr
    rw [if_pos (eachErr_zero.2 ⟨hl, fun x hm => by have := hx x hm; exact ⟨this.1, by omega, this.2.2⟩⟩), if_pos h2]
  refine ⟨h0, ?_⟩
  rw [makeAns_ok h0]
  refine (makeL_uniq h2 (rise_iff.2 h3) fun y => ⟨fun hy => ⟨hy, fun e => ?_⟩, fun hy => hy.1⟩).symm
  have := (hx y hy).2.1
  rw [e] at this
  simp at this
set_option maxRecDepth 20000 in
set_option maxHeartbeats 1200000 in
theorem fsorted_any (w : World) (v : Value) (l : List Tgt) (hv : readsTgts w w.heap.size v l) (hlen : l.length ≤ 1000) (hok : ∀ s ∈ l, checkB s = 0) :
    Calls Tryz.prog 30 #[v] w fun e w' => ∃ v' qs, e = .returned v' ∧ ownTgts w' w.heap.size v' qs ∧ (tgts qs).Perm l ∧ (tgts qs).Pairwise (fun p q => ordB p q ≤ 0) ∧ Grow w w' := by
  obtain ⟨i0, hi0, hz0, hz1, hz2⟩ := info_parts infoTgt
  obtain ⟨ao, cp, hvv, -, hcells⟩ := id hv
  subst hvv
  have HOK := hide hok
  clear hv hok
  go_enter Tryz.func30, Tryz.ntmps30
  go_wp2
  go_loopw [3, 10] (fun sv iv wr => ∃ (k : Nat) (ps : List TP), k ≤ l.length ∧ iv = .int .i64 k ∧ Hid (ownTgts wr w.heap.size sv ps) ∧ Hid (tgts ps = l.take k) ∧ Hid (Grow w wr)) (fun _ iv _ => l.length - (intOf iv).toNat)
  case atStart => exact ⟨0, [], by omega, rfl, hide ⟨World.ownsRow_nil _ _ _ _, fun p hp => by simp at hp⟩, hide rfl, hide (Grow.refl _)⟩
  case round =>
    obtain ⟨k, ps, hkk, rfl, HOW, HPS, HGr⟩ := hrel
    obtain ⟨so, sc, hsv⟩ := own_shape HOW.out.1
    subst hsv
    have hpl : ps.length = k := by
      have := congrArg List.length HPS.out
      simp [tgts] at this
      omega
    by_cases hlt : k < l.length
    · have hlti : (k : Int) < (l.length : Int) := by omega
      obtain ⟨rb, rf, xa, rfl, hrB, ha, a0⟩ := hcells k hlt
      have c0 := (HGr.out.cell (p := ⟨rb, rf + k, none⟩) hrB).trans a0
      obtain ⟨x, HX⟩ : ∃ x : Tgt, Hid (l[k] = x) := ⟨_, hide rfl⟩
      have hokx := HOK.out _ (List.getElem_mem hlt)
      rw [HX.out] at ha hokx
      obtain ⟨xo, xc, hxa⟩ := readsLabels_len ha
      obtain ⟨V, eV, gV, hV⟩ := laid1 wr #[xa] 36
      have hgV : Grow w V := HGr.out.trans gV
      obtain ⟨hlx, hix⟩ := lens_right hokx
      obtain ⟨hm0, hm1⟩ := make_ownF hokx
      have HMK := make_any V xa x (readsLabels_mono (readsLabels_below ha hgV) hgV.size) (by omega) hix
      rw [hm0, hm1] at HMK
      replace HMK := hide HMK
      have HVV := hide hV
      have HGV := hide hgV
      have HgV := hide gV
      have d0 := cell_one hV
      subst hxa
      generalize hn1 : x.length = n1 at *
      clear ha a0 hcells gV hV hgV hokx hlx hix hm0 hm1
      go_wp2_with fail
      refine HMK.out.mono ?_
      rintro e w6 ⟨mv, rfl, hml, hg6⟩
      obtain ⟨mo, mc, hmv⟩ := own_shape hml
      rw [hn1] at hmv
      subst hmv
      have HML := hide hml
      have HG6 : Hid (Grow V w6) := hide hg6
      clear hml hg6 HMK d0 c0 eV
      obtain ⟨W7, e7, g7, b7⟩ := laid1 w6 #[.slice mo n1 mc] 36
      have hgr7 : Grow wr W7 := HgV.out.trans (HG6.out.trans g7)
      have HO7 : Hid (ownTgts W7 w.heap.size (.slice so ps.length sc) ps) := hide (HOW.out.grow hgr7)
      have hVs : wr.heap.size ≤ V.heap.size := HgV.out.size
      have hws : w.heap.size ≤ wr.heap.size := HGr.out.size
      have HL7 : Hid (ownLabels W7 w.heap.size (.slice mo n1 mc) x) := hide (own_leF (own_growF HML.out g7) (by omega))
      have HR7 : Hid (W7.ownsRow w.heap.size 36 1 (.slice so k sc) k (vals ps)) := hide (by have := HO7.out.1; unfold rowT at this; rw [hpl] at this; exact this)
      have HB7 := hide b7
      have HBW : Hid (Below w.heap.size w W7) := hide (HGr.out.trans hgr7)
      have hs7 : w.heap.size ≤ W7.heap.size := HBW.out.size
      clear g7 b7 hgr7
      go_wp2_with (at_builtin; refine wpList_append_own _ rfl _ _ 22 rfl w.heap.size 36 i0 _ 1 24 Tryz.underlying22 hi0 hz0 hz1 hz2 rfl (by decide) _ k (vals ps) rfl HR7.out ⟨w6.heap.size, 0, none⟩ 1 1 [.slice mo n1 mc] rfl rfl (World.news_of_block HB7.out) (by simp [Value.oneCell']) (by unfold maxLen; omega) (by omega) hs7 ?_)
      intro v' w8 hown' hgrow _
      have hbel : Below w.heap.size W7 w8 := (Below.refl _ _).grown hgrow hs7 (fun q hq => (HR7.out.lt q hq).1)
      have HB8 : Hid (Below w.heap.size w w8) := hide (HBW.out.trans hbel)
      have HN8 : Hid (ownTgts w8 w.heap.size v' (ps ++ [(x, .slice mo n1 mc)])) := hide (by
        have far : ∀ {u : Value} {ls : List Lab}, ownLabels W7 w.heap.size u ls → ownLabels w8 w.heap.size u ls := fun {u ls} q => by
          rcases HR7.out.2 with ⟨r1, _⟩ | ⟨g, cap, cur, r1, _, r3, _⟩
          · exact own_keep q fun b hb => hgrow.block b (q.lt b hb).2 (fun e => by rw [r1] at e; simp [Value.ownBlock] at e)
          · exact own_keep q fun b hb => hgrow.block b (q.lt b hb).2 (fun e => own_apart q r3 (by decide) (by rw [hb, e, r1]; rfl))
        refine ⟨?_, fun p hp => ?_⟩
        · unfold rowT
          rw [List.length_append, hpl, vals_append]
          exact hown'
        · rcases List.mem_append.1 hp with hp | hp
          · exact far (HO7.out.2 p hp)
          · simp only [List.mem_singleton] at hp
            subst hp
            exact far HL7.out)
      clear hown' hgrow hbel
      go_wp2
      go_roundw
      case rel =>
        refine ⟨k + 1, _, by omega, by go_num, HN8, hide ?_, HB8⟩
        rw [tgts_append, HPS.out, List.take_succ_eq_append_getElem hlt, HX.out]
        rfl
      case measure => simp [intOf]; omega
    · obtain rfl : k = l.length := by omega
      have hpr : ∀ p ∈ ps, checkB p.1 = 0 := fun p hp => by
        have h1 : p.1 ∈ tgts ps := List.mem_map.2 ⟨p, hp, rfl⟩
        rw [HPS.out, List.take_length] at h1
        exact HOK.out _ h1
      have HS := hide (sortTgts_any wr w.heap.size _ ps HOW.out hpr (by omega))
      have hbs : ∀ q, (Value.slice so ps.length sc).ownBlock = some q → w.heap.size ≤ q := fun q hq => (HOW.out.1.lt q hq).1
      have HBS := hide hbs
      clear hpr hbs hcells
      rw [hpl] at HS HBS ⊢
      go_wp2_with fail
      refine HS.out.mono ?_
      rintro e w5 ⟨rfl, qs, hq1, hq2, hq3, hq4⟩
      have HQ1 := hide hq1
      have HQ2 := hide hq2
      have HQ3 := hide hq3
      have HG5 : Hid (Grow w w5) := hide (Below.grown HGr.out hq4 HGr.out.size HBS.out)
      clear hq1 hq2 hq3 hq4
      go_wp2
      go_ret
      refine ⟨_, qs, rfl, HQ1.out, ?_, ?_, HG5.out⟩
      · have := HQ2.out.map (·.1)
        rw [show List.map (·.1) ps = l from by have h := HPS.out; rw [List.take_length] at h; exact h] at this
        exact this
      · unfold tgts; rw [List.pairwise_map]; exact HQ3.out
/-- These targets in their order: they are all there is of them. -/
def isSorted (l q : List Tgt) : Prop := q.Perm l ∧ q.Pairwise (fun a b => ordB a b ≤ 0)
theorem sorted_uniq {l q r : List Tgt} (h : isSorted l q) (k : isSorted l r) : q = r := by
  have hp : q.Perm r := h.1.trans k.1.symm
  refine hp.eq_of_pairwise (le := fun a b => ordB a b ≤ 0) (fun a b _ _ h1 h2 => ?_) h.2 k.2
  have := ordB_neg a b
  exact ordB_zero.1 (by omega)
theorem listsErr_two_zero {a b : List Tgt} (h : listsErr [a, b] = 0) : a.length ≤ 100 ∧ b.length ≤ 100 ∧ (∀ x ∈ a, checkB x = 0) ∧ (∀ x ∈ b, checkB x = 0) := by
  unfold listsErr manyLL at h
  split at h
  · cases h
  · rename_i hm
    simp at hm
    have key : ∀ {l : List Tgt}, firstT l = 0 → ∀ x ∈ l, checkB x = 0 := by
      intro l
      induction l with
      | nil => intro _ x hx; simp at hx
      | cons y l ih =>
        intro h x hx
        unfold firstT at h
        split at h
        · rename_i h0
          rcases List.mem_cons.1 hx with rfl | hx
          · exact h0
          · exact ih h x hx
        · rename_i h0; exact absurd h h0
    unfold firstLL at h
    split at h
    · rename_i h0
      unfold firstLL at h
      split at h
      · rename_i h1; exact ⟨hm.1, hm.2, key h0, key h1⟩
      · rename_i h1; exact absurd h h1
    · rename_i h0; exact absurd h h0
theorem sameNext_iff {l q : List Tgt} (h : isSorted l q) : sameNext q = true ↔ ¬ l.Nodup := by
  rw [← h.1.nodup_iff]
  constructor
  · intro hs hn
    unfold sameNext at hs
    obtain ⟨j, hj, he⟩ := List.any_eq_true.1 hs
    have hj' := List.mem_range.1 hj
    rw [getD_at (show j < q.length by omega), getD_at (show j + 1 < q.length by omega)] at he
    have he := ordB_zero.1 (of_decide_eq_true he)
    exact List.pairwise_iff_getElem.1 hn j (j + 1) (by omega) (by omega) (by omega) he
  · intro hn
    cases hs : sameNext q with
    | true => rfl
    | false =>
      exfalso
      apply hn
      have hne : ∀ j (hj : j + 1 < q.length), ordB q[j] q[j + 1] < 0 := fun j hj => by
        have h1 := List.pairwise_iff_getElem.1 h.2 j (j + 1) (by omega) hj (by omega)
        have h2 : ordB q[j] q[j + 1] ≠ 0 := fun e => by rw [sameNext_yes hj e] at hs; cases hs
        omega
      have up : ∀ j i (hi : i < q.length) (hji : j < i), ordB (q[j]'(by omega)) q[i] < 0 := by
        intro j i
        induction i with
        | zero => intro _ h; omega
        | succ i ih =>
          intro hi hji
          by_cases e : j = i
          · subst e; exact hne j hi
          · exact ordB_trans (ih (by omega) (by omega)) (hne i hi)
      show q.Pairwise (· ≠ ·)
      rw [List.pairwise_iff_getElem]
      intro i j hi hj hij e
      have := up i j hj hij
      rw [e] at this
      have := ordB_zero.2 (rfl : q[j] = q[j])
      omega
/-- What Diff's error is. -/
def diffErr (a b : List Tgt) : Nat := if listsErr [a, b] = 0 then (if a.Nodup ∧ b.Nodup then 0 else 6) else listsErr [a, b]
/-- What Diff comes to. -/
def diffPost (a b : List Tgt) (w : World) (e : Ending) (w' : World) : Prop := Grow w w' ∧ ∃ v1 v2 v3 d, e = .returned (.tuple #[v1, v2, v3, .int .i64 (diffErr a b)]) ∧ readsTgts w' w'.heap.size v1 d.1 ∧ readsTgts w' w'.heap.size v2 d.2.1 ∧ readsTgts w' w'.heap.size v3 d.2.2 ∧ (if diffErr a b = 0 then ∃ qa qb, isSorted a qa ∧ isSorted b qb ∧ d = partT qa qb else d = ([], [], []))
theorem readsTgts_nil (w : World) (B : Nat) : readsTgts w B (.slice none 0 0) [] := ⟨none, 0, rfl, Nat.le_refl _, fun i h => absurd h (by simp)⟩
theorem diff_no {a b : List Tgt} {w w' : World} (h : diffErr a b ≠ 0) (g : Grow w w') : diffPost a b w (.returned (.tuple #[.slice none 0 0, .slice none 0 0, .slice none 0 0, .int .i64 (diffErr a b)])) w' :=
  ⟨g, _, _, _, ([], [], []), rfl, readsTgts_nil _ _, readsTgts_nil _ _, readsTgts_nil _ _, by rw [if_neg h]⟩
set_option maxRecDepth 20000 in
set_option maxHeartbeats 1200000 in
theorem diff_any (w : World) (va vb : Value) (a b : List Tgt) (ha : readsTgts w w.heap.size va a) (hb : readsTgts w w.heap.size vb b) (oa : okTgts a) (ob : okTgts b) :
    Calls Tryz.prog 9 #[va, vb] w (diffPost a b w) := by
  obtain ⟨ao, ac, hva⟩ := ha.shape
  obtain ⟨bo, bc, hvb⟩ := hb.shape
  obtain ⟨V, HV⟩ : ∃ V, Hid (w.alloc (.cells #[va, vb] 22) = V) := ⟨_, hide rfl⟩
  have hgV : Grow w V := by rw [← HV.out]; exact (Grow.refl w).alloc _
  have hbV : V.heap[w.heap.size]? = some (.cells #[va, vb] 22 (0, 0)) := by rw [← HV.out]; exact heap_alloc_new _ _
  obtain ⟨q0, q1⟩ := two_cells hbV
  have HCL := hide (checkLists_any V (.slice (some ⟨w.heap.size, 0, none⟩) 2 2) [a, b] ⟨w.heap.size, 2, rfl, lt_of_block hbV, fun i hi => by
    match i, hi with
    | 0, _ => exact ⟨va, q0, (ha.keep hgV).more hgV.size⟩
    | 1, _ => exact ⟨vb, q1, (hb.keep hgV).more hgV.size⟩⟩ (by simp) (by
    intro x hx
    simp only [List.mem_cons, List.not_mem_nil, or_false] at hx
    rcases hx with rfl | rfl
    · exact oa
    · exact ob))
  have HA := hide ha
  have HB := hide hb
  have HGV := hide hgV
  clear ha hb q0 q1 hbV hgV oa ob
  subst hva hvb
  by_cases h0 : listsErr [a, b] = 0
  · obtain ⟨l1, l2, h1, h2⟩ := listsErr_two_zero h0
    have HE : Hid (diffErr a b = if a.Nodup ∧ b.Nodup then 0 else 6) := hide (by unfold diffErr; rw [if_pos h0])
    have H1 := hide h1
    have H2 := hide h2
    rw [h0] at HCL
    clear h0 h1 h2
    go_enter Tryz.func9, Tryz.ntmps9
    go_wp2_with fail
    rw [HV.out]
    refine HCL.out.mono ?_
    rintro e w1 ⟨rfl, hg1⟩
    have HG1 : Hid (Grow w w1) := hide (HGV.out.trans hg1)
    have S1 := hide (fsorted_any w1 _ a ((HA.out.keep HG1.out).more HG1.out.size) (by omega) H1.out)
    clear hg1 HCL
    go_wp2_with fail
    refine S1.out.mono ?_
    rintro e w2 ⟨xa, qa, rfl, ho1, hp1, hs1, hg2⟩
    have HO1 := hide ho1
    have HI1 : Hid (isSorted a (tgts qa)) := hide ⟨hp1, hs1⟩
    have HG2 : Hid (Grow w w2) := hide (HG1.out.trans hg2)
    have S2 := hide (fsorted_any w2 _ b ((HB.out.keep HG2.out).more HG2.out.size) (by omega) H2.out)
    clear ho1 hp1 hs1 hg2 S1
    go_wp2_with fail
    refine S2.out.mono ?_
    rintro e w3 ⟨xb, qb, rfl, ho2, hp2, hs2, hg3⟩
    have HO2 := hide ho2
    have HI2 : Hid (isSorted b (tgts qb)) := hide ⟨hp2, hs2⟩
    have HG3 : Hid (Grow w w3) := hide (HG2.out.trans hg3)
    have HO1' := hide (HO1.out.grow hg3)
    clear ho2 hp2 hs2 hg3 S2
    have c1 : Hid (∀ p ∈ qa, checkB p.1 = 0) := hide fun p hp => H1.out _ (HI1.out.1.mem_iff.1 (List.mem_map.2 ⟨p, hp, rfl⟩))
    have c2 : Hid (∀ p ∈ qb, checkB p.1 = 0) := hide fun p hp => H2.out _ (HI2.out.1.mem_iff.1 (List.mem_map.2 ⟨p, hp, rfl⟩))
    have n1 : qa.length ≤ 100 := by have := HI1.out.1.length_eq; rw [tgts_length] at this; omega
    have n2 : qb.length ≤ 100 := by have := HI2.out.1.length_eq; rw [tgts_length] at this; omega
    have k1 : ∀ x ∈ tgts qa, checkB x = 0 := fun x hx => H1.out _ (HI1.out.1.mem_iff.1 hx)
    have k2 : ∀ x ∈ tgts qb, checkB x = 0 := fun x hx => H2.out _ (HI2.out.1.mem_iff.1 hx)
    have T1 := hide (ftwice_any w3 xa (tgts qa) HO1'.out.reads (by rw [tgts_length]; omega) k1)
    have K2 := hide k2
    obtain ⟨so, sc, hxa⟩ := own_shape HO1'.out.1
    obtain ⟨uo, uc, hxb⟩ := own_shape HO2.out.1
    clear k1 k2
    subst hxa hxb
    cases t1 : sameNext (tgts qa) with
    | true =>
      have hE : diffErr a b = 6 := by rw [HE.out, if_neg (fun h => (sameNext_iff HI1.out).1 t1 h.1)]
      rw [t1] at T1
      have HE6 := hide hE
      clear t1 hE
      go_wp2_with fail
      refine T1.out.mono ?_
      rintro e w4 ⟨rfl, hg4⟩
      have HG4 := hide (HG3.out.trans hg4)
      clear hg4 T1
      go_wp2
      have := diff_no (a := a) (b := b) (w := w) (by rw [HE6.out]; decide) HG4.out
      rw [HE6.out] at this
      refine bodyPost_ret (v := .tuple #[.slice none 0 0, .slice none 0 0, .slice none 0 0, .int .i64 6]) (by simp [results, Tryz.results9, go_sem]) rfl ?_
      exact this
    | false =>
      rw [t1] at T1
      have HT1 := hide t1
      clear t1
      go_wp2_with fail
      refine T1.out.mono ?_
      rintro e w4 ⟨rfl, hg4⟩
      have HG4 := hide (HG3.out.trans hg4)
      have HOA := hide (HO1'.out.grow hg4)
      have HOB := hide (HO2.out.grow hg4)
      have T2 := hide (ftwice_any w4 (.slice uo qb.length uc) (tgts qb) HOB.out.reads (by rw [tgts_length]; omega) K2.out)
      clear hg4 T1
      cases t2 : sameNext (tgts qb) with
      | true =>
        have hE : diffErr a b = 6 := by rw [HE.out, if_neg (fun h => (sameNext_iff HI2.out).1 t2 h.2)]
        rw [t2] at T2
        have HE6 := hide hE
        clear t2 hE
        go_wp2_with fail
        refine T2.out.mono ?_
        rintro e w5 ⟨rfl, hg5⟩
        have HG5 := hide (HG4.out.trans hg5)
        clear hg5 T2
        go_wp2
        have := diff_no (a := a) (b := b) (w := w) (by rw [HE6.out]; decide) HG5.out
        rw [HE6.out] at this
        refine bodyPost_ret (v := .tuple #[.slice none 0 0, .slice none 0 0, .slice none 0 0, .int .i64 6]) (by simp [results, Tryz.results9, go_sem]) rfl ?_
        exact this
      | false =>
        have hE : diffErr a b = 0 := by
          rw [HE.out, if_pos]
          refine ⟨Decidable.byContradiction fun h => ?_, Decidable.byContradiction fun h => ?_⟩
          · have := (sameNext_iff HI1.out).2 h; rw [HT1.out] at this; cases this
          · have := (sameNext_iff HI2.out).2 h; rw [t2] at this; cases this
        rw [t2] at T2
        have HE6 := hide hE
        clear t2 hE
        go_wp2_with fail
        refine T2.out.mono ?_
        rintro e w5 ⟨rfl, hg5⟩
        have HG5 := hide (HG4.out.trans hg5)
        have HOA5 := hide (HOA.out.grow hg5)
        have HOB5 := hide (HOB.out.grow hg5)
        have HP := hide (parted_any w5 _ _ qa qb HOA5.out.1.rest HOB5.out.1.rest (fun p hp => ⟨HOA5.out.lab p hp, c1.out p hp⟩) (fun p hp => ⟨HOB5.out.lab p hp, c2.out p hp⟩) (by omega) (by omega))
        clear hg5 T2
        go_wp2_with fail
        refine HP.out.mono ?_
        rintro e w6 ⟨v1, v2, v3, rfl, r1, r2, r3, hg6⟩
        have HR1 := hide r1
        have HR2 := hide r2
        have HR3 := hide r3
        have HG6 := hide (HG5.out.trans hg6)
        clear r1 r2 r3 hg6 HP
        go_wp2
        refine bodyPost_ret (v := .tuple #[v1, v2, v3, .int .i64 0]) (by simp [results, Tryz.results9, go_sem]) rfl ?_
        exact ⟨HG6.out, v1, v2, v3, _, by rw [HE6.out]; rfl, HR1.out, HR2.out, HR3.out, by rw [if_pos HE6.out]; exact ⟨_, _, HI1.out, HI2.out, rfl⟩⟩
  · have HE : Hid (diffErr a b = listsErr [a, b]) := hide (by unfold diffErr; rw [if_neg h0])
    have hne : ((listsErr [a, b] : Int) != 0) = true := by simpa using h0
    have H0 := hide h0
    generalize listsErr [a, b] = E at *
    clear h0
    go_enter Tryz.func9, Tryz.ntmps9
    go_wp2_with fail
    rw [HV.out]
    refine HCL.out.mono ?_
    rintro e w1 ⟨rfl, hg1⟩
    have HG1 : Hid (Grow w w1) := hide (HGV.out.trans hg1)
    clear hg1 HCL
    go_wp2
    have := diff_no (a := a) (b := b) (w := w) (by rw [HE.out]; exact H0.out) HG1.out
    rw [HE.out] at this
    refine bodyPost_ret (v := .tuple #[.slice none 0 0, .slice none 0 0, .slice none 0 0, .int .i64 E]) (by simp [results, Tryz.results9, go_sem]) rfl ?_
    exact this
end Go.Proofs.YtdlmgkncneifaaaGreat.Fd
