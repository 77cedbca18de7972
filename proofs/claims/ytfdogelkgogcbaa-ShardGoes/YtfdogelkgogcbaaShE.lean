/- shard: copies of items. -/
import Derived.Laws.OwnMore
import Derived.Deep.AppendLies
import Derived.Test.YtfdogelkgogcbaaProg
import Derived.Test.YtfdogelkgogcbaaKit
import Derived.Test.YtfdogelkgogcbaaReg
import Derived.Test.YtfdogelkgogcbaaLSpec
import Derived.Test.YtfdogelkgogcbaaLRow
import Derived.Test.YtfdogelkgogcbaaLMak
import Derived.Test.YtfdogelkgogcbaaShA
import Derived.Test.YtfdogelkgogcbaaShC
import Derived.BigQuiet
set_option linter.unusedVariables false
set_option linter.unusedSimpArgs false
namespace Go.Proofs.Ytfdogelkgogcbaa.Sh
open Go.RowKit Lb
attribute [local go_sem] bs_size bs_toList bs_append bs_get bs_extract

theorem infoItm : (Try.prog.info? 39).map (fun i => (i.zero, i.size, i.bytes)) = some (some (.agg #[.int .i64 0, .slice none 0 0, .int .i64 0, .int .u64 0]), 4, 48) := by kernel_rfl
theorem set4 {w : World} {b : Nat} {cs : Array Value} {t : TypeId} (h : w.heap[b]? = some (.cells cs t (0, 0))) (i : Nat) (u : Value) : (w.setCell ⟨b, i, none⟩ u).heap[b]? = some (.cells (cs.setIfInBounds i u) t (0, 0)) := by
  simp only [World.setCell, Array.getElem?_modify, h, if_true, Option.map_some]
  rfl
theorem ownRow_grown {w w' : World} {base base2 e size n e2 s2 n2 : Nat} {v v2 : Value} {xs x2 : List Value} (h : w.ownsRow base e size v n xs) (h2 : w.ownsRow base2 e2 s2 v2 n2 x2) (hg : w.grownBy w' v2.ownBlock) (hne : e ≠ e2) : w'.ownsRow base e size v n xs := by
  obtain ⟨h3, h4⟩ := h
  refine ⟨h3, ?_⟩
  rcases h4 with h4 | ⟨g, cap, cur, r1, r2, r3, r4⟩
  · exact .inl h4
  · exact .inr ⟨g, cap, cur, r1, r2, grown_block hg r3 (own_apart h2 r3 (fun e => hne e.symm)), r4⟩
theorem own_growS {w w' : World} {base e size n : Nat} {v : Value} {xs : List Value} (h : w.ownsRow base e size v n xs) (hg : Grow w w') : w'.ownsRow base e size v n xs := by
  obtain ⟨h3, h4⟩ := h
  refine ⟨h3, ?_⟩
  rcases h4 with h4 | ⟨g, cap, cur, r1, r2, r3, r4⟩
  · exact .inl h4
  · exact .inr ⟨g, cap, cur, r1, r2, hg.get r3, r4⟩
theorem own_leS {w : World} {B B' e size n : Nat} {v : Value} {xs : List Value} (h : w.ownsRow B e size v n xs) (hb : B' ≤ B) : w.ownsRow B' e size v n xs := by
  obtain ⟨h3, h4⟩ := h
  refine ⟨h3, ?_⟩
  rcases h4 with h4 | ⟨g, cap, cur, r1, r2, r3, r4⟩
  · exact .inl h4
  · exact .inr ⟨g, cap, cur, r1, by omega, r3, r4⟩
/-- What the cells of an item hold, its labels' value beside it. -/
def itCells : List (Itm × Value) → List Value
  | [] => []
  | p :: l => .int .i64 p.1.1 :: p.2 :: .int .i64 p.1.2.2.1 :: .int .u64 (p.1.2.2.2 : Nat) :: itCells l
theorem itCells_snoc (l : List (Itm × Value)) (p : Itm × Value) : itCells (l ++ [p]) = itCells l ++ [.int .i64 p.1.1, p.2, .int .i64 p.1.2.2.1, .int .u64 (p.1.2.2.2 : Nat)] := by
  induction l with
  | nil => rfl
  | cons x l ih => show _ :: _ :: _ :: _ :: itCells (l ++ [p]) = _; rw [ih]; rfl
theorem itCells_append (l r : List (Itm × Value)) : itCells (l ++ r) = itCells l ++ itCells r := by
  induction l with
  | nil => rfl
  | cons x l ih => show _ :: _ :: _ :: _ :: itCells (l ++ r) = _; rw [ih]; rfl
theorem itCells_length (l : List (Itm × Value)) : (itCells l).length = l.length * 4 := by
  induction l with
  | nil => rfl
  | cons x l ih => show (itCells l).length + 1 + 1 + 1 + 1 = _; rw [ih, List.length_cons]; omega
theorem itCells_at : ∀ (l : List (Itm × Value)) (i : Nat) (h : i < l.length), (itCells l)[i * 4]? = some (.int .i64 l[i].1.1) ∧ (itCells l)[i * 4 + 1]? = some l[i].2 ∧ (itCells l)[i * 4 + 2]? = some (.int .i64 l[i].1.2.2.1) ∧ (itCells l)[i * 4 + 3]? = some (.int .u64 (l[i].1.2.2.2 : Nat))
  | [], i, h => absurd h (by simp)
  | p :: l, 0, h => ⟨rfl, rfl, rfl, rfl⟩
  | p :: l, i + 1, h => by
    have := itCells_at l i (by simpa using h)
    have e0 : (i + 1) * 4 = i * 4 + 4 := by omega
    have e1 : (i + 1) * 4 + 1 = i * 4 + 1 + 4 := by omega
    have e2 : (i + 1) * 4 + 2 = i * 4 + 2 + 4 := by omega
    have e3 : (i + 1) * 4 + 3 = i * 4 + 3 + 4 := by omega
    rw [e1, e2, e3, e0]
    exact this
/-- Items that a call owns, with labels that it owns. -/
def ownItems (w : World) (B : Nat) (v : Value) (ps : List (Itm × Value)) : Prop := w.ownsRow B 39 4 v ps.length (itCells ps) ∧ ∀ p ∈ ps, ownLabels w B p.2 p.1.2.1
theorem ownItems.grow {w w' : World} {B : Nat} {v : Value} {ps : List (Itm × Value)} (h : ownItems w B v ps) (g : Grow w w') : ownItems w' B v ps := ⟨own_growS h.1 g, fun p hp => own_growS (h.2 p hp) g⟩
theorem ownItems.le {w : World} {B B' : Nat} {v : Value} {ps : List (Itm × Value)} (h : ownItems w B v ps) (hb : B' ≤ B) : ownItems w B' v ps := ⟨own_leS h.1 hb, fun p hp => own_leS (h.2 p hp) hb⟩
def copyI (x : Itm) : Itm := (x.1, makeAns x.2.1, x.2.2)

set_option maxRecDepth 20000 in
set_option maxHeartbeats 2000000 in
theorem copied_any (w : World) (vi : Value) (l : List Itm) (hv : readsItems w w.heap.size vi l) (hlen : l.length ≤ 1000) (hok : ∀ x ∈ l, okItm x) :
    Calls Try.prog 32 #[vi] w fun e w' => ∃ v' ps, e = .returned v' ∧ ownItems w' w.heap.size v' ps ∧ ps.map (·.1) = l.map copyI ∧ Grow w w' := by
  obtain ⟨i0, hi0, hz0, hz1, hz2⟩ := info_parts infoItm
  obtain ⟨ao, cp, hvv, -⟩ := id hv
  subst hvv
  have HV := hide hv
  have HOK := hide hok
  clear hv hok
  go_enter Try.func32, Try.ntmps32
  go_wp2
  go_loopw [3, 8] (fun sv iv wr => ∃ (k : Nat) (ps : List (Itm × Value)), k ≤ l.length ∧ iv = .int .i64 k ∧ Hid (ownItems wr w.heap.size sv ps) ∧ Hid (ps.map (·.1) = (l.take k).map copyI) ∧ Hid (Grow w wr)) (fun _ iv _ => l.length - (intOf iv).toNat)
  case atStart => exact ⟨0, [], by omega, rfl, hide ⟨World.ownsRow_nil _ _ _ _, fun p hp => by simp at hp⟩, hide rfl, hide (Grow.refl _)⟩
  case round =>
    obtain ⟨k, ps, hkk, rfl, HOW, HPS, HGr⟩ := hrel
    obtain ⟨so, sc, hsv⟩ := own_shape HOW.out.1
    subst hsv
    have hpl : ps.length = k := by
      have := congrArg List.length HPS.out
      simp at this
      omega
    by_cases hlt : k < l.length
    · have hlti : (k : Int) < (l.length : Int) := by omega
      obtain ⟨rb, rf, vl, rfl, hls, c0, c1, c2, c3⟩ : ∃ b' o vl, ao = some ⟨b', o, none⟩ ∧ Lb.readsLabels wr w.heap.size vl l[k].2.1 ∧ wr.cell? ⟨b', o + k * 4, none⟩ = some (.int .i64 l[k].1) ∧ wr.cell? ⟨b', o + k * 4 + 1, none⟩ = some vl ∧ wr.cell? ⟨b', o + k * 4 + 2, none⟩ = some (.int .i64 l[k].2.2.1) ∧ wr.cell? ⟨b', o + k * 4 + 3, none⟩ = some (.int .u64 (l[k].2.2.2 : Nat)) := by
        obtain ⟨ao', cp', e, _, h⟩ := HV.out.keep HGr.out
        cases e
        obtain ⟨b', o, vl, e, _, q⟩ := h k hlt
        exact ⟨b', o, vl, e, q⟩
      have hokx := HOK.out _ (List.getElem_mem hlt)
      obtain ⟨x, HX⟩ : ∃ x : Itm, Hid (l[k] = x) := ⟨_, hide rfl⟩
      rw [HX.out] at hls c0 c2 c3 hokx
      obtain ⟨xo, xc, rfl⟩ := Lb.readsLabels_len hls
      obtain ⟨V, eV, gV, hV⟩ := laid_at wr #[.int .i64 x.1, .slice xo x.2.1.length xc, .int .i64 x.2.2.1, .int .u64 (x.2.2.2 : Nat)] 39
      obtain ⟨d0, d1, d2, d3⟩ := four_of hV
      have HMK := hide (make_any V (.slice xo x.2.1.length xc) x.2.1 (readsLabels_mono (readsLabels_below hls (Below.mono gV HGr.out.size)) (by have := gV.size; have := HGr.out.size; omega)) hokx.2.2.2.1 hokx.2.2.2.2)
      have HVV := hide hV
      have HGV := hide gV
      generalize makeErr x.2.1 = me at HMK
      clear hls gV hV hokx
      go_wp2_with fail
      refine HMK.out.mono ?_
      rintro e w5 ⟨mv, rfl, hml, hg5⟩
      obtain ⟨mo, mc, hmv⟩ := own_shape hml
      subst hmv
      have hg5' : Grow V w5 := hg5
      have b5 := hg5'.get HVV.out
      have z1 : w5.frozen? ⟨wr.heap.size, 1, none⟩ = false := by simp only [World.frozen?, b5]; rfl
      obtain ⟨d0, d1, d2, d3⟩ := four_of b5
      obtain ⟨W6, e6⟩ : ∃ W6, w5.setCell ⟨wr.heap.size, 1, none⟩ (.slice mo (makeAns x.2.1).length mc) = W6 := ⟨_, rfl⟩
      have b6 : W6.heap[wr.heap.size]? = some (.cells #[.int .i64 x.1, .slice mo (makeAns x.2.1).length mc, .int .i64 x.2.2.1, .int .u64 (x.2.2.2 : Nat)] 39 (0, 0)) := by
        rw [← e6]
        have := set4 b5 1 (.slice mo (makeAns x.2.1).length mc)
        simpa using this
      obtain ⟨f0, f1, f2, f3⟩ := four_of b6
      have hsV : wr.heap.size < V.heap.size := by rw [← eV]; simp
      have HG5 : Hid (Grow wr w5) := hide (HGV.out.trans hg5')
      have HO6 : Hid (ownItems W6 w.heap.size (.slice so ps.length sc) ps) := hide (by
        rw [← e6]
        have h5 := HOW.out.grow HG5.out
        refine ⟨ownsRow_setCell_other h5.1 (fun e => ?_) _, fun p hp => ownsRow_setCell_other (h5.2 p hp) (fun e => ?_) _⟩
        · have := (HOW.out.1.lt _ e).2; exact absurd this (Nat.lt_irrefl _)
        · have := ((HOW.out.2 p hp).lt _ e).2; exact absurd this (Nat.lt_irrefl _))
      have HM6 : Hid (ownLabels W6 V.heap.size (.slice mo (makeAns x.2.1).length mc) (makeAns x.2.1)) := hide (by
        rw [← e6]
        exact ownsRow_setCell_other hml (fun e => by have := (hml.lt _ e).1; simp only at this; omega) _)
      have HB6 : Hid (Below w.heap.size w W6) := hide (by
        rw [← e6]
        exact (Below.trans HGr.out (Below.mono HG5.out HGr.out.size)).setCell (by have := HGr.out.size; simp only; omega) _)
      obtain ⟨V7, e7, g7, b7⟩ := laid_at W6 #[.int .i64 x.1, .slice mo (makeAns x.2.1).length mc, .int .i64 x.2.2.1, .int .u64 (x.2.2.2 : Nat)] 39
      have HO7 := hide (HO6.out.grow g7)
      have HM7 : Hid (ownLabels V7 w.heap.size (.slice mo (makeAns x.2.1).length mc) (makeAns x.2.1)) := hide (own_leS (own_growS HM6.out g7) (by have := HGr.out.size; omega))
      have HB7 := hide b7
      have HBW : Hid (Below w.heap.size w V7) := hide (HB6.out.trans (Below.mono g7 HB6.out.size))
      have hs7 : w.heap.size ≤ V7.heap.size := HBW.out.size
      rw [hpl] at HO7
      have HR7 : Hid (V7.ownsRow w.heap.size 39 4 (.slice so k sc) k (itCells ps)) := hide (by have := HO7.out.1; rw [hpl] at this; exact this)
      have HE := hide e6
      generalize hmn : (makeAns x.2.1).length = mn at *
      clear hml hg5 hg5' b5 b6 g7 b7 eV HMK c0 c1 c2 c3
      go_wp2_with (at_builtin; go_loud (refine wpList_append_own _ rfl _ _ 22 rfl w.heap.size 39 i0 _ 4 48 Try.underlying22 hi0 hz0 hz1 hz2 rfl (by decide) _ k (itCells ps) rfl HR7.out ⟨W6.heap.size, 0, none⟩ 1 1 [.int .i64 x.1, .slice mo mn mc, .int .i64 x.2.2.1, .int .u64 (x.2.2.2 : Nat)] rfl rfl (World.news_of_block HB7.out) (by simp [Value.oneCell']) (by unfold maxLen; omega) (by omega) hs7 ?_))
      intro v' w8 hown' hgrow _
      have hbel : Below w.heap.size V7 w8 := (Below.refl _ _).grown hgrow hs7 (fun k hk => (HR7.out.lt k hk).1)
      have HB8 : Hid (Below w.heap.size w w8) := hide (HBW.out.trans hbel)
      have HN8 : Hid (ownItems w8 w.heap.size v' (ps ++ [(copyI x, .slice mo mn mc)])) := hide (by
        refine ⟨?_, fun p hp => ?_⟩
        · rw [List.length_append, hpl, itCells_snoc]
          exact hown'
        · rcases List.mem_append.1 hp with hp | hp
          · exact ownRow_grown (HO7.out.2 p hp) HR7.out hgrow (by decide)
          · simp only [List.mem_singleton] at hp
            subst hp
            exact ownRow_grown HM7.out HR7.out hgrow (by decide))
      clear hown' hgrow hbel
      go_wp2
      go_roundw
      case rel =>
        refine ⟨k + 1, ps ++ [(copyI x, .slice mo mn mc)], by omega, by go_num, HN8, hide ?_, HB8⟩
        rw [List.map_append, HPS.out, List.take_succ_eq_append_getElem hlt, List.map_append, HX.out]
        rfl
      case measure => simp [intOf]; omega
    · obtain rfl : k = l.length := by omega
      go_wp2
      go_ret
      exact ⟨_, ps, rfl, HOW.out, by rw [HPS.out, List.take_length], HGr.out⟩
end Go.Proofs.Ytfdogelkgogcbaa.Sh
