/- shard: items written and packed. -/
import Derived.Laws.OwnMore
import Derived.Deep.AppendLies
import Derived.Test.YtfdogelkgogcbaaProg
import Derived.Test.YtfdogelkgogcbaaKit
import Derived.Test.YtfdogelkgogcbaaReg
import Derived.Test.YtfdogelkgogcbaaWTop
import Derived.Test.YtfdogelkgogcbaaRowK
import Derived.Test.YtfdogelkgogcbaaPaD
import Derived.Test.YtfdogelkgogcbaaShA
import Derived.Test.YtfdogelkgogcbaaShC
import Derived.BigQuiet
set_option linter.unusedVariables false
set_option linter.unusedSimpArgs false
namespace Go.Proofs.Ytfdogelkgogcbaa.Sh
open Go.RowKit
attribute [local go_sem] bs_size bs_toList bs_append bs_get bs_extract

theorem reads_row {w : World} {base n : Nat} {v : Value} {vs : List (Value × Value)} {ls : List Ser} (h : w.ownsRow base 85 2 v n (pairCells vs)) (hn : n = ls.length) (hl : vs.length = ls.length)
    (hall : ∀ (i : Nat) (x : Value × Value) (s : Ser), vs[i]? = some x → ls[i]? = some s → readsLabels w w.heap.size x.1 s.1 ∧ readsSamples w w.heap.size x.2 s.2) : readsSeries w w.heap.size v ls := by
  obtain ⟨ao, cp, e⟩ := own_shape h
  refine ⟨ao, cp, by rw [e, hn], fun i hi => ?_⟩
  rcases h.2 with ⟨rfl, h0⟩ | ⟨g, cap, cur, rfl, h1, h2, h3⟩
  · omega
  · simp at e
    have hc := World.ownsRow.cells h (g := g) rfl
    have ha := pairCells_at vs i (by omega)
    obtain ⟨k1, k2⟩ := hall i vs[i] ls[i] (List.getElem?_eq_getElem (by omega)) (List.getElem?_eq_getElem hi)
    refine ⟨g, 0, vs[i].1, vs[i].2, e.1.symm, lt_of_block h2, ?_, ?_, k1, k2⟩
    · have := hc _ _ ha.1
      rw [Addr.add_lit] at this
      simpa using this
    · have := hc _ _ ha.2
      rw [Addr.add_lit] at this
      simpa using this
theorem infoSer : (Try.prog.info? 85).map (fun i => (i.zero, i.size, i.bytes)) = some (some (.agg #[.slice none 0 0, .slice none 0 0]), 2, 48) := by kernel_rfl

/-- An item as a series. -/
def itSer (x : Itm) : Ser := (x.2.1, [(x.2.2.1, x.2.2.2)])
def sersOf (l : List Itm) : List Ser := l.map itSer
/-- What the cells of a series hold: the labels' value, the sample's block. -/
def pairV (x : Value × Nat) : Value × Value := (x.1, .slice (some ⟨x.2, 0, none⟩) 1 1)
def serIn (w : World) (A : Nat) (L : List (Value × Nat)) (l : List Itm) : Prop := ∀ i (h : i < L.length) (h2 : i < l.length), Lb.readsLabels w A L[i].1 l[i].2.1 ∧ A ≤ L[i].2 ∧ w.heap[L[i].2]? = some (.cells #[.int .i64 l[i].2.2.1, .int .u64 (l[i].2.2.2 : Nat)] 37 (0, 0))
theorem serIn.grow {w w' : World} {A : Nat} {L : List (Value × Nat)} {l : List Itm} (h : serIn w A L l) (g : Grow w w') (hA : A ≤ w.heap.size) : serIn w' A L l := fun i hi hj => by
  obtain ⟨h1, h2, h3⟩ := h i hi hj
  exact ⟨Lb.readsLabels_below h1 (Below.mono g hA), h2, g.get h3⟩
theorem sers_read {w : World} {A : Nat} {v : Value} {L : List (Value × Nat)} {l : List Itm} (ho : w.ownsRow A 85 2 v l.length (pairCells (L.map pairV))) (hl : L.length = l.length) (h : serIn w A L l) (hA : A ≤ w.heap.size) : readsSeries w w.heap.size v (sersOf l) := by
  refine reads_row ho (by simp [sersOf]) (by simp [sersOf, hl]) fun i x s hx hs => ?_
  have hi : i < L.length := by
    rcases Nat.lt_or_ge i L.length with h | h
    · exact h
    · rw [List.getElem?_eq_none (by simpa using h)] at hx; cases hx
  have hj : i < l.length := by omega
  obtain ⟨h1, h2, h3⟩ := h i hi hj
  simp [hi] at hx
  simp [sersOf, hj] at hs
  subst hx hs
  refine ⟨Lb.readsLabels_mono h1 hA, some ⟨L[i].2, 0, none⟩, 1, rfl, fun j hjj => ⟨L[i].2, 0, rfl, lt_of_block h3, ?_, ?_⟩⟩
  · obtain rfl : j = 0 := by simp [itSer] at hjj; omega
    simp [World.cell?, h3, itSer]
  · obtain rfl : j = 0 := by simp [itSer] at hjj; omega
    simp [World.cell?, h3, itSer]
/-- What it comes to. -/
def packRes (l : List Itm) (T : List UInt8) (E : Int) : Prop := (writeErr (sersOf l) ≠ 0 ∧ T = [] ∧ E = writeErr (sersOf l)) ∨ (writeErr (sersOf l) = 0 ∧ E = 0 ∧ ∃ P, Packs (writeTxt (sersOf l)) P ∧ T = numB (writeTxt (sersOf l)).length ++ P)

set_option maxRecDepth 20000 in
set_option maxHeartbeats 2000000 in
theorem packed_any (w : World) (vi : Value) (l : List Itm) (hv : readsItems w w.heap.size vi l) (hlen : l.length ≤ 1000) (hok : ∀ x ∈ l, okItm x) :
    Calls Try.prog 44 #[vi] w fun e w' => ∃ (T : List UInt8) (E : Int), e = .returned (.tuple #[.string (bs T), .int .i64 E]) ∧ packRes l T E ∧ Grow w w' := by
  obtain ⟨i0, hi0, hz0, hz1, hz2⟩ := info_parts infoSer
  obtain ⟨ao, cp, hvv, -⟩ := id hv
  subst hvv
  have HV := hide hv
  have HOK := hide hok
  clear hv hok
  go_enter Try.func44, Try.ntmps44
  go_wp2
  go_loopw [4, 11] (fun sv iv wr => ∃ (k : Nat) (L : List (Value × Nat)), k ≤ l.length ∧ iv = .int .i64 k ∧ Hid (wr.ownsRow w.heap.size 85 2 sv k (pairCells (L.map pairV))) ∧ Hid (L.length = k) ∧ Hid (serIn wr w.heap.size L l) ∧ Hid (Grow w wr)) (fun _ iv _ => l.length - (intOf iv).toNat)
  case atStart => exact ⟨0, [], by omega, rfl, hide (World.ownsRow_nil _ _ _ _), hide rfl, hide (fun i hi _ => by simp at hi), hide (Grow.refl _)⟩
  case round =>
    rename_i sv _
    obtain ⟨k, L, hkk, rfl, HOW, HLL, HSI, HGr⟩ := hrel
    obtain ⟨so, sc, hsv⟩ := own_shape HOW.out
    subst hsv
    by_cases hlt : k < l.length
    · have hlti : (k : Int) < (l.length : Int) := by omega
      obtain ⟨rb, rf, vl, rfl, hls, c0, c1, c2, c3⟩ : ∃ b' o vl, ao = some ⟨b', o, none⟩ ∧ Lb.readsLabels wr w.heap.size vl l[k].2.1 ∧ wr.cell? ⟨b', o + k * 4, none⟩ = some (.int .i64 l[k].1) ∧ wr.cell? ⟨b', o + k * 4 + 1, none⟩ = some vl ∧ wr.cell? ⟨b', o + k * 4 + 2, none⟩ = some (.int .i64 l[k].2.2.1) ∧ wr.cell? ⟨b', o + k * 4 + 3, none⟩ = some (.int .u64 (l[k].2.2.2 : Nat)) := by
        obtain ⟨ao', cp', e, _, h⟩ := HV.out.keep HGr.out
        cases e
        obtain ⟨b', o, vl, e, _, q⟩ := h k hlt
        exact ⟨b', o, vl, e, q⟩
      obtain ⟨x, HX⟩ : ∃ x : Itm, Hid (l[k] = x) := ⟨_, hide rfl⟩
      rw [HX.out] at hls c0 c2 c3
      have HLS := hide hls
      obtain ⟨xo, xc, rfl⟩ := Lb.readsLabels_len hls
      obtain ⟨V, eV, gV, hV⟩ := laid_at wr #[.int .i64 x.1, .slice xo x.2.1.length xc, .int .i64 x.2.2.1, .int .u64 (x.2.2.2 : Nat)] 39
      obtain ⟨d0, d1, d2, d3⟩ := four_of hV
      obtain ⟨V2, e2, g2, b2⟩ := laid_at V #[.int .i64 x.2.2.1, .int .u64 (x.2.2.2 : Nat)] 37
      obtain ⟨V3, e3, g3, b3⟩ := laid_at V2 #[.slice xo x.2.1.length xc, .slice (some ⟨V.heap.size, 0, none⟩) 1 1] 85
      have HG3 : Hid (Grow wr V3) := hide (gV.trans (g2.trans g3))
      have HO3 := hide (own_grow HOW.out HG3.out)
      have HB2 := hide (g3.get b2)
      have HB3 := hide b3
      have hs3 : w.heap.size ≤ V3.heap.size := Nat.le_trans HGr.out.size HG3.out.size
      have hsV : w.heap.size ≤ V.heap.size := Nat.le_trans HGr.out.size gV.size
      clear hls hV gV g2 g3 b2 b3
      go_wp2_with (at_builtin; go_loud (refine wpList_append_own _ rfl _ _ 77 rfl w.heap.size 85 i0 _ 2 48 Try.underlying77 hi0 hz0 hz1 hz2 rfl (by decide) _ k (pairCells (L.map pairV)) rfl HO3.out ⟨V2.heap.size, 0, none⟩ 1 1 [.slice xo x.2.1.length xc, .slice (some ⟨V.heap.size, 0, none⟩) 1 1] rfl rfl (World.news_of_block HB3.out) (by simp [Value.oneCell']) (by unfold maxLen; omega) (by omega) hs3 ?_))
      intro v' w5 hown' hgrow _
      have HOWN := hide hown'
      have hbel : Below w.heap.size V3 w5 := (Below.refl _ _).grown hgrow hs3 (fun k hk => (HO3.out.lt k hk).1)
      have HW5 : Hid (Below w.heap.size wr w5) := hide ((Below.mono HG3.out HGr.out.size).trans hbel)
      have HSB : Hid (∀ (kk : Nat) (c : Array Value), V3.heap[kk]? = some (.cells c 37 (0, 0)) → w5.heap[kk]? = some (.cells c 37 (0, 0))) := hide fun kk c h => grown_block hgrow h (own_apart HO3.out h (by decide))
      clear hown' hgrow hbel
      go_wp2
      go_roundw
      case rel =>
        refine ⟨k + 1, L ++ [(.slice xo x.2.1.length xc, V.heap.size)], by omega, by go_num, hide ?_, hide (by rw [List.length_append, HLL.out]; rfl), hide (fun i hi hj => ?_), hide (Below.trans HGr.out HW5.out)⟩
        · rw [List.map_append]
          show World.ownsRow _ _ _ _ _ _ (pairCells (L.map pairV ++ [pairV (_, _)]))
          rw [pairCells_snoc]
          exact HOWN.out
        · have hLL := HLL.out
          by_cases e : i = k
          · subst e
            have hx := HX.out
            have e1 : (L ++ [(Value.slice xo x.2.1.length xc, V.heap.size)])[i] = (Value.slice xo x.2.1.length xc, V.heap.size) := by
              rw [List.getElem_append_right (by omega)]; simp [hLL]
            rw [e1, hx]
            exact ⟨Lb.readsLabels_below HLS.out HW5.out, hsV, HSB.out _ _ HB2.out⟩
          · have hi2 : i < L.length := by rw [List.length_append] at hi; simp at hi; omega
            have e1 : (L ++ [(Value.slice xo x.2.1.length xc, V.heap.size)])[i] = L[i] := List.getElem_append_left hi2
            rw [e1]
            obtain ⟨q1, q2, q3⟩ := HSI.out i hi2 hj
            exact ⟨Lb.readsLabels_below q1 HW5.out, q2, HSB.out _ _ (HG3.out.get q3)⟩
      case measure => simp [intOf]; omega
    · obtain rfl : k = l.length := by omega
      have HRS := hide (sers_read HOW.out HLL.out HSI.out HGr.out.size)
      have hbits : ∀ x ∈ sersOf l, bitsFit x := fun x hx y hy => by
        obtain ⟨z, hz, rfl⟩ := List.mem_map.1 hx
        simp [itSer] at hy
        subst hy
        exact (HOK.out z hz).2.2.1
      have hfit : lensFit (sersOf l) := ⟨by simp [sersOf]; omega, fun x hx => by
        obtain ⟨z, hz, rfl⟩ := List.mem_map.1 hx
        exact ⟨(HOK.out z hz).2.2.2.1, by simp [itSer], (HOK.out z hz).2.2.2.2⟩⟩
      have HWR := hide (write_any wr _ (sersOf l) HRS.out hbits hfit)
      obtain ⟨WE, HWE⟩ : ∃ WE, Hid (writeErr (sersOf l) = WE) := ⟨_, hide rfl⟩
      obtain ⟨WT, HWT⟩ : ∃ WT, Hid (writeTxt (sersOf l) = WT) := ⟨_, hide rfl⟩
      have hwl : WE = 0 → WT.length ≤ 20000 := fun h0 => by
        rw [← HWT.out]
        rw [← HWE.out] at h0
        unfold writeTxt
        rw [if_pos h0]
        unfold writeErr at h0
        split at h0
        · split at h0
          · split at h0
            · assumption
            · cases h0
          · cases h0
        · cases h0
      have HWL := hide hwl
      rw [HWE.out, HWT.out] at HWR
      clear hbits hfit HRS HOW HSI HLL hwl
      go_wp2_with fail
      refine HWR.out.mono ?_
      rintro e w2 ⟨rfl, hb2⟩
      have HG2 : Hid (Grow w w2) := hide (HGr.out.trans hb2)
      clear hb2 HWR
      by_cases h0 : WE = 0
      · have HP := hide (pack_any w2 WT (by have := HWL.out h0; omega))
        have HZ := hide h0
        have hz : (WE != 0) = false := by simp [h0]
        have HTL := hide (HWL.out h0)
        clear h0
        go_wp2_with fail
        refine HP.out.mono ?_
        rintro e w3 ⟨hb3, ⟨_, P, hP, rfl⟩ | ⟨hlong, rfl⟩⟩
        · have HG3 : Hid (Grow w w3) := hide (HG2.out.trans hb3)
          have HPP := hide hP
          clear hb3 hP
          go_wp2
          go_ret2
          exact ⟨_, _, rfl, .inr ⟨by rw [HWE.out, HZ.out], rfl, P, by rw [HWT.out]; exact HPP.out, by rw [HWT.out]⟩, HG3.out⟩
        · exact absurd HTL.out (by omega)
      · have hz : (WE != 0) = true := by simp; exact h0
        have H0 := hide h0
        clear h0
        go_wp2
        go_ret2
        exact ⟨[], _, rfl, .inl ⟨by rw [HWE.out]; exact H0.out, rfl, HWE.out.symm⟩, HG2.out⟩
end Go.Proofs.Ytfdogelkgogcbaa.Sh
