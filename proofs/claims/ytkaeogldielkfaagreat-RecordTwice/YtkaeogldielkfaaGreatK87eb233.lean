/- 3 texts in one. -/
import Derived.Laws.OwnMore
import Derived.Test.YtkaeogldielkfaaGreatProg
import Derived.Test.YtkaeogldielkfaaGreatK0755ea5
import Derived.Test.YtkaeogldielkfaaGreatK1cde199
import Derived.Test.YtkaeogldielkfaaGreatK27654cb
import Derived.Test.YtkaeogldielkfaaGreatKaf8554b
import Derived.Test.YtkaeogldielkfaaGreatK4d78cc4
import Derived.Test.YtkaeogldielkfaaGreatK3c7d114
import Derived.Test.YtkaeogldielkfaaGreatK5804e26
import Derived.Test.YtkaeogldielkfaaGreatK3b2be08
import Derived.Maps.Own
import Derived.Maps.OwnOps
import Derived.Maps.OwnSet
import Derived.Maps.Views
import Derived.Test.YtkaeogldielkfaaGreatKfd23cdb
import Derived.BigQuiet
set_option linter.unusedVariables false
set_option linter.unusedSimpArgs false
namespace Go.Proofs.YtkaeogldielkfaaGreat.Rc
open Go.RowKit Go.Maps Lb
open Go.WideMaps (keyOf_string_mk)
attribute [local go_sem] bs_size bs_toList bs_append bs_get bs_extract
theorem text_short {l : List Lab} (h : checkB l = 0) : (textAns l).length ≤ 10000 := by
  obtain ⟨hl, hs⟩ := check_small h
  rw [textAns_ok h]
  have h1 := escB_le (valueB l ownN)
  have h2 := valueB_le (l := l) (n := ownN) (m := 100) fun x hx => (hs x hx).2
  have h3 := join_len (othersB l) [44]
  have h4 := lens_le (othersB l) 300 (othersB_short hs)
  have h5 := othersB_len l
  unfold Lb.textB
  split
  · omega
  · simp only [List.length_append, List.length_cons, List.length_nil] at h3 ⊢
    omega
set_option maxRecDepth 20000 in
set_option maxHeartbeats 2000000 in
theorem textOf_any (w : World) (x : RefL) (vl : Value) (hv : readsLabels w w.heap.size vl x.2) (hx : okRef x) :
    Calls Tryz.prog 83 #[.agg #[.int .i64 x.1, vl]] w fun e w' => e = .returned (.string (bs (textAns x.2))) ∧ Grow w w' := by
  obtain ⟨x1, ls⟩ := x
  obtain ⟨h0, h1, hl, hin⟩ := hx
  simp only at hv h0 h1 hl hin ⊢
  obtain ⟨lo, lc, rfl⟩ := readsLabels_len hv
  obtain ⟨W, eW, gW, hW⟩ := laid_at w #[.int .i64 x1, .slice lo ls.length lc] 59
  obtain ⟨c0, c1⟩ := two_of hW
  have HG := hide gW
  have HCK := hide (text_any W (.slice lo ls.length lc) ls (readsLabels_mono (readsLabels_below hv gW) gW.size) hl hin)
  generalize textAns ls = T at HCK
  generalize checkB ls = ce at HCK
  clear gW hW hv hin
  go_enter Tryz.func83, Tryz.ntmps83
  go_wp2_with fail
  refine HCK.out.mono ?_
  rintro e w1 ⟨rfl, hw1⟩
  have HG1 : Hid (Grow w w1) := hide (HG.out.trans hw1)
  clear hw1
  go_wp2
  go_ret
  exact ⟨rfl, HG1.out⟩
/-- The texts that were met. -/
def metT (l : List RefL) (k : Nat) : List Lit := (l.take k).map fun x => .string (textAns x.2)
theorem metT_succ {l : List RefL} {k : Nat} (h : k < l.length) : metT l (k + 1) = metT l k ++ [.string (textAns l[k].2)] := by
  unfold metT
  rw [List.take_succ_eq_append_getElem h, List.map_append]; rfl
theorem metT_key (l : List RefL) (k : Nat) : ∀ x ∈ metT l k, WideAt.IsKeyLit x := by
  intro x hx
  obtain ⟨y, _, rfl⟩ := List.mem_map.1 hx
  simp [WideAt.IsKeyLit]
theorem metT_has {l : List RefL} {k : Nat} {s : List UInt8} : Maps.has (setOf (H := Unit) (.agg []) (metT l k)) (.string s) = true ↔ ∃ j, ∃ (h : j < l.length), j < k ∧ textAns l[j].2 = s := by
  rw [has_setOf _ _ _ (metT_key l k), List.any_eq_true]
  constructor
  · rintro ⟨x, hx, he⟩
    obtain ⟨y, hy, rfl⟩ := List.mem_map.1 hx
    obtain ⟨j, hj, rfl⟩ := List.getElem_of_mem hy
    have hj' := hj
    rw [List.length_take] at hj'
    refine ⟨j, by omega, by omega, ?_⟩
    rw [List.getElem_take] at he
    simpa [Lit.sameKey] using he
  · rintro ⟨j, hj, hjk, rfl⟩
    refine ⟨.string (textAns l[j].2), List.mem_map.2 ⟨l[j], ?_, rfl⟩, by simp [Lit.sameKey]⟩
    rw [List.mem_take_iff_getElem]
    exact ⟨j, by omega, rfl⟩
theorem grownG {w w' : World} (h : Grow w w') : w.grownBy w' none := ⟨h.os, h.tape, h.output, h.size, fun i hi _ => h.block i hi⟩
set_option maxRecDepth 20000 in
set_option maxHeartbeats 4000000 in
theorem checkTwice_any (w : World) (v : Value) (l : List RefL) (hv : readsRefs w w.heap.size v l) (hlen : l.length ≤ 1000) (hok : ∀ x ∈ l, okRef x) (hze : ∀ x ∈ l, refErr x = 0) :
    Calls Tryz.prog 51 #[v] w fun e w' => e = outc (if dupB l = true then 6 else 0) ∧ Grow w w' := by
  obtain ⟨E, HE⟩ : ∃ E, Hid ((if dupB l = true then 6 else 0) = E) := ⟨_, hide rfl⟩
  rw [HE.out]
  obtain ⟨ao, cp, hvv, _⟩ := id hv
  subst hvv
  have HV := hide hv
  have HOK := hide hok
  have HZ := hide hze
  clear hv hok hze
  have hmm := @run_makeMap Tryz.prog
  go_enter Tryz.func51, Tryz.ntmps51
  go_wp2
  go_loopw [11] (fun i wr => ∃ k : Nat, k ≤ l.length ∧ i = .int .i64 k ∧ Hid (wr.ownsMap Tryz.prog 9 unitElem w.heap.size k (setOf (H := Unit) (.agg []) (metT l k))) ∧ Hid (Grow w wr) ∧ w.heap.size + 1 ≤ wr.heap.size ∧ Hid (∀ i j (hi : i < l.length) (hj : j < l.length), i < j → j < k → l[i].2 ≠ l[j].2)) (fun i _ => l.length - (intOf i).toNat)
  case atStart => exact ⟨0, by omega, rfl, hide (World.ownsMap_made _ _ _ _), hide ((Below.refl _ _).alloc (Nat.le_refl _) _), by simp, hide (fun _ j _ _ _ h => by omega)⟩
  case round =>
    obtain ⟨k, hk, rfl, HM, HGr, hws, HD⟩ := hrel
    by_cases hlt : k < l.length
    · have hlti : (k : Int) < (l.length : Int) := by omega
      obtain ⟨rb, rf, vl, rfl, hrB, hls, c0, c1⟩ : ∃ b' o vl, ao = some ⟨b', o, none⟩ ∧ b' < w.heap.size ∧ readsLabels wr w.heap.size vl l[k].2 ∧ wr.cell? ⟨b', o + k * 2, none⟩ = some (.int .i64 l[k].1) ∧ wr.cell? ⟨b', o + k * 2 + 1, none⟩ = some vl := by
        obtain ⟨ao', cp', e, h⟩ := HV.out.keep HGr.out
        cases e
        exact h k hlt
      have hokx := HOK.out _ (List.getElem_mem hlt)
      obtain ⟨_, hnk, hck⟩ := refErr_zero (HZ.out _ (List.getElem_mem hlt))
      have hTs := text_short hck
      obtain ⟨x, HX⟩ : ∃ x : RefL, Hid (l[k] = x) := ⟨_, hide rfl⟩
      rw [HX.out] at hls c0 hokx hTs hck hnk
      have HCK := hide hck
      have HNK := hide hnk
      obtain ⟨xo, xc, rfl⟩ := readsLabels_len hls
      obtain ⟨V, eV, gV, hV⟩ := laid_at wr #[.int .i64 x.1, .slice xo x.2.length xc] 59
      obtain ⟨d0, d1⟩ := two_of hV
      have HCR := hide (textOf_any V x (.slice xo x.2.length xc) (readsLabels_mono (readsLabels_below hls (Below.mono gV HGr.out.size)) (by have := gV.size; have := HGr.out.size; omega)) hokx)
      obtain ⟨T, HT⟩ : ∃ T, Hid (textAns x.2 = T) := ⟨_, hide rfl⟩
      rw [HT.out] at HCR hTs
      have hkey : keyOf Tryz.prog 9 (.string (bs T)) = some (.string T) := by rw [keyOf_string_mk Tryz.underlying9 (by rw [bs_size]; unfold maxLen; omega), bs_data]
      have HMV : Hid (V.ownsMap Tryz.prog 9 unitElem w.heap.size k (setOf (H := Unit) (.agg []) (metT l k))) := hide (HM.out.kept (grownG gV) (by simp))
      have HGV : Hid (Grow w V) := hide (HGr.out.trans gV)
      have hsV := gV.size
      clear gV hV hls hokx hck hnk HM
      go_wp2_with fail
      refine HCR.out.mono ?_
      rintro e w5 ⟨rfl, hg5⟩
      have HG5 : Hid (Grow w w5) := hide (HGV.out.trans hg5)
      have HM5 : Hid (w5.ownsMap Tryz.prog 9 unitElem w.heap.size k (setOf (H := Unit) (.agg []) (metT l k))) := hide (HMV.out.kept (grownG hg5) (by simp))
      have hs5 := hg5.size
      clear hg5 HCR HMV eV d0 d1 c0 c1
      have HA := hide (@metT_has l k T)
      cases hh : Maps.has (setOf (H := Unit) (.agg []) (metT l k)) (Lit.string T) with
      | true =>
        have HH := hide hh
        clear hh
        have HDU : Hid (dupB l = true) := by
          obtain ⟨j, hj, hjk, e⟩ := HA.out.1 HH.out
          obtain ⟨_, hnj, hcj⟩ := refErr_zero (HZ.out _ (List.getElem_mem hj))
          exact hide (dupB_true hj hlt hjk (by rw [HX.out]; exact textAns_inj hcj HCK.out hnj HNK.out (by rw [HT.out]; exact e)))
        have HE6 : Hid (6 = E) := hide (by rw [← HE.out, HDU.out]; rfl)
        clear HE HDU
        go_wp2_with (at_lookup; refine wpList_lookup_own_unit _ rfl _ _ 129 rfl 9 131 Tryz.keyLaw Tryz.underlying129 (Tryz.zeroUnit _) w.heap.size k _ rfl HM5.out _ _ rfl hkey ?_; rw [HH.out])
        refine (refuse_any true 6 _ (by decide)).mono ?_
        rintro e w6 ⟨rfl, hw6⟩
        rw [if_pos rfl, outc_no (by decide)]
        exact ⟨rfl, by rw [← HE6.out, outc_no (by decide)], by rw [hw6]; exact HG5.out.alloc _⟩
      | false =>
        have HH := hide hh
        clear hh
        go_wp2_with (at_lookup; refine wpList_lookup_own_unit _ rfl _ _ 129 rfl 9 131 Tryz.keyLaw Tryz.underlying129 (Tryz.zeroUnit _) w.heap.size k _ rfl HM5.out _ _ rfl hkey ?_; rw [HH.out])
        refine (refuse_any false 6 _ (by decide)).mono ?_
        rintro e w6 ⟨rfl, hw6⟩
        rw [if_neg (by simp), outc_ok]
        have HG6 : Hid (Grow w w6) := hide (by rw [hw6]; exact HG5.out.alloc _)
        have HM6 : Hid (w6.ownsMap Tryz.prog 9 unitElem w.heap.size k (setOf (H := Unit) (.agg []) (metT l k))) := hide (by rw [hw6]; exact HM5.out.alloc _)
        clear hw6
        go_wp2_with (at_mapUpdate; refine wpList_mapUpdate_own _ rfl _ _ _ 129 rfl 9 131 Tryz.keyLaw Tryz.underlying129 (unitElem (H := Unit)) w.heap.size k _ rfl HM6.out (by unfold maxLen; omega) _ _ _ rfl rfl hkey _ [] unitElem_mk ?_; intro w7 hown7 hgrow7)
        have s7 := hgrow7.size
        have s6 := HG6.out.size
        go_roundw
        case rel =>
          refine ⟨k + 1, by omega, by go_num, hide ?_, hide (HG6.out.grown hgrow7 s6 (fun j hj => by cases hj; exact Nat.le_refl _)), ?_, hide (fun i j hi hj hij hjk => ?_)⟩
          · rw [metT_succ hlt, setOf_snoc, HX.out, HT.out]; exact hown7
          · have := HM6.out.lt; omega
          · by_cases e : j = k
            · subst e
              intro he
              have := HA.out.2 ⟨i, hi, hij, by rw [he, HX.out]; exact HT.out⟩
              rw [HH.out] at this
              cases this
            · exact HD.out i j hi hj hij (by omega)
        case measure => simp [intOf]; omega
    · have HT : Hid (dupB l = false) := hide (dupB_false.2 fun i j hi hj hij => HD.out i j hi hj hij (by omega))
      have HE0 : Hid (0 = E) := hide (by rw [← HE.out, HT.out]; rfl)
      clear HE HT
      go_wp2
      go_end0
      exact ⟨by rw [← HE0.out, outc_ok], HGr.out⟩
end Go.Proofs.YtkaeogldielkfaaGreat.Rc
namespace Go.Proofs.YtkaeogldielkfaaGreat.Rc
open Go.RowKit Lb
attribute [local go_sem] bs_size bs_toList bs_append bs_get bs_extract
theorem oneErr_is {rs : List RefL} {ls : List Int} {hs : List Bool} {j : Nat} (hj : j < rs.length) (h1 : ls.length = rs.length) (h2 : hs.length = rs.length) :
    oneErr ⟨rs, ls, hs⟩ j = if refErr rs[j] ≠ 0 then refErr rs[j] else if timeErr (ls[j]'(by omega)) ≠ 0 then 3 else if hs[j]'(by omega) = false ∧ ls[j]'(by omega) ≠ 0 then 1
      else if 0 < j ∧ rs[j].1 ≤ (rs[j - 1]'(by omega)).1 then 4 else 0 := by
  unfold oneErr
  have e1 : rs.getD j (0, []) = rs[j] := by simp [hj]
  have e2 : rs.getD (j - 1) (0, []) = rs[j - 1]'(by omega) := by have : j - 1 < rs.length := by omega
                                                                 simp [this]
  have e3 : ls.getD j 0 = ls[j]'(by omega) := by have : j < ls.length := by omega
                                                 simp [this]
  have e4 : hs.getD j false = hs[j]'(by omega) := by have : j < hs.length := by omega
                                                     simp [this]
  simp only [e1, e2, e3, e4]
theorem refuse_no (x : Nat) (w : World) : Calls Tryz.prog 48 #[.bool false, .int .i64 x] w fun e w' => e = .returned (.tuple #[]) ∧ w' = w :=
  (refuse_any false x w (fun h => by cases h)).mono fun e w' h => by obtain ⟨h1, h2⟩ := h; exact ⟨by rw [h1]; rfl, h2⟩
def gaveX (E : Nat) (w : World) (ch : List PanicEntry) (w2 : World) : Prop := Ending.panicked ch = gaveUp E ∧ Below w.heap.size w w2
set_option maxRecDepth 20000 in
set_option maxHeartbeats 16000000 in
theorem checkKnown_any (w : World) (vr vl vh : Value) (k : Knw) (hv : readsKnw w w.heap.size vr vl vh k) (hok : okKnw k) :
    Calls Tryz.prog 23 #[.agg #[vr, vl, vh]] w fun e w' => e = outc (knwErr k) ∧ Grow w w' := by
  obtain ⟨E, HE⟩ : ∃ E, Hid (knwErr k = E) := ⟨_, hide rfl⟩
  have HE1 : Hid ((if k.lasts.length ≠ k.refs.length ∨ k.has.length ≠ k.refs.length then 1
    else if 1000 < k.refs.length then 2
    else if firstErr k k.refs.length ≠ 0 then firstErr k k.refs.length
    else if dupB k.refs = true then 6 else 0) = E) := HE
  rw [HE.out]
  clear HE
  obtain ⟨rs, ls, hs⟩ := k
  obtain ⟨hr, hl, hh⟩ := hv
  obtain ⟨n1, n2, n3, hro, hto⟩ := hok
  simp only at HE1 hr hl hh n1 n2 n3 hro hto
  obtain ⟨ro, rc, hvr, _⟩ := id hr
  subst hvr
  obtain ⟨lo, lc, hvl, _⟩ := id hl
  subst hvl
  obtain ⟨ho, hc, hvh, _⟩ := id hh
  subst hvh
  obtain ⟨W, eW, gW, hW⟩ := laid_at w #[.slice ro rs.length rc, .slice lo ls.length lc, .slice ho hs.length hc] 26
  obtain ⟨c0, c1, c2⟩ := three_of hW
  have HG := hide gW
  have HW := hide hW
  have HR := hide hr
  have HL := hide hl
  have HH := hide hh
  have HRO := hide hro
  have HTO := hide hto
  clear gW hW hr hl hh hro hto
  by_cases hA : ls.length ≠ rs.length
  · as_aux_lemma =>
      rw [if_pos (.inl hA)] at HE1
      have hA1 : ((ls.length : Int) != (rs.length : Int)) = true := by simp; omega
      clear hA
      go_enter Tryz.func23, Tryz.ntmps23
      go_wp2_with fail
      refine (refuse_any true 1 _ (by decide)).mono ?_
      rintro e w2 ⟨rfl, hw2⟩
      rw [if_pos rfl, outc_no (by decide)]
      exact ⟨rfl, by rw [← HE1.out, outc_no (by decide)], by rw [hw2]; exact HG.out⟩
  · by_cases hB : hs.length ≠ rs.length
    · as_aux_lemma =>
        rw [if_pos (.inr hB)] at HE1
        have hA1 : ((ls.length : Int) != (rs.length : Int)) = false := by simp; omega
        have hB1 : ((hs.length : Int) != (rs.length : Int)) = true := by simp; omega
        clear hA hB
        go_enter Tryz.func23, Tryz.ntmps23
        go_wp2_with fail
        refine (refuse_any true 1 _ (by decide)).mono ?_
        rintro e w2 ⟨rfl, hw2⟩
        rw [if_pos rfl, outc_no (by decide)]
        exact ⟨rfl, by rw [← HE1.out, outc_no (by decide)], by rw [hw2]; exact HG.out⟩
    · rw [if_neg (by omega)] at HE1
      have hln : ls.length = rs.length := by omega
      have hhn : hs.length = rs.length := by omega
      have hA1 : ((ls.length : Int) != (rs.length : Int)) = false := by simp; omega
      have hB1 : ((hs.length : Int) != (rs.length : Int)) = false := by simp; omega
      clear hA hB
      by_cases hM : 1000 < rs.length
      · as_aux_lemma =>
          rw [if_pos hM] at HE1
          have hM1 : decide ((1000 : Int) < (rs.length : Int)) = true := decide_eq_true (by omega)
          clear hM hln hhn
          go_enter Tryz.func23, Tryz.ntmps23
          go_wp2_with fail
          refine (refuse_any false 1 _ (by decide)).mono ?_
          rintro e w2 ⟨rfl, hw2⟩
          subst hw2
          rw [if_neg (by simp), outc_ok]
          go_wp2_with fail
          refine (refuse_any true 2 _ (by decide)).mono ?_
          rintro e w2 ⟨rfl, hw2⟩
          rw [if_pos rfl, outc_no (by decide)]
          exact ⟨rfl, by rw [← HE1.out, outc_no (by decide)], by rw [hw2]; exact HG.out⟩
      · rw [if_neg (by omega)] at HE1
        have hM1 : decide ((1000 : Int) < (rs.length : Int)) = false := decide_eq_false (by omega)
        have HLN := hide hln
        have HHN := hide hhn
        have hM3 : rs.length ≤ 1000 := by omega
        clear hM hln hhn
        go_enter Tryz.func23, Tryz.ntmps23
        go_wp2_with fail
        refine (refuse_any false 1 _ (by decide)).mono ?_
        rintro e W ⟨rfl, hw2⟩
        subst hw2
        rw [if_neg (by simp), outc_ok]
        go_wp2_with fail
        refine (refuse_any false 2 _ (by decide)).mono ?_
        rintro e w2 ⟨rfl, hw2⟩
        rw [if_neg (by simp), outc_ok]
        have HG2 : Hid (Grow W w2) := hide (by rw [hw2]; exact Grow.refl _)
        clear hw2
        obtain ⟨c0, c1, c2⟩ := three_of (HG2.out.get HW.out)
        go_wp2
        go_loopw [29] (fun iv wr => ∃ k : Nat, k ≤ rs.length ∧ iv = .int .i64 k ∧ Hid (Grow W wr) ∧ Hid (∀ j, j < k → oneErr ⟨rs, ls, hs⟩ j = 0)) (fun iv _ => rs.length - (intOf iv).toNat)
        case atStart => exact ⟨0, by omega, rfl, HG2, hide (fun j h => by omega)⟩
        case round =>
          clear c0 c1 c2
          obtain ⟨k, hkk, rfl, HGr, HD⟩ := hrel
          have HGwr : Hid (Grow w wr) := hide (HG.out.trans HGr.out)
          by_cases hlt : k < rs.length
          · have hlti : (k : Int) < (rs.length : Int) := by omega
            have hk6 : k - 1 < rs.length := Nat.lt_of_le_of_lt (Nat.sub_le _ _) hlt
            have hlk : k < ls.length := by rw [HLN.out]; exact hlt
            have hhk : k < hs.length := by rw [HHN.out]; exact hlt
            have hltl : (k : Int) < (ls.length : Int) := by omega
            have hlth : (k : Int) < (hs.length : Int) := by omega
            obtain ⟨rb, rf, vl, rfl, hrB, hls, c0, c1⟩ : ∃ b' o vl, ro = some ⟨b', o, none⟩ ∧ b' < w.heap.size ∧ readsLabels wr w.heap.size vl rs[k].2 ∧ wr.cell? ⟨b', o + k * 2, none⟩ = some (.int .i64 rs[k].1) ∧ wr.cell? ⟨b', o + k * 2 + 1, none⟩ = some vl := by
              obtain ⟨ao', cp', e, h⟩ := HR.out.keep HGwr.out
              cases e
              exact h k hlt
            obtain ⟨tb, tf, rfl, htB, t0⟩ : ∃ b' o, lo = some ⟨b', o, none⟩ ∧ b' < w.heap.size ∧ w.cell? ⟨b', o + k, none⟩ = some (.int .i64 ls[k]) := by
              obtain ⟨ao', cp', e, h⟩ := HL.out
              cases e
              exact h k hlk
            obtain ⟨bb, bf, rfl, hbB, b0⟩ : ∃ b' o, ho = some ⟨b', o, none⟩ ∧ b' < w.heap.size ∧ w.cell? ⟨b', o + k, none⟩ = some (.bool hs[k]) := by
              obtain ⟨ao', cp', e, h⟩ := HH.out
              cases e
              exact h k hhk
            have hok := HRO.out _ (List.getElem_mem hlt)
            have h1E := oneErr_is hlt HLN.out HHN.out
            obtain ⟨x, HX⟩ : ∃ x : RefL, Hid (rs[k] = x) := ⟨_, hide rfl⟩
            obtain ⟨t, HT⟩ : ∃ t : Int, Hid (ls[k] = t) := ⟨_, hide rfl⟩
            obtain ⟨b, HB⟩ : ∃ b : Bool, Hid (hs[k] = b) := ⟨_, hide rfl⟩
            have HO1 : Hid (oneErr ⟨rs, ls, hs⟩ k = if refErr x ≠ 0 then refErr x else if timeErr t ≠ 0 then 3 else if b = false ∧ t ≠ 0 then 1 else if 0 < k ∧ x.1 ≤ (rs[k - 1]'hk6).1 then 4 else 0) := hide (by rw [h1E, HX.out, HT.out, HB.out])
            have HEK : Hid (oneErr ⟨rs, ls, hs⟩ k ≠ 0 → oneErr ⟨rs, ls, hs⟩ k = E) := hide fun hne => by
              have := firstErr_at (n := rs.length) hlt HD.out hne
              rw [← HE1.out, if_pos (by rw [this]; exact hne), this]
            have hto := HTO.out _ (List.getElem_mem hlk)
            rw [HX.out] at hls c0 hok
            rw [HT.out] at t0 hto
            rw [HB.out] at b0
            have HT0 : Hid (∀ W, Grow w W → W.cell? ⟨tb, tf + k, none⟩ = some (.int .i64 t)) := hide fun W g => (g.cell (p := ⟨tb, _, none⟩) htB).trans t0
            have HB0 : Hid (∀ W, Grow w W → W.cell? ⟨bb, bf + k, none⟩ = some (.bool b)) := hide fun W g => (g.cell (p := ⟨bb, _, none⟩) hbB).trans b0
            obtain ⟨xo, xc, rfl⟩ := readsLabels_len hls
            obtain ⟨V, eV, gV, hV⟩ := laid_at wr #[.int .i64 x.1, .slice xo x.2.length xc] 59
            obtain ⟨d0, d1⟩ := two_of hV
            have HV := hide hV
            have HCR := hide (checkRef_any V x (.slice xo x.2.length xc) (readsLabels_mono (readsLabels_below hls (Below.mono gV HGwr.out.size)) (by have := gV.size; have := HGwr.out.size; omega)) hok)
            have HGV : Hid (Grow W V) := hide (HGr.out.trans gV)
            obtain ⟨P, HPE⟩ : ∃ P, Hid (refErr x = P) := ⟨_, hide rfl⟩
            rw [HPE.out] at HCR HO1
            obtain ⟨b0, b1, b2⟩ := three_of (HGr.out.get HW.out)
            clear gV hV hls hok h1E t0 b0
            go_wp2_with fail
            refine HCR.out.mono ?_
            rintro e w5 ⟨rfl, hg5⟩
            have HGV5 : Hid (Grow V w5) := hide hg5
            have HG5 : Hid (Grow W w5) := hide (HGV.out.trans hg5)
            have HGw5 : Hid (Grow w w5) := hide (HG.out.trans HG5.out)
            clear hg5 HCR eV d0 d1 b0 b1 b2 c0 c1
            by_cases hP : P = 0
            · rw [hP, outc_ok]
              rw [if_neg (by omega)] at HO1
              clear hP
              obtain ⟨b0, b1, b2⟩ := three_of (HG5.out.get HW.out)
              have t0 := HT0.out w5 HGw5.out
              go_wp2_with fail
              refine (checkTime_any t w5).mono ?_
              rintro e w5 ⟨rfl, hw6⟩
              subst hw6
              by_cases hT : timeErr t = 0
              · rw [hT, outc_ok]
                rw [if_neg (by omega)] at HO1
                clear hT
                have f0 := HB0.out w5 HGw5.out
                by_cases hbt : b = false ∧ t ≠ 0
                · as_aux_lemma =>
                    rw [if_pos hbt] at HO1
                    obtain ⟨hb, ht⟩ := hbt
                    subst hb
                    have htn : (t != 0) = true := by simp; exact ht
                    have hEK := HEK.out (by rw [HO1.out]; decide)
                    rw [HO1.out] at hEK
                    have HE2 := hide hEK
                    clear ht hEK
                    go_wp2_with fail
                    refine (refuse_any true 1 w5 (by decide)).mono ?_
                    rintro e w7 ⟨rfl, hw7⟩
                    rw [if_pos rfl, outc_no (by decide)]
                    exact ⟨rfl, by rw [← HE2.out, outc_no (by decide)], by rw [hw7]; exact HGw5.out⟩
                · rw [if_neg hbt] at HO1
                  have hb2 : b = true ∨ (b = false ∧ t = 0) := by
                    cases b with
                    | true => exact .inl rfl
                    | false =>
                      by_cases ht : t = 0
                      · exact .inr ⟨rfl, ht⟩
                      · exact absurd ⟨rfl, ht⟩ hbt
                  clear hbt
                  rcases hb2 with rfl | ⟨rfl, rfl⟩
                  all_goals as_aux_lemma =>
                    go_wp2_with fail
                    refine (refuse_no 1 w5).mono ?_
                    rintro e w5 ⟨rfl, hw7⟩
                    subst hw7
                    obtain ⟨d0, d1⟩ := two_of (HGV5.out.get HV.out)
                    clear t0 f0
                    by_cases hk0 : 0 < k
                    · obtain ⟨e0, hk3, hk4, hk5⟩ : w5.cell? ⟨rb, rf + (k - 1) * 2, none⟩ = some (.int .i64 (rs[k - 1]'hk6).1) ∧ ((k : Int) - 1) < rs.length ∧ (0 : Int) ≤ (k : Int) - 1 ∧ ((k : Int) - 1).toNat = k - 1 := by
                        obtain ⟨ao', cp', e, h⟩ := HR.out.keep HGw5.out
                        cases e
                        obtain ⟨_, _, _, he, _, _, e0, _⟩ := h (k - 1) (by omega)
                        cases he
                        exact ⟨e0, by omega, by omega, by omega⟩
                      obtain ⟨y, HY⟩ : ∃ y : Int, Hid ((rs[k - 1]'hk6).1 = y) := ⟨_, hide rfl⟩
                      rw [HY.out] at e0 HO1
                      have hkd : decide (0 < k) = true := decide_eq_true hk0
                      by_cases hge : x.1 ≤ y
                      · rw [if_pos ⟨hk0, hge⟩] at HO1
                        have hEK := HEK.out (by rw [HO1.out]; decide)
                        rw [HO1.out] at hEK
                        have HE2 := hide hEK
                        have hged : decide (x.1 ≤ y) = true := decide_eq_true hge
                        have hk1 : (1 : Int) ≤ (k : Int) := by omega
                        clear hEK hge
                        go_wp2
                        refine wp_region_free 15 76 mixedR rfl (by decide +kernel) Grow (fun _ _ _ => Grow.trans) (Grow.refl _)
                          (fun i v _ => match i with
                            | 0 => v = .int .i64 k
                            | 1 => v = .bool true
                            | 2 => v = .bool true
                            | 3 => v = .pointer (some ⟨w.heap.size, 0, none⟩)
                            | 4 => v = .slice (some ⟨rb, rf, none⟩) rs.length rc
                            | 5 => v = .int .i64 k
                            | 6 => v = .int .i64 ((k : Int) - 1)
                            | 7 => v = .pointer (some ⟨rb, rf + (k - 1) * 2, none⟩)
                            | 8 => v = .pointer (some ⟨rb, rf + (k - 1) * 2, none⟩)
                            | 9 => v = .int .i64 y
                            | 10 => v = .pointer (some ⟨wr.heap.size, 0, none⟩)
                            | 11 => v = .int .i64 x.1
                            | 12 => v = .bool true
                            | 13 => v = .bool true
                            | _ => False)
                          (fun i v w w' h hg => h) (gaveX 4 w5) (fun ch a w2 hd hq => ?_) (fun i hi o ho a w2 hG hoff hdep => ?_) (fun vals w2 hG hvals => ?_)
                        · obtain ⟨hq1, hq2⟩ := hq
                          simp only [Ending.panicked.injEq] at hq1
                          subst hq1
                          exact ⟨hd, by rw [← HE2.out]; rfl, HGw5.out.trans hq2⟩
                        · have hb5 : Below w5.heap.size w5 w2 := hG.undrew
                          obtain ⟨b0, b1, b2⟩ := three_of (below_block hb5 (HG5.out.get HW.out) (lt_of_block (HG5.out.get HW.out)))
                          obtain ⟨d0, d1⟩ := two_of (below_block hb5 (HGV5.out.get HV.out) (lt_of_block (HGV5.out.get HV.out)))
                          have e1 := (hb5.cell (p := ⟨rb, rf + (k - 1) * 2, none⟩) (Nat.lt_of_lt_of_le hrB HGw5.out.size)).trans e0
                          match i, hi with
                          | 0, _ =>
                            obtain rfl := Option.some.inj ho
                            have o2 := hoff 2 (by decide +kernel)
                            simp at o2
                            simp [opYields, go_sem, o2]
                            exact Grow.refl _
                          | 1, _ =>
                            obtain rfl := Option.some.inj ho
                            have d0 := hdep 0 (by decide +kernel)
                            simp [slotOf, dstOf] at d0
                            simp [opYields, go_sem, d0]
                            exact ⟨Grow.refl _, hk0⟩
                          | 2, _ =>
                            obtain rfl := Option.some.inj ho
                            have d1 := hdep 1 (by decide +kernel)
                            simp [slotOf, dstOf] at d1
                            simp [opYields, go_sem, d1]
                            exact Grow.refl _
                          | 3, _ =>
                            have hwt := gwanted ho (g := 2) (bb := true) (by rfl) (hdep 2 (by decide +kernel))
                            unfold opYields
                            rw [if_pos hwt]
                            obtain rfl := Option.some.inj ho
                            have o1 := hoff 1 (by decide +kernel)
                            simp at o1
                            simp [go_sem, o1]
                            exact Grow.refl _
                          | 4, _ =>
                            have hwt := gwanted ho (g := 2) (bb := true) (by rfl) (hdep 2 (by decide +kernel))
                            unfold opYields
                            rw [if_pos hwt]
                            obtain rfl := Option.some.inj ho
                            have d3 := hdep 3 (by decide +kernel)
                            simp [slotOf, dstOf] at d3
                            simp [go_sem, d3, b0]
                            exact Grow.refl _
                          | 5, _ =>
                            have hwt := gwanted ho (g := 2) (bb := true) (by rfl) (hdep 2 (by decide +kernel))
                            unfold opYields
                            rw [if_pos hwt]
                            obtain rfl := Option.some.inj ho
                            have o2 := hoff 2 (by decide +kernel)
                            simp at o2
                            simp [go_sem, o2]
                            exact Grow.refl _
                          | 6, _ =>
                            have hwt := gwanted ho (g := 2) (bb := true) (by rfl) (hdep 2 (by decide +kernel))
                            unfold opYields
                            rw [if_pos hwt]
                            obtain rfl := Option.some.inj ho
                            have d5 := hdep 5 (by decide +kernel)
                            simp [slotOf, dstOf] at d5
                            simp [go_sem, d5]
                            exact ⟨Grow.refl _, by first|omega|(rw [IntKind.wrap_i64]; omega)⟩
                          | 7, _ =>
                            have hwt := gwanted ho (g := 2) (bb := true) (by rfl) (hdep 2 (by decide +kernel))
                            unfold opYields
                            rw [if_pos hwt]
                            obtain rfl := Option.some.inj ho
                            have d4 := hdep 4 (by decide +kernel)
                            simp [slotOf, dstOf] at d4
                            have d6 := hdep 6 (by decide +kernel)
                            simp [slotOf, dstOf] at d6
                            simp [go_sem, d4, d6, hk3, hk4, hk5, hk1]
                            exact Grow.refl _
                          | 8, _ =>
                            have hwt := gwanted ho (g := 2) (bb := true) (by rfl) (hdep 2 (by decide +kernel))
                            unfold opYields
                            rw [if_pos hwt]
                            obtain rfl := Option.some.inj ho
                            have d7 := hdep 7 (by decide +kernel)
                            simp [slotOf, dstOf] at d7
                            simp [go_sem, d7]
                            exact Grow.refl _
                          | 9, _ =>
                            have hwt := gwanted ho (g := 2) (bb := true) (by rfl) (hdep 2 (by decide +kernel))
                            unfold opYields
                            rw [if_pos hwt]
                            obtain rfl := Option.some.inj ho
                            have d8 := hdep 8 (by decide +kernel)
                            simp [slotOf, dstOf] at d8
                            simp [go_sem, d8, e1]
                            exact Grow.refl _
                          | 10, _ =>
                            have hwt := gwanted ho (g := 2) (bb := true) (by rfl) (hdep 2 (by decide +kernel))
                            unfold opYields
                            rw [if_pos hwt]
                            obtain rfl := Option.some.inj ho
                            have o3 := hoff 3 (by decide +kernel)
                            simp at o3
                            simp [go_sem, o3]
                            exact Grow.refl _
                          | 11, _ =>
                            have hwt := gwanted ho (g := 2) (bb := true) (by rfl) (hdep 2 (by decide +kernel))
                            unfold opYields
                            rw [if_pos hwt]
                            obtain rfl := Option.some.inj ho
                            have d10 := hdep 10 (by decide +kernel)
                            simp [slotOf, dstOf] at d10
                            simp [go_sem, d10, d0]
                            exact Grow.refl _
                          | 12, _ =>
                            have hwt := gwanted ho (g := 2) (bb := true) (by rfl) (hdep 2 (by decide +kernel))
                            unfold opYields
                            rw [if_pos hwt]
                            obtain rfl := Option.some.inj ho
                            have d9 := hdep 9 (by decide +kernel)
                            simp [slotOf, dstOf] at d9
                            have d11 := hdep 11 (by decide +kernel)
                            simp [slotOf, dstOf] at d11
                            simp [go_sem, d9, d11, hged]
                            exact Grow.refl _
                          | 13, _ =>
                            obtain rfl := Option.some.inj ho
                            have d2 := hdep 2 (by decide +kernel)
                            simp [slotOf, dstOf] at d2
                            have d12 := hdep 12 (by decide +kernel)
                            simp [slotOf, dstOf] at d12
                            simp [opYields, go_sem, d2, d12]
                            exact Grow.refl _
                          | 14, _ =>
                            obtain rfl := Option.some.inj ho
                            have d13 := hdep 13 (by decide +kernel)
                            simp [slotOf, dstOf] at d13
                            simp [opYields, go_sem, d13]
                            refine (refuse_any true 4 w2 (by decide)).mono ?_
                            rintro e w3 ⟨rfl, rfl⟩
                            rw [if_pos rfl, outc_no (by decide)]
                            exact ⟨rfl, hb5⟩
                          | k + 15, h => exact absurd h (by omega)
                        · exact absurd (hvals 14 (by omega)) (by simp)
                      · rw [if_neg (fun h => hge h.2)] at HO1
                        have hged : decide (x.1 ≤ y) = false := decide_eq_false hge
                        clear hk0 hge
                        go_wp2
                        go_quiet ((go_at_call 48; exact Calls.quiet_of_same (refuse_no 4 _)))
                        go_wp2
                        go_roundw
                        case rel => exact ⟨k + 1, by omega, by go_num, hide (HG5.out.trans (grow_drewR _ _)), hide (fun j hj => by
                          by_cases e : j = k
                          · subst e; exact HO1.out
                          · exact HD.out j (by omega))⟩
                        case measure => simp [intOf]; omega
                    · rw [if_neg (fun h => hk0 h.1)] at HO1
                      have hkd : decide (0 < k) = false := decide_eq_false hk0
                      clear hk0
                      go_wp2
                      go_quiet ((go_at_call 48; exact Calls.quiet_of_same (refuse_no 4 _)))
                      go_wp2
                      go_roundw
                      case rel => exact ⟨k + 1, by omega, by go_num, hide (HG5.out.trans (grow_drewR _ _)), hide (fun j hj => by
                        by_cases e : j = k
                        · subst e; exact HO1.out
                        · exact HD.out j (by omega))⟩
                      case measure => simp [intOf]; omega
              · rw [if_pos hT] at HO1
                have hEK := HEK.out (by rw [HO1.out]; decide)
                rw [HO1.out] at hEK
                have hT3 : timeErr t = 3 := (timeErr_or t).resolve_left hT
                rw [outc_no hT]
                exact ⟨rfl, by rw [← hEK, hT3, outc_no (by decide)], HGw5.out⟩
            · rw [if_pos hP] at HO1
              have hEK := HEK.out (by rw [HO1.out]; exact hP)
              rw [HO1.out] at hEK
              rw [outc_no hP]
              exact ⟨rfl, by rw [← hEK, outc_no hP], HGw5.out⟩
          · obtain rfl : k = rs.length := by omega
            have hF := firstErr_none HD.out
            rw [if_neg (by omega)] at HE1
            obtain ⟨c0, c1, c2⟩ := three_of (HGr.out.get HW.out)
            have HCT := hide (checkTwice_any wr _ rs ((HR.out.keep HGwr.out).more HGwr.out.size) hM3 HRO.out (fun x hx => by
              obtain ⟨j, hj, rfl⟩ := List.getElem_of_mem hx
              have := oneErr_ref (HD.out j hj)
              simpa [hj] using this))
            rw [HE1.out] at HCT
            clear HD hF
            go_wp2_with fail
            refine HCT.out.mono ?_
            rintro e w5 ⟨rfl, hg5⟩
            have HG5 : Hid (Grow w w5) := hide (HGwr.out.trans hg5)
            clear hg5 HCT
            by_cases hE : E = 0
            · have HEZ := hide hE
              rw [hE, outc_ok]
              clear hE
              go_wp2
              go_end0
              exact ⟨by rw [HEZ.out, outc_ok], HG5.out⟩
            · rw [outc_no hE]
              exact ⟨rfl, by rw [outc_no hE], HG5.out⟩
set_option maxRecDepth 20000 in
set_option maxHeartbeats 2000000 in
theorem check1_any (w : World) (rb : Nat) (vr vl vh : Value) (k : Knw) (hrb : w.heap[rb]? = some (.cells #[vr, vl, vh] 26 (0, 0))) (hv : readsKnw w w.heap.size vr vl vh k) (hok : okKnw k) :
    Calls Tryz.prog 41 #[.pointer (some ⟨rb, 0, none⟩)] w (worked fun E w' => E = knwErr k ∧ Grow w w') := by
  have HC := hide (checkKnown_any w vr vl vh k hv hok)
  obtain ⟨⟨ro, rc, rfl, _⟩, ⟨lo, lc, rfl, _⟩, ⟨ho, hc, rfl, _⟩⟩ := hv
  obtain ⟨c0, c1, c2⟩ := three_of hrb
  obtain ⟨E, HE⟩ : ∃ E, Hid (knwErr k = E) := ⟨_, hide rfl⟩
  rw [HE.out] at HC ⊢
  clear hrb
  go_enter Tryz.func41, Tryz.ntmps41
  go_wp2_with fail
  refine HC.out.mono ?_
  rintro e w1 ⟨rfl, hg1⟩
  have HG1 := hide hg1
  clear hg1 HC
  by_cases h0 : E = 0
  · have HZ := hide h0
    rw [h0, outc_ok]
    clear h0
    go_wp2
    go_end0
    exact ⟨0, outc_ok.symm, HZ.out.symm, HG1.out⟩
  · rw [outc_no h0]
    exact ⟨rfl, E, (outc_no h0).symm, rfl, HG1.out⟩
set_option maxRecDepth 20000 in
set_option maxHeartbeats 2000000 in
theorem kcheck_any (w : World) (vr vl vh : Value) (k : Knw) (hv : readsKnw w w.heap.size vr vl vh k) (hok : okKnw k) :
    Calls Tryz.prog 15 #[.agg #[vr, vl, vh]] w fun e w' => e = .returned (.int .i64 (knwErr k)) ∧ Grow w w' := by
  have hcf : ∀ (args : Array Value) (w : World), (callFunc 41 args).run Tryz.prog w = .ok (.enter 41 args) w := fun args w => by simp [go_sem]
  have hmf : ∀ (fn : Fn) (first cap : Array Value) (w : World), (Instr.makeFunc fn first cap).run Tryz.prog w = .ok (.func fn first cap) w := fun _ _ _ _ => rfl
  obtain ⟨V1, e1, g1, b1⟩ := laid_at w #[vr, vl, vh] 26
  obtain ⟨V2, e2, g2, b2⟩ := laid_at V1 #[.int .i64 0] 30
  have s1 : V1.heap.size = w.heap.size + 1 := by rw [← e1]; simp
  have HW := hide (check1_any V2 w.heap.size vr vl vh k (g2.get b1) ((hv.keep (g1.trans g2)).more (g1.trans g2).size) hok)
  have HB2 := hide b2
  have H02 := hide (g1.trans g2)
  have E2 := hide e2
  have HAT := hide (attempt_any V1 41 #[.pointer (some ⟨w.heap.size, 0, none⟩)] (fun E w' => E = knwErr k ∧ Grow V2 w') hcf (by
    rw [E2.out]
    refine HW.out.mono ?_
    rintro e w' ⟨E, he, h1, h2⟩
    exact ⟨E, he, ⟨h1, h2⟩, h2.get HB2.out⟩))
  obtain ⟨⟨ro, rc, rfl, _⟩, ⟨lo, lc, rfl, _⟩, ⟨ho, hc, rfl, _⟩⟩ := hv
  clear b1 b2 g1 g2 e2 HW hok
  go_enter Tryz.func15, Tryz.ntmps15
  go_wp2_with fail
  refine HAT.out.mono ?_
  rintro e w2 ⟨E, w1, rfl, ⟨rfl, hg⟩, hw2⟩
  have hb2 : Grow w w2 := by
    rw [hw2]
    exact Below.setCell (H02.out.trans hg) (by show w.heap.size ≤ V1.heap.size; omega) _
  have HG2 := hide hb2
  clear hw2 hb2 hg HAT
  go_wp2
  go_ret
  exact ⟨rfl, HG2.out⟩
end Go.Proofs.YtkaeogldielkfaaGreat.Rc
namespace Go.Proofs.YtkaeogldielkfaaGreat.Rc
open Go.RowKit Go.Maps Lb
/-- A ref that is kept, and the value of its labels. -/
abbrev KV := Kp × Value
def kepC : List KV → List Value
  | [] => []
  | p :: l => .int .i64 p.1.1.1 :: p.2 :: .int .i64 p.1.2.1 :: .bool p.1.2.2 :: kepC l
theorem kepC_length (l : List KV) : (kepC l).length = l.length * 4 := by
  induction l with
  | nil => rfl
  | cons x l ih => simp [kepC, ih]; omega
theorem kepC_append (a b : List KV) : kepC (a ++ b) = kepC a ++ kepC b := by
  induction a with
  | nil => rfl
  | cons x l ih => simp [kepC, ih]
theorem kepC_at : ∀ (l : List KV) (i : Nat) (h : i < l.length), (kepC l)[i * 4]? = some (.int .i64 l[i].1.1.1) ∧ (kepC l)[i * 4 + 1]? = some l[i].2 ∧ (kepC l)[i * 4 + 2]? = some (.int .i64 l[i].1.2.1) ∧ (kepC l)[i * 4 + 3]? = some (.bool l[i].1.2.2)
  | [], i, h => by simp at h
  | x :: l, 0, h => by simp [kepC]
  | x :: l, i + 1, h => by
    have := kepC_at l i (by simpa using h)
    have e0 : (i + 1) * 4 = i * 4 + 4 := by omega
    rw [e0]
    simpa [kepC] using this
/-- Nothing has turned but blocks of a kind, and rows and memories alone. -/
structure KeptR (F : Nat → Prop) (w w' : World) : Prop where
  os : w'.os = w.os
  tape : w'.tape = w.tape
  output : w'.output = w.output
  size : w.heap.size ≤ w'.heap.size
  block : ∀ k, k < w.heap.size → ¬ F k → w'.heap[k]? = w.heap[k]?
  typed : ∀ (k : Nat) (c : Array Value) (t : TypeId) (fr : Nat × Nat), w.heap[k]? = some (.cells c t fr) → t ≠ 96 → t ≠ 88 → t ≠ 30 → w'.heap[k]? = some (.cells c t fr)
theorem KeptR.refl (F : Nat → Prop) (w : World) : KeptR F w w := ⟨rfl, rfl, rfl, Nat.le_refl _, fun _ _ _ => rfl, fun _ _ _ _ h _ _ _ => h⟩
theorem KeptR.trans {F : Nat → Prop} {a b c : World} (h : KeptR F a b) (k : KeptR F b c) : KeptR F a c :=
  ⟨k.os.trans h.os, k.tape.trans h.tape, k.output.trans h.output, Nat.le_trans h.size k.size, fun i hi hn => (k.block i (Nat.lt_of_lt_of_le hi h.size) hn).trans (h.block i hi hn), fun i x t fr hx h1 h2 h3 => k.typed i x t fr (h.typed i x t fr hx h1 h2 h3) h1 h2 h3⟩
theorem KeptR.mono {F G : Nat → Prop} {w w' : World} (h : KeptR F w w') (hFG : ∀ k, F k → G k) : KeptR G w w' := ⟨h.os, h.tape, h.output, h.size, fun k hk hn => h.block k hk fun hf => hn (hFG k hf), h.typed⟩
theorem KeptR.grow {F : Nat → Prop} {w w' : World} (g : Grow w w') : KeptR F w w' := ⟨g.os, g.tape, g.output, g.size, fun k hk _ => g.block k hk, fun k c t fr hx _ _ _ => g.get hx⟩
theorem KeptR.below {F : Nat → Prop} {B : Nat} {w w' : World} (h : KeptR F w w') (hF : ∀ k, F k → B ≤ k) (hB : B ≤ w.heap.size) : Below B w w' := ⟨h.os, h.tape, h.output, h.size, fun k hk => h.block k (by omega) fun hf => by have := hF k hf; omega⟩
theorem KeptR.drewN {F : Nat → Prop} (w : World) (n : Nat) : KeptR F w (w.drewN n) := ⟨rfl, rfl, rfl, Nat.le_refl _, fun _ _ _ => rfl, fun _ _ _ _ h _ _ _ => h⟩
theorem KeptR.grownRow {F : Nat → Prop} {B size n : Nat} {w w' : World} {v : Value} {xs : List Value} (h : w.ownsRow B 96 size v n xs) (g : w.grownBy w' v.ownBlock) (hF : ∀ k, v.ownBlock = some k → F k) : KeptR F w w' :=
  ⟨g.os, g.tape, g.output, g.size, fun k hk hn => g.block k hk (fun e => hn (hF k e.symm)), fun k c t fr hx h1 _ _ => grown_block g hx (own_apart h hx (Ne.symm h1))⟩
theorem KeptR.grownMap {F : Nat → Prop} {mb : Nat} {w w' : World} {es : Array MapEntry} {ck : Nat} (h : w.heap[mb]? = some (.map es ck)) (g : w.grownBy w' (some mb)) (hF : F mb) : KeptR F w w' :=
  ⟨g.os, g.tape, g.output, g.size, fun k hk hn => g.block k hk (fun e => hn (by cases e; exact hF)), fun k c t fr hx _ _ _ => grown_block g hx (fun e => by cases e; rw [h] at hx; cases hx)⟩
theorem KeptR.setMem {F : Nat → Prop} {b o : Nat} {w : World} {c : Array Value} {t : TypeId} {fr : Nat × Nat} (h : w.heap[b]? = some (.cells c t fr)) (ht : t = 96 ∨ t = 88 ∨ t = 30) (hF : F b) (u : Value) : KeptR F w (w.setCell ⟨b, o, none⟩ u) :=
  ⟨rfl, rfl, rfl, by simp [World.setCell], fun k hk hn => Below.heap_setCell _ _ _ _ (fun e : k = b => hn (by rw [e]; exact hF)), fun k x s fs hx h1 h2 h3 => (Below.heap_setCell _ _ _ _ (fun e : k = b => by
    subst e; rw [h] at hx; cases hx
    rcases ht with e | e | e
    · exact h1 e
    · exact h2 e
    · exact h3 e)).trans hx⟩
/-- Labels that can be read, whatever becomes of rows and memories from block B on. -/
def SL (B : Nat) (w : World) (v : Value) (ls : List Lab) : Prop := ∀ w', KeptR (fun k => B ≤ k) w w' → readsLabels w' w'.heap.size v ls
theorem SL.keep {B : Nat} {w w' : World} {v : Value} {ls : List Lab} (h : SL B w v ls) (k : KeptR (fun k => B ≤ k) w w') : SL B w' v ls := fun w2 h2 => h w2 (k.trans h2)
theorem SL.reads {B : Nat} {w : World} {v : Value} {ls : List Lab} (h : SL B w v ls) : readsLabels w w.heap.size v ls := h w (KeptR.refl _ _)
theorem SL.more {B B' : Nat} {w : World} {v : Value} {ls : List Lab} (h : SL B w v ls) (hB : B ≤ B') : SL B' w v ls := fun w2 h2 => h w2 (h2.mono fun k hk => by omega)
theorem SL.of_reads {B : Nat} {w : World} {v : Value} {ls : List Lab} (h : readsLabels w B v ls) (hB : B ≤ w.heap.size) : SL B w v ls := fun w2 h2 =>
  readsLabels_mono (readsLabels_below h (h2.below (fun k hk => hk) hB)) (by have := h2.size; omega)
/-! ### what the maps tell -/
def refMap (K : List Kp) (D : DataW Unit) : Prop := IsMap D ∧ ∀ n : Int, has D (.int .i64 n) = (idxNum K n).isSome ∧ D.atKey (.int .i64 n) (.lit (.int .i64 0)) = .lit (.int .i64 (((idxNum K n).getD 0 : Nat) : Int))
def txtMap (K : List Kp) (D : DataW Unit) : Prop := IsMap D ∧ ∀ T : List UInt8, has D (.string T) = (idxTxt K T).isSome ∧ D.atKey (.string T) (.lit (.int .i64 0)) = .lit (.int .i64 (((idxTxt K T).getD 0 : Nat) : Int))
theorem refMap_nil : refMap [] (.map []) := ⟨isMap_empty, fun n => ⟨rfl, by simp [DataW.atKey, idxNum]⟩⟩
theorem txtMap_nil : txtMap [] (.map []) := ⟨isMap_empty, fun n => ⟨rfl, by simp [DataW.atKey, idxTxt]⟩⟩
theorem refMap_put {K : List Kp} {D : DataW Unit} {x : Kp} (h : refMap K D) (hn : idxNum K x.1.1 = none) : refMap (K ++ [x]) (D.put (.int .i64 x.1.1) (.lit (.int .i64 (K.length : Int)))) := by
  obtain ⟨hm, h⟩ := h
  refine ⟨hm.put _ _, fun n => ?_⟩
  rw [idxNum_snoc]
  by_cases e : x.1.1 = n
  · subst e
    rw [hn, if_pos rfl]
    exact ⟨has_put_same hm (by simp [WideAt.IsKeyLit]) _, atKey_put_same hm (by simp [WideAt.IsKeyLit]) _ _⟩
  · have hne : Lit.int .i64 n ≠ Lit.int .i64 x.1.1 := fun h => e (by simpa using h.symm)
    rw [if_neg e, Option.or_none, has_put_other hne, atKey_put_other hne]
    exact h n
theorem txtMap_put {K : List Kp} {D : DataW Unit} {x : Kp} (h : txtMap K D) (hn : idxTxt K (textAns x.1.2) = none) : txtMap (K ++ [x]) (D.put (.string (textAns x.1.2)) (.lit (.int .i64 (K.length : Int)))) := by
  obtain ⟨hm, h⟩ := h
  refine ⟨hm.put _ _, fun T => ?_⟩
  rw [idxTxt_snoc]
  by_cases e : textAns x.1.2 = T
  · subst e
    rw [hn, if_pos rfl]
    exact ⟨has_put_same hm (by simp [WideAt.IsKeyLit]) _, atKey_put_same hm (by simp [WideAt.IsKeyLit]) _ _⟩
  · have hne : Lit.string T ≠ Lit.string (textAns x.1.2) := fun h => e (by simpa using h.symm)
    rw [if_neg e, Option.or_none, has_put_other hne, atKey_put_other hne]
    exact h T
/-! ### the memory -/
abbrev refsM (w : World) (mb n : Nat) (D : DataW Unit) : Prop := w.ownsMap Tryz.prog 3 (plainElem Tryz.prog 3) mb n D
abbrev textM (w : World) (tb n : Nat) (D : DataW Unit) : Prop := w.ownsMap Tryz.prog 9 (plainElem Tryz.prog 3) tb n D
/-- Block b is a memory that holds K; its blocks are of a kind F. -/
structure memP (w : World) (B : Nat) (F : Nat → Prop) (b : Nat) (K : List Kp) (v : Value) (mb tb : Nat) (ps : List KV) (D1 D2 : DataW Unit) : Prop where
  kept : ps.map (·.1) = K
  at' : w.heap[b]? = some (.cells #[v, .map (some mb), .map (some tb)] 88 (0, 0))
  row : w.ownsRow B 96 4 v K.length (kepC ps)
  m1 : refsM w mb K.length D1
  m2 : textM w tb K.length D2
  ne : mb ≠ tb
  fb : F b
  f1 : F mb
  f2 : F tb
  fv : ∀ g, v.ownBlock = some g → F g
  d1 : refMap K D1
  d2 : txtMap K D2
  labs : ∀ p ∈ ps, SL B w p.2 p.1.1.2
  len : K.length ≤ 2000
def memJ (w : World) (B : Nat) (F : Nat → Prop) (b : Nat) (K : List Kp) : Prop := ∃ v mb tb ps D1 D2, memP w B F b K v mb tb ps D1 D2
theorem memP.keep {w w' : World} {B : Nat} {F : Nat → Prop} {b : Nat} {K : List Kp} {v : Value} {mb tb : Nat} {ps : List KV} {D1 D2 : DataW Unit} (h : memP w B F b K v mb tb ps D1 D2) (hk : ∀ k, F k → k < w.heap.size → w'.heap[k]? = w.heap[k]?) (hB : KeptR (fun k => B ≤ k) w w') : memP w' B F b K v mb tb ps D1 D2 := by
  refine ⟨h.kept, (hk b h.fb (lt_of_block h.at')).trans h.at', own_keep h.row fun g hg => hk g (h.fv g hg) (h.row.lt g hg).2, ?_, ?_, h.ne, h.fb, h.f1, h.f2, h.fv, h.d1, h.d2, fun p hp => (h.labs p hp).keep hB, h.len⟩
  · obtain ⟨es, ck, hb, r⟩ := h.m1
    exact ⟨es, ck, (hk mb h.f1 (lt_of_block hb)).trans hb, r⟩
  · obtain ⟨es, ck, hb, r⟩ := h.m2
    exact ⟨es, ck, (hk tb h.f2 (lt_of_block hb)).trans hb, r⟩
theorem memP.grow {w w' : World} {B : Nat} {F : Nat → Prop} {b : Nat} {K : List Kp} {v : Value} {mb tb : Nat} {ps : List KV} {D1 D2 : DataW Unit} (h : memP w B F b K v mb tb ps D1 D2) (g : Grow w w') : memP w' B F b K v mb tb ps D1 D2 :=
  h.keep (fun k _ hk => g.block k hk) (KeptR.grow g)
theorem memP.mono {w : World} {B : Nat} {F G : Nat → Prop} {b : Nat} {K : List Kp} {v : Value} {mb tb : Nat} {ps : List KV} {D1 D2 : DataW Unit} (h : memP w B F b K v mb tb ps D1 D2) (hFG : ∀ k, F k → k < w.heap.size → G k) : memP w B G b K v mb tb ps D1 D2 := by
  obtain ⟨es, ck, h1, _⟩ := id h.m1
  obtain ⟨es2, ck2, h2, _⟩ := id h.m2
  exact ⟨h.kept, h.at', h.row, h.m1, h.m2, h.ne, hFG _ h.fb (lt_of_block h.at'), hFG _ h.f1 (lt_of_block h1), hFG _ h.f2 (lt_of_block h2), fun g hg => hFG g (h.fv g hg) (h.row.lt g hg).2, h.d1, h.d2, h.labs, h.len⟩
theorem memJ.grow {w w' : World} {B : Nat} {F : Nat → Prop} {b : Nat} {K : List Kp} (h : memJ w B F b K) (g : Grow w w') : memJ w' B F b K := by
  obtain ⟨v, mb, tb, ps, D1, D2, h⟩ := h
  exact ⟨v, mb, tb, ps, D1, D2, h.grow g⟩
theorem memJ.keep {w w' : World} {B : Nat} {F : Nat → Prop} {b : Nat} {K : List Kp} (h : memJ w B F b K) (hk : ∀ k, F k → k < w.heap.size → w'.heap[k]? = w.heap[k]?) (hB : KeptR (fun k => B ≤ k) w w') : memJ w' B F b K := by
  obtain ⟨v, mb, tb, ps, D1, D2, h⟩ := h
  exact ⟨v, mb, tb, ps, D1, D2, h.keep hk hB⟩
theorem memJ.mono {w : World} {B : Nat} {F G : Nat → Prop} {b : Nat} {K : List Kp} (h : memJ w B F b K) (hFG : ∀ k, F k → k < w.heap.size → G k) : memJ w B G b K := by
  obtain ⟨v, mb, tb, ps, D1, D2, h⟩ := h
  exact ⟨v, mb, tb, ps, D1, D2, h.mono hFG⟩
/-- Cells of a row of kept ones. -/
theorem memP.cells {w : World} {B : Nat} {F : Nat → Prop} {b : Nat} {K : List Kp} {v : Value} {mb tb : Nat} {ps : List KV} {D1 D2 : DataW Unit} (h : memP w B F b K v mb tb ps D1 D2) {i : Nat} (hi : i < K.length) :
    ∃ g cap lv, v = .slice (some ⟨g, 0, none⟩) K.length cap ∧ F g ∧ B ≤ g ∧ g < w.heap.size ∧ w.cell? ⟨g, i * 4, none⟩ = some (.int .i64 K[i].1.1) ∧ w.cell? ⟨g, i * 4 + 1, none⟩ = some lv ∧ w.cell? ⟨g, i * 4 + 2, none⟩ = some (.int .i64 K[i].2.1) ∧ w.cell? ⟨g, i * 4 + 3, none⟩ = some (.bool K[i].2.2) ∧ SL B w lv K[i].1.2 ∧
      (∀ o, w.frozen? ⟨g, o, none⟩ = false) := by
  obtain ⟨hpk, _, hrow, _, _, _, _, _, _, hfv, _, _, hlab, _⟩ := h
  subst hpk
  rcases id hrow.2 with ⟨_, h0⟩ | ⟨g, cap, cur, r1, r2, r3, r4, r5, r6, r7⟩
  · omega
  · have hi2 : i < ps.length := by simpa using hi
    have hc := World.ownsRow.cells hrow (g := g) (by rw [r1]; rfl)
    obtain ⟨k0, k1, k2, k3⟩ := kepC_at ps i hi2
    have c0 := hc _ _ k0
    have c1 := hc _ _ k1
    have c2 := hc _ _ k2
    have c3 := hc _ _ k3
    refine ⟨g, cap, ps[i].2, r1, hfv g (by rw [r1]; rfl), r2, lt_of_block r3, ?_, ?_, ?_, ?_, ?_, fun o => by simp [World.frozen?, r3]⟩
    · rw [Addr.add_lit] at c0; simpa using c0
    · rw [Addr.add_lit] at c1; simpa using c1
    · rw [Addr.add_lit] at c2; simpa using c2
    · rw [Addr.add_lit] at c3; simpa using c3
    · have := hlab _ (List.getElem_mem hi2)
      simpa using this
end Go.Proofs.YtkaeogldielkfaaGreat.Rc
