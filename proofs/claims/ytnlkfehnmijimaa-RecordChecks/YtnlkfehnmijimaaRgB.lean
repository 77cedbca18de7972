/- record: no two refs with the same labels. -/
import Derived.Laws.OwnMore
import Derived.Test.YtnlkfehnmijimaaProg
import Derived.Test.YtnlkfehnmijimaaKit
import Derived.Test.YtnlkfehnmijimaaSpec
import Derived.Test.YtnlkfehnmijimaaReg
import Derived.Test.YtnlkfehnmijimaaLRow
import Derived.Test.YtnlkfehnmijimaaLTwi
import Derived.Test.YtnlkfehnmijimaaLTxt
import Derived.Test.YtnlkfehnmijimaaRcA
import Derived.Test.YtnlkfehnmijimaaRcM
import Derived.Test.YtnlkfehnmijimaaRcN
import Derived.Test.YtnlkfehnmijimaaRgA
import Derived.Maps.Own
import Derived.Maps.OwnOps
import Derived.Maps.OwnSet
import Derived.Maps.Views
set_option linter.unusedVariables false
set_option linter.unusedSimpArgs false
namespace Go.Proofs.Ytnlkfehnmijimaa.Rc
open Go.RowKit Go.Maps Lb
open Go.WideMaps (keyOf_string_mk)
attribute [local go_sem] bs_size bs_toList bs_append bs_get bs_extract

theorem text_short {l : List Lab} (h : checkB l = 0) : (textAns l).length ≤ 10000 := by
  obtain ⟨hl, hs⟩ := check_small h
  rw [textAns_ok h]
  have h1 := escB_le (valueB l ownN)
  have h2 := valueB_le (l := l) (n := ownN) (m := 100) fun x hx => (hs x hx).2
  have h3 := join_len (othersB l) [44]
  have h4 := lens_le (othersB l) 300 (othersB_short hs)
  have h5 := othersB_len l
  unfold Lb.textB
  split
  · omega
  · simp only [List.length_append, List.length_cons, List.length_nil] at h3 ⊢
    omega

set_option maxRecDepth 20000 in
set_option maxHeartbeats 2000000 in
theorem textOf_any (w : World) (x : RefL) (vl : Value) (hv : readsLabels w w.heap.size vl x.2) (hx : okRef x) :
    Calls Try.prog 63 #[.agg #[.int .i64 x.1, vl]] w fun e w' => e = .returned (.string (bs (textAns x.2))) ∧ Grow w w' := by
  obtain ⟨x1, ls⟩ := x
  obtain ⟨h0, h1, hl, hin⟩ := hx
  simp only at hv h0 h1 hl hin ⊢
  obtain ⟨lo, lc, rfl⟩ := readsLabels_len hv
  obtain ⟨W, eW, gW, hW⟩ := laid_at w #[.int .i64 x1, .slice lo ls.length lc] 53
  obtain ⟨c0, c1⟩ := two_of hW
  have HG := hide gW
  have HCK := hide (text_any W (.slice lo ls.length lc) ls (readsLabels_mono (readsLabels_below hv gW) gW.size) hl hin)
  generalize textAns ls = T at HCK
  generalize checkB ls = ce at HCK
  clear gW hW hv hin
  go_enter Try.func63, Try.ntmps63
  go_wp2_with fail
  refine HCK.out.mono ?_
  rintro e w1 ⟨rfl, hw1⟩
  have HG1 : Hid (Grow w w1) := hide (HG.out.trans hw1)
  clear hw1
  go_wp2
  go_ret
  exact ⟨rfl, HG1.out⟩

/-- The texts that were met. -/
def metT (l : List RefL) (k : Nat) : List Lit := (l.take k).map fun x => .string (textAns x.2)
theorem metT_succ {l : List RefL} {k : Nat} (h : k < l.length) : metT l (k + 1) = metT l k ++ [.string (textAns l[k].2)] := by
  unfold metT
  rw [List.take_succ_eq_append_getElem h, List.map_append]; rfl
theorem metT_key (l : List RefL) (k : Nat) : ∀ x ∈ metT l k, WideAt.IsKeyLit x := by
  intro x hx
  obtain ⟨y, _, rfl⟩ := List.mem_map.1 hx
  simp [WideAt.IsKeyLit]
theorem metT_has {l : List RefL} {k : Nat} {s : List UInt8} : Maps.has (setOf (H := Unit) (.agg []) (metT l k)) (.string s) = true ↔ ∃ j, ∃ (h : j < l.length), j < k ∧ textAns l[j].2 = s := by
  rw [has_setOf _ _ _ (metT_key l k), List.any_eq_true]
  constructor
  · rintro ⟨x, hx, he⟩
    obtain ⟨y, hy, rfl⟩ := List.mem_map.1 hx
    obtain ⟨j, hj, rfl⟩ := List.getElem_of_mem hy
    have hj' := hj
    rw [List.length_take] at hj'
    refine ⟨j, by omega, by omega, ?_⟩
    rw [List.getElem_take] at he
    simpa [Lit.sameKey] using he
  · rintro ⟨j, hj, hjk, rfl⟩
    refine ⟨.string (textAns l[j].2), List.mem_map.2 ⟨l[j], ?_, rfl⟩, by simp [Lit.sameKey]⟩
    rw [List.mem_take_iff_getElem]
    exact ⟨j, by omega, rfl⟩
theorem grownG {w w' : World} (h : Grow w w') : w.grownBy w' none := ⟨h.os, h.tape, h.output, h.size, fun i hi _ => h.block i hi⟩

set_option maxRecDepth 20000 in
set_option maxHeartbeats 4000000 in
theorem checkTwice_any (w : World) (v : Value) (l : List RefL) (hv : readsRefs w w.heap.size v l) (hlen : l.length ≤ 1000) (hok : ∀ x ∈ l, okRef x) (hze : ∀ x ∈ l, refErr x = 0) :
    Calls Try.prog 50 #[v] w fun e w' => e = outc (if dupB l = true then 6 else 0) ∧ Grow w w' := by
  obtain ⟨E, HE⟩ : ∃ E, Hid ((if dupB l = true then 6 else 0) = E) := ⟨_, hide rfl⟩
  rw [HE.out]
  obtain ⟨ao, cp, hvv, _⟩ := id hv
  subst hvv
  have HV := hide hv
  have HOK := hide hok
  have HZ := hide hze
  clear hv hok hze
  have hmm := @run_makeMap Try.prog
  go_enter Try.func50, Try.ntmps50
  go_wp2
  go_loopw [11] (fun i wr => ∃ k : Nat, k ≤ l.length ∧ i = .int .i64 k ∧ Hid (wr.ownsMap Try.prog 9 unitElem w.heap.size k (setOf (H := Unit) (.agg []) (metT l k))) ∧ Hid (Grow w wr) ∧ w.heap.size + 1 ≤ wr.heap.size ∧ Hid (∀ i j (hi : i < l.length) (hj : j < l.length), i < j → j < k → l[i].2 ≠ l[j].2)) (fun i _ => l.length - (intOf i).toNat)
  case atStart => exact ⟨0, by omega, rfl, hide (World.ownsMap_made _ _ _ _), hide ((Below.refl _ _).alloc (Nat.le_refl _) _), by simp, hide (fun _ j _ _ _ h => by omega)⟩
  case round =>
    obtain ⟨k, hk, rfl, HM, HGr, hws, HD⟩ := hrel
    by_cases hlt : k < l.length
    · have hlti : (k : Int) < (l.length : Int) := by omega
      obtain ⟨rb, rf, vl, rfl, hrB, hls, c0, c1⟩ : ∃ b' o vl, ao = some ⟨b', o, none⟩ ∧ b' < w.heap.size ∧ readsLabels wr w.heap.size vl l[k].2 ∧ wr.cell? ⟨b', o + k * 2, none⟩ = some (.int .i64 l[k].1) ∧ wr.cell? ⟨b', o + k * 2 + 1, none⟩ = some vl := by
        obtain ⟨ao', cp', e, h⟩ := HV.out.keep HGr.out
        cases e
        exact h k hlt
      have hokx := HOK.out _ (List.getElem_mem hlt)
      obtain ⟨_, hnk, hck⟩ := refErr_zero (HZ.out _ (List.getElem_mem hlt))
      have hTs := text_short hck
      obtain ⟨x, HX⟩ : ∃ x : RefL, Hid (l[k] = x) := ⟨_, hide rfl⟩
      rw [HX.out] at hls c0 hokx hTs hck hnk
      have HCK := hide hck
      have HNK := hide hnk
      obtain ⟨xo, xc, rfl⟩ := readsLabels_len hls
      obtain ⟨V, eV, gV, hV⟩ := laid_at wr #[.int .i64 x.1, .slice xo x.2.length xc] 53
      obtain ⟨d0, d1⟩ := two_of hV
      have HCR := hide (textOf_any V x (.slice xo x.2.length xc) (readsLabels_mono (readsLabels_below hls (Below.mono gV HGr.out.size)) (by have := gV.size; have := HGr.out.size; omega)) hokx)
      obtain ⟨T, HT⟩ : ∃ T, Hid (textAns x.2 = T) := ⟨_, hide rfl⟩
      rw [HT.out] at HCR hTs
      have hkey : keyOf Try.prog 9 (.string (bs T)) = some (.string T) := by rw [keyOf_string_mk Try.underlying9 (by rw [bs_size]; unfold maxLen; omega), bs_data]
      have HMV : Hid (V.ownsMap Try.prog 9 unitElem w.heap.size k (setOf (H := Unit) (.agg []) (metT l k))) := hide (HM.out.kept (grownG gV) (by simp))
      have HGV : Hid (Grow w V) := hide (HGr.out.trans gV)
      have hsV := gV.size
      clear gV hV hls hokx hck hnk HM
      go_wp2_with fail
      refine HCR.out.mono ?_
      rintro e w5 ⟨rfl, hg5⟩
      have HG5 : Hid (Grow w w5) := hide (HGV.out.trans hg5)
      have HM5 : Hid (w5.ownsMap Try.prog 9 unitElem w.heap.size k (setOf (H := Unit) (.agg []) (metT l k))) := hide (HMV.out.kept (grownG hg5) (by simp))
      have hs5 := hg5.size
      clear hg5 HCR HMV eV d0 d1 c0 c1
      have HA := hide (@metT_has l k T)
      cases hh : Maps.has (setOf (H := Unit) (.agg []) (metT l k)) (Lit.string T) with
      | true =>
        have HH := hide hh
        clear hh
        have HDU : Hid (dupB l = true) := by
          obtain ⟨j, hj, hjk, e⟩ := HA.out.1 HH.out
          obtain ⟨_, hnj, hcj⟩ := refErr_zero (HZ.out _ (List.getElem_mem hj))
          exact hide (dupB_true hj hlt hjk (by rw [HX.out]; exact textAns_inj hcj HCK.out hnj HNK.out (by rw [HT.out]; exact e)))
        have HE6 : Hid (6 = E) := hide (by rw [← HE.out, HDU.out]; rfl)
        clear HE HDU
        go_wp2_with (at_lookup; refine wpList_lookup_own_unit _ rfl _ _ 91 rfl 9 93 Try.keyLaw Try.underlying91 (Try.zeroUnit _) w.heap.size k _ rfl HM5.out _ _ rfl hkey ?_; rw [HH.out])
        refine (refuse_any true 6 _ (by decide)).mono ?_
        rintro e w6 ⟨rfl, hw6⟩
        rw [if_pos rfl, outc_no (by decide)]
        exact ⟨rfl, by rw [← HE6.out, outc_no (by decide)], by rw [hw6]; exact HG5.out.alloc _⟩
      | false =>
        have HH := hide hh
        clear hh
        go_wp2_with (at_lookup; refine wpList_lookup_own_unit _ rfl _ _ 91 rfl 9 93 Try.keyLaw Try.underlying91 (Try.zeroUnit _) w.heap.size k _ rfl HM5.out _ _ rfl hkey ?_; rw [HH.out])
        refine (refuse_any false 6 _ (by decide)).mono ?_
        rintro e w6 ⟨rfl, hw6⟩
        rw [if_neg (by simp), outc_ok]
        have HG6 : Hid (Grow w w6) := hide (by rw [hw6]; exact HG5.out.alloc _)
        have HM6 : Hid (w6.ownsMap Try.prog 9 unitElem w.heap.size k (setOf (H := Unit) (.agg []) (metT l k))) := hide (by rw [hw6]; exact HM5.out.alloc _)
        clear hw6
        go_wp2_with (at_mapUpdate; refine wpList_mapUpdate_own _ rfl _ _ _ 91 rfl 9 93 Try.keyLaw Try.underlying91 (unitElem (H := Unit)) w.heap.size k _ rfl HM6.out (by unfold maxLen; omega) _ _ _ rfl rfl hkey _ [] unitElem_mk ?_; intro w7 hown7 hgrow7)
        have s7 := hgrow7.size
        have s6 := HG6.out.size
        go_roundw
        case rel =>
          refine ⟨k + 1, by omega, by go_num, hide ?_, hide (HG6.out.grown hgrow7 s6 (fun j hj => by cases hj; exact Nat.le_refl _)), ?_, hide (fun i j hi hj hij hjk => ?_)⟩
          · rw [metT_succ hlt, setOf_snoc, HX.out, HT.out]; exact hown7
          · have := HM6.out.lt; omega
          · by_cases e : j = k
            · subst e
              intro he
              have := HA.out.2 ⟨i, hi, hij, by rw [he, HX.out]; exact HT.out⟩
              rw [HH.out] at this
              cases this
            · exact HD.out i j hi hj hij (by omega)
        case measure => simp [intOf]; omega
    · have HT : Hid (dupB l = false) := hide (dupB_false.2 fun i j hi hj hij => HD.out i j hi hj hij (by omega))
      have HE0 : Hid (0 = E) := hide (by rw [← HE.out, HT.out]; rfl)
      clear HE HT
      go_wp2
      go_end0
      exact ⟨by rw [← HE0.out, outc_ok], HGr.out⟩
end Go.Proofs.Ytnlkfehnmijimaa.Rc
