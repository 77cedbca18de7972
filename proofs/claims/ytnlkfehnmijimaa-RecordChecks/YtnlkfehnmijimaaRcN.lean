/- record: the writer of refs, of points. -/
import Derived.Laws.OwnMore
import Derived.Test.YtnlkfehnmijimaaProg
import Derived.Test.YtnlkfehnmijimaaKit
import Derived.Test.YtnlkfehnmijimaaSpec
import Derived.Test.YtnlkfehnmijimaaReg
import Derived.Test.YtnlkfehnmijimaaLRow
import Derived.Test.YtnlkfehnmijimaaRcA
import Derived.Test.YtnlkfehnmijimaaRcW
import Derived.Test.YtnlkfehnmijimaaRcX
import Derived.Test.YtnlkfehnmijimaaRcE
import Derived.Test.YtnlkfehnmijimaaRcM
import Derived.BigQuiet
set_option linter.unusedVariables false
set_option linter.unusedSimpArgs false
namespace Go.Proofs.Ytnlkfehnmijimaa.Rc
open Go.RowKit Lb
attribute [local go_sem] bs_size bs_toList bs_append bs_get bs_extract

theorem two_of {w : World} {b : Nat} {x y : Value} {t : TypeId} (h : w.heap[b]? = some (.cells #[x, y] t (0, 0))) : w.cell? ⟨b, 0, none⟩ = some x ∧ w.cell? ⟨b, 1, none⟩ = some y := by simp [World.cell?, h]
theorem three_of {w : World} {b : Nat} {x y z : Value} {t : TypeId} (h : w.heap[b]? = some (.cells #[x, y, z] t (0, 0))) : w.cell? ⟨b, 0, none⟩ = some x ∧ w.cell? ⟨b, 1, none⟩ = some y ∧ w.cell? ⟨b, 2, none⟩ = some z := by simp [World.cell?, h]
theorem laid_at (w : World) (c : Array Value) (t : TypeId) : ∃ W : World, w.alloc (.cells c t) = W ∧ Grow w W ∧ W.heap[w.heap.size]? = some (.cells c t (0, 0)) := ⟨_, rfl, (Grow.refl _).alloc _, heap_alloc_new _ _⟩
theorem holdsW_size {w : World} {B b : Nat} {l : List UInt8} (h : holdsW w B b l) : B ≤ w.heap.size ∧ b < w.heap.size := by
  obtain ⟨h1, v, h2, _⟩ := h
  exact ⟨h1, lt_of_block h2⟩

set_option maxRecDepth 20000 in
set_option maxHeartbeats 8000000 in
theorem refs_w (w : World) (A B b : Nat) (v : Value) (l : List UInt8) (rs : List RefL) (hA : A ≤ B) (hAb : A ≤ b) (hh : holdsW w B b l) (hl : l.length ≤ 1000) (hr : readsRefs w A v rs) (hn : rs.length ≤ 200) (hok : ∀ x ∈ rs, refErr x = 0) :
    Calls Try.prog 39 #[.pointer (some ⟨b, 0, none⟩), v] w (wrote B b l (numB rs.length ++ refsB rs) w) := by
  have HNUM := hide (number_w w B b rs.length l hh (by omega) (by omega))
  have HR := hide hr
  have HOK := hide hok
  have hnl := numB_length rs.length
  obtain ⟨ao, cp, rfl, _⟩ := hr
  clear hh hok
  go_enter Try.func39, Try.ntmps39
  go_wp2_with fail
  refine HNUM.out.mono ?_
  rintro e w1 ⟨hk1, rfl, hh1⟩
  have HK1 := hide hk1
  have HH1 := hide hh1
  clear hk1 hh1 HNUM
  go_wp2
  go_loopw [14] (fun iv wr => ∃ k : Nat, k ≤ rs.length ∧ iv = .int .i64 k ∧ Hid (KeptX B b w wr) ∧ Hid (holdsW wr B b (l ++ (numB rs.length ++ refsB (rs.take k))))) (fun iv _ => rs.length - (intOf iv).toNat)
  case atStart => exact ⟨0, by omega, rfl, HK1, hide (by simpa [refsB] using HH1.out)⟩
  case round =>
    obtain ⟨k, hk, rfl, HK, HH⟩ := hrel
    by_cases hlt : k < rs.length
    · have hlti : (k : Int) < (rs.length : Int) := by omega
      obtain ⟨rb, ro, vl, rfl, hrB, hls, c00, c10⟩ : ∃ b' o vl, ao = some ⟨b', o, none⟩ ∧ b' < A ∧ readsLabels w A vl rs[k].2 ∧ w.cell? ⟨b', o + k * 2, none⟩ = some (.int .i64 rs[k].1) ∧ w.cell? ⟨b', o + k * 2 + 1, none⟩ = some vl := by
        obtain ⟨ao', cp', e, h⟩ := HR.out
        cases e
        exact h k hlt
      have hbe := HK.out.below hA hAb
      have c0 := (hbe.cell (p := ⟨rb, ro + k * 2, none⟩) hrB).trans c00
      have c1 := (hbe.cell (p := ⟨rb, ro + k * 2 + 1, none⟩) hrB).trans c10
      clear c00 c10 hbe
      have hxe := HOK.out _ (List.getElem_mem hlt)
      have HTK := hide (refsB_take hlt)
      have hbig : (l ++ (numB rs.length ++ refsB (rs.take k))).length ≤ 700000 := by
        have h1 := refsB_len (l := rs.take k) fun x hx => HOK.out x (List.mem_of_mem_take hx)
        have h2 : (rs.take k).length ≤ 200 := by rw [List.length_take]; omega
        rw [List.length_append, List.length_append]
        omega
      obtain ⟨x, HX⟩ : ∃ x : RefL, Hid (rs[k] = x) := ⟨_, hide rfl⟩
      rw [HX.out] at hls c0 hxe HTK
      obtain ⟨⟨hx1, hx2⟩, hx3, hxc⟩ := refErr_zero hxe
      obtain ⟨hx20, hxs⟩ := check_small hxc
      obtain ⟨rn, hrn⟩ : ∃ rn : Nat, x.1 = (rn : Int) := ⟨x.1.toNat, by omega⟩
      have HRB : Hid (refB x = numB rn ++ (numB x.2.length ++ labsB x.2)) := hide (by unfold refB; rw [hrn, Int.toNat_natCast])
      rw [hrn] at c0
      obtain ⟨xo, xc, rfl⟩ := readsLabels_len hls
      obtain ⟨l1, HL1⟩ : ∃ l1, Hid (l ++ (numB rs.length ++ refsB (rs.take k)) = l1) := ⟨_, hide rfl⟩
      rw [HL1.out] at HH hbig
      obtain ⟨W, eW, gW, hW⟩ := laid_at wr #[.int .i64 rn, .slice xo x.2.length xc] 53
      obtain ⟨xb, hxb⟩ : ∃ b', wr.heap.size = b' := ⟨_, rfl⟩
      rw [hxb] at hW
      have HKW : Hid (KeptX B b w W) := hide (HK.out.trans (keptX_grow gW (holdsW_size HH.out).1))
      have hxne : xb ≠ b := by have := (holdsW_size HH.out).2; omega
      have HHW := hide (holdsW_below HH.out gW (Nat.le_refl _))
      have HW := hide hW
      obtain ⟨d0, d1⟩ := two_of hW
      have HN1 := hide (number_w W B b rn l1 HHW.out (by omega) (by omega))
      have HRdL : Hid (∀ w2, KeptX B b w w2 → readsLabels w2 A (.slice xo x.2.length xc) x.2) := hide (fun w2 hk2 => readsLabels_below hls (hk2.below hA hAb))
      clear gW hW hls hrn hxe hxc
      go_wp2_with fail
      refine HN1.out.mono ?_
      rintro e w2 ⟨hk2, rfl, hh2⟩
      have HK2 := hide (HKW.out.trans hk2)
      have HB2 := hide (hk2.typed xb _ _ _ hxne HW.out (by decide))
      obtain ⟨d0, d1⟩ := two_of HB2.out
      have HN2 := hide (number_w w2 B b x.2.length (l1 ++ numB rn) hh2 (by have := numB_length rn; rw [List.length_append]; omega) (by omega))
      clear hk2 hh2 HN1 eW
      go_wp2_with fail
      refine HN2.out.mono ?_
      rintro e w3 ⟨hk3, rfl, hh3⟩
      have HK3 := hide (HK2.out.trans hk3)
      have HB3 := hide (hk3.typed xb _ _ _ hxne HB2.out (by decide))
      have HH3 := hide hh3
      obtain ⟨d0, d1⟩ := two_of HB3.out
      have hl3 : (l1 ++ numB rn ++ numB x.2.length).length ≤ 700020 := by
        have h1 := numB_length rn
        have h2 := numB_length x.2.length
        rw [List.length_append, List.length_append]
        omega
      have HL3 : Hid (l1 ++ numB rn ++ numB x.2.length = l1 ++ (numB rn ++ numB x.2.length)) := hide (List.append_assoc _ _ _)
      clear hk3 hh3 HN2
      go_wp2
      go_loopw [30] (fun jv wr => ∃ j : Nat, j ≤ x.2.length ∧ jv = .int .i64 j ∧ Hid (KeptX B b w wr) ∧ Hid (holdsW wr B b (l1 ++ numB rn ++ numB x.2.length ++ labsB (x.2.take j)))) (fun jv _ => x.2.length - (intOf jv).toNat)
      case atStart => exact ⟨0, by omega, rfl, HK3, hide (by simpa [labsB] using HH3.out)⟩
      case round =>
        clear d0 d1
        obtain ⟨j, hj, rfl, HKj, HHj⟩ := hrel
        by_cases hjlt : j < x.2.length
        · have hjlti : (j : Int) < (x.2.length : Int) := by omega
          obtain ⟨lb, lo, rfl, hlB, e0, e1⟩ : ∃ b' o, xo = some ⟨b', o, none⟩ ∧ b' < A ∧ wr.cell? ⟨b', o + j * 2, none⟩ = some (.string (bs x.2[j].1)) ∧ wr.cell? ⟨b', o + j * 2 + 1, none⟩ = some (.string (bs x.2[j].2)) := by
            obtain ⟨ao', cp', e, h⟩ := HRdL.out wr HKj.out
            cases e
            exact h j hjlt
          have HTL := hide (labsB_take hjlt)
          have hys := hxs _ (List.getElem_mem hjlt)
          have hbj : (l1 ++ numB rn ++ numB x.2.length ++ labsB (x.2.take j)).length ≤ 720000 := by
            have h1 := labsB_len (l := x.2.take j) fun y hy => hxs y (List.mem_of_mem_take hy)
            have h2 : (x.2.take j).length ≤ 20 := by rw [List.length_take]; omega
            rw [List.length_append]
            omega
          obtain ⟨y, HY⟩ : ∃ y : Lab, Hid (x.2[j] = y) := ⟨_, hide rfl⟩
          rw [HY.out] at e0 e1 HTL hys
          obtain ⟨l2, HL2⟩ : ∃ l2, Hid (l1 ++ numB rn ++ numB x.2.length ++ labsB (x.2.take j) = l2) := ⟨_, hide rfl⟩
          rw [HL2.out] at HHj hbj
          obtain ⟨V, eV, gV, hV⟩ := laid_at wr #[.string (bs y.1), .string (bs y.2)] 60
          obtain ⟨yb, hyb⟩ : ∃ b', wr.heap.size = b' := ⟨_, rfl⟩
          rw [hyb] at hV
          have HKV : Hid (KeptX B b w V) := hide (HKj.out.trans (keptX_grow gV (holdsW_size HHj.out).1))
          have hyne : yb ≠ b := by have := (holdsW_size HHj.out).2; omega
          have HHV := hide (holdsW_below HHj.out gV (Nat.le_refl _))
          have HVB := hide hV
          obtain ⟨d0, d1⟩ := two_of hV
          have HT1 := hide (bytes_w V B b l2 y.1 HHV.out (by omega) (by omega))
          clear gV hV
          go_wp2_with fail
          refine HT1.out.mono ?_
          rintro e w4 ⟨hk4, rfl, hh4⟩
          have HK4 := hide (HKV.out.trans hk4)
          have HB4 := hide (hk4.typed yb _ _ _ hyne HVB.out (by decide))
          obtain ⟨d0, d1⟩ := two_of HB4.out
          have HT2 := hide (bytes_w w4 B b (l2 ++ textB y.1) y.2 hh4 (by have := textB_len (s := y.1); rw [List.length_append]; omega) (by omega))
          clear hk4 hh4 HT1 eV
          go_wp2_with fail
          refine HT2.out.mono ?_
          rintro e w5 ⟨hk5, rfl, hh5⟩
          have HK5 := hide (HK4.out.trans hk5)
          have HH5 : Hid (holdsW w5 B b (l1 ++ numB rn ++ numB x.2.length ++ labsB (x.2.take (j + 1)))) := hide (by
            rw [HTL.out, ← List.append_assoc, HL2.out]
            unfold labB
            rw [← List.append_assoc]
            exact hh5)
          clear hk5 hh5 HT2
          go_wp2
          go_roundw
          case rel => exact ⟨j + 1, by omega, by go_num, HK5, HH5⟩
          case measure => simp [intOf]; omega
        · obtain rfl : j = x.2.length := by omega
          have HH6 : Hid (holdsW wr B b (l ++ (numB rs.length ++ refsB (rs.take (k + 1))))) := hide (by
            have h := HHj.out
            rw [List.take_length] at h
            rw [HTK.out, HRB.out, ← List.append_assoc (numB rs.length), ← List.append_assoc l, HL1.out]
            simpa [List.append_assoc] using h)
          clear HHj
          go_wp2
          go_roundw
          case rel => exact ⟨k + 1, by omega, by go_num, HKj, HH6⟩
          case measure => simp [intOf]; omega
    · obtain rfl : k = rs.length := by omega
      rw [List.take_length] at HH
      go_wp2
      go_end0
      exact ⟨HK.out, rfl, HH.out⟩
end Go.Proofs.Ytnlkfehnmijimaa.Rc
