/- The document's own reader of masks: rows. -/
import Derived.Laws.OwnMore
import Derived.Test.YtndpjdmfkhjiiaaGreatDoorProg
import Derived.Test.YtndpjdmfkhjiiaaGreatDoorQ74d152
import Derived.Test.YtndpjdmfkhjiiaaGreatDoorQ3d7cfc
import Derived.Test.YtndpjdmfkhjiiaaGreatDoorQ06840a
import Derived.Test.YtndpjdmfkhjiiaaGreatDoorQ082284
import Derived.Test.YtndpjdmfkhjiiaaGreatDoorMFromV
import Derived.Test.YtndpjdmfkhjiiaaGreatDoorQfa040f
import Derived.Test.YtndpjdmfkhjiiaaGreatDoorQa261f9
import Derived.Test.YtndpjdmfkhjiiaaGreatDoorQ0e584d
import Derived.Test.YtndpjdmfkhjiiaaGreatDoorMNewV
import Derived.Test.YtndpjdmfkhjiiaaGreatDoorQ665f60
import Derived.Test.YtndpjdmfkhjiiaaGreatDoorMRdAV
import Derived.Test.YtndpjdmfkhjiiaaGreatDoorQ6cc641
import Derived.Test.YtndpjdmfkhjiiaaGreatDoorQ7dd50d
import Derived.Test.YtndpjdmfkhjiiaaGreatDoorQ13d957
import Derived.Lib.AppendZeros
import Derived.BigQuiet
set_option linter.unusedVariables false
set_option linter.unusedSimpArgs false
namespace Go.Proofs.YtndpjdmfkhjiiaaGreatDoor
open Go.RowKit
attribute [local go_sem] bs_size bs_toList bs_append bs_get bs_extract

def errR (w : World) (rb : Nat) : Nat := match w.heap[rb]? with | some (.cells c _ _) => (intOf (c.getD 3 undef)).toNat | _ => 0
theorem readerAt.err {w : World} {rb : Nat} {m : List UInt8} {i g e a : Nat} (h : readerAt w rb m i g e a) : errR w rb = e := by
  unfold readerAt at h
  simp [errR, h, intOf]
/-- A measure of rows that are read: nothing behind a fault. -/
def leftR (w : World) (rb n : Nat) : Nat := if errR w rb = 0 then n + 2 - placeR w rb else 0
theorem leftR_ok {w : World} {rb : Nat} {m : List UInt8} {i g n : Nat} (h : readerAt w rb m i g 0 0) : leftR w rb n = n + 2 - i := by
  unfold leftR
  rw [h.err, h.place, if_pos rfl]
theorem leftR_err {w : World} {rb : Nat} {m : List UInt8} {i g e a n : Nat} (h : readerAt w rb m i g e a) (he : e ≠ 0) : leftR w rb n = 0 := by
  unfold leftR
  rw [h.err, if_neg he]

/-- Ahead of a row. -/
def outSt (w : World) (rb : Nat) (m : List UInt8) (f : Nat) (y : Except (Nat × Nat) (Tr × Nat × Nat)) (ov : Value) (k : Nat) (oys : List Value) (W : World) : Prop :=
  (∃ rs i g F, rs.length = k ∧ k ≤ i ∧ i ≤ m.length ∧ g ≤ 9 ∧ readerAt W rb m i g 0 0 ∧ cellsAt W (outA w ov) (rowsOf rs .nil) oys ∧ F < f ∧ bindO (pM m F false i g) (contR m F rs) = some y) ∨
    (∃ x j h, y = .error x ∧ x.1 ≠ 0 ∧ readerAt W rb m j h x.1 x.2 ∧ k ≤ m.length + 1)
/-- Within a row. -/
def inSt (w : World) (rb : Nat) (m : List UInt8) (F : Nat) (rs : List Tr) (y : Except (Nat × Nat) (Tr × Nat × Nat)) (ov : Value) (oys : List Value) (i0 : Nat) (rv : Value) (n : Nat) (xs : List Value) (W : World) : Prop :=
  (∃ l f i g, cellsAt W (rowA w ov rv) (rowT l .nil) xs ∧ cellsAt W (rowA w ov rv) (rowsOf rs .nil) oys ∧ readerAt W rb m i g 0 0 ∧ i ≤ m.length ∧ g ≤ 9 ∧ i0 + n ≤ i ∧ inRow m F rs y l f i g) ∨
    (∃ x j h, y = .error x ∧ x.1 ≠ 0 ∧ readerAt W rb m j h x.1 x.2 ∧ n ≤ m.length + 1)

set_option maxRecDepth 20000 in
set_option maxHeartbeats 8000000 in
theorem rrows_any {m : List UInt8} {f : Nat} (hm : m.length ≤ 1000) (hf : ∀ f', f' < f → RRowsOK m f') : RRowsOK m f := by
  intro w rb i g y hr hi hg hy
  have hrb := lt_of_block hr
  have HF := hide hf
  have HR := hide hr
  have HY := hide hy
  clear hf hr hy
  go_enter Tryz.func74, Tryz.ntmps74
  go_wp2
  go_loopw [3] (fun ov W => ∃ k oys, Hid (Kept2 rb rb w W) ∧ Hid (W.ownsRow w.heap.size 153 1 ov k oys) ∧ Hid (outSt w rb m f y ov k oys W)) (fun _ W => leftR W rb m.length)
  case atStart =>
    refine ⟨0, [], hide (.refl _ _ _), hide (World.ownsRow_nil _ _ _ _), hide (.inl ?_)⟩
    obtain ⟨F, rfl⟩ : ∃ F, f = F + 1 := by
      cases f with
      | zero => have h := HY.out; cases h
      | succ F => exact ⟨F, rfl⟩
    refine ⟨[], i, g, F, rfl, by omega, hi, hg, HR.out, rfl, by omega, ?_⟩
    rw [← rows_open, HY.out]
    cases y with
    | error e => rfl
    | ok x => rfl
  case round =>
    obtain ⟨k, oys, HK, HO, HS⟩ := hrel
    rename World => W0
    obtain ⟨oo, oc, rfl⟩ := own_shape HO.out
    rcases HS.out with ⟨rs, i0, g0, F, hrs, hki, hi0, hg0, hr0, hc0, hF, hrel0⟩ | ⟨x, j, h, hyx, hx0, hrx, hkm⟩
    · have HR0 := hide hr0
      have HC0 := hide hc0
      have HREL := hide hrel0
      have hl0 : leftR W0 rb m.length = m.length + 2 - i0 := leftR_ok hr0
      obtain ⟨c0, c1, c2, c3, c4⟩ := five_cells hr0
      clear hr0 hc0 hrel0 HS c0 c1 c2
      go_wp2
      go_loopw [4] (fun rv W => ∃ n xs, Hid (RowSt w rb (.slice oo k oc) k oys rv n xs W) ∧ Hid (inSt w rb m F rs y (.slice oo k oc) oys i0 rv n xs W)) (fun _ W => leftR W rb m.length)
      case atStart =>
        refine ⟨0, [], hide ⟨HK.out, World.ownsRow_nil _ _ _ _, HO.out⟩, hide (.inl ⟨[], F, i0, g0, rfl, HC0.out.keep fun b _ h => ⟨⟨h.1, h.2, by simp [Value.ownBlock]⟩, rfl⟩, HR0.out, hi0, hg0, by omega, by omega, HREL.out⟩)⟩
      case round =>
        obtain ⟨n, xs, HRS, HS⟩ := hrel
        rename World => W
        obtain ⟨ro, rc, rfl⟩ := own_shape HRS.out.row
        rcases HS.out with ⟨l, f1, i1, g1, hci, hco, hr1, hi1, hg1, hn1, hin⟩ | ⟨x, j, h, hyx, hx0, hrx, hnm⟩
        · have HCI := hide hci
          have HCO := hide hco
          have HIN := hide hin
          have HRX := hide hr1
          have hl1 : leftR W rb m.length = m.length + 2 - i1 := leftR_ok hr1
          obtain ⟨c0, c1, c2, c3, c4⟩ := five_cells hr1
          clear hci hco hin hr1 HS c2 c4
          by_cases hlt : i1 < m.length
          · obtain ⟨c, hc⟩ : ∃ c, m[i1]? = some c := ⟨_, List.getElem?_eq_getElem hlt⟩
            have hd : decide ((i1 : Int) < m.length) = true := by simpa using hlt
            have H124 : Hid (∀ n, Calls Tryz.prog 105 #[.pointer (some ⟨rb, 0, none⟩), .int .u8 124] (W.drewN n) fun e w' => e = .returned (.bool (isAt m i1 124)) ∧ ∃ k, w' = (W.drewN n).drewN k) := hide fun n => ris_any _ rb m i1 g1 0 0 124 124 rfl (by decide) HRX.out.draw
            have H41 : Hid (∀ n, Calls Tryz.prog 105 #[.pointer (some ⟨rb, 0, none⟩), .int .u8 41] (W.drewN n) fun e w' => e = .returned (.bool (isAt m i1 41)) ∧ ∃ k, w' = (W.drewN n).drewN k) := hide fun n => ris_any _ rb m i1 g1 0 0 41 41 rfl (by decide) HRX.out.draw
            cases h1 : isAt m i1 124 with
            | true =>
              have HEND : Hid (m[i1]? = none ∨ isAt m i1 124 = true ∨ isAt m i1 41 = true) := hide (.inr (.inl h1))
              rw [h1] at H124
              clear h1 hc H41
              go_wp2
              go_quiet ((go_at_call 105; exact Calls.quiet_of (H124.out _)))
              obtain ⟨X1, HW2⟩ : ∃ X1, Hid (X1 = World.drewN W nq) := ⟨_, hide rfl⟩
              rw [← HW2.out]
              have HRS : Hid (RowSt w rb (.slice oo k oc) k oys (.slice ro n rc) n xs X1) := by rw [HW2.out]; exact hide (HRS.out.keepW HRS.out.kept.drewN fun _ _ _ => rfl)
              have HCI : Hid (cellsAt X1 (rowA w (.slice oo k oc) (.slice ro n rc)) (rowT l .nil) xs) := by rw [HW2.out]; exact hide (HCI.out.grow ⟨rfl, rfl, rfl, Nat.le_refl _, fun _ _ => rfl⟩)
              have HCO : Hid (cellsAt X1 (rowA w (.slice oo k oc) (.slice ro n rc)) (rowsOf rs .nil) oys) := by rw [HW2.out]; exact hide (HCO.out.grow ⟨rfl, rfl, rfl, Nat.le_refl _, fun _ _ => rfl⟩)
              have HRX : Hid (readerAt X1 rb m i1 g1 0 0) := by rw [HW2.out]; exact hide HRX.out.draw
              clear HW2
              obtain ⟨po, pc, W2, hrun, hk2, ho2, hc2, hrow2, hrd2⟩ := HRS.out.pushOut hrb (by omega) 63
              have HRUN := hide hrun
              have HK2 := hide hk2
              have HO2 := hide ho2
              have HR2 := hide (hrd2 _ _ _ _ _ HRX.out)
              have HC2 : Hid (cellsAt W2 (outA w (.slice po (k + 1) pc)) (rowsOf (rs ++ [rowT l .nil]) .nil) (oys ++ [.slice ro n rc])) := hide (cellsAt_rows_snoc (hrow2 _ HCI.out) (hc2 _ _ HCO.out))
              have HCT := hide (inRow_end HIN.out HEND.out)
              clear hrun hk2 ho2 hrd2 hc2 hrow2
              go_wp2_with (at_builtin; refine Lib.wpList_append_run _ rfl _ _ _ _ rfl _ _ rfl rfl _ _ HRUN.out ?_)
              refine (rmay_any W2 rb m i1 g1 0 0 124 124 rfl (by decide) (by omega) HR2.out).mono ?_
              rintro en W3 ⟨rfl, hk3, hr3⟩
              have HK3 : Hid (Kept2 rb rb w W3) := hide (HK2.out.trans hk3)
              have HR3 := hide hr3
              have hkb : ∀ b, w.heap.size ≤ b → b < W2.heap.size → W3.heap[b]? = W2.heap[b]? := fun b h1 h2 => hk3.block b h2 (by omega) (by omega)
              have HO3 : Hid (W3.ownsRow w.heap.size 153 1 (.slice po (k + 1) pc) (k + 1) (oys ++ [.slice ro n rc])) := hide (own_keep HO2.out fun b hb => hkb b (own_ge HO2.out hb).1 (own_ge HO2.out hb).2)
              have HC3 : Hid (cellsAt W3 (outA w (.slice po (k + 1) pc)) (rowsOf (rs ++ [rowT l .nil]) .nil) (oys ++ [.slice ro n rc])) := hide (HC2.out.keep fun b h1 h2 => ⟨h2, hkb b h2.1 h1⟩)
              clear hk3 hr3 hkb
              obtain ⟨bo, HBO⟩ : ∃ bo, Hid (isAt m i1 124 = bo) := ⟨_, hide rfl⟩
              rw [HBO.out]
              have HR4 := HR3
              rw [HBO.out] at HR4
              have HCT2 := HCT.out
              unfold contR at HCT2
              simp only at HCT2
              rw [HBO.out] at HCT2
              have HCT3 := hide HCT2
              clear HCT2
              cases bo with
              | true =>
                have hi1lt := isAt_lt HBO.out
                have hl3 : leftR W3 rb m.length = m.length + 2 - (i1 + 1) := leftR_ok HR4.out
                obtain ⟨F', rfl⟩ : ∃ F', F = F' + 1 := by
                  cases F with
                  | zero => have h := HCT3.out; cases h
                  | succ F => exact ⟨F, rfl⟩
                have HREL2 : Hid (bindO (pM m F' false (i1 + 1) g1) (contR m F' (rs ++ [rowT l .nil])) = some y) := by
                  have h := HCT3.out
                  rw [if_pos rfl] at h
                  show _ = _
                  rw [← rows_open, ← h]
                  refine bindO_congr _ fun x _ => ?_
                  rw [rowsOf_snoc]
                go_wp2
                go_roundw
                case rel => exact ⟨k + 1, _, HK3, HO3, hide (.inl ⟨rs ++ [rowT l .nil], i1 + 1, g1, F', by simp [hrs], by omega, by omega, hg1, HR4.out, HC3.out, by omega, HREL2.out⟩)⟩
                case measure => rw [hl3, hl0]; omega
              | false =>
                have HYE : Hid (y = .ok (rowsOf (rs ++ [rowT l .nil]) .nil, i1, g1)) := by
                  have h := HCT3.out
                  rw [if_neg (by decide)] at h
                  rw [rowsOf_snoc]
                  exact hide (Option.some.inj h).symm
                go_wp2
                go_ret
                refine ⟨HK3.out, _, _, _, rfl, HO3.out, ?_⟩
                rw [HYE.out]
                exact ⟨HC3.out, HR4.out⟩
            | false =>
              rw [h1] at H124
              cases h2 : isAt m i1 41 with
              | true =>
                have HEND : Hid (m[i1]? = none ∨ isAt m i1 124 = true ∨ isAt m i1 41 = true) := hide (.inr (.inr h2))
                rw [h2] at H41
                clear h1 h2 hc
                go_wp2
                go_quiet (first | (go_at_call_of 105 (Value.int IntKind.u8 124); exact Calls.quiet_of (H124.out _)) | (go_at_call_of 105 (Value.int IntKind.u8 41); exact Calls.quiet_of (H41.out _)))
                obtain ⟨X1, HW2⟩ : ∃ X1, Hid (X1 = World.drewN W nq) := ⟨_, hide rfl⟩
                rw [← HW2.out]
                have HRS : Hid (RowSt w rb (.slice oo k oc) k oys (.slice ro n rc) n xs X1) := by rw [HW2.out]; exact hide (HRS.out.keepW HRS.out.kept.drewN fun _ _ _ => rfl)
                have HCI : Hid (cellsAt X1 (rowA w (.slice oo k oc) (.slice ro n rc)) (rowT l .nil) xs) := by rw [HW2.out]; exact hide (HCI.out.grow ⟨rfl, rfl, rfl, Nat.le_refl _, fun _ _ => rfl⟩)
                have HCO : Hid (cellsAt X1 (rowA w (.slice oo k oc) (.slice ro n rc)) (rowsOf rs .nil) oys) := by rw [HW2.out]; exact hide (HCO.out.grow ⟨rfl, rfl, rfl, Nat.le_refl _, fun _ _ => rfl⟩)
                have HRX : Hid (readerAt X1 rb m i1 g1 0 0) := by rw [HW2.out]; exact hide HRX.out.draw
                clear HW2
                obtain ⟨po, pc, W2, hrun, hk2, ho2, hc2, hrow2, hrd2⟩ := HRS.out.pushOut hrb (by omega) 63
                have HRUN := hide hrun
                have HK2 := hide hk2
                have HO2 := hide ho2
                have HR2 := hide (hrd2 _ _ _ _ _ HRX.out)
                have HC2 : Hid (cellsAt W2 (outA w (.slice po (k + 1) pc)) (rowsOf (rs ++ [rowT l .nil]) .nil) (oys ++ [.slice ro n rc])) := hide (cellsAt_rows_snoc (hrow2 _ HCI.out) (hc2 _ _ HCO.out))
                have HCT := hide (inRow_end HIN.out HEND.out)
                clear hrun hk2 ho2 hrd2 hc2 hrow2
                go_wp2_with (at_builtin; refine Lib.wpList_append_run _ rfl _ _ _ _ rfl _ _ rfl rfl _ _ HRUN.out ?_)
                refine (rmay_any W2 rb m i1 g1 0 0 124 124 rfl (by decide) (by omega) HR2.out).mono ?_
                rintro en W3 ⟨rfl, hk3, hr3⟩
                have HK3 : Hid (Kept2 rb rb w W3) := hide (HK2.out.trans hk3)
                have HR3 := hide hr3
                have hkb : ∀ b, w.heap.size ≤ b → b < W2.heap.size → W3.heap[b]? = W2.heap[b]? := fun b h1 h2 => hk3.block b h2 (by omega) (by omega)
                have HO3 : Hid (W3.ownsRow w.heap.size 153 1 (.slice po (k + 1) pc) (k + 1) (oys ++ [.slice ro n rc])) := hide (own_keep HO2.out fun b hb => hkb b (own_ge HO2.out hb).1 (own_ge HO2.out hb).2)
                have HC3 : Hid (cellsAt W3 (outA w (.slice po (k + 1) pc)) (rowsOf (rs ++ [rowT l .nil]) .nil) (oys ++ [.slice ro n rc])) := hide (HC2.out.keep fun b h1 h2 => ⟨h2, hkb b h2.1 h1⟩)
                clear hk3 hr3 hkb
                obtain ⟨bo, HBO⟩ : ∃ bo, Hid (isAt m i1 124 = bo) := ⟨_, hide rfl⟩
                rw [HBO.out]
                have HR4 := HR3
                rw [HBO.out] at HR4
                have HCT2 := HCT.out
                unfold contR at HCT2
                simp only at HCT2
                rw [HBO.out] at HCT2
                have HCT3 := hide HCT2
                clear HCT2
                cases bo with
                | true =>
                  have hi1lt := isAt_lt HBO.out
                  have hl3 : leftR W3 rb m.length = m.length + 2 - (i1 + 1) := leftR_ok HR4.out
                  obtain ⟨F', rfl⟩ : ∃ F', F = F' + 1 := by
                    cases F with
                    | zero => have h := HCT3.out; cases h
                    | succ F => exact ⟨F, rfl⟩
                  have HREL2 : Hid (bindO (pM m F' false (i1 + 1) g1) (contR m F' (rs ++ [rowT l .nil])) = some y) := by
                    have h := HCT3.out
                    rw [if_pos rfl] at h
                    show _ = _
                    rw [← rows_open, ← h]
                    refine bindO_congr _ fun x _ => ?_
                    rw [rowsOf_snoc]
                  go_wp2
                  go_roundw
                  case rel => exact ⟨k + 1, _, HK3, HO3, hide (.inl ⟨rs ++ [rowT l .nil], i1 + 1, g1, F', by simp [hrs], by omega, by omega, hg1, HR4.out, HC3.out, by omega, HREL2.out⟩)⟩
                  case measure => rw [hl3, hl0]; omega
                | false =>
                  have HYE : Hid (y = .ok (rowsOf (rs ++ [rowT l .nil]) .nil, i1, g1)) := by
                    have h := HCT3.out
                    rw [if_neg (by decide)] at h
                    rw [rowsOf_snoc]
                    exact hide (Option.some.inj h).symm
                  go_wp2
                  go_ret
                  refine ⟨HK3.out, _, _, _, rfl, HO3.out, ?_⟩
                  rw [HYE.out]
                  exact ⟨HC3.out, HR4.out⟩
              | false =>
                rw [h2] at H41
                have hq : ¬ (c.toNat = 124 ∨ c.toNat = 41) := by
                  simp [isAt, hc] at h1 h2
                  rintro (h | h)
                  · exact h1 h
                  · exact h2 h
                obtain ⟨f2, z, rfl, hz, hzz⟩ := inRow_piece HIN.out hc hq
                have HC := hide hc
                have HQ := hide hq
                have HZ := hide hz
                have HZZ := hide hzz
                have hfF : f2 + 1 ≤ F := HIN.out.1
                clear h1 h2 hc hq hz hzz HIN
                go_wp2
                go_quiet (first | (go_at_call_of 105 (Value.int IntKind.u8 124); exact Calls.quiet_of (H124.out _)) | (go_at_call_of 105 (Value.int IntKind.u8 41); exact Calls.quiet_of (H41.out _)))
                obtain ⟨X1, HW2⟩ : ∃ X1, Hid (X1 = World.drewN W nq) := ⟨_, hide rfl⟩
                rw [← HW2.out]
                have HRS : Hid (RowSt w rb (.slice oo k oc) k oys (.slice ro n rc) n xs X1) := by rw [HW2.out]; exact hide (HRS.out.keepW HRS.out.kept.drewN fun _ _ _ => rfl)
                have HCI : Hid (cellsAt X1 (rowA w (.slice oo k oc) (.slice ro n rc)) (rowT l .nil) xs) := by rw [HW2.out]; exact hide (HCI.out.grow ⟨rfl, rfl, rfl, Nat.le_refl _, fun _ _ => rfl⟩)
                have HCO : Hid (cellsAt X1 (rowA w (.slice oo k oc) (.slice ro n rc)) (rowsOf rs .nil) oys) := by rw [HW2.out]; exact hide (HCO.out.grow ⟨rfl, rfl, rfl, Nat.le_refl _, fun _ _ => rfl⟩)
                have HRX : Hid (readerAt X1 rb m i1 g1 0 0) := by rw [HW2.out]; exact hide HRX.out.draw
                clear HW2 H124 H41 c0 c1 c3
                go_wp2_with fail
                refine (ratom_any X1 rb m i1 g1 c HRX.out HC.out (by omega) HQ.out (HF.out f2 (by omega)) hg1 z HZ.out).mono ?_
                rintro en W1 ⟨hk1, gr, so, sn, sc, nm, po, pn, pc, rfl, hpost⟩
                have HPO := hide hpost
                have hkb : ∀ b, w.heap.size ≤ b → b < X1.heap.size → W1.heap[b]? = X1.heap[b]? := fun b h1 h2 => hk1.block b h2 (by omega) (by omega)
                have HKB := hide hkb
                have HRS1 : Hid (RowSt w rb (.slice oo k oc) k oys (.slice ro n rc) n xs W1) := hide (HRS.out.keepW (HRS.out.kept.trans hk1) hkb)
                have hs1 := hk1.size
                clear hpost hk1 hkb
                unfold pieceV
                cases z with
                | error x =>
                  obtain ⟨j, h, hrx⟩ := HPO.out
                  have HX0 := hide (aOut_err HZ.out)
                  have HYX : Hid (y = .error x) := HZZ
                  have hxn : ((x.1 : Int) == 0) = false := by have := HX0.out; simp; omega

                  obtain ⟨P0, e0⟩ : ∃ P0, W1.alloc (.cells #[.bool false, .slice none 0 0, .int .i64 0, .slice none 0 0, .int .u8 0] 155) = P0 := ⟨_, rfl⟩
                  have hP0 : P0.heap[W1.heap.size]? = some (.cells #[.bool false, .slice none 0 0, .int .i64 0, .slice none 0 0, .int .u8 0] 155 (0, 0)) := by rw [← e0]; exact heap_alloc_new _ _
                  have gP0 : Grow W1 P0 := by rw [← e0]; exact (Grow.refl _).alloc _
                  obtain ⟨x0, x1, x2, x3, x4⟩ := five_cells hP0
                  have z0 := not_frozen (k := 0) hP0
                  have z1 := not_frozen (k := 1) hP0
                  have z2 := not_frozen (k := 2) hP0
                  have z3 := not_frozen (k := 3) hP0
                  have z4 := not_frozen (k := 4) hP0
                  have hP := set_five hP0 (.bool gr) (.slice so sn sc) (.int .i64 nm) (.slice po pn pc) (.int .u8 0)
                  have gP : Grow W1 _ := grow_five gP0 (Nat.le_refl _) (.bool gr) (.slice so sn sc) (.int .i64 nm) (.slice po pn pc) (.int .u8 0)
                  obtain ⟨P1, eP⟩ : ∃ P1, (((((P0.setCell ⟨W1.heap.size, 0, none⟩ (.bool gr)).setCell ⟨W1.heap.size, 1, none⟩ (.slice so sn sc)).setCell ⟨W1.heap.size, 2, none⟩ (.int .i64 nm)).setCell ⟨W1.heap.size, 3, none⟩ (.slice po pn pc)).setCell ⟨W1.heap.size, 4, none⟩ (.int .u8 0)) = P1 := ⟨_, rfl⟩
                  rw [eP] at hP gP
                  have hsP : W1.heap.size < P1.heap.size := lt_of_block hP
                  have HM : Hid (Mid w rb W1 P1) := hide (Mid.first HRS1.out.kept gP hsP)
                  have HPB := hide hP
                  obtain ⟨p0, p1, p2, p3, p4⟩ := five_cells hP
                  clear hP0 gP0

                  have HRQ := hide (hrx.grow gP)
                  obtain ⟨r0, r1, r2, r3, r4⟩ := five_cells HRQ.out
                  have HRSQ : Hid (RowSt w rb (.slice oo k oc) k oys (.slice ro n rc) n xs P1) := hide (HRS1.out.keepW HM.out.kept HM.out.same)
                  clear hrx gP hP r0 r1 r2 r4 HZZ HPO

                  obtain ⟨qo, qc, W9, hrun, hrs9, _, _, hrd9⟩ := HRSQ.out.push hrb (by omega) (pieceC5 gr (.slice so sn sc) nm (.slice po pn pc) 0) rfl (piece_oneCell _ _ _ _ _ _ _ _ _) 153
                  have HRUN := hide hrun
                  have HRS9 := hide hrs9
                  have HR9 := hide (hrd9 _ _ _ _ _ HRQ.out)
                  clear hrun hrs9 hrd9
                  have hl9 : leftR W9 rb m.length = 0 := leftR_err HR9.out HX0.out
                  go_wp2_with (at_builtin; refine Lib.wpList_append_run _ rfl _ _ _ _ rfl _ _ rfl rfl _ _ HRUN.out ?_)
                  go_roundw
                  case rel => exact ⟨n + 1, _, HRS9, hide (.inr ⟨x, _, h, HYX.out, HX0.out, HR9.out, by omega⟩)⟩
                  case measure => rw [hl9, hl1]; omega
                | ok a =>
                  obtain ⟨it, j, h⟩ := a
                  obtain ⟨hij, hjm, h9, hsig, hgrp⟩ := aOut_ok HC.out hg1 HZ.out
                  obtain ⟨hit, hrx⟩ := HPO.out
                  simp only at hij hjm h9 hsig hgrp hit hrx
                  have HIT := hide hit
                  have HGRP := hide hgrp
                  have hwX := HRS.out.kept.size

                  obtain ⟨P0, e0⟩ : ∃ P0, W1.alloc (.cells #[.bool false, .slice none 0 0, .int .i64 0, .slice none 0 0, .int .u8 0] 155) = P0 := ⟨_, rfl⟩
                  have hP0 : P0.heap[W1.heap.size]? = some (.cells #[.bool false, .slice none 0 0, .int .i64 0, .slice none 0 0, .int .u8 0] 155 (0, 0)) := by rw [← e0]; exact heap_alloc_new _ _
                  have gP0 : Grow W1 P0 := by rw [← e0]; exact (Grow.refl _).alloc _
                  obtain ⟨x0, x1, x2, x3, x4⟩ := five_cells hP0
                  have z0 := not_frozen (k := 0) hP0
                  have z1 := not_frozen (k := 1) hP0
                  have z2 := not_frozen (k := 2) hP0
                  have z3 := not_frozen (k := 3) hP0
                  have z4 := not_frozen (k := 4) hP0
                  have hP := set_five hP0 (.bool gr) (.slice so sn sc) (.int .i64 nm) (.slice po pn pc) (.int .u8 0)
                  have gP : Grow W1 _ := grow_five gP0 (Nat.le_refl _) (.bool gr) (.slice so sn sc) (.int .i64 nm) (.slice po pn pc) (.int .u8 0)
                  obtain ⟨P1, eP⟩ : ∃ P1, (((((P0.setCell ⟨W1.heap.size, 0, none⟩ (.bool gr)).setCell ⟨W1.heap.size, 1, none⟩ (.slice so sn sc)).setCell ⟨W1.heap.size, 2, none⟩ (.int .i64 nm)).setCell ⟨W1.heap.size, 3, none⟩ (.slice po pn pc)).setCell ⟨W1.heap.size, 4, none⟩ (.int .u8 0)) = P1 := ⟨_, rfl⟩
                  rw [eP] at hP gP
                  have hsP : W1.heap.size < P1.heap.size := lt_of_block hP
                  have HM : Hid (Mid w rb W1 P1) := hide (Mid.first HRS1.out.kept gP hsP)
                  have HPB := hide hP
                  obtain ⟨p0, p1, p2, p3, p4⟩ := five_cells hP
                  clear hP0 gP0

                  have HRP := hide (hrx.grow gP)
                  have HCI1 : Hid (cellsAt W1 (rowA w (.slice oo k oc) (.slice ro n rc)) (rowT l .nil) xs) := hide (HCI.out.keep fun b h1 h2 => ⟨h2, HKB.out b h2.1 h1⟩)
                  have HCO1 : Hid (cellsAt W1 (rowA w (.slice oo k oc) (.slice ro n rc)) (rowsOf rs .nil) oys) := hide (HCO.out.keep fun b h1 h2 => ⟨h2, HKB.out b h2.1 h1⟩)
                  have HITQ : Hid (∀ Q it ys, Mid w rb W1 Q → itemAt W1 (fun b => X1.heap.size ≤ b) it ys → itemAt Q (rowA w (.slice oo k oc) (.slice ro n rc)) it ys) := hide fun Q it ys hM hi => hi.keep fun b h1 h2 => ⟨⟨by omega, fun e => by have := own_ge HRS.out.out e; omega, fun e => by have := own_ge HRS.out.row e; omega⟩, hM.same b (by omega) h1⟩
                  have HCQ : Hid (∀ Q T ys, Mid w rb W1 Q → cellsAt W1 (rowA w (.slice oo k oc) (.slice ro n rc)) T ys → cellsAt Q (rowA w (.slice oo k oc) (.slice ro n rc)) T ys) := hide fun Q T ys hM hc => hc.keep fun b h1 h2 => ⟨h2, hM.same b h2.1 h1⟩
                  obtain ⟨r0, r1, r2, r3, r4⟩ := five_cells HRP.out
                  clear hit hrx hgrp hP r2 r4 HPO HCI HCO
                  go_wp2_with fail
                  refine (ramong_any P1 rb m [42, 43, 63] j h 0 0 (by decide) HRP.out).mono ?_
                  rintro en w6 ⟨rfl, nd, rfl⟩
                  obtain ⟨bo, HBO⟩ : ∃ bo, Hid (comesB [42, 43, 63] m j = bo) := ⟨_, hide rfl⟩
                  rw [HBO.out]
                  clear r0 r1 r3 e0 eP x0 x1 x2 x3 x4 z0 z1 z2 z3 z4

                  obtain ⟨Q1, HQ1⟩ : ∃ Q1, Hid (Q1 = World.drewN P1 nd) := ⟨_, hide rfl⟩
                  rw [← HQ1.out]
                  have gQ : Grow P1 Q1 := by rw [HQ1.out]; exact ⟨rfl, rfl, rfl, Nat.le_refl _, fun _ _ => rfl⟩

                  have HM := hide (HM.out.on hrb (.grow gQ))
                  have HPB := hide (Grow.get gQ HPB.out)
                  have HRQ := hide (HRP.out.grow gQ)
                  obtain ⟨p0, p1, p2, p3, p4⟩ := five_cells HPB.out
                  obtain ⟨r0, r1, r2, r3, r4⟩ := five_cells HRQ.out
                  clear HRP HQ1 gQ r2 r4
                  cases bo with
                  | false =>
                    have HIN2 : Hid (inRow m F rs y (l ++ [it]) f2 j h) := by
                      obtain ⟨s, hs, hss⟩ := HZZ.out
                      have hso : s = .ok (0, j) := by
                        unfold pSign at hs
                        cases hcj : m[j]? with
                        | none => rw [hcj] at hs; exact (Option.some.inj hs).symm
                        | some cj =>
                          rw [hcj] at hs
                          try simp only at hs
                          have h2 := HBO.out
                          rw [comes_sign hcj] at h2
                          rw [h2] at hs
                          exact (Option.some.inj hs).symm
                      rw [hso] at hss
                      simp only [sgn_zero hsig] at hss
                      exact hide hss
                    obtain ⟨jj, hjj⟩ : ∃ jj, j = jj := ⟨_, rfl⟩
                    have HRSQ : Hid (RowSt w rb (.slice oo k oc) k oys (.slice ro n rc) n xs Q1) := hide (HRS1.out.keepW HM.out.kept HM.out.same)
                    have HIQ := hide (HITQ.out _ _ _ HM.out HIT.out)
                    have HCIQ := hide (HCQ.out _ _ _ HM.out HCI1.out)
                    have HCOQ := hide (HCQ.out _ _ _ HM.out HCO1.out)
                    subst hjj
                    obtain ⟨qo, qc, W9, hrun, hrs9, hc9, hi9, hrd9⟩ := HRSQ.out.push hrb (by omega) (pieceC5 gr (.slice so sn sc) nm (.slice po pn pc) 0) rfl (piece_oneCell _ _ _ _ _ _ _ _ _) 153
                    have HRUN := hide hrun
                    have HRS9 := hide hrs9
                    have HR9 := hide (hrd9 _ _ _ _ _ HRQ.out)
                    have HC9 := hide (cellsAt_snoc (hi9 _ _ HIQ.out) (hc9 _ _ HCIQ.out))
                    have HCO9 := hide (hc9 _ _ HCOQ.out)
                    clear hrun hrs9 hrd9 hc9 hi9
                    have hl9 : leftR W9 rb m.length = m.length + 2 - j := leftR_ok HR9.out
                    go_wp2_with (at_builtin; refine Lib.wpList_append_run _ rfl _ _ _ _ rfl _ _ rfl rfl _ _ HRUN.out ?_)
                    go_roundw
                    case rel => exact ⟨n + 1, _, HRS9, hide (.inl ⟨_, f2, j, h, HC9.out, HCO9.out, HR9.out, by omega, h9, by omega, HIN2.out⟩)⟩
                    case measure => rw [hl9, hl1]; omega
                  | true =>
                    obtain ⟨c2, hc2⟩ : ∃ c2, m[j]? = some c2 := ⟨_, List.getElem?_eq_getElem (comesB_lt HBO.out)⟩
                    have hs2 : isSign c2 = true := by rw [← comes_sign hc2]; exact HBO.out
                    have hsg : pSign m it.nul j = if it.nul && !decide (c2.toNat = 63) then some (.error (4, j)) else some (.ok (c2.toNat, j + 1)) := by
                      unfold pSign
                      rw [hc2]
                      simp only [hs2, if_true]
                    have HC2 := hide hc2
                    have HSG := hide hsg
                    clear hc2 hs2 hsg
                    cases it with
                    | set s sg =>
                      have hgr := item_set HIT.out
                      subst hgr
                      have HIN1 : Hid (inRow m F rs y (l ++ [(Item.set s sg).sgn c2.toNat]) f2 (j + 1) h) := by
                        obtain ⟨s', hs, hss⟩ := HZZ.out
                        try simp only at hs
                        rw [HSG.out] at hs
                        cases hs
                        exact hide hss
                      clear HZZ
                      have hjlt : j < m.length := get_lt HC2.out
                      have hjc : m[j] = c2 := by have h := HC2.out; rw [List.getElem?_eq_getElem hjlt] at h; exact Option.some.inj h
                      go_wp2
                      refine wp_region_free 10 99 Tryz.mixed2 rfl (by decide +kernel) Grow (fun _ _ _ => Grow.trans) (Grow.refl _)
                        (fun i v w' => match i with
                          | 0 => v = .pointer (some ⟨rb, 0, none⟩)
                          | 1 => v = .pointer (some ⟨rb, 0, none⟩)
                          | 2 => v = .pointer (some ⟨rb, 0, none⟩)
                          | 3 => v = .string (bs m)
                          | 4 => v = .pointer (some ⟨rb, 0, none⟩)
                          | 5 => v = .pointer (some ⟨rb, 0, none⟩)
                          | 6 => v = .pointer (some ⟨rb, 1, none⟩)
                          | 7 => v = .int .i64 j
                          | 8 => v = .int .u8 (c2.toNat : Int)
                          | _ => v = .pointer (some ⟨W1.heap.size, 4, none⟩))
                        (fun i v w1 w2 h hg => h) (fun _ _ => False) (fun _ _ _ _ h => h.elim) (fun i hi o ho a2 w2 hG hoff hdep => ?_) (fun vals w2 hG hvals => ?_)
                      · have hrd := HRQ.out.grow (hG.undrew)
                        obtain ⟨k0, k1, _, _, _⟩ := five_cells hrd
                        clear hrd
                        match i, hi with
                        | 0, _ =>
                          obtain rfl := Option.some.inj ho
                          have o0 := hoff 0 (by decide +kernel)
                          simp at o0
                          simp [opYields, go_sem, o0]
                          exact Grow.refl _
                        | 1, _ =>
                          obtain rfl := Option.some.inj ho
                          have d0 := hdep 0 (by decide +kernel)
                          simp [slotOf, dstOf] at d0
                          simp [opYields, go_sem, d0]
                          exact Grow.refl _
                        | 2, _ =>
                          obtain rfl := Option.some.inj ho
                          have d1 := hdep 1 (by decide +kernel)
                          simp [slotOf, dstOf] at d1
                          simp [opYields, go_sem, d1]
                          exact Grow.refl _
                        | 3, _ =>
                          obtain rfl := Option.some.inj ho
                          have d2 := hdep 2 (by decide +kernel)
                          simp [slotOf, dstOf] at d2
                          simp [opYields, go_sem, d2, k0]
                          exact Grow.refl _
                        | 4, _ =>
                          obtain rfl := Option.some.inj ho
                          have o0 := hoff 0 (by decide +kernel)
                          simp at o0
                          simp [opYields, go_sem, o0]
                          exact Grow.refl _
                        | 5, _ =>
                          obtain rfl := Option.some.inj ho
                          have d4 := hdep 4 (by decide +kernel)
                          simp [slotOf, dstOf] at d4
                          simp [opYields, go_sem, d4]
                          exact Grow.refl _
                        | 6, _ =>
                          obtain rfl := Option.some.inj ho
                          have d5 := hdep 5 (by decide +kernel)
                          simp [slotOf, dstOf] at d5
                          simp [opYields, go_sem, d5]
                          exact Grow.refl _
                        | 7, _ =>
                          obtain rfl := Option.some.inj ho
                          have d6 := hdep 6 (by decide +kernel)
                          simp [slotOf, dstOf] at d6
                          simp [opYields, go_sem, d6, k1]
                          exact Grow.refl _
                        | 8, _ =>
                          obtain rfl := Option.some.inj ho
                          have d3 := hdep 3 (by decide +kernel)
                          simp [slotOf, dstOf] at d3
                          have d7 := hdep 7 (by decide +kernel)
                          simp [slotOf, dstOf] at d7
                          simp [opYields, go_sem, d3, d7, hjlt, hjc]
                          exact Grow.refl _
                        | 9, _ =>
                          obtain rfl := Option.some.inj ho
                          have o5 := hoff 5 (by decide +kernel)
                          simp at o5
                          simp [opYields, go_sem, o5]
                          exact Grow.refl _
                        | k + 10, h => exact absurd h (by omega)
                      · have v8 := hvals 8 (by omega)
                        have v9 := hvals 9 (by omega)
                        simp only at v8 v9
                        have gw := hG.undrew
                        have HG2 := hide gw
                        have hPw := Grow.get gw HPB.out
                        obtain ⟨y0, y1, y2, y3, y4⟩ := five_cells hPw
                        have yf := not_frozen (k := 4) hPw
                        obtain ⟨Q2, eQ2⟩ : ∃ Q2, w2.setCell ⟨W1.heap.size, 4, none⟩ (.int .u8 (c2.toNat : Int)) = Q2 := ⟨_, rfl⟩
                        have HM2 : Hid (Mid w rb W1 Q2) := by rw [← eQ2]; exact hide ((HM.out.on hrb (.grow gw)).setP _ (by omega))
                        have hP2 : Q2.heap[W1.heap.size]? = some (.cells #[.bool false, .slice so sn sc, .int .i64 nm, .slice po pn pc, .int .u8 (c2.toNat : Int)] 155 (0, 0)) := by
                          rw [← eQ2, set_blk hPw]
                          rfl
                        have hR2 : readerAt Q2 rb m j h 0 0 := by rw [← eQ2]; exact (set_apart _ (by omega)).trans (HRQ.out.grow gw)
                        obtain ⟨s0, s1, s2, s3, s4⟩ := five_cells hR2
                        have sf := not_frozen (k := 1) hR2
                        obtain ⟨Q3, eQ3⟩ : ∃ Q3, Q2.setCell ⟨rb, 1, none⟩ (.int .i64 ((j : Int) + 1)) = Q3 := ⟨_, rfl⟩
                        have hwr : IntKind.i64.wrap ((j : Int) + 1) = (j : Int) + 1 := wrap_i64_small _ (by omega) (by omega)
                        have HM3 : Hid (Mid w rb W1 Q3) := by rw [← eQ3]; exact hide (HM2.out.on hrb (Kept2.setT _ _))
                        have hP3 : Q3.heap[W1.heap.size]? = some (.cells #[.bool false, .slice so sn sc, .int .i64 nm, .slice po pn pc, .int .u8 (c2.toNat : Int)] 155 (0, 0)) := by
                          rw [← eQ3]
                          exact (set_apart _ (by omega)).trans hP2
                        have HR3 : Hid (readerAt Q3 rb m (j + 1) h 0 0) := by rw [← eQ3]; exact hide (hR2.on _ rfl)
                        obtain ⟨t0, t1, t2, t3, t4⟩ := five_cells hP3
                        have HRSQ : Hid (RowSt w rb (.slice oo k oc) k oys (.slice ro n rc) n xs Q3) := hide (HRS1.out.keepW HM3.out.kept HM3.out.same)
                        obtain ⟨jj, hjj⟩ : ∃ jj, j + 1 = jj := ⟨_, rfl⟩
                        have HRQ := HR3
                        rw [hjj] at HRQ
                        clear hG hvals gw hPw hP2 hR2 hP3 HPB p0 p1 p2 p3 p4
                        simp [over, dstOf, Act.put, v8, v9]
                        have HIQ := hide (HITQ.out _ _ _ HM3.out (item_sign c2.toNat HIT.out))
                        have HCIQ := hide (HCQ.out _ _ _ HM3.out HCI1.out)
                        have HCOQ := hide (HCQ.out _ _ _ HM3.out HCO1.out)
                        have HIN2 : Hid (inRow m F rs y (l ++ [(Item.set s sg).sgn c2.toNat]) f2 jj h) := by rw [← hjj]; exact HIN1

                        obtain ⟨qo, qc, W9, hrun, hrs9, hc9, hi9, hrd9⟩ := HRSQ.out.push hrb (by omega) (pieceC5 false (.slice so sn sc) nm (.slice po pn pc) (c2.toNat : Int)) rfl (piece_oneCell _ _ _ _ _ _ _ _ _) 153
                        have HRUN := hide hrun
                        have HRS9 := hide hrs9
                        have HR9 := hide (hrd9 _ _ _ _ _ HRQ.out)
                        have HC9 := hide (cellsAt_snoc (hi9 _ _ HIQ.out) (hc9 _ _ HCIQ.out))
                        have HCO9 := hide (hc9 _ _ HCOQ.out)
                        clear hrun hrs9 hrd9 hc9 hi9
                        have hl9 : leftR W9 rb m.length = m.length + 2 - jj := leftR_ok HR9.out
                        go_wp2_with (at_builtin; refine Lib.wpList_append_run _ rfl _ _ _ _ rfl _ _ rfl rfl _ _ HRUN.out ?_)
                        go_roundw
                        case rel => exact ⟨n + 1, _, HRS9, hide (.inl ⟨_, f2, jj, h, HC9.out, HCO9.out, HR9.out, by omega, h9, by omega, HIN2.out⟩)⟩
                        case measure => rw [hl9, hl1]; omega
                    | grp n' rows sg =>
                      obtain ⟨hgr, kq, yq, hown, hownA, hcq⟩ := item_grp HIT.out
                      subst hgr
                      obtain ⟨hwf, hpm⟩ := HGRP.out n' rows sg rfl
                      have hsz : sz rows ≤ 5 * m.length + 1 := by
                        have h := pM_sz hpm (by omega)
                        simp at h
                        omega
                      have HOWN : Hid (∀ Q, Mid w rb W1 Q → Q.ownsRow 0 153 1 (.slice po pn pc) kq yq) := hide fun Q hM => own_keep hown fun b e => hM.same b (by have := hownA b e; omega) (hown.lt b e).2
                      have HCQQ : Hid (∀ Q, Mid w rb W1 Q → cellsAt Q (fun b => X1.heap.size ≤ b) rows yq) := hide fun Q hM => hcq.keep fun b h1 h2 => ⟨h2, hM.same b (by omega) h1⟩
                      have hkq : kq ≤ 1000000 := by
                        obtain ⟨rs2, _, rfl, _⟩ := (wf_parts rows).2 hwf
                        have h1 := (cellsAt_rows hcq).1
                        have h2 := own_len hown
                        have h3 := rowsOf_len rs2
                        omega
                      have HWF := hide hwf
                      clear hown hownA hcq hpm hwf
                      go_wp2_with fail
                      refine (ris_any Q1 rb m j h 0 0 63 63 rfl (by decide) HRQ.out).mono ?_
                      rintro en w7 ⟨rfl, nd2, rfl⟩
                      obtain ⟨bq, HBQ⟩ : ∃ bq, Hid (isAt m j 63 = bq) := ⟨_, hide rfl⟩
                      rw [HBQ.out]
                      obtain ⟨Q1b, HQ1b⟩ : ∃ Q1b, Hid (Q1b = World.drewN Q1 nd2) := ⟨_, hide rfl⟩
                      rw [← HQ1b.out]
                      have gQ : Grow Q1 Q1b := by rw [HQ1b.out]; exact ⟨rfl, rfl, rfl, Nat.le_refl _, fun _ _ => rfl⟩
                      have HM := hide (HM.out.on hrb (.grow gQ))
                      have HPB := hide (Grow.get gQ HPB.out)
                      have HRQ := hide (HRQ.out.grow gQ)
                      obtain ⟨p0, p1, p2, p3, p4⟩ := five_cells HPB.out
                      obtain ⟨r0, r1, r2, r3, r4⟩ := five_cells HRQ.out
                      clear HQ1b gQ r2 r3 r4
                      have h63 : decide (c2.toNat = 63) = bq := by
                        have h := HBQ.out
                        simp only [isAt, HC2.out] at h
                        exact h
                      cases bq with
                      | true =>
                        have HIN1 : Hid (inRow m F rs y (l ++ [(Item.grp n' rows sg).sgn c2.toNat]) f2 (j + 1) h) := by
                          obtain ⟨s', hs, hss⟩ := HZZ.out
                          try simp only at hs
                          rw [HSG.out, h63] at hs
                          simp at hs
                          subst hs
                          exact hide hss
                        clear HZZ h63
                        have hjlt : j < m.length := get_lt HC2.out
                        have hjc : m[j] = c2 := by have h := HC2.out; rw [List.getElem?_eq_getElem hjlt] at h; exact Option.some.inj h
                        go_wp2
                        refine wp_region_free 10 99 Tryz.mixed2 rfl (by decide +kernel) Grow (fun _ _ _ => Grow.trans) (Grow.refl _)
                          (fun i v w' => match i with
                            | 0 => v = .pointer (some ⟨rb, 0, none⟩)
                            | 1 => v = .pointer (some ⟨rb, 0, none⟩)
                            | 2 => v = .pointer (some ⟨rb, 0, none⟩)
                            | 3 => v = .string (bs m)
                            | 4 => v = .pointer (some ⟨rb, 0, none⟩)
                            | 5 => v = .pointer (some ⟨rb, 0, none⟩)
                            | 6 => v = .pointer (some ⟨rb, 1, none⟩)
                            | 7 => v = .int .i64 j
                            | 8 => v = .int .u8 (c2.toNat : Int)
                            | _ => v = .pointer (some ⟨W1.heap.size, 4, none⟩))
                          (fun i v w1 w2 h hg => h) (fun _ _ => False) (fun _ _ _ _ h => h.elim) (fun i hi o ho a2 w2 hG hoff hdep => ?_) (fun vals w2 hG hvals => ?_)
                        · have hrd := HRQ.out.grow (hG.undrew)
                          obtain ⟨k0, k1, _, _, _⟩ := five_cells hrd
                          clear hrd
                          match i, hi with
                          | 0, _ =>
                            obtain rfl := Option.some.inj ho
                            have o0 := hoff 0 (by decide +kernel)
                            simp at o0
                            simp [opYields, go_sem, o0]
                            exact Grow.refl _
                          | 1, _ =>
                            obtain rfl := Option.some.inj ho
                            have d0 := hdep 0 (by decide +kernel)
                            simp [slotOf, dstOf] at d0
                            simp [opYields, go_sem, d0]
                            exact Grow.refl _
                          | 2, _ =>
                            obtain rfl := Option.some.inj ho
                            have d1 := hdep 1 (by decide +kernel)
                            simp [slotOf, dstOf] at d1
                            simp [opYields, go_sem, d1]
                            exact Grow.refl _
                          | 3, _ =>
                            obtain rfl := Option.some.inj ho
                            have d2 := hdep 2 (by decide +kernel)
                            simp [slotOf, dstOf] at d2
                            simp [opYields, go_sem, d2, k0]
                            exact Grow.refl _
                          | 4, _ =>
                            obtain rfl := Option.some.inj ho
                            have o0 := hoff 0 (by decide +kernel)
                            simp at o0
                            simp [opYields, go_sem, o0]
                            exact Grow.refl _
                          | 5, _ =>
                            obtain rfl := Option.some.inj ho
                            have d4 := hdep 4 (by decide +kernel)
                            simp [slotOf, dstOf] at d4
                            simp [opYields, go_sem, d4]
                            exact Grow.refl _
                          | 6, _ =>
                            obtain rfl := Option.some.inj ho
                            have d5 := hdep 5 (by decide +kernel)
                            simp [slotOf, dstOf] at d5
                            simp [opYields, go_sem, d5]
                            exact Grow.refl _
                          | 7, _ =>
                            obtain rfl := Option.some.inj ho
                            have d6 := hdep 6 (by decide +kernel)
                            simp [slotOf, dstOf] at d6
                            simp [opYields, go_sem, d6, k1]
                            exact Grow.refl _
                          | 8, _ =>
                            obtain rfl := Option.some.inj ho
                            have d3 := hdep 3 (by decide +kernel)
                            simp [slotOf, dstOf] at d3
                            have d7 := hdep 7 (by decide +kernel)
                            simp [slotOf, dstOf] at d7
                            simp [opYields, go_sem, d3, d7, hjlt, hjc]
                            exact Grow.refl _
                          | 9, _ =>
                            obtain rfl := Option.some.inj ho
                            have o5 := hoff 5 (by decide +kernel)
                            simp at o5
                            simp [opYields, go_sem, o5]
                            exact Grow.refl _
                          | k + 10, h => exact absurd h (by omega)
                        · have v8 := hvals 8 (by omega)
                          have v9 := hvals 9 (by omega)
                          simp only at v8 v9
                          have gw := hG.undrew
                          have HG2 := hide gw
                          have hPw := Grow.get gw HPB.out
                          obtain ⟨y0, y1, y2, y3, y4⟩ := five_cells hPw
                          have yf := not_frozen (k := 4) hPw
                          obtain ⟨Q2, eQ2⟩ : ∃ Q2, w2.setCell ⟨W1.heap.size, 4, none⟩ (.int .u8 (c2.toNat : Int)) = Q2 := ⟨_, rfl⟩
                          have HM2 : Hid (Mid w rb W1 Q2) := by rw [← eQ2]; exact hide ((HM.out.on hrb (.grow gw)).setP _ (by omega))
                          have hP2 : Q2.heap[W1.heap.size]? = some (.cells #[.bool true, .slice so sn sc, .int .i64 nm, .slice po pn pc, .int .u8 (c2.toNat : Int)] 155 (0, 0)) := by
                            rw [← eQ2, set_blk hPw]
                            rfl
                          have hR2 : readerAt Q2 rb m j h 0 0 := by rw [← eQ2]; exact (set_apart _ (by omega)).trans (HRQ.out.grow gw)
                          obtain ⟨s0, s1, s2, s3, s4⟩ := five_cells hR2
                          have sf := not_frozen (k := 1) hR2
                          obtain ⟨Q3, eQ3⟩ : ∃ Q3, Q2.setCell ⟨rb, 1, none⟩ (.int .i64 ((j : Int) + 1)) = Q3 := ⟨_, rfl⟩
                          have hwr : IntKind.i64.wrap ((j : Int) + 1) = (j : Int) + 1 := wrap_i64_small _ (by omega) (by omega)
                          have HM3 : Hid (Mid w rb W1 Q3) := by rw [← eQ3]; exact hide (HM2.out.on hrb (Kept2.setT _ _))
                          have hP3 : Q3.heap[W1.heap.size]? = some (.cells #[.bool true, .slice so sn sc, .int .i64 nm, .slice po pn pc, .int .u8 (c2.toNat : Int)] 155 (0, 0)) := by
                            rw [← eQ3]
                            exact (set_apart _ (by omega)).trans hP2
                          have HR3 : Hid (readerAt Q3 rb m (j + 1) h 0 0) := by rw [← eQ3]; exact hide (hR2.on _ rfl)
                          obtain ⟨t0, t1, t2, t3, t4⟩ := five_cells hP3
                          have HRSQ : Hid (RowSt w rb (.slice oo k oc) k oys (.slice ro n rc) n xs Q3) := hide (HRS1.out.keepW HM3.out.kept HM3.out.same)
                          obtain ⟨jj, hjj⟩ : ∃ jj, j + 1 = jj := ⟨_, rfl⟩
                          have HRQ := HR3
                          rw [hjj] at HRQ
                          clear hG hvals gw hPw hP2 hR2 hP3 HPB p0 p1 p2 p3 p4
                          simp [over, dstOf, Act.put, v8, v9]
                          have HIQ := hide (HITQ.out _ _ _ HM3.out (item_sign c2.toNat HIT.out))
                          have HCIQ := hide (HCQ.out _ _ _ HM3.out HCI1.out)
                          have HCOQ := hide (HCQ.out _ _ _ HM3.out HCO1.out)
                          have HIN2 : Hid (inRow m F rs y (l ++ [(Item.grp n' rows sg).sgn c2.toNat]) f2 jj h) := by rw [← hjj]; exact HIN1

                          obtain ⟨qo, qc, W9, hrun, hrs9, hc9, hi9, hrd9⟩ := HRSQ.out.push hrb (by omega) (pieceC5 true (.slice so sn sc) nm (.slice po pn pc) (c2.toNat : Int)) rfl (piece_oneCell _ _ _ _ _ _ _ _ _) 153
                          have HRUN := hide hrun
                          have HRS9 := hide hrs9
                          have HR9 := hide (hrd9 _ _ _ _ _ HRQ.out)
                          have HC9 := hide (cellsAt_snoc (hi9 _ _ HIQ.out) (hc9 _ _ HCIQ.out))
                          have HCO9 := hide (hc9 _ _ HCOQ.out)
                          clear hrun hrs9 hrd9 hc9 hi9
                          have hl9 : leftR W9 rb m.length = m.length + 2 - jj := leftR_ok HR9.out
                          go_wp2_with (at_builtin; refine Lib.wpList_append_run _ rfl _ _ _ _ rfl _ _ rfl rfl _ _ HRUN.out ?_)
                          go_roundw
                          case rel => exact ⟨n + 1, _, HRS9, hide (.inl ⟨_, f2, jj, h, HC9.out, HCO9.out, HR9.out, by omega, h9, by omega, HIN2.out⟩)⟩
                          case measure => rw [hl9, hl1]; omega
                      | false =>
                        go_wp2_with fail
                        refine (mayNothing_any (sz rows) rows (Nat.le_refl _) HWF.out Q1b _ _ kq yq (HOWN.out _ HM.out) (HCQQ.out _ HM.out) hkq (fun r hr => by simp at hr; subst hr; omega)).mono ?_
                        rintro en Q1c ⟨rfl, gQ⟩
                        obtain ⟨nb, HNB⟩ : ∃ nb, Hid (nothing rows = nb) := ⟨_, hide rfl⟩
                        rw [HNB.out]
                        have HM := hide (HM.out.on hrb (.grow gQ))
                        have HPB := hide (Grow.get gQ HPB.out)
                        have HRQ := hide (HRQ.out.grow gQ)
                        obtain ⟨p0, p1, p2, p3, p4⟩ := five_cells HPB.out
                        obtain ⟨r0, r1, r2, r3, r4⟩ := five_cells HRQ.out
                        clear gQ r2 r3 r4
                        cases nb with
                        | false =>
                          have HIN1 : Hid (inRow m F rs y (l ++ [(Item.grp n' rows sg).sgn c2.toNat]) f2 (j + 1) h) := by
                            obtain ⟨s', hs, hss⟩ := HZZ.out
                            try simp only at hs
                            rw [HSG.out, show (Item.grp n' rows sg).nul = false from HNB.out] at hs
                            simp at hs
                            subst hs
                            exact hide hss
                          clear HZZ h63
                          have hjlt : j < m.length := get_lt HC2.out
                          have hjc : m[j] = c2 := by have h := HC2.out; rw [List.getElem?_eq_getElem hjlt] at h; exact Option.some.inj h
                          go_wp2
                          refine wp_region_free 10 99 Tryz.mixed2 rfl (by decide +kernel) Grow (fun _ _ _ => Grow.trans) (Grow.refl _)
                            (fun i v w' => match i with
                              | 0 => v = .pointer (some ⟨rb, 0, none⟩)
                              | 1 => v = .pointer (some ⟨rb, 0, none⟩)
                              | 2 => v = .pointer (some ⟨rb, 0, none⟩)
                              | 3 => v = .string (bs m)
                              | 4 => v = .pointer (some ⟨rb, 0, none⟩)
                              | 5 => v = .pointer (some ⟨rb, 0, none⟩)
                              | 6 => v = .pointer (some ⟨rb, 1, none⟩)
                              | 7 => v = .int .i64 j
                              | 8 => v = .int .u8 (c2.toNat : Int)
                              | _ => v = .pointer (some ⟨W1.heap.size, 4, none⟩))
                            (fun i v w1 w2 h hg => h) (fun _ _ => False) (fun _ _ _ _ h => h.elim) (fun i hi o ho a2 w2 hG hoff hdep => ?_) (fun vals w2 hG hvals => ?_)
                          · have hrd := HRQ.out.grow (hG.undrew)
                            obtain ⟨k0, k1, _, _, _⟩ := five_cells hrd
                            clear hrd
                            match i, hi with
                            | 0, _ =>
                              obtain rfl := Option.some.inj ho
                              have o0 := hoff 0 (by decide +kernel)
                              simp at o0
                              simp [opYields, go_sem, o0]
                              exact Grow.refl _
                            | 1, _ =>
                              obtain rfl := Option.some.inj ho
                              have d0 := hdep 0 (by decide +kernel)
                              simp [slotOf, dstOf] at d0
                              simp [opYields, go_sem, d0]
                              exact Grow.refl _
                            | 2, _ =>
                              obtain rfl := Option.some.inj ho
                              have d1 := hdep 1 (by decide +kernel)
                              simp [slotOf, dstOf] at d1
                              simp [opYields, go_sem, d1]
                              exact Grow.refl _
                            | 3, _ =>
                              obtain rfl := Option.some.inj ho
                              have d2 := hdep 2 (by decide +kernel)
                              simp [slotOf, dstOf] at d2
                              simp [opYields, go_sem, d2, k0]
                              exact Grow.refl _
                            | 4, _ =>
                              obtain rfl := Option.some.inj ho
                              have o0 := hoff 0 (by decide +kernel)
                              simp at o0
                              simp [opYields, go_sem, o0]
                              exact Grow.refl _
                            | 5, _ =>
                              obtain rfl := Option.some.inj ho
                              have d4 := hdep 4 (by decide +kernel)
                              simp [slotOf, dstOf] at d4
                              simp [opYields, go_sem, d4]
                              exact Grow.refl _
                            | 6, _ =>
                              obtain rfl := Option.some.inj ho
                              have d5 := hdep 5 (by decide +kernel)
                              simp [slotOf, dstOf] at d5
                              simp [opYields, go_sem, d5]
                              exact Grow.refl _
                            | 7, _ =>
                              obtain rfl := Option.some.inj ho
                              have d6 := hdep 6 (by decide +kernel)
                              simp [slotOf, dstOf] at d6
                              simp [opYields, go_sem, d6, k1]
                              exact Grow.refl _
                            | 8, _ =>
                              obtain rfl := Option.some.inj ho
                              have d3 := hdep 3 (by decide +kernel)
                              simp [slotOf, dstOf] at d3
                              have d7 := hdep 7 (by decide +kernel)
                              simp [slotOf, dstOf] at d7
                              simp [opYields, go_sem, d3, d7, hjlt, hjc]
                              exact Grow.refl _
                            | 9, _ =>
                              obtain rfl := Option.some.inj ho
                              have o5 := hoff 5 (by decide +kernel)
                              simp at o5
                              simp [opYields, go_sem, o5]
                              exact Grow.refl _
                            | k + 10, h => exact absurd h (by omega)
                          · have v8 := hvals 8 (by omega)
                            have v9 := hvals 9 (by omega)
                            simp only at v8 v9
                            have gw := hG.undrew
                            have HG2 := hide gw
                            have hPw := Grow.get gw HPB.out
                            obtain ⟨y0, y1, y2, y3, y4⟩ := five_cells hPw
                            have yf := not_frozen (k := 4) hPw
                            obtain ⟨Q2, eQ2⟩ : ∃ Q2, w2.setCell ⟨W1.heap.size, 4, none⟩ (.int .u8 (c2.toNat : Int)) = Q2 := ⟨_, rfl⟩
                            have HM2 : Hid (Mid w rb W1 Q2) := by rw [← eQ2]; exact hide ((HM.out.on hrb (.grow gw)).setP _ (by omega))
                            have hP2 : Q2.heap[W1.heap.size]? = some (.cells #[.bool true, .slice so sn sc, .int .i64 nm, .slice po pn pc, .int .u8 (c2.toNat : Int)] 155 (0, 0)) := by
                              rw [← eQ2, set_blk hPw]
                              rfl
                            have hR2 : readerAt Q2 rb m j h 0 0 := by rw [← eQ2]; exact (set_apart _ (by omega)).trans (HRQ.out.grow gw)
                            obtain ⟨s0, s1, s2, s3, s4⟩ := five_cells hR2
                            have sf := not_frozen (k := 1) hR2
                            obtain ⟨Q3, eQ3⟩ : ∃ Q3, Q2.setCell ⟨rb, 1, none⟩ (.int .i64 ((j : Int) + 1)) = Q3 := ⟨_, rfl⟩
                            have hwr : IntKind.i64.wrap ((j : Int) + 1) = (j : Int) + 1 := wrap_i64_small _ (by omega) (by omega)
                            have HM3 : Hid (Mid w rb W1 Q3) := by rw [← eQ3]; exact hide (HM2.out.on hrb (Kept2.setT _ _))
                            have hP3 : Q3.heap[W1.heap.size]? = some (.cells #[.bool true, .slice so sn sc, .int .i64 nm, .slice po pn pc, .int .u8 (c2.toNat : Int)] 155 (0, 0)) := by
                              rw [← eQ3]
                              exact (set_apart _ (by omega)).trans hP2
                            have HR3 : Hid (readerAt Q3 rb m (j + 1) h 0 0) := by rw [← eQ3]; exact hide (hR2.on _ rfl)
                            obtain ⟨t0, t1, t2, t3, t4⟩ := five_cells hP3
                            have HRSQ : Hid (RowSt w rb (.slice oo k oc) k oys (.slice ro n rc) n xs Q3) := hide (HRS1.out.keepW HM3.out.kept HM3.out.same)
                            obtain ⟨jj, hjj⟩ : ∃ jj, j + 1 = jj := ⟨_, rfl⟩
                            have HRQ := HR3
                            rw [hjj] at HRQ
                            clear hG hvals gw hPw hP2 hR2 hP3 HPB p0 p1 p2 p3 p4
                            simp [over, dstOf, Act.put, v8, v9]
                            have HIQ := hide (HITQ.out _ _ _ HM3.out (item_sign c2.toNat HIT.out))
                            have HCIQ := hide (HCQ.out _ _ _ HM3.out HCI1.out)
                            have HCOQ := hide (HCQ.out _ _ _ HM3.out HCO1.out)
                            have HIN2 : Hid (inRow m F rs y (l ++ [(Item.grp n' rows sg).sgn c2.toNat]) f2 jj h) := by rw [← hjj]; exact HIN1

                            obtain ⟨qo, qc, W9, hrun, hrs9, hc9, hi9, hrd9⟩ := HRSQ.out.push hrb (by omega) (pieceC5 true (.slice so sn sc) nm (.slice po pn pc) (c2.toNat : Int)) rfl (piece_oneCell _ _ _ _ _ _ _ _ _) 153
                            have HRUN := hide hrun
                            have HRS9 := hide hrs9
                            have HR9 := hide (hrd9 _ _ _ _ _ HRQ.out)
                            have HC9 := hide (cellsAt_snoc (hi9 _ _ HIQ.out) (hc9 _ _ HCIQ.out))
                            have HCO9 := hide (hc9 _ _ HCOQ.out)
                            clear hrun hrs9 hrd9 hc9 hi9
                            have hl9 : leftR W9 rb m.length = m.length + 2 - jj := leftR_ok HR9.out
                            go_wp2_with (at_builtin; refine Lib.wpList_append_run _ rfl _ _ _ _ rfl _ _ rfl rfl _ _ HRUN.out ?_)
                            go_roundw
                            case rel => exact ⟨n + 1, _, HRS9, hide (.inl ⟨_, f2, jj, h, HC9.out, HCO9.out, HR9.out, by omega, h9, by omega, HIN2.out⟩)⟩
                            case measure => rw [hl9, hl1]; omega
                        | true =>
                          have HYX : Hid (y = .error (4, j)) := by
                            obtain ⟨s', hs, hss⟩ := HZZ.out
                            try simp only at hs
                            rw [HSG.out, show (Item.grp n' rows sg).nul = true from HNB.out, h63] at hs
                            simp at hs
                            subst hs
                            exact hide hss
                          obtain ⟨x, hx⟩ : ∃ x : Nat × Nat, (4, j) = x := ⟨_, rfl⟩
                          rw [hx] at HYX
                          have HX0 : Hid (x.1 ≠ 0) := by rw [← hx]; exact hide (show (4 : Nat) ≠ 0 by decide)
                          have hx1 : x.1 = 4 := by rw [← hx]
                          have hx2 : x.2 = j := by rw [← hx]
                          clear HZZ h63 hx
                          go_wp2_with fail
                          refine (wrong_any Q1c rb m j h 4 (j : Int) x.1 x.2 (by rw [hx1]; rfl) (by rw [hx2]) HRQ.out).mono ?_
                          rintro en Q1d ⟨rfl, hk8, hr8⟩
                          have HM := hide (HM.out.on hrb hk8)
                          have HPB : Hid (Q1d.heap[W1.heap.size]? = _) := hide ((hk8.block _ (lt_of_block HPB.out) (by omega) (by omega)).trans HPB.out)
                          have HRQ := hide hr8
                          obtain ⟨p0, p1, p2, p3, p4⟩ := five_cells HPB.out
                          obtain ⟨r0, r1, r2, r3, r4⟩ := five_cells HRQ.out
                          clear hk8 hr8 r2 r3 r4
                          have hjlt : j < m.length := get_lt HC2.out
                          have hjc : m[j] = c2 := by have h := HC2.out; rw [List.getElem?_eq_getElem hjlt] at h; exact Option.some.inj h
                          go_wp2
                          refine wp_region_free 10 99 Tryz.mixed2 rfl (by decide +kernel) Grow (fun _ _ _ => Grow.trans) (Grow.refl _)
                            (fun i v w' => match i with
                              | 0 => v = .pointer (some ⟨rb, 0, none⟩)
                              | 1 => v = .pointer (some ⟨rb, 0, none⟩)
                              | 2 => v = .pointer (some ⟨rb, 0, none⟩)
                              | 3 => v = .string (bs m)
                              | 4 => v = .pointer (some ⟨rb, 0, none⟩)
                              | 5 => v = .pointer (some ⟨rb, 0, none⟩)
                              | 6 => v = .pointer (some ⟨rb, 1, none⟩)
                              | 7 => v = .int .i64 j
                              | 8 => v = .int .u8 (c2.toNat : Int)
                              | _ => v = .pointer (some ⟨W1.heap.size, 4, none⟩))
                            (fun i v w1 w2 h hg => h) (fun _ _ => False) (fun _ _ _ _ h => h.elim) (fun i hi o ho a2 w2 hG hoff hdep => ?_) (fun vals w2 hG hvals => ?_)
                          · have hrd := HRQ.out.grow (hG.undrew)
                            obtain ⟨k0, k1, _, _, _⟩ := five_cells hrd
                            clear hrd
                            match i, hi with
                            | 0, _ =>
                              obtain rfl := Option.some.inj ho
                              have o0 := hoff 0 (by decide +kernel)
                              simp at o0
                              simp [opYields, go_sem, o0]
                              exact Grow.refl _
                            | 1, _ =>
                              obtain rfl := Option.some.inj ho
                              have d0 := hdep 0 (by decide +kernel)
                              simp [slotOf, dstOf] at d0
                              simp [opYields, go_sem, d0]
                              exact Grow.refl _
                            | 2, _ =>
                              obtain rfl := Option.some.inj ho
                              have d1 := hdep 1 (by decide +kernel)
                              simp [slotOf, dstOf] at d1
                              simp [opYields, go_sem, d1]
                              exact Grow.refl _
                            | 3, _ =>
                              obtain rfl := Option.some.inj ho
                              have d2 := hdep 2 (by decide +kernel)
                              simp [slotOf, dstOf] at d2
                              simp [opYields, go_sem, d2, k0]
                              exact Grow.refl _
                            | 4, _ =>
                              obtain rfl := Option.some.inj ho
                              have o0 := hoff 0 (by decide +kernel)
                              simp at o0
                              simp [opYields, go_sem, o0]
                              exact Grow.refl _
                            | 5, _ =>
                              obtain rfl := Option.some.inj ho
                              have d4 := hdep 4 (by decide +kernel)
                              simp [slotOf, dstOf] at d4
                              simp [opYields, go_sem, d4]
                              exact Grow.refl _
                            | 6, _ =>
                              obtain rfl := Option.some.inj ho
                              have d5 := hdep 5 (by decide +kernel)
                              simp [slotOf, dstOf] at d5
                              simp [opYields, go_sem, d5]
                              exact Grow.refl _
                            | 7, _ =>
                              obtain rfl := Option.some.inj ho
                              have d6 := hdep 6 (by decide +kernel)
                              simp [slotOf, dstOf] at d6
                              simp [opYields, go_sem, d6, k1]
                              exact Grow.refl _
                            | 8, _ =>
                              obtain rfl := Option.some.inj ho
                              have d3 := hdep 3 (by decide +kernel)
                              simp [slotOf, dstOf] at d3
                              have d7 := hdep 7 (by decide +kernel)
                              simp [slotOf, dstOf] at d7
                              simp [opYields, go_sem, d3, d7, hjlt, hjc]
                              exact Grow.refl _
                            | 9, _ =>
                              obtain rfl := Option.some.inj ho
                              have o5 := hoff 5 (by decide +kernel)
                              simp at o5
                              simp [opYields, go_sem, o5]
                              exact Grow.refl _
                            | k + 10, h => exact absurd h (by omega)
                          · have v8 := hvals 8 (by omega)
                            have v9 := hvals 9 (by omega)
                            simp only at v8 v9
                            have gw := hG.undrew
                            have HG2 := hide gw
                            have hPw := Grow.get gw HPB.out
                            obtain ⟨y0, y1, y2, y3, y4⟩ := five_cells hPw
                            have yf := not_frozen (k := 4) hPw
                            obtain ⟨Q2, eQ2⟩ : ∃ Q2, w2.setCell ⟨W1.heap.size, 4, none⟩ (.int .u8 (c2.toNat : Int)) = Q2 := ⟨_, rfl⟩
                            have HM2 : Hid (Mid w rb W1 Q2) := by rw [← eQ2]; exact hide ((HM.out.on hrb (.grow gw)).setP _ (by omega))
                            have hP2 : Q2.heap[W1.heap.size]? = some (.cells #[.bool true, .slice so sn sc, .int .i64 nm, .slice po pn pc, .int .u8 (c2.toNat : Int)] 155 (0, 0)) := by
                              rw [← eQ2, set_blk hPw]
                              rfl
                            have hR2 : readerAt Q2 rb m j h x.1 x.2 := by rw [← eQ2]; exact (set_apart _ (by omega)).trans (HRQ.out.grow gw)
                            obtain ⟨s0, s1, s2, s3, s4⟩ := five_cells hR2
                            have sf := not_frozen (k := 1) hR2
                            obtain ⟨Q3, eQ3⟩ : ∃ Q3, Q2.setCell ⟨rb, 1, none⟩ (.int .i64 ((j : Int) + 1)) = Q3 := ⟨_, rfl⟩
                            have hwr : IntKind.i64.wrap ((j : Int) + 1) = (j : Int) + 1 := wrap_i64_small _ (by omega) (by omega)
                            have HM3 : Hid (Mid w rb W1 Q3) := by rw [← eQ3]; exact hide (HM2.out.on hrb (Kept2.setT _ _))
                            have hP3 : Q3.heap[W1.heap.size]? = some (.cells #[.bool true, .slice so sn sc, .int .i64 nm, .slice po pn pc, .int .u8 (c2.toNat : Int)] 155 (0, 0)) := by
                              rw [← eQ3]
                              exact (set_apart _ (by omega)).trans hP2
                            have HR3 : Hid (readerAt Q3 rb m (j + 1) h x.1 x.2) := by rw [← eQ3]; exact hide (hR2.on _ rfl)
                            obtain ⟨t0, t1, t2, t3, t4⟩ := five_cells hP3
                            have HRSQ : Hid (RowSt w rb (.slice oo k oc) k oys (.slice ro n rc) n xs Q3) := hide (HRS1.out.keepW HM3.out.kept HM3.out.same)
                            obtain ⟨jj, hjj⟩ : ∃ jj, j + 1 = jj := ⟨_, rfl⟩
                            have HRQ := HR3
                            rw [hjj] at HRQ
                            clear hG hvals gw hPw hP2 hR2 hP3 HPB p0 p1 p2 p3 p4
                            simp [over, dstOf, Act.put, v8, v9]
                            obtain ⟨qo, qc, W9, hrun, hrs9, _, _, hrd9⟩ := HRSQ.out.push hrb (by omega) (pieceC5 true (.slice so sn sc) nm (.slice po pn pc) (c2.toNat : Int)) rfl (piece_oneCell _ _ _ _ _ _ _ _ _) 153
                            have HRUN := hide hrun
                            have HRS9 := hide hrs9
                            have HR9 := hide (hrd9 _ _ _ _ _ HRQ.out)
                            clear hrun hrs9 hrd9
                            have hl9 : leftR W9 rb m.length = 0 := leftR_err HR9.out HX0.out
                            go_wp2_with (at_builtin; refine Lib.wpList_append_run _ rfl _ _ _ _ rfl _ _ rfl rfl _ _ HRUN.out ?_)
                            go_roundw
                            case rel => exact ⟨n + 1, _, HRS9, hide (.inr ⟨x, _, h, HYX.out, HX0.out, HR9.out, by omega⟩)⟩
                            case measure => rw [hl9, hl1]; omega
          · have hd : decide ((i1 : Int) < m.length) = false := by simpa using hlt
            have HEND : Hid (m[i1]? = none ∨ isAt m i1 124 = true ∨ isAt m i1 41 = true) := hide (.inl (List.getElem?_eq_none_iff.2 (by omega)))
            go_wp2
            go_quiet (fail)
            obtain ⟨X1, HW2⟩ : ∃ X1, Hid (X1 = World.drewN W nq) := ⟨_, hide rfl⟩
            rw [← HW2.out]
            have HRS : Hid (RowSt w rb (.slice oo k oc) k oys (.slice ro n rc) n xs X1) := by rw [HW2.out]; exact hide (HRS.out.keepW HRS.out.kept.drewN fun _ _ _ => rfl)
            have HCI : Hid (cellsAt X1 (rowA w (.slice oo k oc) (.slice ro n rc)) (rowT l .nil) xs) := by rw [HW2.out]; exact hide (HCI.out.grow ⟨rfl, rfl, rfl, Nat.le_refl _, fun _ _ => rfl⟩)
            have HCO : Hid (cellsAt X1 (rowA w (.slice oo k oc) (.slice ro n rc)) (rowsOf rs .nil) oys) := by rw [HW2.out]; exact hide (HCO.out.grow ⟨rfl, rfl, rfl, Nat.le_refl _, fun _ _ => rfl⟩)
            have HRX : Hid (readerAt X1 rb m i1 g1 0 0) := by rw [HW2.out]; exact hide HRX.out.draw
            clear HW2
            obtain ⟨po, pc, W2, hrun, hk2, ho2, hc2, hrow2, hrd2⟩ := HRS.out.pushOut hrb (by omega) 63
            have HRUN := hide hrun
            have HK2 := hide hk2
            have HO2 := hide ho2
            have HR2 := hide (hrd2 _ _ _ _ _ HRX.out)
            have HC2 : Hid (cellsAt W2 (outA w (.slice po (k + 1) pc)) (rowsOf (rs ++ [rowT l .nil]) .nil) (oys ++ [.slice ro n rc])) := hide (cellsAt_rows_snoc (hrow2 _ HCI.out) (hc2 _ _ HCO.out))
            have HCT := hide (inRow_end HIN.out HEND.out)
            clear hrun hk2 ho2 hrd2 hc2 hrow2
            go_wp2_with (at_builtin; refine Lib.wpList_append_run _ rfl _ _ _ _ rfl _ _ rfl rfl _ _ HRUN.out ?_)
            refine (rmay_any W2 rb m i1 g1 0 0 124 124 rfl (by decide) (by omega) HR2.out).mono ?_
            rintro en W3 ⟨rfl, hk3, hr3⟩
            have HK3 : Hid (Kept2 rb rb w W3) := hide (HK2.out.trans hk3)
            have HR3 := hide hr3
            have hkb : ∀ b, w.heap.size ≤ b → b < W2.heap.size → W3.heap[b]? = W2.heap[b]? := fun b h1 h2 => hk3.block b h2 (by omega) (by omega)
            have HO3 : Hid (W3.ownsRow w.heap.size 153 1 (.slice po (k + 1) pc) (k + 1) (oys ++ [.slice ro n rc])) := hide (own_keep HO2.out fun b hb => hkb b (own_ge HO2.out hb).1 (own_ge HO2.out hb).2)
            have HC3 : Hid (cellsAt W3 (outA w (.slice po (k + 1) pc)) (rowsOf (rs ++ [rowT l .nil]) .nil) (oys ++ [.slice ro n rc])) := hide (HC2.out.keep fun b h1 h2 => ⟨h2, hkb b h2.1 h1⟩)
            clear hk3 hr3 hkb
            obtain ⟨bo, HBO⟩ : ∃ bo, Hid (isAt m i1 124 = bo) := ⟨_, hide rfl⟩
            rw [HBO.out]
            have HR4 := HR3
            rw [HBO.out] at HR4
            have HCT2 := HCT.out
            unfold contR at HCT2
            simp only at HCT2
            rw [HBO.out] at HCT2
            have HCT3 := hide HCT2
            clear HCT2
            cases bo with
            | true =>
              have hi1lt := isAt_lt HBO.out
              have hl3 : leftR W3 rb m.length = m.length + 2 - (i1 + 1) := leftR_ok HR4.out
              obtain ⟨F', rfl⟩ : ∃ F', F = F' + 1 := by
                cases F with
                | zero => have h := HCT3.out; cases h
                | succ F => exact ⟨F, rfl⟩
              have HREL2 : Hid (bindO (pM m F' false (i1 + 1) g1) (contR m F' (rs ++ [rowT l .nil])) = some y) := by
                have h := HCT3.out
                rw [if_pos rfl] at h
                show _ = _
                rw [← rows_open, ← h]
                refine bindO_congr _ fun x _ => ?_
                rw [rowsOf_snoc]
              go_wp2
              go_roundw
              case rel => exact ⟨k + 1, _, HK3, HO3, hide (.inl ⟨rs ++ [rowT l .nil], i1 + 1, g1, F', by simp [hrs], by omega, by omega, hg1, HR4.out, HC3.out, by omega, HREL2.out⟩)⟩
              case measure => rw [hl3, hl0]; omega
            | false =>
              have HYE : Hid (y = .ok (rowsOf (rs ++ [rowT l .nil]) .nil, i1, g1)) := by
                have h := HCT3.out
                rw [if_neg (by decide)] at h
                rw [rowsOf_snoc]
                exact hide (Option.some.inj h).symm
              go_wp2
              go_ret
              refine ⟨HK3.out, _, _, _, rfl, HO3.out, ?_⟩
              rw [HYE.out]
              exact ⟨HC3.out, HR4.out⟩
        · have HRX := hide hrx
          have HYX := hide hyx
          have HX0 := hide hx0
          obtain ⟨c0, c1, c2, c3, c4⟩ := five_cells hrx
          have hxn : ((x.1 : Int) == 0) = false := by simp; omega
          clear hrx hyx HS c0 c1 c2 c4
          go_wp2
          go_quiet (fail)
          obtain ⟨X1, HW2⟩ : ∃ X1, Hid (X1 = World.drewN W nq) := ⟨_, hide rfl⟩
          rw [← HW2.out]
          have HRS : Hid (RowSt w rb (.slice oo k oc) k oys (.slice ro n rc) n xs X1) := by rw [HW2.out]; exact hide (HRS.out.keepW HRS.out.kept.drewN fun _ _ _ => rfl)
          have HRX : Hid (readerAt X1 rb m j h x.1 x.2) := by rw [HW2.out]; exact hide HRX.out.draw
          clear HW2
          obtain ⟨po, pc, W2, hrun, hk2, ho2, _, _, hrd2⟩ := HRS.out.pushOut hrb (by omega) 63
          have HRUN := hide hrun
          have HK2 := hide hk2
          have HO2 := hide ho2
          have HR2 := hide (hrd2 _ _ _ _ _ HRX.out)
          clear hrun hk2 ho2 hrd2
          go_wp2_with (at_builtin; refine Lib.wpList_append_run _ rfl _ _ _ _ rfl _ _ rfl rfl _ _ HRUN.out ?_)
          refine (rmay_any W2 rb m j h x.1 x.2 124 124 rfl (by decide) (by omega) HR2.out).mono ?_
          rintro en W3 ⟨rfl, hk3, hr3⟩
          have HK3 : Hid (Kept2 rb rb w W3) := hide (HK2.out.trans hk3)
          have HR3 := hide hr3
          have HO3 : Hid (W3.ownsRow w.heap.size 153 1 (.slice po (k + 1) pc) (k + 1) (oys ++ [.slice ro n rc])) := hide (own_keep HO2.out fun b hb => hk3.block b (own_ge HO2.out hb).2 (by have := (own_ge HO2.out hb).1; omega) (by have := (own_ge HO2.out hb).1; omega))
          clear hk3 hr3
          obtain ⟨bo, HBO⟩ : ∃ bo, Hid (isAt m j 124 = bo) := ⟨_, hide rfl⟩
          rw [HBO.out]
          cases bo with
          | true =>
            have hl3 : leftR W3 rb m.length = 0 := leftR_err HR3.out HX0.out
            go_wp2
            go_roundw
            case rel => exact ⟨k + 1, _, HK3, HO3, hide (.inr ⟨x, _, h, HYX.out, HX0.out, HR3.out, by omega⟩)⟩
            case measure => rw [hl3, hl0]; omega
          | false =>
            go_wp2
            go_ret
            refine ⟨HK3.out, _, _, _, rfl, HO3.out, ?_⟩
            rw [HYX.out]
            exact ⟨_, h, HR3.out⟩
    · have HRX := hide hrx
      have HYX := hide hyx
      obtain ⟨c0, c1, c2, c3, c4⟩ := five_cells hrx
      have hxn : ((x.1 : Int) == 0) = false := by simp; omega
      clear hrx HS c0 c1 c2 c4
      go_wp2
      go_ret
      refine ⟨HK.out, _, _, _, rfl, HO.out, ?_⟩
      rw [HYX.out]
      exact ⟨j, h, HRX.out⟩

theorem rrows_ok {m : List UInt8} (hm : m.length ≤ 1000) (f : Nat) : RRowsOK m f := by
  induction f using Nat.strongRecOn with
  | _ f ih => exact rrows_any hm ih

end Go.Proofs.YtndpjdmfkhjiiaaGreatDoor
