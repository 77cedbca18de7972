/- The document's own reader of masks: groups; all pieces. -/
import Derived.Test.YtndpjdmfkhjiiaaGreatDoorProg
import Derived.Test.YtndpjdmfkhjiiaaGreatDoorKit
import Derived.Test.YtndpjdmfkhjiiaaGreatDoorMPar
import Derived.Test.YtndpjdmfkhjiiaaGreatDoorMErr
import Derived.Test.YtndpjdmfkhjiiaaGreatDoorMLay
import Derived.Test.YtndpjdmfkhjiiaaGreatDoorMWlk
import Derived.Test.YtndpjdmfkhjiiaaGreatDoorMFrom
import Derived.Test.YtndpjdmfkhjiiaaGreatDoorMExp
import Derived.Test.YtndpjdmfkhjiiaaGreatDoorMPrA
import Derived.Test.YtndpjdmfkhjiiaaGreatDoorMPrB
import Derived.Test.YtndpjdmfkhjiiaaGreatDoorMPrD
import Derived.Test.YtndpjdmfkhjiiaaGreatDoorMPrK
import Derived.Test.YtndpjdmfkhjiiaaGreatDoorMNew
import Derived.Test.YtndpjdmfkhjiiaaGreatDoorMRdA
import Derived.Test.YtndpjdmfkhjiiaaGreatDoorMRdB
import Derived.Test.YtndpjdmfkhjiiaaGreatDoorMRdC
import Derived.Test.YtndpjdmfkhjiiaaGreatDoorMRdD
import Derived.Test.YtndpjdmfkhjiiaaGreatDoorMRdE
import Derived.Test.YtndpjdmfkhjiiaaGreatDoorMRdF
import Derived.Test.YtndpjdmfkhjiiaaGreatDoorMRdG
import Derived.BigQuiet
set_option linter.unusedVariables false
set_option linter.unusedSimpArgs false
namespace Go.Proofs.YtndpjdmfkhjiiaaGreatDoor
open Go.RowKit
attribute [local go_sem] bs_size bs_toList bs_append bs_get bs_extract

/-- What Rows does, with so many groups ahead. -/
def rrowsPost (rb : Nat) (m : List UInt8) (y : Except (Nat × Nat) (Tr × Nat × Nat)) (w : World) (e : Ending) (w' : World) : Prop :=
  Kept2 rb rb w w' ∧ ∃ v k ys, e = .returned v ∧ w'.ownsRow w.heap.size 153 1 v k ys ∧ match y with
    | .error x => ∃ j h, readerAt w' rb m j h x.1 x.2
    | .ok x => cellsAt w' (fun b => w.heap.size ≤ b ∧ v.ownBlock ≠ some b) x.1 ys ∧ readerAt w' rb m x.2.1 x.2.2 0 0
def RRowsOK (m : List UInt8) (f : Nat) : Prop :=
  ∀ (w : World) (rb i g : Nat) (y : Except (Nat × Nat) (Tr × Nat × Nat)), readerAt w rb m i g 0 0 → i ≤ m.length → g ≤ 9 → pM m f true i g = some y →
    Calls Tryz.prog 74 #[.pointer (some ⟨rb, 0, none⟩)] w (rrowsPost rb m y w)

/-- A piece without its sign. -/
def aOut (m : List UInt8) (f i g : Nat) (c : UInt8) : Out (Item × Nat × Nat) :=
  if c.toNat = 40 then
    if g = 9 then some (.error (2, i))
    else bindO (pM m f true (i + 1) (g + 1)) fun x => if isAt m x.2.1 41 then some (.ok (.grp g x.1 0, x.2.1 + 1, x.2.2)) else some (.error (1, x.2.1))
  else bindO (pSet m i c) fun x => some (.ok (.set x.1 0, x.2, g))
def apost (rb : Nat) (m : List UInt8) (y : Except (Nat × Nat) (Item × Nat × Nat)) (w : World) (e : Ending) (w' : World) : Prop :=
  Kept2 rb rb w w' ∧ ∃ (gr : Bool) (so : Option Addr) (sn sc : Nat) (nm : Int) (ro : Option Addr) (rn rc : Nat), e = .returned (pieceV gr (.slice so sn sc) nm (.slice ro rn rc) 0) ∧ match y with
    | .error x => ∃ j h, readerAt w' rb m j h x.1 x.2
    | .ok x => itemAt w' (fun b => w.heap.size ≤ b) x.1 (pieceC5 gr (.slice so sn sc) nm (.slice ro rn rc) 0) ∧ readerAt w' rb m x.2.1 x.2.2 0 0
theorem apost_of {rb : Nat} {m : List UInt8} {g : Nat} {y : Except (Nat × Nat) ((UInt8 → Bool) × Nat)} {w : World} {e : Ending} {w' : World} (h : ratomPost rb m g y w e w') :
    apost rb m (match y with | .error x => .error x | .ok x => .ok (.set x.1 0, x.2, g)) w e w' := by
  obtain ⟨h1, v, rfl, h2⟩ := h
  refine ⟨h1, ?_⟩
  cases y with
  | error x =>
    obtain ⟨rfl, j, h3⟩ := h2
    exact ⟨false, none, 0, 0, 0, none, 0, 0, rfl, j, g, h3⟩
  | ok x =>
    obtain ⟨sv, rfl, ⟨b, rfl, hb, hs⟩, h3⟩ := h2
    exact ⟨false, some ⟨b, 0, none⟩, 256, 256, 0, none, 0, 0, rfl, ⟨b, rfl, hb, hs⟩, h3⟩

set_option maxRecDepth 20000 in
set_option maxHeartbeats 4000000 in
theorem ratom_group (w : World) (rb : Nat) (m : List UInt8) (i g : Nat) (c : UInt8) (hr : readerAt w rb m i g 0 0) (hc : m[i]? = some c) (hm : m.length ≤ 1000) (hq : c.toNat = 40) {f : Nat} (hf : RRowsOK m f) (hg : g ≤ 9) (y : Except (Nat × Nat) (Item × Nat × Nat)) (hy : aOut m f i g c = some y) :
    Calls Tryz.prog 106 #[.pointer (some ⟨rb, 0, none⟩)] w (apost rb m y w) := by
  have hrb := lt_of_block hr
  have hi := get_lt hc
  have hget : m[i] = c := by rw [List.getElem?_eq_getElem hi] at hc; exact Option.some.inj hc
  have HI40 : Hid (isAt m i 40 = true) := by show _ = _; simp [isAt, hc, hq]
  have HI46 : Hid (isAt m i 46 = false) := by show _ = _; simp [isAt, hc]; omega
  have HI92 : Hid (isAt m i 92 = false) := by show _ = _; simp [isAt, hc]; omega
  have HI91 : Hid (isAt m i 91 = false) := by show _ = _; simp [isAt, hc]; omega
  obtain ⟨A, HA⟩ : ∃ A, Hid (A = w.alloc (.cells pieceZ 155)) := ⟨_, hide rfl⟩
  have hA := AtS.first hr HA.out
  obtain ⟨c0, c1, c2, c3, c4⟩ := five_cells hA.rd
  have HAS : Hid (∀ n, AtS w rb m i g 0 0 (A.drewN n)) := hide fun n => ⟨hA.kept.drewN, hA.size, hA.out, hA.rd⟩
  have eA := HA.out.symm
  have HY : Hid ((if g = 9 then some (.error (2, i)) else bindO (pM m f true (i + 1) (g + 1)) fun x => if isAt m x.2.1 41 then some (.ok (.grp g x.1 0, x.2.1 + 1, x.2.2)) else some (.error (1, x.2.1))) = some y) := by
    show _ = _
    rw [← hy]
    unfold aOut
    rw [if_pos hq]
  clear hr hc HA hA c2 c3 c4 hq hy
  go_enter Tryz.func106, Tryz.ntmps106
  go_wp2
  go_quiet (fail)
  have H0 := hide (HAS.out nq)
  clear eA HAS c0 c1
  go_wp2_with fail
  refine (rmay_any _ rb m i g 0 0 46 46 rfl (by decide) (by omega) H0.out.rd).mono ?_
  rintro en w1 ⟨rfl, hk, hr1⟩
  have h1 := H0.out.on hrb hk hr1
  rw [HI46.out] at h1 ⊢
  simp only [onIf] at h1
  have H1 := hide h1
  clear hk hr1 h1 H0
  go_wp2_with fail
  refine (rmay_any _ rb m i g 0 0 92 92 rfl (by decide) (by omega) H1.out.rd).mono ?_
  rintro en w2 ⟨rfl, hk, hr1⟩
  have h1 := H1.out.on hrb hk hr1
  rw [HI92.out] at h1 ⊢
  simp only [onIf] at h1
  have H2 := hide h1
  clear hk hr1 h1 H1
  go_wp2_with fail
  refine (rmay_any _ rb m i g 0 0 91 91 rfl (by decide) (by omega) H2.out.rd).mono ?_
  rintro en w3 ⟨rfl, hk, hr1⟩
  have h1 := H2.out.on hrb hk hr1
  rw [HI91.out] at h1 ⊢
  simp only [onIf] at h1
  have H3 := hide h1
  clear hk hr1 h1 H2
  go_wp2_with fail
  refine (ris_any _ rb m i g 0 0 40 40 rfl (by decide) H3.out.rd).mono ?_
  rintro en w4 ⟨rfl, nd, rfl⟩
  have h1 := H3.out.on hrb (Kept2.drewN (n := nd) (.refl _ _ _)) H3.out.rd.draw
  rw [HI40.out]
  obtain ⟨W4, HW4⟩ : ∃ W4, Hid (W4 = World.drewN w3 nd) := ⟨_, hide rfl⟩
  rw [← HW4.out] at h1 ⊢
  have H4 := hide h1
  clear h1 H3 HW4
  obtain ⟨k0, k1, k2, k3, k4⟩ := five_cells H4.out.rd
  by_cases h9 : g = 9
  · have HE : Hid (y = .error (2, i)) := by
      show _ = _
      have h := HY.out
      rw [if_pos h9] at h
      exact (Option.some.inj h).symm
    have h92 : ((g : Int) == 9) = true := by simp [h9]
    clear h9 HY
    go_wp2_with fail
    refine (wrong_any _ rb m i g 2 (i : Int) 2 i rfl rfl H4.out.rd).mono ?_
    rintro en w6 ⟨rfl, hk3, hr3⟩
    have H6 := hide (H4.out.on hrb hk3 hr3)
    clear hk3 hr3
    obtain ⟨⟨r0, r1, r2, r3, r4⟩, rf⟩ := H6.out.cells
    have z0 := rf 0
    have z1 := rf 1
    have z2 := rf 2
    have z3 := rf 3
    have z4 := rf 4
    obtain ⟨Z, eZ, hk, ho, hrd, hkb⟩ := H6.out.store hrb (.bool false) (.slice none 0 0) (.int .i64 0) (.slice none 0 0) (.int .u8 0)
    have HO := hide ho
    have HK := hide hk
    have HRD := hide hrd
    have HKB := hide hkb
    clear rf hk ho hrd hkb
    go_wp2
    refine bodyPost_ret (v := pieceV false (.slice none 0 0) 0 (.slice none 0 0) 0) (results_cell_row (p := 2) (ty := 155) rfl _ _ w.heap.size _ _ _ _ rfl HO.out Tryz.underlying155 rfl Tryz.infoPiece) rfl ⟨HK.out, false, none, 0, 0, 0, none, 0, 0, rfl, by rw [HE.out]; exact ⟨i, g, HRD.out⟩⟩
  · have h92 : ((g : Int) == 9) = false := by simp; omega
    have HY2 : Hid (bindO (pM m f true (i + 1) (g + 1)) (fun x => if isAt m x.2.1 41 then some (.ok (.grp g x.1 0, x.2.1 + 1, x.2.2)) else some (.error (1, x.2.1))) = some y) := by
      have h := HY.out
      rw [if_neg h9] at h
      exact hide h
    have HG9 := hide h9
    clear h9 HY
    have kf1 := not_frozen (k := 1) H4.out.rd
    have kf2 := not_frozen (k := 2) H4.out.rd
    obtain ⟨W5, HW5⟩ : ∃ W5, Hid (W5 = (W4.setCell ⟨rb, 1, none⟩ (.int .i64 ((i : Int) + 1))).setCell ⟨rb, 2, none⟩ (.int .i64 ((g : Int) + 1))) := ⟨_, hide rfl⟩
    have hr5 : readerAt W5 rb m (i + 1) (g + 1) 0 0 := by
      unfold readerAt
      rw [HW5.out, set_blk (set_blk H4.out.rd _)]
      rfl
    have h5 : AtS w rb m (i + 1) (g + 1) 0 0 W5 := H4.out.on hrb (by rw [HW5.out]; exact (Kept2.setT _ _).trans (Kept2.setT _ _)) hr5
    have H5 := hide h5
    have hwr : IntKind.i64.wrap ((i : Int) + 1) = (i : Int) + 1 := wrap_i64_small _ (by omega) (by omega)
    have hwr2 : IntKind.i64.wrap ((g : Int) + 1) = (g : Int) + 1 := wrap_i64_small _ (by omega) (by omega)
    have eW5 := HW5.out.symm
    obtain ⟨m0, m1, m2, m3, m4⟩ := five_cells hr5
    have hs5 := h5.size
    clear hr5 h5 H4 HW5
    go_wp2_with fail
    clear eW5 k0 k1 k2 k3 k4 kf1 kf2 m0 m1 m3 m4
    rcases bindO_eq HY2.out with ⟨x, hx, rfl⟩ | ⟨x, hx, hy3⟩
    · refine (hf W5 rb (i + 1) (g + 1) _ H5.out.rd (by omega) (by have := HG9.out; omega) hx).mono ?_
      rintro en w6 ⟨hk6, v6, k6, ys6, rfl, ho6, j6, g6, hr6⟩
      obtain ⟨ao6, cp6, rfl⟩ := own_shape ho6
      have hxe := eM hx
      have H6 := hide (H5.out.on hrb hk6 hr6)
      clear hk6 hr6 ho6 hx
      obtain ⟨n0, n1, n2, n3, n4⟩ := five_cells H6.out.rd
      have hxn : ((x.1 : Int) == 0) = false := by simp; omega
      obtain ⟨⟨r0, r1, r2, r3, r4⟩, rf⟩ := H6.out.cells
      have z0 := rf 0
      have z1 := rf 1
      have z2 := rf 2
      have z3 := rf 3
      have z4 := rf 4
      obtain ⟨Z, eZ, hk, ho, hrd, hkb⟩ := H6.out.store hrb (.bool true) (.slice none 0 0) (.int .i64 ((g : Int) + 1)) (.slice ao6 k6 cp6) (.int .u8 0)
      have HO := hide ho
      have HK := hide hk
      have HRD := hide hrd
      have HKB := hide hkb
      clear rf hk ho hrd hkb
      go_wp2
      refine bodyPost_ret (v := pieceV true (.slice none 0 0) ((g : Int) + 1) (.slice ao6 k6 cp6) 0) (results_cell_row (p := 2) (ty := 155) rfl _ _ w.heap.size _ _ _ _ rfl HO.out Tryz.underlying155 rfl Tryz.infoPiece) rfl ⟨HK.out, true, none, 0, 0, ((g : Int) + 1), ao6, k6, cp6, rfl, j6, g6, HRD.out⟩
    · have hxo := pM_ok hx (by omega)
      refine (hf W5 rb (i + 1) (g + 1) _ H5.out.rd (by omega) (by have := HG9.out; omega) hx).mono ?_
      rintro en w6 ⟨hk6, v6, k6, ys6, rfl, ho6, hc6, hr6⟩
      have HY3 := hide hy3
      obtain ⟨T, j, h⟩ := x
      simp only at hc6 hr6 hxo
      have H6 := hide (H5.out.on hrb hk6 hr6)
      have HO6 := hide ho6
      have HC6 := hide hc6
      have hs6 := hk6.size
      obtain ⟨ao6, cp6, rfl⟩ := own_shape ho6
      clear hk6 hr6 ho6 hc6 hy3 hx
      obtain ⟨n0, n1, n2, n3, n4⟩ := five_cells H6.out.rd
      go_wp2_with fail
      refine (rmay_any _ rb m j h 0 0 41 41 rfl (by decide) (by omega) H6.out.rd).mono ?_
      rintro en w7 ⟨rfl, hk7, hr7⟩
      have h7 := H6.out.on hrb hk7 hr7
      have hko : ∀ b, W5.heap.size ≤ b → b < w6.heap.size → w7.heap[b]? = w6.heap[b]? := fun b h1 h2 => hk7.block b h2 (by omega) (by omega)
      have HO7 : Hid (w7.ownsRow W5.heap.size 153 1 (.slice ao6 k6 cp6) k6 ys6) := hide (own_keep HO6.out fun b hb => hko b (HO6.out.lt b hb).1 (HO6.out.lt b hb).2)
      have HC7 : Hid (cellsAt w7 (fun b => W5.heap.size ≤ b ∧ (Value.slice ao6 k6 cp6).ownBlock ≠ some b) T ys6) := hide (HC6.out.keep fun b hb ha => ⟨ha, hko b ha.1 hb⟩)
      have hs7 := hk7.size
      clear hk7 hr7 hko H6
      obtain ⟨bo, HBO⟩ : ∃ bo, Hid (isAt m j 41 = bo) := ⟨_, hide rfl⟩
      rw [HBO.out] at h7 ⊢
      have HY4 : Hid ((if bo then some (.ok (.grp g T 0, j + 1, h)) else some (.error (1, j))) = some y) := by
        have hh := HY3.out
        rw [HBO.out] at hh
        exact hide hh
      cases bo with
      | true =>
        simp only [onIf] at h7
        have H7 := hide h7
        have HE : Hid (y = .ok (.grp g T 0, j + 1, h)) := hide (Option.some.inj HY4.out).symm
        clear h7
        obtain ⟨⟨r0, r1, r2, r3, r4⟩, rf⟩ := H7.out.cells
        have z0 := rf 0
        have z1 := rf 1
        have z2 := rf 2
        have z3 := rf 3
        have z4 := rf 4
        obtain ⟨Z, eZ, hk, ho, hrd, hkb⟩ := H7.out.store hrb (.bool true) (.slice none 0 0) (.int .i64 ((g : Int) + 1)) (.slice ao6 k6 cp6) (.int .u8 0)
        have HO := hide ho
        have HK := hide hk
        have HRD := hide hrd
        have HKB := hide hkb
        clear rf hk ho hrd hkb
        have HO8 : Hid (Z.ownsRow w.heap.size 153 1 (.slice ao6 k6 cp6) k6 ys6) := hide (own_le (own_keep HO7.out fun b hb => HKB.out b (by have := (HO7.out.lt b hb).1; omega)) (by omega))
        have HC8 : Hid (cellsAt Z (fun b => w.heap.size ≤ b) T ys6) := hide (HC7.out.keep fun b hb ha => ⟨by omega, HKB.out b (by omega)⟩)
        go_wp2
        refine bodyPost_ret (v := pieceV true (.slice none 0 0) ((g : Int) + 1) (.slice ao6 k6 cp6) 0) (results_cell_row (p := 2) (ty := 155) rfl _ _ w.heap.size _ _ _ _ rfl HO.out Tryz.underlying155 rfl Tryz.infoPiece) rfl ⟨HK.out, true, none, 0, 0, ((g : Int) + 1), ao6, k6, cp6, rfl, by rw [HE.out]; exact ⟨⟨_, _, _, rfl, own_le HO8.out (by omega), fun b hb => (HO8.out.lt b hb).1, HC8.out⟩, HRD.out⟩⟩
      | false =>
        simp only [onIf] at h7
        have H7 := hide h7
        have HE : Hid (y = .error (1, j)) := hide (Option.some.inj HY4.out).symm
        clear h7
        obtain ⟨o0, o1, o2, o3, o4⟩ := five_cells H7.out.rd
        go_wp2_with fail
        refine (wrong_any _ rb m j h 1 (j : Int) 1 j rfl rfl H7.out.rd).mono ?_
        rintro en w8 ⟨rfl, hk3, hr3⟩
        have H8 := hide (H7.out.on hrb hk3 hr3)
        clear hk3 hr3
        obtain ⟨⟨r0, r1, r2, r3, r4⟩, rf⟩ := H8.out.cells
        have z0 := rf 0
        have z1 := rf 1
        have z2 := rf 2
        have z3 := rf 3
        have z4 := rf 4
        obtain ⟨Z, eZ, hk, ho, hrd, hkb⟩ := H8.out.store hrb (.bool true) (.slice none 0 0) (.int .i64 ((g : Int) + 1)) (.slice ao6 k6 cp6) (.int .u8 0)
        have HO := hide ho
        have HK := hide hk
        have HRD := hide hrd
        have HKB := hide hkb
        clear rf hk ho hrd hkb
        go_wp2
        refine bodyPost_ret (v := pieceV true (.slice none 0 0) ((g : Int) + 1) (.slice ao6 k6 cp6) 0) (results_cell_row (p := 2) (ty := 155) rfl _ _ w.heap.size _ _ _ _ rfl HO.out Tryz.underlying155 rfl Tryz.infoPiece) rfl ⟨HK.out, true, none, 0, 0, ((g : Int) + 1), ao6, k6, cp6, rfl, by rw [HE.out]; exact ⟨j, h, HRD.out⟩⟩

end Go.Proofs.YtndpjdmfkhjiiaaGreatDoor
