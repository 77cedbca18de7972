/- The document's own reader of masks: pieces that are wrong, and plain ones. -/
import Derived.Test.YtndpjdmfkhjiiaaGreatDoorProg
import Derived.Test.YtndpjdmfkhjiiaaGreatDoorKit
import Derived.Test.YtndpjdmfkhjiiaaGreatDoorMPar
import Derived.Test.YtndpjdmfkhjiiaaGreatDoorMLay
import Derived.Test.YtndpjdmfkhjiiaaGreatDoorMWlk
import Derived.Test.YtndpjdmfkhjiiaaGreatDoorMFrom
import Derived.Test.YtndpjdmfkhjiiaaGreatDoorMExp
import Derived.Test.YtndpjdmfkhjiiaaGreatDoorMPrA
import Derived.Test.YtndpjdmfkhjiiaaGreatDoorMPrB
import Derived.Test.YtndpjdmfkhjiiaaGreatDoorMPrD
import Derived.Test.YtndpjdmfkhjiiaaGreatDoorMNew
import Derived.Test.YtndpjdmfkhjiiaaGreatDoorMRdA
import Derived.Test.YtndpjdmfkhjiiaaGreatDoorMRdB
import Derived.Test.YtndpjdmfkhjiiaaGreatDoorMRdC
import Derived.BigQuiet
set_option linter.unusedVariables false
set_option linter.unusedSimpArgs false
namespace Go.Proofs.YtndpjdmfkhjiiaaGreatDoor
open Go.RowKit
attribute [local go_sem] bs_size bs_toList bs_append bs_get bs_extract

set_option maxRecDepth 20000 in
set_option maxHeartbeats 4000000 in
theorem ratom_wrong (w : World) (rb : Nat) (m : List UInt8) (i g : Nat) (c : UInt8) (hr : readerAt w rb m i g 0 0) (hc : m[i]? = some c) (hm : m.length ≤ 1000) (hq : c.toNat = 42 ∨ c.toNat = 43 ∨ c.toNat = 63 ∨ c.toNat = 93) :
    Calls Tryz.prog 106 #[.pointer (some ⟨rb, 0, none⟩)] w (ratomPost rb m g (.error (1, i)) w) := by
  have hrb := lt_of_block hr
  have hi := get_lt hc
  have hget : m[i] = c := by rw [List.getElem?_eq_getElem hi] at hc; exact Option.some.inj hc
  have HI46 : Hid (isAt m i 46 = false) := by show _ = _; simp [isAt, hc]; omega
  have HI92 : Hid (isAt m i 92 = false) := by show _ = _; simp [isAt, hc]; omega
  have HI91 : Hid (isAt m i 91 = false) := by show _ = _; simp [isAt, hc]; omega
  have HI40 : Hid (isAt m i 40 = false) := by show _ = _; simp [isAt, hc]; omega
  obtain ⟨A, HA⟩ : ∃ A, Hid (A = w.alloc (.cells pieceZ 155)) := ⟨_, hide rfl⟩
  have hA := AtS.first hr HA.out
  obtain ⟨c0, c1, c2, c3, c4⟩ := five_cells hA.rd
  have HAS : Hid (∀ n, AtS w rb m i g 0 0 (A.drewN n)) := hide fun n => ⟨hA.kept.drewN, hA.size, hA.out, hA.rd⟩
  have eA := HA.out.symm
  have HAM : Hid (comesB [42, 43, 63, 41, 124, 93] m i = true) := by
    show _ = _
    unfold comesB
    rw [hc]
    simp only [contains_nat, List.any_cons, List.any_nil]
    simp
    omega
  clear hr hc HA hA c2 c3 c4 hq
  go_enter Tryz.func106, Tryz.ntmps106
  go_wp2
  go_quiet (fail)
  have H0 := hide (HAS.out nq)
  clear eA HAS c0 c1
  go_wp2_with fail
  refine (rmay_any _ rb m i g 0 0 46 46 rfl (by decide) (by omega) H0.out.rd).mono ?_
  rintro en w1 ⟨rfl, hk, hr1⟩
  have h1 := H0.out.on hrb hk hr1
  rw [HI46.out] at h1 ⊢
  simp only [onIf] at h1
  have H1 := hide h1
  clear hk hr1 h1 H0
  go_wp2_with fail
  refine (rmay_any _ rb m i g 0 0 92 92 rfl (by decide) (by omega) H1.out.rd).mono ?_
  rintro en w2 ⟨rfl, hk, hr1⟩
  have h1 := H1.out.on hrb hk hr1
  rw [HI92.out] at h1 ⊢
  simp only [onIf] at h1
  have H2 := hide h1
  clear hk hr1 h1 H1
  go_wp2_with fail
  refine (rmay_any _ rb m i g 0 0 91 91 rfl (by decide) (by omega) H2.out.rd).mono ?_
  rintro en w3 ⟨rfl, hk, hr1⟩
  have h1 := H2.out.on hrb hk hr1
  rw [HI91.out] at h1 ⊢
  simp only [onIf] at h1
  have H3 := hide h1
  clear hk hr1 h1 H2
  go_wp2_with fail
  refine (ris_any _ rb m i g 0 0 40 40 rfl (by decide) H3.out.rd).mono ?_
  rintro en w4 ⟨rfl, nd, rfl⟩
  have h1 := H3.out.on hrb (Kept2.drewN (n := nd) (.refl _ _ _)) H3.out.rd.draw
  rw [HI40.out]
  have H4 := hide h1
  clear h1 H3
  go_wp2_with fail
  refine (ramong_any _ rb m [42, 43, 63, 41, 124, 93] i g 0 0 (by decide) H4.out.rd).mono ?_
  rintro en w5 ⟨rfl, ne, rfl⟩
  have h1 := H4.out.on hrb (Kept2.drewN (n := ne) (.refl _ _ _)) H4.out.rd.draw
  rw [HAM.out]
  have H5 := hide h1
  clear h1 H4
  obtain ⟨W3, HW3⟩ : ∃ W3, Hid (W3 = World.drewN (World.drewN w3 nd) ne) := ⟨_, hide rfl⟩
  rw [← HW3.out]
  have h3 : AtS w rb m i g 0 0 W3 := by rw [HW3.out]; exact H5.out
  obtain ⟨c0, c1, _, _, _⟩ := five_cells h3.rd
  have H7 := hide h3
  clear h3 HW3 H5
  go_wp2_with fail
  refine (wrong_any _ rb m i g 1 (i : Int) 1 i rfl rfl H7.out.rd).mono ?_
  rintro en w6 ⟨rfl, hk3, hr3⟩
  have H6 := hide (H7.out.on hrb hk3 hr3)
  clear hk3 hr3
  obtain ⟨⟨r0, r1, r2, r3, r4⟩, rf⟩ := H6.out.cells
  have z0 := rf 0
  have z1 := rf 1
  have z2 := rf 2
  have z3 := rf 3
  have z4 := rf 4
  obtain ⟨Z, eZ, hk, ho, hrd, hkb⟩ := H6.out.store hrb (.bool false) (.slice none 0 0) (.int .i64 0) (.slice none 0 0) (.int .u8 0)
  have HO := hide ho
  have HK := hide hk
  have HRD := hide hrd
  have HKB := hide hkb
  clear rf hk ho hrd hkb
  go_wp2
  refine bodyPost_ret (v := pieceV false (.slice none 0 0) 0 (.slice none 0 0) 0) (results_cell_row (p := 2) (ty := 155) rfl _ _ w.heap.size _ _ _ _ rfl HO.out Tryz.underlying155 rfl Tryz.infoPiece) rfl ⟨HK.out, _, rfl, ⟨rfl, i, HRD.out⟩⟩

set_option maxRecDepth 20000 in
set_option maxHeartbeats 4000000 in
theorem ratom_plain (w : World) (rb : Nat) (m : List UInt8) (i g : Nat) (c : UInt8) (hr : readerAt w rb m i g 0 0) (hc : m[i]? = some c) (hm : m.length ≤ 1000) (hq : c.toNat ≠ 42 ∧ c.toNat ≠ 43 ∧ c.toNat ≠ 63 ∧ c.toNat ≠ 93 ∧ c.toNat ≠ 46 ∧ c.toNat ≠ 92 ∧ c.toNat ≠ 91 ∧ c.toNat ≠ 40 ∧ c.toNat ≠ 41 ∧ c.toNat ≠ 124) :
    Calls Tryz.prog 106 #[.pointer (some ⟨rb, 0, none⟩)] w (ratomPost rb m g (.ok (between c c, i + 1)) w) := by
  have hrb := lt_of_block hr
  have hi := get_lt hc
  have hget : m[i] = c := by rw [List.getElem?_eq_getElem hi] at hc; exact Option.some.inj hc
  have HI46 : Hid (isAt m i 46 = false) := by show _ = _; simp [isAt, hc]; omega
  have HI92 : Hid (isAt m i 92 = false) := by show _ = _; simp [isAt, hc]; omega
  have HI91 : Hid (isAt m i 91 = false) := by show _ = _; simp [isAt, hc]; omega
  have HI40 : Hid (isAt m i 40 = false) := by show _ = _; simp [isAt, hc]; omega
  obtain ⟨A, HA⟩ : ∃ A, Hid (A = w.alloc (.cells pieceZ 155)) := ⟨_, hide rfl⟩
  have hA := AtS.first hr HA.out
  obtain ⟨c0, c1, c2, c3, c4⟩ := five_cells hA.rd
  have HAS : Hid (∀ n, AtS w rb m i g 0 0 (A.drewN n)) := hide fun n => ⟨hA.kept.drewN, hA.size, hA.out, hA.rd⟩
  have eA := HA.out.symm
  have HAM : Hid (comesB [42, 43, 63, 41, 124, 93] m i = false) := by
    show _ = _
    unfold comesB
    rw [hc]
    simp only [contains_nat, List.any_cons, List.any_nil]
    simp
    omega
  clear hr hc HA hA c2 c3 c4 hq
  go_enter Tryz.func106, Tryz.ntmps106
  go_wp2
  go_quiet (fail)
  have H0 := hide (HAS.out nq)
  clear eA HAS c0 c1
  go_wp2_with fail
  refine (rmay_any _ rb m i g 0 0 46 46 rfl (by decide) (by omega) H0.out.rd).mono ?_
  rintro en w1 ⟨rfl, hk, hr1⟩
  have h1 := H0.out.on hrb hk hr1
  rw [HI46.out] at h1 ⊢
  simp only [onIf] at h1
  have H1 := hide h1
  clear hk hr1 h1 H0
  go_wp2_with fail
  refine (rmay_any _ rb m i g 0 0 92 92 rfl (by decide) (by omega) H1.out.rd).mono ?_
  rintro en w2 ⟨rfl, hk, hr1⟩
  have h1 := H1.out.on hrb hk hr1
  rw [HI92.out] at h1 ⊢
  simp only [onIf] at h1
  have H2 := hide h1
  clear hk hr1 h1 H1
  go_wp2_with fail
  refine (rmay_any _ rb m i g 0 0 91 91 rfl (by decide) (by omega) H2.out.rd).mono ?_
  rintro en w3 ⟨rfl, hk, hr1⟩
  have h1 := H2.out.on hrb hk hr1
  rw [HI91.out] at h1 ⊢
  simp only [onIf] at h1
  have H3 := hide h1
  clear hk hr1 h1 H2
  go_wp2_with fail
  refine (ris_any _ rb m i g 0 0 40 40 rfl (by decide) H3.out.rd).mono ?_
  rintro en w4 ⟨rfl, nd, rfl⟩
  have h1 := H3.out.on hrb (Kept2.drewN (n := nd) (.refl _ _ _)) H3.out.rd.draw
  rw [HI40.out]
  have H4 := hide h1
  clear h1 H3
  go_wp2_with fail
  refine (ramong_any _ rb m [42, 43, 63, 41, 124, 93] i g 0 0 (by decide) H4.out.rd).mono ?_
  rintro en w5 ⟨rfl, ne, rfl⟩
  have h1 := H4.out.on hrb (Kept2.drewN (n := ne) (.refl _ _ _)) H4.out.rd.draw
  rw [HAM.out]
  have H5 := hide h1
  clear h1 H4
  obtain ⟨W3, HW3⟩ : ∃ W3, Hid (W3 = World.drewN (World.drewN w3 nd) ne) := ⟨_, hide rfl⟩
  rw [← HW3.out]
  have h3 : AtS w rb m i g 0 0 W3 := by rw [HW3.out]; exact H5.out
  obtain ⟨k0, k1, _, _, _⟩ := five_cells h3.rd
  have kf := not_frozen (k := 1) h3.rd
  obtain ⟨W4, HW4⟩ : ∃ W4, Hid (W4 = W3.setCell ⟨rb, 1, none⟩ (.int .i64 ((i : Int) + 1))) := ⟨_, hide rfl⟩
  have h4 : AtS w rb m (i + 1) g 0 0 W4 := by rw [HW4.out]; exact h3.on hrb (.setT _ _) (h3.rd.on _ (by go_num))
  have H4 := hide h4
  have hwr : IntKind.i64.wrap ((i : Int) + 1) = (i : Int) + 1 := wrap_i64_small _ (by omega) (by omega)
  have eW4 := HW4.out.symm
  clear h3 HW3 HW4 h4 H5
  go_wp2_with fail
  clear eW4 k0 k1 kf
  refine (alone_any c W4).mono ?_
  rintro en w5 ⟨rfl, hg5, hb5⟩
  have hs4 := H4.out.size
  have H5 := hide (H4.out.grow hrb hg5)
  have HBB := hide hb5
  clear hg5 hb5 H4
  obtain ⟨⟨r0, r1, r2, r3, r4⟩, rf⟩ := H5.out.cells
  have z0 := rf 0
  have z1 := rf 1
  have z2 := rf 2
  have z3 := rf 3
  have z4 := rf 4
  obtain ⟨Z, eZ, hk, ho, hrd, hkb⟩ := H5.out.store hrb (.bool false) (.slice (some ⟨W4.heap.size, 0, none⟩) 256 256) (.int .i64 0) (.slice none 0 0) (.int .u8 0)
  have HO := hide ho
  have HK := hide hk
  have HRD := hide hrd
  have HKB := hide hkb
  clear rf hk ho hrd hkb
  have HB2 : Hid (boolsAt Z W4.heap.size (boolRow (between c c))) := hide (HBB.out.keep (HKB.out _ (by omega)))
  go_wp2
  refine bodyPost_ret (v := pieceV false (.slice (some ⟨W4.heap.size, 0, none⟩) 256 256) 0 (.slice none 0 0) 0) (results_cell_row (p := 2) (ty := 155) rfl _ _ w.heap.size _ _ _ _ rfl HO.out Tryz.underlying155 rfl Tryz.infoPiece) rfl ⟨HK.out, _, rfl, ⟨_, rfl, ⟨_, rfl, by omega, HB2.out⟩, HRD.out⟩⟩

end Go.Proofs.YtndpjdmfkhjiiaaGreatDoor
