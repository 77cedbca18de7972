/- 3 texts in one. -/
import Derived.Test.YtndpjdmfkhjiiaaGreatDoorProg
import Derived.Test.YtndpjdmfkhjiiaaGreatDoorQ74d152
import Derived.Test.YtndpjdmfkhjiiaaGreatDoorQ3d7cfc
import Derived.Test.YtndpjdmfkhjiiaaGreatDoorQ082284
import Derived.Test.YtndpjdmfkhjiiaaGreatDoorMFromV
import Derived.Test.YtndpjdmfkhjiiaaGreatDoorMExpV
import Derived.Test.YtndpjdmfkhjiiaaGreatDoorQfa040f
import Derived.Test.YtndpjdmfkhjiiaaGreatDoorQa261f9
import Derived.Test.YtndpjdmfkhjiiaaGreatDoorMNewV
import Derived.Test.YtndpjdmfkhjiiaaGreatDoorMRdAV
import Derived.Test.YtndpjdmfkhjiiaaGreatDoorQ6cc641
import Derived.BigQuiet
import Derived.Test.YtndpjdmfkhjiiaaGreatDoorQ0e584d
import Derived.Test.YtndpjdmfkhjiiaaGreatDoorQ06840a
/- The document's own reader of masks: pieces that are wrong, and plain ones. -/
set_option linter.unusedVariables false
set_option linter.unusedSimpArgs false
namespace Go.Proofs.YtndpjdmfkhjiiaaGreatDoor
open Go.RowKit
attribute [local go_sem] bs_size bs_toList bs_append bs_get bs_extract

set_option maxRecDepth 20000 in
set_option maxHeartbeats 4000000 in
theorem ratom_wrong (w : World) (rb : Nat) (m : List UInt8) (i g : Nat) (c : UInt8) (hr : readerAt w rb m i g 0 0) (hc : m[i]? = some c) (hm : m.length ≤ 1000) (hq : c.toNat = 42 ∨ c.toNat = 43 ∨ c.toNat = 63 ∨ c.toNat = 93) :
    Calls Tryz.prog 106 #[.pointer (some ⟨rb, 0, none⟩)] w (ratomPost rb m g (.error (1, i)) w) := by
  have hrb := lt_of_block hr
  have hi := get_lt hc
  have hget : m[i] = c := by rw [List.getElem?_eq_getElem hi] at hc; exact Option.some.inj hc
  have HI46 : Hid (isAt m i 46 = false) := by show _ = _; simp [isAt, hc]; omega
  have HI92 : Hid (isAt m i 92 = false) := by show _ = _; simp [isAt, hc]; omega
  have HI91 : Hid (isAt m i 91 = false) := by show _ = _; simp [isAt, hc]; omega
  have HI40 : Hid (isAt m i 40 = false) := by show _ = _; simp [isAt, hc]; omega
  obtain ⟨A, HA⟩ : ∃ A, Hid (A = w.alloc (.cells pieceZ 155)) := ⟨_, hide rfl⟩
  have hA := AtS.first hr HA.out
  obtain ⟨c0, c1, c2, c3, c4⟩ := five_cells hA.rd
  have HAS : Hid (∀ n, AtS w rb m i g 0 0 (A.drewN n)) := hide fun n => ⟨hA.kept.drewN, hA.size, hA.out, hA.rd⟩
  have eA := HA.out.symm
  have HAM : Hid (comesB [42, 43, 63, 41, 124, 93] m i = true) := by
    show _ = _
    unfold comesB
    rw [hc]
    simp only [contains_nat, List.any_cons, List.any_nil]
    simp
    omega
  clear hr hc HA hA c2 c3 c4 hq
  go_enter Tryz.func106, Tryz.ntmps106
  go_wp2
  go_quiet (fail)
  have H0 := hide (HAS.out nq)
  clear eA HAS c0 c1
  go_wp2_with fail
  refine (rmay_any _ rb m i g 0 0 46 46 rfl (by decide) (by omega) H0.out.rd).mono ?_
  rintro en w1 ⟨rfl, hk, hr1⟩
  have h1 := H0.out.on hrb hk hr1
  rw [HI46.out] at h1 ⊢
  simp only [onIf] at h1
  have H1 := hide h1
  clear hk hr1 h1 H0
  go_wp2_with fail
  refine (rmay_any _ rb m i g 0 0 92 92 rfl (by decide) (by omega) H1.out.rd).mono ?_
  rintro en w2 ⟨rfl, hk, hr1⟩
  have h1 := H1.out.on hrb hk hr1
  rw [HI92.out] at h1 ⊢
  simp only [onIf] at h1
  have H2 := hide h1
  clear hk hr1 h1 H1
  go_wp2_with fail
  refine (rmay_any _ rb m i g 0 0 91 91 rfl (by decide) (by omega) H2.out.rd).mono ?_
  rintro en w3 ⟨rfl, hk, hr1⟩
  have h1 := H2.out.on hrb hk hr1
  rw [HI91.out] at h1 ⊢
  simp only [onIf] at h1
  have H3 := hide h1
  clear hk hr1 h1 H2
  go_wp2_with fail
  refine (ris_any _ rb m i g 0 0 40 40 rfl (by decide) H3.out.rd).mono ?_
  rintro en w4 ⟨rfl, nd, rfl⟩
  have h1 := H3.out.on hrb (Kept2.drewN (n := nd) (.refl _ _ _)) H3.out.rd.draw
  rw [HI40.out]
  have H4 := hide h1
  clear h1 H3
  go_wp2_with fail
  refine (ramong_any _ rb m [42, 43, 63, 41, 124, 93] i g 0 0 (by decide) H4.out.rd).mono ?_
  rintro en w5 ⟨rfl, ne, rfl⟩
  have h1 := H4.out.on hrb (Kept2.drewN (n := ne) (.refl _ _ _)) H4.out.rd.draw
  rw [HAM.out]
  have H5 := hide h1
  clear h1 H4
  obtain ⟨W3, HW3⟩ : ∃ W3, Hid (W3 = World.drewN (World.drewN w3 nd) ne) := ⟨_, hide rfl⟩
  rw [← HW3.out]
  have h3 : AtS w rb m i g 0 0 W3 := by rw [HW3.out]; exact H5.out
  obtain ⟨c0, c1, _, _, _⟩ := five_cells h3.rd
  have H7 := hide h3
  clear h3 HW3 H5
  go_wp2_with fail
  refine (wrong_any _ rb m i g 1 (i : Int) 1 i rfl rfl H7.out.rd).mono ?_
  rintro en w6 ⟨rfl, hk3, hr3⟩
  have H6 := hide (H7.out.on hrb hk3 hr3)
  clear hk3 hr3
  obtain ⟨⟨r0, r1, r2, r3, r4⟩, rf⟩ := H6.out.cells
  have z0 := rf 0
  have z1 := rf 1
  have z2 := rf 2
  have z3 := rf 3
  have z4 := rf 4
  obtain ⟨Z, eZ, hk, ho, hrd, hkb⟩ := H6.out.store hrb (.bool false) (.slice none 0 0) (.int .i64 0) (.slice none 0 0) (.int .u8 0)
  have HO := hide ho
  have HK := hide hk
  have HRD := hide hrd
  have HKB := hide hkb
  clear rf hk ho hrd hkb
  go_wp2
  refine bodyPost_ret (v := pieceV false (.slice none 0 0) 0 (.slice none 0 0) 0) (results_cell_row (p := 2) (ty := 155) rfl _ _ w.heap.size _ _ _ _ rfl HO.out Tryz.underlying155 rfl Tryz.infoPiece) rfl ⟨HK.out, _, rfl, ⟨rfl, i, HRD.out⟩⟩

set_option maxRecDepth 20000 in
set_option maxHeartbeats 4000000 in
theorem ratom_plain (w : World) (rb : Nat) (m : List UInt8) (i g : Nat) (c : UInt8) (hr : readerAt w rb m i g 0 0) (hc : m[i]? = some c) (hm : m.length ≤ 1000) (hq : c.toNat ≠ 42 ∧ c.toNat ≠ 43 ∧ c.toNat ≠ 63 ∧ c.toNat ≠ 93 ∧ c.toNat ≠ 46 ∧ c.toNat ≠ 92 ∧ c.toNat ≠ 91 ∧ c.toNat ≠ 40 ∧ c.toNat ≠ 41 ∧ c.toNat ≠ 124) :
    Calls Tryz.prog 106 #[.pointer (some ⟨rb, 0, none⟩)] w (ratomPost rb m g (.ok (between c c, i + 1)) w) := by
  have hrb := lt_of_block hr
  have hi := get_lt hc
  have hget : m[i] = c := by rw [List.getElem?_eq_getElem hi] at hc; exact Option.some.inj hc
  have HI46 : Hid (isAt m i 46 = false) := by show _ = _; simp [isAt, hc]; omega
  have HI92 : Hid (isAt m i 92 = false) := by show _ = _; simp [isAt, hc]; omega
  have HI91 : Hid (isAt m i 91 = false) := by show _ = _; simp [isAt, hc]; omega
  have HI40 : Hid (isAt m i 40 = false) := by show _ = _; simp [isAt, hc]; omega
  obtain ⟨A, HA⟩ : ∃ A, Hid (A = w.alloc (.cells pieceZ 155)) := ⟨_, hide rfl⟩
  have hA := AtS.first hr HA.out
  obtain ⟨c0, c1, c2, c3, c4⟩ := five_cells hA.rd
  have HAS : Hid (∀ n, AtS w rb m i g 0 0 (A.drewN n)) := hide fun n => ⟨hA.kept.drewN, hA.size, hA.out, hA.rd⟩
  have eA := HA.out.symm
  have HAM : Hid (comesB [42, 43, 63, 41, 124, 93] m i = false) := by
    show _ = _
    unfold comesB
    rw [hc]
    simp only [contains_nat, List.any_cons, List.any_nil]
    simp
    omega
  clear hr hc HA hA c2 c3 c4 hq
  go_enter Tryz.func106, Tryz.ntmps106
  go_wp2
  go_quiet (fail)
  have H0 := hide (HAS.out nq)
  clear eA HAS c0 c1
  go_wp2_with fail
  refine (rmay_any _ rb m i g 0 0 46 46 rfl (by decide) (by omega) H0.out.rd).mono ?_
  rintro en w1 ⟨rfl, hk, hr1⟩
  have h1 := H0.out.on hrb hk hr1
  rw [HI46.out] at h1 ⊢
  simp only [onIf] at h1
  have H1 := hide h1
  clear hk hr1 h1 H0
  go_wp2_with fail
  refine (rmay_any _ rb m i g 0 0 92 92 rfl (by decide) (by omega) H1.out.rd).mono ?_
  rintro en w2 ⟨rfl, hk, hr1⟩
  have h1 := H1.out.on hrb hk hr1
  rw [HI92.out] at h1 ⊢
  simp only [onIf] at h1
  have H2 := hide h1
  clear hk hr1 h1 H1
  go_wp2_with fail
  refine (rmay_any _ rb m i g 0 0 91 91 rfl (by decide) (by omega) H2.out.rd).mono ?_
  rintro en w3 ⟨rfl, hk, hr1⟩
  have h1 := H2.out.on hrb hk hr1
  rw [HI91.out] at h1 ⊢
  simp only [onIf] at h1
  have H3 := hide h1
  clear hk hr1 h1 H2
  go_wp2_with fail
  refine (ris_any _ rb m i g 0 0 40 40 rfl (by decide) H3.out.rd).mono ?_
  rintro en w4 ⟨rfl, nd, rfl⟩
  have h1 := H3.out.on hrb (Kept2.drewN (n := nd) (.refl _ _ _)) H3.out.rd.draw
  rw [HI40.out]
  have H4 := hide h1
  clear h1 H3
  go_wp2_with fail
  refine (ramong_any _ rb m [42, 43, 63, 41, 124, 93] i g 0 0 (by decide) H4.out.rd).mono ?_
  rintro en w5 ⟨rfl, ne, rfl⟩
  have h1 := H4.out.on hrb (Kept2.drewN (n := ne) (.refl _ _ _)) H4.out.rd.draw
  rw [HAM.out]
  have H5 := hide h1
  clear h1 H4
  obtain ⟨W3, HW3⟩ : ∃ W3, Hid (W3 = World.drewN (World.drewN w3 nd) ne) := ⟨_, hide rfl⟩
  rw [← HW3.out]
  have h3 : AtS w rb m i g 0 0 W3 := by rw [HW3.out]; exact H5.out
  obtain ⟨k0, k1, _, _, _⟩ := five_cells h3.rd
  have kf := not_frozen (k := 1) h3.rd
  obtain ⟨W4, HW4⟩ : ∃ W4, Hid (W4 = W3.setCell ⟨rb, 1, none⟩ (.int .i64 ((i : Int) + 1))) := ⟨_, hide rfl⟩
  have h4 : AtS w rb m (i + 1) g 0 0 W4 := by rw [HW4.out]; exact h3.on hrb (.setT _ _) (h3.rd.on _ (by go_num))
  have H4 := hide h4
  have hwr : IntKind.i64.wrap ((i : Int) + 1) = (i : Int) + 1 := wrap_i64_small _ (by omega) (by omega)
  have eW4 := HW4.out.symm
  clear h3 HW3 HW4 h4 H5
  go_wp2_with fail
  clear eW4 k0 k1 kf
  refine (alone_any c W4).mono ?_
  rintro en w5 ⟨rfl, hg5, hb5⟩
  have hs4 := H4.out.size
  have H5 := hide (H4.out.grow hrb hg5)
  have HBB := hide hb5
  clear hg5 hb5 H4
  obtain ⟨⟨r0, r1, r2, r3, r4⟩, rf⟩ := H5.out.cells
  have z0 := rf 0
  have z1 := rf 1
  have z2 := rf 2
  have z3 := rf 3
  have z4 := rf 4
  obtain ⟨Z, eZ, hk, ho, hrd, hkb⟩ := H5.out.store hrb (.bool false) (.slice (some ⟨W4.heap.size, 0, none⟩) 256 256) (.int .i64 0) (.slice none 0 0) (.int .u8 0)
  have HO := hide ho
  have HK := hide hk
  have HRD := hide hrd
  have HKB := hide hkb
  clear rf hk ho hrd hkb
  have HB2 : Hid (boolsAt Z W4.heap.size (boolRow (between c c))) := hide (HBB.out.keep (HKB.out _ (by omega)))
  go_wp2
  refine bodyPost_ret (v := pieceV false (.slice (some ⟨W4.heap.size, 0, none⟩) 256 256) 0 (.slice none 0 0) 0) (results_cell_row (p := 2) (ty := 155) rfl _ _ w.heap.size _ _ _ _ rfl HO.out Tryz.underlying155 rfl Tryz.infoPiece) rfl ⟨HK.out, _, rfl, ⟨_, rfl, ⟨_, rfl, by omega, HB2.out⟩, HRD.out⟩⟩

end Go.Proofs.YtndpjdmfkhjiiaaGreatDoor

/- The document's own reader of masks: brackets. -/
set_option linter.unusedVariables false
set_option linter.unusedSimpArgs false
namespace Go.Proofs.YtndpjdmfkhjiiaaGreatDoor
open Go.RowKit
attribute [local go_sem] bs_size bs_toList bs_append bs_get bs_extract

theorem wrap64_byte (c : UInt8) : wrap64 (c.toNat : Int) = (c.toNat : Int) := by
  have := c.toNat_lt
  unfold wrap64
  omega
/-- Where a reader is. -/
def placeR (w : World) (rb : Nat) : Nat := match w.heap[rb]? with | some (.cells c _ _) => (intOf (c.getD 1 undef)).toNat | _ => 0
theorem readerAt.place {w : World} {rb : Nat} {m : List UInt8} {i g e a : Nat} (h : readerAt w rb m i g e a) : placeR w rb = i := by
  unfold readerAt at h
  simp [placeR, h, intOf]

/-- Brackets, if they are turned round. -/
def outOf (neg : Bool) : Except (Nat × Nat) ((UInt8 → Bool) × Nat) → Except (Nat × Nat) ((UInt8 → Bool) × Nat)
  | .error e => .error e
  | .ok x => .ok (if neg then butAll x.1 else x.1, x.2)
theorem brackets_out {m : List UInt8} {i : Nat} {y} (h : pBrackets m i = some y) : ∃ z, bindO (pSpan m (onIf (isAt m i 94) i)) (fun x => pSpans m (m.length + 1) (union (fun _ => false) x.1) x.2) = some z ∧ y = outOf (isAt m i 94) z := by
  have hj : (if isAt m i 94 = true then i + 1 else i) = onIf (isAt m i 94) i := by cases isAt m i 94 <;> rfl
  have hu : ∀ s : UInt8 → Bool, union (fun _ => false) s = s := fun s => by funext x; simp [union]
  unfold pBrackets at h
  simp only [hj] at h
  simp only [hu]
  rw [← bindO_assoc] at h
  rcases bindO_eq h with ⟨e, he, rfl⟩ | ⟨x, hx, h⟩
  · exact ⟨_, he, rfl⟩
  · cases h
    exact ⟨_, hx, rfl⟩

/-- What is left between brackets: at the first span, or behind one. -/
def Rem (m : List UInt8) (z : Except (Nat × Nat) ((UInt8 → Bool) × Nat)) (first : Bool) (p : Nat) (s : UInt8 → Bool) (f : Nat) : Prop :=
  match first with
  | true => bindO (pSpan m p) (fun x => pSpans m f (union s x.1) x.2) = some z
  | false => pSpans m f s p = some z

theorem upto_row {s : UInt8 → Bool} {a k : Nat} (h : k < 256) (ha : a ≤ k) : (boolRow fun x => s x || (decide (a ≤ x.toNat) && decide (x.toNat < k))).set k true = boolRow fun x => s x || (decide (a ≤ x.toNat) && decide (x.toNat < k + 1)) := by
  rw [boolRow_set _ _ h]
  congr 1
  funext x
  by_cases e : x.toNat = k
  · simp [e, ha]
  · have : x.toNat < k ↔ x.toNat < k + 1 := by omega
    simp [e, this]
theorem upto_zero (s : UInt8 → Bool) (a : UInt8) : (fun x : UInt8 => s x || (decide (a.toNat ≤ x.toNat) && decide (x.toNat < a.toNat))) = s := by
  funext x
  by_cases h : a.toNat ≤ x.toNat
  · have : ¬ x.toNat < a.toNat := by omega
    simp [this]
  · simp [h]
theorem upto_full (s : UInt8 → Bool) (a b : UInt8) : (fun x : UInt8 => s x || (decide (a.toNat ≤ x.toNat) && decide (x.toNat < b.toNat + 1))) = union s (between a b) := by
  funext x
  have : x.toNat < b.toNat + 1 ↔ x.toNat ≤ b.toNat := by omega
  simp [union, between, this]
/-- Turned round as far as so many. -/
def turned (s : UInt8 → Bool) (neg : Bool) (k : Nat) : UInt8 → Bool := fun x => if x.toNat < k then (s x != neg) else s x
theorem turned_row {s : UInt8 → Bool} {neg : Bool} {k : Nat} (h : k < 256) : (boolRow (turned s neg k)).set k (s (UInt8.ofNat k) != neg) = boolRow (turned s neg (k + 1)) := by
  rw [boolRow_set _ _ h]
  congr 1
  funext x
  unfold turned
  by_cases e : x.toNat = k
  · have hx : x = UInt8.ofNat k := by rw [← e, UInt8.ofNat_toNat]
    simp [e, ← hx]
  · have : x.toNat < k ↔ x.toNat < k + 1 := by omega
    simp [e, this]
theorem turned_get {s : UInt8 → Bool} {neg : Bool} {k : Nat} (h : k < 256) : (boolRow (turned s neg k))[k]? = some (s (UInt8.ofNat k)) := by
  rw [boolRow_get _ h]
  simp [turned, Nat.mod_eq_of_lt h]
theorem turned_zero (s : UInt8 → Bool) (neg : Bool) : turned s neg 0 = s := by funext x; simp [turned]
theorem turned_all (s : UInt8 → Bool) (neg : Bool) : turned s neg 256 = if neg = true then butAll s else s := by
  funext x
  have := x.toNat_lt
  unfold turned
  rw [if_pos this]
  cases neg <;> simp [butAll]
theorem span_at {m : List UInt8} {p : Nat} {c : UInt8} (h : m[p]? = some c) (hb : badIn c = false) : pSpan m p = if isAt m (p + 1) 45 then bindO (pBr m (p + 2)) fun b => if b.toNat < c.toNat then some (.error (3, p + 2)) else some (.ok (between c b, p + 3)) else some (.ok (between c c, p + 1)) := by
  unfold pSpan
  have : pBr m p = some (.ok c) := by unfold pBr; rw [h]; simp [hb]
  rw [this]
  rfl
theorem span_bad {m : List UInt8} {p : Nat} (h : ∀ c, m[p]? = some c → badIn c = true) : pSpan m p = some (.error (1, p)) := by
  unfold pSpan
  have : pBr m p = some (.error (1, p)) := by
    unfold pBr
    cases hc : m[p]? with
    | none => rfl
    | some c => simp [h c hc]
  rw [this]
  rfl
theorem br_bad {m : List UInt8} {p : Nat} (h : ∀ c, m[p]? = some c → badIn c = true) : pBr m p = some (.error (1, p)) := by
  unfold pBr
  cases hc : m[p]? with
  | none => rfl
  | some c => simp [h c hc]

set_option maxRecDepth 20000 in
set_option maxHeartbeats 4000000 in
theorem ratom_brackets (w : World) (rb : Nat) (m : List UInt8) (i g : Nat) (c : UInt8) (hr : readerAt w rb m i g 0 0) (hc : m[i]? = some c) (hm : m.length ≤ 1000) (hq : c.toNat = 91) (y : Except (Nat × Nat) ((UInt8 → Bool) × Nat)) (hy : pSet m i c = some y) :
    Calls Tryz.prog 106 #[.pointer (some ⟨rb, 0, none⟩)] w (ratomPost rb m g y w) := by
  have hrb := lt_of_block hr
  have hi := get_lt hc
  have hget : m[i] = c := by rw [List.getElem?_eq_getElem hi] at hc; exact Option.some.inj hc
  have HI91 : Hid (isAt m i 91 = true) := by show _ = _; simp [isAt, hc, hq]
  have HI46 : Hid (isAt m i 46 = false) := by show _ = _; simp [isAt, hc]; omega
  have HI92 : Hid (isAt m i 92 = false) := by show _ = _; simp [isAt, hc]; omega
  obtain ⟨A, HA⟩ : ∃ A, Hid (A = w.alloc (.cells pieceZ 155)) := ⟨_, hide rfl⟩
  have hA := AtS.first hr HA.out
  obtain ⟨c0, c1, c2, c3, c4⟩ := five_cells hA.rd
  have HAS : Hid (∀ n, AtS w rb m i g 0 0 (A.drewN n)) := hide fun n => ⟨hA.kept.drewN, hA.size, hA.out, hA.rd⟩
  have eA := HA.out.symm
  obtain ⟨j, hj⟩ : ∃ j, i + 1 = j := ⟨_, rfl⟩
  have hy2 : pBrackets m j = some y := by
    rw [← hy, ← hj]
    simp [pSet, hq]
  obtain ⟨z, hz, hyz⟩ := brackets_out hy2
  have HZ := hide hz
  have HY := hide hyz
  clear hr hc HA hA c2 c3 c4 hq hy hy2 hz hyz
  go_enter Tryz.func106, Tryz.ntmps106
  go_wp2
  go_quiet (fail)
  have H0 := hide (HAS.out nq)
  clear eA HAS c0 c1
  go_wp2_with fail
  refine (rmay_any _ rb m i g 0 0 46 46 rfl (by decide) (by omega) H0.out.rd).mono ?_
  rintro en w1 ⟨rfl, hk, hr1⟩
  have h1 := H0.out.on hrb hk hr1
  rw [HI46.out] at h1 ⊢
  simp only [onIf] at h1
  have H1 := hide h1
  clear hk hr1 h1 H0
  go_wp2_with fail
  refine (rmay_any _ rb m i g 0 0 92 92 rfl (by decide) (by omega) H1.out.rd).mono ?_
  rintro en w2 ⟨rfl, hk, hr1⟩
  have h1 := H1.out.on hrb hk hr1
  rw [HI92.out] at h1 ⊢
  simp only [onIf] at h1
  have H2 := hide h1
  clear hk hr1 h1 H1
  go_wp2_with fail
  refine (rmay_any _ rb m i g 0 0 91 91 rfl (by decide) (by omega) H2.out.rd).mono ?_
  rintro en w3 ⟨rfl, hk, hr1⟩
  have h1 := H2.out.on hrb hk hr1
  rw [HI91.out] at h1 ⊢
  simp only [onIf] at h1
  have H3 := hide h1
  clear hk hr1 h1 H2
  rw [hj] at H3
  go_wp2_with fail
  refine (rmay_any _ rb m j g 0 0 94 94 rfl (by decide) (by omega) H3.out.rd).mono ?_
  rintro en w4 ⟨rfl, hk, hr1⟩
  have h4 := H3.out.on hrb hk hr1
  have HJ : Hid (onIf (isAt m j 94) j ≤ m.length) := by
    show _ ≤ _
    cases hb : isAt m j 94 with
    | true => have := isAt_lt hb; simp only [onIf]; omega
    | false => simp only [onIf]; omega
  obtain ⟨neg, HNG⟩ : ∃ neg, Hid (isAt m j 94 = neg) := ⟨_, hide rfl⟩
  rw [HNG.out] at HY HZ HJ h4 ⊢
  generalize onIf neg j = j0 at HZ HJ h4
  obtain ⟨W1, hmk, hg1, hs1, hb1⟩ := made_row w4
  have h5 := h4.grow hrb hg1
  have hLw := h4.size
  obtain ⟨L, hL⟩ : ∃ L, w4.heap.size = L := ⟨_, rfl⟩
  rw [hL] at hmk hb1 hLw
  have H5 := hide h5
  have HB5 := hide hb1
  clear hk hr1 h4 hg1 hb1 h5 H3
  go_wp2
  go_loopw [8] (fun fv wr => ∃ (first : Bool) (p : Nat) (s : UInt8 → Bool) (f : Nat), fv = .bool first ∧ Hid (AtS w rb m p g 0 0 wr) ∧ Hid (boolsAt wr L (boolRow s)) ∧ Hid (Rem m z first p s f) ∧ p ≤ m.length) (fun _ wr => m.length - placeR wr rb)
  case atStart => exact ⟨true, j0, fun _ => false, m.length + 1, rfl, H5, HB5, HZ, HJ.out⟩
  case round =>
    obtain ⟨first, p, s, f, rfl, HX, HBX, HR, hple⟩ := hrel
    rename World => X
    have HPL : Hid (placeR X rb = p) := HX.out.rd.place
    cases first with
    | true =>
      have HS : Hid (bindO (pSpan m p) (fun x => pSpans m f (union s x.1) x.2) = some z) := HR
      clear HR
      by_cases hclt : p < m.length
      · obtain ⟨c, hc⟩ : ∃ c, m[p] = c := ⟨_, rfl⟩
        have hclt2 : (p : Int) < m.length := by omega
        have hcne : ((p : Int) == m.length) = false := by rw [beq_eq_false_iff_ne]; omega
        have hwc : wrap64 (c.toNat : Int) = (c.toNat : Int) := wrap64_byte c
        have hgc : m[p]? = some c := by rw [List.getElem?_eq_getElem hclt, hc]
        have HAMc : Hid (∀ n, Calls Tryz.prog 107 #[.pointer (some ⟨rb, 0, none⟩), .string { data := #[91, 93, 92, 94, 45] }] (X.drewN n) fun e w' => e = .returned (.bool (badIn c)) ∧ ∃ k, w' = (X.drewN n).drewN k) := by
          refine hide fun n => ?_
          have h := ramong_any (X.drewN n) rb m [91, 93, 92, 94, 45] p g 0 0 (by decide) HX.out.rd.draw
          rw [comesB_bad hgc] at h
          exact h
        obtain ⟨c0, c1, _, _, _⟩ := five_cells HX.out.rd
        cases hb : badIn c with
        | true =>
          have HE : Hid (y = .error (1, p)) := by
            show _ = _
            have h := HS.out
            rw [span_bad (fun d hd => by rw [hgc] at hd; cases hd; exact hb)] at h
            rw [HY.out, ← Option.some.inj h]
            rfl
          rw [hb] at HAMc
          clear hb hgc
          go_wp2
          go_quiet ((go_at_call 107; exact Calls.quiet_of (HAMc.out _)))
          obtain ⟨X1, HW2⟩ : ∃ W2, Hid (W2 = World.drewN X nq) := ⟨_, hide rfl⟩
          rw [← HW2.out]
          have HX1 : Hid (AtS w rb m p g 0 0 X1) := by rw [HW2.out]; exact hide (HX.out.on hrb (Kept2.drewN (.refl _ _ _)) HX.out.rd.draw)
          have HBX1 : Hid (boolsAt X1 L (boolRow s)) := by rw [HW2.out]; exact HBX
          clear HW2
          obtain ⟨c0, c1, _, _, _⟩ := five_cells HX1.out.rd
          go_wp2_with fail
          refine (wrong_any _ rb m p g 1 (p : Int) 1 p rfl rfl HX1.out.rd).mono ?_
          rintro en wx ⟨rfl, hk3, hr3⟩
          have HX3 := hide (HX1.out.on hrb hk3 hr3)
          clear hk3 hr3
          obtain ⟨⟨r0, r1, r2, r3, r4⟩, rf⟩ := HX3.out.cells
          have z0 := rf 0
          have z1 := rf 1
          have z2 := rf 2
          have z3 := rf 3
          have z4 := rf 4
          obtain ⟨Z, eZ, hk, ho, hrd, hkb⟩ := HX3.out.store hrb (.bool false) (.slice none 0 0) (.int .i64 0) (.slice none 0 0) (.int .u8 0)
          have HO := hide ho
          have HK := hide hk
          have HRD := hide hrd
          have HKB := hide hkb
          clear rf hk ho hrd hkb
          go_wp2
          refine bodyPost_ret (v := pieceV false (.slice none 0 0) 0 (.slice none 0 0) 0) (results_cell_row (p := 2) (ty := 155) rfl _ _ w.heap.size _ _ _ _ rfl HO.out Tryz.underlying155 rfl Tryz.infoPiece) rfl ⟨HK.out, _, rfl, by rw [HE.out]; exact ⟨rfl, _, HRD.out⟩⟩
        | false =>
          have HSP : Hid (bindO (if isAt m (p + 1) 45 then bindO (pBr m (p + 2)) fun b => if b.toNat < c.toNat then some (.error (3, p + 2)) else some (.ok (between c b, p + 3)) else some (.ok (between c c, p + 1))) (fun x => pSpans m f (union s x.1) x.2) = some z) := by
            show _ = _
            have h := HS.out
            rw [span_at hgc hb] at h
            exact h
          rw [hb] at HAMc
          clear hb hgc HS
          go_wp2
          go_quiet ((go_at_call 107; exact Calls.quiet_of (HAMc.out _)))
          obtain ⟨X1, HW2⟩ : ∃ W2, Hid (W2 = World.drewN X nq) := ⟨_, hide rfl⟩
          rw [← HW2.out]
          have HX1 : Hid (AtS w rb m p g 0 0 X1) := by rw [HW2.out]; exact hide (HX.out.on hrb (Kept2.drewN (.refl _ _ _)) HX.out.rd.draw)
          have HBX1 : Hid (boolsAt X1 L (boolRow s)) := by rw [HW2.out]; exact HBX
          clear HW2
          clear c0 c1
          obtain ⟨c0, c1, _, _, _⟩ := five_cells HX1.out.rd
          go_wp2
          go_quiet (fail)
          obtain ⟨X2, HW2⟩ : ∃ W2, Hid (W2 = World.drewN X1 nq) := ⟨_, hide rfl⟩
          rw [← HW2.out]
          have HX2 : Hid (AtS w rb m p g 0 0 X2) := by rw [HW2.out]; exact hide (HX1.out.on hrb (Kept2.drewN (.refl _ _ _)) HX1.out.rd.draw)
          have HBX2 : Hid (boolsAt X2 L (boolRow s)) := by rw [HW2.out]; exact HBX1
          clear HW2
          obtain ⟨k0, k1, _, _, _⟩ := five_cells HX2.out.rd
          have kf := not_frozen (k := 1) HX2.out.rd
          obtain ⟨X3, HW2⟩ : ∃ W2, Hid (W2 = World.setCell X2 ⟨rb, 1, none⟩ (.int .i64 ((p : Int) + 1))) := ⟨_, hide rfl⟩
          have HX3 : Hid (AtS w rb m (p + 1) g 0 0 X3) := by rw [HW2.out]; exact hide (HX2.out.on hrb (.setT _ _) (HX2.out.rd.on _ (by go_num)))
          have HBX3 : Hid (boolsAt X3 L (boolRow s)) := by rw [HW2.out]; exact hide (HBX2.out.keep (set_apart _ (by omega)))
          have hwr : IntKind.i64.wrap ((p : Int) + 1) = (p : Int) + 1 := wrap_i64_small _ (by omega) (by omega)
          have eW2 := HW2.out.symm
          clear HW2
          clear c0 c1
          go_wp2_with fail
          clear eW2 k0 k1 kf
          obtain ⟨q, hq⟩ : ∃ q, p + 1 = q := ⟨_, rfl⟩
          rw [hq] at HX3
          rw [show p + 2 = q + 1 by omega, show p + 3 = q + 2 by omega, hq] at HSP
          refine (rmay_any _ rb m q g 0 0 45 45 rfl (by decide) (by omega) HX3.out.rd).mono ?_
          rintro en X4 ⟨rfl, hk4, hr4⟩
          have h4 := HX3.out.on hrb hk4 hr4
          have HBX4 : Hid (boolsAt X4 L (boolRow s)) := hide (HBX3.out.keep (hk4.block L (by have := HX3.out.size; have := lt_of_block HBX3.out; omega) (by omega) (by omega)))
          clear hk4 hr4
          obtain ⟨bo, HBO⟩ : ∃ bo, Hid (isAt m q 45 = bo) := ⟨_, hide rfl⟩
          rw [HBO.out] at h4 HSP ⊢
          cases bo with
          | false =>
            simp only [onIf] at h4
            have HX4 := hide h4
            have HNX : Hid (Rem m z false q (union s (between c c)) f) := by
              have h := HSP.out
              simp only [Bool.false_eq_true, if_false, bindO] at h
              exact hide h
            have hccle : c.toNat ≤ c.toNat + 1 := by omega
            clear h4 HSP
            go_wp2
            go_loopw [11] (fun v wr => ∃ k : Nat, c.toNat ≤ k ∧ k ≤ c.toNat + 1 ∧ v = .int .i64 k ∧ Hid (AtS w rb m q g 0 0 wr) ∧ Hid (boolsAt wr L (boolRow fun x => s x || (decide (c.toNat ≤ x.toNat) && decide (x.toNat < k))))) (fun v _ => c.toNat + 1 - (intOf v).toNat)
            case atStart => exact ⟨c.toNat, by omega, by omega, rfl, HX4, by rw [upto_zero]; exact HBX4⟩
            case round =>
              obtain ⟨k, hk1, hk2, rfl, HA2, HB2⟩ := hrel
              by_cases hkd : k ≤ c.toNat
              · have hkd2 : (k : Int) ≤ (c.toNat : Int) := by omega
                have h256 : k < 256 := by have := c.toNat_lt; omega
                have hcell := HB2.out.cell (k := k) (boolRow_get _ h256)
                have hfz := not_frozen (k := k) HB2.out
                go_wp2
                refine ⟨⟨k + 1, by omega, by omega, by go_num, hide (HA2.out.setB hrb hLw _), hide ?_⟩, ?_⟩
                · have := HB2.out.set k true
                  rw [upto_row h256 hk1] at this
                  exact this
                · simp [intOf]; omega
              · obtain rfl : k = c.toNat + 1 := by omega
                have hkd2 : ¬ ((c.toNat : Int) + 1 ≤ (c.toNat : Int)) := by omega
                have hB := HB2.out
                rw [upto_full] at hB
                have HB3 := hide hB
                clear hB HB2
                go_wp2
                refine ⟨⟨false, q, union s (between c c), f, rfl, HA2, HB3, HNX, by omega⟩, ?_⟩
                rw [HA2.out.rd.place, HPL.out]
                omega
          | true =>
            simp only [onIf] at h4
            have hqlt := isAt_lt HBO.out
            obtain ⟨q2, hq2⟩ : ∃ q2, q + 1 = q2 := ⟨_, rfl⟩
            rw [hq2] at h4 HSP
            rw [show q + 2 = q2 + 1 by omega] at HSP
            have HX4 := hide h4
            clear h4
            have hsp : bindO (bindO (pBr m q2) fun b => if b.toNat < c.toNat then some (.error (3, q2)) else some (.ok (between c b, q2 + 1))) (fun x => pSpans m f (union s x.1) x.2) = some z := by
              have h := HSP.out
              simp only [if_true] at h
              exact h
            have HSP2 := hide hsp
            clear hsp HSP
            by_cases hdlt : q2 < m.length
            · obtain ⟨d, hd⟩ : ∃ d, m[q2] = d := ⟨_, rfl⟩
              have hdlt2 : (q2 : Int) < m.length := by omega
              have hdne : ((q2 : Int) == m.length) = false := by rw [beq_eq_false_iff_ne]; omega
              have hwd : wrap64 (d.toNat : Int) = (d.toNat : Int) := wrap64_byte d
              have hgd : m[q2]? = some d := by rw [List.getElem?_eq_getElem hdlt, hd]
              have HAMd : Hid (∀ n, Calls Tryz.prog 107 #[.pointer (some ⟨rb, 0, none⟩), .string { data := #[91, 93, 92, 94, 45] }] (X4.drewN n) fun e w' => e = .returned (.bool (badIn d)) ∧ ∃ k, w' = (X4.drewN n).drewN k) := by
                refine hide fun n => ?_
                have h := ramong_any (X4.drewN n) rb m [91, 93, 92, 94, 45] q2 g 0 0 (by decide) HX4.out.rd.draw
                rw [comesB_bad hgd] at h
                exact h
              obtain ⟨c0, c1, _, _, _⟩ := five_cells HX4.out.rd
              cases hb : badIn d with
              | true =>
                have HE : Hid (y = .error (1, q2)) := by
                  show _ = _
                  have h := HSP2.out
                  rw [br_bad (fun e he => by rw [hgd] at he; cases he; exact hb)] at h
                  rw [HY.out, ← Option.some.inj h]
                  rfl
                rw [hb] at HAMd
                clear hb hgd
                go_wp2
                go_quiet ((go_at_call 107; exact Calls.quiet_of (HAMd.out _)))
                obtain ⟨X5, HW2⟩ : ∃ W2, Hid (W2 = World.drewN X4 nq) := ⟨_, hide rfl⟩
                rw [← HW2.out]
                have HX5 : Hid (AtS w rb m q2 g 0 0 X5) := by rw [HW2.out]; exact hide (HX4.out.on hrb (Kept2.drewN (.refl _ _ _)) HX4.out.rd.draw)
                have HBX5 : Hid (boolsAt X5 L (boolRow s)) := by rw [HW2.out]; exact HBX4
                clear HW2
                obtain ⟨c0, c1, _, _, _⟩ := five_cells HX5.out.rd
                go_wp2_with fail
                refine (wrong_any _ rb m q2 g 1 (q2 : Int) 1 q2 rfl rfl HX5.out.rd).mono ?_
                rintro en wx ⟨rfl, hk3, hr3⟩
                have HX3 := hide (HX5.out.on hrb hk3 hr3)
                clear hk3 hr3
                obtain ⟨⟨r0, r1, r2, r3, r4⟩, rf⟩ := HX3.out.cells
                have z0 := rf 0
                have z1 := rf 1
                have z2 := rf 2
                have z3 := rf 3
                have z4 := rf 4
                obtain ⟨Z, eZ, hk, ho, hrd, hkb⟩ := HX3.out.store hrb (.bool false) (.slice none 0 0) (.int .i64 0) (.slice none 0 0) (.int .u8 0)
                have HO := hide ho
                have HK := hide hk
                have HRD := hide hrd
                have HKB := hide hkb
                clear rf hk ho hrd hkb
                go_wp2
                refine bodyPost_ret (v := pieceV false (.slice none 0 0) 0 (.slice none 0 0) 0) (results_cell_row (p := 2) (ty := 155) rfl _ _ w.heap.size _ _ _ _ rfl HO.out Tryz.underlying155 rfl Tryz.infoPiece) rfl ⟨HK.out, _, rfl, by rw [HE.out]; exact ⟨rfl, _, HRD.out⟩⟩
              | false =>
                have HSP3 : Hid (bindO (if d.toNat < c.toNat then some (.error (3, q2)) else some (.ok (between c d, q2 + 1))) (fun x => pSpans m f (union s x.1) x.2) = some z) := by
                  show _ = _
                  have h := HSP2.out
                  rw [show pBr m q2 = some (.ok d) by unfold pBr; rw [hgd]; simp [hb]] at h
                  exact h
                rw [hb] at HAMd
                clear hb hgd HSP2
                go_wp2
                go_quiet ((go_at_call 107; exact Calls.quiet_of (HAMd.out _)))
                obtain ⟨X5, HW2⟩ : ∃ W2, Hid (W2 = World.drewN X4 nq) := ⟨_, hide rfl⟩
                rw [← HW2.out]
                have HX5 : Hid (AtS w rb m q2 g 0 0 X5) := by rw [HW2.out]; exact hide (HX4.out.on hrb (Kept2.drewN (.refl _ _ _)) HX4.out.rd.draw)
                have HBX5 : Hid (boolsAt X5 L (boolRow s)) := by rw [HW2.out]; exact HBX4
                clear HW2
                clear c0 c1
                obtain ⟨c0, c1, _, _, _⟩ := five_cells HX5.out.rd
                by_cases hlo : d.toNat < c.toNat
                · have HE : Hid (y = .error (3, q2)) := by
                    show _ = _
                    have h := HSP3.out
                    rw [if_pos hlo] at h
                    rw [HY.out, ← Option.some.inj h]
                    rfl
                  have hlo2 : (d.toNat : Int) < (c.toNat : Int) := by omega
                  have hlo3 : decide ((d.toNat : Int) < (c.toNat : Int)) = true := by simpa using hlo2
                  go_wp2
                  go_quiet (fail)
                  obtain ⟨X6, HW2⟩ : ∃ W2, Hid (W2 = World.drewN X5 nq) := ⟨_, hide rfl⟩
                  rw [← HW2.out]
                  have HX6 : Hid (AtS w rb m q2 g 0 0 X6) := by rw [HW2.out]; exact hide (HX5.out.on hrb (Kept2.drewN (.refl _ _ _)) HX5.out.rd.draw)
                  have HBX6 : Hid (boolsAt X6 L (boolRow s)) := by rw [HW2.out]; exact HBX5
                  clear HW2
                  clear c0 c1
                  obtain ⟨c0, c1, _, _, _⟩ := five_cells HX6.out.rd
                  obtain ⟨c0, c1, _, _, _⟩ := five_cells HX6.out.rd
                  go_wp2_with fail
                  refine (wrong_any _ rb m q2 g 3 (q2 : Int) 3 q2 rfl rfl HX6.out.rd).mono ?_
                  rintro en wx ⟨rfl, hk3, hr3⟩
                  have HX3 := hide (HX6.out.on hrb hk3 hr3)
                  clear hk3 hr3
                  obtain ⟨⟨r0, r1, r2, r3, r4⟩, rf⟩ := HX3.out.cells
                  have z0 := rf 0
                  have z1 := rf 1
                  have z2 := rf 2
                  have z3 := rf 3
                  have z4 := rf 4
                  obtain ⟨Z, eZ, hk, ho, hrd, hkb⟩ := HX3.out.store hrb (.bool false) (.slice none 0 0) (.int .i64 0) (.slice none 0 0) (.int .u8 0)
                  have HO := hide ho
                  have HK := hide hk
                  have HRD := hide hrd
                  have HKB := hide hkb
                  clear rf hk ho hrd hkb
                  go_wp2
                  refine bodyPost_ret (v := pieceV false (.slice none 0 0) 0 (.slice none 0 0) 0) (results_cell_row (p := 2) (ty := 155) rfl _ _ w.heap.size _ _ _ _ rfl HO.out Tryz.underlying155 rfl Tryz.infoPiece) rfl ⟨HK.out, _, rfl, by rw [HE.out]; exact ⟨rfl, _, HRD.out⟩⟩
                · have HNX : Hid (Rem m z false (q2 + 1) (union s (between c d)) f) := by
                    have h := HSP3.out
                    rw [if_neg hlo] at h
                    exact hide h
                  have hlo2 : ¬ (d.toNat : Int) < (c.toNat : Int) := by omega
                  have hlo3 : decide ((d.toNat : Int) < (c.toNat : Int)) = false := by simpa using hlo2
                  have hccle : c.toNat ≤ d.toNat + 1 := by omega
                  clear HSP3
                  go_wp2
                  go_quiet (fail)
                  obtain ⟨X6, HW2⟩ : ∃ W2, Hid (W2 = World.drewN X5 nq) := ⟨_, hide rfl⟩
                  rw [← HW2.out]
                  have HX6 : Hid (AtS w rb m q2 g 0 0 X6) := by rw [HW2.out]; exact hide (HX5.out.on hrb (Kept2.drewN (.refl _ _ _)) HX5.out.rd.draw)
                  have HBX6 : Hid (boolsAt X6 L (boolRow s)) := by rw [HW2.out]; exact HBX5
                  clear HW2
                  obtain ⟨k0, k1, _, _, _⟩ := five_cells HX6.out.rd
                  have kf := not_frozen (k := 1) HX6.out.rd
                  obtain ⟨X7, HW2⟩ : ∃ W2, Hid (W2 = World.setCell X6 ⟨rb, 1, none⟩ (.int .i64 ((q2 : Int) + 1))) := ⟨_, hide rfl⟩
                  have HX7 : Hid (AtS w rb m (q2 + 1) g 0 0 X7) := by rw [HW2.out]; exact hide (HX6.out.on hrb (.setT _ _) (HX6.out.rd.on _ (by go_num)))
                  have HBX7 : Hid (boolsAt X7 L (boolRow s)) := by rw [HW2.out]; exact hide (HBX6.out.keep (set_apart _ (by omega)))
                  have hwr : IntKind.i64.wrap ((q2 : Int) + 1) = (q2 : Int) + 1 := wrap_i64_small _ (by omega) (by omega)
                  have eW2 := HW2.out.symm
                  clear HW2
                  clear c0 c1
                  go_wp2
                  go_loopw [11] (fun v wr => ∃ k : Nat, c.toNat ≤ k ∧ k ≤ d.toNat + 1 ∧ v = .int .i64 k ∧ Hid (AtS w rb m (q2 + 1) g 0 0 wr) ∧ Hid (boolsAt wr L (boolRow fun x => s x || (decide (c.toNat ≤ x.toNat) && decide (x.toNat < k))))) (fun v _ => d.toNat + 1 - (intOf v).toNat)
                  case atStart => exact ⟨c.toNat, by omega, by omega, rfl, HX7, by rw [upto_zero]; exact HBX7⟩
                  case round =>
                    obtain ⟨k, hk1, hk2, rfl, HA2, HB2⟩ := hrel
                    by_cases hkd : k ≤ d.toNat
                    · have hkd2 : (k : Int) ≤ (d.toNat : Int) := by omega
                      have h256 : k < 256 := by have := d.toNat_lt; omega
                      have hcell := HB2.out.cell (k := k) (boolRow_get _ h256)
                      have hfz := not_frozen (k := k) HB2.out
                      go_wp2
                      refine ⟨⟨k + 1, by omega, by omega, by go_num, hide (HA2.out.setB hrb hLw _), hide ?_⟩, ?_⟩
                      · have := HB2.out.set k true
                        rw [upto_row h256 hk1] at this
                        exact this
                      · simp [intOf]; omega
                    · obtain rfl : k = d.toNat + 1 := by omega
                      have hkd2 : ¬ ((d.toNat : Int) + 1 ≤ (d.toNat : Int)) := by omega
                      have hB := HB2.out
                      rw [upto_full] at hB
                      have HB3 := hide hB
                      clear hB HB2
                      go_wp2
                      refine ⟨⟨false, (q2 + 1), union s (between c d), f, rfl, HA2, HB3, HNX, by omega⟩, ?_⟩
                      rw [HA2.out.rd.place, HPL.out]
                      omega
            · have HE : Hid (y = .error (1, q2)) := by
                show _ = _
                have h := HSP2.out
                rw [br_bad (fun e he => by rw [List.getElem?_eq_none_iff.2 (by omega)] at he; cases he)] at h
                rw [HY.out, ← Option.some.inj h]
                rfl
              have hne : ((q2 : Int) == m.length) = true := by rw [beq_iff_eq]; omega
              obtain ⟨c0, c1, _, _, _⟩ := five_cells HX4.out.rd
              go_wp2
              go_quiet (fail)
              obtain ⟨X5, HW2⟩ : ∃ W2, Hid (W2 = World.drewN X4 nq) := ⟨_, hide rfl⟩
              rw [← HW2.out]
              have HX5 : Hid (AtS w rb m q2 g 0 0 X5) := by rw [HW2.out]; exact hide (HX4.out.on hrb (Kept2.drewN (.refl _ _ _)) HX4.out.rd.draw)
              have HBX5 : Hid (boolsAt X5 L (boolRow s)) := by rw [HW2.out]; exact HBX4
              clear HW2
              obtain ⟨c0, c1, _, _, _⟩ := five_cells HX5.out.rd
              go_wp2_with fail
              refine (wrong_any _ rb m q2 g 1 (q2 : Int) 1 q2 rfl rfl HX5.out.rd).mono ?_
              rintro en wx ⟨rfl, hk3, hr3⟩
              have HX3 := hide (HX5.out.on hrb hk3 hr3)
              clear hk3 hr3
              obtain ⟨⟨r0, r1, r2, r3, r4⟩, rf⟩ := HX3.out.cells
              have z0 := rf 0
              have z1 := rf 1
              have z2 := rf 2
              have z3 := rf 3
              have z4 := rf 4
              obtain ⟨Z, eZ, hk, ho, hrd, hkb⟩ := HX3.out.store hrb (.bool false) (.slice none 0 0) (.int .i64 0) (.slice none 0 0) (.int .u8 0)
              have HO := hide ho
              have HK := hide hk
              have HRD := hide hrd
              have HKB := hide hkb
              clear rf hk ho hrd hkb
              go_wp2
              refine bodyPost_ret (v := pieceV false (.slice none 0 0) 0 (.slice none 0 0) 0) (results_cell_row (p := 2) (ty := 155) rfl _ _ w.heap.size _ _ _ _ rfl HO.out Tryz.underlying155 rfl Tryz.infoPiece) rfl ⟨HK.out, _, rfl, by rw [HE.out]; exact ⟨rfl, _, HRD.out⟩⟩
      · have HE : Hid (y = .error (1, p)) := by
          show _ = _
          have h := HS.out
          rw [span_bad (fun d hd => by rw [List.getElem?_eq_none_iff.2 (by omega)] at hd; cases hd)] at h
          rw [HY.out, ← Option.some.inj h]
          rfl
        have hne : ((p : Int) == m.length) = true := by rw [beq_iff_eq]; omega
        obtain ⟨c0, c1, _, _, _⟩ := five_cells HX.out.rd
        go_wp2
        go_quiet (fail)
        obtain ⟨X1, HW2⟩ : ∃ W2, Hid (W2 = World.drewN X nq) := ⟨_, hide rfl⟩
        rw [← HW2.out]
        have HX1 : Hid (AtS w rb m p g 0 0 X1) := by rw [HW2.out]; exact hide (HX.out.on hrb (Kept2.drewN (.refl _ _ _)) HX.out.rd.draw)
        have HBX1 : Hid (boolsAt X1 L (boolRow s)) := by rw [HW2.out]; exact HBX
        clear HW2
        obtain ⟨c0, c1, _, _, _⟩ := five_cells HX1.out.rd
        go_wp2_with fail
        refine (wrong_any _ rb m p g 1 (p : Int) 1 p rfl rfl HX1.out.rd).mono ?_
        rintro en wx ⟨rfl, hk3, hr3⟩
        have HX3 := hide (HX1.out.on hrb hk3 hr3)
        clear hk3 hr3
        obtain ⟨⟨r0, r1, r2, r3, r4⟩, rf⟩ := HX3.out.cells
        have z0 := rf 0
        have z1 := rf 1
        have z2 := rf 2
        have z3 := rf 3
        have z4 := rf 4
        obtain ⟨Z, eZ, hk, ho, hrd, hkb⟩ := HX3.out.store hrb (.bool false) (.slice none 0 0) (.int .i64 0) (.slice none 0 0) (.int .u8 0)
        have HO := hide ho
        have HK := hide hk
        have HRD := hide hrd
        have HKB := hide hkb
        clear rf hk ho hrd hkb
        go_wp2
        refine bodyPost_ret (v := pieceV false (.slice none 0 0) 0 (.slice none 0 0) 0) (results_cell_row (p := 2) (ty := 155) rfl _ _ w.heap.size _ _ _ _ rfl HO.out Tryz.underlying155 rfl Tryz.infoPiece) rfl ⟨HK.out, _, rfl, by rw [HE.out]; exact ⟨rfl, _, HRD.out⟩⟩
    | false =>
      cases f with
      | zero => exact absurd HR.out (by simp [Rem, pSpans])
      | succ f =>
        have HR2 : Hid ((if isAt m p 93 then some (.ok (s, p + 1)) else bindO (pSpan m p) fun x => pSpans m f (union s x.1) x.2) = some z) := HR
        clear HR
        go_wp2_with fail
        refine (rmay_any _ rb m p g 0 0 93 93 rfl (by decide) (by omega) HX.out.rd).mono ?_
        rintro en Y ⟨rfl, hk6, hr6⟩
        have h6 := HX.out.on hrb hk6 hr6
        have HBY : Hid (boolsAt Y L (boolRow s)) := hide (HBX.out.keep (hk6.block L (by have := lt_of_block HBX.out; omega) (by omega) (by omega)))
        clear hk6 hr6
        obtain ⟨bc, HBC⟩ : ∃ bc, Hid (isAt m p 93 = bc) := ⟨_, hide rfl⟩
        rw [HBC.out] at h6 HR2 ⊢
        clear HX HBX
        cases bc with
        | true =>
          simp only [onIf] at h6
          have HE : Hid (y = .ok (if neg = true then butAll s else s, p + 1)) := by
            show _ = _
            have h := HR2.out
            simp only [if_true] at h
            rw [HY.out, ← Option.some.inj h]
            rfl
          have H6 := hide h6
          have HB6 : Hid (boolsAt Y L (boolRow (turned s neg 0))) := by rw [turned_zero]; exact HBY
          clear h6 HR2 HBY
          go_wp2
          go_loopw [12] (fun v wr => ∃ k : Nat, k ≤ 256 ∧ v = .int .i64 k ∧ Hid (AtS w rb m (p + 1) g 0 0 wr) ∧ Hid (boolsAt wr L (boolRow (turned s neg k)))) (fun v _ => 256 - (intOf v).toNat)
          case atStart => exact ⟨0, by omega, rfl, H6, HB6⟩
          case round =>
            obtain ⟨k, hk, rfl, HA, HB⟩ := hrel
            by_cases hlt : k < 256
            · have hlt2 : (k : Int) < 256 := by omega
              have hcell := HB.out.cell (k := k) (turned_get hlt)
              have hfz := not_frozen (k := k) HB.out
              go_wp2
              refine ⟨⟨k + 1, by omega, by go_num, hide (HA.out.setB hrb hLw _), hide ?_⟩, ?_⟩
              · have := HB.out.set k (s (UInt8.ofNat k) != neg)
                rw [turned_row hlt] at this
                exact this
              · simp [intOf]; omega
            · obtain rfl : k = 256 := by omega
              have hB := HB.out
              rw [turned_all] at hB
              obtain ⟨⟨r0, r1, r2, r3, r4⟩, rf⟩ := HA.out.cells
              have z0 := rf 0
              have z1 := rf 1
              have z2 := rf 2
              have z3 := rf 3
              have z4 := rf 4
              obtain ⟨Z, eZ, hk, ho, hrd, hkb⟩ := HA.out.store hrb (.bool false) (.slice (some ⟨L, 0, none⟩) 256 256) (.int .i64 0) (.slice none 0 0) (.int .u8 0)
              have HO := hide ho
              have HK := hide hk
              have HRD := hide hrd
              have HKB := hide hkb
              clear rf hk ho hrd hkb
              have HB7 := hide (hB.keep (HKB.out L (by omega)))
              clear hB HA HB
              go_wp2
              refine bodyPost_ret (v := pieceV false (.slice (some ⟨L, 0, none⟩) 256 256) 0 (.slice none 0 0) 0) (results_cell_row (p := 2) (ty := 155) rfl _ _ w.heap.size _ _ _ _ rfl HO.out Tryz.underlying155 rfl Tryz.infoPiece) rfl ⟨HK.out, _, rfl, by rw [HE.out]; exact ⟨_, rfl, ⟨_, rfl, by omega, HB7.out⟩, HRD.out⟩⟩
        | false =>
          simp only [onIf] at h6
          have HS : Hid (bindO (pSpan m p) (fun x => pSpans m f (union s x.1) x.2) = some z) := by
            have h := HR2.out
            simp only [Bool.false_eq_true, if_false] at h
            exact hide h
          have HY1 := hide h6
          have HBY1 := HBY
          obtain ⟨Y1, HYY⟩ : ∃ Y1, Hid (Y1 = Y) := ⟨_, hide rfl⟩
          rw [← HYY.out] at HY1 HBY1 ⊢
          clear h6 HR2 HBY HYY
          by_cases hclt : p < m.length
          · obtain ⟨c, hc⟩ : ∃ c, m[p] = c := ⟨_, rfl⟩
            have hclt2 : (p : Int) < m.length := by omega
            have hcne : ((p : Int) == m.length) = false := by rw [beq_eq_false_iff_ne]; omega
            have hwc : wrap64 (c.toNat : Int) = (c.toNat : Int) := wrap64_byte c
            have hgc : m[p]? = some c := by rw [List.getElem?_eq_getElem hclt, hc]
            have HAMc : Hid (∀ n, Calls Tryz.prog 107 #[.pointer (some ⟨rb, 0, none⟩), .string { data := #[91, 93, 92, 94, 45] }] (Y1.drewN n) fun e w' => e = .returned (.bool (badIn c)) ∧ ∃ k, w' = (Y1.drewN n).drewN k) := by
              refine hide fun n => ?_
              have h := ramong_any (Y1.drewN n) rb m [91, 93, 92, 94, 45] p g 0 0 (by decide) HY1.out.rd.draw
              rw [comesB_bad hgc] at h
              exact h
            obtain ⟨c0, c1, _, _, _⟩ := five_cells HY1.out.rd
            cases hb : badIn c with
            | true =>
              have HE : Hid (y = .error (1, p)) := by
                show _ = _
                have h := HS.out
                rw [span_bad (fun d hd => by rw [hgc] at hd; cases hd; exact hb)] at h
                rw [HY.out, ← Option.some.inj h]
                rfl
              rw [hb] at HAMc
              clear hb hgc
              go_wp2
              go_quiet ((go_at_call 107; exact Calls.quiet_of (HAMc.out _)))
              obtain ⟨X1, HW2⟩ : ∃ W2, Hid (W2 = World.drewN Y1 nq) := ⟨_, hide rfl⟩
              rw [← HW2.out]
              have HX1 : Hid (AtS w rb m p g 0 0 X1) := by rw [HW2.out]; exact hide (HY1.out.on hrb (Kept2.drewN (.refl _ _ _)) HY1.out.rd.draw)
              have HBX1 : Hid (boolsAt X1 L (boolRow s)) := by rw [HW2.out]; exact HBY1
              clear HW2
              obtain ⟨c0, c1, _, _, _⟩ := five_cells HX1.out.rd
              go_wp2_with fail
              refine (wrong_any _ rb m p g 1 (p : Int) 1 p rfl rfl HX1.out.rd).mono ?_
              rintro en wx ⟨rfl, hk3, hr3⟩
              have HX3 := hide (HX1.out.on hrb hk3 hr3)
              clear hk3 hr3
              obtain ⟨⟨r0, r1, r2, r3, r4⟩, rf⟩ := HX3.out.cells
              have z0 := rf 0
              have z1 := rf 1
              have z2 := rf 2
              have z3 := rf 3
              have z4 := rf 4
              obtain ⟨Z, eZ, hk, ho, hrd, hkb⟩ := HX3.out.store hrb (.bool false) (.slice none 0 0) (.int .i64 0) (.slice none 0 0) (.int .u8 0)
              have HO := hide ho
              have HK := hide hk
              have HRD := hide hrd
              have HKB := hide hkb
              clear rf hk ho hrd hkb
              go_wp2
              refine bodyPost_ret (v := pieceV false (.slice none 0 0) 0 (.slice none 0 0) 0) (results_cell_row (p := 2) (ty := 155) rfl _ _ w.heap.size _ _ _ _ rfl HO.out Tryz.underlying155 rfl Tryz.infoPiece) rfl ⟨HK.out, _, rfl, by rw [HE.out]; exact ⟨rfl, _, HRD.out⟩⟩
            | false =>
              have HSP : Hid (bindO (if isAt m (p + 1) 45 then bindO (pBr m (p + 2)) fun b => if b.toNat < c.toNat then some (.error (3, p + 2)) else some (.ok (between c b, p + 3)) else some (.ok (between c c, p + 1))) (fun x => pSpans m f (union s x.1) x.2) = some z) := by
                show _ = _
                have h := HS.out
                rw [span_at hgc hb] at h
                exact h
              rw [hb] at HAMc
              clear hb hgc HS
              go_wp2
              go_quiet ((go_at_call 107; exact Calls.quiet_of (HAMc.out _)))
              obtain ⟨X1, HW2⟩ : ∃ W2, Hid (W2 = World.drewN Y1 nq) := ⟨_, hide rfl⟩
              rw [← HW2.out]
              have HX1 : Hid (AtS w rb m p g 0 0 X1) := by rw [HW2.out]; exact hide (HY1.out.on hrb (Kept2.drewN (.refl _ _ _)) HY1.out.rd.draw)
              have HBX1 : Hid (boolsAt X1 L (boolRow s)) := by rw [HW2.out]; exact HBY1
              clear HW2
              clear c0 c1
              obtain ⟨c0, c1, _, _, _⟩ := five_cells HX1.out.rd
              go_wp2
              go_quiet (fail)
              obtain ⟨X2, HW2⟩ : ∃ W2, Hid (W2 = World.drewN X1 nq) := ⟨_, hide rfl⟩
              rw [← HW2.out]
              have HX2 : Hid (AtS w rb m p g 0 0 X2) := by rw [HW2.out]; exact hide (HX1.out.on hrb (Kept2.drewN (.refl _ _ _)) HX1.out.rd.draw)
              have HBX2 : Hid (boolsAt X2 L (boolRow s)) := by rw [HW2.out]; exact HBX1
              clear HW2
              obtain ⟨k0, k1, _, _, _⟩ := five_cells HX2.out.rd
              have kf := not_frozen (k := 1) HX2.out.rd
              obtain ⟨X3, HW2⟩ : ∃ W2, Hid (W2 = World.setCell X2 ⟨rb, 1, none⟩ (.int .i64 ((p : Int) + 1))) := ⟨_, hide rfl⟩
              have HX3 : Hid (AtS w rb m (p + 1) g 0 0 X3) := by rw [HW2.out]; exact hide (HX2.out.on hrb (.setT _ _) (HX2.out.rd.on _ (by go_num)))
              have HBX3 : Hid (boolsAt X3 L (boolRow s)) := by rw [HW2.out]; exact hide (HBX2.out.keep (set_apart _ (by omega)))
              have hwr : IntKind.i64.wrap ((p : Int) + 1) = (p : Int) + 1 := wrap_i64_small _ (by omega) (by omega)
              have eW2 := HW2.out.symm
              clear HW2
              clear c0 c1
              go_wp2_with fail
              clear eW2 k0 k1 kf
              obtain ⟨q, hq⟩ : ∃ q, p + 1 = q := ⟨_, rfl⟩
              rw [hq] at HX3
              rw [show p + 2 = q + 1 by omega, show p + 3 = q + 2 by omega, hq] at HSP
              refine (rmay_any _ rb m q g 0 0 45 45 rfl (by decide) (by omega) HX3.out.rd).mono ?_
              rintro en X4 ⟨rfl, hk4, hr4⟩
              have h4 := HX3.out.on hrb hk4 hr4
              have HBX4 : Hid (boolsAt X4 L (boolRow s)) := hide (HBX3.out.keep (hk4.block L (by have := HX3.out.size; have := lt_of_block HBX3.out; omega) (by omega) (by omega)))
              clear hk4 hr4
              obtain ⟨bo, HBO⟩ : ∃ bo, Hid (isAt m q 45 = bo) := ⟨_, hide rfl⟩
              rw [HBO.out] at h4 HSP ⊢
              cases bo with
              | false =>
                simp only [onIf] at h4
                have HX4 := hide h4
                have HNX : Hid (Rem m z false q (union s (between c c)) f) := by
                  have h := HSP.out
                  simp only [Bool.false_eq_true, if_false, bindO] at h
                  exact hide h
                have hccle : c.toNat ≤ c.toNat + 1 := by omega
                clear h4 HSP
                go_wp2
                go_loopw [11] (fun v wr => ∃ k : Nat, c.toNat ≤ k ∧ k ≤ c.toNat + 1 ∧ v = .int .i64 k ∧ Hid (AtS w rb m q g 0 0 wr) ∧ Hid (boolsAt wr L (boolRow fun x => s x || (decide (c.toNat ≤ x.toNat) && decide (x.toNat < k))))) (fun v _ => c.toNat + 1 - (intOf v).toNat)
                case atStart => exact ⟨c.toNat, by omega, by omega, rfl, HX4, by rw [upto_zero]; exact HBX4⟩
                case round =>
                  obtain ⟨k, hk1, hk2, rfl, HA2, HB2⟩ := hrel
                  by_cases hkd : k ≤ c.toNat
                  · have hkd2 : (k : Int) ≤ (c.toNat : Int) := by omega
                    have h256 : k < 256 := by have := c.toNat_lt; omega
                    have hcell := HB2.out.cell (k := k) (boolRow_get _ h256)
                    have hfz := not_frozen (k := k) HB2.out
                    go_wp2
                    refine ⟨⟨k + 1, by omega, by omega, by go_num, hide (HA2.out.setB hrb hLw _), hide ?_⟩, ?_⟩
                    · have := HB2.out.set k true
                      rw [upto_row h256 hk1] at this
                      exact this
                    · simp [intOf]; omega
                  · obtain rfl : k = c.toNat + 1 := by omega
                    have hkd2 : ¬ ((c.toNat : Int) + 1 ≤ (c.toNat : Int)) := by omega
                    have hB := HB2.out
                    rw [upto_full] at hB
                    have HB3 := hide hB
                    clear hB HB2
                    go_wp2
                    refine ⟨⟨false, q, union s (between c c), f, rfl, HA2, HB3, HNX, by omega⟩, ?_⟩
                    rw [HA2.out.rd.place, HPL.out]
                    omega
              | true =>
                simp only [onIf] at h4
                have hqlt := isAt_lt HBO.out
                obtain ⟨q2, hq2⟩ : ∃ q2, q + 1 = q2 := ⟨_, rfl⟩
                rw [hq2] at h4 HSP
                rw [show q + 2 = q2 + 1 by omega] at HSP
                have HX4 := hide h4
                clear h4
                have hsp : bindO (bindO (pBr m q2) fun b => if b.toNat < c.toNat then some (.error (3, q2)) else some (.ok (between c b, q2 + 1))) (fun x => pSpans m f (union s x.1) x.2) = some z := by
                  have h := HSP.out
                  simp only [if_true] at h
                  exact h
                have HSP2 := hide hsp
                clear hsp HSP
                by_cases hdlt : q2 < m.length
                · obtain ⟨d, hd⟩ : ∃ d, m[q2] = d := ⟨_, rfl⟩
                  have hdlt2 : (q2 : Int) < m.length := by omega
                  have hdne : ((q2 : Int) == m.length) = false := by rw [beq_eq_false_iff_ne]; omega
                  have hwd : wrap64 (d.toNat : Int) = (d.toNat : Int) := wrap64_byte d
                  have hgd : m[q2]? = some d := by rw [List.getElem?_eq_getElem hdlt, hd]
                  have HAMd : Hid (∀ n, Calls Tryz.prog 107 #[.pointer (some ⟨rb, 0, none⟩), .string { data := #[91, 93, 92, 94, 45] }] (X4.drewN n) fun e w' => e = .returned (.bool (badIn d)) ∧ ∃ k, w' = (X4.drewN n).drewN k) := by
                    refine hide fun n => ?_
                    have h := ramong_any (X4.drewN n) rb m [91, 93, 92, 94, 45] q2 g 0 0 (by decide) HX4.out.rd.draw
                    rw [comesB_bad hgd] at h
                    exact h
                  obtain ⟨c0, c1, _, _, _⟩ := five_cells HX4.out.rd
                  cases hb : badIn d with
                  | true =>
                    have HE : Hid (y = .error (1, q2)) := by
                      show _ = _
                      have h := HSP2.out
                      rw [br_bad (fun e he => by rw [hgd] at he; cases he; exact hb)] at h
                      rw [HY.out, ← Option.some.inj h]
                      rfl
                    rw [hb] at HAMd
                    clear hb hgd
                    go_wp2
                    go_quiet ((go_at_call 107; exact Calls.quiet_of (HAMd.out _)))
                    obtain ⟨X5, HW2⟩ : ∃ W2, Hid (W2 = World.drewN X4 nq) := ⟨_, hide rfl⟩
                    rw [← HW2.out]
                    have HX5 : Hid (AtS w rb m q2 g 0 0 X5) := by rw [HW2.out]; exact hide (HX4.out.on hrb (Kept2.drewN (.refl _ _ _)) HX4.out.rd.draw)
                    have HBX5 : Hid (boolsAt X5 L (boolRow s)) := by rw [HW2.out]; exact HBX4
                    clear HW2
                    obtain ⟨c0, c1, _, _, _⟩ := five_cells HX5.out.rd
                    go_wp2_with fail
                    refine (wrong_any _ rb m q2 g 1 (q2 : Int) 1 q2 rfl rfl HX5.out.rd).mono ?_
                    rintro en wx ⟨rfl, hk3, hr3⟩
                    have HX3 := hide (HX5.out.on hrb hk3 hr3)
                    clear hk3 hr3
                    obtain ⟨⟨r0, r1, r2, r3, r4⟩, rf⟩ := HX3.out.cells
                    have z0 := rf 0
                    have z1 := rf 1
                    have z2 := rf 2
                    have z3 := rf 3
                    have z4 := rf 4
                    obtain ⟨Z, eZ, hk, ho, hrd, hkb⟩ := HX3.out.store hrb (.bool false) (.slice none 0 0) (.int .i64 0) (.slice none 0 0) (.int .u8 0)
                    have HO := hide ho
                    have HK := hide hk
                    have HRD := hide hrd
                    have HKB := hide hkb
                    clear rf hk ho hrd hkb
                    go_wp2
                    refine bodyPost_ret (v := pieceV false (.slice none 0 0) 0 (.slice none 0 0) 0) (results_cell_row (p := 2) (ty := 155) rfl _ _ w.heap.size _ _ _ _ rfl HO.out Tryz.underlying155 rfl Tryz.infoPiece) rfl ⟨HK.out, _, rfl, by rw [HE.out]; exact ⟨rfl, _, HRD.out⟩⟩
                  | false =>
                    have HSP3 : Hid (bindO (if d.toNat < c.toNat then some (.error (3, q2)) else some (.ok (between c d, q2 + 1))) (fun x => pSpans m f (union s x.1) x.2) = some z) := by
                      show _ = _
                      have h := HSP2.out
                      rw [show pBr m q2 = some (.ok d) by unfold pBr; rw [hgd]; simp [hb]] at h
                      exact h
                    rw [hb] at HAMd
                    clear hb hgd HSP2
                    go_wp2
                    go_quiet ((go_at_call 107; exact Calls.quiet_of (HAMd.out _)))
                    obtain ⟨X5, HW2⟩ : ∃ W2, Hid (W2 = World.drewN X4 nq) := ⟨_, hide rfl⟩
                    rw [← HW2.out]
                    have HX5 : Hid (AtS w rb m q2 g 0 0 X5) := by rw [HW2.out]; exact hide (HX4.out.on hrb (Kept2.drewN (.refl _ _ _)) HX4.out.rd.draw)
                    have HBX5 : Hid (boolsAt X5 L (boolRow s)) := by rw [HW2.out]; exact HBX4
                    clear HW2
                    clear c0 c1
                    obtain ⟨c0, c1, _, _, _⟩ := five_cells HX5.out.rd
                    by_cases hlo : d.toNat < c.toNat
                    · have HE : Hid (y = .error (3, q2)) := by
                        show _ = _
                        have h := HSP3.out
                        rw [if_pos hlo] at h
                        rw [HY.out, ← Option.some.inj h]
                        rfl
                      have hlo2 : (d.toNat : Int) < (c.toNat : Int) := by omega
                      have hlo3 : decide ((d.toNat : Int) < (c.toNat : Int)) = true := by simpa using hlo2
                      go_wp2
                      go_quiet (fail)
                      obtain ⟨X6, HW2⟩ : ∃ W2, Hid (W2 = World.drewN X5 nq) := ⟨_, hide rfl⟩
                      rw [← HW2.out]
                      have HX6 : Hid (AtS w rb m q2 g 0 0 X6) := by rw [HW2.out]; exact hide (HX5.out.on hrb (Kept2.drewN (.refl _ _ _)) HX5.out.rd.draw)
                      have HBX6 : Hid (boolsAt X6 L (boolRow s)) := by rw [HW2.out]; exact HBX5
                      clear HW2
                      clear c0 c1
                      obtain ⟨c0, c1, _, _, _⟩ := five_cells HX6.out.rd
                      obtain ⟨c0, c1, _, _, _⟩ := five_cells HX6.out.rd
                      go_wp2_with fail
                      refine (wrong_any _ rb m q2 g 3 (q2 : Int) 3 q2 rfl rfl HX6.out.rd).mono ?_
                      rintro en wx ⟨rfl, hk3, hr3⟩
                      have HX3 := hide (HX6.out.on hrb hk3 hr3)
                      clear hk3 hr3
                      obtain ⟨⟨r0, r1, r2, r3, r4⟩, rf⟩ := HX3.out.cells
                      have z0 := rf 0
                      have z1 := rf 1
                      have z2 := rf 2
                      have z3 := rf 3
                      have z4 := rf 4
                      obtain ⟨Z, eZ, hk, ho, hrd, hkb⟩ := HX3.out.store hrb (.bool false) (.slice none 0 0) (.int .i64 0) (.slice none 0 0) (.int .u8 0)
                      have HO := hide ho
                      have HK := hide hk
                      have HRD := hide hrd
                      have HKB := hide hkb
                      clear rf hk ho hrd hkb
                      go_wp2
                      refine bodyPost_ret (v := pieceV false (.slice none 0 0) 0 (.slice none 0 0) 0) (results_cell_row (p := 2) (ty := 155) rfl _ _ w.heap.size _ _ _ _ rfl HO.out Tryz.underlying155 rfl Tryz.infoPiece) rfl ⟨HK.out, _, rfl, by rw [HE.out]; exact ⟨rfl, _, HRD.out⟩⟩
                    · have HNX : Hid (Rem m z false (q2 + 1) (union s (between c d)) f) := by
                        have h := HSP3.out
                        rw [if_neg hlo] at h
                        exact hide h
                      have hlo2 : ¬ (d.toNat : Int) < (c.toNat : Int) := by omega
                      have hlo3 : decide ((d.toNat : Int) < (c.toNat : Int)) = false := by simpa using hlo2
                      have hccle : c.toNat ≤ d.toNat + 1 := by omega
                      clear HSP3
                      go_wp2
                      go_quiet (fail)
                      obtain ⟨X6, HW2⟩ : ∃ W2, Hid (W2 = World.drewN X5 nq) := ⟨_, hide rfl⟩
                      rw [← HW2.out]
                      have HX6 : Hid (AtS w rb m q2 g 0 0 X6) := by rw [HW2.out]; exact hide (HX5.out.on hrb (Kept2.drewN (.refl _ _ _)) HX5.out.rd.draw)
                      have HBX6 : Hid (boolsAt X6 L (boolRow s)) := by rw [HW2.out]; exact HBX5
                      clear HW2
                      obtain ⟨k0, k1, _, _, _⟩ := five_cells HX6.out.rd
                      have kf := not_frozen (k := 1) HX6.out.rd
                      obtain ⟨X7, HW2⟩ : ∃ W2, Hid (W2 = World.setCell X6 ⟨rb, 1, none⟩ (.int .i64 ((q2 : Int) + 1))) := ⟨_, hide rfl⟩
                      have HX7 : Hid (AtS w rb m (q2 + 1) g 0 0 X7) := by rw [HW2.out]; exact hide (HX6.out.on hrb (.setT _ _) (HX6.out.rd.on _ (by go_num)))
                      have HBX7 : Hid (boolsAt X7 L (boolRow s)) := by rw [HW2.out]; exact hide (HBX6.out.keep (set_apart _ (by omega)))
                      have hwr : IntKind.i64.wrap ((q2 : Int) + 1) = (q2 : Int) + 1 := wrap_i64_small _ (by omega) (by omega)
                      have eW2 := HW2.out.symm
                      clear HW2
                      clear c0 c1
                      go_wp2
                      go_loopw [11] (fun v wr => ∃ k : Nat, c.toNat ≤ k ∧ k ≤ d.toNat + 1 ∧ v = .int .i64 k ∧ Hid (AtS w rb m (q2 + 1) g 0 0 wr) ∧ Hid (boolsAt wr L (boolRow fun x => s x || (decide (c.toNat ≤ x.toNat) && decide (x.toNat < k))))) (fun v _ => d.toNat + 1 - (intOf v).toNat)
                      case atStart => exact ⟨c.toNat, by omega, by omega, rfl, HX7, by rw [upto_zero]; exact HBX7⟩
                      case round =>
                        obtain ⟨k, hk1, hk2, rfl, HA2, HB2⟩ := hrel
                        by_cases hkd : k ≤ d.toNat
                        · have hkd2 : (k : Int) ≤ (d.toNat : Int) := by omega
                          have h256 : k < 256 := by have := d.toNat_lt; omega
                          have hcell := HB2.out.cell (k := k) (boolRow_get _ h256)
                          have hfz := not_frozen (k := k) HB2.out
                          go_wp2
                          refine ⟨⟨k + 1, by omega, by omega, by go_num, hide (HA2.out.setB hrb hLw _), hide ?_⟩, ?_⟩
                          · have := HB2.out.set k true
                            rw [upto_row h256 hk1] at this
                            exact this
                          · simp [intOf]; omega
                        · obtain rfl : k = d.toNat + 1 := by omega
                          have hkd2 : ¬ ((d.toNat : Int) + 1 ≤ (d.toNat : Int)) := by omega
                          have hB := HB2.out
                          rw [upto_full] at hB
                          have HB3 := hide hB
                          clear hB HB2
                          go_wp2
                          refine ⟨⟨false, (q2 + 1), union s (between c d), f, rfl, HA2, HB3, HNX, by omega⟩, ?_⟩
                          rw [HA2.out.rd.place, HPL.out]
                          omega
                · have HE : Hid (y = .error (1, q2)) := by
                    show _ = _
                    have h := HSP2.out
                    rw [br_bad (fun e he => by rw [List.getElem?_eq_none_iff.2 (by omega)] at he; cases he)] at h
                    rw [HY.out, ← Option.some.inj h]
                    rfl
                  have hne : ((q2 : Int) == m.length) = true := by rw [beq_iff_eq]; omega
                  obtain ⟨c0, c1, _, _, _⟩ := five_cells HX4.out.rd
                  go_wp2
                  go_quiet (fail)
                  obtain ⟨X5, HW2⟩ : ∃ W2, Hid (W2 = World.drewN X4 nq) := ⟨_, hide rfl⟩
                  rw [← HW2.out]
                  have HX5 : Hid (AtS w rb m q2 g 0 0 X5) := by rw [HW2.out]; exact hide (HX4.out.on hrb (Kept2.drewN (.refl _ _ _)) HX4.out.rd.draw)
                  have HBX5 : Hid (boolsAt X5 L (boolRow s)) := by rw [HW2.out]; exact HBX4
                  clear HW2
                  obtain ⟨c0, c1, _, _, _⟩ := five_cells HX5.out.rd
                  go_wp2_with fail
                  refine (wrong_any _ rb m q2 g 1 (q2 : Int) 1 q2 rfl rfl HX5.out.rd).mono ?_
                  rintro en wx ⟨rfl, hk3, hr3⟩
                  have HX3 := hide (HX5.out.on hrb hk3 hr3)
                  clear hk3 hr3
                  obtain ⟨⟨r0, r1, r2, r3, r4⟩, rf⟩ := HX3.out.cells
                  have z0 := rf 0
                  have z1 := rf 1
                  have z2 := rf 2
                  have z3 := rf 3
                  have z4 := rf 4
                  obtain ⟨Z, eZ, hk, ho, hrd, hkb⟩ := HX3.out.store hrb (.bool false) (.slice none 0 0) (.int .i64 0) (.slice none 0 0) (.int .u8 0)
                  have HO := hide ho
                  have HK := hide hk
                  have HRD := hide hrd
                  have HKB := hide hkb
                  clear rf hk ho hrd hkb
                  go_wp2
                  refine bodyPost_ret (v := pieceV false (.slice none 0 0) 0 (.slice none 0 0) 0) (results_cell_row (p := 2) (ty := 155) rfl _ _ w.heap.size _ _ _ _ rfl HO.out Tryz.underlying155 rfl Tryz.infoPiece) rfl ⟨HK.out, _, rfl, by rw [HE.out]; exact ⟨rfl, _, HRD.out⟩⟩
          · have HE : Hid (y = .error (1, p)) := by
              show _ = _
              have h := HS.out
              rw [span_bad (fun d hd => by rw [List.getElem?_eq_none_iff.2 (by omega)] at hd; cases hd)] at h
              rw [HY.out, ← Option.some.inj h]
              rfl
            have hne : ((p : Int) == m.length) = true := by rw [beq_iff_eq]; omega
            obtain ⟨c0, c1, _, _, _⟩ := five_cells HY1.out.rd
            go_wp2
            go_quiet (fail)
            obtain ⟨X1, HW2⟩ : ∃ W2, Hid (W2 = World.drewN Y1 nq) := ⟨_, hide rfl⟩
            rw [← HW2.out]
            have HX1 : Hid (AtS w rb m p g 0 0 X1) := by rw [HW2.out]; exact hide (HY1.out.on hrb (Kept2.drewN (.refl _ _ _)) HY1.out.rd.draw)
            have HBX1 : Hid (boolsAt X1 L (boolRow s)) := by rw [HW2.out]; exact HBY1
            clear HW2
            obtain ⟨c0, c1, _, _, _⟩ := five_cells HX1.out.rd
            go_wp2_with fail
            refine (wrong_any _ rb m p g 1 (p : Int) 1 p rfl rfl HX1.out.rd).mono ?_
            rintro en wx ⟨rfl, hk3, hr3⟩
            have HX3 := hide (HX1.out.on hrb hk3 hr3)
            clear hk3 hr3
            obtain ⟨⟨r0, r1, r2, r3, r4⟩, rf⟩ := HX3.out.cells
            have z0 := rf 0
            have z1 := rf 1
            have z2 := rf 2
            have z3 := rf 3
            have z4 := rf 4
            obtain ⟨Z, eZ, hk, ho, hrd, hkb⟩ := HX3.out.store hrb (.bool false) (.slice none 0 0) (.int .i64 0) (.slice none 0 0) (.int .u8 0)
            have HO := hide ho
            have HK := hide hk
            have HRD := hide hrd
            have HKB := hide hkb
            clear rf hk ho hrd hkb
            go_wp2
            refine bodyPost_ret (v := pieceV false (.slice none 0 0) 0 (.slice none 0 0) 0) (results_cell_row (p := 2) (ty := 155) rfl _ _ w.heap.size _ _ _ _ rfl HO.out Tryz.underlying155 rfl Tryz.infoPiece) rfl ⟨HK.out, _, rfl, by rw [HE.out]; exact ⟨rfl, _, HRD.out⟩⟩

end Go.Proofs.YtndpjdmfkhjiiaaGreatDoor

/- The document's own reader of masks: groups; all pieces. -/
set_option linter.unusedVariables false
set_option linter.unusedSimpArgs false
namespace Go.Proofs.YtndpjdmfkhjiiaaGreatDoor
open Go.RowKit
attribute [local go_sem] bs_size bs_toList bs_append bs_get bs_extract

/-- What Rows does, with so many groups ahead. -/
def rrowsPost (rb : Nat) (m : List UInt8) (y : Except (Nat × Nat) (Tr × Nat × Nat)) (w : World) (e : Ending) (w' : World) : Prop :=
  Kept2 rb rb w w' ∧ ∃ v k ys, e = .returned v ∧ w'.ownsRow w.heap.size 153 1 v k ys ∧ match y with
    | .error x => ∃ j h, readerAt w' rb m j h x.1 x.2
    | .ok x => cellsAt w' (fun b => w.heap.size ≤ b ∧ v.ownBlock ≠ some b) x.1 ys ∧ readerAt w' rb m x.2.1 x.2.2 0 0
def RRowsOK (m : List UInt8) (f : Nat) : Prop :=
  ∀ (w : World) (rb i g : Nat) (y : Except (Nat × Nat) (Tr × Nat × Nat)), readerAt w rb m i g 0 0 → i ≤ m.length → g ≤ 9 → pM m f true i g = some y →
    Calls Tryz.prog 74 #[.pointer (some ⟨rb, 0, none⟩)] w (rrowsPost rb m y w)

/-- A piece without its sign. -/
def aOut (m : List UInt8) (f i g : Nat) (c : UInt8) : Out (Item × Nat × Nat) :=
  if c.toNat = 40 then
    if g = 9 then some (.error (2, i))
    else bindO (pM m f true (i + 1) (g + 1)) fun x => if isAt m x.2.1 41 then some (.ok (.grp g x.1 0, x.2.1 + 1, x.2.2)) else some (.error (1, x.2.1))
  else bindO (pSet m i c) fun x => some (.ok (.set x.1 0, x.2, g))
def apost (rb : Nat) (m : List UInt8) (y : Except (Nat × Nat) (Item × Nat × Nat)) (w : World) (e : Ending) (w' : World) : Prop :=
  Kept2 rb rb w w' ∧ ∃ (gr : Bool) (so : Option Addr) (sn sc : Nat) (nm : Int) (ro : Option Addr) (rn rc : Nat), e = .returned (pieceV gr (.slice so sn sc) nm (.slice ro rn rc) 0) ∧ match y with
    | .error x => ∃ j h, readerAt w' rb m j h x.1 x.2
    | .ok x => itemAt w' (fun b => w.heap.size ≤ b) x.1 (pieceC5 gr (.slice so sn sc) nm (.slice ro rn rc) 0) ∧ readerAt w' rb m x.2.1 x.2.2 0 0
theorem apost_of {rb : Nat} {m : List UInt8} {g : Nat} {y : Except (Nat × Nat) ((UInt8 → Bool) × Nat)} {w : World} {e : Ending} {w' : World} (h : ratomPost rb m g y w e w') :
    apost rb m (match y with | .error x => .error x | .ok x => .ok (.set x.1 0, x.2, g)) w e w' := by
  obtain ⟨h1, v, rfl, h2⟩ := h
  refine ⟨h1, ?_⟩
  cases y with
  | error x =>
    obtain ⟨rfl, j, h3⟩ := h2
    exact ⟨false, none, 0, 0, 0, none, 0, 0, rfl, j, g, h3⟩
  | ok x =>
    obtain ⟨sv, rfl, ⟨b, rfl, hb, hs⟩, h3⟩ := h2
    exact ⟨false, some ⟨b, 0, none⟩, 256, 256, 0, none, 0, 0, rfl, ⟨b, rfl, hb, hs⟩, h3⟩

set_option maxRecDepth 20000 in
set_option maxHeartbeats 4000000 in
theorem ratom_group (w : World) (rb : Nat) (m : List UInt8) (i g : Nat) (c : UInt8) (hr : readerAt w rb m i g 0 0) (hc : m[i]? = some c) (hm : m.length ≤ 1000) (hq : c.toNat = 40) {f : Nat} (hf : RRowsOK m f) (hg : g ≤ 9) (y : Except (Nat × Nat) (Item × Nat × Nat)) (hy : aOut m f i g c = some y) :
    Calls Tryz.prog 106 #[.pointer (some ⟨rb, 0, none⟩)] w (apost rb m y w) := by
  have hrb := lt_of_block hr
  have hi := get_lt hc
  have hget : m[i] = c := by rw [List.getElem?_eq_getElem hi] at hc; exact Option.some.inj hc
  have HI40 : Hid (isAt m i 40 = true) := by show _ = _; simp [isAt, hc, hq]
  have HI46 : Hid (isAt m i 46 = false) := by show _ = _; simp [isAt, hc]; omega
  have HI92 : Hid (isAt m i 92 = false) := by show _ = _; simp [isAt, hc]; omega
  have HI91 : Hid (isAt m i 91 = false) := by show _ = _; simp [isAt, hc]; omega
  obtain ⟨A, HA⟩ : ∃ A, Hid (A = w.alloc (.cells pieceZ 155)) := ⟨_, hide rfl⟩
  have hA := AtS.first hr HA.out
  obtain ⟨c0, c1, c2, c3, c4⟩ := five_cells hA.rd
  have HAS : Hid (∀ n, AtS w rb m i g 0 0 (A.drewN n)) := hide fun n => ⟨hA.kept.drewN, hA.size, hA.out, hA.rd⟩
  have eA := HA.out.symm
  have HY : Hid ((if g = 9 then some (.error (2, i)) else bindO (pM m f true (i + 1) (g + 1)) fun x => if isAt m x.2.1 41 then some (.ok (.grp g x.1 0, x.2.1 + 1, x.2.2)) else some (.error (1, x.2.1))) = some y) := by
    show _ = _
    rw [← hy]
    unfold aOut
    rw [if_pos hq]
  clear hr hc HA hA c2 c3 c4 hq hy
  go_enter Tryz.func106, Tryz.ntmps106
  go_wp2
  go_quiet (fail)
  have H0 := hide (HAS.out nq)
  clear eA HAS c0 c1
  go_wp2_with fail
  refine (rmay_any _ rb m i g 0 0 46 46 rfl (by decide) (by omega) H0.out.rd).mono ?_
  rintro en w1 ⟨rfl, hk, hr1⟩
  have h1 := H0.out.on hrb hk hr1
  rw [HI46.out] at h1 ⊢
  simp only [onIf] at h1
  have H1 := hide h1
  clear hk hr1 h1 H0
  go_wp2_with fail
  refine (rmay_any _ rb m i g 0 0 92 92 rfl (by decide) (by omega) H1.out.rd).mono ?_
  rintro en w2 ⟨rfl, hk, hr1⟩
  have h1 := H1.out.on hrb hk hr1
  rw [HI92.out] at h1 ⊢
  simp only [onIf] at h1
  have H2 := hide h1
  clear hk hr1 h1 H1
  go_wp2_with fail
  refine (rmay_any _ rb m i g 0 0 91 91 rfl (by decide) (by omega) H2.out.rd).mono ?_
  rintro en w3 ⟨rfl, hk, hr1⟩
  have h1 := H2.out.on hrb hk hr1
  rw [HI91.out] at h1 ⊢
  simp only [onIf] at h1
  have H3 := hide h1
  clear hk hr1 h1 H2
  go_wp2_with fail
  refine (ris_any _ rb m i g 0 0 40 40 rfl (by decide) H3.out.rd).mono ?_
  rintro en w4 ⟨rfl, nd, rfl⟩
  have h1 := H3.out.on hrb (Kept2.drewN (n := nd) (.refl _ _ _)) H3.out.rd.draw
  rw [HI40.out]
  obtain ⟨W4, HW4⟩ : ∃ W4, Hid (W4 = World.drewN w3 nd) := ⟨_, hide rfl⟩
  rw [← HW4.out] at h1 ⊢
  have H4 := hide h1
  clear h1 H3 HW4
  obtain ⟨k0, k1, k2, k3, k4⟩ := five_cells H4.out.rd
  by_cases h9 : g = 9
  · have HE : Hid (y = .error (2, i)) := by
      show _ = _
      have h := HY.out
      rw [if_pos h9] at h
      exact (Option.some.inj h).symm
    have h92 : ((g : Int) == 9) = true := by simp [h9]
    clear h9 HY
    go_wp2_with fail
    refine (wrong_any _ rb m i g 2 (i : Int) 2 i rfl rfl H4.out.rd).mono ?_
    rintro en w6 ⟨rfl, hk3, hr3⟩
    have H6 := hide (H4.out.on hrb hk3 hr3)
    clear hk3 hr3
    obtain ⟨⟨r0, r1, r2, r3, r4⟩, rf⟩ := H6.out.cells
    have z0 := rf 0
    have z1 := rf 1
    have z2 := rf 2
    have z3 := rf 3
    have z4 := rf 4
    obtain ⟨Z, eZ, hk, ho, hrd, hkb⟩ := H6.out.store hrb (.bool false) (.slice none 0 0) (.int .i64 0) (.slice none 0 0) (.int .u8 0)
    have HO := hide ho
    have HK := hide hk
    have HRD := hide hrd
    have HKB := hide hkb
    clear rf hk ho hrd hkb
    go_wp2
    refine bodyPost_ret (v := pieceV false (.slice none 0 0) 0 (.slice none 0 0) 0) (results_cell_row (p := 2) (ty := 155) rfl _ _ w.heap.size _ _ _ _ rfl HO.out Tryz.underlying155 rfl Tryz.infoPiece) rfl ⟨HK.out, false, none, 0, 0, 0, none, 0, 0, rfl, by rw [HE.out]; exact ⟨i, g, HRD.out⟩⟩
  · have h92 : ((g : Int) == 9) = false := by simp; omega
    have HY2 : Hid (bindO (pM m f true (i + 1) (g + 1)) (fun x => if isAt m x.2.1 41 then some (.ok (.grp g x.1 0, x.2.1 + 1, x.2.2)) else some (.error (1, x.2.1))) = some y) := by
      have h := HY.out
      rw [if_neg h9] at h
      exact hide h
    have HG9 := hide h9
    clear h9 HY
    have kf1 := not_frozen (k := 1) H4.out.rd
    have kf2 := not_frozen (k := 2) H4.out.rd
    obtain ⟨W5, HW5⟩ : ∃ W5, Hid (W5 = (W4.setCell ⟨rb, 1, none⟩ (.int .i64 ((i : Int) + 1))).setCell ⟨rb, 2, none⟩ (.int .i64 ((g : Int) + 1))) := ⟨_, hide rfl⟩
    have hr5 : readerAt W5 rb m (i + 1) (g + 1) 0 0 := by
      unfold readerAt
      rw [HW5.out, set_blk (set_blk H4.out.rd _)]
      rfl
    have h5 : AtS w rb m (i + 1) (g + 1) 0 0 W5 := H4.out.on hrb (by rw [HW5.out]; exact (Kept2.setT _ _).trans (Kept2.setT _ _)) hr5
    have H5 := hide h5
    have hwr : IntKind.i64.wrap ((i : Int) + 1) = (i : Int) + 1 := wrap_i64_small _ (by omega) (by omega)
    have hwr2 : IntKind.i64.wrap ((g : Int) + 1) = (g : Int) + 1 := wrap_i64_small _ (by omega) (by omega)
    have eW5 := HW5.out.symm
    obtain ⟨m0, m1, m2, m3, m4⟩ := five_cells hr5
    have hs5 := h5.size
    clear hr5 h5 H4 HW5
    go_wp2_with fail
    clear eW5 k0 k1 k2 k3 k4 kf1 kf2 m0 m1 m3 m4
    rcases bindO_eq HY2.out with ⟨x, hx, rfl⟩ | ⟨x, hx, hy3⟩
    · refine (hf W5 rb (i + 1) (g + 1) _ H5.out.rd (by omega) (by have := HG9.out; omega) hx).mono ?_
      rintro en w6 ⟨hk6, v6, k6, ys6, rfl, ho6, j6, g6, hr6⟩
      obtain ⟨ao6, cp6, rfl⟩ := own_shape ho6
      have hxe := eM hx
      have H6 := hide (H5.out.on hrb hk6 hr6)
      clear hk6 hr6 ho6 hx
      obtain ⟨n0, n1, n2, n3, n4⟩ := five_cells H6.out.rd
      have hxn : ((x.1 : Int) == 0) = false := by simp; omega
      obtain ⟨⟨r0, r1, r2, r3, r4⟩, rf⟩ := H6.out.cells
      have z0 := rf 0
      have z1 := rf 1
      have z2 := rf 2
      have z3 := rf 3
      have z4 := rf 4
      obtain ⟨Z, eZ, hk, ho, hrd, hkb⟩ := H6.out.store hrb (.bool true) (.slice none 0 0) (.int .i64 ((g : Int) + 1)) (.slice ao6 k6 cp6) (.int .u8 0)
      have HO := hide ho
      have HK := hide hk
      have HRD := hide hrd
      have HKB := hide hkb
      clear rf hk ho hrd hkb
      go_wp2
      refine bodyPost_ret (v := pieceV true (.slice none 0 0) ((g : Int) + 1) (.slice ao6 k6 cp6) 0) (results_cell_row (p := 2) (ty := 155) rfl _ _ w.heap.size _ _ _ _ rfl HO.out Tryz.underlying155 rfl Tryz.infoPiece) rfl ⟨HK.out, true, none, 0, 0, ((g : Int) + 1), ao6, k6, cp6, rfl, j6, g6, HRD.out⟩
    · have hxo := pM_ok hx (by omega)
      refine (hf W5 rb (i + 1) (g + 1) _ H5.out.rd (by omega) (by have := HG9.out; omega) hx).mono ?_
      rintro en w6 ⟨hk6, v6, k6, ys6, rfl, ho6, hc6, hr6⟩
      have HY3 := hide hy3
      obtain ⟨T, j, h⟩ := x
      simp only at hc6 hr6 hxo
      have H6 := hide (H5.out.on hrb hk6 hr6)
      have HO6 := hide ho6
      have HC6 := hide hc6
      have hs6 := hk6.size
      obtain ⟨ao6, cp6, rfl⟩ := own_shape ho6
      clear hk6 hr6 ho6 hc6 hy3 hx
      obtain ⟨n0, n1, n2, n3, n4⟩ := five_cells H6.out.rd
      go_wp2_with fail
      refine (rmay_any _ rb m j h 0 0 41 41 rfl (by decide) (by omega) H6.out.rd).mono ?_
      rintro en w7 ⟨rfl, hk7, hr7⟩
      have h7 := H6.out.on hrb hk7 hr7
      have hko : ∀ b, W5.heap.size ≤ b → b < w6.heap.size → w7.heap[b]? = w6.heap[b]? := fun b h1 h2 => hk7.block b h2 (by omega) (by omega)
      have HO7 : Hid (w7.ownsRow W5.heap.size 153 1 (.slice ao6 k6 cp6) k6 ys6) := hide (own_keep HO6.out fun b hb => hko b (HO6.out.lt b hb).1 (HO6.out.lt b hb).2)
      have HC7 : Hid (cellsAt w7 (fun b => W5.heap.size ≤ b ∧ (Value.slice ao6 k6 cp6).ownBlock ≠ some b) T ys6) := hide (HC6.out.keep fun b hb ha => ⟨ha, hko b ha.1 hb⟩)
      have hs7 := hk7.size
      clear hk7 hr7 hko H6
      obtain ⟨bo, HBO⟩ : ∃ bo, Hid (isAt m j 41 = bo) := ⟨_, hide rfl⟩
      rw [HBO.out] at h7 ⊢
      have HY4 : Hid ((if bo then some (.ok (.grp g T 0, j + 1, h)) else some (.error (1, j))) = some y) := by
        have hh := HY3.out
        rw [HBO.out] at hh
        exact hide hh
      cases bo with
      | true =>
        simp only [onIf] at h7
        have H7 := hide h7
        have HE : Hid (y = .ok (.grp g T 0, j + 1, h)) := hide (Option.some.inj HY4.out).symm
        clear h7
        obtain ⟨⟨r0, r1, r2, r3, r4⟩, rf⟩ := H7.out.cells
        have z0 := rf 0
        have z1 := rf 1
        have z2 := rf 2
        have z3 := rf 3
        have z4 := rf 4
        obtain ⟨Z, eZ, hk, ho, hrd, hkb⟩ := H7.out.store hrb (.bool true) (.slice none 0 0) (.int .i64 ((g : Int) + 1)) (.slice ao6 k6 cp6) (.int .u8 0)
        have HO := hide ho
        have HK := hide hk
        have HRD := hide hrd
        have HKB := hide hkb
        clear rf hk ho hrd hkb
        have HO8 : Hid (Z.ownsRow w.heap.size 153 1 (.slice ao6 k6 cp6) k6 ys6) := hide (own_le (own_keep HO7.out fun b hb => HKB.out b (by have := (HO7.out.lt b hb).1; omega)) (by omega))
        have HC8 : Hid (cellsAt Z (fun b => w.heap.size ≤ b) T ys6) := hide (HC7.out.keep fun b hb ha => ⟨by omega, HKB.out b (by omega)⟩)
        go_wp2
        refine bodyPost_ret (v := pieceV true (.slice none 0 0) ((g : Int) + 1) (.slice ao6 k6 cp6) 0) (results_cell_row (p := 2) (ty := 155) rfl _ _ w.heap.size _ _ _ _ rfl HO.out Tryz.underlying155 rfl Tryz.infoPiece) rfl ⟨HK.out, true, none, 0, 0, ((g : Int) + 1), ao6, k6, cp6, rfl, by rw [HE.out]; exact ⟨⟨_, _, _, rfl, own_le HO8.out (by omega), fun b hb => (HO8.out.lt b hb).1, HC8.out⟩, HRD.out⟩⟩
      | false =>
        simp only [onIf] at h7
        have H7 := hide h7
        have HE : Hid (y = .error (1, j)) := hide (Option.some.inj HY4.out).symm
        clear h7
        obtain ⟨o0, o1, o2, o3, o4⟩ := five_cells H7.out.rd
        go_wp2_with fail
        refine (wrong_any _ rb m j h 1 (j : Int) 1 j rfl rfl H7.out.rd).mono ?_
        rintro en w8 ⟨rfl, hk3, hr3⟩
        have H8 := hide (H7.out.on hrb hk3 hr3)
        clear hk3 hr3
        obtain ⟨⟨r0, r1, r2, r3, r4⟩, rf⟩ := H8.out.cells
        have z0 := rf 0
        have z1 := rf 1
        have z2 := rf 2
        have z3 := rf 3
        have z4 := rf 4
        obtain ⟨Z, eZ, hk, ho, hrd, hkb⟩ := H8.out.store hrb (.bool true) (.slice none 0 0) (.int .i64 ((g : Int) + 1)) (.slice ao6 k6 cp6) (.int .u8 0)
        have HO := hide ho
        have HK := hide hk
        have HRD := hide hrd
        have HKB := hide hkb
        clear rf hk ho hrd hkb
        go_wp2
        refine bodyPost_ret (v := pieceV true (.slice none 0 0) ((g : Int) + 1) (.slice ao6 k6 cp6) 0) (results_cell_row (p := 2) (ty := 155) rfl _ _ w.heap.size _ _ _ _ rfl HO.out Tryz.underlying155 rfl Tryz.infoPiece) rfl ⟨HK.out, true, none, 0, 0, ((g : Int) + 1), ao6, k6, cp6, rfl, by rw [HE.out]; exact ⟨j, h, HRD.out⟩⟩

end Go.Proofs.YtndpjdmfkhjiiaaGreatDoor
