/- 4 texts in one. -/
import Derived.Test.YtndpjdmfkhjiiaaGreatDoorProg
import Derived.Test.YtndpjdmfkhjiiaaGreatDoorK06d19db
import Derived.Test.YtndpjdmfkhjiiaaGreatDoorKb583056
import Derived.Test.YtndpjdmfkhjiiaaGreatDoorKf25e925
import Derived.Test.YtndpjdmfkhjiiaaGreatDoorKbcd5023
import Derived.Test.YtndpjdmfkhjiiaaGreatDoorKb639f27
import Derived.Test.YtndpjdmfkhjiiaaGreatDoorKab9fbe2
import Derived.Test.YtndpjdmfkhjiiaaGreatDoorK98fb42d
import Derived.Test.YtndpjdmfkhjiiaaGreatDoorKf8fa243
import Derived.Test.YtndpjdmfkhjiiaaGreatDoorK0690efd
import Derived.BigQuiet
import Derived.Test.YtndpjdmfkhjiiaaGreatDoorKa585d5f
import Derived.Laws.OwnMore
set_option linter.unusedVariables false
set_option linter.unusedSimpArgs false
namespace Go.Proofs.YtndpjdmfkhjiiaaGreatDoor
open Go.RowKit
attribute [local go_sem] bs_size bs_toList bs_append bs_get bs_extract
theorem wrap64_byte (c : UInt8) : wrap64 (c.toNat : Int) = (c.toNat : Int) := by
 have := c.toNat_lt
 unfold wrap64
 omega
def placeR (w : World) (rb : Nat) : Nat := match w.heap[rb]? with | some (.cells c _ _) => (intOf (c.getD 1 undef)).toNat | _ => 0
theorem readerAt.place {w : World} {rb : Nat} {m : List UInt8} {i g e a : Nat} (h : readerAt w rb m i g e a) : placeR w rb = i := by
 unfold readerAt at h
 simp [placeR, h, intOf]
def outOf (neg : Bool) : Except (Nat × Nat) ((UInt8 → Bool) × Nat) → Except (Nat × Nat) ((UInt8 → Bool) × Nat)
 | .error e => .error e
 | .ok x => .ok (if neg then butAll x.1 else x.1, x.2)
theorem brackets_out {m : List UInt8} {i : Nat} {y} (h : pBrackets m i = some y) : ∃ z, bindO (pSpan m (onIf (isAt m i 94) i)) (fun x => pSpans m (m.length + 1) (union (fun _ => false) x.1) x.2) = some z ∧ y = outOf (isAt m i 94) z := by
 have hj : (if isAt m i 94 = true then i + 1 else i) = onIf (isAt m i 94) i := by cases isAt m i 94 <;> rfl
 have hu : ∀ s : UInt8 → Bool, union (fun _ => false) s = s := fun s => by funext x; simp [union]
 unfold pBrackets at h
 simp only [hj] at h
 simp only [hu]
 rw [← bindO_assoc] at h
 rcases bindO_eq h with ⟨e, he, rfl⟩ | ⟨x, hx, h⟩
 ·
  exact ⟨_, he, rfl⟩
 ·
  cases h
  exact ⟨_, hx, rfl⟩
def Rem (m : List UInt8) (z : Except (Nat × Nat) ((UInt8 → Bool) × Nat)) (first : Bool) (p : Nat) (s : UInt8 → Bool) (f : Nat) : Prop :=
 match first with
 | true => bindO (pSpan m p) (fun x => pSpans m f (union s x.1) x.2) = some z
 | false => pSpans m f s p = some z
theorem upto_row {s : UInt8 → Bool} {a k : Nat} (h : k < 256) (ha : a ≤ k) : (boolRow fun x => s x || (decide (a ≤ x.toNat) && decide (x.toNat < k))).set k true = boolRow fun x => s x || (decide (a ≤ x.toNat) && decide (x.toNat < k + 1)) := by
 rw [boolRow_set _ _ h]
 congr 1
 funext x
 by_cases e : x.toNat = k
 ·
  simp [e, ha]
 ·
  have : x.toNat < k ↔ x.toNat < k + 1 := by omega
  simp [e, this]
theorem upto_zero (s : UInt8 → Bool) (a : UInt8) : (fun x : UInt8 => s x || (decide (a.toNat ≤ x.toNat) && decide (x.toNat < a.toNat))) = s := by
 funext x
 by_cases h : a.toNat ≤ x.toNat
 ·
  have : ¬ x.toNat < a.toNat := by omega
  simp [this]
 ·
  simp [h]
theorem upto_full (s : UInt8 → Bool) (a b : UInt8) : (fun x : UInt8 => s x || (decide (a.toNat ≤ x.toNat) && decide (x.toNat < b.toNat + 1))) = union s (between a b) := by
 funext x
 have : x.toNat < b.toNat + 1 ↔ x.toNat ≤ b.toNat := by omega
 simp [union, between, this]
def turned (s : UInt8 → Bool) (neg : Bool) (k : Nat) : UInt8 → Bool := fun x => if x.toNat < k then (s x != neg) else s x
theorem turned_row {s : UInt8 → Bool} {neg : Bool} {k : Nat} (h : k < 256) : (boolRow (turned s neg k)).set k (s (UInt8.ofNat k) != neg) = boolRow (turned s neg (k + 1)) := by
 rw [boolRow_set _ _ h]
 congr 1
 funext x
 unfold turned
 by_cases e : x.toNat = k
 ·
  have hx : x = UInt8.ofNat k := by rw [← e, UInt8.ofNat_toNat]
  simp [e, ← hx]
 ·
  have : x.toNat < k ↔ x.toNat < k + 1 := by omega
  simp [e, this]
theorem turned_get {s : UInt8 → Bool} {neg : Bool} {k : Nat} (h : k < 256) : (boolRow (turned s neg k))[k]? = some (s (UInt8.ofNat k)) := by
 rw [boolRow_get _ h]
 simp [turned, Nat.mod_eq_of_lt h]
theorem turned_zero (s : UInt8 → Bool) (neg : Bool) : turned s neg 0 = s := by funext x; simp [turned]
theorem turned_all (s : UInt8 → Bool) (neg : Bool) : turned s neg 256 = if neg = true then butAll s else s := by
 funext x
 have := x.toNat_lt
 unfold turned
 rw [if_pos this]
 cases neg <;> simp [butAll]
theorem span_at {m : List UInt8} {p : Nat} {c : UInt8} (h : m[p]? = some c) (hb : badIn c = false) : pSpan m p = if isAt m (p + 1) 45 then bindO (pBr m (p + 2)) fun b => if b.toNat < c.toNat then some (.error (3, p + 2)) else some (.ok (between c b, p + 3)) else some (.ok (between c c, p + 1)) := by
 unfold pSpan
 have : pBr m p = some (.ok c) := by unfold pBr; rw [h]; simp [hb]
 rw [this]
 rfl
theorem span_bad {m : List UInt8} {p : Nat} (h : ∀ c, m[p]? = some c → badIn c = true) : pSpan m p = some (.error (1, p)) := by
 unfold pSpan
 have : pBr m p = some (.error (1, p)) := by
  unfold pBr
  cases hc : m[p]? with
  | none => rfl
  | some c => simp [h c hc]
 rw [this]
 rfl
theorem br_bad {m : List UInt8} {p : Nat} (h : ∀ c, m[p]? = some c → badIn c = true) : pBr m p = some (.error (1, p)) := by
 unfold pBr
 cases hc : m[p]? with
 | none => rfl
 | some c => simp [h c hc]
set_option maxRecDepth 20000 in
set_option maxHeartbeats 4000000 in
theorem ratom_brackets (w : World) (rb : Nat) (m : List UInt8) (i g : Nat) (c : UInt8) (hr : readerAt w rb m i g 0 0) (hc : m[i]? = some c) (hm : m.length ≤ 1000) (hq : c.toNat = 91) (y : Except (Nat × Nat) ((UInt8 → Bool) × Nat)) (hy : pSet m i c = some y) :
  Calls Tryz.prog 106 #[.pointer (some ⟨rb, 0, none⟩)] w (ratomPost rb m g y w) := by
 have hrb := lt_of_block hr
 have hi := get_lt hc
 have hget : m[i] = c := by rw [List.getElem?_eq_getElem hi] at hc; exact Option.some.inj hc
 have HI91 : Hid (isAt m i 91 = true) := by show _ = _; simp [isAt, hc, hq]
 have HI46 : Hid (isAt m i 46 = false) := by show _ = _; simp [isAt, hc]; omega
 have HI92 : Hid (isAt m i 92 = false) := by show _ = _; simp [isAt, hc]; omega
 obtain ⟨A, HA⟩ : ∃ A, Hid (A = w.alloc (.cells pieceZ 155)) := ⟨_, hide rfl⟩
 have hA := AtS.first hr HA.out
 obtain ⟨c0, c1, c2, c3, c4⟩ := five_cells hA.rd
 have HAS : Hid (∀ n, AtS w rb m i g 0 0 (A.drewN n)) := hide fun n => ⟨hA.kept.drewN, hA.size, hA.out, hA.rd⟩
 have eA := HA.out.symm
 obtain ⟨j, hj⟩ : ∃ j, i + 1 = j := ⟨_, rfl⟩
 have hy2 : pBrackets m j = some y := by
  rw [← hy, ← hj]
  simp [pSet, hq]
 obtain ⟨z, hz, hyz⟩ := brackets_out hy2
 have HZ := hide hz
 have HY := hide hyz
 clear hr hc HA hA c2 c3 c4 hq hy hy2 hz hyz
 go_enter Tryz.func106, Tryz.ntmps106
 go_wp2
 go_quiet (fail)
 have H0 := hide (HAS.out nq)
 clear eA HAS c0 c1
 go_wp2_with fail
 refine (rmay_any _ rb m i g 0 0 46 46 rfl (by decide) (by omega) H0.out.rd).mono ?_
 rintro en w1 ⟨rfl, hk, hr1⟩
 have h1 := H0.out.on hrb hk hr1
 rw [HI46.out] at h1 ⊢
 simp only [onIf] at h1
 have H1 := hide h1
 clear hk hr1 h1 H0
 go_wp2_with fail
 refine (rmay_any _ rb m i g 0 0 92 92 rfl (by decide) (by omega) H1.out.rd).mono ?_
 rintro en w2 ⟨rfl, hk, hr1⟩
 have h1 := H1.out.on hrb hk hr1
 rw [HI92.out] at h1 ⊢
 simp only [onIf] at h1
 have H2 := hide h1
 clear hk hr1 h1 H1
 go_wp2_with fail
 refine (rmay_any _ rb m i g 0 0 91 91 rfl (by decide) (by omega) H2.out.rd).mono ?_
 rintro en w3 ⟨rfl, hk, hr1⟩
 have h1 := H2.out.on hrb hk hr1
 rw [HI91.out] at h1 ⊢
 simp only [onIf] at h1
 have H3 := hide h1
 clear hk hr1 h1 H2
 rw [hj] at H3
 go_wp2_with fail
 refine (rmay_any _ rb m j g 0 0 94 94 rfl (by decide) (by omega) H3.out.rd).mono ?_
 rintro en w4 ⟨rfl, hk, hr1⟩
 have h4 := H3.out.on hrb hk hr1
 have HJ : Hid (onIf (isAt m j 94) j ≤ m.length) := by
  show _ ≤ _
  cases hb : isAt m j 94 with
  | true => have := isAt_lt hb; simp only [onIf]; omega
  | false => simp only [onIf]; omega
 obtain ⟨neg, HNG⟩ : ∃ neg, Hid (isAt m j 94 = neg) := ⟨_, hide rfl⟩
 rw [HNG.out] at HY HZ HJ h4 ⊢
 generalize onIf neg j = j0 at HZ HJ h4
 obtain ⟨W1, hmk, hg1, hs1, hb1⟩ := made_row w4
 have h5 := h4.grow hrb hg1
 have hLw := h4.size
 obtain ⟨L, hL⟩ : ∃ L, w4.heap.size = L := ⟨_, rfl⟩
 rw [hL] at hmk hb1 hLw
 have H5 := hide h5
 have HB5 := hide hb1
 clear hk hr1 h4 hg1 hb1 h5 H3
 go_wp2
 go_loopw [8] (fun fv wr => ∃ (first : Bool) (p : Nat) (s : UInt8 → Bool) (f : Nat), fv = .bool first ∧ Hid (AtS w rb m p g 0 0 wr) ∧ Hid (boolsAt wr L (boolRow s)) ∧ Hid (Rem m z first p s f) ∧ p ≤ m.length) (fun _ wr => m.length - placeR wr rb)
 case atStart => exact ⟨true, j0, fun _ => false, m.length + 1, rfl, H5, HB5, HZ, HJ.out⟩
 case round =>
  obtain ⟨first, p, s, f, rfl, HX, HBX, HR, hple⟩ := hrel
  rename World => X
  have HPL : Hid (placeR X rb = p) := HX.out.rd.place
  cases first with
  | true =>
   have HS : Hid (bindO (pSpan m p) (fun x => pSpans m f (union s x.1) x.2) = some z) := HR
   clear HR
   by_cases hclt : p < m.length
   ·
    obtain ⟨c, hc⟩ : ∃ c, m[p] = c := ⟨_, rfl⟩
    have hclt2 : (p : Int) < m.length := by omega
    have hcne : ((p : Int) == m.length) = false := by rw [beq_eq_false_iff_ne]; omega
    have hwc : wrap64 (c.toNat : Int) = (c.toNat : Int) := wrap64_byte c
    have hgc : m[p]? = some c := by rw [List.getElem?_eq_getElem hclt, hc]
    have HAMc : Hid (∀ n, Calls Tryz.prog 107 #[.pointer (some ⟨rb, 0, none⟩), .string { data := #[91, 93, 92, 94, 45] }] (X.drewN n) fun e w' => e = .returned (.bool (badIn c)) ∧ ∃ k, w' = (X.drewN n).drewN k) := by
     refine hide fun n => ?_
     have h := ramong_any (X.drewN n) rb m [91, 93, 92, 94, 45] p g 0 0 (by decide) HX.out.rd.draw
     rw [comesB_bad hgc] at h
     exact h
    obtain ⟨c0, c1, _, _, _⟩ := five_cells HX.out.rd
    cases hb : badIn c with
    | true =>
     have HE : Hid (y = .error (1, p)) := by
      show _ = _
      have h := HS.out
      rw [span_bad (fun d hd => by rw [hgc] at hd; cases hd; exact hb)] at h
      rw [HY.out, ← Option.some.inj h]
      rfl
     rw [hb] at HAMc
     clear hb hgc
     go_wp2
     go_quiet ((go_at_call 107; exact Calls.quiet_of (HAMc.out _)))
     obtain ⟨X1, HW2⟩ : ∃ W2, Hid (W2 = World.drewN X nq) := ⟨_, hide rfl⟩
     rw [← HW2.out]
     have HX1 : Hid (AtS w rb m p g 0 0 X1) := by rw [HW2.out]; exact hide (HX.out.on hrb (Kept2.drewN (.refl _ _ _)) HX.out.rd.draw)
     have HBX1 : Hid (boolsAt X1 L (boolRow s)) := by rw [HW2.out]; exact HBX
     clear HW2
     obtain ⟨c0, c1, _, _, _⟩ := five_cells HX1.out.rd
     go_wp2_with fail
     refine (wrong_any _ rb m p g 1 (p : Int) 1 p rfl rfl HX1.out.rd).mono ?_
     rintro en wx ⟨rfl, hk3, hr3⟩
     have HX3 := hide (HX1.out.on hrb hk3 hr3)
     clear hk3 hr3
     obtain ⟨⟨r0, r1, r2, r3, r4⟩, rf⟩ := HX3.out.cells
     have z0 := rf 0
     have z1 := rf 1
     have z2 := rf 2
     have z3 := rf 3
     have z4 := rf 4
     obtain ⟨Z, eZ, hk, ho, hrd, hkb⟩ := HX3.out.store hrb (.bool false) (.slice none 0 0) (.int .i64 0) (.slice none 0 0) (.int .u8 0)
     have HO := hide ho
     have HK := hide hk
     have HRD := hide hrd
     have HKB := hide hkb
     clear rf hk ho hrd hkb
     go_wp2
     refine bodyPost_ret (v := pieceV false (.slice none 0 0) 0 (.slice none 0 0) 0) (results_cell_row (p := 2) (ty := 155) rfl _ _ w.heap.size _ _ _ _ rfl HO.out Tryz.underlying155 rfl Tryz.infoPiece) rfl ⟨HK.out, _, rfl, by rw [HE.out]; exact ⟨rfl, _, HRD.out⟩⟩
    | false =>
     have HSP : Hid (bindO (if isAt m (p + 1) 45 then bindO (pBr m (p + 2)) fun b => if b.toNat < c.toNat then some (.error (3, p + 2)) else some (.ok (between c b, p + 3)) else some (.ok (between c c, p + 1))) (fun x => pSpans m f (union s x.1) x.2) = some z) := by
      show _ = _
      have h := HS.out
      rw [span_at hgc hb] at h
      exact h
     rw [hb] at HAMc
     clear hb hgc HS
     go_wp2
     go_quiet ((go_at_call 107; exact Calls.quiet_of (HAMc.out _)))
     obtain ⟨X1, HW2⟩ : ∃ W2, Hid (W2 = World.drewN X nq) := ⟨_, hide rfl⟩
     rw [← HW2.out]
     have HX1 : Hid (AtS w rb m p g 0 0 X1) := by rw [HW2.out]; exact hide (HX.out.on hrb (Kept2.drewN (.refl _ _ _)) HX.out.rd.draw)
     have HBX1 : Hid (boolsAt X1 L (boolRow s)) := by rw [HW2.out]; exact HBX
     clear HW2
     clear c0 c1
     obtain ⟨c0, c1, _, _, _⟩ := five_cells HX1.out.rd
     go_wp2
     go_quiet (fail)
     obtain ⟨X2, HW2⟩ : ∃ W2, Hid (W2 = World.drewN X1 nq) := ⟨_, hide rfl⟩
     rw [← HW2.out]
     have HX2 : Hid (AtS w rb m p g 0 0 X2) := by rw [HW2.out]; exact hide (HX1.out.on hrb (Kept2.drewN (.refl _ _ _)) HX1.out.rd.draw)
     have HBX2 : Hid (boolsAt X2 L (boolRow s)) := by rw [HW2.out]; exact HBX1
     clear HW2
     obtain ⟨k0, k1, _, _, _⟩ := five_cells HX2.out.rd
     have kf := not_frozen (k := 1) HX2.out.rd
     obtain ⟨X3, HW2⟩ : ∃ W2, Hid (W2 = World.setCell X2 ⟨rb, 1, none⟩ (.int .i64 ((p : Int) + 1))) := ⟨_, hide rfl⟩
     have HX3 : Hid (AtS w rb m (p + 1) g 0 0 X3) := by rw [HW2.out]; exact hide (HX2.out.on hrb (.setT _ _) (HX2.out.rd.on _ (by go_num)))
     have HBX3 : Hid (boolsAt X3 L (boolRow s)) := by rw [HW2.out]; exact hide (HBX2.out.keep (set_apart _ (by omega)))
     have hwr : IntKind.i64.wrap ((p : Int) + 1) = (p : Int) + 1 := wrap_i64_small _ (by omega) (by omega)
     have eW2 := HW2.out.symm
     clear HW2
     clear c0 c1
     go_wp2_with fail
     clear eW2 k0 k1 kf
     obtain ⟨q, hq⟩ : ∃ q, p + 1 = q := ⟨_, rfl⟩
     rw [hq] at HX3
     rw [show p + 2 = q + 1 by omega, show p + 3 = q + 2 by omega, hq] at HSP
     refine (rmay_any _ rb m q g 0 0 45 45 rfl (by decide) (by omega) HX3.out.rd).mono ?_
     rintro en X4 ⟨rfl, hk4, hr4⟩
     have h4 := HX3.out.on hrb hk4 hr4
     have HBX4 : Hid (boolsAt X4 L (boolRow s)) := hide (HBX3.out.keep (hk4.block L (by have := HX3.out.size; have := lt_of_block HBX3.out; omega) (by omega) (by omega)))
     clear hk4 hr4
     obtain ⟨bo, HBO⟩ : ∃ bo, Hid (isAt m q 45 = bo) := ⟨_, hide rfl⟩
     rw [HBO.out] at h4 HSP ⊢
     cases bo with
     | false =>
      simp only [onIf] at h4
      have HX4 := hide h4
      have HNX : Hid (Rem m z false q (union s (between c c)) f) := by
       have h := HSP.out
       simp only [Bool.false_eq_true, if_false, bindO] at h
       exact hide h
      have hccle : c.toNat ≤ c.toNat + 1 := by omega
      clear h4 HSP
      go_wp2
      go_loopw [11] (fun v wr => ∃ k : Nat, c.toNat ≤ k ∧ k ≤ c.toNat + 1 ∧ v = .int .i64 k ∧ Hid (AtS w rb m q g 0 0 wr) ∧ Hid (boolsAt wr L (boolRow fun x => s x || (decide (c.toNat ≤ x.toNat) && decide (x.toNat < k))))) (fun v _ => c.toNat + 1 - (intOf v).toNat)
      case atStart => exact ⟨c.toNat, by omega, by omega, rfl, HX4, by rw [upto_zero]; exact HBX4⟩
      case round =>
       obtain ⟨k, hk1, hk2, rfl, HA2, HB2⟩ := hrel
       by_cases hkd : k ≤ c.toNat
       ·
        have hkd2 : (k : Int) ≤ (c.toNat : Int) := by omega
        have h256 : k < 256 := by have := c.toNat_lt; omega
        have hcell := HB2.out.cell (k := k) (boolRow_get _ h256)
        have hfz := not_frozen (k := k) HB2.out
        go_wp2
        refine ⟨⟨k + 1, by omega, by omega, by go_num, hide (HA2.out.setB hrb hLw _), hide ?_⟩, ?_⟩
        ·
         have := HB2.out.set k true
         rw [upto_row h256 hk1] at this
         exact this
        ·
         simp [intOf]; omega
       ·
        obtain rfl : k = c.toNat + 1 := by omega
        have hkd2 : ¬ ((c.toNat : Int) + 1 ≤ (c.toNat : Int)) := by omega
        have hB := HB2.out
        rw [upto_full] at hB
        have HB3 := hide hB
        clear hB HB2
        go_wp2
        refine ⟨⟨false, q, union s (between c c), f, rfl, HA2, HB3, HNX, by omega⟩, ?_⟩
        rw [HA2.out.rd.place, HPL.out]
        omega
     | true =>
      simp only [onIf] at h4
      have hqlt := isAt_lt HBO.out
      obtain ⟨q2, hq2⟩ : ∃ q2, q + 1 = q2 := ⟨_, rfl⟩
      rw [hq2] at h4 HSP
      rw [show q + 2 = q2 + 1 by omega] at HSP
      have HX4 := hide h4
      clear h4
      have hsp : bindO (bindO (pBr m q2) fun b => if b.toNat < c.toNat then some (.error (3, q2)) else some (.ok (between c b, q2 + 1))) (fun x => pSpans m f (union s x.1) x.2) = some z := by
       have h := HSP.out
       simp only [if_true] at h
       exact h
      have HSP2 := hide hsp
      clear hsp HSP
      by_cases hdlt : q2 < m.length
      ·
       obtain ⟨d, hd⟩ : ∃ d, m[q2] = d := ⟨_, rfl⟩
       have hdlt2 : (q2 : Int) < m.length := by omega
       have hdne : ((q2 : Int) == m.length) = false := by rw [beq_eq_false_iff_ne]; omega
       have hwd : wrap64 (d.toNat : Int) = (d.toNat : Int) := wrap64_byte d
       have hgd : m[q2]? = some d := by rw [List.getElem?_eq_getElem hdlt, hd]
       have HAMd : Hid (∀ n, Calls Tryz.prog 107 #[.pointer (some ⟨rb, 0, none⟩), .string { data := #[91, 93, 92, 94, 45] }] (X4.drewN n) fun e w' => e = .returned (.bool (badIn d)) ∧ ∃ k, w' = (X4.drewN n).drewN k) := by
        refine hide fun n => ?_
        have h := ramong_any (X4.drewN n) rb m [91, 93, 92, 94, 45] q2 g 0 0 (by decide) HX4.out.rd.draw
        rw [comesB_bad hgd] at h
        exact h
       obtain ⟨c0, c1, _, _, _⟩ := five_cells HX4.out.rd
       cases hb : badIn d with
       | true =>
        have HE : Hid (y = .error (1, q2)) := by
         show _ = _
         have h := HSP2.out
         rw [br_bad (fun e he => by rw [hgd] at he; cases he; exact hb)] at h
         rw [HY.out, ← Option.some.inj h]
         rfl
        rw [hb] at HAMd
        clear hb hgd
        go_wp2
        go_quiet ((go_at_call 107; exact Calls.quiet_of (HAMd.out _)))
        obtain ⟨X5, HW2⟩ : ∃ W2, Hid (W2 = World.drewN X4 nq) := ⟨_, hide rfl⟩
        rw [← HW2.out]
        have HX5 : Hid (AtS w rb m q2 g 0 0 X5) := by rw [HW2.out]; exact hide (HX4.out.on hrb (Kept2.drewN (.refl _ _ _)) HX4.out.rd.draw)
        have HBX5 : Hid (boolsAt X5 L (boolRow s)) := by rw [HW2.out]; exact HBX4
        clear HW2
        obtain ⟨c0, c1, _, _, _⟩ := five_cells HX5.out.rd
        go_wp2_with fail
        refine (wrong_any _ rb m q2 g 1 (q2 : Int) 1 q2 rfl rfl HX5.out.rd).mono ?_
        rintro en wx ⟨rfl, hk3, hr3⟩
        have HX3 := hide (HX5.out.on hrb hk3 hr3)
        clear hk3 hr3
        obtain ⟨⟨r0, r1, r2, r3, r4⟩, rf⟩ := HX3.out.cells
        have z0 := rf 0
        have z1 := rf 1
        have z2 := rf 2
        have z3 := rf 3
        have z4 := rf 4
        obtain ⟨Z, eZ, hk, ho, hrd, hkb⟩ := HX3.out.store hrb (.bool false) (.slice none 0 0) (.int .i64 0) (.slice none 0 0) (.int .u8 0)
        have HO := hide ho
        have HK := hide hk
        have HRD := hide hrd
        have HKB := hide hkb
        clear rf hk ho hrd hkb
        go_wp2
        refine bodyPost_ret (v := pieceV false (.slice none 0 0) 0 (.slice none 0 0) 0) (results_cell_row (p := 2) (ty := 155) rfl _ _ w.heap.size _ _ _ _ rfl HO.out Tryz.underlying155 rfl Tryz.infoPiece) rfl ⟨HK.out, _, rfl, by rw [HE.out]; exact ⟨rfl, _, HRD.out⟩⟩
       | false =>
        have HSP3 : Hid (bindO (if d.toNat < c.toNat then some (.error (3, q2)) else some (.ok (between c d, q2 + 1))) (fun x => pSpans m f (union s x.1) x.2) = some z) := by
         show _ = _
         have h := HSP2.out
         rw [show pBr m q2 = some (.ok d) by unfold pBr; rw [hgd]; simp [hb]] at h
         exact h
        rw [hb] at HAMd
        clear hb hgd HSP2
        go_wp2
        go_quiet ((go_at_call 107; exact Calls.quiet_of (HAMd.out _)))
        obtain ⟨X5, HW2⟩ : ∃ W2, Hid (W2 = World.drewN X4 nq) := ⟨_, hide rfl⟩
        rw [← HW2.out]
        have HX5 : Hid (AtS w rb m q2 g 0 0 X5) := by rw [HW2.out]; exact hide (HX4.out.on hrb (Kept2.drewN (.refl _ _ _)) HX4.out.rd.draw)
        have HBX5 : Hid (boolsAt X5 L (boolRow s)) := by rw [HW2.out]; exact HBX4
        clear HW2
        clear c0 c1
        obtain ⟨c0, c1, _, _, _⟩ := five_cells HX5.out.rd
        by_cases hlo : d.toNat < c.toNat
        ·
         have HE : Hid (y = .error (3, q2)) := by
          show _ = _
          have h := HSP3.out
          rw [if_pos hlo] at h
          rw [HY.out, ← Option.some.inj h]
          rfl
         have hlo2 : (d.toNat : Int) < (c.toNat : Int) := by omega
         have hlo3 : decide ((d.toNat : Int) < (c.toNat : Int)) = true := by simpa using hlo2
         go_wp2
         go_quiet (fail)
         obtain ⟨X6, HW2⟩ : ∃ W2, Hid (W2 = World.drewN X5 nq) := ⟨_, hide rfl⟩
         rw [← HW2.out]
         have HX6 : Hid (AtS w rb m q2 g 0 0 X6) := by rw [HW2.out]; exact hide (HX5.out.on hrb (Kept2.drewN (.refl _ _ _)) HX5.out.rd.draw)
         have HBX6 : Hid (boolsAt X6 L (boolRow s)) := by rw [HW2.out]; exact HBX5
         clear HW2
         clear c0 c1
         obtain ⟨c0, c1, _, _, _⟩ := five_cells HX6.out.rd
         obtain ⟨c0, c1, _, _, _⟩ := five_cells HX6.out.rd
         go_wp2_with fail
         refine (wrong_any _ rb m q2 g 3 (q2 : Int) 3 q2 rfl rfl HX6.out.rd).mono ?_
         rintro en wx ⟨rfl, hk3, hr3⟩
         have HX3 := hide (HX6.out.on hrb hk3 hr3)
         clear hk3 hr3
         obtain ⟨⟨r0, r1, r2, r3, r4⟩, rf⟩ := HX3.out.cells
         have z0 := rf 0
         have z1 := rf 1
         have z2 := rf 2
         have z3 := rf 3
         have z4 := rf 4
         obtain ⟨Z, eZ, hk, ho, hrd, hkb⟩ := HX3.out.store hrb (.bool false) (.slice none 0 0) (.int .i64 0) (.slice none 0 0) (.int .u8 0)
         have HO := hide ho
         have HK := hide hk
         have HRD := hide hrd
         have HKB := hide hkb
         clear rf hk ho hrd hkb
         go_wp2
         refine bodyPost_ret (v := pieceV false (.slice none 0 0) 0 (.slice none 0 0) 0) (results_cell_row (p := 2) (ty := 155) rfl _ _ w.heap.size _ _ _ _ rfl HO.out Tryz.underlying155 rfl Tryz.infoPiece) rfl ⟨HK.out, _, rfl, by rw [HE.out]; exact ⟨rfl, _, HRD.out⟩⟩
        ·
         have HNX : Hid (Rem m z false (q2 + 1) (union s (between c d)) f) := by
          have h := HSP3.out
          rw [if_neg hlo] at h
          exact hide h
         have hlo2 : ¬ (d.toNat : Int) < (c.toNat : Int) := by omega
         have hlo3 : decide ((d.toNat : Int) < (c.toNat : Int)) = false := by simpa using hlo2
         have hccle : c.toNat ≤ d.toNat + 1 := by omega
         clear HSP3
         go_wp2
         go_quiet (fail)
         obtain ⟨X6, HW2⟩ : ∃ W2, Hid (W2 = World.drewN X5 nq) := ⟨_, hide rfl⟩
         rw [← HW2.out]
         have HX6 : Hid (AtS w rb m q2 g 0 0 X6) := by rw [HW2.out]; exact hide (HX5.out.on hrb (Kept2.drewN (.refl _ _ _)) HX5.out.rd.draw)
         have HBX6 : Hid (boolsAt X6 L (boolRow s)) := by rw [HW2.out]; exact HBX5
         clear HW2
         obtain ⟨k0, k1, _, _, _⟩ := five_cells HX6.out.rd
         have kf := not_frozen (k := 1) HX6.out.rd
         obtain ⟨X7, HW2⟩ : ∃ W2, Hid (W2 = World.setCell X6 ⟨rb, 1, none⟩ (.int .i64 ((q2 : Int) + 1))) := ⟨_, hide rfl⟩
         have HX7 : Hid (AtS w rb m (q2 + 1) g 0 0 X7) := by rw [HW2.out]; exact hide (HX6.out.on hrb (.setT _ _) (HX6.out.rd.on _ (by go_num)))
         have HBX7 : Hid (boolsAt X7 L (boolRow s)) := by rw [HW2.out]; exact hide (HBX6.out.keep (set_apart _ (by omega)))
         have hwr : IntKind.i64.wrap ((q2 : Int) + 1) = (q2 : Int) + 1 := wrap_i64_small _ (by omega) (by omega)
         have eW2 := HW2.out.symm
         clear HW2
         clear c0 c1
         go_wp2
         go_loopw [11] (fun v wr => ∃ k : Nat, c.toNat ≤ k ∧ k ≤ d.toNat + 1 ∧ v = .int .i64 k ∧ Hid (AtS w rb m (q2 + 1) g 0 0 wr) ∧ Hid (boolsAt wr L (boolRow fun x => s x || (decide (c.toNat ≤ x.toNat) && decide (x.toNat < k))))) (fun v _ => d.toNat + 1 - (intOf v).toNat)
         case atStart => exact ⟨c.toNat, by omega, by omega, rfl, HX7, by rw [upto_zero]; exact HBX7⟩
         case round =>
          obtain ⟨k, hk1, hk2, rfl, HA2, HB2⟩ := hrel
          by_cases hkd : k ≤ d.toNat
          ·
           have hkd2 : (k : Int) ≤ (d.toNat : Int) := by omega
           have h256 : k < 256 := by have := d.toNat_lt; omega
           have hcell := HB2.out.cell (k := k) (boolRow_get _ h256)
           have hfz := not_frozen (k := k) HB2.out
           go_wp2
           refine ⟨⟨k + 1, by omega, by omega, by go_num, hide (HA2.out.setB hrb hLw _), hide ?_⟩, ?_⟩
           ·
            have := HB2.out.set k true
            rw [upto_row h256 hk1] at this
            exact this
           ·
            simp [intOf]; omega
          ·
           obtain rfl : k = d.toNat + 1 := by omega
           have hkd2 : ¬ ((d.toNat : Int) + 1 ≤ (d.toNat : Int)) := by omega
           have hB := HB2.out
           rw [upto_full] at hB
           have HB3 := hide hB
           clear hB HB2
           go_wp2
           refine ⟨⟨false, (q2 + 1), union s (between c d), f, rfl, HA2, HB3, HNX, by omega⟩, ?_⟩
           rw [HA2.out.rd.place, HPL.out]
           omega
      ·
       have HE : Hid (y = .error (1, q2)) := by
        show _ = _
        have h := HSP2.out
        rw [br_bad (fun e he => by rw [List.getElem?_eq_none_iff.2 (by omega)] at he; cases he)] at h
        rw [HY.out, ← Option.some.inj h]
        rfl
       have hne : ((q2 : Int) == m.length) = true := by rw [beq_iff_eq]; omega
       obtain ⟨c0, c1, _, _, _⟩ := five_cells HX4.out.rd
       go_wp2
       go_quiet (fail)
       obtain ⟨X5, HW2⟩ : ∃ W2, Hid (W2 = World.drewN X4 nq) := ⟨_, hide rfl⟩
       rw [← HW2.out]
       have HX5 : Hid (AtS w rb m q2 g 0 0 X5) := by rw [HW2.out]; exact hide (HX4.out.on hrb (Kept2.drewN (.refl _ _ _)) HX4.out.rd.draw)
       have HBX5 : Hid (boolsAt X5 L (boolRow s)) := by rw [HW2.out]; exact HBX4
       clear HW2
       obtain ⟨c0, c1, _, _, _⟩ := five_cells HX5.out.rd
       go_wp2_with fail
       refine (wrong_any _ rb m q2 g 1 (q2 : Int) 1 q2 rfl rfl HX5.out.rd).mono ?_
       rintro en wx ⟨rfl, hk3, hr3⟩
       have HX3 := hide (HX5.out.on hrb hk3 hr3)
       clear hk3 hr3
       obtain ⟨⟨r0, r1, r2, r3, r4⟩, rf⟩ := HX3.out.cells
       have z0 := rf 0
       have z1 := rf 1
       have z2 := rf 2
       have z3 := rf 3
       have z4 := rf 4
       obtain ⟨Z, eZ, hk, ho, hrd, hkb⟩ := HX3.out.store hrb (.bool false) (.slice none 0 0) (.int .i64 0) (.slice none 0 0) (.int .u8 0)
       have HO := hide ho
       have HK := hide hk
       have HRD := hide hrd
       have HKB := hide hkb
       clear rf hk ho hrd hkb
       go_wp2
       refine bodyPost_ret (v := pieceV false (.slice none 0 0) 0 (.slice none 0 0) 0) (results_cell_row (p := 2) (ty := 155) rfl _ _ w.heap.size _ _ _ _ rfl HO.out Tryz.underlying155 rfl Tryz.infoPiece) rfl ⟨HK.out, _, rfl, by rw [HE.out]; exact ⟨rfl, _, HRD.out⟩⟩
   ·
    have HE : Hid (y = .error (1, p)) := by
     show _ = _
     have h := HS.out
     rw [span_bad (fun d hd => by rw [List.getElem?_eq_none_iff.2 (by omega)] at hd; cases hd)] at h
     rw [HY.out, ← Option.some.inj h]
     rfl
    have hne : ((p : Int) == m.length) = true := by rw [beq_iff_eq]; omega
    obtain ⟨c0, c1, _, _, _⟩ := five_cells HX.out.rd
    go_wp2
    go_quiet (fail)
    obtain ⟨X1, HW2⟩ : ∃ W2, Hid (W2 = World.drewN X nq) := ⟨_, hide rfl⟩
    rw [← HW2.out]
    have HX1 : Hid (AtS w rb m p g 0 0 X1) := by rw [HW2.out]; exact hide (HX.out.on hrb (Kept2.drewN (.refl _ _ _)) HX.out.rd.draw)
    have HBX1 : Hid (boolsAt X1 L (boolRow s)) := by rw [HW2.out]; exact HBX
    clear HW2
    obtain ⟨c0, c1, _, _, _⟩ := five_cells HX1.out.rd
    go_wp2_with fail
    refine (wrong_any _ rb m p g 1 (p : Int) 1 p rfl rfl HX1.out.rd).mono ?_
    rintro en wx ⟨rfl, hk3, hr3⟩
    have HX3 := hide (HX1.out.on hrb hk3 hr3)
    clear hk3 hr3
    obtain ⟨⟨r0, r1, r2, r3, r4⟩, rf⟩ := HX3.out.cells
    have z0 := rf 0
    have z1 := rf 1
    have z2 := rf 2
    have z3 := rf 3
    have z4 := rf 4
    obtain ⟨Z, eZ, hk, ho, hrd, hkb⟩ := HX3.out.store hrb (.bool false) (.slice none 0 0) (.int .i64 0) (.slice none 0 0) (.int .u8 0)
    have HO := hide ho
    have HK := hide hk
    have HRD := hide hrd
    have HKB := hide hkb
    clear rf hk ho hrd hkb
    go_wp2
    refine bodyPost_ret (v := pieceV false (.slice none 0 0) 0 (.slice none 0 0) 0) (results_cell_row (p := 2) (ty := 155) rfl _ _ w.heap.size _ _ _ _ rfl HO.out Tryz.underlying155 rfl Tryz.infoPiece) rfl ⟨HK.out, _, rfl, by rw [HE.out]; exact ⟨rfl, _, HRD.out⟩⟩
  | false =>
   cases f with
   | zero => exact absurd HR.out (by simp [Rem, pSpans])
   | succ f =>
    have HR2 : Hid ((if isAt m p 93 then some (.ok (s, p + 1)) else bindO (pSpan m p) fun x => pSpans m f (union s x.1) x.2) = some z) := HR
    clear HR
    go_wp2_with fail
    refine (rmay_any _ rb m p g 0 0 93 93 rfl (by decide) (by omega) HX.out.rd).mono ?_
    rintro en Y ⟨rfl, hk6, hr6⟩
    have h6 := HX.out.on hrb hk6 hr6
    have HBY : Hid (boolsAt Y L (boolRow s)) := hide (HBX.out.keep (hk6.block L (by have := lt_of_block HBX.out; omega) (by omega) (by omega)))
    clear hk6 hr6
    obtain ⟨bc, HBC⟩ : ∃ bc, Hid (isAt m p 93 = bc) := ⟨_, hide rfl⟩
    rw [HBC.out] at h6 HR2 ⊢
    clear HX HBX
    cases bc with
    | true =>
     simp only [onIf] at h6
     have HE : Hid (y = .ok (if neg = true then butAll s else s, p + 1)) := by
      show _ = _
      have h := HR2.out
      simp only [if_true] at h
      rw [HY.out, ← Option.some.inj h]
      rfl
     have H6 := hide h6
     have HB6 : Hid (boolsAt Y L (boolRow (turned s neg 0))) := by rw [turned_zero]; exact HBY
     clear h6 HR2 HBY
     go_wp2
     go_loopw [12] (fun v wr => ∃ k : Nat, k ≤ 256 ∧ v = .int .i64 k ∧ Hid (AtS w rb m (p + 1) g 0 0 wr) ∧ Hid (boolsAt wr L (boolRow (turned s neg k)))) (fun v _ => 256 - (intOf v).toNat)
     case atStart => exact ⟨0, by omega, rfl, H6, HB6⟩
     case round =>
      obtain ⟨k, hk, rfl, HA, HB⟩ := hrel
      by_cases hlt : k < 256
      ·
       have hlt2 : (k : Int) < 256 := by omega
       have hcell := HB.out.cell (k := k) (turned_get hlt)
       have hfz := not_frozen (k := k) HB.out
       go_wp2
       refine ⟨⟨k + 1, by omega, by go_num, hide (HA.out.setB hrb hLw _), hide ?_⟩, ?_⟩
       ·
        have := HB.out.set k (s (UInt8.ofNat k) != neg)
        rw [turned_row hlt] at this
        exact this
       ·
        simp [intOf]; omega
      ·
       obtain rfl : k = 256 := by omega
       have hB := HB.out
       rw [turned_all] at hB
       obtain ⟨⟨r0, r1, r2, r3, r4⟩, rf⟩ := HA.out.cells
       have z0 := rf 0
       have z1 := rf 1
       have z2 := rf 2
       have z3 := rf 3
       have z4 := rf 4
       obtain ⟨Z, eZ, hk, ho, hrd, hkb⟩ := HA.out.store hrb (.bool false) (.slice (some ⟨L, 0, none⟩) 256 256) (.int .i64 0) (.slice none 0 0) (.int .u8 0)
       have HO := hide ho
       have HK := hide hk
       have HRD := hide hrd
       have HKB := hide hkb
       clear rf hk ho hrd hkb
       have HB7 := hide (hB.keep (HKB.out L (by omega)))
       clear hB HA HB
       go_wp2
       refine bodyPost_ret (v := pieceV false (.slice (some ⟨L, 0, none⟩) 256 256) 0 (.slice none 0 0) 0) (results_cell_row (p := 2) (ty := 155) rfl _ _ w.heap.size _ _ _ _ rfl HO.out Tryz.underlying155 rfl Tryz.infoPiece) rfl ⟨HK.out, _, rfl, by rw [HE.out]; exact ⟨_, rfl, ⟨_, rfl, by omega, HB7.out⟩, HRD.out⟩⟩
    | false =>
     simp only [onIf] at h6
     have HS : Hid (bindO (pSpan m p) (fun x => pSpans m f (union s x.1) x.2) = some z) := by
      have h := HR2.out
      simp only [Bool.false_eq_true, if_false] at h
      exact hide h
     have HY1 := hide h6
     have HBY1 := HBY
     obtain ⟨Y1, HYY⟩ : ∃ Y1, Hid (Y1 = Y) := ⟨_, hide rfl⟩
     rw [← HYY.out] at HY1 HBY1 ⊢
     clear h6 HR2 HBY HYY
     by_cases hclt : p < m.length
     ·
      obtain ⟨c, hc⟩ : ∃ c, m[p] = c := ⟨_, rfl⟩
      have hclt2 : (p : Int) < m.length := by omega
      have hcne : ((p : Int) == m.length) = false := by rw [beq_eq_false_iff_ne]; omega
      have hwc : wrap64 (c.toNat : Int) = (c.toNat : Int) := wrap64_byte c
      have hgc : m[p]? = some c := by rw [List.getElem?_eq_getElem hclt, hc]
      have HAMc : Hid (∀ n, Calls Tryz.prog 107 #[.pointer (some ⟨rb, 0, none⟩), .string { data := #[91, 93, 92, 94, 45] }] (Y1.drewN n) fun e w' => e = .returned (.bool (badIn c)) ∧ ∃ k, w' = (Y1.drewN n).drewN k) := by
       refine hide fun n => ?_
       have h := ramong_any (Y1.drewN n) rb m [91, 93, 92, 94, 45] p g 0 0 (by decide) HY1.out.rd.draw
       rw [comesB_bad hgc] at h
       exact h
      obtain ⟨c0, c1, _, _, _⟩ := five_cells HY1.out.rd
      cases hb : badIn c with
      | true =>
       have HE : Hid (y = .error (1, p)) := by
        show _ = _
        have h := HS.out
        rw [span_bad (fun d hd => by rw [hgc] at hd; cases hd; exact hb)] at h
        rw [HY.out, ← Option.some.inj h]
        rfl
       rw [hb] at HAMc
       clear hb hgc
       go_wp2
       go_quiet ((go_at_call 107; exact Calls.quiet_of (HAMc.out _)))
       obtain ⟨X1, HW2⟩ : ∃ W2, Hid (W2 = World.drewN Y1 nq) := ⟨_, hide rfl⟩
       rw [← HW2.out]
       have HX1 : Hid (AtS w rb m p g 0 0 X1) := by rw [HW2.out]; exact hide (HY1.out.on hrb (Kept2.drewN (.refl _ _ _)) HY1.out.rd.draw)
       have HBX1 : Hid (boolsAt X1 L (boolRow s)) := by rw [HW2.out]; exact HBY1
       clear HW2
       obtain ⟨c0, c1, _, _, _⟩ := five_cells HX1.out.rd
       go_wp2_with fail
       refine (wrong_any _ rb m p g 1 (p : Int) 1 p rfl rfl HX1.out.rd).mono ?_
       rintro en wx ⟨rfl, hk3, hr3⟩
       have HX3 := hide (HX1.out.on hrb hk3 hr3)
       clear hk3 hr3
       obtain ⟨⟨r0, r1, r2, r3, r4⟩, rf⟩ := HX3.out.cells
       have z0 := rf 0
       have z1 := rf 1
       have z2 := rf 2
       have z3 := rf 3
       have z4 := rf 4
       obtain ⟨Z, eZ, hk, ho, hrd, hkb⟩ := HX3.out.store hrb (.bool false) (.slice none 0 0) (.int .i64 0) (.slice none 0 0) (.int .u8 0)
       have HO := hide ho
       have HK := hide hk
       have HRD := hide hrd
       have HKB := hide hkb
       clear rf hk ho hrd hkb
       go_wp2
       refine bodyPost_ret (v := pieceV false (.slice none 0 0) 0 (.slice none 0 0) 0) (results_cell_row (p := 2) (ty := 155) rfl _ _ w.heap.size _ _ _ _ rfl HO.out Tryz.underlying155 rfl Tryz.infoPiece) rfl ⟨HK.out, _, rfl, by rw [HE.out]; exact ⟨rfl, _, HRD.out⟩⟩
      | false =>
       have HSP : Hid (bindO (if isAt m (p + 1) 45 then bindO (pBr m (p + 2)) fun b => if b.toNat < c.toNat then some (.error (3, p + 2)) else some (.ok (between c b, p + 3)) else some (.ok (between c c, p + 1))) (fun x => pSpans m f (union s x.1) x.2) = some z) := by
        show _ = _
        have h := HS.out
        rw [span_at hgc hb] at h
        exact h
       rw [hb] at HAMc
       clear hb hgc HS
       go_wp2
       go_quiet ((go_at_call 107; exact Calls.quiet_of (HAMc.out _)))
       obtain ⟨X1, HW2⟩ : ∃ W2, Hid (W2 = World.drewN Y1 nq) := ⟨_, hide rfl⟩
       rw [← HW2.out]
       have HX1 : Hid (AtS w rb m p g 0 0 X1) := by rw [HW2.out]; exact hide (HY1.out.on hrb (Kept2.drewN (.refl _ _ _)) HY1.out.rd.draw)
       have HBX1 : Hid (boolsAt X1 L (boolRow s)) := by rw [HW2.out]; exact HBY1
       clear HW2
       clear c0 c1
       obtain ⟨c0, c1, _, _, _⟩ := five_cells HX1.out.rd
       go_wp2
       go_quiet (fail)
       obtain ⟨X2, HW2⟩ : ∃ W2, Hid (W2 = World.drewN X1 nq) := ⟨_, hide rfl⟩
       rw [← HW2.out]
       have HX2 : Hid (AtS w rb m p g 0 0 X2) := by rw [HW2.out]; exact hide (HX1.out.on hrb (Kept2.drewN (.refl _ _ _)) HX1.out.rd.draw)
       have HBX2 : Hid (boolsAt X2 L (boolRow s)) := by rw [HW2.out]; exact HBX1
       clear HW2
       obtain ⟨k0, k1, _, _, _⟩ := five_cells HX2.out.rd
       have kf := not_frozen (k := 1) HX2.out.rd
       obtain ⟨X3, HW2⟩ : ∃ W2, Hid (W2 = World.setCell X2 ⟨rb, 1, none⟩ (.int .i64 ((p : Int) + 1))) := ⟨_, hide rfl⟩
       have HX3 : Hid (AtS w rb m (p + 1) g 0 0 X3) := by rw [HW2.out]; exact hide (HX2.out.on hrb (.setT _ _) (HX2.out.rd.on _ (by go_num)))
       have HBX3 : Hid (boolsAt X3 L (boolRow s)) := by rw [HW2.out]; exact hide (HBX2.out.keep (set_apart _ (by omega)))
       have hwr : IntKind.i64.wrap ((p : Int) + 1) = (p : Int) + 1 := wrap_i64_small _ (by omega) (by omega)
       have eW2 := HW2.out.symm
       clear HW2
       clear c0 c1
       go_wp2_with fail
       clear eW2 k0 k1 kf
       obtain ⟨q, hq⟩ : ∃ q, p + 1 = q := ⟨_, rfl⟩
       rw [hq] at HX3
       rw [show p + 2 = q + 1 by omega, show p + 3 = q + 2 by omega, hq] at HSP
       refine (rmay_any _ rb m q g 0 0 45 45 rfl (by decide) (by omega) HX3.out.rd).mono ?_
       rintro en X4 ⟨rfl, hk4, hr4⟩
       have h4 := HX3.out.on hrb hk4 hr4
       have HBX4 : Hid (boolsAt X4 L (boolRow s)) := hide (HBX3.out.keep (hk4.block L (by have := HX3.out.size; have := lt_of_block HBX3.out; omega) (by omega) (by omega)))
       clear hk4 hr4
       obtain ⟨bo, HBO⟩ : ∃ bo, Hid (isAt m q 45 = bo) := ⟨_, hide rfl⟩
       rw [HBO.out] at h4 HSP ⊢
       cases bo with
       | false =>
        simp only [onIf] at h4
        have HX4 := hide h4
        have HNX : Hid (Rem m z false q (union s (between c c)) f) := by
         have h := HSP.out
         simp only [Bool.false_eq_true, if_false, bindO] at h
         exact hide h
        have hccle : c.toNat ≤ c.toNat + 1 := by omega
        clear h4 HSP
        go_wp2
        go_loopw [11] (fun v wr => ∃ k : Nat, c.toNat ≤ k ∧ k ≤ c.toNat + 1 ∧ v = .int .i64 k ∧ Hid (AtS w rb m q g 0 0 wr) ∧ Hid (boolsAt wr L (boolRow fun x => s x || (decide (c.toNat ≤ x.toNat) && decide (x.toNat < k))))) (fun v _ => c.toNat + 1 - (intOf v).toNat)
        case atStart => exact ⟨c.toNat, by omega, by omega, rfl, HX4, by rw [upto_zero]; exact HBX4⟩
        case round =>
         obtain ⟨k, hk1, hk2, rfl, HA2, HB2⟩ := hrel
         by_cases hkd : k ≤ c.toNat
         ·
          have hkd2 : (k : Int) ≤ (c.toNat : Int) := by omega
          have h256 : k < 256 := by have := c.toNat_lt; omega
          have hcell := HB2.out.cell (k := k) (boolRow_get _ h256)
          have hfz := not_frozen (k := k) HB2.out
          go_wp2
          refine ⟨⟨k + 1, by omega, by omega, by go_num, hide (HA2.out.setB hrb hLw _), hide ?_⟩, ?_⟩
          ·
           have := HB2.out.set k true
           rw [upto_row h256 hk1] at this
           exact this
          ·
           simp [intOf]; omega
         ·
          obtain rfl : k = c.toNat + 1 := by omega
          have hkd2 : ¬ ((c.toNat : Int) + 1 ≤ (c.toNat : Int)) := by omega
          have hB := HB2.out
          rw [upto_full] at hB
          have HB3 := hide hB
          clear hB HB2
          go_wp2
          refine ⟨⟨false, q, union s (between c c), f, rfl, HA2, HB3, HNX, by omega⟩, ?_⟩
          rw [HA2.out.rd.place, HPL.out]
          omega
       | true =>
        simp only [onIf] at h4
        have hqlt := isAt_lt HBO.out
        obtain ⟨q2, hq2⟩ : ∃ q2, q + 1 = q2 := ⟨_, rfl⟩
        rw [hq2] at h4 HSP
        rw [show q + 2 = q2 + 1 by omega] at HSP
        have HX4 := hide h4
        clear h4
        have hsp : bindO (bindO (pBr m q2) fun b => if b.toNat < c.toNat then some (.error (3, q2)) else some (.ok (between c b, q2 + 1))) (fun x => pSpans m f (union s x.1) x.2) = some z := by
         have h := HSP.out
         simp only [if_true] at h
         exact h
        have HSP2 := hide hsp
        clear hsp HSP
        by_cases hdlt : q2 < m.length
        ·
         obtain ⟨d, hd⟩ : ∃ d, m[q2] = d := ⟨_, rfl⟩
         have hdlt2 : (q2 : Int) < m.length := by omega
         have hdne : ((q2 : Int) == m.length) = false := by rw [beq_eq_false_iff_ne]; omega
         have hwd : wrap64 (d.toNat : Int) = (d.toNat : Int) := wrap64_byte d
         have hgd : m[q2]? = some d := by rw [List.getElem?_eq_getElem hdlt, hd]
         have HAMd : Hid (∀ n, Calls Tryz.prog 107 #[.pointer (some ⟨rb, 0, none⟩), .string { data := #[91, 93, 92, 94, 45] }] (X4.drewN n) fun e w' => e = .returned (.bool (badIn d)) ∧ ∃ k, w' = (X4.drewN n).drewN k) := by
          refine hide fun n => ?_
          have h := ramong_any (X4.drewN n) rb m [91, 93, 92, 94, 45] q2 g 0 0 (by decide) HX4.out.rd.draw
          rw [comesB_bad hgd] at h
          exact h
         obtain ⟨c0, c1, _, _, _⟩ := five_cells HX4.out.rd
         cases hb : badIn d with
         | true =>
          have HE : Hid (y = .error (1, q2)) := by
           show _ = _
           have h := HSP2.out
           rw [br_bad (fun e he => by rw [hgd] at he; cases he; exact hb)] at h
           rw [HY.out, ← Option.some.inj h]
           rfl
          rw [hb] at HAMd
          clear hb hgd
          go_wp2
          go_quiet ((go_at_call 107; exact Calls.quiet_of (HAMd.out _)))
          obtain ⟨X5, HW2⟩ : ∃ W2, Hid (W2 = World.drewN X4 nq) := ⟨_, hide rfl⟩
          rw [← HW2.out]
          have HX5 : Hid (AtS w rb m q2 g 0 0 X5) := by rw [HW2.out]; exact hide (HX4.out.on hrb (Kept2.drewN (.refl _ _ _)) HX4.out.rd.draw)
          have HBX5 : Hid (boolsAt X5 L (boolRow s)) := by rw [HW2.out]; exact HBX4
          clear HW2
          obtain ⟨c0, c1, _, _, _⟩ := five_cells HX5.out.rd
          go_wp2_with fail
          refine (wrong_any _ rb m q2 g 1 (q2 : Int) 1 q2 rfl rfl HX5.out.rd).mono ?_
          rintro en wx ⟨rfl, hk3, hr3⟩
          have HX3 := hide (HX5.out.on hrb hk3 hr3)
          clear hk3 hr3
          obtain ⟨⟨r0, r1, r2, r3, r4⟩, rf⟩ := HX3.out.cells
          have z0 := rf 0
          have z1 := rf 1
          have z2 := rf 2
          have z3 := rf 3
          have z4 := rf 4
          obtain ⟨Z, eZ, hk, ho, hrd, hkb⟩ := HX3.out.store hrb (.bool false) (.slice none 0 0) (.int .i64 0) (.slice none 0 0) (.int .u8 0)
          have HO := hide ho
          have HK := hide hk
          have HRD := hide hrd
          have HKB := hide hkb
          clear rf hk ho hrd hkb
          go_wp2
          refine bodyPost_ret (v := pieceV false (.slice none 0 0) 0 (.slice none 0 0) 0) (results_cell_row (p := 2) (ty := 155) rfl _ _ w.heap.size _ _ _ _ rfl HO.out Tryz.underlying155 rfl Tryz.infoPiece) rfl ⟨HK.out, _, rfl, by rw [HE.out]; exact ⟨rfl, _, HRD.out⟩⟩
         | false =>
          have HSP3 : Hid (bindO (if d.toNat < c.toNat then some (.error (3, q2)) else some (.ok (between c d, q2 + 1))) (fun x => pSpans m f (union s x.1) x.2) = some z) := by
           show _ = _
           have h := HSP2.out
           rw [show pBr m q2 = some (.ok d) by unfold pBr; rw [hgd]; simp [hb]] at h
           exact h
          rw [hb] at HAMd
          clear hb hgd HSP2
          go_wp2
          go_quiet ((go_at_call 107; exact Calls.quiet_of (HAMd.out _)))
          obtain ⟨X5, HW2⟩ : ∃ W2, Hid (W2 = World.drewN X4 nq) := ⟨_, hide rfl⟩
          rw [← HW2.out]
          have HX5 : Hid (AtS w rb m q2 g 0 0 X5) := by rw [HW2.out]; exact hide (HX4.out.on hrb (Kept2.drewN (.refl _ _ _)) HX4.out.rd.draw)
          have HBX5 : Hid (boolsAt X5 L (boolRow s)) := by rw [HW2.out]; exact HBX4
          clear HW2
          clear c0 c1
          obtain ⟨c0, c1, _, _, _⟩ := five_cells HX5.out.rd
          by_cases hlo : d.toNat < c.toNat
          ·
           have HE : Hid (y = .error (3, q2)) := by
            show _ = _
            have h := HSP3.out
            rw [if_pos hlo] at h
            rw [HY.out, ← Option.some.inj h]
            rfl
           have hlo2 : (d.toNat : Int) < (c.toNat : Int) := by omega
           have hlo3 : decide ((d.toNat : Int) < (c.toNat : Int)) = true := by simpa using hlo2
           go_wp2
           go_quiet (fail)
           obtain ⟨X6, HW2⟩ : ∃ W2, Hid (W2 = World.drewN X5 nq) := ⟨_, hide rfl⟩
           rw [← HW2.out]
           have HX6 : Hid (AtS w rb m q2 g 0 0 X6) := by rw [HW2.out]; exact hide (HX5.out.on hrb (Kept2.drewN (.refl _ _ _)) HX5.out.rd.draw)
           have HBX6 : Hid (boolsAt X6 L (boolRow s)) := by rw [HW2.out]; exact HBX5
           clear HW2
           clear c0 c1
           obtain ⟨c0, c1, _, _, _⟩ := five_cells HX6.out.rd
           obtain ⟨c0, c1, _, _, _⟩ := five_cells HX6.out.rd
           go_wp2_with fail
           refine (wrong_any _ rb m q2 g 3 (q2 : Int) 3 q2 rfl rfl HX6.out.rd).mono ?_
           rintro en wx ⟨rfl, hk3, hr3⟩
           have HX3 := hide (HX6.out.on hrb hk3 hr3)
           clear hk3 hr3
           obtain ⟨⟨r0, r1, r2, r3, r4⟩, rf⟩ := HX3.out.cells
           have z0 := rf 0
           have z1 := rf 1
           have z2 := rf 2
           have z3 := rf 3
           have z4 := rf 4
           obtain ⟨Z, eZ, hk, ho, hrd, hkb⟩ := HX3.out.store hrb (.bool false) (.slice none 0 0) (.int .i64 0) (.slice none 0 0) (.int .u8 0)
           have HO := hide ho
           have HK := hide hk
           have HRD := hide hrd
           have HKB := hide hkb
           clear rf hk ho hrd hkb
           go_wp2
           refine bodyPost_ret (v := pieceV false (.slice none 0 0) 0 (.slice none 0 0) 0) (results_cell_row (p := 2) (ty := 155) rfl _ _ w.heap.size _ _ _ _ rfl HO.out Tryz.underlying155 rfl Tryz.infoPiece) rfl ⟨HK.out, _, rfl, by rw [HE.out]; exact ⟨rfl, _, HRD.out⟩⟩
          ·
           have HNX : Hid (Rem m z false (q2 + 1) (union s (between c d)) f) := by
            have h := HSP3.out
            rw [if_neg hlo] at h
            exact hide h
           have hlo2 : ¬ (d.toNat : Int) < (c.toNat : Int) := by omega
           have hlo3 : decide ((d.toNat : Int) < (c.toNat : Int)) = false := by simpa using hlo2
           have hccle : c.toNat ≤ d.toNat + 1 := by omega
           clear HSP3
           go_wp2
           go_quiet (fail)
           obtain ⟨X6, HW2⟩ : ∃ W2, Hid (W2 = World.drewN X5 nq) := ⟨_, hide rfl⟩
           rw [← HW2.out]
           have HX6 : Hid (AtS w rb m q2 g 0 0 X6) := by rw [HW2.out]; exact hide (HX5.out.on hrb (Kept2.drewN (.refl _ _ _)) HX5.out.rd.draw)
           have HBX6 : Hid (boolsAt X6 L (boolRow s)) := by rw [HW2.out]; exact HBX5
           clear HW2
           obtain ⟨k0, k1, _, _, _⟩ := five_cells HX6.out.rd
           have kf := not_frozen (k := 1) HX6.out.rd
           obtain ⟨X7, HW2⟩ : ∃ W2, Hid (W2 = World.setCell X6 ⟨rb, 1, none⟩ (.int .i64 ((q2 : Int) + 1))) := ⟨_, hide rfl⟩
           have HX7 : Hid (AtS w rb m (q2 + 1) g 0 0 X7) := by rw [HW2.out]; exact hide (HX6.out.on hrb (.setT _ _) (HX6.out.rd.on _ (by go_num)))
           have HBX7 : Hid (boolsAt X7 L (boolRow s)) := by rw [HW2.out]; exact hide (HBX6.out.keep (set_apart _ (by omega)))
           have hwr : IntKind.i64.wrap ((q2 : Int) + 1) = (q2 : Int) + 1 := wrap_i64_small _ (by omega) (by omega)
           have eW2 := HW2.out.symm
           clear HW2
           clear c0 c1
           go_wp2
           go_loopw [11] (fun v wr => ∃ k : Nat, c.toNat ≤ k ∧ k ≤ d.toNat + 1 ∧ v = .int .i64 k ∧ Hid (AtS w rb m (q2 + 1) g 0 0 wr) ∧ Hid (boolsAt wr L (boolRow fun x => s x || (decide (c.toNat ≤ x.toNat) && decide (x.toNat < k))))) (fun v _ => d.toNat + 1 - (intOf v).toNat)
           case atStart => exact ⟨c.toNat, by omega, by omega, rfl, HX7, by rw [upto_zero]; exact HBX7⟩
           case round =>
            obtain ⟨k, hk1, hk2, rfl, HA2, HB2⟩ := hrel
            by_cases hkd : k ≤ d.toNat
            ·
             have hkd2 : (k : Int) ≤ (d.toNat : Int) := by omega
             have h256 : k < 256 := by have := d.toNat_lt; omega
             have hcell := HB2.out.cell (k := k) (boolRow_get _ h256)
             have hfz := not_frozen (k := k) HB2.out
             go_wp2
             refine ⟨⟨k + 1, by omega, by omega, by go_num, hide (HA2.out.setB hrb hLw _), hide ?_⟩, ?_⟩
             ·
              have := HB2.out.set k true
              rw [upto_row h256 hk1] at this
              exact this
             ·
              simp [intOf]; omega
            ·
             obtain rfl : k = d.toNat + 1 := by omega
             have hkd2 : ¬ ((d.toNat : Int) + 1 ≤ (d.toNat : Int)) := by omega
             have hB := HB2.out
             rw [upto_full] at hB
             have HB3 := hide hB
             clear hB HB2
             go_wp2
             refine ⟨⟨false, (q2 + 1), union s (between c d), f, rfl, HA2, HB3, HNX, by omega⟩, ?_⟩
             rw [HA2.out.rd.place, HPL.out]
             omega
        ·
         have HE : Hid (y = .error (1, q2)) := by
          show _ = _
          have h := HSP2.out
          rw [br_bad (fun e he => by rw [List.getElem?_eq_none_iff.2 (by omega)] at he; cases he)] at h
          rw [HY.out, ← Option.some.inj h]
          rfl
         have hne : ((q2 : Int) == m.length) = true := by rw [beq_iff_eq]; omega
         obtain ⟨c0, c1, _, _, _⟩ := five_cells HX4.out.rd
         go_wp2
         go_quiet (fail)
         obtain ⟨X5, HW2⟩ : ∃ W2, Hid (W2 = World.drewN X4 nq) := ⟨_, hide rfl⟩
         rw [← HW2.out]
         have HX5 : Hid (AtS w rb m q2 g 0 0 X5) := by rw [HW2.out]; exact hide (HX4.out.on hrb (Kept2.drewN (.refl _ _ _)) HX4.out.rd.draw)
         have HBX5 : Hid (boolsAt X5 L (boolRow s)) := by rw [HW2.out]; exact HBX4
         clear HW2
         obtain ⟨c0, c1, _, _, _⟩ := five_cells HX5.out.rd
         go_wp2_with fail
         refine (wrong_any _ rb m q2 g 1 (q2 : Int) 1 q2 rfl rfl HX5.out.rd).mono ?_
         rintro en wx ⟨rfl, hk3, hr3⟩
         have HX3 := hide (HX5.out.on hrb hk3 hr3)
         clear hk3 hr3
         obtain ⟨⟨r0, r1, r2, r3, r4⟩, rf⟩ := HX3.out.cells
         have z0 := rf 0
         have z1 := rf 1
         have z2 := rf 2
         have z3 := rf 3
         have z4 := rf 4
         obtain ⟨Z, eZ, hk, ho, hrd, hkb⟩ := HX3.out.store hrb (.bool false) (.slice none 0 0) (.int .i64 0) (.slice none 0 0) (.int .u8 0)
         have HO := hide ho
         have HK := hide hk
         have HRD := hide hrd
         have HKB := hide hkb
         clear rf hk ho hrd hkb
         go_wp2
         refine bodyPost_ret (v := pieceV false (.slice none 0 0) 0 (.slice none 0 0) 0) (results_cell_row (p := 2) (ty := 155) rfl _ _ w.heap.size _ _ _ _ rfl HO.out Tryz.underlying155 rfl Tryz.infoPiece) rfl ⟨HK.out, _, rfl, by rw [HE.out]; exact ⟨rfl, _, HRD.out⟩⟩
     ·
      have HE : Hid (y = .error (1, p)) := by
       show _ = _
       have h := HS.out
       rw [span_bad (fun d hd => by rw [List.getElem?_eq_none_iff.2 (by omega)] at hd; cases hd)] at h
       rw [HY.out, ← Option.some.inj h]
       rfl
      have hne : ((p : Int) == m.length) = true := by rw [beq_iff_eq]; omega
      obtain ⟨c0, c1, _, _, _⟩ := five_cells HY1.out.rd
      go_wp2
      go_quiet (fail)
      obtain ⟨X1, HW2⟩ : ∃ W2, Hid (W2 = World.drewN Y1 nq) := ⟨_, hide rfl⟩
      rw [← HW2.out]
      have HX1 : Hid (AtS w rb m p g 0 0 X1) := by rw [HW2.out]; exact hide (HY1.out.on hrb (Kept2.drewN (.refl _ _ _)) HY1.out.rd.draw)
      have HBX1 : Hid (boolsAt X1 L (boolRow s)) := by rw [HW2.out]; exact HBY1
      clear HW2
      obtain ⟨c0, c1, _, _, _⟩ := five_cells HX1.out.rd
      go_wp2_with fail
      refine (wrong_any _ rb m p g 1 (p : Int) 1 p rfl rfl HX1.out.rd).mono ?_
      rintro en wx ⟨rfl, hk3, hr3⟩
      have HX3 := hide (HX1.out.on hrb hk3 hr3)
      clear hk3 hr3
      obtain ⟨⟨r0, r1, r2, r3, r4⟩, rf⟩ := HX3.out.cells
      have z0 := rf 0
      have z1 := rf 1
      have z2 := rf 2
      have z3 := rf 3
      have z4 := rf 4
      obtain ⟨Z, eZ, hk, ho, hrd, hkb⟩ := HX3.out.store hrb (.bool false) (.slice none 0 0) (.int .i64 0) (.slice none 0 0) (.int .u8 0)
      have HO := hide ho
      have HK := hide hk
      have HRD := hide hrd
      have HKB := hide hkb
      clear rf hk ho hrd hkb
      go_wp2
      refine bodyPost_ret (v := pieceV false (.slice none 0 0) 0 (.slice none 0 0) 0) (results_cell_row (p := 2) (ty := 155) rfl _ _ w.heap.size _ _ _ _ rfl HO.out Tryz.underlying155 rfl Tryz.infoPiece) rfl ⟨HK.out, _, rfl, by rw [HE.out]; exact ⟨rfl, _, HRD.out⟩⟩
def rrowsPost (rb : Nat) (m : List UInt8) (y : Except (Nat × Nat) (Tr × Nat × Nat)) (w : World) (e : Ending) (w' : World) : Prop :=
 Kept2 rb rb w w' ∧ ∃ v k ys, e = .returned v ∧ w'.ownsRow w.heap.size 153 1 v k ys ∧ match y with
  | .error x => ∃ j h, readerAt w' rb m j h x.1 x.2
  | .ok x => cellsAt w' (fun b => w.heap.size ≤ b ∧ v.ownBlock ≠ some b) x.1 ys ∧ readerAt w' rb m x.2.1 x.2.2 0 0
def RRowsOK (m : List UInt8) (f : Nat) : Prop :=
 ∀ (w : World) (rb i g : Nat) (y : Except (Nat × Nat) (Tr × Nat × Nat)), readerAt w rb m i g 0 0 → i ≤ m.length → g ≤ 9 → pM m f true i g = some y →
  Calls Tryz.prog 74 #[.pointer (some ⟨rb, 0, none⟩)] w (rrowsPost rb m y w)
def aOut (m : List UInt8) (f i g : Nat) (c : UInt8) : Out (Item × Nat × Nat) :=
 if c.toNat = 40 then
  if g = 9 then some (.error (2, i))
  else bindO (pM m f true (i + 1) (g + 1)) fun x => if isAt m x.2.1 41 then some (.ok (.grp g x.1 0, x.2.1 + 1, x.2.2)) else some (.error (1, x.2.1))
 else bindO (pSet m i c) fun x => some (.ok (.set x.1 0, x.2, g))
def apost (rb : Nat) (m : List UInt8) (y : Except (Nat × Nat) (Item × Nat × Nat)) (w : World) (e : Ending) (w' : World) : Prop :=
 Kept2 rb rb w w' ∧ ∃ (gr : Bool) (so : Option Addr) (sn sc : Nat) (nm : Int) (ro : Option Addr) (rn rc : Nat), e = .returned (pieceV gr (.slice so sn sc) nm (.slice ro rn rc) 0) ∧ match y with
  | .error x => ∃ j h, readerAt w' rb m j h x.1 x.2
  | .ok x => itemAt w' (fun b => w.heap.size ≤ b) x.1 (pieceC5 gr (.slice so sn sc) nm (.slice ro rn rc) 0) ∧ readerAt w' rb m x.2.1 x.2.2 0 0
theorem apost_of {rb : Nat} {m : List UInt8} {g : Nat} {y : Except (Nat × Nat) ((UInt8 → Bool) × Nat)} {w : World} {e : Ending} {w' : World} (h : ratomPost rb m g y w e w') :
  apost rb m (match y with | .error x => .error x | .ok x => .ok (.set x.1 0, x.2, g)) w e w' := by
 obtain ⟨h1, v, rfl, h2⟩ := h
 refine ⟨h1, ?_⟩
 cases y with
 | error x =>
  obtain ⟨rfl, j, h3⟩ := h2
  exact ⟨false, none, 0, 0, 0, none, 0, 0, rfl, j, g, h3⟩
 | ok x =>
  obtain ⟨sv, rfl, ⟨b, rfl, hb, hs⟩, h3⟩ := h2
  exact ⟨false, some ⟨b, 0, none⟩, 256, 256, 0, none, 0, 0, rfl, ⟨b, rfl, hb, hs⟩, h3⟩
set_option maxRecDepth 20000 in
set_option maxHeartbeats 4000000 in
theorem ratom_group (w : World) (rb : Nat) (m : List UInt8) (i g : Nat) (c : UInt8) (hr : readerAt w rb m i g 0 0) (hc : m[i]? = some c) (hm : m.length ≤ 1000) (hq : c.toNat = 40) {f : Nat} (hf : RRowsOK m f) (hg : g ≤ 9) (y : Except (Nat × Nat) (Item × Nat × Nat)) (hy : aOut m f i g c = some y) :
  Calls Tryz.prog 106 #[.pointer (some ⟨rb, 0, none⟩)] w (apost rb m y w) := by
 have hrb := lt_of_block hr
 have hi := get_lt hc
 have hget : m[i] = c := by rw [List.getElem?_eq_getElem hi] at hc; exact Option.some.inj hc
 have HI40 : Hid (isAt m i 40 = true) := by show _ = _; simp [isAt, hc, hq]
 have HI46 : Hid (isAt m i 46 = false) := by show _ = _; simp [isAt, hc]; omega
 have HI92 : Hid (isAt m i 92 = false) := by show _ = _; simp [isAt, hc]; omega
 have HI91 : Hid (isAt m i 91 = false) := by show _ = _; simp [isAt, hc]; omega
 obtain ⟨A, HA⟩ : ∃ A, Hid (A = w.alloc (.cells pieceZ 155)) := ⟨_, hide rfl⟩
 have hA := AtS.first hr HA.out
 obtain ⟨c0, c1, c2, c3, c4⟩ := five_cells hA.rd
 have HAS : Hid (∀ n, AtS w rb m i g 0 0 (A.drewN n)) := hide fun n => ⟨hA.kept.drewN, hA.size, hA.out, hA.rd⟩
 have eA := HA.out.symm
 have HY : Hid ((if g = 9 then some (.error (2, i)) else bindO (pM m f true (i + 1) (g + 1)) fun x => if isAt m x.2.1 41 then some (.ok (.grp g x.1 0, x.2.1 + 1, x.2.2)) else some (.error (1, x.2.1))) = some y) := by
  show _ = _
  rw [← hy]
  unfold aOut
  rw [if_pos hq]
 clear hr hc HA hA c2 c3 c4 hq hy
 go_enter Tryz.func106, Tryz.ntmps106
 go_wp2
 go_quiet (fail)
 have H0 := hide (HAS.out nq)
 clear eA HAS c0 c1
 go_wp2_with fail
 refine (rmay_any _ rb m i g 0 0 46 46 rfl (by decide) (by omega) H0.out.rd).mono ?_
 rintro en w1 ⟨rfl, hk, hr1⟩
 have h1 := H0.out.on hrb hk hr1
 rw [HI46.out] at h1 ⊢
 simp only [onIf] at h1
 have H1 := hide h1
 clear hk hr1 h1 H0
 go_wp2_with fail
 refine (rmay_any _ rb m i g 0 0 92 92 rfl (by decide) (by omega) H1.out.rd).mono ?_
 rintro en w2 ⟨rfl, hk, hr1⟩
 have h1 := H1.out.on hrb hk hr1
 rw [HI92.out] at h1 ⊢
 simp only [onIf] at h1
 have H2 := hide h1
 clear hk hr1 h1 H1
 go_wp2_with fail
 refine (rmay_any _ rb m i g 0 0 91 91 rfl (by decide) (by omega) H2.out.rd).mono ?_
 rintro en w3 ⟨rfl, hk, hr1⟩
 have h1 := H2.out.on hrb hk hr1
 rw [HI91.out] at h1 ⊢
 simp only [onIf] at h1
 have H3 := hide h1
 clear hk hr1 h1 H2
 go_wp2_with fail
 refine (ris_any _ rb m i g 0 0 40 40 rfl (by decide) H3.out.rd).mono ?_
 rintro en w4 ⟨rfl, nd, rfl⟩
 have h1 := H3.out.on hrb (Kept2.drewN (n := nd) (.refl _ _ _)) H3.out.rd.draw
 rw [HI40.out]
 obtain ⟨W4, HW4⟩ : ∃ W4, Hid (W4 = World.drewN w3 nd) := ⟨_, hide rfl⟩
 rw [← HW4.out] at h1 ⊢
 have H4 := hide h1
 clear h1 H3 HW4
 obtain ⟨k0, k1, k2, k3, k4⟩ := five_cells H4.out.rd
 by_cases h9 : g = 9
 ·
  have HE : Hid (y = .error (2, i)) := by
   show _ = _
   have h := HY.out
   rw [if_pos h9] at h
   exact (Option.some.inj h).symm
  have h92 : ((g : Int) == 9) = true := by simp [h9]
  clear h9 HY
  go_wp2_with fail
  refine (wrong_any _ rb m i g 2 (i : Int) 2 i rfl rfl H4.out.rd).mono ?_
  rintro en w6 ⟨rfl, hk3, hr3⟩
  have H6 := hide (H4.out.on hrb hk3 hr3)
  clear hk3 hr3
  obtain ⟨⟨r0, r1, r2, r3, r4⟩, rf⟩ := H6.out.cells
  have z0 := rf 0
  have z1 := rf 1
  have z2 := rf 2
  have z3 := rf 3
  have z4 := rf 4
  obtain ⟨Z, eZ, hk, ho, hrd, hkb⟩ := H6.out.store hrb (.bool false) (.slice none 0 0) (.int .i64 0) (.slice none 0 0) (.int .u8 0)
  have HO := hide ho
  have HK := hide hk
  have HRD := hide hrd
  have HKB := hide hkb
  clear rf hk ho hrd hkb
  go_wp2
  refine bodyPost_ret (v := pieceV false (.slice none 0 0) 0 (.slice none 0 0) 0) (results_cell_row (p := 2) (ty := 155) rfl _ _ w.heap.size _ _ _ _ rfl HO.out Tryz.underlying155 rfl Tryz.infoPiece) rfl ⟨HK.out, false, none, 0, 0, 0, none, 0, 0, rfl, by rw [HE.out]; exact ⟨i, g, HRD.out⟩⟩
 ·
  have h92 : ((g : Int) == 9) = false := by simp; omega
  have HY2 : Hid (bindO (pM m f true (i + 1) (g + 1)) (fun x => if isAt m x.2.1 41 then some (.ok (.grp g x.1 0, x.2.1 + 1, x.2.2)) else some (.error (1, x.2.1))) = some y) := by
   have h := HY.out
   rw [if_neg h9] at h
   exact hide h
  have HG9 := hide h9
  clear h9 HY
  have kf1 := not_frozen (k := 1) H4.out.rd
  have kf2 := not_frozen (k := 2) H4.out.rd
  obtain ⟨W5, HW5⟩ : ∃ W5, Hid (W5 = (W4.setCell ⟨rb, 1, none⟩ (.int .i64 ((i : Int) + 1))).setCell ⟨rb, 2, none⟩ (.int .i64 ((g : Int) + 1))) := ⟨_, hide rfl⟩
  have hr5 : readerAt W5 rb m (i + 1) (g + 1) 0 0 := by
   unfold readerAt
   rw [HW5.out, set_blk (set_blk H4.out.rd _)]
   rfl
  have h5 : AtS w rb m (i + 1) (g + 1) 0 0 W5 := H4.out.on hrb (by rw [HW5.out]; exact (Kept2.setT _ _).trans (Kept2.setT _ _)) hr5
  have H5 := hide h5
  have hwr : IntKind.i64.wrap ((i : Int) + 1) = (i : Int) + 1 := wrap_i64_small _ (by omega) (by omega)
  have hwr2 : IntKind.i64.wrap ((g : Int) + 1) = (g : Int) + 1 := wrap_i64_small _ (by omega) (by omega)
  have eW5 := HW5.out.symm
  obtain ⟨m0, m1, m2, m3, m4⟩ := five_cells hr5
  have hs5 := h5.size
  clear hr5 h5 H4 HW5
  go_wp2_with fail
  clear eW5 k0 k1 k2 k3 k4 kf1 kf2 m0 m1 m3 m4
  rcases bindO_eq HY2.out with ⟨x, hx, rfl⟩ | ⟨x, hx, hy3⟩
  ·
   refine (hf W5 rb (i + 1) (g + 1) _ H5.out.rd (by omega) (by have := HG9.out; omega) hx).mono ?_
   rintro en w6 ⟨hk6, v6, k6, ys6, rfl, ho6, j6, g6, hr6⟩
   obtain ⟨ao6, cp6, rfl⟩ := own_shape ho6
   have hxe := eM hx
   have H6 := hide (H5.out.on hrb hk6 hr6)
   clear hk6 hr6 ho6 hx
   obtain ⟨n0, n1, n2, n3, n4⟩ := five_cells H6.out.rd
   have hxn : ((x.1 : Int) == 0) = false := by simp; omega
   obtain ⟨⟨r0, r1, r2, r3, r4⟩, rf⟩ := H6.out.cells
   have z0 := rf 0
   have z1 := rf 1
   have z2 := rf 2
   have z3 := rf 3
   have z4 := rf 4
   obtain ⟨Z, eZ, hk, ho, hrd, hkb⟩ := H6.out.store hrb (.bool true) (.slice none 0 0) (.int .i64 ((g : Int) + 1)) (.slice ao6 k6 cp6) (.int .u8 0)
   have HO := hide ho
   have HK := hide hk
   have HRD := hide hrd
   have HKB := hide hkb
   clear rf hk ho hrd hkb
   go_wp2
   refine bodyPost_ret (v := pieceV true (.slice none 0 0) ((g : Int) + 1) (.slice ao6 k6 cp6) 0) (results_cell_row (p := 2) (ty := 155) rfl _ _ w.heap.size _ _ _ _ rfl HO.out Tryz.underlying155 rfl Tryz.infoPiece) rfl ⟨HK.out, true, none, 0, 0, ((g : Int) + 1), ao6, k6, cp6, rfl, j6, g6, HRD.out⟩
  ·
   have hxo := pM_ok hx (by omega)
   refine (hf W5 rb (i + 1) (g + 1) _ H5.out.rd (by omega) (by have := HG9.out; omega) hx).mono ?_
   rintro en w6 ⟨hk6, v6, k6, ys6, rfl, ho6, hc6, hr6⟩
   have HY3 := hide hy3
   obtain ⟨T, j, h⟩ := x
   simp only at hc6 hr6 hxo
   have H6 := hide (H5.out.on hrb hk6 hr6)
   have HO6 := hide ho6
   have HC6 := hide hc6
   have hs6 := hk6.size
   obtain ⟨ao6, cp6, rfl⟩ := own_shape ho6
   clear hk6 hr6 ho6 hc6 hy3 hx
   obtain ⟨n0, n1, n2, n3, n4⟩ := five_cells H6.out.rd
   go_wp2_with fail
   refine (rmay_any _ rb m j h 0 0 41 41 rfl (by decide) (by omega) H6.out.rd).mono ?_
   rintro en w7 ⟨rfl, hk7, hr7⟩
   have h7 := H6.out.on hrb hk7 hr7
   have hko : ∀ b, W5.heap.size ≤ b → b < w6.heap.size → w7.heap[b]? = w6.heap[b]? := fun b h1 h2 => hk7.block b h2 (by omega) (by omega)
   have HO7 : Hid (w7.ownsRow W5.heap.size 153 1 (.slice ao6 k6 cp6) k6 ys6) := hide (own_keep HO6.out fun b hb => hko b (HO6.out.lt b hb).1 (HO6.out.lt b hb).2)
   have HC7 : Hid (cellsAt w7 (fun b => W5.heap.size ≤ b ∧ (Value.slice ao6 k6 cp6).ownBlock ≠ some b) T ys6) := hide (HC6.out.keep fun b hb ha => ⟨ha, hko b ha.1 hb⟩)
   have hs7 := hk7.size
   clear hk7 hr7 hko H6
   obtain ⟨bo, HBO⟩ : ∃ bo, Hid (isAt m j 41 = bo) := ⟨_, hide rfl⟩
   rw [HBO.out] at h7 ⊢
   have HY4 : Hid ((if bo then some (.ok (.grp g T 0, j + 1, h)) else some (.error (1, j))) = some y) := by
    have hh := HY3.out
    rw [HBO.out] at hh
    exact hide hh
   cases bo with
   | true =>
    simp only [onIf] at h7
    have H7 := hide h7
    have HE : Hid (y = .ok (.grp g T 0, j + 1, h)) := hide (Option.some.inj HY4.out).symm
    clear h7
    obtain ⟨⟨r0, r1, r2, r3, r4⟩, rf⟩ := H7.out.cells
    have z0 := rf 0
    have z1 := rf 1
    have z2 := rf 2
    have z3 := rf 3
    have z4 := rf 4
    obtain ⟨Z, eZ, hk, ho, hrd, hkb⟩ := H7.out.store hrb (.bool true) (.slice none 0 0) (.int .i64 ((g : Int) + 1)) (.slice ao6 k6 cp6) (.int .u8 0)
    have HO := hide ho
    have HK := hide hk
    have HRD := hide hrd
    have HKB := hide hkb
    clear rf hk ho hrd hkb
    have HO8 : Hid (Z.ownsRow w.heap.size 153 1 (.slice ao6 k6 cp6) k6 ys6) := hide (own_le (own_keep HO7.out fun b hb => HKB.out b (by have := (HO7.out.lt b hb).1; omega)) (by omega))
    have HC8 : Hid (cellsAt Z (fun b => w.heap.size ≤ b) T ys6) := hide (HC7.out.keep fun b hb ha => ⟨by omega, HKB.out b (by omega)⟩)
    go_wp2
    refine bodyPost_ret (v := pieceV true (.slice none 0 0) ((g : Int) + 1) (.slice ao6 k6 cp6) 0) (results_cell_row (p := 2) (ty := 155) rfl _ _ w.heap.size _ _ _ _ rfl HO.out Tryz.underlying155 rfl Tryz.infoPiece) rfl ⟨HK.out, true, none, 0, 0, ((g : Int) + 1), ao6, k6, cp6, rfl, by rw [HE.out]; exact ⟨⟨_, _, _, rfl, own_le HO8.out (by omega), fun b hb => (HO8.out.lt b hb).1, HC8.out⟩, HRD.out⟩⟩
   | false =>
    simp only [onIf] at h7
    have H7 := hide h7
    have HE : Hid (y = .error (1, j)) := hide (Option.some.inj HY4.out).symm
    clear h7
    obtain ⟨o0, o1, o2, o3, o4⟩ := five_cells H7.out.rd
    go_wp2_with fail
    refine (wrong_any _ rb m j h 1 (j : Int) 1 j rfl rfl H7.out.rd).mono ?_
    rintro en w8 ⟨rfl, hk3, hr3⟩
    have H8 := hide (H7.out.on hrb hk3 hr3)
    clear hk3 hr3
    obtain ⟨⟨r0, r1, r2, r3, r4⟩, rf⟩ := H8.out.cells
    have z0 := rf 0
    have z1 := rf 1
    have z2 := rf 2
    have z3 := rf 3
    have z4 := rf 4
    obtain ⟨Z, eZ, hk, ho, hrd, hkb⟩ := H8.out.store hrb (.bool true) (.slice none 0 0) (.int .i64 ((g : Int) + 1)) (.slice ao6 k6 cp6) (.int .u8 0)
    have HO := hide ho
    have HK := hide hk
    have HRD := hide hrd
    have HKB := hide hkb
    clear rf hk ho hrd hkb
    go_wp2
    refine bodyPost_ret (v := pieceV true (.slice none 0 0) ((g : Int) + 1) (.slice ao6 k6 cp6) 0) (results_cell_row (p := 2) (ty := 155) rfl _ _ w.heap.size _ _ _ _ rfl HO.out Tryz.underlying155 rfl Tryz.infoPiece) rfl ⟨HK.out, true, none, 0, 0, ((g : Int) + 1), ao6, k6, cp6, rfl, by rw [HE.out]; exact ⟨j, h, HRD.out⟩⟩
def spotC (k a b n : Int) (sv : Value) : List Value := [.int .i64 k, .int .i64 a, .int .i64 b, .int .i64 n, sv]
def spotAt (w : World) : Kind → List Value → Prop
 | .fin, xs => xs = spotC 0 0 0 0 (.slice none 0 0)
 | .take s nx, xs => ∃ b, xs = spotC 1 nx 0 0 (.slice (some ⟨b, 0, none⟩) 256 256) ∧ boolsAt w b (boolRow s)
 | .fork [x, y], xs => xs = spotC 2 x y 0 (.slice none 0 0)
 | .fork _, xs => False
 | .mark sl nx, xs => xs = spotC (if sl % 2 = 0 then 3 else 4) nx 0 (sl / 2 + 1 : Nat) (.slice none 0 0)
def spotsAt (w : World) : List Kind → List Value → Prop
 | [], xs => xs = []
 | k :: L, xs => ∃ ys l, xs = ys ++ l ∧ spotAt w k ys ∧ spotsAt w L l
structure LFrame (B : Nat) (w w' : World) : Prop where
 os : w'.os = w.os
 tape : w'.tape = w.tape
 output : w'.output = w.output
 size : w.heap.size ≤ w'.heap.size
 low : ∀ k, k < B → k < w.heap.size → w'.heap[k]? = w.heap[k]?
 kind : ∀ (k : Nat) (c : Array Value) (t : TypeId) (fr : Nat × Nat), w.heap[k]? = some (.cells c t fr) → t ≠ 117 → t ≠ 122 → w'.heap[k]? = some (.cells c t fr)
theorem LFrame.refl (B : Nat) (w : World) : LFrame B w w := ⟨rfl, rfl, rfl, Nat.le_refl _, fun _ _ _ => rfl, fun _ _ _ _ h _ _ => h⟩
theorem LFrame.trans {B : Nat} {a b c : World} (h : LFrame B a b) (k : LFrame B b c) : LFrame B a c :=
 ⟨k.os.trans h.os, k.tape.trans h.tape, k.output.trans h.output, Nat.le_trans h.size k.size, fun i h1 h2 => (k.low i h1 (Nat.lt_of_lt_of_le h2 h.size)).trans (h.low i h1 h2), fun i c t fr h1 h2 h3 => k.kind i c t fr (h.kind i c t fr h1 h2 h3) h2 h3⟩
theorem LFrame.grow {B : Nat} {a b : World} (h : Grow a b) : LFrame B a b := ⟨h.os, h.tape, h.output, h.size, fun k _ h2 => h.block k h2, fun k c t fr h1 _ _ => h.get h1⟩
theorem boolsAt.frame {B : Nat} {w w' : World} {b : Nat} {l : List Bool} (h : boolsAt w b l) (k : LFrame B w w') : boolsAt w' b l := k.kind _ _ _ _ h (by decide) (by decide)
theorem own_frame {B C e size n : Nat} {w w' : World} {v : Value} {xs : List Value} (h : w.ownsRow C e size v n xs) (k : LFrame B w w') (h1 : e ≠ 117) (h2 : e ≠ 122) : w'.ownsRow C e size v n xs := by
 refine own_keep h fun g hg => ?_
 rcases h.2 with ⟨rfl, _⟩ | ⟨b, cap, cur, rfl, _, hb, _⟩
 ·
  cases hg
 ·
  simp [Value.ownBlock] at hg
  subst hg
  rw [hb]
  exact k.kind _ _ _ _ hb h1 h2
theorem cellsAt.frame {B : Nat} {w w' : World} (k : LFrame B w w') : ∀ {T : Tr} {xs : List Value}, cellsAt w (fun _ => True) T xs → cellsAt w' (fun _ => True) T xs
 | .nil, xs, h => h
 | .set s sg rest, xs, h => by
  obtain ⟨b, l, h1, h2, h3, h4⟩ := h
  exact ⟨b, l, h1, h2, h3.frame k, h4.frame k⟩
 | .grp n rows sg rest, xs, h => by
  obtain ⟨rv, kk, ys, l, h1, h2, h3, h4, h5⟩ := h
  exact ⟨rv, kk, ys, l, h1, own_frame h2 k (by decide) (by decide), h3, h4.frame k, h5.frame k⟩
 | .row r rest, xs, h => by
  obtain ⟨v, kk, ys, l, h1, h2, h3, h4, h5⟩ := h
  exact ⟨v, kk, ys, l, h1, own_frame h2 k (by decide) (by decide), h3, h4.frame k, h5.frame k⟩
theorem cellsAt.any {w : World} {A : Nat → Prop} {T : Tr} {xs : List Value} (h : cellsAt w A T xs) : cellsAt w (fun _ => True) T xs := h.keep fun _ _ _ => ⟨trivial, rfl⟩
theorem spotAt.frame {B : Nat} {w w' : World} (k : LFrame B w w') : ∀ {kd : Kind} {xs : List Value}, spotAt w kd xs → spotAt w' kd xs
 | .fin, xs, h => h
 | .take s nx, xs, ⟨b, h1, h2⟩ => ⟨b, h1, h2.frame k⟩
 | .fork [], xs, h => h
 | .fork [x], xs, h => h
 | .fork [x, y], xs, h => h
 | .fork (x :: y :: z :: l), xs, h => h
 | .mark sl nx, xs, h => h
theorem spotsAt.frame {B : Nat} {w w' : World} (k : LFrame B w w') : ∀ {L : List Kind} {xs : List Value}, spotsAt w L xs → spotsAt w' L xs
 | [], xs, h => h
 | kd :: L, xs, h => by
  obtain ⟨ys, l, h1, h2, h3⟩ := h
  exact ⟨ys, l, h1, h2.frame k, h3.frame k⟩
theorem spotAt.length {w : World} : ∀ {kd : Kind} {xs : List Value}, spotAt w kd xs → xs.length = 5
 | .fin, xs, h => by rw [h]; rfl
 | .take s nx, xs, ⟨b, h, _⟩ => by rw [h]; rfl
 | .fork [], xs, h => h.elim
 | .fork [x], xs, h => h.elim
 | .fork [x, y], xs, h => by rw [h]; rfl
 | .fork (x :: y :: z :: l), xs, h => h.elim
 | .mark sl nx, xs, h => by rw [h]; rfl
theorem spotsAt_snoc {w : World} {kd : Kind} {ys : List Value} (hi : spotAt w kd ys) : ∀ {L : List Kind} {xs : List Value}, spotsAt w L xs → spotsAt w (L ++ [kd]) (xs ++ ys)
 | [], xs, h => by
  obtain rfl : xs = [] := h
  exact ⟨ys, [], by simp, hi, rfl⟩
 | x :: L, xs, h => by
  obtain ⟨zs, l, rfl, h1, h2⟩ := h
  exact ⟨zs, l ++ ys, by simp, h1, spotsAt_snoc hi h2⟩
theorem spotsAt_get {w : World} : ∀ {L : List Kind} {xs : List Value}, spotsAt w L xs → xs.length = L.length * 5 ∧ ∀ (k : Nat) (kd : Kind), L[k]? = some kd → ∃ ys, spotAt w kd ys ∧ ∀ j, j < 5 → xs[k * 5 + j]? = ys[j]?
 | [], xs, h => by
  obtain rfl : xs = [] := h
  exact ⟨rfl, fun k it hk => by simp at hk⟩
 | x :: L, xs, h => by
  obtain ⟨zs, r, rfl, h1, h2⟩ := h
  obtain ⟨h3, h4⟩ := spotsAt_get h2
  have hz := h1.length
  refine ⟨by simp [hz, h3]; omega, fun k it hk => ?_⟩
  cases k with
  | zero =>
   simp at hk
   subst hk
   exact ⟨zs, h1, fun j hj => by rw [List.getElem?_append_left (by omega)]; simp⟩
  | succ k =>
   obtain ⟨ys, h5, h6⟩ := h4 k it (by simpa using hk)
   refine ⟨ys, h5, fun j hj => ?_⟩
   rw [List.getElem?_append_right (by omega), ← h6 j hj, show (k + 1) * 5 + j - zs.length = k * 5 + j by omega]
theorem spotsAt_fork {w : World} {y x : Nat} : ∀ {L : List Kind} {xs : List Value} {k a : Nat}, spotsAt w L xs → L[k]? = some (.fork [a, y]) → spotsAt w (L.set k (.fork [x, y])) (xs.set (k * 5 + 1) (.int .i64 x))
 | [], xs, k, a, h, hk => by simp at hk
 | z :: L, xs, 0, a, h, hk => by
  obtain ⟨zs, r, rfl, h1, h2⟩ := h
  simp at hk
  subst hk
  obtain rfl : zs = _ := h1
  exact ⟨spotC 2 x y 0 (.slice none 0 0), r, by simp [spotC], rfl, h2⟩
 | z :: L, xs, k + 1, a, h, hk => by
  obtain ⟨zs, r, rfl, h1, h2⟩ := h
  have hz := h1.length
  refine ⟨zs, r.set (k * 5 + 1) (.int .i64 x), ?_, h1, spotsAt_fork h2 (by simpa using hk)⟩
  rw [List.set_append_right _ _ (by omega), show (k + 1) * 5 + 1 - zs.length = k * 5 + 1 by omega]
def layAt (w : World) (B lb : Nat) (L : List Kind) : Prop :=
 ∃ sv xs, w.heap[lb]? = some (.cells #[sv] 117 (0, 0)) ∧ B ≤ lb ∧ w.ownsRow B 122 5 sv L.length xs ∧ spotsAt w L xs
theorem layAt.grow {w w' : World} {B lb : Nat} {L : List Kind} (h : layAt w B lb L) (g : Grow w w') : layAt w' B lb L := by
 obtain ⟨sv, xs, h1, h2, h3, h4⟩ := h
 exact ⟨sv, xs, g.get h1, h2, own_grow h3 g, h4.frame (.grow (B := 0) g)⟩
theorem Tryz.infoSp : (Tryz.prog.info? 122).any (fun i => i.size == 5 && i.bytes == 56 && (match i.zero with | some z => z.cells.size == 5 | none => false)) = true := by kernel_rfl
theorem spotC_oneCell {k a b n : Int} {so : Option Addr} {sn sc : Nat} : ∀ u ∈ spotC k a b n (.slice so sn sc), u.oneCell' = true := by
 intro u hu
 simp [spotC] at hu
 rcases hu with rfl | rfl | rfl | rfl | rfl <;> rfl
set_option maxRecDepth 20000 in
set_option maxHeartbeats 4000000 in
theorem put_any (w : World) (B lb : Nat) (L : List Kind) (kd : Kind) (k a b n : Int) (so : Option Addr) (sn sc : Nat) (hl : layAt w B lb L) (hk : spotAt w kd (spotC k a b n (.slice so sn sc))) (hL : L.length ≤ 100000) :
  Calls Tryz.prog 79 #[.pointer (some ⟨lb, 0, none⟩), .agg #[.int .i64 k, .int .i64 a, .int .i64 b, .int .i64 n, .slice so sn sc]] w fun e w' => e = .returned (.int .i64 L.length) ∧ LFrame B w w' ∧ layAt w' B lb (L ++ [kd]) := by
 obtain ⟨sv, xs, hlb, hB, hrow, hsp⟩ := hl
 obtain ⟨ao, cp, rfl⟩ := own_shape hrow
 obtain ⟨i0, z0, hinf, hz0, hz1, hz2, hz3⟩ := info_some Tryz.infoSp
 obtain ⟨W, HW⟩ : ∃ W, Hid (W = w.alloc (.cells #[.int .i64 k, .int .i64 a, .int .i64 b, .int .i64 n, .slice so sn sc] 122)) := ⟨_, hide rfl⟩
 have gW : Grow w W := by rw [HW.out]; exact (Grow.refl _).alloc _
 have hWb : W.heap[w.heap.size]? = some (.cells #[.int .i64 k, .int .i64 a, .int .i64 b, .int .i64 n, .slice so sn sc] 122 (0, 0)) := by rw [HW.out]; exact heap_alloc_new _ _
 have hWs : W.heap.size = w.heap.size + 1 := by rw [HW.out]; simp
 have hlW := gW.get hlb
 have hrW := own_grow hrow gW
 have hno : (Value.slice ao L.length cp).ownBlock ≠ some lb := own_apart hrow hlb (by decide)
 have hno2 : (Value.slice ao L.length cp).ownBlock ≠ some w.heap.size := fun e => by have := (hrow.lt _ e).2; omega
 have hlbs := lt_of_block hlb
 have HRW := hide hrW
 have HWB := hide hWb
 have HLW := hide hlW
 have HSP := hide hsp
 have HKD := hide hk
 have HGW := hide gW
 have HBO := hide (fun q (h : (Value.slice ao L.length cp).ownBlock = some q) => hrow.lt q h)
 have eW := HW.out.symm
 clear hrow hrW hWb hlW hlb hsp hk gW HW
 go_enter Tryz.func79, Tryz.ntmps79
 go_wp2_with fail
 clear eW
 refine wp_region_state 10 21 Tryz.mixed2 rfl (by decide +kernel) (fun Ls vals w' => appJ W B 122 5 (.slice ao L.length cp) L.length 1 xs (spotC k a b n (.slice so sn sc)) (Ls 7) (vals 7) w' ∧ newJ W 122 (spotC k a b n (.slice so sn sc)).toArray (Ls 6) (vals 6) w')
  (fun Ls vals h => ?_)
  (fun j v => match j with
   | 0 => v = .pointer (some ⟨lb, 0, none⟩)
   | 1 => v = .pointer (some ⟨lb, 0, none⟩)
   | 2 => v = .pointer (some ⟨lb, 0, none⟩)
   | 3 => v = .pointer (some ⟨lb, 0, none⟩)
   | 4 => v = .slice ao L.length cp
   | 5 => v = .agg #[.int .i64 k, .int .i64 a, .int .i64 b, .int .i64 n, .slice so sn sc]
   | 6 => True
   | 7 => ∃ ao' cp', v = .slice ao' (L.length + 1) cp'
   | 8 => v = .pointer (some ⟨lb, 0, none⟩)
   | _ => v = .pointer (some ⟨lb, 0, none⟩))
  (fun _ _ => False) (fun _ _ _ _ h => h.elim) (fun j hi o ho a2 w2 Ls vals hLi hLc hLe hJ hoff hval hdep => ?_) (fun vals w2 Ls hLs hJ hvals => ?_)
 ·
  simp only [h]
  exact ⟨⟨⟨rfl, rfl, rfl, Nat.le_refl _, fun _ _ _ => rfl⟩, fun _ => HRW.out, fun h => by cases h⟩, fun h => by cases h⟩
 ·
  have hblk := grown_block hJ.1.1 HLW.out hno
  have hbox := grown_block hJ.1.1 HWB.out hno2
  have c0 := cell_of_one hblk
  obtain ⟨b0, b1, b2, b3, b4⟩ := five_cells hbox
  match j, hi with
  | 0, _ =>
   obtain rfl := Option.some.inj ho
   have o0 := hoff 0 (by decide +kernel)
   simp at o0
   simp [opYields, go_sem, o0]
   exact hJ
  | 1, _ =>
   obtain rfl := Option.some.inj ho
   have o0 := hoff 0 (by decide +kernel)
   simp at o0
   simp [opYields, go_sem, o0]
   exact hJ
  | 2, _ =>
   obtain rfl := Option.some.inj ho
   have d1 := hdep 1 (by decide +kernel)
   simp [slotOf, dstOf] at d1
   simp [opYields, go_sem, d1]
   exact hJ
  | 3, _ =>
   obtain rfl := Option.some.inj ho
   have d2 := hdep 2 (by decide +kernel)
   simp [slotOf, dstOf] at d2
   simp [opYields, go_sem, d2]
   exact hJ
  | 4, _ =>
   obtain rfl := Option.some.inj ho
   have d3 := hdep 3 (by decide +kernel)
   simp [slotOf, dstOf] at d3
   simp [opYields, go_sem, d3, c0]
   exact hJ
  | 5, _ =>
   obtain rfl := Option.some.inj ho
   have o3 := hoff 3 (by decide +kernel)
   simp at o3
   simp [opYields, go_sem, o3, b0, b1, b2, b3, b4]
   exact hJ
  | 6, _ =>
   obtain rfl := Option.some.inj ho
   have d5 := hdep 5 (by decide +kernel)
   simp [slotOf, dstOf] at d5
   simp [opYields, go_sem, d5]
   exact ⟨hJ.1.grow ((Grow.refl _).alloc _), fun _ => ⟨_, rfl, hJ.1.1.size, heap_alloc_new _ _⟩⟩
  | 7, _ =>
   obtain rfl := Option.some.inj ho
   have h6 := hLe 6 (by decide +kernel)
   have d4 := hdep 4 (by decide +kernel)
   have v6 := hval 6 (by decide +kernel)
   simp [slotOf, dstOf] at d4 v6
   have hown2 := hJ.1.2.1 hLi
   obtain ⟨nb, hx, hnb, hcell2⟩ := hJ.2 h6
   rw [hx] at v6
   obtain ⟨v', w3, hrun, hown3, hgrow, hnew⟩ := run_append_new (P := Tryz.prog) w2 B 115 115 122 i0 z0 5 56 Tryz.underlying115 hinf hz0 hz1 hz2 hz3 (by omega) _ L.length xs hown2 ⟨nb, 0, none⟩ 1 1 (spotC k a b n (.slice so sn sc)) rfl (fun q u hu => by
    rw [Addr.add_lit]
    exact cell_in hcell2 (by simpa using hu)) spotC_oneCell (by unfold maxLen; omega) (by omega) (by have := hJ.1.1.size; omega)
   refine yields_append rfl (.tmp 9) (.tmp 11) _ _ rfl (v1 := .slice ao L.length cp) (v2 := .slice (some ⟨nb, 0, none⟩) 1 1) (by simpa [Act.eval] using d4) (by simpa [Act.eval] using v6) hrun ?_
   obtain ⟨ao', cp', rfl⟩ := own_shape hown3
   refine ⟨⟨⟨grown_trans hJ.1.1 hgrow, fun h => by simp at h, fun _ => ⟨hown3, ?_⟩⟩, ?_⟩, ao', cp', rfl⟩
   ·
    rcases hnew with h | ⟨g', h, h2⟩
    ·
     exact .inl h
    ·
     exact .inr ⟨g', h, Nat.le_trans hJ.1.1.size h2⟩
   ·
    exact hJ.2.grown hgrow (fun q hq => (HRW.out.lt q hq).2)
  | 8, _ =>
   obtain rfl := Option.some.inj ho
   have d0 := hdep 0 (by decide +kernel)
   simp [slotOf, dstOf] at d0
   simp [opYields, go_sem, d0]
   exact hJ
  | 9, _ =>
   obtain rfl := Option.some.inj ho
   have d8 := hdep 8 (by decide +kernel)
   simp [slotOf, dstOf] at d8
   simp [opYields, go_sem, d8]
   exact hJ
  | q + 10, h => exact absurd h (by omega)
 ·
  have hblk := grown_block hJ.1.1 HLW.out hno
  have h7 := hLs 7 (by omega)
  obtain ⟨hown3, hnew⟩ := hJ.1.2.2 h7
  obtain ⟨ao', cp', v7⟩ := hvals 7 (by omega)
  have v9 := hvals 9 (by omega)
  simp only at v9
  rw [v7] at hown3 hnew
  have c0 := cell_of_one hblk
  have z0 := not_frozen (k := 0) hblk
  have H3 := hide hown3
  have HG := hide hJ.1.1
  have HBL := hide hblk
  clear hvals hown3 hnew hJ hblk
  simp [over, dstOf, Act.put, v7, v9]
  obtain ⟨W2, HW2⟩ : ∃ W2, Hid (W2 = w2.setCell ⟨lb, 0, none⟩ (.slice ao' (L.length + 1) cp')) := ⟨_, hide rfl⟩
  have hb2 : W2.heap[lb]? = some (.cells #[.slice ao' (L.length + 1) cp'] 117 (0, 0)) := by
   rw [HW2.out, set_blk HBL.out]; simp
  have k0 := cell_of_one hb2
  have HB2 := hide hb2
  have hwr : IntKind.i64.wrap ((L.length : Int) + 1 - 1) = L.length := by rw [wrap_i64_small _ (by omega) (by omega)]; omega
  have eW2 := HW2.out.symm
  clear hb2
  go_wp2
  go_ret
  have hs2 : W2.heap.size = w2.heap.size := by rw [HW2.out]; simp [World.setCell]
  have hset : ∀ q, q ≠ lb → W2.heap[q]? = w2.heap[q]? := fun q hq => by rw [HW2.out]; exact Below.heap_setCell _ _ _ _ hq
  have hWsz := HG.out.size
  have hlow : ∀ q, q < w.heap.size → q ≠ lb → some q ≠ (Value.slice ao L.length cp).ownBlock → W2.heap[q]? = w.heap[q]? := fun q h1 h2 h3 => by
   rw [hset q h2, HG.out.block q (by omega) h3, HGW.out.block q h1]
  have hframe : LFrame B w W2 := by
   refine ⟨by rw [HW2.out]; exact HG.out.os.trans HGW.out.os, by rw [HW2.out]; exact HG.out.tape.trans HGW.out.tape, by rw [HW2.out]; exact HG.out.output.trans HGW.out.output, by omega, fun q h1 h2 => hlow q h2 (by omega) (fun e => by have := (HBO.out q e.symm).1; omega), fun q c t fr h1 h2 h3 => ?_⟩
   have hq := lt_of_block h1
   rw [hlow q hq ?_ ?_]
   ·
    exact h1
   ·
    rintro rfl
    have e := HGW.out.get h1
    rw [HLW.out] at e
    simp at e
    exact h2 e.2.1.symm
   ·
    intro e
    exact own_apart HRW.out (HGW.out.get h1) (fun e => h3 e.symm) e.symm
  refine ⟨ret_int rfl, hframe, .slice ao' (L.length + 1) cp', xs ++ spotC k a b n (.slice so sn sc), HB2.out, hB, ?_, spotsAt_snoc (HKD.out.frame hframe) (HSP.out.frame hframe)⟩
  have hpn : (Value.slice ao' (L.length + 1) cp').ownBlock ≠ some lb := own_apart H3.out HBL.out (by decide)
  rw [HW2.out, List.length_append]
  exact ownsRow_setCell_other (a := ⟨lb, 0, none⟩) H3.out hpn _
end Go.Proofs.YtndpjdmfkhjiiaaGreatDoor
namespace Go.Proofs.YtndpjdmfkhjiiaaGreatDoor
open Go.RowKit
/-! ### what was tried -/
def spentG (K : Nat → Kind) (t : List UInt8) (tr : List Bool) (f : Nat) : Prop :=
 ∀ n p, p ≤ t.length → tr[n * (t.length + 1) + p]? = some true → den K t f n p = none ∨ ∃ f', den K t f' n p = some none
def vainG (K : Nat → Kind) (t : List UInt8) (tr tr' : List Bool) : Prop :=
 ∀ n p, p ≤ t.length → tr'[n * (t.length + 1) + p]? = some true → tr[n * (t.length + 1) + p]? = some true ∨ ∃ f', den K t f' n p = some none
theorem spentG.down {K : Nat → Kind} {t : List UInt8} {tr : List Bool} {f : Nat} (h : spentG K t tr (f + 1)) : spentG K t tr f := by
 intro n p hp hk
 rcases h n p hp hk with h | h
 ·
  left
  cases hc : den K t f n p with
  | none => rfl
  | some z => rw [den_succ _ _ _ _ _ _ hc] at h; cases h
 ·
  exact .inr h
theorem spentG.put {K : Nat → Kind} {t : List UInt8} {tr : List Bool} {f n p : Nat} (h : spentG K t tr (f + 1)) (hp : p ≤ t.length) (hd : den K t f n p = none) : spentG K t (tr.set (n * (t.length + 1) + p) true) f := by
 intro n' p' hp' hk
 by_cases e : n * (t.length + 1) + p = n' * (t.length + 1) + p'
 ·
  obtain ⟨rfl, rfl⟩ := idx_inj e hp hp'
  exact .inl hd
 ·
  rw [List.getElem?_set_ne e] at hk
  exact h.down n' p' hp' hk
theorem vainG.refl (K : Nat → Kind) (t : List UInt8) (tr : List Bool) : vainG K t tr tr := fun n p _ h => .inl h
theorem vainG.trans {K : Nat → Kind} {t : List UInt8} {a b c : List Bool} (h : vainG K t a b) (k : vainG K t b c) : vainG K t a c := by
 intro n p hp hc
 rcases k n p hp hc with k | k
 ·
  exact h n p hp k
 ·
  exact .inr k
theorem spentG.vain {K : Nat → Kind} {t : List UInt8} {tr tr' : List Bool} {f : Nat} (h : spentG K t tr f) (k : vainG K t tr tr') : spentG K t tr' f := by
 intro n p hp hc
 rcases k n p hp hc with k | k
 ·
  exact h n p hp k
 ·
  exact .inr k
theorem vainG.note {K : Nat → Kind} {t : List UInt8} {tr tr' : List Bool} {f n p : Nat} (h : vainG K t tr tr') (hp : p ≤ t.length) (hd : den K t f n p = some none) : vainG K t tr (tr'.set (n * (t.length + 1) + p) true) := by
 intro n' p' hp' hk
 by_cases e : n * (t.length + 1) + p = n' * (t.length + 1) + p'
 ·
  obtain ⟨rfl, rfl⟩ := idx_inj e hp hp'
  exact .inr ⟨f, hd⟩
 ·
  rw [List.getElem?_set_ne e] at hk
  exact h n' p' hp' hk
theorem vainG.noted {K : Nat → Kind} {t : List UInt8} {tr tr' : List Bool} {f n p : Nat} (h : vainG K t (tr.set (n * (t.length + 1) + p) true) tr') (hp : p ≤ t.length) (hd : den K t f n p = some none) : vainG K t tr tr' := by
 intro n' p' hp' hk
 rcases h n' p' hp' hk with h | h
 ·
  by_cases e : n * (t.length + 1) + p = n' * (t.length + 1) + p'
  ·
   obtain ⟨rfl, rfl⟩ := idx_inj e hp hp'
   exact .inr ⟨f, hd⟩
  ·
   rw [List.getElem?_set_ne e] at h
   exact .inl h
 ·
  exact .inr h
/-! ### what is marked: the last place of each group's begin (0), or end (1) -/
def putE (odd : Nat) (F : List Int) : Evs → List Int
 | [] => F
 | (sl, p) :: l => putE odd (if sl % 2 = odd then F.set (sl / 2 + 1) p else F) l
theorem putE_get (odd : Nat) (ho : odd < 2) : ∀ (l : Evs) (F : List Int) (k : Nat), k + 1 < F.length → (putE odd F l)[k + 1]? = some (lastOf ((F[k + 1]?).getD 0) (2 * k + odd) l)
 | [], F, k, hk => by simp [putE, lastOf, hk]
 | (sl, p) :: l, F, k, hk => by
  rw [putE, putE_get odd ho l _ k (by split <;> simpa using hk), lastOf]
  congr 2
  by_cases h : sl % 2 = odd
  ·
   rw [if_pos h]
   by_cases e : sl = 2 * k + odd
   ·
    have : sl / 2 + 1 = k + 1 := by omega
    rw [if_pos e, this, List.getElem?_set_self hk]
    rfl
   ·
    rw [if_neg e, List.getElem?_set_ne (by omega)]
  ·
   rw [if_neg h, if_neg (by omega)]
/-! ### memory -/
structure KB (X : Nat → Prop) (w w' : World) : Prop where
 os : w'.os = w.os
 tape : w'.tape = w.tape
 output : w'.output = w.output
 size : w.heap.size ≤ w'.heap.size
 block : ∀ k, k < w.heap.size → ¬ X k → w'.heap[k]? = w.heap[k]?
theorem KB.refl (X : Nat → Prop) (w : World) : KB X w w := ⟨rfl, rfl, rfl, Nat.le_refl _, fun _ _ _ => rfl⟩
theorem KB.trans {X : Nat → Prop} {a b c : World} (h : KB X a b) (k : KB X b c) : KB X a c :=
 ⟨k.os.trans h.os, k.tape.trans h.tape, k.output.trans h.output, Nat.le_trans h.size k.size, fun i h1 h2 => (k.block i (Nat.lt_of_lt_of_le h1 h.size) h2).trans (h.block i h1 h2)⟩
theorem KB.grow {X : Nat → Prop} {a b : World} (h : Grow a b) : KB X a b := ⟨h.os, h.tape, h.output, h.size, fun k h1 _ => h.block k h1⟩
theorem KB.set {X : Nat → Prop} {w : World} {b o : Nat} (h : X b) (v : Value) : KB X w (w.setCell ⟨b, o, none⟩ v) :=
 ⟨rfl, rfl, rfl, by simp [World.setCell], fun k _ hk => set_apart _ (fun e => hk (e ▸ h))⟩
theorem KB.get {X : Nat → Prop} {w w' : World} (h : KB X w w') {b : Nat} {o : Obj} (hb : w.heap[b]? = some o) (hx : ¬ X b) : w'.heap[b]? = some o := (h.block b (lt_of_block hb) hx).trans hb
theorem KB.cell {X : Nat → Prop} {w w' : World} (h : KB X w w') {b o : Nat} {v : Value} (hc : w.cell? ⟨b, o, none⟩ = some v) (hx : ¬ X b) : w'.cell? ⟨b, o, none⟩ = some v := (cell_keep (h.block b (cell_has hc) hx)).trans hc
def own3 (bb fb tb : Nat) : Nat → Prop := fun k => k = bb ∨ k = fb ∨ k = tb
def spotOf (w : World) (X : Nat → Prop) : Kind → List Value → Prop
 | .take s nx, xs => ∃ b, xs = spotC 1 nx 0 0 (.slice (some ⟨b, 0, none⟩) 256 256) ∧ ¬ X b ∧ boolsAt w b (boolRow s)
 | .fin, xs => xs = spotC 0 0 0 0 (.slice none 0 0)
 | .fork [x, y], xs => xs = spotC 2 x y 0 (.slice none 0 0)
 | .fork _, xs => False
 | .mark sl nx, xs => xs = spotC (if sl % 2 = 0 then 3 else 4) nx 0 (sl / 2 + 1 : Nat) (.slice none 0 0)
theorem spotOf.keep {w w' : World} {X : Nat → Prop} (k : KB X w w') : ∀ {kd : Kind} {xs : List Value}, spotOf w X kd xs → spotOf w' X kd xs
 | .take s nx, xs, ⟨b, h1, h2, h3⟩ => ⟨b, h1, h2, k.get h3 h2⟩
 | .fin, xs, h => h
 | .fork [], xs, h => h
 | .fork [x], xs, h => h
 | .fork [x, y], xs, h => h
 | .fork (x :: y :: z :: l), xs, h => h
 | .mark sl nx, xs, h => h
theorem spotOf_of {w : World} {X : Nat → Prop} (hX : ∀ b l, boolsAt w b l → l.length = 256 → ¬ X b) : ∀ {kd : Kind} {xs : List Value}, spotAt w kd xs → spotOf w X kd xs
 | .take s nx, xs, ⟨b, h1, h2⟩ => ⟨b, h1, hX b _ h2 (boolRow_length s), h2⟩
 | .fin, xs, h => h
 | .fork [], xs, h => h
 | .fork [x], xs, h => h
 | .fork [x, y], xs, h => h
 | .fork (x :: y :: z :: l), xs, h => h
 | .mark sl nx, xs, h => h
def wkAt (w : World) (wb lb sb bb fb tb : Nat) (K : List Kind) (t : List UInt8) (bn gn : Nat) : Prop :=
 ∃ scp bcp fcp tcp, w.heap[wb]? = some (.cells #[.pointer (some ⟨lb, 0, none⟩), .string (bs t), .slice (some ⟨bb, 0, none⟩) bn bcp, .slice (some ⟨fb, 0, none⟩) gn fcp, .slice (some ⟨tb, 0, none⟩) gn tcp] 125 (0, 0)) ∧
  w.heap[lb]? = some (.cells #[.slice (some ⟨sb, 0, none⟩) K.length scp] 117 (0, 0)) ∧
  (∀ i k, K[i]? = some k → ∃ ys, spotOf w (own3 bb fb tb) k ys ∧ ∀ j u, j < 5 → ys[j]? = some u → w.cell? ⟨sb, i * 5 + j, none⟩ = some u) ∧
  ¬ own3 bb fb tb wb ∧ ¬ own3 bb fb tb lb ∧ ¬ own3 bb fb tb sb ∧ bb ≠ fb ∧ bb ≠ tb ∧ fb ≠ tb
theorem wkAt.keep {w w' : World} {wb lb sb bb fb tb : Nat} {K : List Kind} {t : List UInt8} {bn gn : Nat} (h : wkAt w wb lb sb bb fb tb K t bn gn) (k : KB (own3 bb fb tb) w w') : wkAt w' wb lb sb bb fb tb K t bn gn := by
 obtain ⟨scp, bcp, fcp, tcp, h1, h2, h3, h4, h5, h6, h7⟩ := h
 refine ⟨scp, bcp, fcp, tcp, k.get h1 h4, k.get h2 h5, fun i kd hi => ?_, h4, h5, h6, h7⟩
 obtain ⟨ys, a, b⟩ := h3 i kd hi
 exact ⟨ys, a.keep k, fun j u hj hu => k.cell (b j u hj hu) h6⟩
def wpost (K : List Kind) (t : List UInt8) (bb fb tb : Nat) (bad : List Bool) (F G : List Int) (x : Option Evs) (w : World) (e : Ending) (w' : World) : Prop :=
 e = .returned (.bool x.isSome) ∧ KB (own3 bb fb tb) w w' ∧ ∃ bad', bad'.length = bad.length ∧ boolsAt w' bb bad' ∧
  (x = none → marksAt w' fb F ∧ marksAt w' tb G ∧ vainG (spots K) t bad bad') ∧ (∀ l, x = some l → marksAt w' fb (putE 0 F l) ∧ marksAt w' tb (putE 1 G l))
theorem marks_apart {w : World} {fb b o : Nat} {F : List Int} (h : marksAt w fb F) (v : Value) (hne : fb ≠ b) : marksAt (w.setCell ⟨b, o, none⟩ v) fb F := (set_apart _ hne).trans h
theorem bools_apart {w : World} {fb b o : Nat} {l : List Bool} (h : boolsAt w fb l) (v : Value) (hne : fb ≠ b) : boolsAt (w.setCell ⟨b, o, none⟩ v) fb l := (set_apart _ hne).trans h
end Go.Proofs.YtndpjdmfkhjiiaaGreatDoor
