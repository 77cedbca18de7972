/- record: the document's own reading: points. -/
import Derived.Laws.OwnMore
import Derived.OwnWalk
import Derived.Test.YtnlkfehnmijimaaProg
import Derived.Test.YtnlkfehnmijimaaKit
import Derived.Test.YtnlkfehnmijimaaSpec
import Derived.Test.YtnlkfehnmijimaaReg
import Derived.Test.YtnlkfehnmijimaaLRow
import Derived.Test.YtnlkfehnmijimaaRcA
import Derived.Test.YtnlkfehnmijimaaRcM
import Derived.Test.YtnlkfehnmijimaaRcN
import Derived.Test.YtnlkfehnmijimaaRcS
import Derived.Test.YtnlkfehnmijimaaRcU
import Derived.Test.YtnlkfehnmijimaaRcV
import Derived.Test.YtnlkfehnmijimaaRcY
import Derived.Test.YtnlkfehnmijimaaRcR
import Derived.Test.YtnlkfehnmijimaaRfB
import Derived.Test.YtnlkfehnmijimaaRfE
import Derived.Test.YtnlkfehnmijimaaRfH
import Derived.Test.YtnlkfehnmijimaaRfI
import Derived.Test.YtnlkfehnmijimaaRfJ
import Derived.Test.YtnlkfehnmijimaaRfK
import Derived.Test.YtnlkfehnmijimaaRfQ
import Derived.Test.YtnlkfehnmijimaaRfR
import Derived.Test.YtnlkfehnmijimaaRfS
import Derived.BigQuiet
set_option linter.unusedVariables false
set_option linter.unusedSimpArgs false
namespace Go.Proofs.Ytnlkfehnmijimaa.Rc
open Go.RowKit Lb
attribute [local go_sem] bs_size bs_toList bs_append bs_get bs_extract
theorem kz_drew {Z b : Nat} {w w1 : World} (h : KZ Z b w w1) : KZ Z b w w1.drew := h
set_option maxRecDepth 20000 in
set_option maxHeartbeats 16000000 in
theorem unpRec2_any (w : World) (k : UInt8) (s : List UInt8) (hk : k.toNat = 2) (hs : s.length + 1 ≤ 1048576) :
    Calls Try.prog 13 #[.string (bs (k :: s))] w (unpackAns w.heap.size (unpT (k :: s)) w) := by
  obtain ⟨UO, HUO⟩ : ∃ UO, Hid (unpT (k :: s) = UO) := ⟨_, hide rfl⟩
  rw [HUO.out]
  obtain ⟨V1, e1, g1, b1⟩ := laid_at w #[.int .i64 0, .slice none 0 0, .slice none 0 0] 25
  obtain ⟨V2, e2, g2, b2⟩ := laid_at V1 #[.string (bs (k :: s)), .bool false] 65
  have s1 : V1.heap.size = w.heap.size + 1 := by rw [← e1]; simp
  have s2 : V2.heap.size = w.heap.size + 2 := by rw [← e2]; simp [s1]
  rw [s1] at b2
  have h02 : Grow w V2 := g1.trans g2
  have hB : bytT 1 (k :: s, false) = ([k], (s, false)) := by unfold bytT; rw [if_neg (by simp)]; rfl
  have HBY := hide (curBytes_any V2 (w.heap.size + 1) 1 (k :: s, false) b2 (by show (k :: s).length ≤ _; rw [List.length_cons]; omega) (by omega))
  rw [hB] at HBY
  have H02 := hide h02
  have HZ2 := hide (g2.get b1)
  have hcw : IntKind.i64.wrap ((2 : Nat) : Int) = 2 := by decide
  rw [← e2, ← e1] at HBY H02 HZ2
  clear b1 b2 g1 g2 h02 hB e1 e2
  obtain ⟨cn, HCN⟩ : ∃ cn, Hid (numT (s, false) = cn) := ⟨_, hide rfl⟩
  have HNC : Hid (∀ W, CurAt W (w.heap.size + 1) (s, false) → Calls Try.prog 29 #[.pointer (some ⟨w.heap.size + 1, 0, none⟩)] W fun e w' => e = .returned (.int .i64 (cn.1 : Nat)) ∧ KI (w.heap.size + 1) W w' ∧ CurAt w' (w.heap.size + 1) cn.2) := hide fun W h => by
    have := curNumber_any W (w.heap.size + 1) (s, false) h (by show s.length ≤ _; omega)
    rwa [HCN.out] at this
  have hcnl : cn.2.1.length ≤ 1048576 := by
    have := (numT_less (s, false)).1
    rw [HCN.out] at this
    have h2 : (s, false).1.length = s.length := rfl
    omega
  have hcn1 : cn.1 ≤ 4611686018427387904 := by have := numT_le (s, false); rwa [HCN.out] at this
  obtain ⟨n, c0⟩ := cn
  simp only at HNC hcnl hcn1
  go_enter Try.func13, Try.ntmps13
  go_wp2_with fail
  refine HBY.out.mono ?_
  rintro e w2 ⟨rfl, hk2, hc2⟩
  have hsw : w.heap.size + 2 ≤ w2.heap.size := by have := hk2.size; simp at this; omega
  have hz2 := hk2.get HZ2.out (by omega)
  have hg2 : Grow w w2 := grow_ki H02.out hk2 (by omega)
  obtain ⟨w3, e3, g3, b3⟩ := laid_at w2 #[.int .i64 2, .slice none 0 0, .slice none 0 0] 25
  have HB3 := hide b3
  have HN := hide (HNC.out w3 (hc2.get g3))
  have HZ3 := hide (g3.get hz2)
  have HG3 := hide (hg2.trans g3)
  have hs3 : w2.heap.size + 1 ≤ w3.heap.size := by rw [← e3]; simp
  obtain ⟨cb0, cb1⟩ := two_of (show w2.heap[w.heap.size + 1]? = some (.cells #[.string (bs s), .bool false] 65 (0, 0)) from hc2)
  rw [← e3] at HN
  have E3 := hide e3
  clear e3
  clear hk2 hz2 hg2 g3 b3 hc2 HBY HZ2 H02 HNC
  go_wp2_with fail
  refine HN.out.mono ?_
  rintro e w4 ⟨rfl, hk4, hc4⟩
  rw [E3.out] at hk4
  have hcr : w.heap.size + 1 < w2.heap.size := by omega
  have HB4 := hk4.get HB3.out (by omega)
  have HR4 : Hid (RecP w2.heap.size (w.heap.size + 1) w2.heap.size [] w3 w4) := hide ⟨hk4.kz (by omega), by have := hk4.size; omega, .slice none 0 0, HB4, World.ownsRow_nil _ _ _ _⟩
  have HC4 := hide hc4
  obtain ⟨X, HX⟩ : ∃ X, Hid (loopT pntT n ([], c0) = X) := ⟨_, hide rfl⟩
  have HX0 := HX
  have HFT : Hid (fits 1048576 (([] : List Pnt), c0)) := hide (fits_nil hcnl)
  clear hk4 hc4 HN HB4 hcnl cb0 cb1
  go_wp2
  go_loopw [8, 9, 10, 11, 12, 13, 14, 15, 16, 17] (fun iv _ _ _ _ _ _ _ _ _ wr => ∃ (i : Nat) (x : List Pnt × Cur), i ≤ n ∧ iv = .int .i64 i ∧ Hid (loopT pntT (n - i) x = X) ∧ Hid (RecP w2.heap.size (w.heap.size + 1) w2.heap.size x.1 w3 wr) ∧ Hid (CurAt wr (w.heap.size + 1) x.2) ∧ Hid (fits 1048576 x)) (fun iv _ _ _ _ _ _ _ _ _ _ => n - (intOf iv).toNat)
  case atStart => exact ⟨0, ([], c0), by omega, rfl, HX, HR4, HC4, HFT⟩
  case round =>
    obtain ⟨i, x, hi, rfl, HX, HR, HC, HFI⟩ := hrel
    obtain ⟨rs, q0, bad⟩ := x
    obtain ⟨cu0, cu1⟩ := two_of (show wr.heap[w.heap.size + 1]? = some (.cells #[.string (bs q0), .bool bad] 65 (0, 0)) from HC.out)
    obtain ⟨hkz, hZr, v, hrb, hor⟩ := HR.out
    obtain ⟨vo, vc, rfl⟩ := own_shape hor
    obtain ⟨cx0, cx1, cx2⟩ := three_of hrb
    by_cases hgo : i < n ∧ bad = false
    · obtain ⟨hin, rfl⟩ := hgo
      have hini : (i : Int) < (n : Int) := by omega
      as_aux_lemma =>
        simp only at HR HC hrb hor cx2
        have hfl : rs.length + q0.length ≤ 1048576 := by have := HFI.out; unfold fits at this; simpa using this
        obtain ⟨a, HA⟩ : ∃ a, Hid (numT (q0, false) = a) := ⟨_, hide rfl⟩
        have hal : a.2.1.length ≤ q0.length := by have := (numT_less (q0, false)).1; rw [HA.out] at this; exact this
        have hal2 : a.1 ≤ 4611686018427387904 := by have := numT_le (q0, false); rwa [HA.out] at this
        obtain ⟨m, HM⟩ : ∃ m, Hid (numT a.2 = m) := ⟨_, hide rfl⟩
        have hml : m.2.1.length ≤ a.2.1.length := by have := (numT_less a.2).1; rw [HM.out] at this; exact this
        have hml2 : m.1 ≤ 4611686018427387904 := by have := numT_le a.2; rwa [HM.out] at this
        have HN1 := hide (curNumber_any wr (w.heap.size + 1) (q0, false) HC.out (by show q0.length ≤ _; omega))
        rw [HA.out] at HN1
        have HBY : Hid (∀ W n c, CurAt W (w.heap.size + 1) c → c.1.length ≤ 1048576 → n ≤ 4611686018427387904 → Calls Try.prog 28 #[.pointer (some ⟨w.heap.size + 1, 0, none⟩), .int .i64 (n : Nat)] W fun e w' => e = .returned (.string (bs (bytT n c).1)) ∧ KI (w.heap.size + 1) W w' ∧ CurAt w' (w.heap.size + 1) (bytT n c).2) := hide fun W n c h hl hn => curBytes_any W (w.heap.size + 1) n c h (by omega) (by omega)
        have HRR := hide (show RecP w2.heap.size (w.heap.size + 1) w2.heap.size rs w3 wr from HR.out)
        clear hkz hZr hrb hor HR cx1 cx2
        go_wp2_with fail
        refine HN1.out.mono ?_
        rintro e w5 ⟨rfl, hk5, hc5⟩
        obtain ⟨w6, e6, g6, b6⟩ := laid_at w5 #[.int .i64 a.1, .int .i64 0, .int .u64 0] 57
        have HK5 := hide hk5
        have HN2 := hide (curNumber_any w6 (w.heap.size + 1) a.2 (hc5.get g6) (by omega))
        rw [HM.out] at HN2
        have hs5 : w2.heap.size ≤ w5.heap.size := by have := hk5.size; have := HRR.out.2.1; omega
        have HB6 := hide b6
        have HG6 := hide g6
        have E6 := hide e6
        rw [← e6] at HN2
        clear hk5 hc5 g6 b6 e6 HN1 cu0 cu1 cx0
        go_wp2_with fail
        refine HN2.out.mono ?_
        rintro e w7 ⟨rfl, hk7, hc7⟩
        rw [E6.out] at hk7
        have HK57 : Hid (KI (w.heap.size + 1) w5 w7) := hide ((KI.grow HG6.out).trans hk7)
        have hpb7 := hk7.get HB6.out (by omega)
        have HPB7 := hide hpb7
        have HC7 := hide hc7
        have hs7 : w5.heap.size + 1 ≤ w7.heap.size := by have := hk7.size; rw [← E6.out] at this; simp at this; omega
        obtain ⟨p0, p1, p2⟩ := three_of hpb7
        have z1 : w7.frozen? ⟨w5.heap.size, 1, none⟩ = false := by simp only [World.frozen?, hpb7]; rfl
        obtain ⟨h2, HH2⟩ : ∃ h2, Hid (m.1 / 2 = h2) := ⟨_, hide rfl⟩
        have hh2 : h2 ≤ 2305843009213693952 := by rw [← HH2.out]; omega
        have hdiv : Int.tdiv (m.1 : Int) 2 = (h2 : Int) := by rw [Int.tdiv_eq_ediv_of_nonneg (by omega), ← HH2.out]; omega
        have hw1 : IntKind.i64.wrap (h2 : Int) = (h2 : Int) := by rw [IntKind.wrap_i64]; omega
        have hw2 : IntKind.i64.wrap (-(h2 : Int)) = -(h2 : Int) := by rw [IntKind.wrap_i64]; omega
        have hw3 : IntKind.i64.wrap (-(h2 : Int) - 1) = -(h2 : Int) - 1 := by rw [IntKind.wrap_i64]; omega
        clear hk7 hc7 HN2 hpb7
        by_cases hodd : m.1 % 2 = 1
        · have hmod : Int.tmod (m.1 : Int) 2 = 1 := by rw [Int.tmod_eq_emod_of_nonneg (by omega)]; omega
          have HTI : Hid (timeI m.1 = -(h2 : Int) - 1) := hide (by unfold timeI; rw [if_pos hodd, HH2.out])
          clear hodd
          as_aux_lemma =>
            have hcu8 : CurAt ((w7.setCell ⟨w5.heap.size, 1, none⟩ (.int .i64 (h2 : Int))).setCell ⟨w5.heap.size, 1, none⟩ (.int .i64 (-(h2 : Int) - 1))) (w.heap.size + 1) m.2 := (Below.heap_setCell _ _ _ _ (by show w.heap.size + 1 ≠ w5.heap.size; omega)).trans ((Below.heap_setCell _ _ _ _ (by show w.heap.size + 1 ≠ w5.heap.size; omega)).trans HC7.out)
            have hpb8 : ((w7.setCell ⟨w5.heap.size, 1, none⟩ (.int .i64 (h2 : Int))).setCell ⟨w5.heap.size, 1, none⟩ (.int .i64 (-(h2 : Int) - 1))).heap[w5.heap.size]? = some (.cells #[.int .i64 a.1, .int .i64 (-(h2 : Int) - 1), .int .u64 0] 57 (0, 0)) := set3 (set3 HPB7.out 1 (.int .i64 (h2 : Int))) 1 (.int .i64 (-(h2 : Int) - 1))
            have hkz8 : KZ w5.heap.size (w.heap.size + 1) w5 ((w7.setCell ⟨w5.heap.size, 1, none⟩ (.int .i64 (h2 : Int))).setCell ⟨w5.heap.size, 1, none⟩ (.int .i64 (-(h2 : Int) - 1))) := ((HK57.out.kz (Nat.le_refl _)).setNew (Nat.le_refl _) _ _).setNew (Nat.le_refl _) _ _
            have hsz8 : w5.heap.size + 1 ≤ ((w7.setCell ⟨w5.heap.size, 1, none⟩ (.int .i64 (h2 : Int))).setCell ⟨w5.heap.size, 1, none⟩ (.int .i64 (-(h2 : Int) - 1))).heap.size := by simp [World.setCell]; omega
            have HPB8 := hide hpb8
            have HKZ8 := hide hkz8
            have HSZ8 := hide hsz8
            have HB8 := hide (HBY.out ((w7.setCell ⟨w5.heap.size, 1, none⟩ (.int .i64 (h2 : Int))).setCell ⟨w5.heap.size, 1, none⟩ (.int .i64 (-(h2 : Int) - 1))) 8 m.2 hcu8 (by omega) (by omega))
            clear hcu8 hpb8 hkz8 hsz8
            go_wp2_with fail
            refine HB8.out.mono ?_
            rintro e w9 ⟨rfl, hk9, hc9⟩
            obtain ⟨t8, HT8⟩ : ∃ t8, Hid (bytT 8 m.2 = t8) := ⟨_, hide rfl⟩
            have ht8l : t8.1.length ≤ 8 := by have := bytT_len 8 m.2; rwa [HT8.out] at this
            rw [HT8.out] at hc9 ⊢
            have HPT : Hid (pntT (q0, false) = ((((a.1 : Nat) : Int), (-(h2 : Int) - 1), wordI t8.1), t8.2)) := hide (by unfold pntT; rw [HA.out, HM.out, HT8.out, HTI.out])
            have HPB9 : Hid (w9.heap[w5.heap.size]? = some (.cells #[.int .i64 a.1, .int .i64 (-(h2 : Int) - 1), .int .u64 0] 57 (0, 0))) := hide (hk9.get HPB8.out (by omega))
            have HKZ9 : Hid (KZ w5.heap.size (w.heap.size + 1) w5 w9) := hide (HKZ8.out.trans (hk9.kz (by have := HSZ8.out; omega)))
            have hs9 : w5.heap.size + 1 ≤ w9.heap.size := by have := hk9.size; have := HSZ8.out; omega
            have HC9 := hide hc9
            clear hk9 hc9 HB8
            obtain ⟨tb, hc9c⟩ := t8
            simp only at ht8l HC9 HPT HT8
            have hlw : IntKind.i64.wrap ((tb.length : Int) - 1) = (tb.length : Int) - 1 := by rw [IntKind.wrap_i64]; omega
            go_wp2
            go_loopw [17] (fun jv wj => ∃ q : Nat, q ≤ tb.length ∧ jv = .int .i64 ((q : Int) - 1) ∧ Hid (KZ w5.heap.size (w.heap.size + 1) w5 wj) ∧ Hid (w5.heap.size + 1 ≤ wj.heap.size) ∧ Hid (CurAt wj (w.heap.size + 1) hc9c) ∧ Hid (wj.heap[w5.heap.size]? = some (.cells #[.int .i64 a.1, .int .i64 (-(h2 : Int) - 1), .int .u64 (wordI (tb.drop q) : Nat)] 57 (0, 0)))) (fun jv _ => (intOf jv + 1).toNat)
            case atStart => exact ⟨tb.length, by omega, rfl, HKZ9, hide hs9, HC9, hide (by rw [List.drop_length]; exact HPB9.out)⟩
            case round =>
              rename World => wj
              obtain ⟨q, hq, rfl, HKJ, HSJ, HCJ, HPJ⟩ := hrel
              obtain ⟨p0, p1, p2⟩ := three_of HPJ.out
              have zp2 : wj.frozen? ⟨w5.heap.size, 2, none⟩ = false := by simp only [World.frozen?, HPJ.out]; rfl
              by_cases hq0 : 0 < q
              · obtain ⟨j, rfl⟩ : ∃ j, q = j + 1 := ⟨q - 1, by omega⟩
                have hjl : j < tb.length := by omega
                have hdj : tb.drop j = tb[j] :: tb.drop (j + 1) := List.drop_eq_getElem_cons hjl
                have hwd := wordI_lt (tb.drop (j + 1))
                have hdl : (tb.drop (j + 1)).length ≤ 7 := by rw [List.length_drop]; omega
                have hp7 : 256 ^ (tb.drop (j + 1)).length ≤ 256 ^ 7 := Nat.pow_le_pow_right (by omega) hdl
                obtain ⟨B, HBB⟩ : ∃ B, Hid (wordI (tb.drop (j + 1)) = B) := ⟨_, hide rfl⟩
                rw [HBB.out] at hwd p2
                obtain ⟨ch, HCH⟩ : ∃ ch, Hid (tb[j] = ch) := ⟨_, hide rfl⟩
                have hch := ch.toNat_lt
                have HNX : Hid (wordI (tb.drop j) = ch.toNat + 256 * B) := hide (by rw [hdj, wordI, HBB.out, HCH.out])
                have hB7 : B < 72057594037927936 := by omega
                have hm1 : IntKind.u64.wrap ((B : Int) * 256) = (B : Int) * 256 := by rw [IntKind.wrap_u64]; omega
                have hm2 : IntKind.u64.wrap ((ch.toNat : Nat) : Int) = (ch.toNat : Int) := by rw [IntKind.wrap_u64]; omega
                have hm3 : IntKind.u64.wrap ((B : Int) * 256 + (ch.toNat : Int)) = ((ch.toNat + 256 * B : Nat) : Int) := by rw [IntKind.wrap_u64]; omega
                have hji : ((j + 1 : Nat) : Int) - 1 = (j : Int) := by omega
                have hjli : (j : Int) < (tb.length : Int) := by omega
                have hwj : IntKind.i64.wrap ((j : Int) - 1) = (j : Int) - 1 := by rw [IntKind.wrap_i64]; omega
                have htj : tb[j] = ch := HCH.out
                rw [hji]
                clear hdj hwd hdl hp7 hji hq hq0
                go_wp2
                go_region
                go_wp2
                go_roundw
                case rel =>
                  refine ⟨j, by omega, rfl, hide (kz_drew (HKJ.out.setNew (Nat.le_refl _) _ _)), hide (by have := HSJ.out; simpa [World.setCell] using this), hide ((Below.heap_setCell _ _ _ _ (by show w.heap.size + 1 ≠ w5.heap.size; omega)).trans HCJ.out), hide ?_⟩
                  have h := set3 HPJ.out 2 (.int .u64 ((ch.toNat : Int) + 256 * (B : Int)))
                  rw [HNX.out]
                  exact h
                case measure => simp [intOf] <;> omega
              · obtain rfl : q = 0 := by omega
                obtain ⟨hkz, hZr, v, hrb, hor⟩ := HRR.out.ki (HK5.out.trans (KZ.ki HKJ.out)) (by omega) (by omega)
                obtain ⟨vo, vc, rfl⟩ := own_shape hor
                obtain ⟨x0, x1, x2⟩ := three_of hrb
                obtain ⟨i0, hi0, hz0, hz1, hz2⟩ := info_parts infoPntT
                rw [List.drop_zero] at p2
                have HNEW := hide (newC wj #[.int .i64 a.1, .int .i64 (-(h2 : Int) - 1), .int .u64 (wordI tb : Nat)] 57)
                have hgx : Grow wj (wj.alloc (.cells #[.int .i64 a.1, .int .i64 (-(h2 : Int) - 1), .int .u64 (wordI tb : Nat)] 57)) := (Grow.refl _).alloc _
                have HOWN4 : Hid ((wj.alloc (.cells #[.int .i64 a.1, .int .i64 (-(h2 : Int) - 1), .int .u64 (wordI tb : Nat)] 57)).ownsRow w2.heap.size 57 3 (.slice vo rs.length vc) rs.length (pntCells rs)) := hide (Lb.own_grow hor hgx)
                have HPUT : Hid (∀ (W2 : World) (v' : Value), W2.ownsRow w2.heap.size 57 3 v' (rs.length + 1) (pntCells rs ++ [.int .i64 a.1, .int .i64 (-(h2 : Int) - 1), .int .u64 (wordI tb : Nat)]) → (wj.alloc (.cells #[.int .i64 a.1, .int .i64 (-(h2 : Int) - 1), .int .u64 (wordI tb : Nat)] 57)).grownBy W2 (Value.slice vo rs.length vc).ownBlock → RecP w2.heap.size (w.heap.size + 1) w2.heap.size (rs ++ [(((a.1 : Nat) : Int), (-(h2 : Int) - 1), wordI tb)]) w3 (W2.setCell ⟨w2.heap.size, 2, none⟩ v') ∧ typedKept 57 wj W2) := hide fun W2 v' k1 k2 => RecP.put (x := (((a.1 : Nat) : Int), (-(h2 : Int) - 1), wordI tb)) hkz hZr hrb hor hgx k1 k2 (Nat.le_refl _)
                have HFR : Hid (∀ W : World, typedKept 57 wj W → W.frozen? ⟨w2.heap.size, 2, none⟩ = false ∧ W.cell? ⟨w2.heap.size, 2, none⟩ = some (.slice vo rs.length vc)) := hide fun W h => by
                  have := h _ _ _ _ hrb (by decide)
                  exact ⟨by simp only [World.frozen?, this]; rfl, (three_of this).2.2⟩
                have hszi : w2.heap.size ≤ (wj.alloc (.cells #[.int .i64 a.1, .int .i64 (-(h2 : Int) - 1), .int .u64 (wordI tb : Nat)] 57)).heap.size := by have := hgx.size; omega
                have hq0 : ¬ (0 : Int) ≤ ((0 : Nat) : Int) - 1 := by omega
                obtain ⟨bb, HBV⟩ : ∃ bb, Hid (wordI tb = bb) := ⟨_, hide rfl⟩
                rw [HBV.out] at p2 HNEW HOWN4 HPUT hszi HPT
                clear hkz hZr hrb hor hgx HRR hq
                go_wp2_with (at_builtin; refine wpList_append_own _ rfl _ _ 23 rfl w2.heap.size 57 i0 _ 3 24 Try.underPnts hi0 hz0 hz1 hz2 rfl (by omega) _ rs.length (pntCells rs) rfl HOWN4.out ⟨wj.heap.size, 0, none⟩ 1 1 [.int .i64 a.1, .int .i64 (-(h2 : Int) - 1), .int .u64 bb] rfl rfl HNEW.out (pnt_one _ _ _) (by unfold maxLen; omega) (by omega) hszi ?_; intro v' x5 hown' hgrow _; have hput := hide (HPUT.out x5 v' hown' hgrow); have zf1 := (HFR.out x5 hput.out.2).1; have cf1 := (HFR.out x5 hput.out.2).2; obtain ⟨ao', cp', rfl⟩ := own_shape hown')
                go_roundw
                case rel =>
                  refine ⟨i + 1, (rs ++ [(((a.1 : Nat) : Int), (-(h2 : Int) - 1), bb)], hc9c), by omega, by go_num, ?_, hput.out.1, ?_, ?_⟩
                  · have h := HX.out
                    rw [show n - i = (n - (i + 1)) + 1 by omega, loopT_step rfl] at h
                    simp only [HPT.out] at h
                    exact h
                  · exact (Below.heap_setCell _ _ _ _ (by show w.heap.size + 1 ≠ w2.heap.size; omega)).trans (hput.out.2 _ _ _ _ HCJ.out (by decide))
                  · have h := fits_step pntT_less HFI.out rfl
                    simp only [HPT.out] at h
                    exact h
                case measure => simp [intOf]; omega
        · have hmod : Int.tmod (m.1 : Int) 2 = 0 := by rw [Int.tmod_eq_emod_of_nonneg (by omega)]; omega
          have HTI : Hid (timeI m.1 = (h2 : Int)) := hide (by unfold timeI; rw [if_neg hodd, HH2.out])
          clear hodd
          as_aux_lemma =>
            have hcu8 : CurAt (w7.setCell ⟨w5.heap.size, 1, none⟩ (.int .i64 (h2 : Int))) (w.heap.size + 1) m.2 := (Below.heap_setCell _ _ _ _ (by show w.heap.size + 1 ≠ w5.heap.size; omega)).trans HC7.out
            have hpb8 : (w7.setCell ⟨w5.heap.size, 1, none⟩ (.int .i64 (h2 : Int))).heap[w5.heap.size]? = some (.cells #[.int .i64 a.1, .int .i64 (h2 : Int), .int .u64 0] 57 (0, 0)) := set3 HPB7.out 1 (.int .i64 (h2 : Int))
            have hkz8 : KZ w5.heap.size (w.heap.size + 1) w5 (w7.setCell ⟨w5.heap.size, 1, none⟩ (.int .i64 (h2 : Int))) := (HK57.out.kz (Nat.le_refl _)).setNew (Nat.le_refl _) _ _
            have hsz8 : w5.heap.size + 1 ≤ (w7.setCell ⟨w5.heap.size, 1, none⟩ (.int .i64 (h2 : Int))).heap.size := by simp [World.setCell]; omega
            have HPB8 := hide hpb8
            have HKZ8 := hide hkz8
            have HSZ8 := hide hsz8
            have HB8 := hide (HBY.out (w7.setCell ⟨w5.heap.size, 1, none⟩ (.int .i64 (h2 : Int))) 8 m.2 hcu8 (by omega) (by omega))
            clear hcu8 hpb8 hkz8 hsz8
            go_wp2_with fail
            refine HB8.out.mono ?_
            rintro e w9 ⟨rfl, hk9, hc9⟩
            obtain ⟨t8, HT8⟩ : ∃ t8, Hid (bytT 8 m.2 = t8) := ⟨_, hide rfl⟩
            have ht8l : t8.1.length ≤ 8 := by have := bytT_len 8 m.2; rwa [HT8.out] at this
            rw [HT8.out] at hc9 ⊢
            have HPT : Hid (pntT (q0, false) = ((((a.1 : Nat) : Int), (h2 : Int), wordI t8.1), t8.2)) := hide (by unfold pntT; rw [HA.out, HM.out, HT8.out, HTI.out])
            have HPB9 : Hid (w9.heap[w5.heap.size]? = some (.cells #[.int .i64 a.1, .int .i64 (h2 : Int), .int .u64 0] 57 (0, 0))) := hide (hk9.get HPB8.out (by omega))
            have HKZ9 : Hid (KZ w5.heap.size (w.heap.size + 1) w5 w9) := hide (HKZ8.out.trans (hk9.kz (by have := HSZ8.out; omega)))
            have hs9 : w5.heap.size + 1 ≤ w9.heap.size := by have := hk9.size; have := HSZ8.out; omega
            have HC9 := hide hc9
            clear hk9 hc9 HB8
            obtain ⟨tb, hc9c⟩ := t8
            simp only at ht8l HC9 HPT HT8
            have hlw : IntKind.i64.wrap ((tb.length : Int) - 1) = (tb.length : Int) - 1 := by rw [IntKind.wrap_i64]; omega
            go_wp2
            go_loopw [17] (fun jv wj => ∃ q : Nat, q ≤ tb.length ∧ jv = .int .i64 ((q : Int) - 1) ∧ Hid (KZ w5.heap.size (w.heap.size + 1) w5 wj) ∧ Hid (w5.heap.size + 1 ≤ wj.heap.size) ∧ Hid (CurAt wj (w.heap.size + 1) hc9c) ∧ Hid (wj.heap[w5.heap.size]? = some (.cells #[.int .i64 a.1, .int .i64 (h2 : Int), .int .u64 (wordI (tb.drop q) : Nat)] 57 (0, 0)))) (fun jv _ => (intOf jv + 1).toNat)
            case atStart => exact ⟨tb.length, by omega, rfl, HKZ9, hide hs9, HC9, hide (by rw [List.drop_length]; exact HPB9.out)⟩
            case round =>
              rename World => wj
              obtain ⟨q, hq, rfl, HKJ, HSJ, HCJ, HPJ⟩ := hrel
              obtain ⟨p0, p1, p2⟩ := three_of HPJ.out
              have zp2 : wj.frozen? ⟨w5.heap.size, 2, none⟩ = false := by simp only [World.frozen?, HPJ.out]; rfl
              by_cases hq0 : 0 < q
              · obtain ⟨j, rfl⟩ : ∃ j, q = j + 1 := ⟨q - 1, by omega⟩
                have hjl : j < tb.length := by omega
                have hdj : tb.drop j = tb[j] :: tb.drop (j + 1) := List.drop_eq_getElem_cons hjl
                have hwd := wordI_lt (tb.drop (j + 1))
                have hdl : (tb.drop (j + 1)).length ≤ 7 := by rw [List.length_drop]; omega
                have hp7 : 256 ^ (tb.drop (j + 1)).length ≤ 256 ^ 7 := Nat.pow_le_pow_right (by omega) hdl
                obtain ⟨B, HBB⟩ : ∃ B, Hid (wordI (tb.drop (j + 1)) = B) := ⟨_, hide rfl⟩
                rw [HBB.out] at hwd p2
                obtain ⟨ch, HCH⟩ : ∃ ch, Hid (tb[j] = ch) := ⟨_, hide rfl⟩
                have hch := ch.toNat_lt
                have HNX : Hid (wordI (tb.drop j) = ch.toNat + 256 * B) := hide (by rw [hdj, wordI, HBB.out, HCH.out])
                have hB7 : B < 72057594037927936 := by omega
                have hm1 : IntKind.u64.wrap ((B : Int) * 256) = (B : Int) * 256 := by rw [IntKind.wrap_u64]; omega
                have hm2 : IntKind.u64.wrap ((ch.toNat : Nat) : Int) = (ch.toNat : Int) := by rw [IntKind.wrap_u64]; omega
                have hm3 : IntKind.u64.wrap ((B : Int) * 256 + (ch.toNat : Int)) = ((ch.toNat + 256 * B : Nat) : Int) := by rw [IntKind.wrap_u64]; omega
                have hji : ((j + 1 : Nat) : Int) - 1 = (j : Int) := by omega
                have hjli : (j : Int) < (tb.length : Int) := by omega
                have hwj : IntKind.i64.wrap ((j : Int) - 1) = (j : Int) - 1 := by rw [IntKind.wrap_i64]; omega
                have htj : tb[j] = ch := HCH.out
                rw [hji]
                clear hdj hwd hdl hp7 hji hq hq0
                go_wp2
                go_region
                go_wp2
                go_roundw
                case rel =>
                  refine ⟨j, by omega, rfl, hide (kz_drew (HKJ.out.setNew (Nat.le_refl _) _ _)), hide (by have := HSJ.out; simpa [World.setCell] using this), hide ((Below.heap_setCell _ _ _ _ (by show w.heap.size + 1 ≠ w5.heap.size; omega)).trans HCJ.out), hide ?_⟩
                  have h := set3 HPJ.out 2 (.int .u64 ((ch.toNat : Int) + 256 * (B : Int)))
                  rw [HNX.out]
                  exact h
                case measure => simp [intOf] <;> omega
              · obtain rfl : q = 0 := by omega
                obtain ⟨hkz, hZr, v, hrb, hor⟩ := HRR.out.ki (HK5.out.trans (KZ.ki HKJ.out)) (by omega) (by omega)
                obtain ⟨vo, vc, rfl⟩ := own_shape hor
                obtain ⟨x0, x1, x2⟩ := three_of hrb
                obtain ⟨i0, hi0, hz0, hz1, hz2⟩ := info_parts infoPntT
                rw [List.drop_zero] at p2
                have HNEW := hide (newC wj #[.int .i64 a.1, .int .i64 (h2 : Int), .int .u64 (wordI tb : Nat)] 57)
                have hgx : Grow wj (wj.alloc (.cells #[.int .i64 a.1, .int .i64 (h2 : Int), .int .u64 (wordI tb : Nat)] 57)) := (Grow.refl _).alloc _
                have HOWN4 : Hid ((wj.alloc (.cells #[.int .i64 a.1, .int .i64 (h2 : Int), .int .u64 (wordI tb : Nat)] 57)).ownsRow w2.heap.size 57 3 (.slice vo rs.length vc) rs.length (pntCells rs)) := hide (Lb.own_grow hor hgx)
                have HPUT : Hid (∀ (W2 : World) (v' : Value), W2.ownsRow w2.heap.size 57 3 v' (rs.length + 1) (pntCells rs ++ [.int .i64 a.1, .int .i64 (h2 : Int), .int .u64 (wordI tb : Nat)]) → (wj.alloc (.cells #[.int .i64 a.1, .int .i64 (h2 : Int), .int .u64 (wordI tb : Nat)] 57)).grownBy W2 (Value.slice vo rs.length vc).ownBlock → RecP w2.heap.size (w.heap.size + 1) w2.heap.size (rs ++ [(((a.1 : Nat) : Int), (h2 : Int), wordI tb)]) w3 (W2.setCell ⟨w2.heap.size, 2, none⟩ v') ∧ typedKept 57 wj W2) := hide fun W2 v' k1 k2 => RecP.put (x := (((a.1 : Nat) : Int), (h2 : Int), wordI tb)) hkz hZr hrb hor hgx k1 k2 (Nat.le_refl _)
                have HFR : Hid (∀ W : World, typedKept 57 wj W → W.frozen? ⟨w2.heap.size, 2, none⟩ = false ∧ W.cell? ⟨w2.heap.size, 2, none⟩ = some (.slice vo rs.length vc)) := hide fun W h => by
                  have := h _ _ _ _ hrb (by decide)
                  exact ⟨by simp only [World.frozen?, this]; rfl, (three_of this).2.2⟩
                have hszi : w2.heap.size ≤ (wj.alloc (.cells #[.int .i64 a.1, .int .i64 (h2 : Int), .int .u64 (wordI tb : Nat)] 57)).heap.size := by have := hgx.size; omega
                have hq0 : ¬ (0 : Int) ≤ ((0 : Nat) : Int) - 1 := by omega
                obtain ⟨bb, HBV⟩ : ∃ bb, Hid (wordI tb = bb) := ⟨_, hide rfl⟩
                rw [HBV.out] at p2 HNEW HOWN4 HPUT hszi HPT
                clear hkz hZr hrb hor hgx HRR hq
                go_wp2_with (at_builtin; refine wpList_append_own _ rfl _ _ 23 rfl w2.heap.size 57 i0 _ 3 24 Try.underPnts hi0 hz0 hz1 hz2 rfl (by omega) _ rs.length (pntCells rs) rfl HOWN4.out ⟨wj.heap.size, 0, none⟩ 1 1 [.int .i64 a.1, .int .i64 (h2 : Int), .int .u64 bb] rfl rfl HNEW.out (pnt_one _ _ _) (by unfold maxLen; omega) (by omega) hszi ?_; intro v' x5 hown' hgrow _; have hput := hide (HPUT.out x5 v' hown' hgrow); have zf1 := (HFR.out x5 hput.out.2).1; have cf1 := (HFR.out x5 hput.out.2).2; obtain ⟨ao', cp', rfl⟩ := own_shape hown')
                go_roundw
                case rel =>
                  refine ⟨i + 1, (rs ++ [(((a.1 : Nat) : Int), (h2 : Int), bb)], hc9c), by omega, by go_num, ?_, hput.out.1, ?_, ?_⟩
                  · have h := HX.out
                    rw [show n - i = (n - (i + 1)) + 1 by omega, loopT_step rfl] at h
                    simp only [HPT.out] at h
                    exact h
                  · exact (Below.heap_setCell _ _ _ _ (by show w.heap.size + 1 ≠ w2.heap.size; omega)).trans (hput.out.2 _ _ _ _ HCJ.out (by decide))
                  · have h := fits_step pntT_less HFI.out rfl
                    simp only [HPT.out] at h
                    exact h
                case measure => simp [intOf]; omega
    · have hXx : X = (rs, (q0, bad)) := by
        rw [← HX.out]
        by_cases hin : i < n
        · exact loopT_bad _ _ (by simpa [hin] using hgo)
        · rw [show n - i = 0 by omega]; rfl
      obtain ⟨c, hc⟩ : ∃ c : Cur, c = (q0, bad) := ⟨_, rfl⟩
      obtain ⟨r0, hr0⟩ : ∃ r0 : Rcd, r0 = ⟨2, [], rs⟩ := ⟨_, rfl⟩
      have HBT : Hid (bodyT k (s, false) = (r0, c)) := hide (by
        unfold bodyT
        rw [if_neg (by omega), if_pos hk, HCN.out]
        simp only
        rw [HX0.out, hXx, hr0, hc])
      have HCU : Hid (CurAt wr (w.heap.size + 1) c) := hide (by rw [hc]; exact HC.out)
      have HBR := hide hrb
      have HWR : Hid (ownRefs wr w.heap.size (.slice none 0 0) r0.refs) := hide (by rw [hr0]; exact ownRefs_nil _ _)
      have HWP : Hid (ownPoints wr w.heap.size (.slice vo rs.length vc) r0.points) := hide (by rw [hr0]; exact own_le hor (by omega))
      have HRK : Hid (r0.kind = 2) := hide (by rw [hr0])
      have HG : Hid (Grow w wr) := hide (grow_kz (Z := w2.heap.size) (x := w.heap.size + 1) HG3.out hkz (by omega) (by omega))
      have HZ0 := hide ((hkz.2.2.2.2 w.heap.size (by omega) (by omega)).trans HZ3.out)
      have hcond : (bad = true ∧ i < n) ∨ ¬ i < n := by
        by_cases hin : i < n
        · exact .inl ⟨by simpa [hin] using hgo, hin⟩
        · exact .inr hin
      clear hgo hkz hrb hor hr0 hXx HX HR HC HFI cu0 cu1
      rcases hcond with ⟨hb1, hin⟩ | hin
      · have hini : (i : Int) < (n : Int) := by omega
        rw [hb1] at hc
        subst hc
        clear hb1
        as_aux_lemma =>
          obtain ⟨cu0, cu1⟩ := two_of (show wr.heap[w.heap.size + 1]? = some (.cells #[.string (bs q0), .bool true] 65 (0, 0)) from HCU.out)
          have HU : Hid (unpT (k :: s) = none) := hide (by simp only [unpT]; rw [HBT.out, if_neg (fun h => by cases h.1)])
          obtain ⟨cr0, cr1, cr2⟩ := three_of HZ0.out
          have z0 : wr.frozen? ⟨w.heap.size, 0, none⟩ = false := by simp only [World.frozen?, HZ0.out]; rfl
          have z1 : wr.frozen? ⟨w.heap.size, 1, none⟩ = false := by simp only [World.frozen?, HZ0.out]; rfl
          have z2 : wr.frozen? ⟨w.heap.size, 2, none⟩ = false := by simp only [World.frozen?, HZ0.out]; rfl
          go_wp2
          have hF := set3 (set3 (set3 HZ0.out 0 (.int .i64 0)) 1 (.slice none 0 0)) 2 (.slice none 0 0)
          obtain ⟨f0, f1, f2⟩ := three_of hF
          refine bodyPost_ret (v := .tuple #[.agg #[.int .i64 0, .slice none 0 0, .slice none 0 0], .int .i64 1]) (by simp [results, Try.results13, go_sem, f0, f1, f2]) rfl ?_
          unfold unpackAns
          rw [← HUO.out, HU.out]
          exact ⟨Below.setCell (Below.setCell (Below.setCell HG.out (Nat.le_refl _) _) (Nat.le_refl _) _) (Nat.le_refl _) _, rfl⟩
      · have hini : ¬ (i : Int) < (n : Int) := by omega
        clear hc
        as_aux_lemma =>
          obtain ⟨q, bad⟩ := c
          obtain ⟨cu0, cu1⟩ := two_of (show wr.heap[w.heap.size + 1]? = some (.cells #[.string (bs q), .bool bad] 65 (0, 0)) from HCU.out)
          cases bad with
          | true =>
            have HU : Hid (unpT (k :: s) = none) := hide (by simp only [unpT]; rw [HBT.out, if_neg (fun h => by cases h.1)])
            obtain ⟨cr0, cr1, cr2⟩ := three_of HZ0.out
            have z0 : wr.frozen? ⟨w.heap.size, 0, none⟩ = false := by simp only [World.frozen?, HZ0.out]; rfl
            have z1 : wr.frozen? ⟨w.heap.size, 1, none⟩ = false := by simp only [World.frozen?, HZ0.out]; rfl
            have z2 : wr.frozen? ⟨w.heap.size, 2, none⟩ = false := by simp only [World.frozen?, HZ0.out]; rfl
            go_wp2
            have hF := set3 (set3 (set3 HZ0.out 0 (.int .i64 0)) 1 (.slice none 0 0)) 2 (.slice none 0 0)
            obtain ⟨f0, f1, f2⟩ := three_of hF
            refine bodyPost_ret (v := .tuple #[.agg #[.int .i64 0, .slice none 0 0, .slice none 0 0], .int .i64 1]) (by simp [results, Try.results13, go_sem, f0, f1, f2]) rfl ?_
            unfold unpackAns
            rw [← HUO.out, HU.out]
            exact ⟨Below.setCell (Below.setCell (Below.setCell HG.out (Nat.le_refl _) _) (Nat.le_refl _) _) (Nat.le_refl _) _, rfl⟩
          | false =>
            by_cases hq : q = []
            · subst hq
              have hqe : (@List.isEmpty UInt8 []) = true := rfl
              have HCR := hide (rCheckRecord_any wr (.slice none 0 0) (.slice vo rs.length vc) r0 (reads_ownRefs HWR.out) (reads_ownPoints HWP.out) (by have := bodyT_ok k (s, false); rw [HBT.out] at this; exact this))
              rw [HRK.out] at HCR
              obtain ⟨cx0, cx1, cx2⟩ := three_of HBR.out
              go_wp2_with fail
              refine HCR.out.mono ?_
              rintro e w8 ⟨rfl, hg8⟩
              have HG8 := hide hg8
              have hb0 := hg8.get HZ0.out
              have HB0 := hide hb0
              obtain ⟨cr0, cr1, cr2⟩ := three_of hb0
              have z0 : w8.frozen? ⟨w.heap.size, 0, none⟩ = false := by simp only [World.frozen?, hb0]; rfl
              have z1 : w8.frozen? ⟨w.heap.size, 1, none⟩ = false := by simp only [World.frozen?, hb0]; rfl
              have z2 : w8.frozen? ⟨w.heap.size, 2, none⟩ = false := by simp only [World.frozen?, hb0]; rfl
              clear cx0 cx1 cx2 HCR cu0 cu1
              by_cases hr : recErr r0 = 0
              · have HU : Hid (unpT (k :: s) = some r0) := hide (by simp only [unpT]; rw [HBT.out, if_pos ⟨rfl, hr⟩])
                have hz : (((recErr r0 : Nat) : Int) != 0) = false := by simp [hr]
                obtain ⟨cx0, cx1, cx2⟩ := three_of (hg8.get HBR.out)
                clear hr hg8 hb0
                go_wp2
                have hF := set3 (set3 (set3 HB0.out 0 (.int .i64 2)) 1 (.slice none 0 0)) 2 (.slice vo rs.length vc)
                obtain ⟨f0, f1, f2⟩ := three_of hF
                refine bodyPost_ret (v := .tuple #[.agg #[.int .i64 2, (.slice none 0 0), (.slice vo rs.length vc)], .int .i64 0]) (by simp [results, Try.results13, go_sem, f0, f1, f2]) rfl ?_
                unfold unpackAns
                rw [← HUO.out, HU.out]
                refine ⟨Below.setCell (Below.setCell (Below.setCell (HG.out.trans HG8.out) (Nat.le_refl _) _) (Nat.le_refl _) _) (Nat.le_refl _) _, (.slice none 0 0), (.slice vo rs.length vc), by rw [HRK.out], ?_, ?_⟩
                · have h0 := ownRefs_stay HWR.out (fun g _ hg => HG8.out.block g hg)
                  exact ownRefs_set (ownRefs_set (ownRefs_set h0 HB0.out (by decide) (by decide) _) (set3 HB0.out 0 _) (by decide) (by decide) _) (set3 (set3 HB0.out 0 _) 1 _) (by decide) (by decide) _
                · have h0 := own_stay HWP.out (fun g _ hg => HG8.out.block g hg)
                  have h1 := ownsRow_setCell_other (a := ⟨w.heap.size, 0, none⟩) h0 (own_apart h0 HB0.out (by decide)) (.int .i64 2)
                  have h2 := ownsRow_setCell_other (a := ⟨w.heap.size, 1, none⟩) h1 (own_apart h1 (set3 HB0.out 0 _) (by decide)) (.slice none 0 0)
                  exact ownsRow_setCell_other (a := ⟨w.heap.size, 2, none⟩) h2 (own_apart h2 (set3 (set3 HB0.out 0 _) 1 _) (by decide)) _
              · have HU : Hid (unpT (k :: s) = none) := hide (by simp only [unpT]; rw [HBT.out, if_neg (fun h => hr h.2)])
                have hz : (((recErr r0 : Nat) : Int) != 0) = true := by simp; exact hr
                clear hr hg8 hb0
                go_wp2
                have hF := set3 (set3 (set3 HB0.out 0 (.int .i64 0)) 1 (.slice none 0 0)) 2 (.slice none 0 0)
                obtain ⟨f0, f1, f2⟩ := three_of hF
                refine bodyPost_ret (v := .tuple #[.agg #[.int .i64 0, .slice none 0 0, .slice none 0 0], .int .i64 1]) (by simp [results, Try.results13, go_sem, f0, f1, f2]) rfl ?_
                unfold unpackAns
                rw [← HUO.out, HU.out]
                exact ⟨Below.setCell (Below.setCell (Below.setCell (HG.out.trans HG8.out) (Nat.le_refl _) _) (Nat.le_refl _) _) (Nat.le_refl _) _, rfl⟩
            · have HU : Hid (unpT (k :: s) = none) := hide (by simp only [unpT]; rw [HBT.out, if_neg (fun h => hq (by have := h.1; simp only [Prod.mk.injEq, and_true] at this; exact this))])
              have hqe : q.isEmpty = false := by cases q with | nil => exact absurd rfl hq | cons => rfl
              obtain ⟨cr0, cr1, cr2⟩ := three_of HZ0.out
              have z0 : wr.frozen? ⟨w.heap.size, 0, none⟩ = false := by simp only [World.frozen?, HZ0.out]; rfl
              have z1 : wr.frozen? ⟨w.heap.size, 1, none⟩ = false := by simp only [World.frozen?, HZ0.out]; rfl
              have z2 : wr.frozen? ⟨w.heap.size, 2, none⟩ = false := by simp only [World.frozen?, HZ0.out]; rfl
              clear hq
              go_wp2
              have hF := set3 (set3 (set3 HZ0.out 0 (.int .i64 0)) 1 (.slice none 0 0)) 2 (.slice none 0 0)
              obtain ⟨f0, f1, f2⟩ := three_of hF
              refine bodyPost_ret (v := .tuple #[.agg #[.int .i64 0, .slice none 0 0, .slice none 0 0], .int .i64 1]) (by simp [results, Try.results13, go_sem, f0, f1, f2]) rfl ?_
              unfold unpackAns
              rw [← HUO.out, HU.out]
              exact ⟨Below.setCell (Below.setCell (Below.setCell HG.out (Nat.le_refl _) _) (Nat.le_refl _) _) (Nat.le_refl _) _, rfl⟩
end Go.Proofs.Ytnlkfehnmijimaa.Rc
