/- 3 texts in one. -/
import Derived.Laws.OwnMore
import Derived.OwnWalk
import Derived.Test.YtkaeogldielkfaaGreatProg
import Derived.Test.YtkaeogldielkfaaGreatKabe2b5f
import Derived.Test.YtkaeogldielkfaaGreatKa96aaab
import Derived.Test.YtkaeogldielkfaaGreatKa7e3600
import Derived.Test.YtkaeogldielkfaaGreatK7731767
import Derived.Test.YtkaeogldielkfaaGreatKd1f2bd3
import Derived.Test.YtkaeogldielkfaaGreatK6683a6f
import Derived.Test.YtkaeogldielkfaaGreatK2180bdf
import Derived.Test.YtkaeogldielkfaaGreatKa48e839
import Derived.BigQuiet
set_option linter.unusedVariables false
set_option linter.unusedSimpArgs false
namespace Go.Proofs.YtkaeogldielkfaaGreat.Rc
open Go.RowKit Lb
attribute [local go_sem] bs_size bs_toList bs_append bs_get bs_extract
set_option maxRecDepth 20000 in
set_option maxHeartbeats 16000000 in
theorem unpRec1_any (w : World) (k : UInt8) (s : List UInt8) (hk : k.toNat = 1) (hs : s.length + 1 ≤ 1048576) :
    Calls Tryz.prog 40 #[.string (bs (k :: s))] w (unpackAns w.heap.size (unpT (k :: s)) w) := by
  obtain ⟨UO, HUO⟩ : ∃ UO, Hid (unpT (k :: s) = UO) := ⟨_, hide rfl⟩
  rw [HUO.out]
  obtain ⟨V1, e1, g1, b1⟩ := laid_at w #[.int .i64 0, .slice none 0 0, .slice none 0 0] 29
  obtain ⟨V2, e2, g2, b2⟩ := laid_at V1 #[.string (bs (k :: s)), .bool false] 123
  have s1 : V1.heap.size = w.heap.size + 1 := by rw [← e1]; simp
  have s2 : V2.heap.size = w.heap.size + 2 := by rw [← e2]; simp [s1]
  rw [s1] at b2
  have h02 : Grow w V2 := g1.trans g2
  have hB : bytT 1 (k :: s, false) = ([k], (s, false)) := by unfold bytT; rw [if_neg (by simp)]; rfl
  have HBY := hide (curBytes_any V2 (w.heap.size + 1) 1 (k :: s, false) b2 (by show (k :: s).length ≤ _; rw [List.length_cons]; omega) (by omega))
  rw [hB] at HBY
  have H02 := hide h02
  have HZ2 := hide (g2.get b1)
  have hcw : IntKind.i64.wrap ((1 : Nat) : Int) = 1 := by decide
  rw [← e2, ← e1] at HBY H02 HZ2
  clear b1 b2 g1 g2 h02 hB e1 e2
  obtain ⟨cn, HCN⟩ : ∃ cn, Hid (numT (s, false) = cn) := ⟨_, hide rfl⟩
  have HNC : Hid (∀ W, CurAt W (w.heap.size + 1) (s, false) → Calls Tryz.prog 75 #[.pointer (some ⟨w.heap.size + 1, 0, none⟩)] W fun e w' => e = .returned (.int .i64 (cn.1 : Nat)) ∧ KI (w.heap.size + 1) W w' ∧ CurAt w' (w.heap.size + 1) cn.2) := hide fun W h => by
    have := curNumber_any W (w.heap.size + 1) (s, false) h (by show s.length ≤ _; omega)
    rwa [HCN.out] at this
  have hcnl : cn.2.1.length ≤ 1048576 := by
    have := (numT_less (s, false)).1
    rw [HCN.out] at this
    have h2 : (s, false).1.length = s.length := rfl
    omega
  have hcn1 : cn.1 ≤ 4611686018427387904 := by have := numT_le (s, false); rwa [HCN.out] at this
  obtain ⟨n, c0⟩ := cn
  simp only at HNC hcnl hcn1
  go_enter Tryz.func40, Tryz.ntmps40
  go_wp2_with fail
  refine HBY.out.mono ?_
  rintro e w2 ⟨rfl, hk2, hc2⟩
  have hsw : w.heap.size + 2 ≤ w2.heap.size := by have := hk2.size; simp at this; omega
  have hz2 := hk2.get HZ2.out (by omega)
  have hg2 : Grow w w2 := grow_ki H02.out hk2 (by omega)
  obtain ⟨w3, e3, g3, b3⟩ := laid_at w2 #[.int .i64 1, .slice none 0 0, .slice none 0 0] 29
  have HB3 := hide b3
  have HN := hide (HNC.out w3 (hc2.get g3))
  have HZ3 := hide (g3.get hz2)
  have HG3 := hide (hg2.trans g3)
  have hs3 : w2.heap.size + 1 ≤ w3.heap.size := by rw [← e3]; simp
  obtain ⟨cb0, cb1⟩ := two_of (show w2.heap[w.heap.size + 1]? = some (.cells #[.string (bs s), .bool false] 123 (0, 0)) from hc2)
  rw [← e3] at HN
  have E3 := hide e3
  clear e3
  clear hk2 hz2 hg2 g3 b3 hc2 HBY HZ2 H02 HNC
  go_wp2_with fail
  refine HN.out.mono ?_
  rintro e w4 ⟨rfl, hk4, hc4⟩
  rw [E3.out] at hk4
  have hcr : w.heap.size + 1 < w2.heap.size := by omega
  have HB4 := hk4.get HB3.out (by omega)
  have HR4 : Hid (RecI w2.heap.size (w.heap.size + 1) w2.heap.size [] w3 w4) := hide ⟨hk4.kz (by omega), by have := hk4.size; omega, .slice none 0 0, HB4, ownRefs_nil _ _⟩
  have HC4 := hide hc4
  obtain ⟨X, HX⟩ : ∃ X, Hid (loopT refT n ([], c0) = X) := ⟨_, hide rfl⟩
  have HX0 := HX
  have HFT : Hid (fits 1048576 (([] : List RefL), c0)) := hide (fits_nil hcnl)
  clear hk4 hc4 HN HB4 hcnl cb0 cb1
  go_wp2
  go_loopw [8, 9, 10, 11, 12, 13, 14, 15, 16, 17] (fun iv _ _ _ _ _ _ _ _ _ wr => ∃ (i : Nat) (x : List RefL × Cur), i ≤ n ∧ iv = .int .i64 i ∧ Hid (loopT refT (n - i) x = X) ∧ Hid (RecI w2.heap.size (w.heap.size + 1) w2.heap.size x.1 w3 wr) ∧ Hid (CurAt wr (w.heap.size + 1) x.2) ∧ Hid (fits 1048576 x)) (fun iv _ _ _ _ _ _ _ _ _ _ => n - (intOf iv).toNat)
  case atStart => exact ⟨0, ([], c0), by omega, rfl, HX, HR4, HC4, HFT⟩
  case round =>
    obtain ⟨i, x, hi, rfl, HX, HR, HC, HFI⟩ := hrel
    obtain ⟨rs, q0, bad⟩ := x
    obtain ⟨cu0, cu1⟩ := two_of (show wr.heap[w.heap.size + 1]? = some (.cells #[.string (bs q0), .bool bad] 123 (0, 0)) from HC.out)
    obtain ⟨hkz, hZr, v, hrb, hor⟩ := HR.out
    obtain ⟨vo, vc, rfl⟩ := ownRefs_shape hor
    obtain ⟨cx0, cx1, cx2⟩ := three_of hrb
    by_cases hgo : i < n ∧ bad = false
    · obtain ⟨hin, rfl⟩ := hgo
      have hini : (i : Int) < (n : Int) := by omega
      as_aux_lemma =>
        simp only at HR HC hrb hor cx1
        have hfl : rs.length + q0.length ≤ 1048576 := by have := HFI.out; unfold fits at this; simpa using this
        obtain ⟨a, HA⟩ : ∃ a, Hid (numT (q0, false) = a) := ⟨_, hide rfl⟩
        have hal : a.2.1.length ≤ q0.length := by have := (numT_less (q0, false)).1; rw [HA.out] at this; exact this
        have hal2 : a.1 ≤ 4611686018427387904 := by have := numT_le (q0, false); rwa [HA.out] at this
        obtain ⟨m, HM⟩ : ∃ m, Hid (numT a.2 = m) := ⟨_, hide rfl⟩
        have hml : m.2.1.length ≤ a.2.1.length := by have := (numT_less a.2).1; rw [HM.out] at this; exact this
        have hml2 : m.1 ≤ 4611686018427387904 := by have := numT_le a.2; rwa [HM.out] at this
        have HN1 := hide (curNumber_any wr (w.heap.size + 1) (q0, false) HC.out (by show q0.length ≤ _; omega))
        rw [HA.out] at HN1
        have HBY : Hid (∀ W n c, CurAt W (w.heap.size + 1) c → c.1.length ≤ 1048576 → n ≤ 4611686018427387904 → Calls Tryz.prog 74 #[.pointer (some ⟨w.heap.size + 1, 0, none⟩), .int .i64 (n : Nat)] W fun e w' => e = .returned (.string (bs (bytT n c).1)) ∧ KI (w.heap.size + 1) W w' ∧ CurAt w' (w.heap.size + 1) (bytT n c).2) := hide fun W n c h hl hn => curBytes_any W (w.heap.size + 1) n c h (by omega) (by omega)
        have HNU : Hid (∀ W c, CurAt W (w.heap.size + 1) c → c.1.length ≤ 1048576 → Calls Tryz.prog 75 #[.pointer (some ⟨w.heap.size + 1, 0, none⟩)] W fun e w' => e = .returned (.int .i64 ((numT c).1 : Nat)) ∧ KI (w.heap.size + 1) W w' ∧ CurAt w' (w.heap.size + 1) (numT c).2) := hide fun W c h hl => curNumber_any W (w.heap.size + 1) c h (by omega)
        have HRT : Hid (refT (q0, false) = ((((a.1 : Nat) : Int), (loopT labT m.1 ([], m.2)).1), (loopT labT m.1 ([], m.2)).2)) := hide (by unfold refT labsT; rw [HA.out, HM.out])
        have HRR := hide (show RecI w2.heap.size (w.heap.size + 1) w2.heap.size rs w3 wr from HR.out)
        clear hkz hZr hrb hor HR cx1
        go_wp2_with fail
        refine HN1.out.mono ?_
        rintro e w5 ⟨rfl, hk5, hc5⟩
        obtain ⟨w6, e6, g6, b6⟩ := laid_at w5 #[.int .i64 a.1, .slice none 0 0] 59
        have HK5 := hide hk5
        have HN2 := hide (curNumber_any w6 (w.heap.size + 1) a.2 (hc5.get g6) (by omega))
        rw [HM.out] at HN2
        have hs5 : w2.heap.size ≤ w5.heap.size := by have := hk5.size; have := HRR.out.2.1; omega
        have HB6 := hide b6
        have HG6 := hide g6
        have E6 := hide e6
        rw [← e6] at HN2
        clear hk5 hc5 g6 b6 e6 HN1 cu0 cu1 cx0 cx2
        go_wp2_with fail
        refine HN2.out.mono ?_
        rintro e w7 ⟨rfl, hk7, hc7⟩
        rw [E6.out] at hk7
        have HK57 : Hid (KI (w.heap.size + 1) w5 w7) := hide ((KI.grow HG6.out).trans hk7)
        have HRI7 : Hid (RefI w5.heap.size w5.heap.size a.1 [] w7) := hide ⟨.slice none 0 0, hk7.get HB6.out (by omega), World.ownsRow_nil _ _ _ _⟩
        have HC7 := hide hc7
        have HFT7 : Hid (fits 1048576 (([] : List Lab), m.2)) := hide (fits_nil (by omega))
        obtain ⟨Y, HY⟩ : ∃ Y, Hid (loopT labT m.1 ([], m.2) = Y) := ⟨_, hide rfl⟩
        rw [HY.out] at HRT
        clear hk7 hc7 HN2
        go_wp2
        go_loopw [11, 12, 13] (fun jv _ _ wi => ∃ (j : Nat) (y : List Lab × Cur), j ≤ m.1 ∧ jv = .int .i64 j ∧ Hid (loopT labT (m.1 - j) y = Y) ∧ Hid (KI (w.heap.size + 1) w5 wi) ∧ Hid (RefI w5.heap.size w5.heap.size a.1 y.1 wi) ∧ Hid (CurAt wi (w.heap.size + 1) y.2) ∧ Hid (fits 1048576 y)) (fun jv _ _ _ => m.1 - (intOf jv).toNat)
        case atStart => exact ⟨0, ([], m.2), by omega, rfl, HY, HK57, HRI7, HC7, HFT7⟩
        case round =>
          rename World => wi
          obtain ⟨j, y, hj, rfl, HYj, HKI, HRI, HCI, HFJ⟩ := hrel
          obtain ⟨ls, q1, bad⟩ := y
          simp only at HRI HCI
          obtain ⟨cu0, cu1⟩ := two_of (show wi.heap[w.heap.size + 1]? = some (.cells #[.string (bs q1), .bool bad] 123 (0, 0)) from HCI.out)
          have hsi : w5.heap.size ≤ wi.heap.size := HKI.out.size
          by_cases hgo : j < m.1 ∧ bad = false
          · obtain ⟨hjn, rfl⟩ := hgo
            have hjni : (j : Int) < (m.1 : Int) := by omega
            as_aux_lemma =>
              have hfl2 : ls.length + q1.length ≤ 1048576 := by have := HFJ.out; unfold fits at this; simpa using this
              obtain ⟨lv, hxb, hlo⟩ := HRI.out
              have hc1 := numT_less (q1, false)
              have hc2 := numT_le (q1, false)
              have hc3 := bytT_less (numT (q1, false)).1 (numT (q1, false)).2
              obtain ⟨ta, HTA⟩ : ∃ ta, Hid (textT (q1, false) = ta) := ⟨_, hide rfl⟩
              have HTA1 : Hid (bytT (numT (q1, false)).1 (numT (q1, false)).2 = ta) := hide HTA.out
              rw [HTA1.out] at hc3
              have hta : ta.2.1.length ≤ 1048576 := by have := hc1.1; have e : (q1, false).1.length = q1.length := rfl; omega
              have hd1 := numT_less ta.2
              have hd2 := numT_le ta.2
              have hd3 := bytT_less (numT ta.2).1 (numT ta.2).2
              obtain ⟨tb, HTB⟩ : ∃ tb, Hid (textT ta.2 = tb) := ⟨_, hide rfl⟩
              have HTB1 : Hid (bytT (numT ta.2).1 (numT ta.2).2 = tb) := hide HTB.out
              rw [HTB1.out] at hd3
              have HLT : Hid (labT (q1, false) = ((ta.1, tb.1), tb.2)) := hide (by unfold labT; rw [HTA.out, HTB.out])
              have HNa := hide (HNU.out wi (q1, false) HCI.out (by show q1.length ≤ _; omega))
              have hna : (numT (q1, false)).2.1.length ≤ 1048576 := by have := hc1.1; have e : (q1, false).1.length = q1.length := rfl; omega
              have hnb : (numT ta.2).2.1.length ≤ 1048576 := by have := hd1.1; omega
              have HNB' : Hid (∀ W, CurAt W (w.heap.size + 1) ta.2 → Calls Tryz.prog 75 #[.pointer (some ⟨w.heap.size + 1, 0, none⟩)] W fun e w' => e = .returned (.int .i64 ((numT ta.2).1 : Nat)) ∧ KI (w.heap.size + 1) W w' ∧ CurAt w' (w.heap.size + 1) (numT ta.2).2) := hide fun W h => HNU.out W ta.2 h hta
              generalize numT (q1, false) = na at HNa hc2 hna HTA1
              generalize numT ta.2 = nb at hd2 hnb HTB1 HNB'
              clear hc1 hc3 hd1 hd3 HCI
              go_wp2_with fail
              refine HNa.out.mono ?_
              rintro e x1 ⟨rfl, hk1, hx1⟩
              have HKa := hide hk1
              have HBa := hide (HBY.out x1 na.1 na.2 hx1 hna hc2)
              rw [HTA1.out] at HBa
              clear hk1 hx1 HNa cu0 cu1
              go_wp2_with fail
              refine HBa.out.mono ?_
              rintro e x2 ⟨rfl, hk2, hx2⟩
              have HKb := hide (HKa.out.trans hk2)
              have HNb := hide (HNB'.out x2 hx2)
              clear hk2 hx2 HBa
              go_wp2_with fail
              refine HNb.out.mono ?_
              rintro e x3 ⟨rfl, hk3, hx3⟩
              have HKc := hide (HKb.out.trans hk3)
              have HBb := hide (HBY.out x3 nb.1 nb.2 hx3 hnb hd2)
              rw [HTB1.out] at HBb
              clear hk3 hx3 HNb
              go_wp2_with fail
              refine HBb.out.mono ?_
              rintro e x4 ⟨rfl, hk4, hx4⟩
              have hk14 := HKc.out.trans hk4
              have hxb4 := hk14.get hxb (by omega)
              have hlo4 : ownLabels x4 w5.heap.size lv ls := hk14.own hlo (fun e => by have := (hlo.lt _ e).1; omega)
              have hsx : w5.heap.size ≤ x4.heap.size := by have := hk14.size; omega
              have HK14 := hide hk14
              have HXB := hide hxb4
              have HLO := hide hlo4
              have HX4 := hide hx4
              obtain ⟨i0, hi0, hz0, hz1, hz2⟩ := info_parts infoLab
              obtain ⟨lo, lc, rfl⟩ := own_shape hlo4
              obtain ⟨y0, y1⟩ := two_of hxb4
              have hzf : ∀ W : World, typedKept 107 x4 W → W.frozen? ⟨w5.heap.size, 1, none⟩ = false := fun W h => by have := h _ _ _ _ HXB.out (by decide); simp only [World.frozen?, this]; rfl
              have hcf : ∀ W : World, typedKept 107 x4 W → W.cell? ⟨w5.heap.size, 1, none⟩ = some (.slice lo ls.length lc) := fun W h => by have := h _ _ _ _ HXB.out (by decide); exact (two_of this).2
              have HZF := hide hzf
              have HCF := hide hcf
              have HNEW := hide (newC x4 #[.string (bs ta.1), .string (bs tb.1)] 107)
              have hgx : Grow x4 (x4.alloc (.cells #[.string (bs ta.1), .string (bs tb.1)] 107)) := (Grow.refl _).alloc _
              have HGX := hide hgx
              have hown4 : (x4.alloc (.cells #[.string (bs ta.1), .string (bs tb.1)] 107)).ownsRow w5.heap.size 107 2 (.slice lo ls.length lc) ls.length (labCells ls) := Lb.own_grow hlo4 hgx
              have HOWN4 := hide hown4
              clear hk4 hk14 hx4 hxb hlo hxb4 hlo4 hzf hcf hgx hown4 HBb
              go_wp2_with (at_builtin; refine wpList_append_own _ rfl _ _ 57 rfl w5.heap.size 107 i0 _ 2 32 Tryz.underlying57 hi0 hz0 hz1 hz2 rfl (by omega) _ ls.length (labCells ls) rfl HOWN4.out ⟨x4.heap.size, 0, none⟩ 1 1 [.string (bs ta.1), .string (bs tb.1)] rfl rfl HNEW.out (lab_one _ _) (by unfold maxLen; omega) (by omega) (by simp; omega) ?_; intro v' x5 hown' hgrow _; have hput := hide (RefI.put (x := (ta.1, tb.1)) HXB.out HLO.out HGX.out hsx hown' hgrow); have zf1 := HZF.out x5 hput.out.2.2; have cf1 := HCF.out x5 hput.out.2.2; obtain ⟨ao', cp', rfl⟩ := own_shape hown')
              go_roundw
              case rel =>
                refine ⟨j + 1, (ls ++ [(ta.1, tb.1)], tb.2), by omega, by go_num, ?_, ?_, hput.out.1, ?_, ?_⟩
                · have h := HYj.out
                  rw [show m.1 - j = (m.1 - (j + 1)) + 1 by omega, loopT_step rfl] at h
                  simp only [HLT.out] at h
                  exact h
                · exact KZ.ki ((((HKI.out.trans HK14.out).kz (Nat.le_refl _)).trans (belowKZ hput.out.2.1 _)).setNew (Nat.le_refl _) _ _)
                · exact (Below.heap_setCell _ _ _ _ (by show w.heap.size + 1 ≠ w5.heap.size; omega)).trans (hput.out.2.2 _ _ _ _ HX4.out (by decide))
                · have h := fits_step labT_less HFJ.out rfl
                  simp only [HLT.out] at h
                  exact h
              case measure => simp [intOf]; omega
          · have hYy : Y = (ls, (q1, bad)) := by
              rw [← HYj.out]
              by_cases hjn : j < m.1
              · exact loopT_bad _ _ (by simpa [hjn] using hgo)
              · rw [show m.1 - j = 0 by omega]; rfl
            have hcond : (bad = true ∧ j < m.1) ∨ ¬ j < m.1 := by
              by_cases hjn : j < m.1
              · exact .inl ⟨by simpa [hjn] using hgo, hjn⟩
              · exact .inr hjn
            rw [hYy] at HRT
            simp only at HRT
            obtain ⟨lv, hxb, hlo⟩ := HRI.out
            obtain ⟨lo, lc, rfl⟩ := own_shape hlo
            obtain ⟨hkz, hZr, v, hrb, hor⟩ := (HRR.out.ki HK5.out (by omega) (by omega)).ki HKI.out (by omega) (by omega)
            obtain ⟨ps, hpl, hrow, hall⟩ := hor
            obtain ⟨vo, vc, rfl⟩ := own_shape hrow
            obtain ⟨y0, y1⟩ := two_of hxb
            obtain ⟨x0, x1, x2⟩ := three_of hrb
            obtain ⟨i0, hi0, hz0, hz1, hz2⟩ := info_parts infoRefT
            have HNEW := hide (newC wi #[.int .i64 a.1, .slice lo ls.length lc] 59)
            have hgx : Grow wi (wi.alloc (.cells #[.int .i64 a.1, .slice lo ls.length lc] 59)) := (Grow.refl _).alloc _
            have HGX := hide hgx
            have HOWN4 : Hid ((wi.alloc (.cells #[.int .i64 a.1, .slice lo ls.length lc] 59)).ownsRow w2.heap.size 59 2 (.slice vo rs.length vc) rs.length (refCells ps)) := hide (Lb.own_grow hrow hgx)
            have HPUT : Hid (∀ (W2 : World) (v' : Value), W2.ownsRow w2.heap.size 59 2 v' (rs.length + 1) (refCells ps ++ [.int .i64 a.1, .slice lo ls.length lc]) → (wi.alloc (.cells #[.int .i64 a.1, .slice lo ls.length lc] 59)).grownBy W2 (Value.slice vo rs.length vc).ownBlock → RecI w2.heap.size (w.heap.size + 1) w2.heap.size (rs ++ [(((a.1 : Nat) : Int), ls)]) w3 (W2.setCell ⟨w2.heap.size, 1, none⟩ v') ∧ typedKept 59 wi W2) := hide fun W2 v' h1 h2 => RecI.put hkz hZr hrb hpl hrow hall (own_le hlo hs5) hgx h1 h2 (Nat.le_refl _)
            have HRB := hide hrb
            have HFR : Hid (∀ W : World, typedKept 59 wi W → W.frozen? ⟨w2.heap.size, 1, none⟩ = false ∧ W.cell? ⟨w2.heap.size, 1, none⟩ = some (.slice vo rs.length vc)) := hide fun W h => by
              have := h _ _ _ _ hrb (by decide)
              exact ⟨by simp only [World.frozen?, this]; rfl, (three_of this).2.1⟩
            have HONE := hide (ref_one ((a.1 : Nat) : Int) hlo)
            have hszi : w2.heap.size ≤ (wi.alloc (.cells #[.int .i64 a.1, .slice lo ls.length lc] 59)).heap.size := by have := hgx.size; omega
            clear hgo hYy hxb hlo hkz hZr hrb hpl hrow hall hgx HRR HRI
            rcases hcond with ⟨hb, hjn⟩ | hjn
            all_goals
              have hjni := hjn
              as_aux_lemma =>
                go_wp2_with (at_builtin; refine wpList_append_own _ rfl _ _ 22 rfl w2.heap.size 59 i0 _ 2 32 Tryz.underRefs hi0 hz0 hz1 hz2 rfl (by omega) _ rs.length (refCells ps) rfl HOWN4.out ⟨wi.heap.size, 0, none⟩ 1 1 [.int .i64 a.1, .slice lo ls.length lc] rfl rfl HNEW.out HONE.out (by unfold maxLen; omega) (by omega) hszi ?_; intro v' x5 hown' hgrow _; have hput := hide (HPUT.out x5 v' hown' hgrow); have zf1 := (HFR.out x5 hput.out.2).1; have cf1 := (HFR.out x5 hput.out.2).2; obtain ⟨ao', cp', rfl⟩ := own_shape hown')
                go_roundw
                case rel =>
                  refine ⟨i + 1, (rs ++ [(((a.1 : Nat) : Int), ls)], (q1, bad)), by omega, by go_num, ?_, hput.out.1, ?_, ?_⟩
                  · have h := HX.out
                    rw [show n - i = (n - (i + 1)) + 1 by omega, loopT_step rfl] at h
                    simp only [HRT.out] at h
                    exact h
                  · exact (Below.heap_setCell _ _ _ _ (by show w.heap.size + 1 ≠ w2.heap.size; omega)).trans (hput.out.2 _ _ _ _ HCI.out (by decide))
                  · have h := fits_step refT_less HFI.out rfl
                    simp only [HRT.out] at h
                    exact h
                case measure => simp [intOf]; omega
    · have hXx : X = (rs, (q0, bad)) := by
        rw [← HX.out]
        by_cases hin : i < n
        · exact loopT_bad _ _ (by simpa [hin] using hgo)
        · rw [show n - i = 0 by omega]; rfl
      obtain ⟨c, hc⟩ : ∃ c : Cur, c = (q0, bad) := ⟨_, rfl⟩
      obtain ⟨r0, hr0⟩ : ∃ r0 : Rcd, r0 = ⟨1, rs, []⟩ := ⟨_, rfl⟩
      have HBT : Hid (bodyT k (s, false) = (r0, c)) := hide (by
        unfold bodyT
        rw [if_pos hk, HCN.out]
        simp only
        rw [HX0.out, hXx, hr0, hc])
      have HCU : Hid (CurAt wr (w.heap.size + 1) c) := hide (by rw [hc]; exact HC.out)
      have HBR := hide hrb
      have HWR : Hid (ownRefs wr w.heap.size (.slice vo rs.length vc) r0.refs) := hide (by rw [hr0]; exact ownRefs_le hor (by omega))
      have HWP : Hid (ownPoints wr w.heap.size (.slice none 0 0) r0.points) := hide (by rw [hr0]; exact World.ownsRow_nil _ _ _ _)
      have HRK : Hid (r0.kind = 1) := hide (by rw [hr0])
      have HG : Hid (Grow w wr) := hide (grow_kz (Z := w2.heap.size) (x := w.heap.size + 1) HG3.out hkz (by omega) (by omega))
      have HZ0 := hide ((hkz.2.2.2.2 w.heap.size (by omega) (by omega)).trans HZ3.out)
      have hcond : (bad = true ∧ i < n) ∨ ¬ i < n := by
        by_cases hin : i < n
        · exact .inl ⟨by simpa [hin] using hgo, hin⟩
        · exact .inr hin
      clear hgo hkz hrb hor hr0 hXx HX HR HC HFI cu0 cu1
      rcases hcond with ⟨hb1, hin⟩ | hin
      · have hini : (i : Int) < (n : Int) := by omega
        rw [hb1] at hc
        subst hc
        clear hb1
        as_aux_lemma =>
          obtain ⟨cu0, cu1⟩ := two_of (show wr.heap[w.heap.size + 1]? = some (.cells #[.string (bs q0), .bool true] 123 (0, 0)) from HCU.out)
          have HU : Hid (unpT (k :: s) = none) := hide (by simp only [unpT]; rw [HBT.out, if_neg (fun h => by cases h.1)])
          obtain ⟨cr0, cr1, cr2⟩ := three_of HZ0.out
          have z0 : wr.frozen? ⟨w.heap.size, 0, none⟩ = false := by simp only [World.frozen?, HZ0.out]; rfl
          have z1 : wr.frozen? ⟨w.heap.size, 1, none⟩ = false := by simp only [World.frozen?, HZ0.out]; rfl
          have z2 : wr.frozen? ⟨w.heap.size, 2, none⟩ = false := by simp only [World.frozen?, HZ0.out]; rfl
          go_wp2
          have hF := set3 (set3 (set3 HZ0.out 0 (.int .i64 0)) 1 (.slice none 0 0)) 2 (.slice none 0 0)
          obtain ⟨f0, f1, f2⟩ := three_of hF
          refine bodyPost_ret (v := .tuple #[.agg #[.int .i64 0, .slice none 0 0, .slice none 0 0], .int .i64 1]) (by simp [results, Tryz.results40, go_sem, f0, f1, f2]) rfl ?_
          unfold unpackAns
          rw [← HUO.out, HU.out]
          exact ⟨Below.setCell (Below.setCell (Below.setCell HG.out (Nat.le_refl _) _) (Nat.le_refl _) _) (Nat.le_refl _) _, rfl⟩
      · have hini : ¬ (i : Int) < (n : Int) := by omega
        clear hc
        as_aux_lemma =>
          obtain ⟨q, bad⟩ := c
          obtain ⟨cu0, cu1⟩ := two_of (show wr.heap[w.heap.size + 1]? = some (.cells #[.string (bs q), .bool bad] 123 (0, 0)) from HCU.out)
          cases bad with
          | true =>
            have HU : Hid (unpT (k :: s) = none) := hide (by simp only [unpT]; rw [HBT.out, if_neg (fun h => by cases h.1)])
            obtain ⟨cr0, cr1, cr2⟩ := three_of HZ0.out
            have z0 : wr.frozen? ⟨w.heap.size, 0, none⟩ = false := by simp only [World.frozen?, HZ0.out]; rfl
            have z1 : wr.frozen? ⟨w.heap.size, 1, none⟩ = false := by simp only [World.frozen?, HZ0.out]; rfl
            have z2 : wr.frozen? ⟨w.heap.size, 2, none⟩ = false := by simp only [World.frozen?, HZ0.out]; rfl
            go_wp2
            have hF := set3 (set3 (set3 HZ0.out 0 (.int .i64 0)) 1 (.slice none 0 0)) 2 (.slice none 0 0)
            obtain ⟨f0, f1, f2⟩ := three_of hF
            refine bodyPost_ret (v := .tuple #[.agg #[.int .i64 0, .slice none 0 0, .slice none 0 0], .int .i64 1]) (by simp [results, Tryz.results40, go_sem, f0, f1, f2]) rfl ?_
            unfold unpackAns
            rw [← HUO.out, HU.out]
            exact ⟨Below.setCell (Below.setCell (Below.setCell HG.out (Nat.le_refl _) _) (Nat.le_refl _) _) (Nat.le_refl _) _, rfl⟩
          | false =>
            by_cases hq : q = []
            · subst hq
              have hqe : (@List.isEmpty UInt8 []) = true := rfl
              have HCR := hide (rCheckRecord_any wr (.slice vo rs.length vc) (.slice none 0 0) r0 (reads_ownRefs HWR.out) (reads_ownPoints HWP.out) (by have := bodyT_ok k (s, false); rw [HBT.out] at this; exact this))
              rw [HRK.out] at HCR
              obtain ⟨cx0, cx1, cx2⟩ := three_of HBR.out
              go_wp2_with fail
              refine HCR.out.mono ?_
              rintro e w8 ⟨rfl, hg8⟩
              have HG8 := hide hg8
              have hb0 := hg8.get HZ0.out
              have HB0 := hide hb0
              obtain ⟨cr0, cr1, cr2⟩ := three_of hb0
              have z0 : w8.frozen? ⟨w.heap.size, 0, none⟩ = false := by simp only [World.frozen?, hb0]; rfl
              have z1 : w8.frozen? ⟨w.heap.size, 1, none⟩ = false := by simp only [World.frozen?, hb0]; rfl
              have z2 : w8.frozen? ⟨w.heap.size, 2, none⟩ = false := by simp only [World.frozen?, hb0]; rfl
              clear cx0 cx1 cx2 HCR cu0 cu1
              by_cases hr : recErr r0 = 0
              · have HU : Hid (unpT (k :: s) = some r0) := hide (by simp only [unpT]; rw [HBT.out, if_pos ⟨rfl, hr⟩])
                have hz : (((recErr r0 : Nat) : Int) != 0) = false := by simp [hr]
                obtain ⟨cx0, cx1, cx2⟩ := three_of (hg8.get HBR.out)
                clear hr hg8 hb0
                go_wp2
                have hF := set3 (set3 (set3 HB0.out 0 (.int .i64 1)) 1 (.slice vo rs.length vc)) 2 (.slice none 0 0)
                obtain ⟨f0, f1, f2⟩ := three_of hF
                refine bodyPost_ret (v := .tuple #[.agg #[.int .i64 1, (.slice vo rs.length vc), (.slice none 0 0)], .int .i64 0]) (by simp [results, Tryz.results40, go_sem, f0, f1, f2]) rfl ?_
                unfold unpackAns
                rw [← HUO.out, HU.out]
                refine ⟨Below.setCell (Below.setCell (Below.setCell (HG.out.trans HG8.out) (Nat.le_refl _) _) (Nat.le_refl _) _) (Nat.le_refl _) _, (.slice vo rs.length vc), (.slice none 0 0), by rw [HRK.out], ?_, ?_⟩
                · have h0 := ownRefs_stay HWR.out (fun g _ hg => HG8.out.block g hg)
                  exact ownRefs_set (ownRefs_set (ownRefs_set h0 HB0.out (by decide) (by decide) _) (set3 HB0.out 0 _) (by decide) (by decide) _) (set3 (set3 HB0.out 0 _) 1 _) (by decide) (by decide) _
                · have h0 := own_stay HWP.out (fun g _ hg => HG8.out.block g hg)
                  have h1 := ownsRow_setCell_other (a := ⟨w.heap.size, 0, none⟩) h0 (own_apart h0 HB0.out (by decide)) (.int .i64 1)
                  have h2 := ownsRow_setCell_other (a := ⟨w.heap.size, 1, none⟩) h1 (own_apart h1 (set3 HB0.out 0 _) (by decide)) (.slice vo rs.length vc)
                  exact ownsRow_setCell_other (a := ⟨w.heap.size, 2, none⟩) h2 (own_apart h2 (set3 (set3 HB0.out 0 _) 1 _) (by decide)) _
              · have HU : Hid (unpT (k :: s) = none) := hide (by simp only [unpT]; rw [HBT.out, if_neg (fun h => hr h.2)])
                have hz : (((recErr r0 : Nat) : Int) != 0) = true := by simp; exact hr
                clear hr hg8 hb0
                go_wp2
                have hF := set3 (set3 (set3 HB0.out 0 (.int .i64 0)) 1 (.slice none 0 0)) 2 (.slice none 0 0)
                obtain ⟨f0, f1, f2⟩ := three_of hF
                refine bodyPost_ret (v := .tuple #[.agg #[.int .i64 0, .slice none 0 0, .slice none 0 0], .int .i64 1]) (by simp [results, Tryz.results40, go_sem, f0, f1, f2]) rfl ?_
                unfold unpackAns
                rw [← HUO.out, HU.out]
                exact ⟨Below.setCell (Below.setCell (Below.setCell (HG.out.trans HG8.out) (Nat.le_refl _) _) (Nat.le_refl _) _) (Nat.le_refl _) _, rfl⟩
            · have HU : Hid (unpT (k :: s) = none) := hide (by simp only [unpT]; rw [HBT.out, if_neg (fun h => hq (by have := h.1; simp only [Prod.mk.injEq, and_true] at this; exact this))])
              have hqe : q.isEmpty = false := by cases q with | nil => exact absurd rfl hq | cons => rfl
              obtain ⟨cr0, cr1, cr2⟩ := three_of HZ0.out
              have z0 : wr.frozen? ⟨w.heap.size, 0, none⟩ = false := by simp only [World.frozen?, HZ0.out]; rfl
              have z1 : wr.frozen? ⟨w.heap.size, 1, none⟩ = false := by simp only [World.frozen?, HZ0.out]; rfl
              have z2 : wr.frozen? ⟨w.heap.size, 2, none⟩ = false := by simp only [World.frozen?, HZ0.out]; rfl
              clear hq
              go_wp2
              have hF := set3 (set3 (set3 HZ0.out 0 (.int .i64 0)) 1 (.slice none 0 0)) 2 (.slice none 0 0)
              obtain ⟨f0, f1, f2⟩ := three_of hF
              refine bodyPost_ret (v := .tuple #[.agg #[.int .i64 0, .slice none 0 0, .slice none 0 0], .int .i64 1]) (by simp [results, Tryz.results40, go_sem, f0, f1, f2]) rfl ?_
              unfold unpackAns
              rw [← HUO.out, HU.out]
              exact ⟨Below.setCell (Below.setCell (Below.setCell HG.out (Nat.le_refl _) _) (Nat.le_refl _) _) (Nat.le_refl _) _, rfl⟩
theorem kz_drew {Z b : Nat} {w w1 : World} (h : KZ Z b w w1) : KZ Z b w w1.drew := h
set_option maxRecDepth 20000 in
set_option maxHeartbeats 16000000 in
theorem unpRec2_any (w : World) (k : UInt8) (s : List UInt8) (hk : k.toNat = 2) (hs : s.length + 1 ≤ 1048576) :
    Calls Tryz.prog 40 #[.string (bs (k :: s))] w (unpackAns w.heap.size (unpT (k :: s)) w) := by
  obtain ⟨UO, HUO⟩ : ∃ UO, Hid (unpT (k :: s) = UO) := ⟨_, hide rfl⟩
  rw [HUO.out]
  obtain ⟨V1, e1, g1, b1⟩ := laid_at w #[.int .i64 0, .slice none 0 0, .slice none 0 0] 29
  obtain ⟨V2, e2, g2, b2⟩ := laid_at V1 #[.string (bs (k :: s)), .bool false] 123
  have s1 : V1.heap.size = w.heap.size + 1 := by rw [← e1]; simp
  have s2 : V2.heap.size = w.heap.size + 2 := by rw [← e2]; simp [s1]
  rw [s1] at b2
  have h02 : Grow w V2 := g1.trans g2
  have hB : bytT 1 (k :: s, false) = ([k], (s, false)) := by unfold bytT; rw [if_neg (by simp)]; rfl
  have HBY := hide (curBytes_any V2 (w.heap.size + 1) 1 (k :: s, false) b2 (by show (k :: s).length ≤ _; rw [List.length_cons]; omega) (by omega))
  rw [hB] at HBY
  have H02 := hide h02
  have HZ2 := hide (g2.get b1)
  have hcw : IntKind.i64.wrap ((2 : Nat) : Int) = 2 := by decide
  rw [← e2, ← e1] at HBY H02 HZ2
  clear b1 b2 g1 g2 h02 hB e1 e2
  obtain ⟨cn, HCN⟩ : ∃ cn, Hid (numT (s, false) = cn) := ⟨_, hide rfl⟩
  have HNC : Hid (∀ W, CurAt W (w.heap.size + 1) (s, false) → Calls Tryz.prog 75 #[.pointer (some ⟨w.heap.size + 1, 0, none⟩)] W fun e w' => e = .returned (.int .i64 (cn.1 : Nat)) ∧ KI (w.heap.size + 1) W w' ∧ CurAt w' (w.heap.size + 1) cn.2) := hide fun W h => by
    have := curNumber_any W (w.heap.size + 1) (s, false) h (by show s.length ≤ _; omega)
    rwa [HCN.out] at this
  have hcnl : cn.2.1.length ≤ 1048576 := by
    have := (numT_less (s, false)).1
    rw [HCN.out] at this
    have h2 : (s, false).1.length = s.length := rfl
    omega
  have hcn1 : cn.1 ≤ 4611686018427387904 := by have := numT_le (s, false); rwa [HCN.out] at this
  obtain ⟨n, c0⟩ := cn
  simp only at HNC hcnl hcn1
  go_enter Tryz.func40, Tryz.ntmps40
  go_wp2_with fail
  refine HBY.out.mono ?_
  rintro e w2 ⟨rfl, hk2, hc2⟩
  have hsw : w.heap.size + 2 ≤ w2.heap.size := by have := hk2.size; simp at this; omega
  have hz2 := hk2.get HZ2.out (by omega)
  have hg2 : Grow w w2 := grow_ki H02.out hk2 (by omega)
  obtain ⟨w3, e3, g3, b3⟩ := laid_at w2 #[.int .i64 2, .slice none 0 0, .slice none 0 0] 29
  have HB3 := hide b3
  have HN := hide (HNC.out w3 (hc2.get g3))
  have HZ3 := hide (g3.get hz2)
  have HG3 := hide (hg2.trans g3)
  have hs3 : w2.heap.size + 1 ≤ w3.heap.size := by rw [← e3]; simp
  obtain ⟨cb0, cb1⟩ := two_of (show w2.heap[w.heap.size + 1]? = some (.cells #[.string (bs s), .bool false] 123 (0, 0)) from hc2)
  rw [← e3] at HN
  have E3 := hide e3
  clear e3
  clear hk2 hz2 hg2 g3 b3 hc2 HBY HZ2 H02 HNC
  go_wp2_with fail
  refine HN.out.mono ?_
  rintro e w4 ⟨rfl, hk4, hc4⟩
  rw [E3.out] at hk4
  have hcr : w.heap.size + 1 < w2.heap.size := by omega
  have HB4 := hk4.get HB3.out (by omega)
  have HR4 : Hid (RecP w2.heap.size (w.heap.size + 1) w2.heap.size [] w3 w4) := hide ⟨hk4.kz (by omega), by have := hk4.size; omega, .slice none 0 0, HB4, World.ownsRow_nil _ _ _ _⟩
  have HC4 := hide hc4
  obtain ⟨X, HX⟩ : ∃ X, Hid (loopT pntT n ([], c0) = X) := ⟨_, hide rfl⟩
  have HX0 := HX
  have HFT : Hid (fits 1048576 (([] : List Pnt), c0)) := hide (fits_nil hcnl)
  clear hk4 hc4 HN HB4 hcnl cb0 cb1
  go_wp2
  go_loopw [8, 9, 10, 11, 12, 13, 14, 15, 16, 17] (fun iv _ _ _ _ _ _ _ _ _ wr => ∃ (i : Nat) (x : List Pnt × Cur), i ≤ n ∧ iv = .int .i64 i ∧ Hid (loopT pntT (n - i) x = X) ∧ Hid (RecP w2.heap.size (w.heap.size + 1) w2.heap.size x.1 w3 wr) ∧ Hid (CurAt wr (w.heap.size + 1) x.2) ∧ Hid (fits 1048576 x)) (fun iv _ _ _ _ _ _ _ _ _ _ => n - (intOf iv).toNat)
  case atStart => exact ⟨0, ([], c0), by omega, rfl, HX, HR4, HC4, HFT⟩
  case round =>
    obtain ⟨i, x, hi, rfl, HX, HR, HC, HFI⟩ := hrel
    obtain ⟨rs, q0, bad⟩ := x
    obtain ⟨cu0, cu1⟩ := two_of (show wr.heap[w.heap.size + 1]? = some (.cells #[.string (bs q0), .bool bad] 123 (0, 0)) from HC.out)
    obtain ⟨hkz, hZr, v, hrb, hor⟩ := HR.out
    obtain ⟨vo, vc, rfl⟩ := own_shape hor
    obtain ⟨cx0, cx1, cx2⟩ := three_of hrb
    by_cases hgo : i < n ∧ bad = false
    · obtain ⟨hin, rfl⟩ := hgo
      have hini : (i : Int) < (n : Int) := by omega
      as_aux_lemma =>
        simp only at HR HC hrb hor cx2
        have hfl : rs.length + q0.length ≤ 1048576 := by have := HFI.out; unfold fits at this; simpa using this
        obtain ⟨a, HA⟩ : ∃ a, Hid (numT (q0, false) = a) := ⟨_, hide rfl⟩
        have hal : a.2.1.length ≤ q0.length := by have := (numT_less (q0, false)).1; rw [HA.out] at this; exact this
        have hal2 : a.1 ≤ 4611686018427387904 := by have := numT_le (q0, false); rwa [HA.out] at this
        obtain ⟨m, HM⟩ : ∃ m, Hid (numT a.2 = m) := ⟨_, hide rfl⟩
        have hml : m.2.1.length ≤ a.2.1.length := by have := (numT_less a.2).1; rw [HM.out] at this; exact this
        have hml2 : m.1 ≤ 4611686018427387904 := by have := numT_le a.2; rwa [HM.out] at this
        have HN1 := hide (curNumber_any wr (w.heap.size + 1) (q0, false) HC.out (by show q0.length ≤ _; omega))
        rw [HA.out] at HN1
        have HBY : Hid (∀ W n c, CurAt W (w.heap.size + 1) c → c.1.length ≤ 1048576 → n ≤ 4611686018427387904 → Calls Tryz.prog 74 #[.pointer (some ⟨w.heap.size + 1, 0, none⟩), .int .i64 (n : Nat)] W fun e w' => e = .returned (.string (bs (bytT n c).1)) ∧ KI (w.heap.size + 1) W w' ∧ CurAt w' (w.heap.size + 1) (bytT n c).2) := hide fun W n c h hl hn => curBytes_any W (w.heap.size + 1) n c h (by omega) (by omega)
        have HRR := hide (show RecP w2.heap.size (w.heap.size + 1) w2.heap.size rs w3 wr from HR.out)
        clear hkz hZr hrb hor HR cx1 cx2
        go_wp2_with fail
        refine HN1.out.mono ?_
        rintro e w5 ⟨rfl, hk5, hc5⟩
        obtain ⟨w6, e6, g6, b6⟩ := laid_at w5 #[.int .i64 a.1, .int .i64 0, .int .u64 0] 64
        have HK5 := hide hk5
        have HN2 := hide (curNumber_any w6 (w.heap.size + 1) a.2 (hc5.get g6) (by omega))
        rw [HM.out] at HN2
        have hs5 : w2.heap.size ≤ w5.heap.size := by have := hk5.size; have := HRR.out.2.1; omega
        have HB6 := hide b6
        have HG6 := hide g6
        have E6 := hide e6
        rw [← e6] at HN2
        clear hk5 hc5 g6 b6 e6 HN1 cu0 cu1 cx0
        go_wp2_with fail
        refine HN2.out.mono ?_
        rintro e w7 ⟨rfl, hk7, hc7⟩
        rw [E6.out] at hk7
        have HK57 : Hid (KI (w.heap.size + 1) w5 w7) := hide ((KI.grow HG6.out).trans hk7)
        have hpb7 := hk7.get HB6.out (by omega)
        have HPB7 := hide hpb7
        have HC7 := hide hc7
        have hs7 : w5.heap.size + 1 ≤ w7.heap.size := by have := hk7.size; rw [← E6.out] at this; simp at this; omega
        obtain ⟨p0, p1, p2⟩ := three_of hpb7
        have z1 : w7.frozen? ⟨w5.heap.size, 1, none⟩ = false := by simp only [World.frozen?, hpb7]; rfl
        obtain ⟨h2, HH2⟩ : ∃ h2, Hid (m.1 / 2 = h2) := ⟨_, hide rfl⟩
        have hh2 : h2 ≤ 2305843009213693952 := by rw [← HH2.out]; omega
        have hdiv : Int.tdiv (m.1 : Int) 2 = (h2 : Int) := by rw [Int.tdiv_eq_ediv_of_nonneg (by omega), ← HH2.out]; omega
        have hw1 : IntKind.i64.wrap (h2 : Int) = (h2 : Int) := by rw [IntKind.wrap_i64]; omega
        have hw2 : IntKind.i64.wrap (-(h2 : Int)) = -(h2 : Int) := by rw [IntKind.wrap_i64]; omega
        have hw3 : IntKind.i64.wrap (-(h2 : Int) - 1) = -(h2 : Int) - 1 := by rw [IntKind.wrap_i64]; omega
        clear hk7 hc7 HN2 hpb7
        by_cases hodd : m.1 % 2 = 1
        · have hmod : Int.tmod (m.1 : Int) 2 = 1 := by rw [Int.tmod_eq_emod_of_nonneg (by omega)]; omega
          have HTI : Hid (timeI m.1 = -(h2 : Int) - 1) := hide (by unfold timeI; rw [if_pos hodd, HH2.out])
          clear hodd
          as_aux_lemma =>
            have hcu8 : CurAt ((w7.setCell ⟨w5.heap.size, 1, none⟩ (.int .i64 (h2 : Int))).setCell ⟨w5.heap.size, 1, none⟩ (.int .i64 (-(h2 : Int) - 1))) (w.heap.size + 1) m.2 := (Below.heap_setCell _ _ _ _ (by show w.heap.size + 1 ≠ w5.heap.size; omega)).trans ((Below.heap_setCell _ _ _ _ (by show w.heap.size + 1 ≠ w5.heap.size; omega)).trans HC7.out)
            have hpb8 : ((w7.setCell ⟨w5.heap.size, 1, none⟩ (.int .i64 (h2 : Int))).setCell ⟨w5.heap.size, 1, none⟩ (.int .i64 (-(h2 : Int) - 1))).heap[w5.heap.size]? = some (.cells #[.int .i64 a.1, .int .i64 (-(h2 : Int) - 1), .int .u64 0] 64 (0, 0)) := set3 (set3 HPB7.out 1 (.int .i64 (h2 : Int))) 1 (.int .i64 (-(h2 : Int) - 1))
            have hkz8 : KZ w5.heap.size (w.heap.size + 1) w5 ((w7.setCell ⟨w5.heap.size, 1, none⟩ (.int .i64 (h2 : Int))).setCell ⟨w5.heap.size, 1, none⟩ (.int .i64 (-(h2 : Int) - 1))) := ((HK57.out.kz (Nat.le_refl _)).setNew (Nat.le_refl _) _ _).setNew (Nat.le_refl _) _ _
            have hsz8 : w5.heap.size + 1 ≤ ((w7.setCell ⟨w5.heap.size, 1, none⟩ (.int .i64 (h2 : Int))).setCell ⟨w5.heap.size, 1, none⟩ (.int .i64 (-(h2 : Int) - 1))).heap.size := by simp [World.setCell]; omega
            have HPB8 := hide hpb8
            have HKZ8 := hide hkz8
            have HSZ8 := hide hsz8
            have HB8 := hide (HBY.out ((w7.setCell ⟨w5.heap.size, 1, none⟩ (.int .i64 (h2 : Int))).setCell ⟨w5.heap.size, 1, none⟩ (.int .i64 (-(h2 : Int) - 1))) 8 m.2 hcu8 (by omega) (by omega))
            clear hcu8 hpb8 hkz8 hsz8
            go_wp2_with fail
            refine HB8.out.mono ?_
            rintro e w9 ⟨rfl, hk9, hc9⟩
            obtain ⟨t8, HT8⟩ : ∃ t8, Hid (bytT 8 m.2 = t8) := ⟨_, hide rfl⟩
            have ht8l : t8.1.length ≤ 8 := by have := bytT_len 8 m.2; rwa [HT8.out] at this
            rw [HT8.out] at hc9 ⊢
            have HPT : Hid (pntT (q0, false) = ((((a.1 : Nat) : Int), (-(h2 : Int) - 1), wordI t8.1), t8.2)) := hide (by unfold pntT; rw [HA.out, HM.out, HT8.out, HTI.out])
            have HPB9 : Hid (w9.heap[w5.heap.size]? = some (.cells #[.int .i64 a.1, .int .i64 (-(h2 : Int) - 1), .int .u64 0] 64 (0, 0))) := hide (hk9.get HPB8.out (by omega))
            have HKZ9 : Hid (KZ w5.heap.size (w.heap.size + 1) w5 w9) := hide (HKZ8.out.trans (hk9.kz (by have := HSZ8.out; omega)))
            have hs9 : w5.heap.size + 1 ≤ w9.heap.size := by have := hk9.size; have := HSZ8.out; omega
            have HC9 := hide hc9
            clear hk9 hc9 HB8
            obtain ⟨tb, hc9c⟩ := t8
            simp only at ht8l HC9 HPT HT8
            have hlw : IntKind.i64.wrap ((tb.length : Int) - 1) = (tb.length : Int) - 1 := by rw [IntKind.wrap_i64]; omega
            go_wp2
            go_loopw [17] (fun jv wj => ∃ q : Nat, q ≤ tb.length ∧ jv = .int .i64 ((q : Int) - 1) ∧ Hid (KZ w5.heap.size (w.heap.size + 1) w5 wj) ∧ Hid (w5.heap.size + 1 ≤ wj.heap.size) ∧ Hid (CurAt wj (w.heap.size + 1) hc9c) ∧ Hid (wj.heap[w5.heap.size]? = some (.cells #[.int .i64 a.1, .int .i64 (-(h2 : Int) - 1), .int .u64 (wordI (tb.drop q) : Nat)] 64 (0, 0)))) (fun jv _ => (intOf jv + 1).toNat)
            case atStart => exact ⟨tb.length, by omega, rfl, HKZ9, hide hs9, HC9, hide (by rw [List.drop_length]; exact HPB9.out)⟩
            case round =>
              rename World => wj
              obtain ⟨q, hq, rfl, HKJ, HSJ, HCJ, HPJ⟩ := hrel
              obtain ⟨p0, p1, p2⟩ := three_of HPJ.out
              have zp2 : wj.frozen? ⟨w5.heap.size, 2, none⟩ = false := by simp only [World.frozen?, HPJ.out]; rfl
              by_cases hq0 : 0 < q
              · obtain ⟨j, rfl⟩ : ∃ j, q = j + 1 := ⟨q - 1, by omega⟩
                have hjl : j < tb.length := by omega
                have hdj : tb.drop j = tb[j] :: tb.drop (j + 1) := List.drop_eq_getElem_cons hjl
                have hwd := wordI_lt (tb.drop (j + 1))
                have hdl : (tb.drop (j + 1)).length ≤ 7 := by rw [List.length_drop]; omega
                have hp7 : 256 ^ (tb.drop (j + 1)).length ≤ 256 ^ 7 := Nat.pow_le_pow_right (by omega) hdl
                obtain ⟨B, HBB⟩ : ∃ B, Hid (wordI (tb.drop (j + 1)) = B) := ⟨_, hide rfl⟩
                rw [HBB.out] at hwd p2
                obtain ⟨ch, HCH⟩ : ∃ ch, Hid (tb[j] = ch) := ⟨_, hide rfl⟩
                have hch := ch.toNat_lt
                have HNX : Hid (wordI (tb.drop j) = ch.toNat + 256 * B) := hide (by rw [hdj, wordI, HBB.out, HCH.out])
                have hB7 : B < 72057594037927936 := by omega
                have hm1 : IntKind.u64.wrap ((B : Int) * 256) = (B : Int) * 256 := by rw [IntKind.wrap_u64]; omega
                have hm2 : IntKind.u64.wrap ((ch.toNat : Nat) : Int) = (ch.toNat : Int) := by rw [IntKind.wrap_u64]; omega
                have hm3 : IntKind.u64.wrap ((B : Int) * 256 + (ch.toNat : Int)) = ((ch.toNat + 256 * B : Nat) : Int) := by rw [IntKind.wrap_u64]; omega
                have hji : ((j + 1 : Nat) : Int) - 1 = (j : Int) := by omega
                have hjli : (j : Int) < (tb.length : Int) := by omega
                have hwj : IntKind.i64.wrap ((j : Int) - 1) = (j : Int) - 1 := by rw [IntKind.wrap_i64]; omega
                have htj : tb[j] = ch := HCH.out
                rw [hji]
                clear hdj hwd hdl hp7 hji hq hq0
                go_wp2
                go_region
                go_wp2
                go_roundw
                case rel =>
                  refine ⟨j, by omega, rfl, hide (kz_drew (HKJ.out.setNew (Nat.le_refl _) _ _)), hide (by have := HSJ.out; simpa [World.setCell] using this), hide ((Below.heap_setCell _ _ _ _ (by show w.heap.size + 1 ≠ w5.heap.size; omega)).trans HCJ.out), hide ?_⟩
                  have h := set3 HPJ.out 2 (.int .u64 ((ch.toNat : Int) + 256 * (B : Int)))
                  rw [HNX.out]
                  exact h
                case measure => simp [intOf] <;> omega
              · obtain rfl : q = 0 := by omega
                obtain ⟨hkz, hZr, v, hrb, hor⟩ := HRR.out.ki (HK5.out.trans (KZ.ki HKJ.out)) (by omega) (by omega)
                obtain ⟨vo, vc, rfl⟩ := own_shape hor
                obtain ⟨x0, x1, x2⟩ := three_of hrb
                obtain ⟨i0, hi0, hz0, hz1, hz2⟩ := info_parts infoPntT
                rw [List.drop_zero] at p2
                have HNEW := hide (newC wj #[.int .i64 a.1, .int .i64 (-(h2 : Int) - 1), .int .u64 (wordI tb : Nat)] 64)
                have hgx : Grow wj (wj.alloc (.cells #[.int .i64 a.1, .int .i64 (-(h2 : Int) - 1), .int .u64 (wordI tb : Nat)] 64)) := (Grow.refl _).alloc _
                have HOWN4 : Hid ((wj.alloc (.cells #[.int .i64 a.1, .int .i64 (-(h2 : Int) - 1), .int .u64 (wordI tb : Nat)] 64)).ownsRow w2.heap.size 64 3 (.slice vo rs.length vc) rs.length (pntCells rs)) := hide (Lb.own_grow hor hgx)
                have HPUT : Hid (∀ (W2 : World) (v' : Value), W2.ownsRow w2.heap.size 64 3 v' (rs.length + 1) (pntCells rs ++ [.int .i64 a.1, .int .i64 (-(h2 : Int) - 1), .int .u64 (wordI tb : Nat)]) → (wj.alloc (.cells #[.int .i64 a.1, .int .i64 (-(h2 : Int) - 1), .int .u64 (wordI tb : Nat)] 64)).grownBy W2 (Value.slice vo rs.length vc).ownBlock → RecP w2.heap.size (w.heap.size + 1) w2.heap.size (rs ++ [(((a.1 : Nat) : Int), (-(h2 : Int) - 1), wordI tb)]) w3 (W2.setCell ⟨w2.heap.size, 2, none⟩ v') ∧ typedKept 64 wj W2) := hide fun W2 v' k1 k2 => RecP.put (x := (((a.1 : Nat) : Int), (-(h2 : Int) - 1), wordI tb)) hkz hZr hrb hor hgx k1 k2 (Nat.le_refl _)
                have HFR : Hid (∀ W : World, typedKept 64 wj W → W.frozen? ⟨w2.heap.size, 2, none⟩ = false ∧ W.cell? ⟨w2.heap.size, 2, none⟩ = some (.slice vo rs.length vc)) := hide fun W h => by
                  have := h _ _ _ _ hrb (by decide)
                  exact ⟨by simp only [World.frozen?, this]; rfl, (three_of this).2.2⟩
                have hszi : w2.heap.size ≤ (wj.alloc (.cells #[.int .i64 a.1, .int .i64 (-(h2 : Int) - 1), .int .u64 (wordI tb : Nat)] 64)).heap.size := by have := hgx.size; omega
                have hq0 : ¬ (0 : Int) ≤ ((0 : Nat) : Int) - 1 := by omega
                obtain ⟨bb, HBV⟩ : ∃ bb, Hid (wordI tb = bb) := ⟨_, hide rfl⟩
                rw [HBV.out] at p2 HNEW HOWN4 HPUT hszi HPT
                clear hkz hZr hrb hor hgx HRR hq
                go_wp2_with (at_builtin; refine wpList_append_own _ rfl _ _ 27 rfl w2.heap.size 64 i0 _ 3 24 Tryz.underPnts hi0 hz0 hz1 hz2 rfl (by omega) _ rs.length (pntCells rs) rfl HOWN4.out ⟨wj.heap.size, 0, none⟩ 1 1 [.int .i64 a.1, .int .i64 (-(h2 : Int) - 1), .int .u64 bb] rfl rfl HNEW.out (pnt_one _ _ _) (by unfold maxLen; omega) (by omega) hszi ?_; intro v' x5 hown' hgrow _; have hput := hide (HPUT.out x5 v' hown' hgrow); have zf1 := (HFR.out x5 hput.out.2).1; have cf1 := (HFR.out x5 hput.out.2).2; obtain ⟨ao', cp', rfl⟩ := own_shape hown')
                go_roundw
                case rel =>
                  refine ⟨i + 1, (rs ++ [(((a.1 : Nat) : Int), (-(h2 : Int) - 1), bb)], hc9c), by omega, by go_num, ?_, hput.out.1, ?_, ?_⟩
                  · have h := HX.out
                    rw [show n - i = (n - (i + 1)) + 1 by omega, loopT_step rfl] at h
                    simp only [HPT.out] at h
                    exact h
                  · exact (Below.heap_setCell _ _ _ _ (by show w.heap.size + 1 ≠ w2.heap.size; omega)).trans (hput.out.2 _ _ _ _ HCJ.out (by decide))
                  · have h := fits_step pntT_less HFI.out rfl
                    simp only [HPT.out] at h
                    exact h
                case measure => simp [intOf]; omega
        · have hmod : Int.tmod (m.1 : Int) 2 = 0 := by rw [Int.tmod_eq_emod_of_nonneg (by omega)]; omega
          have HTI : Hid (timeI m.1 = (h2 : Int)) := hide (by unfold timeI; rw [if_neg hodd, HH2.out])
          clear hodd
          as_aux_lemma =>
            have hcu8 : CurAt (w7.setCell ⟨w5.heap.size, 1, none⟩ (.int .i64 (h2 : Int))) (w.heap.size + 1) m.2 := (Below.heap_setCell _ _ _ _ (by show w.heap.size + 1 ≠ w5.heap.size; omega)).trans HC7.out
            have hpb8 : (w7.setCell ⟨w5.heap.size, 1, none⟩ (.int .i64 (h2 : Int))).heap[w5.heap.size]? = some (.cells #[.int .i64 a.1, .int .i64 (h2 : Int), .int .u64 0] 64 (0, 0)) := set3 HPB7.out 1 (.int .i64 (h2 : Int))
            have hkz8 : KZ w5.heap.size (w.heap.size + 1) w5 (w7.setCell ⟨w5.heap.size, 1, none⟩ (.int .i64 (h2 : Int))) := (HK57.out.kz (Nat.le_refl _)).setNew (Nat.le_refl _) _ _
            have hsz8 : w5.heap.size + 1 ≤ (w7.setCell ⟨w5.heap.size, 1, none⟩ (.int .i64 (h2 : Int))).heap.size := by simp [World.setCell]; omega
            have HPB8 := hide hpb8
            have HKZ8 := hide hkz8
            have HSZ8 := hide hsz8
            have HB8 := hide (HBY.out (w7.setCell ⟨w5.heap.size, 1, none⟩ (.int .i64 (h2 : Int))) 8 m.2 hcu8 (by omega) (by omega))
            clear hcu8 hpb8 hkz8 hsz8
            go_wp2_with fail
            refine HB8.out.mono ?_
            rintro e w9 ⟨rfl, hk9, hc9⟩
            obtain ⟨t8, HT8⟩ : ∃ t8, Hid (bytT 8 m.2 = t8) := ⟨_, hide rfl⟩
            have ht8l : t8.1.length ≤ 8 := by have := bytT_len 8 m.2; rwa [HT8.out] at this
            rw [HT8.out] at hc9 ⊢
            have HPT : Hid (pntT (q0, false) = ((((a.1 : Nat) : Int), (h2 : Int), wordI t8.1), t8.2)) := hide (by unfold pntT; rw [HA.out, HM.out, HT8.out, HTI.out])
            have HPB9 : Hid (w9.heap[w5.heap.size]? = some (.cells #[.int .i64 a.1, .int .i64 (h2 : Int), .int .u64 0] 64 (0, 0))) := hide (hk9.get HPB8.out (by omega))
            have HKZ9 : Hid (KZ w5.heap.size (w.heap.size + 1) w5 w9) := hide (HKZ8.out.trans (hk9.kz (by have := HSZ8.out; omega)))
            have hs9 : w5.heap.size + 1 ≤ w9.heap.size := by have := hk9.size; have := HSZ8.out; omega
            have HC9 := hide hc9
            clear hk9 hc9 HB8
            obtain ⟨tb, hc9c⟩ := t8
            simp only at ht8l HC9 HPT HT8
            have hlw : IntKind.i64.wrap ((tb.length : Int) - 1) = (tb.length : Int) - 1 := by rw [IntKind.wrap_i64]; omega
            go_wp2
            go_loopw [17] (fun jv wj => ∃ q : Nat, q ≤ tb.length ∧ jv = .int .i64 ((q : Int) - 1) ∧ Hid (KZ w5.heap.size (w.heap.size + 1) w5 wj) ∧ Hid (w5.heap.size + 1 ≤ wj.heap.size) ∧ Hid (CurAt wj (w.heap.size + 1) hc9c) ∧ Hid (wj.heap[w5.heap.size]? = some (.cells #[.int .i64 a.1, .int .i64 (h2 : Int), .int .u64 (wordI (tb.drop q) : Nat)] 64 (0, 0)))) (fun jv _ => (intOf jv + 1).toNat)
            case atStart => exact ⟨tb.length, by omega, rfl, HKZ9, hide hs9, HC9, hide (by rw [List.drop_length]; exact HPB9.out)⟩
            case round =>
              rename World => wj
              obtain ⟨q, hq, rfl, HKJ, HSJ, HCJ, HPJ⟩ := hrel
              obtain ⟨p0, p1, p2⟩ := three_of HPJ.out
              have zp2 : wj.frozen? ⟨w5.heap.size, 2, none⟩ = false := by simp only [World.frozen?, HPJ.out]; rfl
              by_cases hq0 : 0 < q
              · obtain ⟨j, rfl⟩ : ∃ j, q = j + 1 := ⟨q - 1, by omega⟩
                have hjl : j < tb.length := by omega
                have hdj : tb.drop j = tb[j] :: tb.drop (j + 1) := List.drop_eq_getElem_cons hjl
                have hwd := wordI_lt (tb.drop (j + 1))
                have hdl : (tb.drop (j + 1)).length ≤ 7 := by rw [List.length_drop]; omega
                have hp7 : 256 ^ (tb.drop (j + 1)).length ≤ 256 ^ 7 := Nat.pow_le_pow_right (by omega) hdl
                obtain ⟨B, HBB⟩ : ∃ B, Hid (wordI (tb.drop (j + 1)) = B) := ⟨_, hide rfl⟩
                rw [HBB.out] at hwd p2
                obtain ⟨ch, HCH⟩ : ∃ ch, Hid (tb[j] = ch) := ⟨_, hide rfl⟩
                have hch := ch.toNat_lt
                have HNX : Hid (wordI (tb.drop j) = ch.toNat + 256 * B) := hide (by rw [hdj, wordI, HBB.out, HCH.out])
                have hB7 : B < 72057594037927936 := by omega
                have hm1 : IntKind.u64.wrap ((B : Int) * 256) = (B : Int) * 256 := by rw [IntKind.wrap_u64]; omega
                have hm2 : IntKind.u64.wrap ((ch.toNat : Nat) : Int) = (ch.toNat : Int) := by rw [IntKind.wrap_u64]; omega
                have hm3 : IntKind.u64.wrap ((B : Int) * 256 + (ch.toNat : Int)) = ((ch.toNat + 256 * B : Nat) : Int) := by rw [IntKind.wrap_u64]; omega
                have hji : ((j + 1 : Nat) : Int) - 1 = (j : Int) := by omega
                have hjli : (j : Int) < (tb.length : Int) := by omega
                have hwj : IntKind.i64.wrap ((j : Int) - 1) = (j : Int) - 1 := by rw [IntKind.wrap_i64]; omega
                have htj : tb[j] = ch := HCH.out
                rw [hji]
                clear hdj hwd hdl hp7 hji hq hq0
                go_wp2
                go_region
                go_wp2
                go_roundw
                case rel =>
                  refine ⟨j, by omega, rfl, hide (kz_drew (HKJ.out.setNew (Nat.le_refl _) _ _)), hide (by have := HSJ.out; simpa [World.setCell] using this), hide ((Below.heap_setCell _ _ _ _ (by show w.heap.size + 1 ≠ w5.heap.size; omega)).trans HCJ.out), hide ?_⟩
                  have h := set3 HPJ.out 2 (.int .u64 ((ch.toNat : Int) + 256 * (B : Int)))
                  rw [HNX.out]
                  exact h
                case measure => simp [intOf] <;> omega
              · obtain rfl : q = 0 := by omega
                obtain ⟨hkz, hZr, v, hrb, hor⟩ := HRR.out.ki (HK5.out.trans (KZ.ki HKJ.out)) (by omega) (by omega)
                obtain ⟨vo, vc, rfl⟩ := own_shape hor
                obtain ⟨x0, x1, x2⟩ := three_of hrb
                obtain ⟨i0, hi0, hz0, hz1, hz2⟩ := info_parts infoPntT
                rw [List.drop_zero] at p2
                have HNEW := hide (newC wj #[.int .i64 a.1, .int .i64 (h2 : Int), .int .u64 (wordI tb : Nat)] 64)
                have hgx : Grow wj (wj.alloc (.cells #[.int .i64 a.1, .int .i64 (h2 : Int), .int .u64 (wordI tb : Nat)] 64)) := (Grow.refl _).alloc _
                have HOWN4 : Hid ((wj.alloc (.cells #[.int .i64 a.1, .int .i64 (h2 : Int), .int .u64 (wordI tb : Nat)] 64)).ownsRow w2.heap.size 64 3 (.slice vo rs.length vc) rs.length (pntCells rs)) := hide (Lb.own_grow hor hgx)
                have HPUT : Hid (∀ (W2 : World) (v' : Value), W2.ownsRow w2.heap.size 64 3 v' (rs.length + 1) (pntCells rs ++ [.int .i64 a.1, .int .i64 (h2 : Int), .int .u64 (wordI tb : Nat)]) → (wj.alloc (.cells #[.int .i64 a.1, .int .i64 (h2 : Int), .int .u64 (wordI tb : Nat)] 64)).grownBy W2 (Value.slice vo rs.length vc).ownBlock → RecP w2.heap.size (w.heap.size + 1) w2.heap.size (rs ++ [(((a.1 : Nat) : Int), (h2 : Int), wordI tb)]) w3 (W2.setCell ⟨w2.heap.size, 2, none⟩ v') ∧ typedKept 64 wj W2) := hide fun W2 v' k1 k2 => RecP.put (x := (((a.1 : Nat) : Int), (h2 : Int), wordI tb)) hkz hZr hrb hor hgx k1 k2 (Nat.le_refl _)
                have HFR : Hid (∀ W : World, typedKept 64 wj W → W.frozen? ⟨w2.heap.size, 2, none⟩ = false ∧ W.cell? ⟨w2.heap.size, 2, none⟩ = some (.slice vo rs.length vc)) := hide fun W h => by
                  have := h _ _ _ _ hrb (by decide)
                  exact ⟨by simp only [World.frozen?, this]; rfl, (three_of this).2.2⟩
                have hszi : w2.heap.size ≤ (wj.alloc (.cells #[.int .i64 a.1, .int .i64 (h2 : Int), .int .u64 (wordI tb : Nat)] 64)).heap.size := by have := hgx.size; omega
                have hq0 : ¬ (0 : Int) ≤ ((0 : Nat) : Int) - 1 := by omega
                obtain ⟨bb, HBV⟩ : ∃ bb, Hid (wordI tb = bb) := ⟨_, hide rfl⟩
                rw [HBV.out] at p2 HNEW HOWN4 HPUT hszi HPT
                clear hkz hZr hrb hor hgx HRR hq
                go_wp2_with (at_builtin; refine wpList_append_own _ rfl _ _ 27 rfl w2.heap.size 64 i0 _ 3 24 Tryz.underPnts hi0 hz0 hz1 hz2 rfl (by omega) _ rs.length (pntCells rs) rfl HOWN4.out ⟨wj.heap.size, 0, none⟩ 1 1 [.int .i64 a.1, .int .i64 (h2 : Int), .int .u64 bb] rfl rfl HNEW.out (pnt_one _ _ _) (by unfold maxLen; omega) (by omega) hszi ?_; intro v' x5 hown' hgrow _; have hput := hide (HPUT.out x5 v' hown' hgrow); have zf1 := (HFR.out x5 hput.out.2).1; have cf1 := (HFR.out x5 hput.out.2).2; obtain ⟨ao', cp', rfl⟩ := own_shape hown')
                go_roundw
                case rel =>
                  refine ⟨i + 1, (rs ++ [(((a.1 : Nat) : Int), (h2 : Int), bb)], hc9c), by omega, by go_num, ?_, hput.out.1, ?_, ?_⟩
                  · have h := HX.out
                    rw [show n - i = (n - (i + 1)) + 1 by omega, loopT_step rfl] at h
                    simp only [HPT.out] at h
                    exact h
                  · exact (Below.heap_setCell _ _ _ _ (by show w.heap.size + 1 ≠ w2.heap.size; omega)).trans (hput.out.2 _ _ _ _ HCJ.out (by decide))
                  · have h := fits_step pntT_less HFI.out rfl
                    simp only [HPT.out] at h
                    exact h
                case measure => simp [intOf]; omega
    · have hXx : X = (rs, (q0, bad)) := by
        rw [← HX.out]
        by_cases hin : i < n
        · exact loopT_bad _ _ (by simpa [hin] using hgo)
        · rw [show n - i = 0 by omega]; rfl
      obtain ⟨c, hc⟩ : ∃ c : Cur, c = (q0, bad) := ⟨_, rfl⟩
      obtain ⟨r0, hr0⟩ : ∃ r0 : Rcd, r0 = ⟨2, [], rs⟩ := ⟨_, rfl⟩
      have HBT : Hid (bodyT k (s, false) = (r0, c)) := hide (by
        unfold bodyT
        rw [if_neg (by omega), if_pos hk, HCN.out]
        simp only
        rw [HX0.out, hXx, hr0, hc])
      have HCU : Hid (CurAt wr (w.heap.size + 1) c) := hide (by rw [hc]; exact HC.out)
      have HBR := hide hrb
      have HWR : Hid (ownRefs wr w.heap.size (.slice none 0 0) r0.refs) := hide (by rw [hr0]; exact ownRefs_nil _ _)
      have HWP : Hid (ownPoints wr w.heap.size (.slice vo rs.length vc) r0.points) := hide (by rw [hr0]; exact own_le hor (by omega))
      have HRK : Hid (r0.kind = 2) := hide (by rw [hr0])
      have HG : Hid (Grow w wr) := hide (grow_kz (Z := w2.heap.size) (x := w.heap.size + 1) HG3.out hkz (by omega) (by omega))
      have HZ0 := hide ((hkz.2.2.2.2 w.heap.size (by omega) (by omega)).trans HZ3.out)
      have hcond : (bad = true ∧ i < n) ∨ ¬ i < n := by
        by_cases hin : i < n
        · exact .inl ⟨by simpa [hin] using hgo, hin⟩
        · exact .inr hin
      clear hgo hkz hrb hor hr0 hXx HX HR HC HFI cu0 cu1
      rcases hcond with ⟨hb1, hin⟩ | hin
      · have hini : (i : Int) < (n : Int) := by omega
        rw [hb1] at hc
        subst hc
        clear hb1
        as_aux_lemma =>
          obtain ⟨cu0, cu1⟩ := two_of (show wr.heap[w.heap.size + 1]? = some (.cells #[.string (bs q0), .bool true] 123 (0, 0)) from HCU.out)
          have HU : Hid (unpT (k :: s) = none) := hide (by simp only [unpT]; rw [HBT.out, if_neg (fun h => by cases h.1)])
          obtain ⟨cr0, cr1, cr2⟩ := three_of HZ0.out
          have z0 : wr.frozen? ⟨w.heap.size, 0, none⟩ = false := by simp only [World.frozen?, HZ0.out]; rfl
          have z1 : wr.frozen? ⟨w.heap.size, 1, none⟩ = false := by simp only [World.frozen?, HZ0.out]; rfl
          have z2 : wr.frozen? ⟨w.heap.size, 2, none⟩ = false := by simp only [World.frozen?, HZ0.out]; rfl
          go_wp2
          have hF := set3 (set3 (set3 HZ0.out 0 (.int .i64 0)) 1 (.slice none 0 0)) 2 (.slice none 0 0)
          obtain ⟨f0, f1, f2⟩ := three_of hF
          refine bodyPost_ret (v := .tuple #[.agg #[.int .i64 0, .slice none 0 0, .slice none 0 0], .int .i64 1]) (by simp [results, Tryz.results40, go_sem, f0, f1, f2]) rfl ?_
          unfold unpackAns
          rw [← HUO.out, HU.out]
          exact ⟨Below.setCell (Below.setCell (Below.setCell HG.out (Nat.le_refl _) _) (Nat.le_refl _) _) (Nat.le_refl _) _, rfl⟩
      · have hini : ¬ (i : Int) < (n : Int) := by omega
        clear hc
        as_aux_lemma =>
          obtain ⟨q, bad⟩ := c
          obtain ⟨cu0, cu1⟩ := two_of (show wr.heap[w.heap.size + 1]? = some (.cells #[.string (bs q), .bool bad] 123 (0, 0)) from HCU.out)
          cases bad with
          | true =>
            have HU : Hid (unpT (k :: s) = none) := hide (by simp only [unpT]; rw [HBT.out, if_neg (fun h => by cases h.1)])
            obtain ⟨cr0, cr1, cr2⟩ := three_of HZ0.out
            have z0 : wr.frozen? ⟨w.heap.size, 0, none⟩ = false := by simp only [World.frozen?, HZ0.out]; rfl
            have z1 : wr.frozen? ⟨w.heap.size, 1, none⟩ = false := by simp only [World.frozen?, HZ0.out]; rfl
            have z2 : wr.frozen? ⟨w.heap.size, 2, none⟩ = false := by simp only [World.frozen?, HZ0.out]; rfl
            go_wp2
            have hF := set3 (set3 (set3 HZ0.out 0 (.int .i64 0)) 1 (.slice none 0 0)) 2 (.slice none 0 0)
            obtain ⟨f0, f1, f2⟩ := three_of hF
            refine bodyPost_ret (v := .tuple #[.agg #[.int .i64 0, .slice none 0 0, .slice none 0 0], .int .i64 1]) (by simp [results, Tryz.results40, go_sem, f0, f1, f2]) rfl ?_
            unfold unpackAns
            rw [← HUO.out, HU.out]
            exact ⟨Below.setCell (Below.setCell (Below.setCell HG.out (Nat.le_refl _) _) (Nat.le_refl _) _) (Nat.le_refl _) _, rfl⟩
          | false =>
            by_cases hq : q = []
            · subst hq
              have hqe : (@List.isEmpty UInt8 []) = true := rfl
              have HCR := hide (rCheckRecord_any wr (.slice none 0 0) (.slice vo rs.length vc) r0 (reads_ownRefs HWR.out) (reads_ownPoints HWP.out) (by have := bodyT_ok k (s, false); rw [HBT.out] at this; exact this))
              rw [HRK.out] at HCR
              obtain ⟨cx0, cx1, cx2⟩ := three_of HBR.out
              go_wp2_with fail
              refine HCR.out.mono ?_
              rintro e w8 ⟨rfl, hg8⟩
              have HG8 := hide hg8
              have hb0 := hg8.get HZ0.out
              have HB0 := hide hb0
              obtain ⟨cr0, cr1, cr2⟩ := three_of hb0
              have z0 : w8.frozen? ⟨w.heap.size, 0, none⟩ = false := by simp only [World.frozen?, hb0]; rfl
              have z1 : w8.frozen? ⟨w.heap.size, 1, none⟩ = false := by simp only [World.frozen?, hb0]; rfl
              have z2 : w8.frozen? ⟨w.heap.size, 2, none⟩ = false := by simp only [World.frozen?, hb0]; rfl
              clear cx0 cx1 cx2 HCR cu0 cu1
              by_cases hr : recErr r0 = 0
              · have HU : Hid (unpT (k :: s) = some r0) := hide (by simp only [unpT]; rw [HBT.out, if_pos ⟨rfl, hr⟩])
                have hz : (((recErr r0 : Nat) : Int) != 0) = false := by simp [hr]
                obtain ⟨cx0, cx1, cx2⟩ := three_of (hg8.get HBR.out)
                clear hr hg8 hb0
                go_wp2
                have hF := set3 (set3 (set3 HB0.out 0 (.int .i64 2)) 1 (.slice none 0 0)) 2 (.slice vo rs.length vc)
                obtain ⟨f0, f1, f2⟩ := three_of hF
                refine bodyPost_ret (v := .tuple #[.agg #[.int .i64 2, (.slice none 0 0), (.slice vo rs.length vc)], .int .i64 0]) (by simp [results, Tryz.results40, go_sem, f0, f1, f2]) rfl ?_
                unfold unpackAns
                rw [← HUO.out, HU.out]
                refine ⟨Below.setCell (Below.setCell (Below.setCell (HG.out.trans HG8.out) (Nat.le_refl _) _) (Nat.le_refl _) _) (Nat.le_refl _) _, (.slice none 0 0), (.slice vo rs.length vc), by rw [HRK.out], ?_, ?_⟩
                · have h0 := ownRefs_stay HWR.out (fun g _ hg => HG8.out.block g hg)
                  exact ownRefs_set (ownRefs_set (ownRefs_set h0 HB0.out (by decide) (by decide) _) (set3 HB0.out 0 _) (by decide) (by decide) _) (set3 (set3 HB0.out 0 _) 1 _) (by decide) (by decide) _
                · have h0 := own_stay HWP.out (fun g _ hg => HG8.out.block g hg)
                  have h1 := ownsRow_setCell_other (a := ⟨w.heap.size, 0, none⟩) h0 (own_apart h0 HB0.out (by decide)) (.int .i64 2)
                  have h2 := ownsRow_setCell_other (a := ⟨w.heap.size, 1, none⟩) h1 (own_apart h1 (set3 HB0.out 0 _) (by decide)) (.slice none 0 0)
                  exact ownsRow_setCell_other (a := ⟨w.heap.size, 2, none⟩) h2 (own_apart h2 (set3 (set3 HB0.out 0 _) 1 _) (by decide)) _
              · have HU : Hid (unpT (k :: s) = none) := hide (by simp only [unpT]; rw [HBT.out, if_neg (fun h => hr h.2)])
                have hz : (((recErr r0 : Nat) : Int) != 0) = true := by simp; exact hr
                clear hr hg8 hb0
                go_wp2
                have hF := set3 (set3 (set3 HB0.out 0 (.int .i64 0)) 1 (.slice none 0 0)) 2 (.slice none 0 0)
                obtain ⟨f0, f1, f2⟩ := three_of hF
                refine bodyPost_ret (v := .tuple #[.agg #[.int .i64 0, .slice none 0 0, .slice none 0 0], .int .i64 1]) (by simp [results, Tryz.results40, go_sem, f0, f1, f2]) rfl ?_
                unfold unpackAns
                rw [← HUO.out, HU.out]
                exact ⟨Below.setCell (Below.setCell (Below.setCell (HG.out.trans HG8.out) (Nat.le_refl _) _) (Nat.le_refl _) _) (Nat.le_refl _) _, rfl⟩
            · have HU : Hid (unpT (k :: s) = none) := hide (by simp only [unpT]; rw [HBT.out, if_neg (fun h => hq (by have := h.1; simp only [Prod.mk.injEq, and_true] at this; exact this))])
              have hqe : q.isEmpty = false := by cases q with | nil => exact absurd rfl hq | cons => rfl
              obtain ⟨cr0, cr1, cr2⟩ := three_of HZ0.out
              have z0 : wr.frozen? ⟨w.heap.size, 0, none⟩ = false := by simp only [World.frozen?, HZ0.out]; rfl
              have z1 : wr.frozen? ⟨w.heap.size, 1, none⟩ = false := by simp only [World.frozen?, HZ0.out]; rfl
              have z2 : wr.frozen? ⟨w.heap.size, 2, none⟩ = false := by simp only [World.frozen?, HZ0.out]; rfl
              clear hq
              go_wp2
              have hF := set3 (set3 (set3 HZ0.out 0 (.int .i64 0)) 1 (.slice none 0 0)) 2 (.slice none 0 0)
              obtain ⟨f0, f1, f2⟩ := three_of hF
              refine bodyPost_ret (v := .tuple #[.agg #[.int .i64 0, .slice none 0 0, .slice none 0 0], .int .i64 1]) (by simp [results, Tryz.results40, go_sem, f0, f1, f2]) rfl ?_
              unfold unpackAns
              rw [← HUO.out, HU.out]
              exact ⟨Below.setCell (Below.setCell (Below.setCell HG.out (Nat.le_refl _) _) (Nat.le_refl _) _) (Nat.le_refl _) _, rfl⟩
set_option maxRecDepth 20000 in
set_option maxHeartbeats 16000000 in
theorem unpRec3_any (w : World) (k : UInt8) (s : List UInt8) (hk1 : k.toNat ≠ 1) (hk2 : k.toNat ≠ 2) (hs : s.length + 1 ≤ 1048576) :
    Calls Tryz.prog 40 #[.string (bs (k :: s))] w (unpackAns w.heap.size (unpT (k :: s)) w) := by
  obtain ⟨UO, HUO⟩ : ∃ UO, Hid (unpT (k :: s) = UO) := ⟨_, hide rfl⟩
  rw [HUO.out]
  obtain ⟨V1, e1, g1, b1⟩ := laid_at w #[.int .i64 0, .slice none 0 0, .slice none 0 0] 29
  obtain ⟨V2, e2, g2, b2⟩ := laid_at V1 #[.string (bs (k :: s)), .bool false] 123
  have s1 : V1.heap.size = w.heap.size + 1 := by rw [← e1]; simp
  have s2 : V2.heap.size = w.heap.size + 2 := by rw [← e2]; simp [s1]
  rw [s1] at b2
  have h02 : Grow w V2 := g1.trans g2
  have hB : bytT 1 (k :: s, false) = ([k], (s, false)) := by unfold bytT; rw [if_neg (by simp)]; rfl
  have HBY := hide (curBytes_any V2 (w.heap.size + 1) 1 (k :: s, false) b2 (by show (k :: s).length ≤ _; rw [List.length_cons]; omega) (by omega))
  rw [hB] at HBY
  have H02 := hide h02
  have HZ2 := hide (g2.get b1)
  have hcw : IntKind.i64.wrap ((k.toNat : Nat) : Int) = (k.toNat : Int) := by have := k.toNat_lt; rw [IntKind.wrap_i64]; omega
  rw [← e2, ← e1] at HBY H02 HZ2
  clear b1 b2 g1 g2 h02 hB e1 e2
  obtain ⟨cn, HCN⟩ : ∃ cn, Hid (numT (s, false) = cn) := ⟨_, hide rfl⟩
  have HNC : Hid (∀ W, CurAt W (w.heap.size + 1) (s, false) → Calls Tryz.prog 75 #[.pointer (some ⟨w.heap.size + 1, 0, none⟩)] W fun e w' => e = .returned (.int .i64 (cn.1 : Nat)) ∧ KI (w.heap.size + 1) W w' ∧ CurAt w' (w.heap.size + 1) cn.2) := hide fun W h => by
    have := curNumber_any W (w.heap.size + 1) (s, false) h (by show s.length ≤ _; omega)
    rwa [HCN.out] at this
  have hcnl : cn.2.1.length ≤ 1048576 := by
    have := (numT_less (s, false)).1
    rw [HCN.out] at this
    have h2 : (s, false).1.length = s.length := rfl
    omega
  have hcn1 : cn.1 ≤ 4611686018427387904 := by have := numT_le (s, false); rwa [HCN.out] at this
  obtain ⟨n, c0⟩ := cn
  simp only at HNC hcnl hcn1
  go_enter Tryz.func40, Tryz.ntmps40
  go_wp2_with fail
  refine HBY.out.mono ?_
  rintro e w2 ⟨rfl, hk2, hc2⟩
  have hsw : w.heap.size + 2 ≤ w2.heap.size := by have := hk2.size; simp at this; omega
  have hz2 := hk2.get HZ2.out (by omega)
  have hg2 : Grow w w2 := grow_ki H02.out hk2 (by omega)
  obtain ⟨w3, e3, g3, b3⟩ := laid_at w2 #[.int .i64 (k.toNat : Int), .slice none 0 0, .slice none 0 0] 29
  have HB3 := hide b3
  have HN := hide (HNC.out w3 (hc2.get g3))
  have HZ3 := hide (g3.get hz2)
  have HG3 := hide (hg2.trans g3)
  have hs3 : w2.heap.size + 1 ≤ w3.heap.size := by rw [← e3]; simp
  obtain ⟨cb0, cb1⟩ := two_of (show w2.heap[w.heap.size + 1]? = some (.cells #[.string (bs s), .bool false] 123 (0, 0)) from hc2)
  rw [← e3] at HN
  have E3 := hide e3
  clear e3
  clear hk2 hz2 hg2 g3 b3 hc2 HBY HZ2 H02 HNC
  go_wp2_with fail
  refine HN.out.mono ?_
  rintro e w4 ⟨rfl, hk4, hc4⟩
  rw [E3.out] at hk4
  have hcr : w.heap.size + 1 < w2.heap.size := by omega
  have HB4 := hide (hk4.get HB3.out (by omega))
  have HC4 := hide hc4
  have HG4 : Hid (Grow w w4) := hide (grow_ki (x := w.heap.size + 1) HG3.out hk4 (by omega))
  have HZ4 := hide (hk4.get HZ3.out (by omega))
  have ht1 : ((k.toNat : Int) == 1) = false := by rw [beq_eq_false_iff_ne]; omega
  have ht2 : ((k.toNat : Int) == 2) = false := by rw [beq_eq_false_iff_ne]; omega
  obtain ⟨r0, hr0⟩ : ∃ r0 : Rcd, r0 = ⟨(k.toNat : Int), [], []⟩ := ⟨_, rfl⟩
  have HBT0 : Hid (bodyT k (s, false) = (r0, c0)) := hide (by
    unfold bodyT
    rw [if_neg hk1, if_neg hk2, HCN.out, hr0])
  have HR0 : Hid (r0 = ⟨(k.toNat : Int), [], []⟩) := hide hr0
  have HRK : Hid (r0.kind = (k.toNat : Int)) := hide (by rw [hr0])
  clear hk4 hc4 HN hcnl cb0 cb1 hr0 hk1 hk2
  go_wp2
  go_loopw [8, 9, 10, 11, 12, 13, 14, 15, 16, 17] (fun iv _ _ _ _ _ _ _ _ _ wr => iv = .int .i64 0 ∧ Hid (wr.heap[w2.heap.size]? = some (.cells #[.int .i64 (k.toNat : Int), .slice none 0 0, .slice none 0 0] 29 (0, 0))) ∧ Hid (CurAt wr (w.heap.size + 1) c0) ∧ Hid (Grow w wr) ∧ Hid (wr.heap[w.heap.size]? = some (.cells #[.int .i64 0, .slice none 0 0, .slice none 0 0] 29 (0, 0)))) (fun iv _ _ _ _ _ _ _ _ _ _ => 0)
  case atStart => exact ⟨rfl, HB4, HC4, HG4, HZ4⟩
  case round =>
    obtain ⟨rfl, HBR, HCU, HG, HZ0⟩ := hrel
    have HWR : Hid (ownRefs wr w.heap.size (.slice none 0 0) r0.refs) := hide (by rw [HR0.out]; exact ownRefs_nil _ _)
    have HWP : Hid (ownPoints wr w.heap.size (.slice none 0 0) r0.points) := hide (by rw [HR0.out]; exact World.ownsRow_nil _ _ _ _)
    obtain ⟨cx0, cx1, cx2⟩ := three_of HBR.out
    have HBT := HBT0
    obtain ⟨c, hc⟩ : ∃ c, c0 = c := ⟨_, rfl⟩
    rw [hc] at HBT HCU
    clear hc
    by_cases h0n : 0 < n
    · have h0i : (0 : Int) < (n : Int) := by omega
      as_aux_lemma =>
        obtain ⟨q, bad⟩ := c
        obtain ⟨cu0, cu1⟩ := two_of (show wr.heap[w.heap.size + 1]? = some (.cells #[.string (bs q), .bool bad] 123 (0, 0)) from HCU.out)
        cases bad with
        | true =>
          have HU : Hid (unpT (k :: s) = none) := hide (by simp only [unpT]; rw [HBT.out, if_neg (fun h => by cases h.1)])
          obtain ⟨cr0, cr1, cr2⟩ := three_of HZ0.out
          have z0 : wr.frozen? ⟨w.heap.size, 0, none⟩ = false := by simp only [World.frozen?, HZ0.out]; rfl
          have z1 : wr.frozen? ⟨w.heap.size, 1, none⟩ = false := by simp only [World.frozen?, HZ0.out]; rfl
          have z2 : wr.frozen? ⟨w.heap.size, 2, none⟩ = false := by simp only [World.frozen?, HZ0.out]; rfl
          go_wp2
          have hF := set3 (set3 (set3 HZ0.out 0 (.int .i64 0)) 1 (.slice none 0 0)) 2 (.slice none 0 0)
          obtain ⟨f0, f1, f2⟩ := three_of hF
          refine bodyPost_ret (v := .tuple #[.agg #[.int .i64 0, .slice none 0 0, .slice none 0 0], .int .i64 1]) (by simp [results, Tryz.results40, go_sem, f0, f1, f2]) rfl ?_
          unfold unpackAns
          rw [← HUO.out, HU.out]
          exact ⟨Below.setCell (Below.setCell (Below.setCell HG.out (Nat.le_refl _) _) (Nat.le_refl _) _) (Nat.le_refl _) _, rfl⟩
        | false =>
          by_cases hq : q = []
          · subst hq
            have hqe : (@List.isEmpty UInt8 []) = true := rfl
            have HCR := hide (rCheckRecord_any wr (.slice none 0 0) (.slice none 0 0) r0 (reads_ownRefs HWR.out) (reads_ownPoints HWP.out) (by have := bodyT_ok k (s, false); rw [HBT.out] at this; exact this))
            rw [HRK.out] at HCR
            obtain ⟨cx0, cx1, cx2⟩ := three_of HBR.out
            go_wp2_with fail
            refine HCR.out.mono ?_
            rintro e w8 ⟨rfl, hg8⟩
            have HG8 := hide hg8
            have hb0 := hg8.get HZ0.out
            have HB0 := hide hb0
            obtain ⟨cr0, cr1, cr2⟩ := three_of hb0
            have z0 : w8.frozen? ⟨w.heap.size, 0, none⟩ = false := by simp only [World.frozen?, hb0]; rfl
            have z1 : w8.frozen? ⟨w.heap.size, 1, none⟩ = false := by simp only [World.frozen?, hb0]; rfl
            have z2 : w8.frozen? ⟨w.heap.size, 2, none⟩ = false := by simp only [World.frozen?, hb0]; rfl
            clear cx0 cx1 cx2 HCR cu0 cu1
            by_cases hr : recErr r0 = 0
            · have HU : Hid (unpT (k :: s) = some r0) := hide (by simp only [unpT]; rw [HBT.out, if_pos ⟨rfl, hr⟩])
              have hz : (((recErr r0 : Nat) : Int) != 0) = false := by simp [hr]
              obtain ⟨cx0, cx1, cx2⟩ := three_of (hg8.get HBR.out)
              clear hr hg8 hb0
              go_wp2
              have hF := set3 (set3 (set3 HB0.out 0 (.int .i64 (k.toNat : Int))) 1 (.slice none 0 0)) 2 (.slice none 0 0)
              obtain ⟨f0, f1, f2⟩ := three_of hF
              refine bodyPost_ret (v := .tuple #[.agg #[.int .i64 (k.toNat : Int), (.slice none 0 0), (.slice none 0 0)], .int .i64 0]) (by simp [results, Tryz.results40, go_sem, f0, f1, f2]) rfl ?_
              unfold unpackAns
              rw [← HUO.out, HU.out]
              refine ⟨Below.setCell (Below.setCell (Below.setCell (HG.out.trans HG8.out) (Nat.le_refl _) _) (Nat.le_refl _) _) (Nat.le_refl _) _, (.slice none 0 0), (.slice none 0 0), by rw [HRK.out], ?_, ?_⟩
              · have h0 := ownRefs_stay HWR.out (fun g _ hg => HG8.out.block g hg)
                exact ownRefs_set (ownRefs_set (ownRefs_set h0 HB0.out (by decide) (by decide) _) (set3 HB0.out 0 _) (by decide) (by decide) _) (set3 (set3 HB0.out 0 _) 1 _) (by decide) (by decide) _
              · have h0 := own_stay HWP.out (fun g _ hg => HG8.out.block g hg)
                have h1 := ownsRow_setCell_other (a := ⟨w.heap.size, 0, none⟩) h0 (own_apart h0 HB0.out (by decide)) (.int .i64 (k.toNat : Int))
                have h2 := ownsRow_setCell_other (a := ⟨w.heap.size, 1, none⟩) h1 (own_apart h1 (set3 HB0.out 0 _) (by decide)) (.slice none 0 0)
                exact ownsRow_setCell_other (a := ⟨w.heap.size, 2, none⟩) h2 (own_apart h2 (set3 (set3 HB0.out 0 _) 1 _) (by decide)) _
            · have HU : Hid (unpT (k :: s) = none) := hide (by simp only [unpT]; rw [HBT.out, if_neg (fun h => hr h.2)])
              have hz : (((recErr r0 : Nat) : Int) != 0) = true := by simp; exact hr
              clear hr hg8 hb0
              go_wp2
              have hF := set3 (set3 (set3 HB0.out 0 (.int .i64 0)) 1 (.slice none 0 0)) 2 (.slice none 0 0)
              obtain ⟨f0, f1, f2⟩ := three_of hF
              refine bodyPost_ret (v := .tuple #[.agg #[.int .i64 0, .slice none 0 0, .slice none 0 0], .int .i64 1]) (by simp [results, Tryz.results40, go_sem, f0, f1, f2]) rfl ?_
              unfold unpackAns
              rw [← HUO.out, HU.out]
              exact ⟨Below.setCell (Below.setCell (Below.setCell (HG.out.trans HG8.out) (Nat.le_refl _) _) (Nat.le_refl _) _) (Nat.le_refl _) _, rfl⟩
          · have HU : Hid (unpT (k :: s) = none) := hide (by simp only [unpT]; rw [HBT.out, if_neg (fun h => hq (by have := h.1; simp only [Prod.mk.injEq, and_true] at this; exact this))])
            have hqe : q.isEmpty = false := by cases q with | nil => exact absurd rfl hq | cons => rfl
            obtain ⟨cr0, cr1, cr2⟩ := three_of HZ0.out
            have z0 : wr.frozen? ⟨w.heap.size, 0, none⟩ = false := by simp only [World.frozen?, HZ0.out]; rfl
            have z1 : wr.frozen? ⟨w.heap.size, 1, none⟩ = false := by simp only [World.frozen?, HZ0.out]; rfl
            have z2 : wr.frozen? ⟨w.heap.size, 2, none⟩ = false := by simp only [World.frozen?, HZ0.out]; rfl
            clear hq
            go_wp2
            have hF := set3 (set3 (set3 HZ0.out 0 (.int .i64 0)) 1 (.slice none 0 0)) 2 (.slice none 0 0)
            obtain ⟨f0, f1, f2⟩ := three_of hF
            refine bodyPost_ret (v := .tuple #[.agg #[.int .i64 0, .slice none 0 0, .slice none 0 0], .int .i64 1]) (by simp [results, Tryz.results40, go_sem, f0, f1, f2]) rfl ?_
            unfold unpackAns
            rw [← HUO.out, HU.out]
            exact ⟨Below.setCell (Below.setCell (Below.setCell HG.out (Nat.le_refl _) _) (Nat.le_refl _) _) (Nat.le_refl _) _, rfl⟩
    · have h0i : ¬ (0 : Int) < (n : Int) := by omega
      as_aux_lemma =>
        obtain ⟨q, bad⟩ := c
        obtain ⟨cu0, cu1⟩ := two_of (show wr.heap[w.heap.size + 1]? = some (.cells #[.string (bs q), .bool bad] 123 (0, 0)) from HCU.out)
        cases bad with
        | true =>
          have HU : Hid (unpT (k :: s) = none) := hide (by simp only [unpT]; rw [HBT.out, if_neg (fun h => by cases h.1)])
          obtain ⟨cr0, cr1, cr2⟩ := three_of HZ0.out
          have z0 : wr.frozen? ⟨w.heap.size, 0, none⟩ = false := by simp only [World.frozen?, HZ0.out]; rfl
          have z1 : wr.frozen? ⟨w.heap.size, 1, none⟩ = false := by simp only [World.frozen?, HZ0.out]; rfl
          have z2 : wr.frozen? ⟨w.heap.size, 2, none⟩ = false := by simp only [World.frozen?, HZ0.out]; rfl
          go_wp2
          have hF := set3 (set3 (set3 HZ0.out 0 (.int .i64 0)) 1 (.slice none 0 0)) 2 (.slice none 0 0)
          obtain ⟨f0, f1, f2⟩ := three_of hF
          refine bodyPost_ret (v := .tuple #[.agg #[.int .i64 0, .slice none 0 0, .slice none 0 0], .int .i64 1]) (by simp [results, Tryz.results40, go_sem, f0, f1, f2]) rfl ?_
          unfold unpackAns
          rw [← HUO.out, HU.out]
          exact ⟨Below.setCell (Below.setCell (Below.setCell HG.out (Nat.le_refl _) _) (Nat.le_refl _) _) (Nat.le_refl _) _, rfl⟩
        | false =>
          by_cases hq : q = []
          · subst hq
            have hqe : (@List.isEmpty UInt8 []) = true := rfl
            have HCR := hide (rCheckRecord_any wr (.slice none 0 0) (.slice none 0 0) r0 (reads_ownRefs HWR.out) (reads_ownPoints HWP.out) (by have := bodyT_ok k (s, false); rw [HBT.out] at this; exact this))
            rw [HRK.out] at HCR
            obtain ⟨cx0, cx1, cx2⟩ := three_of HBR.out
            go_wp2_with fail
            refine HCR.out.mono ?_
            rintro e w8 ⟨rfl, hg8⟩
            have HG8 := hide hg8
            have hb0 := hg8.get HZ0.out
            have HB0 := hide hb0
            obtain ⟨cr0, cr1, cr2⟩ := three_of hb0
            have z0 : w8.frozen? ⟨w.heap.size, 0, none⟩ = false := by simp only [World.frozen?, hb0]; rfl
            have z1 : w8.frozen? ⟨w.heap.size, 1, none⟩ = false := by simp only [World.frozen?, hb0]; rfl
            have z2 : w8.frozen? ⟨w.heap.size, 2, none⟩ = false := by simp only [World.frozen?, hb0]; rfl
            clear cx0 cx1 cx2 HCR cu0 cu1
            by_cases hr : recErr r0 = 0
            · have HU : Hid (unpT (k :: s) = some r0) := hide (by simp only [unpT]; rw [HBT.out, if_pos ⟨rfl, hr⟩])
              have hz : (((recErr r0 : Nat) : Int) != 0) = false := by simp [hr]
              obtain ⟨cx0, cx1, cx2⟩ := three_of (hg8.get HBR.out)
              clear hr hg8 hb0
              go_wp2
              have hF := set3 (set3 (set3 HB0.out 0 (.int .i64 (k.toNat : Int))) 1 (.slice none 0 0)) 2 (.slice none 0 0)
              obtain ⟨f0, f1, f2⟩ := three_of hF
              refine bodyPost_ret (v := .tuple #[.agg #[.int .i64 (k.toNat : Int), (.slice none 0 0), (.slice none 0 0)], .int .i64 0]) (by simp [results, Tryz.results40, go_sem, f0, f1, f2]) rfl ?_
              unfold unpackAns
              rw [← HUO.out, HU.out]
              refine ⟨Below.setCell (Below.setCell (Below.setCell (HG.out.trans HG8.out) (Nat.le_refl _) _) (Nat.le_refl _) _) (Nat.le_refl _) _, (.slice none 0 0), (.slice none 0 0), by rw [HRK.out], ?_, ?_⟩
              · have h0 := ownRefs_stay HWR.out (fun g _ hg => HG8.out.block g hg)
                exact ownRefs_set (ownRefs_set (ownRefs_set h0 HB0.out (by decide) (by decide) _) (set3 HB0.out 0 _) (by decide) (by decide) _) (set3 (set3 HB0.out 0 _) 1 _) (by decide) (by decide) _
              · have h0 := own_stay HWP.out (fun g _ hg => HG8.out.block g hg)
                have h1 := ownsRow_setCell_other (a := ⟨w.heap.size, 0, none⟩) h0 (own_apart h0 HB0.out (by decide)) (.int .i64 (k.toNat : Int))
                have h2 := ownsRow_setCell_other (a := ⟨w.heap.size, 1, none⟩) h1 (own_apart h1 (set3 HB0.out 0 _) (by decide)) (.slice none 0 0)
                exact ownsRow_setCell_other (a := ⟨w.heap.size, 2, none⟩) h2 (own_apart h2 (set3 (set3 HB0.out 0 _) 1 _) (by decide)) _
            · have HU : Hid (unpT (k :: s) = none) := hide (by simp only [unpT]; rw [HBT.out, if_neg (fun h => hr h.2)])
              have hz : (((recErr r0 : Nat) : Int) != 0) = true := by simp; exact hr
              clear hr hg8 hb0
              go_wp2
              have hF := set3 (set3 (set3 HB0.out 0 (.int .i64 0)) 1 (.slice none 0 0)) 2 (.slice none 0 0)
              obtain ⟨f0, f1, f2⟩ := three_of hF
              refine bodyPost_ret (v := .tuple #[.agg #[.int .i64 0, .slice none 0 0, .slice none 0 0], .int .i64 1]) (by simp [results, Tryz.results40, go_sem, f0, f1, f2]) rfl ?_
              unfold unpackAns
              rw [← HUO.out, HU.out]
              exact ⟨Below.setCell (Below.setCell (Below.setCell (HG.out.trans HG8.out) (Nat.le_refl _) _) (Nat.le_refl _) _) (Nat.le_refl _) _, rfl⟩
          · have HU : Hid (unpT (k :: s) = none) := hide (by simp only [unpT]; rw [HBT.out, if_neg (fun h => hq (by have := h.1; simp only [Prod.mk.injEq, and_true] at this; exact this))])
            have hqe : q.isEmpty = false := by cases q with | nil => exact absurd rfl hq | cons => rfl
            obtain ⟨cr0, cr1, cr2⟩ := three_of HZ0.out
            have z0 : wr.frozen? ⟨w.heap.size, 0, none⟩ = false := by simp only [World.frozen?, HZ0.out]; rfl
            have z1 : wr.frozen? ⟨w.heap.size, 1, none⟩ = false := by simp only [World.frozen?, HZ0.out]; rfl
            have z2 : wr.frozen? ⟨w.heap.size, 2, none⟩ = false := by simp only [World.frozen?, HZ0.out]; rfl
            clear hq
            go_wp2
            have hF := set3 (set3 (set3 HZ0.out 0 (.int .i64 0)) 1 (.slice none 0 0)) 2 (.slice none 0 0)
            obtain ⟨f0, f1, f2⟩ := three_of hF
            refine bodyPost_ret (v := .tuple #[.agg #[.int .i64 0, .slice none 0 0, .slice none 0 0], .int .i64 1]) (by simp [results, Tryz.results40, go_sem, f0, f1, f2]) rfl ?_
            unfold unpackAns
            rw [← HUO.out, HU.out]
            exact ⟨Below.setCell (Below.setCell (Below.setCell HG.out (Nat.le_refl _) _) (Nat.le_refl _) _) (Nat.le_refl _) _, rfl⟩
set_option maxRecDepth 20000 in
set_option maxHeartbeats 4000000 in
theorem unpRec0_any (w : World) :
    Calls Tryz.prog 40 #[.string (bs [])] w (unpackAns w.heap.size (unpT []) w) := by
  obtain ⟨V1, e1, g1, b1⟩ := laid_at w #[.int .i64 0, .slice none 0 0, .slice none 0 0] 29
  obtain ⟨V2, e2, g2, b2⟩ := laid_at V1 #[.string (bs []), .bool false] 123
  have s1 : V1.heap.size = w.heap.size + 1 := by rw [← e1]; simp
  rw [s1] at b2
  have h02 : Grow w V2 := g1.trans g2
  have hB : bytT 1 ([], false) = ([], ([], true)) := rfl
  have HBY := hide (curBytes_any V2 (w.heap.size + 1) 1 ([], false) b2 (by simp) (by omega))
  rw [hB] at HBY
  have H02 := hide h02
  have HZ2 := hide (g2.get b1)
  rw [← e2, ← e1] at HBY H02 HZ2
  clear b1 b2 g1 g2 h02 hB e1 e2
  go_enter Tryz.func40, Tryz.ntmps40
  go_wp2_with fail
  refine HBY.out.mono ?_
  rintro e w2 ⟨rfl, hk2, hc2⟩
  have hz2 := hk2.get HZ2.out (by omega)
  have HG := hide (grow_ki H02.out hk2 (by omega))
  have HZ0 := hide hz2
  obtain ⟨cb0, cb1⟩ := two_of (show w2.heap[w.heap.size + 1]? = some (.cells #[.string (bs []), .bool true] 123 (0, 0)) from hc2)
  obtain ⟨cr0, cr1, cr2⟩ := three_of HZ0.out
  have z0 : w2.frozen? ⟨w.heap.size, 0, none⟩ = false := by simp only [World.frozen?, HZ0.out]; rfl
  have z1 : w2.frozen? ⟨w.heap.size, 1, none⟩ = false := by simp only [World.frozen?, HZ0.out]; rfl
  have z2 : w2.frozen? ⟨w.heap.size, 2, none⟩ = false := by simp only [World.frozen?, HZ0.out]; rfl
  clear hk2 hc2 hz2 HBY H02 HZ2
  go_wp2
  have hF := set3 (set3 (set3 HZ0.out 0 (.int .i64 0)) 1 (.slice none 0 0)) 2 (.slice none 0 0)
  obtain ⟨f0, f1, f2⟩ := three_of hF
  refine bodyPost_ret (v := .tuple #[.agg #[.int .i64 0, .slice none 0 0, .slice none 0 0], .int .i64 1]) (by simp [results, Tryz.results40, go_sem, f0, f1, f2]) rfl ?_
  unfold unpackAns unpT
  exact ⟨Below.setCell (Below.setCell (Below.setCell HG.out (Nat.le_refl _) _) (Nat.le_refl _) _) (Nat.le_refl _) _, rfl⟩
/-- The document's own reading answers what the program's does. -/
theorem unpackRecord_any (w : World) (s : List UInt8) (hs : s.length ≤ 1048576) :
    Calls Tryz.prog 40 #[.string (bs s)] w (unpackAns w.heap.size (unpO s) w) := by
  rw [← unpT_eq (by omega)]
  cases s with
  | nil => exact unpRec0_any w
  | cons k s =>
    simp only [List.length_cons] at hs
    by_cases h1 : k.toNat = 1
    · exact unpRec1_any w k s h1 hs
    · by_cases h2 : k.toNat = 2
      · exact unpRec2_any w k s h2 hs
      · exact unpRec3_any w k s h1 h2 hs
end Go.Proofs.YtkaeogldielkfaaGreat.Rc
