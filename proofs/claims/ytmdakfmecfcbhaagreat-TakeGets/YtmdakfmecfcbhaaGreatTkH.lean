/- take: the walk of TakeGets. -/
import Derived.Laws.OwnMore
import Derived.Test.YtmdakfmecfcbhaaGreatProg
import Derived.Test.YtmdakfmecfcbhaaGreatKit
import Derived.Test.YtmdakfmecfcbhaaGreatReg
import Derived.Test.YtmdakfmecfcbhaaGreatLSpec
import Derived.Test.YtmdakfmecfcbhaaGreatLRow
import Derived.Test.YtmdakfmecfcbhaaGreatLCmp
import Derived.Test.YtmdakfmecfcbhaaGreatLRefA
import Derived.Test.YtmdakfmecfcbhaaGreatLRefB
import Derived.Test.YtmdakfmecfcbhaaGreatWSer
import Derived.Test.YtmdakfmecfcbhaaGreatSame
import Derived.Test.YtmdakfmecfcbhaaGreatTkA
import Derived.Test.YtmdakfmecfcbhaaGreatTkB
import Derived.Test.YtmdakfmecfcbhaaGreatTkC
import Derived.Test.YtmdakfmecfcbhaaGreatTkD
import Derived.Test.YtmdakfmecfcbhaaGreatTkE
import Derived.Test.YtmdakfmecfcbhaaGreatTkF
import Derived.Test.YtmdakfmecfcbhaaGreatTkG
import Derived.BigQuiet
set_option linter.unusedVariables false
set_option linter.unusedSimpArgs false
namespace Go.Proofs.YtmdakfmecfcbhaaGreat.Tk
open Go.RowKit
attribute [local go_sem] bs_size bs_toList bs_append bs_get bs_extract

theorem readsSam.wire {w : World} {B : Nat} {v : Value} {l : List Sam} (h : readsSam w B v l) : readsSamples w B v l := by
  obtain ⟨ao, cp, hv, _, h⟩ := h
  exact ⟨ao, cp, hv, h⟩
/-- How far the law has looked: nothing found, or the samples of the one by these labels. -/
def looked (w : World) (l : List Ser) (x : List Lb.Lab) (k : Nat) (e : Int) (v : Value) : Prop :=
  (e = 5 ∧ v = .slice none 0 0 ∧ ∀ j (hj : j < l.length), j < k → l[j].1 ≠ x) ∨ (e = 0 ∧ ∃ (j : Nat) (hj : j < l.length), j < k ∧ l[j].1 = x ∧ readsSam w w.heap.size v l[j].2)
theorem looked.grow {w w' : World} {l : List Ser} {x : List Lb.Lab} {k : Nat} {e : Int} {v : Value} (h : looked w l x k e v) (g : Grow w w') : looked w' l x k e v := by
  rcases h with h | ⟨h1, j, hj, h2, h3, h4⟩
  · exact .inl h
  · exact .inr ⟨h1, j, hj, h2, h3, (h4.keep g).more g.size⟩
theorem looked.shape {w : World} {l : List Ser} {x : List Lb.Lab} {k : Nat} {e : Int} {v : Value} (h : looked w l x k e v) : ∃ ao n cp, v = .slice ao n cp := by
  rcases h with ⟨_, h, _⟩ | ⟨_, j, hj, _, _, h⟩
  · exact ⟨_, _, _, h⟩
  · obtain ⟨ao, cp, h, _⟩ := readsSam_len h
    exact ⟨_, _, _, h⟩
/-- What Get answered, and what the document's words make of it. -/
def gotB (w : World) (l : List Ser) (x : List Lb.Lab) (e : Int) (v : Value) : Prop :=
  (e = 5 ∧ v = .slice none 0 0 ∧ ∀ s ∈ l, s.1 ≠ x) ∨ (e = 0 ∧ ∃ (i : Nat) (hi : i < l.length), l[i].1 = x ∧ readsSam w w.heap.size v l[i].2)
theorem one_place {l : List Ser} (h : riseS l = true) {x : List Lb.Lab} {i j : Nat} (hi : i < l.length) (hj : j < l.length) (e1 : l[i].1 = x) (e2 : l[j].1 = x) : i = j := by
  have key : ∀ a b (ha : a < l.length) (hb : b < l.length), l[a].1 = x → l[b].1 = x → ¬ a < b := fun a b ha hb h1 h2 hab => by
    have := rise_less h a b hb hab
    rw [h1, h2, Lb.ordB_zero.2 rfl] at this
    omega
  have h1 := key i j hi hj e1 e2
  have h2 := key j i hj hi e2 e1
  omega
theorem gotB.shape {w : World} {l : List Ser} {x : List Lb.Lab} {e : Int} {v : Value} (h : gotB w l x e v) : ∃ ao n cp, v = .slice ao n cp := by
  rcases h with ⟨_, h, _⟩ | ⟨_, j, hj, _, h⟩
  · exact ⟨_, _, _, h⟩
  · obtain ⟨ao, cp, h, _⟩ := readsSam_len h
    exact ⟨_, _, _, h⟩
theorem gotB.grow {w w' : World} {l : List Ser} {x : List Lb.Lab} {e : Int} {v : Value} (h : gotB w l x e v) (g : Grow w w') : gotB w' l x e v := by
  rcases h with h | ⟨h1, j, hj, h2, h4⟩
  · exact .inl h
  · exact .inr ⟨h1, j, hj, h2, (h4.keep g).more g.size⟩
theorem tget2_any (w : World) (v vx : Value) (l : List Ser) (x : List Lb.Lab) (hv : readsSer w w.heap.size v l) (hok : okStore l) (hx : Lb.readsLabels w w.heap.size vx x) (hxl : x.length ≤ 9223372036854775807) (hxi : Lb.lensOk x) :
    Calls Tryz.prog 18 #[v, vx] w fun e w' => Grow w w' ∧ ((storeErr l ≠ 0 ∧ e = .returned (.tuple #[.slice none 0 0, .int .i64 (storeErr l : Nat)])) ∨ (storeErr l = 0 ∧ Lb.checkB x ≠ 0 ∧ e = .returned (.tuple #[.slice none 0 0, .int .i64 (Lb.checkB x : Nat)])) ∨ (storeErr l = 0 ∧ Lb.checkB x = 0 ∧ ∃ (GE : Int) (gv : Value), e = .returned (.tuple #[gv, .int .i64 GE]) ∧ gotB w' l x GE gv)) := by
  refine (tget_any w v vx l x hv hok hx hxl hxi).mono ?_
  rintro e w' ⟨hg, h | h | ⟨h1, h2, h3, h4⟩ | ⟨h1, h2, i, hi, v', h3, h4, h5⟩⟩
  · exact ⟨hg, .inl h⟩
  · exact ⟨hg, .inr (.inl h)⟩
  · exact ⟨hg, .inr (.inr ⟨h1, h2, 5, _, h4, .inl ⟨rfl, rfl, h3⟩⟩)⟩
  · exact ⟨hg, .inr (.inr ⟨h1, h2, 0, _, h4, .inr ⟨rfl, i, hi, h3, h5.reads⟩⟩)⟩
/-- What was looked for in all, and what Get answered, are the same. -/
theorem looked_got {w : World} {l : List Ser} {x : List Lb.Lab} {e e' : Int} {v v' : Value} (hri : riseS l = true) (h : looked w l x l.length e v) (h' : gotB w l x e' v') : e' = e ∧ ∃ ls : List Sam, readsSam w w.heap.size v' ls ∧ readsSam w w.heap.size v ls ∧ (ls = [] ∨ ∃ s ∈ l, ls = s.2) := by
  rcases h with ⟨h1, h2, h3⟩ | ⟨h1, j, hj, _, h3, h4⟩
  · rcases h' with ⟨k1, k2, k3⟩ | ⟨k1, i, hi, k3, k4⟩
    · refine ⟨by rw [h1, k1], [], ?_, ?_, .inl rfl⟩
      · rw [k2]; exact ⟨none, 0, rfl, Nat.le_refl _, fun i h => by simp at h⟩
      · rw [h2]; exact ⟨none, 0, rfl, Nat.le_refl _, fun i h => by simp at h⟩
    · exact absurd k3 (h3 i hi hi)
  · rcases h' with ⟨k1, k2, k3⟩ | ⟨k1, i, hi, k3, k4⟩
    · exact absurd h3 (k3 _ (List.getElem_mem hj))
    · obtain rfl := one_place hri hi hj k3 h3
      exact ⟨by rw [h1, k1], l[i].2, k4, h4, .inr ⟨l[i], List.getElem_mem hj, rfl⟩⟩
set_option maxRecDepth 20000 in
set_option maxHeartbeats 2000000 in
theorem takeGets_any (w : World) (v : Value) (l : List Ser) (hv : readsSer w w.heap.size v l) (hok : okStore l) (vx : Value) (x : List Lb.Lab) (hx : Lb.readsLabels w w.heap.size vx x) (hxl : x.length ≤ 9223372036854775807) (hxi : Lb.lensOk x) :
    Calls Tryz.prog 6 #[v, vx] w fun e w' => e = .returned (.bool true) ∧ Grow w w' := by
  have HTG := hide (tget2_any w v vx l x hv hok hx hxl hxi)
  have HV := hide hv
  have HX := hide hx
  have HOK := hide hok
  obtain ⟨S, HS⟩ : ∃ S, Hid (storeErr l = S) := ⟨_, hide rfl⟩
  obtain ⟨C, HC⟩ : ∃ C, Hid (Lb.checkB x = C) := ⟨_, hide rfl⟩
  rw [HS.out, HC.out] at HTG
  have HRS : Hid (∀ W, Grow w W → Calls Tryz.prog 10 #[v] W fun e w' => e = .returned (.int .i64 (S : Nat)) ∧ Grow W w') := hide fun W g => by
    have := rStore_any W v l ((HV.out.keep g).more g.size) HOK.out
    rw [HS.out] at this
    exact this
  have HRL : Hid (∀ W, Grow w W → Calls Tryz.prog 19 #[vx] W fun e w' => e = .returned (.int .i64 (C : Nat)) ∧ Grow W w') := hide fun W g => by
    have := Lb.rCheckLabels_any W vx x (Lb.readsLabels_mono (Lb.readsLabels_below HX.out g) g.size) hxl hxi
    rw [HC.out] at this
    refine this.mono ?_
    rintro e w' ⟨h, n, rfl⟩
    exact ⟨h, grow_drew _ _⟩
  have HSS : Hid (∀ W va vb (ls : List Sam), readsSam W W.heap.size va ls → readsSam W W.heap.size vb ls → ls.length ≤ 1000000 → Calls Tryz.prog 21 #[va, vb] W fun e w' => e = .returned (.bool true) ∧ Grow W w') := hide fun W va vb ls h1 h2 hl => by
    refine (sameSamples_yes W W.heap.size va vb ls h1.wire h2.wire hl).mono ?_
    rintro e w' ⟨h, n, rfl⟩
    exact ⟨h, grow_drew _ _⟩
  have HNIL : Hid (∀ W, Calls Tryz.prog 21 #[.slice none 0 0, .slice none 0 0] W fun e w' => e = .returned (.bool true) ∧ Grow W w') := hide fun W => HSS.out W _ _ [] ⟨none, 0, rfl, Nat.le_refl _, fun i h => by simp at h⟩ ⟨none, 0, rfl, Nat.le_refl _, fun i h => by simp at h⟩ (by simp)
  obtain ⟨ao, cp, hvv, -, hcells⟩ := id hv
  obtain ⟨xo, xc, hvx⟩ := Lb.readsLabels_len hx
  subst hvv hvx
  clear hv hx hok
  go_enter Tryz.func6, Tryz.ntmps6
  go_wp2_with fail
  refine HTG.out.mono ?_
  rintro e w1 ⟨hg1, ⟨h1, rfl⟩ | ⟨h1, h2, rfl⟩ | ⟨h1, h2, GE, gv, rfl, hgot⟩⟩
  · have HG1 : Hid (Grow w w1) := hide hg1
    have H1 := hide (HRS.out w1 hg1)
    have hz : ((S : Int) == 0) = false := by rw [beq_eq_false_iff_ne]; omega
    clear hg1 HTG hcells
    go_wp2_with fail
    refine H1.out.mono ?_
    rintro e w2 ⟨rfl, hg2⟩
    have HG2 : Hid (Grow w w2) := hide (HG1.out.trans hg2)
    clear hg2 H1 h1
    go_wp2_with fail
    refine (takeBegun_any w2).mono ?_
    rintro e w3 ⟨rfl, hg3⟩
    have HG3 : Hid (Grow w w3) := hide (HG2.out.trans hg3)
    clear hg3
    go_wp2_with fail
    refine (HNIL.out w3).mono ?_
    rintro e w4 ⟨rfl, hg4⟩
    have HG4 : Hid (Grow w w4) := hide (HG3.out.trans hg4)
    clear hg4
    go_wp2
    go_ret
    exact ⟨ret_bool (by simp), HG4.out⟩
  · have HG1 : Hid (Grow w w1) := hide hg1
    have H1 := hide (HRS.out w1 hg1)
    have hz : ((S : Int) == 0) = true := by simp [h1]
    have hz2 : ((C : Int) == 0) = false := by rw [beq_eq_false_iff_ne]; omega
    clear hg1 HTG hcells
    go_wp2_with fail
    refine H1.out.mono ?_
    rintro e w2 ⟨rfl, hg2⟩
    have HG2 : Hid (Grow w w2) := hide (HG1.out.trans hg2)
    have H2 := hide (HRL.out w2 HG2.out)
    clear hg2 H1 h1 h2
    go_wp2_with fail
    refine H2.out.mono ?_
    rintro e w3 ⟨rfl, hg3⟩
    have HG3 : Hid (Grow w w3) := hide (HG2.out.trans hg3)
    clear hg3 H2
    go_wp2_with fail
    refine (takeBegun_any w3).mono ?_
    rintro e w4 ⟨rfl, hg4⟩
    have HG4 : Hid (Grow w w4) := hide (HG3.out.trans hg4)
    clear hg4
    go_wp2_with fail
    refine (HNIL.out w4).mono ?_
    rintro e w5 ⟨rfl, hg5⟩
    have HG5 : Hid (Grow w w5) := hide (HG4.out.trans hg5)
    clear hg5
    go_wp2
    go_ret
    exact ⟨ret_bool (by simp), HG5.out⟩
  · have HG1 : Hid (Grow w w1) := hide hg1
    have HGOT := hide hgot
    obtain ⟨go, gn, gc, hgv⟩ := hgot.shape
    subst hgv
    have H1 := hide (HRS.out w1 hg1)
    have HRI := hide (store_right (HS.out.trans h1))
    have hz : ((S : Int) == 0) = true := by simp [h1]
    have hz2 : ((C : Int) == 0) = true := by simp [h2]
    have hl5 : l.length ≤ 500 := HRI.out.1
    have HCX : Hid (Lb.checkB x = 0) := hide (HC.out.trans h2)
    clear hg1 hgot HTG
    go_wp2_with fail
    refine H1.out.mono ?_
    rintro e w2 ⟨rfl, hg2⟩
    have HG12 : Hid (Grow w1 w2) := hide hg2
    have HG2 : Hid (Grow w w2) := hide (HG1.out.trans hg2)
    have H2 := hide (HRL.out w2 HG2.out)
    clear hg2 H1 h1 h2
    go_wp2_with fail
    refine H2.out.mono ?_
    rintro e w3 ⟨rfl, hg3⟩
    have HG13 : Hid (Grow w1 w3) := hide (HG12.out.trans hg3)
    clear hg3 H2
    go_wp2
    go_loopw [7, 8, 9] (fun ev sv iv wr => ∃ (k : Nat) (ee : Int), k ≤ l.length ∧ iv = .int .i64 k ∧ ev = .int .i64 ee ∧ Hid (looked wr l x k ee sv) ∧ Hid (Grow w1 wr)) (fun _ _ iv _ => l.length - (intOf iv).toNat)
    case atStart => exact ⟨0, 5, by omega, rfl, rfl, hide (.inl ⟨rfl, rfl, fun j hj h => by omega⟩), HG13⟩
    case round =>
      obtain ⟨k, ee, hk, rfl, rfl, HLK, HGr⟩ := hrel
      obtain ⟨qo, qn, qc, hsv⟩ := HLK.out.shape
      subst hsv
      have HGw : Hid (Grow w wr) := hide (HG1.out.trans HGr.out)
      by_cases hlt : k < l.length
      · have hlti : (k : Int) < (l.length : Int) := by omega
        obtain ⟨rb, rf, xa, ya, rfl, hrB, ha, hs, a0, a1⟩ := hcells k hlt
        have c0 := (HGw.out.cell (p := ⟨rb, rf + k * 2, none⟩) hrB).trans a0
        have c1 := (HGw.out.cell (p := ⟨rb, rf + k * 2 + 1, none⟩) hrB).trans a1
        have HSL := Lb.sameLabels_any wr xa (.slice xo x.length xc) l[k].1 x (Lb.readsLabels_mono (Lb.readsLabels_below ha HGw.out) HGw.out.size) (Lb.readsLabels_mono (Lb.readsLabels_below HX.out HGw.out) HGw.out.size) (by have := (right_lens (serErr_labels (HRI.out.2.2.1 _ (List.getElem_mem hlt))).1).1; omega) hxl
        obtain ⟨F, HF⟩ : ∃ F, Hid (decide (l[k].1 = x) = F) := ⟨_, hide rfl⟩
        rw [HF.out] at HSL
        replace HSL := hide HSL
        obtain ⟨xao, xac, hxa⟩ := Lb.readsLabels_len ha
        obtain ⟨yo, yc, hya, -⟩ := readsSam_len hs
        have HS2 := hide hs
        rw [hya] at HS2 c1
        subst hxa
        generalize l[k].1.length = n1 at *
        generalize l[k].2.length = n2 at *
        clear ha hs a0 a1 hcells hya
        go_wp2_with fail
        refine HSL.out.mono ?_
        rintro e w4 ⟨rfl, q, rfl⟩
        have HG4 : Hid (Grow wr (wr.drewN q)) := hide (grow_drew _ _)
        have d1 := (HG4.out.cell (p := ⟨rb, rf + k * 2 + 1, none⟩) (Nat.lt_of_lt_of_le hrB HGw.out.size)).trans c1
        cases F with
        | true =>
          have HE : Hid (l[k].1 = x) := hide (of_decide_eq_true HF.out)
          go_wp2
          go_roundw
          case rel =>
            refine ⟨k + 1, 0, by omega, by go_num, rfl, hide (.inr ⟨rfl, k, hlt, by omega, HE.out, ?_⟩), hide (HGr.out.trans HG4.out)⟩
            have g := HGw.out.trans HG4.out
            exact (HS2.out.keep g).more g.size
          case measure => simp [intOf]; omega
        | false =>
          have HE : Hid (l[k].1 ≠ x) := hide (of_decide_eq_false HF.out)
          go_wp2
          go_roundw
          case rel =>
            refine ⟨k + 1, ee, by omega, by go_num, rfl, hide ?_, hide (HGr.out.trans HG4.out)⟩
            rcases HLK.out.grow HG4.out with ⟨h1, h2, h3⟩ | ⟨h1, j, hj, h2, h3, h4⟩
            · exact .inl ⟨h1, h2, fun j hj hjk => by
                by_cases e : j = k
                · subst e; exact HE.out
                · exact h3 j hj (by omega)⟩
            · exact .inr ⟨h1, j, hj, by omega, h3, h4⟩
          case measure => simp [intOf]; omega
      · obtain rfl : k = l.length := by omega
        obtain ⟨hee, ls, h1, h2, h3⟩ := looked_got HRI.out.2.2.2 HLK.out (HGOT.out.grow HGr.out)
        have hls : ls.length ≤ 1000000 := by
          rcases h3 with rfl | ⟨s, hs, rfl⟩
          · simp
          · have := HRI.out.2.1 s hs; omega
        subst hee
        have HR1 := hide h1
        have HR2 := hide h2
        clear h1 h2 h3 hcells
        go_wp2_with fail
        refine (takeBegun_any wr).mono ?_
        rintro e w5 ⟨rfl, hg5⟩
        have HG5 := hide hg5
        have HS5 := hide (HSS.out w5 _ _ ls ((HR1.out.keep hg5).more hg5.size) ((HR2.out.keep hg5).more hg5.size) hls)
        clear hg5
        go_wp2_with fail
        refine HS5.out.mono ?_
        rintro e w6 ⟨rfl, hg6⟩
        have HG6 : Hid (Grow w w6) := hide (HGw.out.trans (HG5.out.trans hg6))
        clear hg6 HS5
        go_wp2
        go_ret
        exact ⟨ret_bool (by simp), HG6.out⟩
end Go.Proofs.YtmdakfmecfcbhaaGreat.Tk
