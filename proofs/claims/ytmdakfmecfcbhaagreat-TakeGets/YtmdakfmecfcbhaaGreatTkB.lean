/- take: what is wrong with a series, with a store. -/
import Derived.Laws.OwnMore
import Derived.Test.YtmdakfmecfcbhaaGreatProg
import Derived.Test.YtmdakfmecfcbhaaGreatKit
import Derived.Test.YtmdakfmecfcbhaaGreatReg
import Derived.Test.YtmdakfmecfcbhaaGreatLSpec
import Derived.Test.YtmdakfmecfcbhaaGreatLRow
import Derived.Test.YtmdakfmecfcbhaaGreatLChk
import Derived.Test.YtmdakfmecfcbhaaGreatLTwi
import Derived.Test.YtmdakfmecfcbhaaGreatLCmp
import Derived.Test.YtmdakfmecfcbhaaGreatTkA
import Derived.BigQuiet
set_option linter.unusedVariables false
set_option linter.unusedSimpArgs false
namespace Go.Proofs.YtmdakfmecfcbhaaGreat.Tk
open Go.RowKit Lb
attribute [local go_sem] bs_size bs_toList bs_append bs_get bs_extract

theorem mixedT : Tryz.prog.follows .mixedOrders = true := by kernel_rfl
/-- Does it hold of each and the next one? -/
def adj {α : Type} (r : α → α → Bool) : List α → Bool
  | x :: y :: l => r x y && adj r (y :: l)
  | _ => true
theorem adj_iff {α : Type} {r : α → α → Bool} : ∀ {l : List α}, adj r l = true ↔ ∀ i (h : i + 1 < l.length), r l[i] l[i + 1] = true
  | [] => ⟨fun _ i h => by simp at h, fun _ => rfl⟩
  | [x] => ⟨fun _ i h => by simp at h, fun _ => rfl⟩
  | x :: y :: l => by
    have ih := adj_iff (r := r) (l := y :: l)
    constructor
    · intro h i hi
      simp only [adj, Bool.and_eq_true] at h
      cases i with
      | zero => exact h.1
      | succ i => exact ih.1 h.2 i (by simpa using hi)
    · intro h
      simp only [adj, Bool.and_eq_true]
      exact ⟨h 0 (by simp), ih.2 fun i hi => h (i + 1) (by simpa using hi)⟩
def riseT (l : List Sam) : Bool := adj (fun p q : Sam => decide (p.1 < q.1)) l
def riseS (l : List Ser) : Bool := adj (fun p q : Ser => decide (ordB p.1 q.1 < 0)) l
theorem later_take {l : List Sam} {k : Nat} (h : k < l.length) : laterB (l.take k) l[k].1 = if k = 0 then true else decide ((l[k - 1]'(by omega)).1 < l[k].1) := by
  by_cases h0 : k = 0
  · subst h0; rw [if_pos rfl]; simp [laterB]
  · rw [if_neg h0, laterB_at (by rw [List.length_take]; omega)]
    simp only [List.getElem_take, List.length_take]
    have : min k l.length - 1 = k - 1 := by omega
    simp only [this]
theorem riseT_yes {l : List Sam} (h : ∀ j (hj : j < l.length), laterB (l.take j) l[j].1 = true) : riseT l = true :=
  adj_iff.2 fun i hi => by
    have := h (i + 1) hi
    rw [later_take hi, if_neg (by omega)] at this
    exact this
theorem riseT_no {l : List Sam} {k : Nat} (hk : k < l.length) (h : laterB (l.take k) l[k].1 = false) : riseT l = false := by
  cases hr : riseT l with
  | false => rfl
  | true =>
    rw [later_take hk] at h
    by_cases h0 : k = 0
    · rw [if_pos h0] at h; cases h
    · rw [if_neg h0] at h
      have := adj_iff.1 hr (k - 1) (by omega)
      have e : l[k - 1 + 1]'(by omega) = l[k] := by congr 1; omega
      simp only [e] at this
      rw [this] at h
      cases h
/-- What is wrong with a series by itself. -/
def serErr (x : Ser) : Nat := if checkB x.1 ≠ 0 then checkB x.1 else if x.2.length = 0 ∨ x.2.any (fun p => !timeB p.1) = true then 3 else if riseT x.2 = true then 0 else 4
def firstE (f : Ser → Nat) : List Ser → Nat
  | [] => 0
  | x :: l => if f x = 0 then firstE f l else f x
theorem firstE_zero {f : Ser → Nat} : ∀ {l : List Ser}, (∀ i (h : i < l.length), f l[i] = 0) → firstE f l = 0
  | [], _ => rfl
  | x :: l, h => by
    have h0 : f x = 0 := h 0 (by simp)
    rw [firstE, if_pos h0]
    exact firstE_zero fun i hi => h (i + 1) (by simpa using hi)
theorem firstE_at {f : Ser → Nat} : ∀ {l : List Ser} {k : Nat} (hk : k < l.length), (∀ j (hj : j < l.length), j < k → f l[j] = 0) → f l[k] ≠ 0 → firstE f l = f l[k]
  | x :: l, 0, _, _, he => by
    have h0 : ¬ f x = 0 := he
    rw [firstE, if_neg h0]; rfl
  | x :: l, k + 1, hk, h, he => by
    have h0 : f x = 0 := h 0 (by simp) (by omega)
    rw [firstE, if_pos h0]
    exact firstE_at (by simpa using hk) (fun j hj hjk => h (j + 1) (by simpa using hj) (by omega)) he
theorem firstE_none {f : Ser → Nat} : ∀ {l : List Ser}, firstE f l = 0 → ∀ x ∈ l, f x = 0
  | [], _, x, hx => by simp at hx
  | y :: l, h, x, hx => by
    rw [firstE] at h
    by_cases h0 : f y = 0
    · rw [if_pos h0] at h
      rcases List.mem_cons.1 hx with rfl | hx
      · exact h0
      · exact firstE_none h x hx
    · rw [if_neg h0] at h; exact absurd h h0
/-- What is wrong with a store. -/
def storeErr (l : List Ser) : Nat := if manyB l = true then 2 else if firstE serErr l ≠ 0 then firstE serErr l else if riseS l = true then 0 else 4
theorem right_lens {a : List Lab} (h : checkB a = 0) : a.length ≤ 20 ∧ lensOk a := by
  obtain ⟨h1, h2⟩ := eachErr_names (checkB_zero.1 h).1
  exact ⟨h1, fun x hx => by have := h2 x hx; omega⟩
set_option maxRecDepth 20000 in
set_option maxHeartbeats 1000000 in
theorem tcmp_any (w : World) (va vb : Value) (a b : List Lab) (ha : readsLabels w w.heap.size va a) (hb : readsLabels w w.heap.size vb b) (hca : checkB a = 0) (hcb : checkB b = 0) :
    Calls Tryz.prog 53 #[va, vb] w fun e w' => e = .returned (.int .i64 (ordB a b)) ∧ Grow w w' := by
  obtain ⟨la, ia⟩ := right_lens hca
  obtain ⟨lb, ib⟩ := right_lens hcb
  have HC := compare_any w va vb a b ha (by omega) ia hb (by omega) ib
  have e0 : cmpErr a b = 0 := by unfold cmpErr; rw [if_pos hca]; exact hcb
  unfold cmpAns at HC
  rw [if_pos e0, e0] at HC
  obtain ⟨ao, ac, rfl⟩ := readsLabels_len ha
  obtain ⟨bo, bc, rfl⟩ := readsLabels_len hb
  replace HC := hide HC
  generalize ordB a b = o at HC
  clear ha hb ia ib e0
  go_enter Tryz.func53, Tryz.ntmps53
  go_wp2_with fail
  refine HC.out.mono ?_
  rintro e w2 ⟨rfl, hg⟩
  have HG := hide hg
  clear hg HC
  go_wp2
  go_ret
  exact ⟨rfl, HG.out⟩
set_option maxRecDepth 20000 in
set_option maxHeartbeats 2000000 in
theorem checkSer_any (w : World) (vx vy : Value) (x : Ser) (hx : readsLabels w w.heap.size vx x.1) (hy : readsSam w w.heap.size vy x.2) (hok : okSer x) :
    Calls Tryz.prog 23 #[.agg #[vx, vy]] w fun e w' => e = .returned (.int .i64 (serErr x)) ∧ Grow w w' := by
  obtain ⟨E, HE⟩ : ∃ E, Hid (serErr x = E) := ⟨_, hide rfl⟩
  rw [HE.out]
  obtain ⟨xl, xs⟩ := x
  have HE1 : Hid ((if checkB xl ≠ 0 then checkB xl else if xs.length = 0 ∨ xs.any (fun p => !timeB p.1) = true then 3 else if riseT xs = true then 0 else 4) = E) := HE
  clear HE
  obtain ⟨⟨hl, hi⟩, hs, hp⟩ := hok
  simp only at hx hy hl hi hs hp
  have HP := hide hp
  obtain ⟨xo, xc, hvx⟩ := readsLabels_len hx
  obtain ⟨yo, yc, hvy, hyc⟩ := readsSam_len hy
  subst hvx hvy
  obtain ⟨W, eW, gW, hW⟩ := laid_at w #[.slice xo xl.length xc, .slice yo xs.length yc] 41
  obtain ⟨c0, c1⟩ := two_cells hW
  have HG := hide gW
  have HW := hide hW
  have HCL := hide (Lb.check_any W (.slice xo xl.length xc) xl (readsLabels_mono (readsLabels_below hx gW) gW.size) hl hi)
  have HY := hide hy
  obtain ⟨C, HC⟩ : ∃ C, Hid (checkB xl = C) := ⟨_, hide rfl⟩
  rw [HC.out] at HCL HE1
  have HCS : Hid (∀ W', Grow w W' → Calls Tryz.prog 49 #[.slice yo xs.length yc, .func (.func 50) #[] #[]] W' fun e w' => e = .returned (.bool (xs.any (fun p => !timeB p.1))) ∧ Grow W' w') := hide fun W' g => contSam_any W' _ xs ((HY.out.keep g).more g.size) hs
  obtain ⟨T, HT⟩ : ∃ T, Hid (xs.any (fun p => !timeB p.1) = T) := ⟨_, hide rfl⟩
  rw [HT.out] at HCS HE1
  have hys : xs.length ≤ yc := hyc
  clear gW hW hx hy hp hl hi HC HT
  go_enter Tryz.func23, Tryz.ntmps23
  go_wp2_with fail
  refine HCL.out.mono ?_
  rintro e w1 ⟨rfl, hg1⟩
  have HG1 : Hid (Grow W w1) := hide hg1
  clear hg1 HCL c0 c1
  obtain ⟨c0, c1⟩ := two_cells (HG1.out.get HW.out)
  by_cases hC : C = 0
  · rw [if_neg (by omega)] at HE1
    have hz : ((C : Int) != 0) = false := by simp [hC]
    clear hC
    by_cases hn : xs.length = 0
    · rw [if_pos (.inl hn)] at HE1
      have hn0 : ((xs.length : Int) == 0) = true := by simp [hn]
      clear hn
      go_wp2
      go_ret
      exact ⟨ret_int (by rw [← HE1.out]; rfl), HG.out.trans HG1.out⟩
    · have hn0 : ((xs.length : Int) == 0) = false := by rw [beq_eq_false_iff_ne]; omega
      have HC1 := hide (HCS.out w1 (HG.out.trans HG1.out))
      go_wp2_with fail
      refine HC1.out.mono ?_
      rintro e w2 ⟨rfl, hg2⟩
      have HG2 : Hid (Grow W w2) := hide (HG1.out.trans hg2)
      clear hg2 HC1 HCS c0 c1
      obtain ⟨c0, c1⟩ := two_cells (HG2.out.get HW.out)
      cases T with
      | true =>
        rw [if_pos (.inr rfl)] at HE1
        go_wp2
        go_ret
        exact ⟨ret_int (by rw [← HE1.out]; rfl), HG.out.trans HG2.out⟩
      | false =>
        rw [if_neg (fun h => h.elim hn (by simp))] at HE1
        go_wp2
        go_loopw [24] (fun iv wr => ∃ k : Nat, k ≤ xs.length ∧ iv = .int .i64 k ∧ Hid (Grow W wr) ∧ Hid (∀ j (hj : j < xs.length), j < k → laterB (xs.take j) xs[j].1 = true)) (fun iv _ => xs.length - (intOf iv).toNat)
        case atStart => exact ⟨0, by omega, rfl, HG2, hide (fun j hj h => by omega)⟩
        case round =>
          clear c0 c1
          obtain ⟨k, hkk, rfl, HGr, HD⟩ := hrel
          have HGwr : Hid (Grow w wr) := hide (HG.out.trans HGr.out)
          by_cases hlt : k < xs.length
          · have hlti : (k : Int) < (xs.length : Int) := by omega
            obtain ⟨rb, rf, hio, hrB, d0, d1⟩ : ∃ b' o, yo = some ⟨b', o, none⟩ ∧ b' < w.heap.size ∧ wr.cell? ⟨b', o + k * 2, none⟩ = some (.int .i64 xs[k].1) ∧ wr.cell? ⟨b', o + k * 2 + 1, none⟩ = some (.int .u64 (xs[k].2 : Nat)) := by
              obtain ⟨ao', cp', e, _, h⟩ := HY.out.keep HGwr.out
              cases e
              obtain ⟨b', o, e, hB, q⟩ := h k hlt
              exact ⟨b', o, e, hB, q⟩
            subst hio
            obtain ⟨c0, c1⟩ := two_cells (HGr.out.get HW.out)
            obtain ⟨x, HX⟩ : ∃ x : Sam, Hid (xs[k] = x) := ⟨_, hide rfl⟩
            obtain ⟨F, HF⟩ : ∃ F, Hid (laterB (xs.take k) x.1 = F) := ⟨_, hide rfl⟩
            rw [HX.out] at d0 d1
            obtain ⟨V, eV, gV, hV⟩ := laid_at wr #[.int .i64 x.1, .int .u64 (x.2 : Nat)] 48
            have HVV := hide hV
            have HGV : Hid (Grow W V) := hide (HGr.out.trans gV)
            have HGwV : Hid (Grow w V) := hide (HG.out.trans HGV.out)
            have hkl : (k : Int) ≤ (yc : Int) := by omega
            have hkn : k ≤ yc := by omega
            have HFB : Hid (∀ W', Grow V W' → Calls Tryz.prog 52 #[.slice (some ⟨rb, rf, none⟩) k yc, .agg #[.int .i64 x.1, .int .u64 (x.2 : Nat)]] W' fun e w' => e = .returned (.bool F) ∧ Grow W' w') := hide fun W' g => by
              have := later_any W' (.slice (some ⟨rb, rf, none⟩) k yc) (xs.take k) x.1 x.2 (((HY.out.keep (HGwV.out.trans g)).take (by omega)).more (HGwV.out.trans g).size) (by rw [List.length_take]; omega)
              rw [HF.out] at this
              exact this
            have HF2 : Hid (laterB (xs.take k) xs[k].1 = F) := hide (by rw [HX.out]; exact HF.out)
            clear gV hV
            go_wp2
            clear c0 c1 d0 d1 eV
            refine wp_region_free 7 37 mixedT rfl (by decide +kernel) Grow (fun _ _ _ => Grow.trans) (Grow.refl _)
              (fun i v _ => match i with
                | 0 => v = .pointer (some ⟨w.heap.size, 1, none⟩)
                | 1 => v = .slice (some ⟨rb, rf, none⟩) xs.length yc
                | 2 => v = .int .i64 k
                | 3 => v = .slice (some ⟨rb, rf, none⟩) k yc
                | 4 => v = .agg #[.int .i64 x.1, .int .u64 (x.2 : Nat)]
                | 5 => v = .bool F
                | _ => v = .bool (!F))
              (fun i v w w' h hg => h) (fun _ _ => False) (fun _ _ _ _ h => h.elim) (fun i hi o ho a w2 hG hoff hdep => ?_) (fun vals w2 hG hvals => ?_)
            · have hb5 : Grow V w2 := hG.undrew
              obtain ⟨b0, b1⟩ := two_cells (hb5.get (HGV.out.get HW.out))
              obtain ⟨d0, d1⟩ := two_cells (hb5.get HVV.out)
              match i, hi with
              | 0, _ =>
                obtain rfl := Option.some.inj ho
                have o1 := hoff 1 (by decide +kernel)
                simp at o1
                simp [opYields, go_sem, o1]
                exact Grow.refl _
              | 1, _ =>
                obtain rfl := Option.some.inj ho
                have d0 := hdep 0 (by decide +kernel)
                simp [slotOf, dstOf] at d0
                simp [opYields, go_sem, d0, b1]
                exact Grow.refl _
              | 2, _ =>
                obtain rfl := Option.some.inj ho
                have o4 := hoff 4 (by decide +kernel)
                simp at o4
                simp [opYields, go_sem, o4]
                exact Grow.refl _
              | 3, _ =>
                obtain rfl := Option.some.inj ho
                have d1 := hdep 1 (by decide +kernel)
                simp [slotOf, dstOf] at d1
                have d2 := hdep 2 (by decide +kernel)
                simp [slotOf, dstOf] at d2
                simp [opYields, go_sem, d1, d2, hkl, hkn]
                exact Grow.refl _
              | 4, _ =>
                obtain rfl := Option.some.inj ho
                have o5 := hoff 5 (by decide +kernel)
                simp at o5
                simp [opYields, go_sem, o5, d0, d1]
                exact Grow.refl _
              | 5, _ =>
                obtain rfl := Option.some.inj ho
                have d3 := hdep 3 (by decide +kernel)
                simp [slotOf, dstOf] at d3
                have d4 := hdep 4 (by decide +kernel)
                simp [slotOf, dstOf] at d4
                simp [opYields, go_sem, d3, d4]
                refine (HFB.out w2 hb5).mono ?_
                rintro e w3 ⟨rfl, hb⟩
                exact ⟨hb, rfl⟩
              | 6, _ =>
                obtain rfl := Option.some.inj ho
                have d5 := hdep 5 (by decide +kernel)
                simp [slotOf, dstOf] at d5
                simp [opYields, go_sem, d5]
                exact Grow.refl _
              | k + 7, h => exact absurd h (by omega)
            · have v6 := hvals 6 (by omega)
              simp only at v6
              have HG6 : Hid (Grow W w2) := hide (HGV.out.trans hG.undrew)
              clear hvals hG
              simp [over, dstOf, Act.put, v6]
              cases F with
              | false =>
                have hE2 : E = 4 := by rw [← HE1.out, riseT_no hlt HF2.out]; rfl
                have HE2 := hide hE2
                clear hE2
                go_wp2
                go_ret
                exact ⟨ret_int (by rw [HE2.out]; rfl), HG.out.trans HG6.out⟩
              | true =>
                go_wp2
                go_roundw
                case rel => exact ⟨k + 1, by omega, by go_num, HG6, hide (fun j hj hjk => by
                  by_cases e : j = k
                  · subst e; exact HF2.out
                  · exact HD.out j hj (by omega))⟩
                case measure => simp [intOf]; omega
          · obtain rfl : k = xs.length := by omega
            have HR : Hid (riseT xs = true) := hide (riseT_yes fun j hj => HD.out j hj hj)
            rw [HR.out, if_pos rfl] at HE1
            go_wp2
            go_ret
            exact ⟨ret_int (by rw [← HE1.out]; rfl), HGwr.out⟩
  · rw [if_pos hC] at HE1
    have hz : ((C : Int) != 0) = true := by simp; exact hC
    clear hC
    go_wp2
    go_ret
    exact ⟨ret_int (by rw [← HE1.out]), HG.out.trans HG1.out⟩
end Go.Proofs.YtmdakfmecfcbhaaGreat.Tk
