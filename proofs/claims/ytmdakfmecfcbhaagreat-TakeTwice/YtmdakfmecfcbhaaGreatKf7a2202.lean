/- 3 texts in one. -/
import Derived.Laws.OwnMore
import Derived.Test.YtmdakfmecfcbhaaGreatProg
import Derived.Test.YtmdakfmecfcbhaaGreatK7e06493
import Derived.Test.YtmdakfmecfcbhaaGreatK85cc7d6
import Derived.Test.YtmdakfmecfcbhaaGreatK6ada7ca
import Derived.Test.YtmdakfmecfcbhaaGreatK0d2d33e
import Derived.Test.YtmdakfmecfcbhaaGreatK2303fdd
import Derived.Test.YtmdakfmecfcbhaaGreatK2318fee
import Derived.Test.YtmdakfmecfcbhaaGreatK14d8a0b
import Derived.BigQuiet
set_option linter.unusedVariables false
set_option linter.unusedSimpArgs false
namespace Go.Proofs.YtmdakfmecfcbhaaGreat.Tk
open Go.RowKit Lb
attribute [local go_sem] bs_size bs_toList bs_append bs_get bs_extract
theorem mixedT : Tryz.prog.follows .mixedOrders = true := by kernel_rfl
/-- Does it hold of each and the next one? -/
def adj {α : Type} (r : α → α → Bool) : List α → Bool
  | x :: y :: l => r x y && adj r (y :: l)
  | _ => true
theorem adj_iff {α : Type} {r : α → α → Bool} : ∀ {l : List α}, adj r l = true ↔ ∀ i (h : i + 1 < l.length), r l[i] l[i + 1] = true
  | [] => ⟨fun _ i h => by simp at h, fun _ => rfl⟩
  | [x] => ⟨fun _ i h => by simp at h, fun _ => rfl⟩
  | x :: y :: l => by
    have ih := adj_iff (r := r) (l := y :: l)
    constructor
    · intro h i hi
      simp only [adj, Bool.and_eq_true] at h
      cases i with
      | zero => exact h.1
      | succ i => exact ih.1 h.2 i (by simpa using hi)
    · intro h
      simp only [adj, Bool.and_eq_true]
      exact ⟨h 0 (by simp), ih.2 fun i hi => h (i + 1) (by simpa using hi)⟩
def riseT (l : List Sam) : Bool := adj (fun p q : Sam => decide (p.1 < q.1)) l
def riseS (l : List Ser) : Bool := adj (fun p q : Ser => decide (ordB p.1 q.1 < 0)) l
theorem later_take {l : List Sam} {k : Nat} (h : k < l.length) : laterB (l.take k) l[k].1 = if k = 0 then true else decide ((l[k - 1]'(by omega)).1 < l[k].1) := by
  by_cases h0 : k = 0
  · subst h0; rw [if_pos rfl]; simp [laterB]
  · rw [if_neg h0, laterB_at (by rw [List.length_take]; omega)]
    simp only [List.getElem_take, List.length_take]
    have : min k l.length - 1 = k - 1 := by omega
    simp only [this]
theorem riseT_yes {l : List Sam} (h : ∀ j (hj : j < l.length), laterB (l.take j) l[j].1 = true) : riseT l = true :=
  adj_iff.2 fun i hi => by
    have := h (i + 1) hi
    rw [later_take hi, if_neg (by omega)] at this
    exact this
theorem riseT_no {l : List Sam} {k : Nat} (hk : k < l.length) (h : laterB (l.take k) l[k].1 = false) : riseT l = false := by
  cases hr : riseT l with
  | false => rfl
  | true =>
    rw [later_take hk] at h
    by_cases h0 : k = 0
    · rw [if_pos h0] at h; cases h
    · rw [if_neg h0] at h
      have := adj_iff.1 hr (k - 1) (by omega)
      have e : l[k - 1 + 1]'(by omega) = l[k] := by congr 1; omega
      simp only [e] at this
      rw [this] at h
      cases h
/-- What is wrong with a series by itself. -/
def serErr (x : Ser) : Nat := if checkB x.1 ≠ 0 then checkB x.1 else if x.2.length = 0 ∨ x.2.any (fun p => !timeB p.1) = true then 3 else if riseT x.2 = true then 0 else 4
def firstE (f : Ser → Nat) : List Ser → Nat
  | [] => 0
  | x :: l => if f x = 0 then firstE f l else f x
theorem firstE_zero {f : Ser → Nat} : ∀ {l : List Ser}, (∀ i (h : i < l.length), f l[i] = 0) → firstE f l = 0
  | [], _ => rfl
  | x :: l, h => by
    have h0 : f x = 0 := h 0 (by simp)
    rw [firstE, if_pos h0]
    exact firstE_zero fun i hi => h (i + 1) (by simpa using hi)
theorem firstE_at {f : Ser → Nat} : ∀ {l : List Ser} {k : Nat} (hk : k < l.length), (∀ j (hj : j < l.length), j < k → f l[j] = 0) → f l[k] ≠ 0 → firstE f l = f l[k]
  | x :: l, 0, _, _, he => by
    have h0 : ¬ f x = 0 := he
    rw [firstE, if_neg h0]; rfl
  | x :: l, k + 1, hk, h, he => by
    have h0 : f x = 0 := h 0 (by simp) (by omega)
    rw [firstE, if_pos h0]
    exact firstE_at (by simpa using hk) (fun j hj hjk => h (j + 1) (by simpa using hj) (by omega)) he
theorem firstE_none {f : Ser → Nat} : ∀ {l : List Ser}, firstE f l = 0 → ∀ x ∈ l, f x = 0
  | [], _, x, hx => by simp at hx
  | y :: l, h, x, hx => by
    rw [firstE] at h
    by_cases h0 : f y = 0
    · rw [if_pos h0] at h
      rcases List.mem_cons.1 hx with rfl | hx
      · exact h0
      · exact firstE_none h x hx
    · rw [if_neg h0] at h; exact absurd h h0
/-- What is wrong with a store. -/
def storeErr (l : List Ser) : Nat := if manyB l = true then 2 else if firstE serErr l ≠ 0 then firstE serErr l else if riseS l = true then 0 else 4
theorem right_lens {a : List Lab} (h : checkB a = 0) : a.length ≤ 20 ∧ lensOk a := by
  obtain ⟨h1, h2⟩ := eachErr_names (checkB_zero.1 h).1
  exact ⟨h1, fun x hx => by have := h2 x hx; omega⟩
set_option maxRecDepth 20000 in
set_option maxHeartbeats 1000000 in
theorem tcmp_any (w : World) (va vb : Value) (a b : List Lab) (ha : readsLabels w w.heap.size va a) (hb : readsLabels w w.heap.size vb b) (hca : checkB a = 0) (hcb : checkB b = 0) :
    Calls Tryz.prog 53 #[va, vb] w fun e w' => e = .returned (.int .i64 (ordB a b)) ∧ Grow w w' := by
  obtain ⟨la, ia⟩ := right_lens hca
  obtain ⟨lb, ib⟩ := right_lens hcb
  have HC := compare_any w va vb a b ha (by omega) ia hb (by omega) ib
  have e0 : cmpErr a b = 0 := by unfold cmpErr; rw [if_pos hca]; exact hcb
  unfold cmpAns at HC
  rw [if_pos e0, e0] at HC
  obtain ⟨ao, ac, rfl⟩ := readsLabels_len ha
  obtain ⟨bo, bc, rfl⟩ := readsLabels_len hb
  replace HC := hide HC
  generalize ordB a b = o at HC
  clear ha hb ia ib e0
  go_enter Tryz.func53, Tryz.ntmps53
  go_wp2_with fail
  refine HC.out.mono ?_
  rintro e w2 ⟨rfl, hg⟩
  have HG := hide hg
  clear hg HC
  go_wp2
  go_ret
  exact ⟨rfl, HG.out⟩
set_option maxRecDepth 20000 in
set_option maxHeartbeats 2000000 in
theorem checkSer_any (w : World) (vx vy : Value) (x : Ser) (hx : readsLabels w w.heap.size vx x.1) (hy : readsSam w w.heap.size vy x.2) (hok : okSer x) :
    Calls Tryz.prog 23 #[.agg #[vx, vy]] w fun e w' => e = .returned (.int .i64 (serErr x)) ∧ Grow w w' := by
  obtain ⟨E, HE⟩ : ∃ E, Hid (serErr x = E) := ⟨_, hide rfl⟩
  rw [HE.out]
  obtain ⟨xl, xs⟩ := x
  have HE1 : Hid ((if checkB xl ≠ 0 then checkB xl else if xs.length = 0 ∨ xs.any (fun p => !timeB p.1) = true then 3 else if riseT xs = true then 0 else 4) = E) := HE
  clear HE
  obtain ⟨⟨hl, hi⟩, hs, hp⟩ := hok
  simp only at hx hy hl hi hs hp
  have HP := hide hp
  obtain ⟨xo, xc, hvx⟩ := readsLabels_len hx
  obtain ⟨yo, yc, hvy, hyc⟩ := readsSam_len hy
  subst hvx hvy
  obtain ⟨W, eW, gW, hW⟩ := laid_at w #[.slice xo xl.length xc, .slice yo xs.length yc] 41
  obtain ⟨c0, c1⟩ := two_cells hW
  have HG := hide gW
  have HW := hide hW
  have HCL := hide (Lb.check_any W (.slice xo xl.length xc) xl (readsLabels_mono (readsLabels_below hx gW) gW.size) hl hi)
  have HY := hide hy
  obtain ⟨C, HC⟩ : ∃ C, Hid (checkB xl = C) := ⟨_, hide rfl⟩
  rw [HC.out] at HCL HE1
  have HCS : Hid (∀ W', Grow w W' → Calls Tryz.prog 49 #[.slice yo xs.length yc, .func (.func 50) #[] #[]] W' fun e w' => e = .returned (.bool (xs.any (fun p => !timeB p.1))) ∧ Grow W' w') := hide fun W' g => contSam_any W' _ xs ((HY.out.keep g).more g.size) hs
  obtain ⟨T, HT⟩ : ∃ T, Hid (xs.any (fun p => !timeB p.1) = T) := ⟨_, hide rfl⟩
  rw [HT.out] at HCS HE1
  have hys : xs.length ≤ yc := hyc
  clear gW hW hx hy hp hl hi HC HT
  go_enter Tryz.func23, Tryz.ntmps23
  go_wp2_with fail
  refine HCL.out.mono ?_
  rintro e w1 ⟨rfl, hg1⟩
  have HG1 : Hid (Grow W w1) := hide hg1
  clear hg1 HCL c0 c1
  obtain ⟨c0, c1⟩ := two_cells (HG1.out.get HW.out)
  by_cases hC : C = 0
  · rw [if_neg (by omega)] at HE1
    have hz : ((C : Int) != 0) = false := by simp [hC]
    clear hC
    by_cases hn : xs.length = 0
    · rw [if_pos (.inl hn)] at HE1
      have hn0 : ((xs.length : Int) == 0) = true := by simp [hn]
      clear hn
      go_wp2
      go_ret
      exact ⟨ret_int (by rw [← HE1.out]; rfl), HG.out.trans HG1.out⟩
    · have hn0 : ((xs.length : Int) == 0) = false := by rw [beq_eq_false_iff_ne]; omega
      have HC1 := hide (HCS.out w1 (HG.out.trans HG1.out))
      go_wp2_with fail
      refine HC1.out.mono ?_
      rintro e w2 ⟨rfl, hg2⟩
      have HG2 : Hid (Grow W w2) := hide (HG1.out.trans hg2)
      clear hg2 HC1 HCS c0 c1
      obtain ⟨c0, c1⟩ := two_cells (HG2.out.get HW.out)
      cases T with
      | true =>
        rw [if_pos (.inr rfl)] at HE1
        go_wp2
        go_ret
        exact ⟨ret_int (by rw [← HE1.out]; rfl), HG.out.trans HG2.out⟩
      | false =>
        rw [if_neg (fun h => h.elim hn (by simp))] at HE1
        go_wp2
        go_loopw [24] (fun iv wr => ∃ k : Nat, k ≤ xs.length ∧ iv = .int .i64 k ∧ Hid (Grow W wr) ∧ Hid (∀ j (hj : j < xs.length), j < k → laterB (xs.take j) xs[j].1 = true)) (fun iv _ => xs.length - (intOf iv).toNat)
        case atStart => exact ⟨0, by omega, rfl, HG2, hide (fun j hj h => by omega)⟩
        case round =>
          clear c0 c1
          obtain ⟨k, hkk, rfl, HGr, HD⟩ := hrel
          have HGwr : Hid (Grow w wr) := hide (HG.out.trans HGr.out)
          by_cases hlt : k < xs.length
          · have hlti : (k : Int) < (xs.length : Int) := by omega
            obtain ⟨rb, rf, hio, hrB, d0, d1⟩ : ∃ b' o, yo = some ⟨b', o, none⟩ ∧ b' < w.heap.size ∧ wr.cell? ⟨b', o + k * 2, none⟩ = some (.int .i64 xs[k].1) ∧ wr.cell? ⟨b', o + k * 2 + 1, none⟩ = some (.int .u64 (xs[k].2 : Nat)) := by
              obtain ⟨ao', cp', e, _, h⟩ := HY.out.keep HGwr.out
              cases e
              obtain ⟨b', o, e, hB, q⟩ := h k hlt
              exact ⟨b', o, e, hB, q⟩
            subst hio
            obtain ⟨c0, c1⟩ := two_cells (HGr.out.get HW.out)
            obtain ⟨x, HX⟩ : ∃ x : Sam, Hid (xs[k] = x) := ⟨_, hide rfl⟩
            obtain ⟨F, HF⟩ : ∃ F, Hid (laterB (xs.take k) x.1 = F) := ⟨_, hide rfl⟩
            rw [HX.out] at d0 d1
            obtain ⟨V, eV, gV, hV⟩ := laid_at wr #[.int .i64 x.1, .int .u64 (x.2 : Nat)] 48
            have HVV := hide hV
            have HGV : Hid (Grow W V) := hide (HGr.out.trans gV)
            have HGwV : Hid (Grow w V) := hide (HG.out.trans HGV.out)
            have hkl : (k : Int) ≤ (yc : Int) := by omega
            have hkn : k ≤ yc := by omega
            have HFB : Hid (∀ W', Grow V W' → Calls Tryz.prog 52 #[.slice (some ⟨rb, rf, none⟩) k yc, .agg #[.int .i64 x.1, .int .u64 (x.2 : Nat)]] W' fun e w' => e = .returned (.bool F) ∧ Grow W' w') := hide fun W' g => by
              have := later_any W' (.slice (some ⟨rb, rf, none⟩) k yc) (xs.take k) x.1 x.2 (((HY.out.keep (HGwV.out.trans g)).take (by omega)).more (HGwV.out.trans g).size) (by rw [List.length_take]; omega)
              rw [HF.out] at this
              exact this
            have HF2 : Hid (laterB (xs.take k) xs[k].1 = F) := hide (by rw [HX.out]; exact HF.out)
            clear gV hV
            go_wp2
            clear c0 c1 d0 d1 eV
            refine wp_region_free 7 37 mixedT rfl (by decide +kernel) Grow (fun _ _ _ => Grow.trans) (Grow.refl _)
              (fun i v _ => match i with
                | 0 => v = .pointer (some ⟨w.heap.size, 1, none⟩)
                | 1 => v = .slice (some ⟨rb, rf, none⟩) xs.length yc
                | 2 => v = .int .i64 k
                | 3 => v = .slice (some ⟨rb, rf, none⟩) k yc
                | 4 => v = .agg #[.int .i64 x.1, .int .u64 (x.2 : Nat)]
                | 5 => v = .bool F
                | _ => v = .bool (!F))
              (fun i v w w' h hg => h) (fun _ _ => False) (fun _ _ _ _ h => h.elim) (fun i hi o ho a w2 hG hoff hdep => ?_) (fun vals w2 hG hvals => ?_)
            · have hb5 : Grow V w2 := hG.undrew
              obtain ⟨b0, b1⟩ := two_cells (hb5.get (HGV.out.get HW.out))
              obtain ⟨d0, d1⟩ := two_cells (hb5.get HVV.out)
              match i, hi with
              | 0, _ =>
                obtain rfl := Option.some.inj ho
                have o1 := hoff 1 (by decide +kernel)
                simp at o1
                simp [opYields, go_sem, o1]
                exact Grow.refl _
              | 1, _ =>
                obtain rfl := Option.some.inj ho
                have d0 := hdep 0 (by decide +kernel)
                simp [slotOf, dstOf] at d0
                simp [opYields, go_sem, d0, b1]
                exact Grow.refl _
              | 2, _ =>
                obtain rfl := Option.some.inj ho
                have o4 := hoff 4 (by decide +kernel)
                simp at o4
                simp [opYields, go_sem, o4]
                exact Grow.refl _
              | 3, _ =>
                obtain rfl := Option.some.inj ho
                have d1 := hdep 1 (by decide +kernel)
                simp [slotOf, dstOf] at d1
                have d2 := hdep 2 (by decide +kernel)
                simp [slotOf, dstOf] at d2
                simp [opYields, go_sem, d1, d2, hkl, hkn]
                exact Grow.refl _
              | 4, _ =>
                obtain rfl := Option.some.inj ho
                have o5 := hoff 5 (by decide +kernel)
                simp at o5
                simp [opYields, go_sem, o5, d0, d1]
                exact Grow.refl _
              | 5, _ =>
                obtain rfl := Option.some.inj ho
                have d3 := hdep 3 (by decide +kernel)
                simp [slotOf, dstOf] at d3
                have d4 := hdep 4 (by decide +kernel)
                simp [slotOf, dstOf] at d4
                simp [opYields, go_sem, d3, d4]
                refine (HFB.out w2 hb5).mono ?_
                rintro e w3 ⟨rfl, hb⟩
                exact ⟨hb, rfl⟩
              | 6, _ =>
                obtain rfl := Option.some.inj ho
                have d5 := hdep 5 (by decide +kernel)
                simp [slotOf, dstOf] at d5
                simp [opYields, go_sem, d5]
                exact Grow.refl _
              | k + 7, h => exact absurd h (by omega)
            · have v6 := hvals 6 (by omega)
              simp only at v6
              have HG6 : Hid (Grow W w2) := hide (HGV.out.trans hG.undrew)
              clear hvals hG
              simp [over, dstOf, Act.put, v6]
              cases F with
              | false =>
                have hE2 : E = 4 := by rw [← HE1.out, riseT_no hlt HF2.out]; rfl
                have HE2 := hide hE2
                clear hE2
                go_wp2
                go_ret
                exact ⟨ret_int (by rw [HE2.out]; rfl), HG.out.trans HG6.out⟩
              | true =>
                go_wp2
                go_roundw
                case rel => exact ⟨k + 1, by omega, by go_num, HG6, hide (fun j hj hjk => by
                  by_cases e : j = k
                  · subst e; exact HF2.out
                  · exact HD.out j hj (by omega))⟩
                case measure => simp [intOf]; omega
          · obtain rfl : k = xs.length := by omega
            have HR : Hid (riseT xs = true) := hide (riseT_yes fun j hj => HD.out j hj hj)
            rw [HR.out, if_pos rfl] at HE1
            go_wp2
            go_ret
            exact ⟨ret_int (by rw [← HE1.out]; rfl), HGwr.out⟩
  · rw [if_pos hC] at HE1
    have hz : ((C : Int) != 0) = true := by simp; exact hC
    clear hC
    go_wp2
    go_ret
    exact ⟨ret_int (by rw [← HE1.out]), HG.out.trans HG1.out⟩
theorem riseS_yes {l : List Ser} (h : ∀ j (hj : j + 1 < l.length), ordB l[j].1 l[j + 1].1 < 0) : riseS l = true :=
  adj_iff.2 fun i hi => decide_eq_true (h i hi)
theorem riseS_no {l : List Ser} {j : Nat} (hj : j + 1 < l.length) (h : ¬ ordB l[j].1 l[j + 1].1 < 0) : riseS l = false := by
  cases hr : riseS l with
  | false => rfl
  | true => exact absurd (of_decide_eq_true (adj_iff.1 hr j hj)) h
set_option maxRecDepth 20000 in
set_option maxHeartbeats 2000000 in
theorem riseSer_any (w : World) (v : Value) (l : List Ser) (hv : readsSer w w.heap.size v l) (hl : l.length ≤ 500) (hr : ∀ x ∈ l, checkB x.1 = 0) :
    Calls Tryz.prog 24 #[v] w fun e w' => e = .returned (.bool (riseS l)) ∧ Grow w w' := by
  obtain ⟨ao, cp, rfl, -, hcells⟩ := id hv
  have HV := hide hv
  have HR := hide hr
  clear hv hr
  go_enter Tryz.func24, Tryz.ntmps24
  go_wp2
  go_loopw [3] (fun iv wr => ∃ k : Nat, 1 ≤ k ∧ k ≤ l.length + 1 ∧ iv = .int .i64 k ∧ Hid (Grow w wr) ∧ Hid (∀ j (hj : j + 1 < l.length), j + 1 < k → ordB l[j].1 l[j + 1].1 < 0)) (fun iv _ => l.length + 1 - (intOf iv).toNat)
  case atStart => exact ⟨1, by omega, by omega, rfl, hide (Grow.refl _), hide (fun j hj h => by omega)⟩
  case round =>
    obtain ⟨k, hk1n, hkk, rfl, HG, HD⟩ := hrel
    by_cases hlt : k < l.length
    · have hlti : (k : Int) < (l.length : Int) := by omega
      obtain ⟨rb, rf, xa, ya, rfl, hrB, ha, -, a0, -⟩ := hcells (k - 1) (by omega)
      obtain ⟨rb', rf', xb, yb, e, _, hb, -, b0, -⟩ := hcells k hlt
      cases e
      have HA := hide ha
      have HB := hide hb
      have HA0 := hide a0
      have HB0 := hide b0
      have hk1 : (1 : Int) ≤ (k : Int) := by omega
      have hk3 : ((k : Int) - 1) < (l.length : Int) := by omega
      have hk4 : (0 : Int) ≤ (k : Int) - 1 := by omega
      have hk5 : ((k : Int) - 1).toNat = k - 1 := by omega
      obtain ⟨O, HO⟩ : ∃ O, Hid (ordB (l[k - 1]'(by omega)).1 l[k].1 = O) := ⟨_, hide rfl⟩
      have HCM : Hid (∀ W', Grow wr W' → Calls Tryz.prog 53 #[xa, xb] W' fun e w' => e = .returned (.int .i64 O) ∧ Grow W' w') := hide fun W' g => by
        have gw := HG.out.trans g
        have := tcmp_any W' xa xb _ _ (readsLabels_mono (readsLabels_below HA.out gw) gw.size) (readsLabels_mono (readsLabels_below HB.out gw) gw.size) (HR.out _ (List.getElem_mem (by omega))) (HR.out _ (List.getElem_mem hlt))
        rw [HO.out] at this
        exact this
      obtain ⟨xo, xc, hxa⟩ := readsLabels_len ha
      obtain ⟨yo, yc, hxb⟩ := readsLabels_len hb
      obtain ⟨F, HF⟩ : ∃ F, Hid (decide (0 ≤ O) = F) := ⟨_, hide rfl⟩
      generalize (l[k - 1]'(by omega)).1.length = n1 at hxa
      generalize l[k].1.length = n2 at hxb
      clear ha hb a0 b0 hcells
      go_wp2
      refine wp_region_free 13 23 mixedT rfl (by decide +kernel) Grow (fun _ _ _ => Grow.trans) (Grow.refl _)
        (fun i v _ => match i with
          | 0 => v = .slice (some ⟨rb, rf, none⟩) l.length cp
          | 1 => v = .int .i64 k
          | 2 => v = .int .i64 ((k : Int) - 1)
          | 3 => v = .pointer (some ⟨rb, rf + (k - 1) * 2, none⟩)
          | 4 => v = .pointer (some ⟨rb, rf + (k - 1) * 2, none⟩)
          | 5 => v = xa
          | 6 => v = .slice (some ⟨rb, rf, none⟩) l.length cp
          | 7 => v = .int .i64 k
          | 8 => v = .pointer (some ⟨rb, rf + k * 2, none⟩)
          | 9 => v = .pointer (some ⟨rb, rf + k * 2, none⟩)
          | 10 => v = xb
          | 11 => v = .int .i64 O
          | _ => v = .bool F)
        (fun i v w w' h hg => h) (fun _ _ => False) (fun _ _ _ _ h => h.elim) (fun i hi o ho a w2 hG hoff hdep => ?_) (fun vals w2 hG hvals => ?_)
      · have hb5 : Grow wr w2 := hG.undrew
        have hg5 : Grow w w2 := HG.out.trans hb5
        have c0 := (hg5.cell (p := ⟨rb, rf + (k - 1) * 2, none⟩) hrB).trans HA0.out
        have c1 := (hg5.cell (p := ⟨rb, rf + k * 2, none⟩) hrB).trans HB0.out
        subst hxa hxb
        have hlti2 := hlti
        match i, hi with
        | 0, _ =>
          obtain rfl := Option.some.inj ho
          have o0 := hoff 0 (by decide +kernel)
          simp at o0
          simp [opYields, go_sem, o0]
          exact Grow.refl _
        | 1, _ =>
          obtain rfl := Option.some.inj ho
          have o3 := hoff 3 (by decide +kernel)
          simp at o3
          simp [opYields, go_sem, o3]
          exact Grow.refl _
        | 2, _ =>
          obtain rfl := Option.some.inj ho
          have d1 := hdep 1 (by decide +kernel)
          simp [slotOf, dstOf] at d1
          simp [opYields, go_sem, d1]
          exact ⟨Grow.refl _, by first|omega|(rw [IntKind.wrap_i64]; omega)⟩
        | 3, _ =>
          obtain rfl := Option.some.inj ho
          have d0 := hdep 0 (by decide +kernel)
          simp [slotOf, dstOf] at d0
          have d2 := hdep 2 (by decide +kernel)
          simp [slotOf, dstOf] at d2
          simp [opYields, go_sem, d0, d2, hk3, hk4, hk5, hk1]
          exact Grow.refl _
        | 4, _ =>
          obtain rfl := Option.some.inj ho
          have d3 := hdep 3 (by decide +kernel)
          simp [slotOf, dstOf] at d3
          simp [opYields, go_sem, d3]
          exact Grow.refl _
        | 5, _ =>
          obtain rfl := Option.some.inj ho
          have d4 := hdep 4 (by decide +kernel)
          simp [slotOf, dstOf] at d4
          simp [opYields, go_sem, d4, c0]
          exact Grow.refl _
        | 6, _ =>
          obtain rfl := Option.some.inj ho
          have o0 := hoff 0 (by decide +kernel)
          simp at o0
          simp [opYields, go_sem, o0]
          exact Grow.refl _
        | 7, _ =>
          obtain rfl := Option.some.inj ho
          have o3 := hoff 3 (by decide +kernel)
          simp at o3
          simp [opYields, go_sem, o3]
          exact Grow.refl _
        | 8, _ =>
          obtain rfl := Option.some.inj ho
          have d6 := hdep 6 (by decide +kernel)
          simp [slotOf, dstOf] at d6
          have d7 := hdep 7 (by decide +kernel)
          simp [slotOf, dstOf] at d7
          simp [opYields, go_sem, d6, d7, hlti, hlt]
          exact Grow.refl _
        | 9, _ =>
          obtain rfl := Option.some.inj ho
          have d8 := hdep 8 (by decide +kernel)
          simp [slotOf, dstOf] at d8
          simp [opYields, go_sem, d8]
          exact Grow.refl _
        | 10, _ =>
          obtain rfl := Option.some.inj ho
          have d9 := hdep 9 (by decide +kernel)
          simp [slotOf, dstOf] at d9
          simp [opYields, go_sem, d9, c1]
          exact Grow.refl _
        | 11, _ =>
          obtain rfl := Option.some.inj ho
          have d5 := hdep 5 (by decide +kernel)
          simp [slotOf, dstOf] at d5
          have d10 := hdep 10 (by decide +kernel)
          simp [slotOf, dstOf] at d10
          simp [opYields, go_sem, d5, d10]
          refine (HCM.out w2 hb5).mono ?_
          rintro e w3 ⟨rfl, hb⟩
          exact ⟨hb, rfl⟩
        | 12, _ =>
          obtain rfl := Option.some.inj ho
          have d11 := hdep 11 (by decide +kernel)
          simp [slotOf, dstOf] at d11
          simp [opYields, go_sem, d11]
          exact ⟨Grow.refl _, HF.out⟩
        | k + 13, h => exact absurd h (by omega)
      · have v12 := hvals 12 (by omega)
        simp only at v12
        have HG6 : Hid (Grow w w2) := hide (HG.out.trans hG.undrew)
        clear hvals hG
        simp [over, dstOf, Act.put, v12]
        cases F with
        | true =>
          have h0 := of_decide_eq_true HF.out
          have hfalse : riseS l = false := by
            refine riseS_no (j := k - 1) (by omega) ?_
            have e : l[k - 1 + 1]'(by omega) = l[k] := by congr 1; omega
            simp only [e]
            rw [HO.out]
            omega
          have HFA := hide hfalse
          clear h0 hfalse
          go_wp2
          go_ret
          exact ⟨ret_bool (by rw [HFA.out]), HG6.out⟩
        | false =>
          have h0 := of_decide_eq_false HF.out
          have H0 : Hid (O < 0) := hide (by omega)
          clear h0
          go_wp2
          go_roundw
          case rel => exact ⟨k + 1, by omega, by omega, by go_num, HG6, hide (fun j hj hjk => by
            by_cases e : j + 1 = k
            · subst e
              have := HO.out
              simp only [Nat.add_sub_cancel] at this
              rw [this]
              exact H0.out
            · exact HD.out j hj (by omega))⟩
          case measure => simp [intOf]; omega
    · have HRS : Hid (riseS l = true) := hide (riseS_yes fun j hj => HD.out j hj (by omega))
      go_wp2
      go_ret
      exact ⟨ret_bool (by rw [HRS.out]), HG.out⟩
theorem serErr_labels {x : Ser} (h : serErr x = 0) : checkB x.1 = 0 ∧ 0 < x.2.length ∧ (∀ p ∈ x.2, timeB p.1 = true) ∧ riseT x.2 = true := by
  unfold serErr at h
  by_cases h0 : checkB x.1 = 0
  · rw [if_neg (by omega)] at h
    by_cases h1 : x.2.length = 0 ∨ x.2.any (fun p => !timeB p.1) = true
    · rw [if_pos h1] at h; cases h
    · rw [if_neg h1] at h
      refine ⟨h0, ?_, fun p hp => ?_, ?_⟩
      · rcases Nat.eq_zero_or_pos x.2.length with e | e
        · exact absurd (.inl e) h1
        · exact e
      · cases ht : timeB p.1 with
        | true => rfl
        | false => exact absurd (.inr (List.any_eq_true.2 ⟨p, hp, by rw [ht]; rfl⟩)) h1
      · cases hr : riseT x.2 with
        | true => rfl
        | false => rw [hr] at h; simp at h
  · rw [if_pos h0] at h; exact absurd h h0
set_option maxRecDepth 20000 in
set_option maxHeartbeats 2000000 in
theorem tcheck_any (w : World) (v : Value) (l : List Ser) (hv : readsSer w w.heap.size v l) (hok : okStore l) :
    Calls Tryz.prog 9 #[v] w fun e w' => e = .returned (.int .i64 (storeErr l)) ∧ Grow w w' := by
  obtain ⟨E, HE⟩ : ∃ E, Hid (storeErr l = E) := ⟨_, hide rfl⟩
  rw [HE.out]
  have HE1 : Hid ((if manyB l = true then 2 else if firstE serErr l ≠ 0 then firstE serErr l else if riseS l = true then 0 else 4) = E) := HE
  clear HE
  obtain ⟨hl, hx⟩ := hok
  have HX := hide hx
  have HTM := hide (tooMany_any w v l hv hl)
  obtain ⟨M, HM⟩ : ∃ M, Hid (manyB l = M) := ⟨_, hide rfl⟩
  rw [HM.out] at HTM HE1
  obtain ⟨ao, cp, hvv, -, hcells⟩ := id hv
  subst hvv
  have HV := hide hv
  clear hv hx
  go_enter Tryz.func9, Tryz.ntmps9
  go_wp2_with fail
  refine HTM.out.mono ?_
  rintro e w1 ⟨rfl, hg1⟩
  have HG1 : Hid (Grow w w1) := hide hg1
  clear hg1 HTM
  cases M with
  | true =>
    rw [if_pos rfl] at HE1
    go_wp2
    go_ret
    exact ⟨ret_int (by rw [← HE1.out]; rfl), HG1.out⟩
  | false =>
    rw [if_neg (by simp)] at HE1
    have hl5 : l.length ≤ 500 := by
      have := HM.out
      unfold manyB at this
      simp only [Bool.or_eq_false_iff, decide_eq_false_iff_not] at this
      omega
    go_wp2
    go_loopw [10] (fun iv wr => ∃ k : Nat, k ≤ l.length ∧ iv = .int .i64 k ∧ Hid (Grow w wr) ∧ Hid (∀ j (hj : j < l.length), j < k → serErr l[j] = 0)) (fun iv _ => l.length - (intOf iv).toNat)
    case atStart => exact ⟨0, by omega, rfl, HG1, hide (fun j hj h => by omega)⟩
    case round =>
      obtain ⟨k, hkk, rfl, HGr, HD⟩ := hrel
      by_cases hlt : k < l.length
      · have hlti : (k : Int) < (l.length : Int) := by omega
        obtain ⟨rb, rf, xa, ya, rfl, hrB, ha, hs, a0, a1⟩ := hcells k hlt
        have c0 := (HGr.out.cell (p := ⟨rb, rf + k * 2, none⟩) hrB).trans a0
        have c1 := (HGr.out.cell (p := ⟨rb, rf + k * 2 + 1, none⟩) hrB).trans a1
        obtain ⟨xo, xc, hxa⟩ := readsLabels_len ha
        obtain ⟨yo, yc, hya, -⟩ := readsSam_len hs
        obtain ⟨V, eV, gV, hV⟩ := laid_at wr #[xa, ya] 41
        have hgV : Grow w V := HGr.out.trans gV
        have HCK := hide (checkSer_any V xa ya l[k] (readsLabels_mono (readsLabels_below ha hgV) hgV.size) ((hs.keep hgV).more hgV.size) (HX.out _ (List.getElem_mem hlt)))
        obtain ⟨P, HP⟩ : ∃ P, Hid (serErr l[k] = P) := ⟨_, hide rfl⟩
        rw [HP.out] at HCK
        obtain ⟨d0, d1⟩ := two_cells hV
        have HVV := hide hV
        have HGV := hide hgV
        have HEK : Hid (P ≠ 0 → P = E) := hide fun hne => by
          have h1 := firstE_at (f := serErr) hlt HD.out (by rw [HP.out]; exact hne)
          rw [HP.out] at h1
          rw [← HE1.out, h1, if_pos hne]
        subst hxa hya
        generalize l[k].1.length = n1 at *
        generalize l[k].2.length = n2 at *
        clear ha hs a0 a1 hcells gV hV hgV
        go_wp2_with fail
        refine HCK.out.mono ?_
        rintro e w3 ⟨rfl, hg3⟩
        have HG3 : Hid (Grow w w3) := hide (HGV.out.trans hg3)
        clear hg3 HCK c0 c1 d0 d1 eV
        by_cases hP : P = 0
        · have hz : ((P : Int) != 0) = false := by simp [hP]
          have HP0 := hide hP
          clear hP
          go_wp2
          go_roundw
          case rel => exact ⟨k + 1, by omega, by go_num, HG3, hide (fun j hj hjk => by
            by_cases e : j = k
            · subst e; rw [HP.out]; exact HP0.out
            · exact HD.out j hj (by omega))⟩
          case measure => simp [intOf]; omega
        · have hz : ((P : Int) != 0) = true := by simp; exact hP
          have HE2 := hide (HEK.out hP)
          clear hP
          go_wp2
          go_ret
          exact ⟨ret_int (by rw [← HE2.out]), HG3.out⟩
      · obtain rfl : k = l.length := by omega
        have h0 : ∀ j (hj : j < l.length), serErr l[j] = 0 := fun j hj => HD.out j hj hj
        rw [if_neg (by have := firstE_zero (f := serErr) h0; omega)] at HE1
        have HRI := hide (riseSer_any wr (.slice ao l.length cp) l ((HV.out.keep HGr.out).more HGr.out.size) hl5 (fun x hx => by
          obtain ⟨i, hi, rfl⟩ := List.getElem_of_mem hx
          exact (serErr_labels (h0 i hi)).1))
        obtain ⟨R, HR⟩ : ∃ R, Hid (riseS l = R) := ⟨_, hide rfl⟩
        rw [HR.out] at HRI HE1
        clear h0 hcells
        go_wp2_with fail
        refine HRI.out.mono ?_
        rintro e w3 ⟨rfl, hg3⟩
        have HG3 : Hid (Grow w w3) := hide (HGr.out.trans hg3)
        clear hg3 HRI
        cases R with
        | true =>
          rw [if_pos rfl] at HE1
          go_wp2
          go_ret
          exact ⟨ret_int (by rw [← HE1.out]; rfl), HG3.out⟩
        | false =>
          rw [if_neg (by simp)] at HE1
          go_wp2
          go_ret
          exact ⟨ret_int (by rw [← HE1.out]; rfl), HG3.out⟩
theorem rIsTime_any (n : Int) (w : World) : Calls Tryz.prog 26 #[.int .i64 n] w fun e w' => e = .returned (.bool (timeB n)) ∧ w' = w := by
  unfold timeB
  by_cases h1 : -9007199254740991 ≤ n
  · rw [decide_eq_true h1]
    go_enter Tryz.func26, Tryz.ntmps26
    go_wp2
    go_ret
    exact ⟨ret_bool (by simp), rfl⟩
  · rw [decide_eq_false h1]
    have h2 := decide_eq_false h1
    go_enter Tryz.func26, Tryz.ntmps26
    go_wp2
    go_ret
    exact ⟨ret_bool (by simp), rfl⟩
set_option maxRecDepth 20000 in
set_option maxHeartbeats 1000000 in
theorem rGreat_any (w : World) (v : Value) (l : List Ser) (hv : readsSer w w.heap.size v l) (hl : l.length ≤ 9223372036854775807) :
    Calls Tryz.prog 25 #[v] w fun e w' => e = .returned (.bool (manyB l)) ∧ w' = w := by
  obtain ⟨ao, cp, rfl, -, hcells⟩ := hv
  go_enter Tryz.func25, Tryz.ntmps25
  go_wp2
  go_loop [3] (fun iv => ∃ k : Nat, k ≤ l.length ∧ iv = .int .i64 k ∧ Hid (∀ j (hj : j < l.length), j < k → muchB l[j] = false)) (fun iv => l.length - (intOf iv).toNat)
  case atStart => exact ⟨0, by omega, rfl, hide (fun j hj h => by omega)⟩
  case round =>
    obtain ⟨k, hk, rfl, HN⟩ := hrel
    by_cases hlt : k < l.length
    · have hlti : (k : Int) < (l.length : Int) := by omega
      obtain ⟨b, o, x, y, rfl, hb, hx, hy, c0, c1⟩ := hcells k hlt
      obtain ⟨yo, yc, hyy, -⟩ := readsSam_len hy
      obtain ⟨xo, xc, hxx⟩ := readsLabels_len hx
      subst hxx hyy
      obtain ⟨F, HF⟩ : ∃ F, Hid (muchB l[k] = F) := ⟨_, hide rfl⟩
      have HF1 : Hid (decide (5000 < l[k].2.length) = F) := HF
      generalize l[k].2.length = n2 at c1 HF1
      clear hx hy hcells
      cases F with
      | true =>
        have h5 : (5000 : Int) < (n2 : Int) := by have := of_decide_eq_true HF1.out; omega
        have HM : Hid (manyB l = true) := hide (by unfold manyB; rw [List.any_eq_true.2 ⟨_, List.getElem_mem hlt, HF.out⟩, Bool.or_true])
        go_wp2
        go_ret
        exact ⟨ret_bool (by rw [HM.out]), rfl⟩
      | false =>
        have h5 : ¬ (5000 : Int) < (n2 : Int) := by have := of_decide_eq_false HF1.out; omega
        go_wp2
        go_round
        case rel => exact ⟨k + 1, by omega, by go_num, hide (fun j hj h => by
          by_cases e : j = k
          · subst e; exact HF.out
          · exact HN.out j hj (by omega))⟩
        case measure => simp [intOf]; omega
    · obtain rfl : k = l.length := by omega
      have HA : Hid (l.any muchB = false) := hide (by
        rw [List.any_eq_false]
        intro x hx
        obtain ⟨i, hi, rfl⟩ := List.getElem_of_mem hx
        simpa using HN.out i hi hi)
      by_cases h5 : 500 < l.length
      · have h5i : (500 : Int) < (l.length : Int) := by omega
        have HM : Hid (manyB l = true) := hide (by unfold manyB; rw [decide_eq_true h5]; rfl)
        go_wp2
        go_ret
        exact ⟨ret_bool (by rw [HM.out]), rfl⟩
      · have h5i : ¬ (500 : Int) < (l.length : Int) := by omega
        have HM : Hid (manyB l = false) := hide (by unfold manyB; rw [decide_eq_false h5, HA.out]; rfl)
        go_wp2
        go_ret
        exact ⟨ret_bool (by rw [HM.out]), rfl⟩
theorem serErr_three {x : Ser} (h0 : checkB x.1 = 0) (h : x.2.length = 0 ∨ ∃ p ∈ x.2, timeB p.1 = false) : serErr x = 3 := by
  unfold serErr
  rw [if_neg (by omega), if_pos]
  rcases h with h | ⟨p, hp, ht⟩
  · exact .inl h
  · exact .inr (List.any_eq_true.2 ⟨p, hp, by rw [ht]; rfl⟩)
theorem serErr_rise {x : Ser} (h0 : checkB x.1 = 0) (h1 : x.2.length ≠ 0) (h2 : ∀ p ∈ x.2, timeB p.1 = true) : serErr x = if riseT x.2 = true then 0 else 4 := by
  unfold serErr
  rw [if_neg (by omega), if_neg]
  rintro (h | h)
  · exact h1 h
  · obtain ⟨p, hp, ht⟩ := List.any_eq_true.1 h
    rw [h2 p hp] at ht
    cases ht
set_option maxRecDepth 20000 in
set_option maxHeartbeats 4000000 in
theorem rStore_any (w : World) (v : Value) (l : List Ser) (hv : readsSer w w.heap.size v l) (hok : okStore l) :
    Calls Tryz.prog 10 #[v] w fun e w' => e = .returned (.int .i64 (storeErr l)) ∧ Grow w w' := by
  obtain ⟨E, HE⟩ : ∃ E, Hid (storeErr l = E) := ⟨_, hide rfl⟩
  rw [HE.out]
  have HE1 : Hid ((if manyB l = true then 2 else if firstE serErr l ≠ 0 then firstE serErr l else if riseS l = true then 0 else 4) = E) := HE
  clear HE
  obtain ⟨hl, hx⟩ := hok
  have HX := hide hx
  have HTM := hide (rGreat_any w v l hv hl)
  obtain ⟨M, HM⟩ : ∃ M, Hid (manyB l = M) := ⟨_, hide rfl⟩
  rw [HM.out] at HTM HE1
  obtain ⟨ao, cp, hvv, -, hcells⟩ := id hv
  subst hvv
  have HV := hide hv
  clear hv hx
  go_enter Tryz.func10, Tryz.ntmps10
  go_wp2_with fail
  refine HTM.out.mono ?_
  rintro e w1 ⟨rfl, rfl⟩
  clear HTM
  cases M with
  | true =>
    rw [if_pos rfl] at HE1
    go_wp2
    go_ret
    exact ⟨ret_int (by rw [← HE1.out]; rfl), Grow.refl _⟩
  | false =>
    rw [if_neg (by simp)] at HE1
    have hl5 : l.length ≤ 500 := by
      have := HM.out
      unfold manyB at this
      simp only [Bool.or_eq_false_iff, decide_eq_false_iff_not] at this
      omega
    go_wp2
    go_loopw [3] (fun iv wr => ∃ k : Nat, k ≤ l.length ∧ iv = .int .i64 k ∧ Hid (Grow w1 wr) ∧ Hid (∀ j (hj : j < l.length), j < k → serErr l[j] = 0)) (fun iv _ => l.length - (intOf iv).toNat)
    case atStart => exact ⟨0, by omega, rfl, hide (Grow.refl _), hide (fun j hj h => by omega)⟩
    case round =>
      obtain ⟨k, hkk, rfl, HGr, HD⟩ := hrel
      by_cases hlt : k < l.length
      · have hlti : (k : Int) < (l.length : Int) := by omega
        obtain ⟨rb, rf, xa, ya, rfl, hrB, ha, hs, a0, a1⟩ := hcells k hlt
        have c0 := (HGr.out.cell (p := ⟨rb, rf + k * 2, none⟩) hrB).trans a0
        have c1 := (HGr.out.cell (p := ⟨rb, rf + k * 2 + 1, none⟩) hrB).trans a1
        have HA1 := hide a1
        have hokx := HX.out _ (List.getElem_mem hlt)
        have HEK : Hid (serErr l[k] ≠ 0 → serErr l[k] = E) := hide fun hne => by
          have h1 := firstE_at (f := serErr) hlt HD.out hne
          rw [← HE1.out, h1, if_pos hne]
        have HXE : Hid (∀ P, serErr l[k] = P → P = 0 → ∀ j (hj : j < l.length), j < k + 1 → serErr l[j] = 0) := hide fun P h1 h2 j hj hjk => by
          by_cases e : j = k
          · subst e; rw [h1, h2]
          · exact HD.out j hj (by omega)
        obtain ⟨x, HXK⟩ : ∃ x : Ser, Hid (l[k] = x) := ⟨_, hide rfl⟩
        rw [HXK.out] at ha hs hokx HEK HXE
        obtain ⟨xo, xc, hxa⟩ := readsLabels_len ha
        obtain ⟨yo, yc, hya, -⟩ := readsSam_len hs
        have HCL := hide (rCheckLabels_any wr xa x.1 (readsLabels_mono (readsLabels_below ha HGr.out) HGr.out.size) hokx.1.1 hokx.1.2)
        obtain ⟨C, HC⟩ : ∃ C, Hid (checkB x.1 = C) := ⟨_, hide rfl⟩
        rw [HC.out] at HCL
        obtain ⟨m, HM2⟩ : ∃ m, Hid (x.2.length = m) := ⟨_, hide rfl⟩
        have hm7 : m ≤ 9223372036854775807 := by rw [← HM2.out]; exact hokx.2.1
        rw [HM2.out] at hya
        have HS := hide hs
        subst hxa hya
        generalize x.1.length = n1 at *
        clear ha hs a0 a1 hokx
        go_wp2_with fail
        refine HCL.out.mono ?_
        rintro e w3 ⟨rfl, q, hq⟩
        have HG3 : Hid (Grow w1 w3) := hide (HGr.out.trans (by rw [hq]; exact grow_drew _ _))
        clear hq HCL c0 c1
        have c1 := (HG3.out.cell (p := ⟨rb, rf + k * 2 + 1, none⟩) hrB).trans HA1.out
        by_cases hC : C = 0
        · have hz : ((C : Int) != 0) = false := by simp [hC]
          have HC0 : Hid (checkB x.1 = 0) := hide (HC.out.trans hC)
          clear hC
          by_cases hm0 : m = 0
          · have hm1 : ((m : Int) == 0) = true := by simp [hm0]
            have hE := serErr_three HC0.out (.inl (HM2.out.trans hm0))
            have HE3 := hide (HEK.out (by rw [hE]; decide))
            rw [hE] at HE3
            clear hE hm0
            go_wp2
            go_ret
            exact ⟨ret_int (by rw [← HE3.out]; rfl), HG3.out⟩
          · have hm1 : ((m : Int) == 0) = false := by rw [beq_eq_false_iff_ne]; omega
            go_wp2
            go_loopw [5] (fun jv wr => ∃ j : Nat, j ≤ m ∧ jv = .int .i64 j ∧ Hid (Grow w1 wr) ∧ Hid (∀ i (hi : i < x.2.length), i < j → timeB x.2[i].1 = true)) (fun jv _ => m - (intOf jv).toNat)
            case atStart => exact ⟨0, by omega, rfl, HG3, hide (fun i hi h => by omega)⟩
            case round =>
              clear c1
              obtain ⟨j, hjm, rfl, HGq, HT⟩ := hrel
              have c1 := (HGq.out.cell (p := ⟨rb, rf + k * 2 + 1, none⟩) hrB).trans HA1.out
              by_cases hj : j < m
              · have hji : (j : Int) < (m : Int) := by omega
                have hjx : j < x.2.length := by rw [HM2.out]; exact hj
                obtain ⟨sb, sf, hyo, d0⟩ : ∃ b' o, yo = some ⟨b', o, none⟩ ∧ wr.cell? ⟨b', o + j * 2, none⟩ = some (.int .i64 (x.2[j]'hjx).1) := by
                  obtain ⟨ao', cp', e, _, h⟩ := HS.out.keep HGq.out
                  cases e
                  obtain ⟨b', o, e, hB, q, _⟩ := h j hjx
                  exact ⟨b', o, e, q⟩
                subst hyo
                obtain ⟨t, HTT⟩ : ∃ t, Hid ((x.2[j]'hjx).1 = t) := ⟨_, hide rfl⟩
                have HIT := hide (rIsTime_any t wr)
                rw [HTT.out] at d0
                obtain ⟨B, HB⟩ : ∃ B, Hid (timeB t = B) := ⟨_, hide rfl⟩
                rw [HB.out] at HIT
                have HTB : Hid (timeB (x.2[j]'hjx).1 = B) := hide (by rw [HTT.out]; exact HB.out)
                cases B with
                | true =>
                  go_wp2_with fail
                  refine HIT.out.mono ?_
                  rintro e w4 ⟨rfl, rfl⟩
                  go_wp2
                  go_roundw
                  case rel => exact ⟨j + 1, by omega, by go_num, HGq, hide (fun i hi hij => by
                    by_cases e : i = j
                    · subst e; exact HTB.out
                    · exact HT.out i hi (by omega))⟩
                  case measure => simp [intOf]; omega
                | false =>
                  have hE := serErr_three HC0.out (.inr ⟨_, List.getElem_mem _, HTB.out⟩)
                  have HE3 := hide (HEK.out (by rw [hE]; decide))
                  rw [hE] at HE3
                  clear hE
                  go_wp2_with fail
                  refine HIT.out.mono ?_
                  rintro e w4 ⟨rfl, rfl⟩
                  go_wp2
                  go_ret
                  exact ⟨ret_int (by rw [← HE3.out]; rfl), HGq.out⟩
              · obtain rfl : j = m := by omega
                have HR : Hid (serErr x = if riseT x.2 = true then 0 else 4) := hide (serErr_rise HC0.out (by rw [HM2.out]; exact hm0) fun p hp => by
                  obtain ⟨i, hi, rfl⟩ := List.getElem_of_mem hp
                  exact HT.out i hi (by rw [← HM2.out]; exact hi))
                clear HT
                go_wp2
                go_loopw [6] (fun jv wr => ∃ i : Nat, 1 ≤ i ∧ i ≤ j + 1 ∧ jv = .int .i64 i ∧ Hid (Grow w1 wr) ∧ Hid (∀ q (hq : q < x.2.length), q < i → laterB (x.2.take q) x.2[q].1 = true)) (fun jv _ => j + 1 - (intOf jv).toNat)
                case atStart => exact ⟨1, by omega, by omega, rfl, HGq, hide (fun q hq h => by
                  obtain rfl : q = 0 := by omega
                  simp [laterB])⟩
                case round =>
                  clear c1
                  obtain ⟨i, hi1, hij, rfl, HGi, HL⟩ := hrel
                  have c1 := (HGi.out.cell (p := ⟨rb, rf + k * 2 + 1, none⟩) hrB).trans HA1.out
                  by_cases hi : i < j
                  · have hii : (i : Int) < (j : Int) := by omega
                    have hix : i < x.2.length := by rw [HM2.out]; exact hi
                    obtain ⟨sb, sf, hyo, d0, d1⟩ : ∃ b' o, yo = some ⟨b', o, none⟩ ∧ wr.cell? ⟨b', o + i * 2, none⟩ = some (.int .i64 (x.2[i]'hix).1) ∧ wr.cell? ⟨b', o + (i - 1) * 2, none⟩ = some (.int .i64 (x.2[i - 1]'(by omega)).1) := by
                      obtain ⟨ao', cp', e, _, h⟩ := HS.out.keep HGi.out
                      cases e
                      obtain ⟨b', o, e, hB, q, _⟩ := h i hix
                      obtain ⟨b2, o2, e2, hB, q2, _⟩ := h (i - 1) (by omega)
                      rw [e] at e2
                      cases e2
                      exact ⟨b', o, e, q, q2⟩
                    subst hyo
                    obtain ⟨t, HTT⟩ : ∃ t, Hid ((x.2[i]'hix).1 = t) := ⟨_, hide rfl⟩
                    obtain ⟨t0, HT0⟩ : ∃ t, Hid ((x.2[i - 1]'(by omega)).1 = t) := ⟨_, hide rfl⟩
                    rw [HTT.out] at d0
                    rw [HT0.out] at d1
                    have HLA : Hid (laterB (x.2.take i) (x.2[i]'hix).1 = decide (t0 < t)) := hide (by
                      rw [later_take hix, if_neg (by omega), HTT.out, HT0.out])
                    have hk1 : (1 : Int) ≤ (i : Int) := by omega
                    have hk3 : ((i : Int) - 1) < (j : Int) := by omega
                    have hk4 : (0 : Int) ≤ (i : Int) - 1 := by omega
                    have hk5 : ((i : Int) - 1).toNat = i - 1 := by omega
                    cases hB : decide (t ≤ t0) with
                    | true =>
                      have hle := of_decide_eq_true hB
                      have hno : riseT x.2 = false := riseT_no hix (by rw [HLA.out]; exact decide_eq_false (by omega))
                      rw [hno, if_neg (by simp)] at HR
                      have HE3 := hide (HEK.out (by rw [HR.out]; decide))
                      rw [HR.out] at HE3
                      clear hno hle
                      go_wp2
                      go_quiet (fail)
                      go_wp2
                      go_ret
                      exact ⟨ret_int (by rw [← HE3.out]; rfl), HGi.out.trans (grow_drew _ _)⟩
                    | false =>
                      have hle := of_decide_eq_false hB
                      have HLT : Hid (laterB (x.2.take i) (x.2[i]'hix).1 = true) := hide (by rw [HLA.out]; exact decide_eq_true (by omega))
                      clear hle
                      go_wp2
                      go_quiet (fail)
                      go_wp2
                      go_roundw
                      case rel => exact ⟨i + 1, by omega, by omega, by go_num, hide (HGi.out.trans (grow_drew _ _)), hide (fun q hq hqi => by
                        by_cases e : q = i
                        · subst e; exact HLT.out
                        · exact HL.out q hq (by omega))⟩
                      case measure => simp [intOf]; omega
                  · have HS0 : Hid (serErr x = 0) := hide (by
                      rw [HR.out, if_pos]
                      exact riseT_yes fun q hq => HL.out q hq (by have := HM2.out; omega))
                    go_wp2
                    go_roundw
                    case rel => exact ⟨k + 1, by omega, by go_num, HGi, hide (HXE.out _ HS0.out rfl)⟩
                    case measure => simp [intOf]; omega
        · have hz : ((C : Int) != 0) = true := by simp; exact hC
          have hE : serErr x = C := by unfold serErr; rw [if_pos (by rw [HC.out]; exact hC), HC.out]
          have HE3 := hide (HEK.out (by rw [hE]; exact hC))
          rw [hE] at HE3
          clear hE hC
          go_wp2
          go_ret
          exact ⟨ret_int (by rw [← HE3.out]), HG3.out⟩
      · obtain rfl : k = l.length := by omega
        have h0 : ∀ j (hj : j < l.length), serErr l[j] = 0 := fun j hj => HD.out j hj hj
        rw [if_neg (by have := firstE_zero (f := serErr) h0; omega)] at HE1
        have HLR : Hid (∀ i (hi : i < l.length), checkB l[i].1 = 0) := hide fun i hi => (serErr_labels (h0 i hi)).1
        clear h0
        go_wp2
        go_loopw [7] (fun jv wr => ∃ i : Nat, 1 ≤ i ∧ i ≤ l.length + 1 ∧ jv = .int .i64 i ∧ Hid (Grow w1 wr) ∧ Hid (∀ j (hj : j + 1 < l.length), j + 1 < i → ordB l[j].1 l[j + 1].1 < 0)) (fun jv _ => l.length + 1 - (intOf jv).toNat)
        case atStart => exact ⟨1, by omega, by omega, rfl, HGr, hide (fun j hj h => by omega)⟩
        case round =>
          obtain ⟨i, hi1, hil, rfl, HGi, HO⟩ := hrel
          by_cases hi : i < l.length
          · have hii : (i : Int) < (l.length : Int) := by omega
            obtain ⟨rb, rf, xa, ya, rfl, hrB, ha, -, a0, -⟩ := hcells (i - 1) (by omega)
            obtain ⟨rb', rf', xb, yb, e, _, hb, -, b0, -⟩ := hcells i hi
            cases e
            have c0 := (HGi.out.cell (p := ⟨rb, rf + (i - 1) * 2, none⟩) hrB).trans a0
            have c1 := (HGi.out.cell (p := ⟨rb, rf + i * 2, none⟩) hrB).trans b0
            have HA := hide ha
            have HB := hide hb
            obtain ⟨O, HOO⟩ : ∃ O, Hid (ordB (l[i - 1]'(by omega)).1 l[i].1 = O) := ⟨_, hide rfl⟩
            have HRO : Hid (∀ q, Calls Tryz.prog 27 #[xa, xb] (wr.drewN q) fun e w' => e = .returned (.int .i64 O) ∧ ∃ n, w' = (wr.drewN q).drewN n) := hide fun q => by
              have gw : Grow w1 (wr.drewN q) := HGi.out.trans (grow_drew _ _)
              have := rOrder_any (wr.drewN q) xa xb _ _ (readsLabels_mono (readsLabels_below HA.out gw) gw.size) (readsLabels_mono (readsLabels_below HB.out gw) gw.size) (right_lens (HLR.out (i - 1) (by omega))).1 (right_lens (HLR.out i hi)).1
              rw [HOO.out] at this
              exact this
            obtain ⟨xo, xc, hxa⟩ := readsLabels_len ha
            obtain ⟨yo, yc, hxb⟩ := readsLabels_len hb
            generalize (l[i - 1]'(by omega)).1.length = n1 at hxa
            generalize l[i].1.length = n2 at hxb
            subst hxa hxb
            have hk1 : (1 : Int) ≤ (i : Int) := by omega
            have hk3 : ((i : Int) - 1) < (l.length : Int) := by omega
            have hk4 : (0 : Int) ≤ (i : Int) - 1 := by omega
            have hk5 : ((i : Int) - 1).toNat = i - 1 := by omega
            clear ha hb a0 b0 hcells
            cases hF : decide (0 ≤ O) with
            | true =>
              have h0 := of_decide_eq_true hF
              have hfalse : riseS l = false := by
                refine riseS_no (j := i - 1) (by omega) ?_
                have e : l[i - 1 + 1]'(by omega) = l[i] := by congr 1; omega
                simp only [e]
                rw [HOO.out]
                omega
              rw [hfalse, if_neg (by simp)] at HE1
              clear h0 hfalse
              go_wp2
              go_quiet ((go_at_call 27; exact Calls.quiet_of (HRO.out _)))
              go_wp2
              go_ret
              exact ⟨ret_int (by rw [← HE1.out]; rfl), HGi.out.trans (grow_drew _ _)⟩
            | false =>
              have h0 := of_decide_eq_false hF
              have H0 : Hid (O < 0) := hide (by omega)
              clear h0
              go_wp2
              go_quiet ((go_at_call 27; exact Calls.quiet_of (HRO.out _)))
              go_wp2
              go_roundw
              case rel => exact ⟨i + 1, by omega, by omega, by go_num, hide (HGi.out.trans (grow_drew _ _)), hide (fun j hj hji => by
                by_cases e : j + 1 = i
                · subst e
                  have := HOO.out
                  simp only [Nat.add_sub_cancel] at this
                  rw [this]
                  exact H0.out
                · exact HO.out j hj (by omega))⟩
              case measure => simp [intOf]; omega
          · have hyes : riseS l = true := riseS_yes fun j hj => HO.out j hj (by omega)
            rw [if_pos hyes] at HE1
            clear hyes
            go_wp2
            go_ret
            exact ⟨ret_int (by rw [← HE1.out]; rfl), HGi.out⟩
end Go.Proofs.YtmdakfmecfcbhaaGreat.Tk
