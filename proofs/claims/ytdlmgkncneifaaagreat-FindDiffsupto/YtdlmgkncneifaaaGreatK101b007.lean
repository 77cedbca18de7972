/- 4 texts in one. -/
import Derived.Laws.OwnMore
import Derived.Test.YtdlmgkncneifaaaGreatProg
import Derived.Test.YtdlmgkncneifaaaGreatK77c7527
import Derived.Test.YtdlmgkncneifaaaGreatKa9a7a6f
import Derived.Test.YtdlmgkncneifaaaGreatK261a29d
import Derived.Test.YtdlmgkncneifaaaGreatK037941d
import Derived.Test.YtdlmgkncneifaaaGreatK092cbfe
import Derived.BigQuiet
import Derived.Test.YtdlmgkncneifaaaGreatK53a69b0
set_option linter.unusedVariables false
set_option linter.unusedSimpArgs false
namespace Go.Proofs.YtdlmgkncneifaaaGreat.Fd
open Go.RowKit Lb
attribute [local go_sem] bs_size bs_toList bs_append bs_get bs_extract
/-- A target is its labels. -/
abbrev Tgt := List Lab
def readsTgts (w : World) (B : Nat) (v : Value) (l : List Tgt) : Prop :=
  ∃ ao cp, v = .slice ao l.length cp ∧ l.length ≤ cp ∧ ∀ i (h : i < l.length), ∃ b o x, ao = some ⟨b, o, none⟩ ∧ b < B ∧ readsLabels w B x l[i] ∧ w.cell? ⟨b, o + i, none⟩ = some x
theorem readsTgts.keep {w w' : World} {B : Nat} {v : Value} {l : List Tgt} (h : readsTgts w B v l) (g : Below B w w') : readsTgts w' B v l := by
  obtain ⟨ao, cp, hv, hc, h⟩ := h
  refine ⟨ao, cp, hv, hc, fun i hi => ?_⟩
  obtain ⟨b, o, x, e, hb, hx, c0⟩ := h i hi
  exact ⟨b, o, x, e, hb, readsLabels_below hx g, (g.cell (p := ⟨b, _, none⟩) hb).trans c0⟩
theorem readsTgts.more {w : World} {B B' : Nat} {v : Value} {l : List Tgt} (h : readsTgts w B v l) (hB : B ≤ B') : readsTgts w B' v l := by
  obtain ⟨ao, cp, hv, hc, h⟩ := h
  refine ⟨ao, cp, hv, hc, fun i hi => ?_⟩
  obtain ⟨b, o, x, e, hb, hx, c0⟩ := h i hi
  exact ⟨b, o, x, e, Nat.lt_of_lt_of_le hb hB, readsLabels_mono hx hB, c0⟩
theorem readsTgts.shape {w : World} {B : Nat} {v : Value} {l : List Tgt} (h : readsTgts w B v l) : ∃ ao cp, v = .slice ao l.length cp := by
  obtain ⟨ao, cp, e, _⟩ := h
  exact ⟨ao, cp, e⟩
def okTgt (x : Tgt) : Prop := x.length ≤ 9223372036854775807 ∧ lensOk x
def okTgts (l : List Tgt) : Prop := l.length ≤ 9223372036854775807 ∧ ∀ x ∈ l, okTgt x
theorem grow_drewF (w : World) (n : Nat) : Grow w (w.drewN n) := ⟨rfl, rfl, rfl, Nat.le_refl _, fun _ _ => rfl⟩
theorem lens_right {a : List Lab} (h : checkB a = 0) : a.length ≤ 20 ∧ lensOk a := by
  obtain ⟨h1, h2⟩ := eachErr_names (checkB_zero.1 h).1
  exact ⟨h1, fun x hx => by have := h2 x hx; omega⟩
theorem laid1 (w : World) (c : Array Value) (t : TypeId) : ∃ W : World, w.alloc (.cells c t) = W ∧ Grow w W ∧ W.heap[w.heap.size]? = some (.cells c t (0, 0)) := ⟨_, rfl, (Grow.refl _).alloc _, heap_alloc_new _ _⟩
theorem cell_one {w : World} {b : Nat} {x : Value} {t : TypeId} (h : w.heap[b]? = some (.cells #[x] t (0, 0))) : w.cell? ⟨b, 0, none⟩ = some x := by simp [World.cell?, h]
set_option maxRecDepth 20000 in
set_option maxHeartbeats 1000000 in
/-- Targets that are right, compared. -/
theorem fcmp_any (w : World) (va vb : Value) (a b : Tgt) (ha : readsLabels w w.heap.size va a) (hb : readsLabels w w.heap.size vb b) (hca : checkB a = 0) (hcb : checkB b = 0) :
    Calls Tryz.prog 50 #[.agg #[va], .agg #[vb]] w fun e w' => e = .returned (.int .i64 (ordB a b)) ∧ Grow w w' := by
  obtain ⟨la, ia⟩ := lens_right hca
  obtain ⟨lb, ib⟩ := lens_right hcb
  obtain ⟨V1, e1, g1, b1⟩ := laid1 w #[va] 36
  obtain ⟨V2, e2, g2, b2⟩ := laid1 V1 #[vb] 36
  have g12 : Grow w V2 := g1.trans g2
  have HC := compare_any V2 va vb a b (readsLabels_mono (readsLabels_below ha g12) g12.size) (by omega) ia (readsLabels_mono (readsLabels_below hb g12) g12.size) (by omega) ib
  have e0 : cmpErr a b = 0 := by unfold cmpErr; rw [if_pos hca]; exact hcb
  unfold cmpAns at HC
  rw [if_pos e0, e0] at HC
  obtain ⟨ao, ac, rfl⟩ := readsLabels_len ha
  obtain ⟨bo, bc, rfl⟩ := readsLabels_len hb
  replace HC := hide HC
  generalize ordB a b = o at HC ⊢
  have c1 := cell_one (g2.get b1)
  have c2 := cell_one b2
  have HG := hide g12
  clear ha hb ia ib e0 b1 b2 g1 g2 g12
  go_enter Tryz.func50, Tryz.ntmps50
  go_wp2_with fail
  refine HC.out.mono ?_
  rintro e w2 ⟨rfl, hg⟩
  have HG2 : Hid (Grow w w2) := hide (HG.out.trans hg)
  clear hg HC
  go_wp2
  go_ret
  exact ⟨rfl, HG2.out⟩
/-- The first target that is not right. -/
def firstT : List Tgt → Nat
  | [] => 0
  | x :: l => if checkB x = 0 then firstT l else checkB x
theorem firstT_zero {l : List Tgt} (h : ∀ j (hj : j < l.length), checkB l[j] = 0) : firstT l = 0 := by
  induction l with
  | nil => rfl
  | cons x l ih =>
    rw [firstT, if_pos (show checkB x = 0 from h 0 (by simp))]
    exact ih fun j hj => h (j + 1) (by simpa using hj)
theorem firstT_at {l : List Tgt} {k : Nat} (hk : k < l.length) (h : ∀ j (hj : j < l.length), j < k → checkB l[j] = 0) (hn : checkB l[k] ≠ 0) : firstT l = checkB l[k] := by
  induction l generalizing k with
  | nil => simp at hk
  | cons x l ih =>
    cases k with
    | zero => rw [firstT, if_neg (show ¬ checkB x = 0 from hn)]; rfl
    | succ k =>
      rw [firstT, if_pos (show checkB x = 0 from h 0 (by simp) (by omega))]
      exact ih (by simpa using hk) (fun j hj hjk => h (j + 1) (by simpa using hj) (by omega)) hn
/-- The first fault of some lists. -/
def firstLL : List (List Tgt) → Nat
  | [] => 0
  | x :: l => if firstT x = 0 then firstLL l else firstT x
theorem firstLL_zero {l : List (List Tgt)} (h : ∀ j (hj : j < l.length), firstT l[j] = 0) : firstLL l = 0 := by
  induction l with
  | nil => rfl
  | cons x l ih =>
    rw [firstLL, if_pos (show firstT x = 0 from h 0 (by simp))]
    exact ih fun j hj => h (j + 1) (by simpa using hj)
theorem firstLL_at {l : List (List Tgt)} {k : Nat} (hk : k < l.length) (h : ∀ j (hj : j < l.length), j < k → firstT l[j] = 0) (hn : firstT l[k] ≠ 0) : firstLL l = firstT l[k] := by
  induction l generalizing k with
  | nil => simp at hk
  | cons x l ih =>
    cases k with
    | zero => rw [firstLL, if_neg (show ¬ firstT x = 0 from hn)]; rfl
    | succ k =>
      rw [firstLL, if_pos (show firstT x = 0 from h 0 (by simp) (by omega))]
      exact ih (by simpa using hk) (fun j hj hjk => h (j + 1) (by simpa using hj) (by omega)) hn
def manyLL (l : List (List Tgt)) : Bool := l.any fun x => decide (100 < x.length)
/-- What checkLists answers. -/
def listsErr (l : List (List Tgt)) : Nat := if manyLL l = true then 2 else firstLL l
theorem many_yes {l : List (List Tgt)} {k : Nat} (hk : k < l.length) (h : 100 < l[k].length) : listsErr l = 2 := by
  unfold listsErr
  have hm : manyLL l = true := List.any_eq_true.2 ⟨_, List.getElem_mem hk, by simpa using h⟩
  rw [if_pos hm]
theorem many_no {l : List (List Tgt)} (h : ∀ j (hj : j < l.length), l[j].length ≤ 100) : listsErr l = firstLL l := by
  unfold listsErr
  rw [if_neg]
  intro hm
  obtain ⟨x, hx, h1⟩ := List.any_eq_true.1 hm
  obtain ⟨j, hj, rfl⟩ := List.getElem_of_mem hx
  have := h j hj
  simp at h1
  omega
def readsLists (w : World) (B : Nat) (v : Value) (l : List (List Tgt)) : Prop :=
  ∃ b cp, v = .slice (some ⟨b, 0, none⟩) l.length cp ∧ b < B ∧ ∀ i (h : i < l.length), ∃ x, w.cell? ⟨b, i, none⟩ = some x ∧ readsTgts w B x l[i]
set_option maxRecDepth 20000 in
set_option maxHeartbeats 1000000 in
theorem checkLists_any (w : World) (v : Value) (l : List (List Tgt)) (hv : readsLists w w.heap.size v l) (hl : l.length ≤ 1000) (hok : ∀ x ∈ l, okTgts x) :
    Calls Tryz.prog 29 #[v] w fun e w' => e = .returned (.int .i64 (listsErr l)) ∧ Grow w w' := by
  obtain ⟨b, cp, rfl, hb, hcells⟩ := hv
  have HOK := hide hok
  clear hok
  obtain ⟨E, HE⟩ : ∃ E, Hid (listsErr l = E) := ⟨_, hide rfl⟩
  rw [HE.out]
  go_enter Tryz.func29, Tryz.ntmps29
  go_wp2
  go_loopw [12] (fun iv wr => ∃ i : Nat, i ≤ l.length ∧ iv = .int .i64 i ∧ Hid (∀ j (hj : j < l.length), j < i → l[j].length ≤ 100) ∧ Hid (Grow w wr)) (fun iv _ => l.length - (intOf iv).toNat)
  case atStart => exact ⟨0, by omega, rfl, hide (fun j hj h => by omega), hide (Grow.refl _)⟩
  case round =>
    obtain ⟨i, hi, rfl, HD, HGr⟩ := hrel
    by_cases hlt : i < l.length
    · have hlti : (i : Int) < (l.length : Int) := by omega
      obtain ⟨x, a0, hx⟩ := hcells i hlt
      have c0 := (HGr.out.cell (p := ⟨b, i, none⟩) hb).trans a0
      obtain ⟨xo, xc, hxv⟩ := hx.shape
      have hxl := (HOK.out _ (List.getElem_mem hlt)).1
      obtain ⟨n, hn⟩ : ∃ n, l[i].length = n := ⟨_, rfl⟩
      rw [hn] at hxv hxl
      have HN := hide hn
      subst hxv
      clear a0 hx hn hcells
      by_cases hm : 100 < n
      · have hmi : decide ((100 : Int) < (n : Int)) = true := decide_eq_true (by omega)
        have hE := HE.out
        rw [many_yes hlt (by rw [HN.out]; exact hm)] at hE
        subst hE
        clear hm
        go_wp2
        go_ret
        exact ⟨rfl, HGr.out⟩
      · have hmi : decide ((100 : Int) < (n : Int)) = false := decide_eq_false (by omega)
        have hn100 : n ≤ 100 := by omega
        clear hm
        go_wp2
        go_roundw
        case rel => exact ⟨i + 1, by omega, by go_num, hide (fun j hj hji => by
          by_cases e : j = i
          · subst e; rw [HN.out]; exact hn100
          · exact HD.out j hj (by omega)), HGr⟩
        case measure => simp [intOf]; omega
    · obtain rfl : i = l.length := by omega
      have hnl : ¬ ((l.length : Int) < (l.length : Int)) := by omega
      have HF : Hid (firstLL l = E) := hide (by rw [← HE.out, many_no (fun j hj => HD.out j hj hj)])
      go_wp2
      go_loopw [22] (fun iv wr' => ∃ i : Nat, i ≤ l.length ∧ iv = .int .i64 i ∧ Hid (∀ j (hj : j < l.length), j < i → firstT l[j] = 0) ∧ Hid (Grow w wr')) (fun iv _ => l.length - (intOf iv).toNat)
      case atStart => exact ⟨0, by omega, rfl, hide (fun j hj h => by omega), HGr⟩
      case round =>
        obtain ⟨i, hi, rfl, HD2, HGi⟩ := hrel
        by_cases hlt : i < l.length
        · have hlti : (i : Int) < (l.length : Int) := by omega
          obtain ⟨x, a0, hx⟩ := hcells i hlt
          have c0 := (HGi.out.cell (p := ⟨b, i, none⟩) hb).trans a0
          obtain ⟨xo, xc, hxv, _, hxcells⟩ := hx
          have hx100 := HD.out i hlt hlt
          have HXC := hide hxcells
          have HOX := hide (HOK.out _ (List.getElem_mem hlt))
          obtain ⟨y, hy⟩ : ∃ y, l[i] = y := ⟨_, rfl⟩
          have HY := hide hy
          rw [hy] at hxv hx100 HXC HOX
          subst hxv
          clear a0 hxcells hy hcells
          go_wp2
          go_loopw [28] (fun kv wr' => ∃ k : Nat, k ≤ y.length ∧ kv = .int .i64 k ∧ Hid (∀ j (hj : j < y.length), j < k → checkB y[j] = 0) ∧ Hid (Grow w wr')) (fun kv _ => y.length - (intOf kv).toNat)
          case atStart => exact ⟨0, by omega, rfl, hide (fun j hj h => by omega), HGi⟩
          case round =>
            obtain ⟨k, hk, rfl, HD3, HGk⟩ := hrel
            by_cases hkl : k < y.length
            · have hkli : (k : Int) < (y.length : Int) := by omega
              obtain ⟨rb, rf, lv, rfl, hrB, hla, a1⟩ := HXC.out k hkl
              have c1 := (HGk.out.cell (p := ⟨rb, rf + k, none⟩) hrB).trans a1
              obtain ⟨V, eV, gV, bV⟩ := laid1 wr #[lv] 36
              have hgV : Grow w V := HGk.out.trans gV
              obtain ⟨o1, o2⟩ := HOX.out.2 _ (List.getElem_mem hkl)
              have HCK := check_any V lv y[k] (readsLabels_mono (readsLabels_below hla hgV) hgV.size) o1 o2
              obtain ⟨C, HC⟩ : ∃ C, Hid (checkB y[k] = C) := ⟨_, hide rfl⟩
              rw [HC.out] at HCK
              replace HCK := hide HCK
              obtain ⟨lo, lc, hlv⟩ := readsLabels_len hla
              subst hlv
              have d0 := cell_one bV
              have HGV := hide hgV
              clear hla a1 gV bV hgV o1 o2
              go_wp2_with fail
              refine HCK.out.mono ?_
              rintro e w3 ⟨rfl, hg3⟩
              have HG3 : Hid (Grow w w3) := hide (HGV.out.trans hg3)
              clear hg3 HCK c1 d0 eV
              by_cases hC : C = 0
              · have hzc : ((C : Int) != 0) = false := by simp [hC]
                have HC0 := hide hC
                clear hC
                go_wp2
                go_roundw
                case rel => exact ⟨k + 1, by omega, by go_num, hide (fun j hj hjk => by
                  by_cases e : j = k
                  · subst e; exact HC.out.trans HC0.out
                  · exact HD3.out j hj (by omega)), HG3⟩
                case measure => simp [intOf]; omega
              · have hzc : ((C : Int) != 0) = true := by simp; exact hC
                have hft : firstT y = C := by rw [firstT_at hkl HD3.out (by rw [HC.out]; exact hC), HC.out]
                have hE : E = C := by rw [← HF.out, firstLL_at hlt HD2.out (by rw [HY.out, hft]; exact hC), HY.out, hft]
                subst hE
                clear hC hft
                go_wp2
                go_ret
                exact ⟨rfl, HG3.out⟩
            · obtain rfl : k = y.length := by omega
              have hnk : ¬ ((y.length : Int) < (y.length : Int)) := by omega
              have hz : firstT y = 0 := firstT_zero (fun j hj => HD3.out j hj hj)
              have HZ := hide hz
              clear hz
              go_wp2
              go_roundw
              case rel => exact ⟨i + 1, by omega, by go_num, hide (fun j hj hji => by
                by_cases e : j = i
                · subst e; rw [HY.out]; exact HZ.out
                · exact HD2.out j hj (by omega)), HGk⟩
              case measure => simp [intOf]; omega
        · obtain rfl : i = l.length := by omega
          have hE : E = 0 := by rw [← HF.out]; exact firstLL_zero (fun j hj => HD2.out j hj hj)
          subst hE
          go_wp2
          go_ret
          exact ⟨rfl, HGi.out⟩
set_option maxRecDepth 20000 in
set_option maxHeartbeats 1000000 in
theorem sameTgts_any (w : World) (va vb : Value) (a b : List Tgt) (ha : readsTgts w w.heap.size va a) (hb : readsTgts w w.heap.size vb b) (la : a.length ≤ 1000000) (hal : ∀ x ∈ a, x.length ≤ 1000000) (hbl : ∀ x ∈ b, x.length ≤ 9223372036854775807) :
    Calls Tryz.prog 8 #[va, vb] w fun e w' => e = .returned (.bool (decide (a = b))) ∧ Grow w w' := by
  obtain ⟨ao, ac, rfl, _, acells⟩ := ha
  obtain ⟨bo, bc, rfl, _, bcells⟩ := hb
  have HA := hide hal
  have HB := hide hbl
  have HAC := hide acells
  have HBC := hide bcells
  clear hal hbl acells bcells
  obtain ⟨D, HD⟩ : ∃ D, Hid (decide (a = b) = D) := ⟨_, hide rfl⟩
  rw [HD.out]
  go_enter Tryz.func8, Tryz.ntmps8
  by_cases hn : a.length = b.length
  · have hne : ((a.length : Int) != (b.length : Int)) = false := by simp [hn]
    obtain ⟨n, HN⟩ : ∃ n, Hid (a.length = n) := ⟨_, hide rfl⟩
    have HN2 : Hid (b.length = n) := hide (hn.symm.trans HN.out)
    clear hn
    rw [HN.out] at la hne ⊢
    rw [HN2.out] at hne ⊢
    go_wp2
    go_loopw [5] (fun iv wr => ∃ k : Nat, k ≤ n ∧ iv = .int .i64 k ∧ Hid (∀ j (hj : j < a.length) (hj' : j < b.length), j < k → a[j] = b[j]) ∧ Hid (Grow w wr)) (fun iv _ => n - (intOf iv).toNat)
    case atStart => exact ⟨0, by omega, rfl, hide (fun j hj _ h => by omega), hide (Grow.refl _)⟩
    case round =>
      obtain ⟨k, hk, rfl, HE, HGr⟩ := hrel
      by_cases hlt : k < n
      · have hlti : (k : Int) < (n : Int) := by omega
        have hka : k < a.length := by rw [HN.out]; exact hlt
        have hkb : k < b.length := by rw [HN2.out]; exact hlt
        obtain ⟨rb, rf, xa, rfl, hrB, ra, a0⟩ := HAC.out k hka
        obtain ⟨sb, sf, xb, rfl, hsB, rb', b0⟩ := HBC.out k hkb
        have c0 := (HGr.out.cell (p := ⟨rb, rf + k, none⟩) hrB).trans a0
        have c1 := (HGr.out.cell (p := ⟨sb, sf + k, none⟩) hsB).trans b0
        obtain ⟨F, HF⟩ : ∃ F, Hid (decide (a[k] = b[k]) = F) := ⟨_, hide rfl⟩
        have HS : Hid (∀ q, Calls Tryz.prog 13 #[xa, xb] (wr.drewN q) fun e w' => e = .returned (.bool F) ∧ ∃ n, w' = (wr.drewN q).drewN n) := hide fun q => by
          have gw : Grow w (wr.drewN q) := HGr.out.trans (grow_drewF _ _)
          have := sameLabels_any (wr.drewN q) xa xb a[k] b[k] (readsLabels_mono (readsLabels_below ra gw) gw.size) (readsLabels_mono (readsLabels_below rb' gw) gw.size) (HA.out _ (List.getElem_mem hka)) (HB.out _ (List.getElem_mem hkb))
          rw [HF.out] at this
          exact this
        obtain ⟨xo, xc, hxa⟩ := readsLabels_len ra
        obtain ⟨yo, yc, hxb⟩ := readsLabels_len rb'
        generalize a[k].length = n1 at hxa
        generalize b[k].length = n2 at hxb
        subst hxa hxb
        clear ra rb' a0 b0
        cases F with
        | true =>
          have HEK : Hid (a[k] = b[k]) := hide (of_decide_eq_true HF.out)
          go_wp2
          go_quiet ((go_at_call 13; exact Calls.quiet_of (HS.out _)))
          have HGq : Hid (Grow w (wr.drewN nq)) := hide (HGr.out.trans (grow_drewF _ _))
          go_wp2
          go_roundw
          case rel => exact ⟨k + 1, by omega, by go_num, hide (fun j hj hj' hji => by
            by_cases e : j = k
            · subst e; exact HEK.out
            · exact HE.out j hj hj' (by omega)), HGq⟩
          case measure => simp [intOf]; omega
        | false =>
          have hne2 : ¬ a = b := fun e => of_decide_eq_false HF.out (by subst e; rfl)
          have hD : D = false := by rw [← HD.out]; exact decide_eq_false hne2
          subst hD
          clear hne2
          go_wp2
          go_quiet ((go_at_call 13; exact Calls.quiet_of (HS.out _)))
          have HGq : Hid (Grow w (wr.drewN nq)) := hide (HGr.out.trans (grow_drewF _ _))
          go_wp2
          go_ret
          exact ⟨rfl, HGq.out⟩
      · obtain rfl : k = n := by omega
        have hnl : ¬ ((k : Int) < (k : Int)) := by omega
        have hD : D = true := by
          rw [← HD.out]
          exact decide_eq_true (List.ext_getElem (HN.out.trans HN2.out.symm) fun j h1 h2 => HE.out j h1 h2 (by rw [← HN.out]; exact h1))
        subst hD
        go_wp2
        go_ret
        exact ⟨rfl, HGr.out⟩
  · have hne : ((a.length : Int) != (b.length : Int)) = true := by simp; omega
    have hD : D = false := by rw [← HD.out]; exact decide_eq_false (fun e => hn (by rw [e]))
    subst hD
    clear hn
    go_wp2
    go_ret
    exact ⟨rfl, Grow.refl _⟩
end Go.Proofs.YtdlmgkncneifaaaGreat.Fd
namespace Go.Proofs.YtdlmgkncneifaaaGreat.Fd
open Go.RowKit Lb
/-- What the first has alone, what both have, what the second has alone. -/
def partT : List Tgt → List Tgt → List Tgt × List Tgt × List Tgt
  | [], b => ([], [], b)
  | x :: a, [] => (x :: a, [], [])
  | x :: a, y :: b =>
    if ordB x y < 0 then (x :: (partT a (y :: b)).1, (partT a (y :: b)).2.1, (partT a (y :: b)).2.2)
    else if 0 < ordB x y then ((partT (x :: a) b).1, (partT (x :: a) b).2.1, y :: (partT (x :: a) b).2.2)
    else ((partT a b).1, x :: (partT a b).2.1, (partT a b).2.2)
  termination_by a b => a.length + b.length
theorem part_nil (a : List Tgt) : partT a [] = (a, [], []) := by
  cases a with
  | nil => rw [partT]
  | cons x a => rw [partT]
theorem part_len (a b : List Tgt) : (partT a b).1.length + (partT a b).2.1.length = a.length ∧ (partT a b).2.2.length + (partT a b).2.1.length = b.length := by
  fun_induction partT a b with
  | case1 b => simp
  | case2 x a => simp
  | case3 x a y b h ih => simp only [List.length_cons] at *; omega
  | case4 x a y b h h2 ih => simp only [List.length_cons] at *; omega
  | case5 x a y b h h2 ih => simp only [List.length_cons] at *; omega
end Go.Proofs.YtdlmgkncneifaaaGreat.Fd
namespace Go.Proofs.YtdlmgkncneifaaaGreat.Fd
open Go.RowKit Lb
attribute [local go_sem] bs_size bs_toList bs_append bs_get bs_extract
/-- Are two that stand side by side the same? -/
def sameNext (l : List Tgt) : Bool := (List.range (l.length - 1)).any fun j => decide (ordB (l.getD j []) (l.getD (j + 1) []) = 0)
theorem fwrap (x : Int) (h0 : -9223372036854775808 ≤ x) (h : x < 9223372036854775808) : IntKind.i64.wrap x = x := by
  rw [IntKind.wrap_i64]; omega
theorem getD_at {l : List Tgt} {j : Nat} (h : j < l.length) : l.getD j [] = l[j] := by simp [List.getD, h]
theorem sameNext_yes {l : List Tgt} {j : Nat} (hj : j + 1 < l.length) (h : ordB l[j] l[j + 1] = 0) : sameNext l = true := by
  unfold sameNext
  refine List.any_eq_true.2 ⟨j, List.mem_range.2 (by omega), ?_⟩
  rw [getD_at (show j < l.length by omega), getD_at hj]
  simpa using h
theorem sameNext_no {l : List Tgt} (h : ∀ j (hj : j + 1 < l.length), ordB l[j] l[j + 1] ≠ 0) : sameNext l = false := by
  unfold sameNext
  rw [List.any_eq_false]
  intro j hj
  have hj' := List.mem_range.1 hj
  rw [getD_at (show j < l.length by omega), getD_at (show j + 1 < l.length by omega)]
  have := h j (by omega)
  simpa using this
set_option maxRecDepth 20000 in
set_option maxHeartbeats 1000000 in
theorem ftwice_any (w : World) (v : Value) (l : List Tgt) (hv : readsTgts w w.heap.size v l) (hl : l.length ≤ 1000) (hc : ∀ x ∈ l, checkB x = 0) :
    Calls Tryz.prog 31 #[v] w fun e w' => e = .returned (.bool (sameNext l)) ∧ Grow w w' := by
  obtain ⟨ao, cp, rfl, _, hcells⟩ := hv
  have HC := hide hc
  have HCELLS := hide hcells
  clear hc hcells
  obtain ⟨E, HE⟩ : ∃ E, Hid (sameNext l = E) := ⟨_, hide rfl⟩
  rw [HE.out]
  go_enter Tryz.func31, Tryz.ntmps31
  go_wp2
  go_loopw [3] (fun iv wr => ∃ i : Nat, 1 ≤ i ∧ i ≤ l.length + 1 ∧ iv = .int .i64 i ∧ Hid (∀ j (hj : j + 1 < l.length), j + 1 < i → ordB l[j] l[j + 1] ≠ 0) ∧ Hid (Grow w wr)) (fun iv _ => l.length + 1 - (intOf iv).toNat)
  case atStart => exact ⟨1, by omega, by omega, rfl, hide (fun j hj h => by omega), hide (Grow.refl _)⟩
  case round =>
    obtain ⟨i, hi1, hi, rfl, HD, HGr⟩ := hrel
    by_cases hlt : i < l.length
    · have hlti : (i : Int) < (l.length : Int) := by omega
      obtain ⟨j, rfl⟩ : ∃ j, i = j + 1 := ⟨i - 1, by omega⟩
      obtain ⟨rb, rf, xa, rfl, hrB, ha, a0⟩ := HCELLS.out j (by omega)
      obtain ⟨rb', rf', xb, e, _, hb, b0⟩ := HCELLS.out (j + 1) hlt
      cases e
      have HA0 := hide a0
      have HB0 := hide b0
      obtain ⟨O, HO⟩ : ∃ O, Hid (ordB (l[j]'(by omega)) l[j + 1] = O) := ⟨_, hide rfl⟩
      have HK : Hid (∀ W, Grow wr W → Calls Tryz.prog 50 #[.agg #[xa], .agg #[xb]] W fun e w' => e = .returned (.int .i64 O) ∧ Grow W w') := hide fun W g => by
        have gw : Grow w W := HGr.out.trans g
        have := fcmp_any W xa xb _ _ (readsLabels_mono (readsLabels_below ha gw) gw.size) (readsLabels_mono (readsLabels_below hb gw) gw.size) (HC.out _ (List.getElem_mem (show j < l.length by omega))) (HC.out _ (List.getElem_mem hlt))
        rw [HO.out] at this
        exact this
      obtain ⟨xo, xc, hxa⟩ := readsLabels_len ha
      obtain ⟨yo, yc, hxb⟩ := readsLabels_len hb
      generalize (l[j]'(by omega)).length = n1 at hxa
      generalize l[j + 1].length = n2 at hxb
      subst hxa hxb
      have hk1 : ((j + 1 : Nat) : Int) - 1 = (j : Int) := by omega
      have hk2 : (j : Int) + 1 - 1 = (j : Int) := by omega
      have hk3 : (j : Int) < (l.length : Int) := by omega
      have hk4 : (j : Int) + 1 < (l.length : Int) := by omega
      have hk5 : ((j : Int) + 1).toNat = j + 1 := by omega
      have hk6 : (0 : Int) ≤ (j : Int) + 1 := by omega
      have hl1 : (l.length : Int) ≤ 1000 := by omega
      have mixed : Tryz.prog.follows .mixedOrders = true := by kernel_rfl
      clear ha hb a0 b0
      go_wp2
      refine wp_region_free 11 21 mixed rfl (by decide +kernel) Grow (fun _ _ _ => Grow.trans) (Grow.refl _)
        (fun q v w' => match q with
          | 0 => v = .slice (some ⟨rb, rf, none⟩) l.length cp
          | 1 => v = .int .i64 (j + 1 : Nat)
          | 2 => v = .int .i64 j
          | 3 => v = .pointer (some ⟨rb, rf + j, none⟩)
          | 4 => v = .agg #[.slice xo n1 xc]
          | 5 => v = .slice (some ⟨rb, rf, none⟩) l.length cp
          | 6 => v = .int .i64 (j + 1 : Nat)
          | 7 => v = .pointer (some ⟨rb, rf + (j + 1), none⟩)
          | 8 => v = .agg #[.slice yo n2 yc]
          | 9 => v = .int .i64 O
          | _ => v = .bool (O == 0))
        (fun q v w' w'' h hg => h)
        (fun _ _ => False) (fun _ _ _ _ h => h.elim) (fun q hq o ho a w4 hG hoff hdep => ?_) (fun vals w4 hG hvals => ?_)
      · have hgw : Grow wr w4 := hG.undrew
        have e0 := ((HGr.out.trans hgw).cell (p := ⟨rb, rf + j, none⟩) hrB).trans HA0.out
        have e1 := ((HGr.out.trans hgw).cell (p := ⟨rb, rf + (j + 1), none⟩) hrB).trans HB0.out
        match q, hq with
        | 0, _ =>
          obtain rfl := Option.some.inj ho
          have o0 := hoff 0 (by decide +kernel)
          simp at o0
          simp [opYields, go_sem, o0]
          exact Grow.refl _
        | 1, _ =>
          obtain rfl := Option.some.inj ho
          have o3 := hoff 3 (by decide +kernel)
          simp at o3
          simp [opYields, go_sem, o3]
          exact Grow.refl _
        | 2, _ =>
          obtain rfl := Option.some.inj ho
          have d1 := hdep 1 (by decide +kernel)
          simp [slotOf, dstOf] at d1
          simp [opYields, go_sem, d1, hk1, hk2]
          exact ⟨Grow.refl _, fwrap _ (by omega) (by omega)⟩
        | 3, _ =>
          obtain rfl := Option.some.inj ho
          have d0 := hdep 0 (by decide +kernel)
          simp [slotOf, dstOf] at d0
          have d2 := hdep 2 (by decide +kernel)
          simp [slotOf, dstOf] at d2
          simp [opYields, go_sem, d0, d2, hk3]
          exact Grow.refl _
        | 4, _ =>
          obtain rfl := Option.some.inj ho
          have d3 := hdep 3 (by decide +kernel)
          simp [slotOf, dstOf] at d3
          simp [opYields, go_sem, d3, e0]
          exact Grow.refl _
        | 5, _ =>
          obtain rfl := Option.some.inj ho
          have o0 := hoff 0 (by decide +kernel)
          simp at o0
          simp [opYields, go_sem, o0]
          exact Grow.refl _
        | 6, _ =>
          obtain rfl := Option.some.inj ho
          have o3 := hoff 3 (by decide +kernel)
          simp at o3
          simp [opYields, go_sem, o3]
          exact Grow.refl _
        | 7, _ =>
          obtain rfl := Option.some.inj ho
          have d5 := hdep 5 (by decide +kernel)
          simp [slotOf, dstOf] at d5
          have d6 := hdep 6 (by decide +kernel)
          simp [slotOf, dstOf] at d6
          simp [opYields, go_sem, d5, d6, hk4, hk5, hk6]
          exact Grow.refl _
        | 8, _ =>
          obtain rfl := Option.some.inj ho
          have d7 := hdep 7 (by decide +kernel)
          simp [slotOf, dstOf] at d7
          simp [opYields, go_sem, d7, e1]
          exact Grow.refl _
        | 9, _ =>
          obtain rfl := Option.some.inj ho
          have d4 := hdep 4 (by decide +kernel)
          simp [slotOf, dstOf] at d4
          have d8 := hdep 8 (by decide +kernel)
          simp [slotOf, dstOf] at d8
          simp [opYields, go_sem, d4, d8]
          refine (HK.out w4 hgw).mono ?_
          rintro e w5 ⟨rfl, h3⟩
          exact ⟨h3, rfl⟩
        | 10, _ =>
          obtain rfl := Option.some.inj ho
          have d9 := hdep 9 (by decide +kernel)
          simp [slotOf, dstOf] at d9
          simp [opYields, go_sem, d9]
          exact Grow.refl _
        | q + 11, h => exact absurd h (by omega)
      · have v10 := hvals 10 (by omega)
        simp only at v10
        have HG4 : Hid (Grow w w4) := hide (HGr.out.trans hG.undrew)
        by_cases hO : O = 0
        · have hE := HE.out
          rw [sameNext_yes hlt (HO.out.trans hO)] at hE
          subst hE
          have v10' : vals 10 = .bool true := by rw [v10]; simp [hO]
          clear hvals hG v10 hO
          simp [over, dstOf, Act.put, v10']
          go_wp2
          go_ret
          exact ⟨rfl, HG4.out⟩
        · have HO0 := hide hO
          have v10' : vals 10 = .bool false := by rw [v10]; simp [hO]
          clear hvals hG v10 hO
          simp [over, dstOf, Act.put, v10']
          go_wp2
          go_roundw
          case rel => exact ⟨j + 1 + 1, by omega, by omega, by go_num, hide (fun p hp hpi => by
            by_cases e : p = j
            · subst e; rw [HO.out]; exact HO0.out
            · exact HD.out p hp (by omega)), HG4⟩
          case measure => simp [intOf]; omega
    · have hnl : ¬ ((i : Int) < (l.length : Int)) := by omega
      have hE := HE.out
      rw [sameNext_no (fun j hj => HD.out j hj (by omega))] at hE
      subst hE
      go_wp2
      go_ret
      exact ⟨rfl, HGr.out⟩
end Go.Proofs.YtdlmgkncneifaaaGreat.Fd
