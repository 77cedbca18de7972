/- find: rows of targets; compare; checkLists. -/
import Derived.Laws.OwnMore
import Derived.Test.YtdlmgkncneifaaaGreatProg
import Derived.Test.YtdlmgkncneifaaaGreatKit
import Derived.Test.YtdlmgkncneifaaaGreatReg
import Derived.Test.YtdlmgkncneifaaaGreatLSpec
import Derived.Test.YtdlmgkncneifaaaGreatLRow
import Derived.Test.YtdlmgkncneifaaaGreatLTwi
import Derived.Test.YtdlmgkncneifaaaGreatLCmp
import Derived.BigQuiet
set_option linter.unusedVariables false
set_option linter.unusedSimpArgs false
namespace Go.Proofs.YtdlmgkncneifaaaGreat.Fd
open Go.RowKit Lb
attribute [local go_sem] bs_size bs_toList bs_append bs_get bs_extract

/-- A target is its labels. -/
abbrev Tgt := List Lab
def readsTgts (w : World) (B : Nat) (v : Value) (l : List Tgt) : Prop :=
  ∃ ao cp, v = .slice ao l.length cp ∧ l.length ≤ cp ∧ ∀ i (h : i < l.length), ∃ b o x, ao = some ⟨b, o, none⟩ ∧ b < B ∧ readsLabels w B x l[i] ∧ w.cell? ⟨b, o + i, none⟩ = some x
theorem readsTgts.keep {w w' : World} {B : Nat} {v : Value} {l : List Tgt} (h : readsTgts w B v l) (g : Below B w w') : readsTgts w' B v l := by
  obtain ⟨ao, cp, hv, hc, h⟩ := h
  refine ⟨ao, cp, hv, hc, fun i hi => ?_⟩
  obtain ⟨b, o, x, e, hb, hx, c0⟩ := h i hi
  exact ⟨b, o, x, e, hb, readsLabels_below hx g, (g.cell (p := ⟨b, _, none⟩) hb).trans c0⟩
theorem readsTgts.more {w : World} {B B' : Nat} {v : Value} {l : List Tgt} (h : readsTgts w B v l) (hB : B ≤ B') : readsTgts w B' v l := by
  obtain ⟨ao, cp, hv, hc, h⟩ := h
  refine ⟨ao, cp, hv, hc, fun i hi => ?_⟩
  obtain ⟨b, o, x, e, hb, hx, c0⟩ := h i hi
  exact ⟨b, o, x, e, Nat.lt_of_lt_of_le hb hB, readsLabels_mono hx hB, c0⟩
theorem readsTgts.shape {w : World} {B : Nat} {v : Value} {l : List Tgt} (h : readsTgts w B v l) : ∃ ao cp, v = .slice ao l.length cp := by
  obtain ⟨ao, cp, e, _⟩ := h
  exact ⟨ao, cp, e⟩
def okTgt (x : Tgt) : Prop := x.length ≤ 9223372036854775807 ∧ lensOk x
def okTgts (l : List Tgt) : Prop := l.length ≤ 9223372036854775807 ∧ ∀ x ∈ l, okTgt x
theorem grow_drewF (w : World) (n : Nat) : Grow w (w.drewN n) := ⟨rfl, rfl, rfl, Nat.le_refl _, fun _ _ => rfl⟩
theorem lens_right {a : List Lab} (h : checkB a = 0) : a.length ≤ 20 ∧ lensOk a := by
  obtain ⟨h1, h2⟩ := eachErr_names (checkB_zero.1 h).1
  exact ⟨h1, fun x hx => by have := h2 x hx; omega⟩
theorem laid1 (w : World) (c : Array Value) (t : TypeId) : ∃ W : World, w.alloc (.cells c t) = W ∧ Grow w W ∧ W.heap[w.heap.size]? = some (.cells c t (0, 0)) := ⟨_, rfl, (Grow.refl _).alloc _, heap_alloc_new _ _⟩
theorem cell_one {w : World} {b : Nat} {x : Value} {t : TypeId} (h : w.heap[b]? = some (.cells #[x] t (0, 0))) : w.cell? ⟨b, 0, none⟩ = some x := by simp [World.cell?, h]
set_option maxRecDepth 20000 in
set_option maxHeartbeats 1000000 in
/-- Targets that are right, compared. -/
theorem fcmp_any (w : World) (va vb : Value) (a b : Tgt) (ha : readsLabels w w.heap.size va a) (hb : readsLabels w w.heap.size vb b) (hca : checkB a = 0) (hcb : checkB b = 0) :
    Calls Tryz.prog 50 #[.agg #[va], .agg #[vb]] w fun e w' => e = .returned (.int .i64 (ordB a b)) ∧ Grow w w' := by
  obtain ⟨la, ia⟩ := lens_right hca
  obtain ⟨lb, ib⟩ := lens_right hcb
  obtain ⟨V1, e1, g1, b1⟩ := laid1 w #[va] 36
  obtain ⟨V2, e2, g2, b2⟩ := laid1 V1 #[vb] 36
  have g12 : Grow w V2 := g1.trans g2
  have HC := compare_any V2 va vb a b (readsLabels_mono (readsLabels_below ha g12) g12.size) (by omega) ia (readsLabels_mono (readsLabels_below hb g12) g12.size) (by omega) ib
  have e0 : cmpErr a b = 0 := by unfold cmpErr; rw [if_pos hca]; exact hcb
  unfold cmpAns at HC
  rw [if_pos e0, e0] at HC
  obtain ⟨ao, ac, rfl⟩ := readsLabels_len ha
  obtain ⟨bo, bc, rfl⟩ := readsLabels_len hb
  replace HC := hide HC
  generalize ordB a b = o at HC ⊢
  have c1 := cell_one (g2.get b1)
  have c2 := cell_one b2
  have HG := hide g12
  clear ha hb ia ib e0 b1 b2 g1 g2 g12
  go_enter Tryz.func50, Tryz.ntmps50
  go_wp2_with fail
  refine HC.out.mono ?_
  rintro e w2 ⟨rfl, hg⟩
  have HG2 : Hid (Grow w w2) := hide (HG.out.trans hg)
  clear hg HC
  go_wp2
  go_ret
  exact ⟨rfl, HG2.out⟩
/-- The first target that is not right. -/
def firstT : List Tgt → Nat
  | [] => 0
  | x :: l => if checkB x = 0 then firstT l else checkB x
theorem firstT_zero {l : List Tgt} (h : ∀ j (hj : j < l.length), checkB l[j] = 0) : firstT l = 0 := by
  induction l with
  | nil => rfl
  | cons x l ih =>
    rw [firstT, if_pos (show checkB x = 0 from h 0 (by simp))]
    exact ih fun j hj => h (j + 1) (by simpa using hj)
theorem firstT_at {l : List Tgt} {k : Nat} (hk : k < l.length) (h : ∀ j (hj : j < l.length), j < k → checkB l[j] = 0) (hn : checkB l[k] ≠ 0) : firstT l = checkB l[k] := by
  induction l generalizing k with
  | nil => simp at hk
  | cons x l ih =>
    cases k with
    | zero => rw [firstT, if_neg (show ¬ checkB x = 0 from hn)]; rfl
    | succ k =>
      rw [firstT, if_pos (show checkB x = 0 from h 0 (by simp) (by omega))]
      exact ih (by simpa using hk) (fun j hj hjk => h (j + 1) (by simpa using hj) (by omega)) hn
/-- The first fault of some lists. -/
def firstLL : List (List Tgt) → Nat
  | [] => 0
  | x :: l => if firstT x = 0 then firstLL l else firstT x
theorem firstLL_zero {l : List (List Tgt)} (h : ∀ j (hj : j < l.length), firstT l[j] = 0) : firstLL l = 0 := by
  induction l with
  | nil => rfl
  | cons x l ih =>
    rw [firstLL, if_pos (show firstT x = 0 from h 0 (by simp))]
    exact ih fun j hj => h (j + 1) (by simpa using hj)
theorem firstLL_at {l : List (List Tgt)} {k : Nat} (hk : k < l.length) (h : ∀ j (hj : j < l.length), j < k → firstT l[j] = 0) (hn : firstT l[k] ≠ 0) : firstLL l = firstT l[k] := by
  induction l generalizing k with
  | nil => simp at hk
  | cons x l ih =>
    cases k with
    | zero => rw [firstLL, if_neg (show ¬ firstT x = 0 from hn)]; rfl
    | succ k =>
      rw [firstLL, if_pos (show firstT x = 0 from h 0 (by simp) (by omega))]
      exact ih (by simpa using hk) (fun j hj hjk => h (j + 1) (by simpa using hj) (by omega)) hn
def manyLL (l : List (List Tgt)) : Bool := l.any fun x => decide (100 < x.length)
/-- What checkLists answers. -/
def listsErr (l : List (List Tgt)) : Nat := if manyLL l = true then 2 else firstLL l
theorem many_yes {l : List (List Tgt)} {k : Nat} (hk : k < l.length) (h : 100 < l[k].length) : listsErr l = 2 := by
  unfold listsErr
  have hm : manyLL l = true := List.any_eq_true.2 ⟨_, List.getElem_mem hk, by simpa using h⟩
  rw [if_pos hm]
theorem many_no {l : List (List Tgt)} (h : ∀ j (hj : j < l.length), l[j].length ≤ 100) : listsErr l = firstLL l := by
  unfold listsErr
  rw [if_neg]
  intro hm
  obtain ⟨x, hx, h1⟩ := List.any_eq_true.1 hm
  obtain ⟨j, hj, rfl⟩ := List.getElem_of_mem hx
  have := h j hj
  simp at h1
  omega
def readsLists (w : World) (B : Nat) (v : Value) (l : List (List Tgt)) : Prop :=
  ∃ b cp, v = .slice (some ⟨b, 0, none⟩) l.length cp ∧ b < B ∧ ∀ i (h : i < l.length), ∃ x, w.cell? ⟨b, i, none⟩ = some x ∧ readsTgts w B x l[i]
set_option maxRecDepth 20000 in
set_option maxHeartbeats 1000000 in
theorem checkLists_any (w : World) (v : Value) (l : List (List Tgt)) (hv : readsLists w w.heap.size v l) (hl : l.length ≤ 1000) (hok : ∀ x ∈ l, okTgts x) :
    Calls Tryz.prog 29 #[v] w fun e w' => e = .returned (.int .i64 (listsErr l)) ∧ Grow w w' := by
  obtain ⟨b, cp, rfl, hb, hcells⟩ := hv
  have HOK := hide hok
  clear hok
  obtain ⟨E, HE⟩ : ∃ E, Hid (listsErr l = E) := ⟨_, hide rfl⟩
  rw [HE.out]
  go_enter Tryz.func29, Tryz.ntmps29
  go_wp2
  go_loopw [12] (fun iv wr => ∃ i : Nat, i ≤ l.length ∧ iv = .int .i64 i ∧ Hid (∀ j (hj : j < l.length), j < i → l[j].length ≤ 100) ∧ Hid (Grow w wr)) (fun iv _ => l.length - (intOf iv).toNat)
  case atStart => exact ⟨0, by omega, rfl, hide (fun j hj h => by omega), hide (Grow.refl _)⟩
  case round =>
    obtain ⟨i, hi, rfl, HD, HGr⟩ := hrel
    by_cases hlt : i < l.length
    · have hlti : (i : Int) < (l.length : Int) := by omega
      obtain ⟨x, a0, hx⟩ := hcells i hlt
      have c0 := (HGr.out.cell (p := ⟨b, i, none⟩) hb).trans a0
      obtain ⟨xo, xc, hxv⟩ := hx.shape
      have hxl := (HOK.out _ (List.getElem_mem hlt)).1
      obtain ⟨n, hn⟩ : ∃ n, l[i].length = n := ⟨_, rfl⟩
      rw [hn] at hxv hxl
      have HN := hide hn
      subst hxv
      clear a0 hx hn hcells
      by_cases hm : 100 < n
      · have hmi : decide ((100 : Int) < (n : Int)) = true := decide_eq_true (by omega)
        have hE := HE.out
        rw [many_yes hlt (by rw [HN.out]; exact hm)] at hE
        subst hE
        clear hm
        go_wp2
        go_ret
        exact ⟨rfl, HGr.out⟩
      · have hmi : decide ((100 : Int) < (n : Int)) = false := decide_eq_false (by omega)
        have hn100 : n ≤ 100 := by omega
        clear hm
        go_wp2
        go_roundw
        case rel => exact ⟨i + 1, by omega, by go_num, hide (fun j hj hji => by
          by_cases e : j = i
          · subst e; rw [HN.out]; exact hn100
          · exact HD.out j hj (by omega)), HGr⟩
        case measure => simp [intOf]; omega
    · obtain rfl : i = l.length := by omega
      have hnl : ¬ ((l.length : Int) < (l.length : Int)) := by omega
      have HF : Hid (firstLL l = E) := hide (by rw [← HE.out, many_no (fun j hj => HD.out j hj hj)])
      go_wp2
      go_loopw [22] (fun iv wr' => ∃ i : Nat, i ≤ l.length ∧ iv = .int .i64 i ∧ Hid (∀ j (hj : j < l.length), j < i → firstT l[j] = 0) ∧ Hid (Grow w wr')) (fun iv _ => l.length - (intOf iv).toNat)
      case atStart => exact ⟨0, by omega, rfl, hide (fun j hj h => by omega), HGr⟩
      case round =>
        obtain ⟨i, hi, rfl, HD2, HGi⟩ := hrel
        by_cases hlt : i < l.length
        · have hlti : (i : Int) < (l.length : Int) := by omega
          obtain ⟨x, a0, hx⟩ := hcells i hlt
          have c0 := (HGi.out.cell (p := ⟨b, i, none⟩) hb).trans a0
          obtain ⟨xo, xc, hxv, _, hxcells⟩ := hx
          have hx100 := HD.out i hlt hlt
          have HXC := hide hxcells
          have HOX := hide (HOK.out _ (List.getElem_mem hlt))
          obtain ⟨y, hy⟩ : ∃ y, l[i] = y := ⟨_, rfl⟩
          have HY := hide hy
          rw [hy] at hxv hx100 HXC HOX
          subst hxv
          clear a0 hxcells hy hcells
          go_wp2
          go_loopw [28] (fun kv wr' => ∃ k : Nat, k ≤ y.length ∧ kv = .int .i64 k ∧ Hid (∀ j (hj : j < y.length), j < k → checkB y[j] = 0) ∧ Hid (Grow w wr')) (fun kv _ => y.length - (intOf kv).toNat)
          case atStart => exact ⟨0, by omega, rfl, hide (fun j hj h => by omega), HGi⟩
          case round =>
            obtain ⟨k, hk, rfl, HD3, HGk⟩ := hrel
            by_cases hkl : k < y.length
            · have hkli : (k : Int) < (y.length : Int) := by omega
              obtain ⟨rb, rf, lv, rfl, hrB, hla, a1⟩ := HXC.out k hkl
              have c1 := (HGk.out.cell (p := ⟨rb, rf + k, none⟩) hrB).trans a1
              obtain ⟨V, eV, gV, bV⟩ := laid1 wr #[lv] 36
              have hgV : Grow w V := HGk.out.trans gV
              obtain ⟨o1, o2⟩ := HOX.out.2 _ (List.getElem_mem hkl)
              have HCK := check_any V lv y[k] (readsLabels_mono (readsLabels_below hla hgV) hgV.size) o1 o2
              obtain ⟨C, HC⟩ : ∃ C, Hid (checkB y[k] = C) := ⟨_, hide rfl⟩
              rw [HC.out] at HCK
              replace HCK := hide HCK
              obtain ⟨lo, lc, hlv⟩ := readsLabels_len hla
              subst hlv
              have d0 := cell_one bV
              have HGV := hide hgV
              clear hla a1 gV bV hgV o1 o2
              go_wp2_with fail
              refine HCK.out.mono ?_
              rintro e w3 ⟨rfl, hg3⟩
              have HG3 : Hid (Grow w w3) := hide (HGV.out.trans hg3)
              clear hg3 HCK c1 d0 eV
              by_cases hC : C = 0
              · have hzc : ((C : Int) != 0) = false := by simp [hC]
                have HC0 := hide hC
                clear hC
                go_wp2
                go_roundw
                case rel => exact ⟨k + 1, by omega, by go_num, hide (fun j hj hjk => by
                  by_cases e : j = k
                  · subst e; exact HC.out.trans HC0.out
                  · exact HD3.out j hj (by omega)), HG3⟩
                case measure => simp [intOf]; omega
              · have hzc : ((C : Int) != 0) = true := by simp; exact hC
                have hft : firstT y = C := by rw [firstT_at hkl HD3.out (by rw [HC.out]; exact hC), HC.out]
                have hE : E = C := by rw [← HF.out, firstLL_at hlt HD2.out (by rw [HY.out, hft]; exact hC), HY.out, hft]
                subst hE
                clear hC hft
                go_wp2
                go_ret
                exact ⟨rfl, HG3.out⟩
            · obtain rfl : k = y.length := by omega
              have hnk : ¬ ((y.length : Int) < (y.length : Int)) := by omega
              have hz : firstT y = 0 := firstT_zero (fun j hj => HD3.out j hj hj)
              have HZ := hide hz
              clear hz
              go_wp2
              go_roundw
              case rel => exact ⟨i + 1, by omega, by go_num, hide (fun j hj hji => by
                by_cases e : j = i
                · subst e; rw [HY.out]; exact HZ.out
                · exact HD2.out j hj (by omega)), HGk⟩
              case measure => simp [intOf]; omega
        · obtain rfl : i = l.length := by omega
          have hE : E = 0 := by rw [← HF.out]; exact firstLL_zero (fun j hj => HD2.out j hj hj)
          subst hE
          go_wp2
          go_ret
          exact ⟨rfl, HGi.out⟩
end Go.Proofs.YtdlmgkncneifaaaGreat.Fd
