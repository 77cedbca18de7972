/- 1 texts in one. -/
import Derived.Laws.OwnMore
import Derived.Test.YtmdakfmecfcbhaaGreatProg
import Derived.Test.YtmdakfmecfcbhaaGreatK7e06493
import Derived.Test.YtmdakfmecfcbhaaGreatK85cc7d6
import Derived.Test.YtmdakfmecfcbhaaGreatK6ada7ca
import Derived.Test.YtmdakfmecfcbhaaGreatK0d2d33e
import Derived.Test.YtmdakfmecfcbhaaGreatK2303fdd
import Derived.BigQuiet
set_option linter.unusedVariables false
set_option linter.unusedSimpArgs false
namespace Go.Proofs.YtmdakfmecfcbhaaGreat.Tk
open Go.RowKit Lb
attribute [local go_sem] bs_size bs_toList bs_append bs_get bs_extract
theorem laid_at (w : World) (c : Array Value) (t : TypeId) : ∃ W : World, w.alloc (.cells c t) = W ∧ Grow w W ∧ W.heap[w.heap.size]? = some (.cells c t (0, 0)) := ⟨_, rfl, (Grow.refl _).alloc _, heap_alloc_new _ _⟩
theorem grow_drew (w : World) (n : Nat) : Grow w (w.drewN n) := ⟨rfl, rfl, rfl, Nat.le_refl _, fun _ _ => rfl⟩
/-- A sample: its time, its bits; a series: its labels, its samples. -/
abbrev Sam := Int × Nat
abbrev Ser := List Lab × List Sam
def readsSam (w : World) (B : Nat) (v : Value) (l : List Sam) : Prop :=
  ∃ ao cp, v = .slice ao l.length cp ∧ l.length ≤ cp ∧ ∀ i (h : i < l.length), ∃ b o, ao = some ⟨b, o, none⟩ ∧ b < B ∧ w.cell? ⟨b, o + i * 2, none⟩ = some (.int .i64 l[i].1) ∧ w.cell? ⟨b, o + i * 2 + 1, none⟩ = some (.int .u64 (l[i].2 : Nat))
theorem readsSam.keep {w w' : World} {B : Nat} {v : Value} {l : List Sam} (h : readsSam w B v l) (g : Below B w w') : readsSam w' B v l := by
  obtain ⟨ao, cp, hv, hc, h⟩ := h
  refine ⟨ao, cp, hv, hc, fun i hi => ?_⟩
  obtain ⟨b, o, e, hb, c0, c1⟩ := h i hi
  exact ⟨b, o, e, hb, (g.cell (p := ⟨b, _, none⟩) hb).trans c0, (g.cell (p := ⟨b, _, none⟩) hb).trans c1⟩
theorem readsSam.more {w : World} {B B' : Nat} {v : Value} {l : List Sam} (h : readsSam w B v l) (hB : B ≤ B') : readsSam w B' v l := by
  obtain ⟨ao, cp, hv, hc, h⟩ := h
  refine ⟨ao, cp, hv, hc, fun i hi => ?_⟩
  obtain ⟨b, o, e, hb, c⟩ := h i hi
  exact ⟨b, o, e, by omega, c⟩
theorem readsSam.take {w : World} {B : Nat} {ao : Option Addr} {n cp : Nat} {l : List Sam} (h : readsSam w B (.slice ao n cp) l) {k : Nat} (hk : k ≤ l.length) : readsSam w B (.slice ao k cp) (l.take k) := by
  obtain ⟨ao', cp', hv, hc, h⟩ := h
  cases hv
  have e : (l.take k).length = k := by rw [List.length_take]; omega
  refine ⟨ao, cp, by rw [e], by omega, fun i hi => ?_⟩
  rw [e] at hi
  have := h i (by omega)
  simpa [List.getElem_take] using this
/-- The series of a store, below a block. -/
def readsSer (w : World) (B : Nat) (v : Value) (l : List Ser) : Prop :=
  ∃ ao cp, v = .slice ao l.length cp ∧ l.length ≤ cp ∧ ∀ i (h : i < l.length), ∃ b o x y, ao = some ⟨b, o, none⟩ ∧ b < B ∧ readsLabels w B x l[i].1 ∧ readsSam w B y l[i].2 ∧ w.cell? ⟨b, o + i * 2, none⟩ = some x ∧ w.cell? ⟨b, o + i * 2 + 1, none⟩ = some y
theorem readsSer.keep {w w' : World} {B : Nat} {v : Value} {l : List Ser} (h : readsSer w B v l) (g : Below B w w') : readsSer w' B v l := by
  obtain ⟨ao, cp, hv, hc, h⟩ := h
  refine ⟨ao, cp, hv, hc, fun i hi => ?_⟩
  obtain ⟨b, o, x, y, e, hb, hl, hs, c0, c1⟩ := h i hi
  exact ⟨b, o, x, y, e, hb, readsLabels_below hl g, hs.keep g, (g.cell (p := ⟨b, _, none⟩) hb).trans c0, (g.cell (p := ⟨b, _, none⟩) hb).trans c1⟩
theorem readsSer.more {w : World} {B B' : Nat} {v : Value} {l : List Ser} (h : readsSer w B v l) (hB : B ≤ B') : readsSer w B' v l := by
  obtain ⟨ao, cp, hv, hc, h⟩ := h
  refine ⟨ao, cp, hv, hc, fun i hi => ?_⟩
  obtain ⟨b, o, x, y, e, hb, hl, hs, c⟩ := h i hi
  exact ⟨b, o, x, y, e, by omega, readsLabels_mono hl hB, hs.more hB, c⟩
theorem readsSam_len {w : World} {B : Nat} {v : Value} {l : List Sam} (h : readsSam w B v l) : ∃ ao cp, v = .slice ao l.length cp ∧ l.length ≤ cp := by
  obtain ⟨ao, cp, hv, hc, _⟩ := h; exact ⟨ao, cp, hv, hc⟩
def okSam (p : Sam) : Prop := (-9223372036854775808 ≤ p.1 ∧ p.1 ≤ 9223372036854775807) ∧ p.2 < 18446744073709551616
def okSer (x : Ser) : Prop := (x.1.length ≤ 9223372036854775807 ∧ lensOk x.1) ∧ x.2.length ≤ 9223372036854775807 ∧ ∀ p ∈ x.2, okSam p
def okStore (l : List Ser) : Prop := l.length ≤ 9223372036854775807 ∧ ∀ x ∈ l, okSer x
def timeB (n : Int) : Bool := decide (-9007199254740991 ≤ n) && decide (n ≤ 9007199254740991)
theorem isTime_any (n : Int) (w : World) : Calls Tryz.prog 51 #[.int .i64 n] w fun e w' => e = .returned (.bool (timeB n)) ∧ w' = w := by
  unfold timeB
  by_cases h1 : -9007199254740991 ≤ n
  · rw [decide_eq_true h1]
    go_enter Tryz.func51, Tryz.ntmps51
    go_wp2
    go_ret
    exact ⟨ret_bool (by simp), rfl⟩
  · rw [decide_eq_false h1]
    have h2 := decide_eq_false h1
    go_enter Tryz.func51, Tryz.ntmps51
    go_wp2
    go_ret
    exact ⟨ret_bool (by simp), rfl⟩
/-- Is it later than the last one? -/
def laterB (l : List Sam) (t : Int) : Bool := match l.getLast? with
  | none => true
  | some y => decide (y.1 < t)
theorem laterB_nil (t : Int) : laterB [] t = true := rfl
theorem laterB_at {l : List Sam} {t : Int} (h : 0 < l.length) : laterB l t = decide ((l[l.length - 1]'(by omega)).1 < t) := by
  unfold laterB
  rw [List.getLast?_eq_getElem?, List.getElem?_eq_getElem (by omega)]
set_option maxRecDepth 20000 in
set_option maxHeartbeats 2000000 in
theorem later_any (w : World) (vi : Value) (l : List Sam) (t : Int) (b : Nat) (hv : readsSam w w.heap.size vi l) (hl : l.length ≤ 9223372036854775807) :
    Calls Tryz.prog 52 #[vi, .agg #[.int .i64 t, .int .u64 (b : Nat)]] w fun e w' => e = .returned (.bool (laterB l t)) ∧ Grow w w' := by
  obtain ⟨F, HF⟩ : ∃ F, Hid (laterB l t = F) := ⟨_, hide rfl⟩
  rw [HF.out]
  obtain ⟨io, ic, hvi, _, hcells⟩ := hv
  subst hvi
  obtain ⟨W, eW, gW, hW⟩ := laid_at w #[.int .i64 t, .int .u64 (b : Nat)] 48
  obtain ⟨c0, c1⟩ := two_cells hW
  have HG := hide gW
  clear hW
  by_cases h0 : 0 < l.length
  · obtain ⟨k, rb, rf, y, hio, hk, hk0, hk7, e0, hF⟩ : ∃ (k rb rf : Nat) (y : Int), io = some ⟨rb, rf, none⟩ ∧ l.length = k ∧ 0 < k ∧ k ≤ 9223372036854775807 ∧ W.cell? ⟨rb, rf + (k - 1) * 2, none⟩ = some (.int .i64 y) ∧ decide (y < t) = F := by
      obtain ⟨rb, rf, e, hrB, r0, _⟩ := hcells (l.length - 1) (by omega)
      exact ⟨_, rb, rf, _, e, rfl, h0, hl, (gW.cell (p := ⟨rb, rf + (l.length - 1) * 2, none⟩) hrB).trans r0, by rw [← HF.out, laterB_at h0]⟩
    subst hio
    rw [hk]
    have hk1 : ((k : Int) == 0) = false := by rw [beq_eq_false_iff_ne]; omega
    have hk3 : ((k : Int) - 1) < (k : Int) := by omega
    have hk4 : (0 : Int) ≤ (k : Int) - 1 := by omega
    have hk5 : ((k : Int) - 1).toNat = k - 1 := by omega
    have hk6 : (1 : Int) ≤ (k : Int) := by omega
    clear hcells gW hk h0 hl HF hk0
    cases F with
    | true =>
      go_enter Tryz.func52, Tryz.ntmps52
      go_wp2
      go_quiet (fail)
      go_wp2
      go_ret
      exact ⟨rfl, HG.out.trans (grow_drew _ _)⟩
    | false =>
      go_enter Tryz.func52, Tryz.ntmps52
      go_wp2
      go_quiet (fail)
      go_wp2
      go_ret
      exact ⟨rfl, HG.out.trans (grow_drew _ _)⟩
  · obtain rfl : l = [] := List.length_eq_zero_iff.1 (by omega)
    have HF2 : Hid (true = F) := HF
    clear hcells gW HF h0 hl
    simp only [List.length_nil]
    go_enter Tryz.func52, Tryz.ntmps52
    go_wp2
    go_quiet (fail)
    go_wp2
    go_ret
    exact ⟨ret_bool HF2.out, HG.out.trans (grow_drew _ _)⟩
/-- Has a series too many samples? -/
def muchB (x : Ser) : Bool := decide (5000 < x.2.length)
set_option maxRecDepth 20000 in
set_option maxHeartbeats 1000000 in
theorem much_any (w : World) (vx : Value) (so : Option Addr) (n sc : Nat) (hvx : ∃ ao n cp, vx = .slice ao n cp) :
    Calls Tryz.prog 48 #[.agg #[vx, .slice so n sc]] w fun e w' => e = .returned (.bool (decide (5000 < n))) ∧ Grow w w' := by
  obtain ⟨xo, m, xc, rfl⟩ := hvx
  obtain ⟨F, HF⟩ : ∃ F, Hid (decide ((5000 : Int) < (n : Int)) = F) := ⟨_, hide rfl⟩
  have HF2 : Hid (decide (5000 < n) = F) := hide (by rw [← HF.out]; simp only [decide_eq_decide]; omega)
  rw [HF2.out]
  obtain ⟨W, eW, gW, hW⟩ := laid_at w #[.slice xo m xc, .slice so n sc] 41
  obtain ⟨c0, c1⟩ := two_cells hW
  have HG := hide gW
  clear hW gW
  go_enter Tryz.func48, Tryz.ntmps48
  go_wp2
  go_ret
  exact ⟨ret_bool (by first | exact HF.out | (rw [← HF.out]; simp)), HG.out⟩
set_option maxRecDepth 20000 in
set_option maxHeartbeats 1000000 in
theorem noTime_any (w : World) (t : Int) (b : Nat) :
    Calls Tryz.prog 50 #[.agg #[.int .i64 t, .int .u64 (b : Nat)]] w fun e w' => e = .returned (.bool (!timeB t)) ∧ Grow w w' := by
  obtain ⟨W, eW, gW, hW⟩ := laid_at w #[.int .i64 t, .int .u64 (b : Nat)] 48
  obtain ⟨c0, c1⟩ := two_cells hW
  have HG := hide gW
  have HT := hide (isTime_any t)
  generalize timeB t = T at HT
  clear hW gW
  go_enter Tryz.func50, Tryz.ntmps50
  go_wp2_with fail
  refine (HT.out _).mono ?_
  rintro e w2 ⟨rfl, rfl⟩
  go_wp2
  go_ret
  exact ⟨rfl, HG.out⟩
set_option maxRecDepth 20000 in
set_option maxHeartbeats 2000000 in
theorem indexSer_any (w : World) (v : Value) (l : List Ser) (hv : readsSer w w.heap.size v l) (hl : l.length ≤ 9223372036854775807) :
    Calls Tryz.prog 79 #[v, .func (.func 48) #[] #[]] w fun e w' => ∃ r : Int, e = .returned (.int .i64 r) ∧ decide (0 ≤ r) = l.any muchB ∧ Grow w w' := by
  obtain ⟨ao, cp, rfl, -, hcells⟩ := id hv
  have HV := hide hv
  clear hv
  go_enter Tryz.func79, Tryz.ntmps79
  go_wp2
  go_loopw [8] (fun iv wr => ∃ k : Nat, k ≤ l.length ∧ iv = .int .i64 k ∧ Hid (∀ j (hj : j < l.length), j < k → muchB l[j] = false) ∧ Hid (Grow w wr)) (fun iv _ => l.length - (intOf iv).toNat)
  case atStart => exact ⟨0, by omega, rfl, hide (fun j hj h => by omega), hide (Grow.refl _)⟩
  case round =>
    obtain ⟨k, hk, rfl, HN, HG⟩ := hrel
    by_cases hlt : k < l.length
    · have hlti : (k : Int) < (l.length : Int) := by omega
      obtain ⟨b, o, x, y, rfl, hb, hx, hy, c0, c1⟩ := hcells k hlt
      obtain ⟨yo, yc, hyy, -⟩ := readsSam_len hy
      obtain ⟨xo, xc, hxx⟩ := readsLabels_len hx
      subst hxx hyy
      have d0 := (HG.out.cell (p := ⟨b, o + k * 2, none⟩) hb).trans c0
      have d1 := (HG.out.cell (p := ⟨b, o + k * 2 + 1, none⟩) hb).trans c1
      have HM := hide (much_any wr (.slice xo l[k].1.length xc) yo l[k].2.length yc ⟨_, _, _, rfl⟩)
      obtain ⟨F, HF⟩ : ∃ F, Hid (muchB l[k] = F) := ⟨_, hide rfl⟩
      have HM2 : Hid (Calls Tryz.prog 48 #[.agg #[.slice xo l[k].1.length xc, .slice yo l[k].2.length yc]] wr fun e w' => e = .returned (.bool F) ∧ Grow wr w') := by rw [← HF.out]; exact HM
      generalize l[k].1.length = n1 at d0 HM2
      generalize l[k].2.length = n2 at d1 HM2
      clear c0 c1 hx hy hcells HM
      go_wp2_with fail
      refine HM2.out.mono ?_
      rintro e w2 ⟨rfl, hg2⟩
      have HG2 : Hid (Grow w w2) := hide (HG.out.trans hg2)
      clear hg2 HM2
      cases F with
      | true =>
        go_wp2
        go_ret
        exact ⟨_, rfl, by rw [List.any_eq_true.2 ⟨_, List.getElem_mem hlt, HF.out⟩]; simp, HG2.out⟩
      | false =>
        go_wp2
        go_roundw
        case rel => exact ⟨k + 1, by omega, by go_num, hide (fun j hj h => by
          by_cases e : j = k
          · subst e; exact HF.out
          · exact HN.out j hj (by omega)), HG2⟩
        case measure => simp [intOf]; omega
    · obtain rfl : k = l.length := by omega
      go_wp2
      go_ret
      refine ⟨_, rfl, ?_, HG.out⟩
      have : l.any muchB = false := by
        rw [List.any_eq_false]
        intro x hx
        obtain ⟨i, hi, rfl⟩ := List.getElem_of_mem hx
        simpa using HN.out i hi hi
      rw [this]
      decide
set_option maxRecDepth 20000 in
set_option maxHeartbeats 2000000 in
theorem indexSam_any (w : World) (v : Value) (l : List Sam) (hv : readsSam w w.heap.size v l) (hl : l.length ≤ 9223372036854775807) :
    Calls Tryz.prog 80 #[v, .func (.func 50) #[] #[]] w fun e w' => ∃ r : Int, e = .returned (.int .i64 r) ∧ decide (0 ≤ r) = l.any (fun p => !timeB p.1) ∧ Grow w w' := by
  obtain ⟨ao, cp, rfl, -, hcells⟩ := id hv
  have HV := hide hv
  clear hv
  go_enter Tryz.func80, Tryz.ntmps80
  go_wp2
  go_loopw [8] (fun iv wr => ∃ k : Nat, k ≤ l.length ∧ iv = .int .i64 k ∧ Hid (∀ j (hj : j < l.length), j < k → (!timeB l[j].1) = false) ∧ Hid (Grow w wr)) (fun iv _ => l.length - (intOf iv).toNat)
  case atStart => exact ⟨0, by omega, rfl, hide (fun j hj h => by omega), hide (Grow.refl _)⟩
  case round =>
    obtain ⟨k, hk, rfl, HN, HG⟩ := hrel
    by_cases hlt : k < l.length
    · have hlti : (k : Int) < (l.length : Int) := by omega
      obtain ⟨b, o, rfl, hb, c0, c1⟩ := hcells k hlt
      have d0 := (HG.out.cell (p := ⟨b, o + k * 2, none⟩) hb).trans c0
      have d1 := (HG.out.cell (p := ⟨b, o + k * 2 + 1, none⟩) hb).trans c1
      have HM := hide (noTime_any wr l[k].1 l[k].2)
      obtain ⟨F, HF⟩ : ∃ F, Hid ((!timeB l[k].1) = F) := ⟨_, hide rfl⟩
      rw [HF.out] at HM
      generalize l[k].1 = n1 at d0 HM
      generalize l[k].2 = n2 at d1 HM
      clear c0 c1 hcells
      go_wp2_with fail
      refine HM.out.mono ?_
      rintro e w2 ⟨rfl, hg2⟩
      have HG2 : Hid (Grow w w2) := hide (HG.out.trans hg2)
      clear hg2 HM
      cases F with
      | true =>
        go_wp2
        go_ret
        exact ⟨_, rfl, by rw [List.any_eq_true.2 ⟨_, List.getElem_mem hlt, HF.out⟩]; simp, HG2.out⟩
      | false =>
        go_wp2
        go_roundw
        case rel => exact ⟨k + 1, by omega, by go_num, hide (fun j hj h => by
          by_cases e : j = k
          · subst e; exact HF.out
          · exact HN.out j hj (by omega)), HG2⟩
        case measure => simp [intOf]; omega
    · obtain rfl : k = l.length := by omega
      go_wp2
      go_ret
      refine ⟨_, rfl, ?_, HG.out⟩
      have : l.any (fun p => !timeB p.1) = false := by
        rw [List.any_eq_false]
        intro x hx
        obtain ⟨i, hi, rfl⟩ := List.getElem_of_mem hx
        simpa using HN.out i hi hi
      rw [this]
      decide
set_option maxRecDepth 20000 in
set_option maxHeartbeats 1000000 in
theorem contSer_any (w : World) (v : Value) (l : List Ser) (hv : readsSer w w.heap.size v l) (hl : l.length ≤ 9223372036854775807) :
    Calls Tryz.prog 47 #[v, .func (.func 48) #[] #[]] w fun e w' => e = .returned (.bool (l.any muchB)) ∧ Grow w w' := by
  have HI := hide (indexSer_any w v l hv hl)
  obtain ⟨ao, cp, rfl, _⟩ := hv
  generalize l.any muchB = F at HI
  go_enter Tryz.func47, Tryz.ntmps47
  go_wp2_with fail
  refine HI.out.mono ?_
  rintro e w2 ⟨r, rfl, hr, hg⟩
  have HR := hide hr
  have HG := hide hg
  clear hr hg HI
  go_wp2
  go_ret
  exact ⟨ret_bool (by first | exact HR.out | (rw [← HR.out]; simp)), HG.out⟩
set_option maxRecDepth 20000 in
set_option maxHeartbeats 1000000 in
theorem contSam_any (w : World) (v : Value) (l : List Sam) (hv : readsSam w w.heap.size v l) (hl : l.length ≤ 9223372036854775807) :
    Calls Tryz.prog 49 #[v, .func (.func 50) #[] #[]] w fun e w' => e = .returned (.bool (l.any (fun p => !timeB p.1))) ∧ Grow w w' := by
  have HI := hide (indexSam_any w v l hv hl)
  obtain ⟨ao, cp, rfl, _⟩ := hv
  generalize l.any (fun p => !timeB p.1) = F at HI
  go_enter Tryz.func49, Tryz.ntmps49
  go_wp2_with fail
  refine HI.out.mono ?_
  rintro e w2 ⟨r, rfl, hr, hg⟩
  have HR := hide hr
  have HG := hide hg
  clear hr hg HI
  go_wp2
  go_ret
  exact ⟨ret_bool (by first | exact HR.out | (rw [← HR.out]; simp)), HG.out⟩
def manyB (l : List Ser) : Bool := decide (500 < l.length) || l.any muchB
set_option maxRecDepth 20000 in
set_option maxHeartbeats 1000000 in
theorem tooMany_any (w : World) (v : Value) (l : List Ser) (hv : readsSer w w.heap.size v l) (hl : l.length ≤ 9223372036854775807) :
    Calls Tryz.prog 22 #[v] w fun e w' => e = .returned (.bool (manyB l)) ∧ Grow w w' := by
  have HI := hide (contSer_any w v l hv hl)
  obtain ⟨ao, cp, rfl, _⟩ := hv
  unfold manyB
  generalize l.any muchB = F at HI
  by_cases h5 : 500 < l.length
  · have h5i : (500 : Int) < (l.length : Int) := by omega
    rw [decide_eq_true h5]
    go_enter Tryz.func22, Tryz.ntmps22
    go_wp2
    go_ret
    exact ⟨ret_bool (by simp), Grow.refl _⟩
  · have h5i : ¬ (500 : Int) < (l.length : Int) := by omega
    rw [decide_eq_false h5]
    go_enter Tryz.func22, Tryz.ntmps22
    go_wp2_with fail
    refine HI.out.mono ?_
    rintro e w2 ⟨rfl, hg⟩
    have HG := hide hg
    clear hg HI
    go_wp2
    go_ret
    exact ⟨ret_bool (by simp), HG.out⟩
end Go.Proofs.YtmdakfmecfcbhaaGreat.Tk
