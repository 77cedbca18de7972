/- The writer of labels, samples, series. -/
import Derived.Test.YtmdakfmecfcbhaaGreatProg
import Derived.Test.YtmdakfmecfcbhaaGreatKit
import Derived.Test.YtmdakfmecfcbhaaGreatSpec
import Derived.Test.YtmdakfmecfcbhaaGreatWNum
import Derived.Test.YtmdakfmecfcbhaaGreatWWri
set_option linter.unusedVariables false
set_option linter.unusedSimpArgs false
namespace Go.Proofs.YtmdakfmecfcbhaaGreat
open Go.RowKit
attribute [local go_sem] bs_size bs_toList bs_append bs_get bs_extract

/-- A label: name and value; a sample: time and bits; a series. -/
abbrev Lab := List UInt8 × List UInt8
abbrev Sam := Int × Nat
abbrev Ser := List Lab × List Sam

/-- A time as a number from 0 on. -/
def unsig (t : Int) : Nat := (t % 18446744073709551616).toNat

theorem unsig_wrap (t : Int) : IntKind.u64.wrap t = ((unsig t : Nat) : Int) := by
  rw [IntKind.wrap_u64, unsig]; omega
theorem unsig_lt (t : Int) : unsig t < 18446744073709551616 := by
  unfold unsig; omega

def labelIn (x : Lab) : List UInt8 := fieldB 10 x.1 ++ fieldB 18 x.2
def sampleIn (x : Sam) : List UInt8 := numB 9 ++ (wordB x.2 ++ (numB 16 ++ numB (unsig x.1)))
def labelsB : List Lab → List UInt8
  | [] => []
  | x :: l => fieldB 10 (labelIn x) ++ labelsB l
def samplesB : List Sam → List UInt8
  | [] => []
  | x :: l => fieldB 18 (sampleIn x) ++ samplesB l
def seriesB : List Ser → List UInt8
  | [] => []
  | x :: l => fieldB 10 (labelsB x.1 ++ samplesB x.2) ++ seriesB l

theorem labelsB_append (a b : List Lab) : labelsB (a ++ b) = labelsB a ++ labelsB b := by
  induction a with
  | nil => rfl
  | cons x a ih => simp [labelsB, ih]
theorem samplesB_append (a b : List Sam) : samplesB (a ++ b) = samplesB a ++ samplesB b := by
  induction a with
  | nil => rfl
  | cons x a ih => simp [samplesB, ih]
theorem seriesB_append (a b : List Ser) : seriesB (a ++ b) = seriesB a ++ seriesB b := by
  induction a with
  | nil => rfl
  | cons x a ih => simp [seriesB, ih]
theorem labelsB_take_le (l : List Lab) (k : Nat) : (labelsB (l.take k)).length ≤ (labelsB l).length := by
  have h := congrArg List.length (labelsB_append (l.take k) (l.drop k))
  rw [List.take_append_drop] at h
  simp at h; omega
theorem samplesB_take_le (l : List Sam) (k : Nat) : (samplesB (l.take k)).length ≤ (samplesB l).length := by
  have h := congrArg List.length (samplesB_append (l.take k) (l.drop k))
  rw [List.take_append_drop] at h
  simp at h; omega
theorem seriesB_take_le (l : List Ser) (k : Nat) : (seriesB (l.take k)).length ≤ (seriesB l).length := by
  have h := congrArg List.length (seriesB_append (l.take k) (l.drop k))
  rw [List.take_append_drop] at h
  simp at h; omega

theorem two_cells {w : World} {b : Nat} {x y : Value} {t : TypeId} (h : w.heap[b]? = some (.cells #[x, y] t (0, 0))) : w.cell? ⟨b, 0, none⟩ = some x ∧ w.cell? ⟨b, 1, none⟩ = some y := by simp [World.cell?, h]

set_option maxRecDepth 20000 in
set_option maxHeartbeats 1000000 in
theorem labels1_w (w : World) (B b xb : Nat) (l n v : List UInt8) (hh : holdsW w B b l) (hl : l.length ≤ 20000) (hn : n.length ≤ 20000) (hv : v.length ≤ 20000)
    (hx : w.heap[xb]? = some (.cells #[.string (bs n), .string (bs v)] 62 (0, 0))) (hxB : xb < B) (hxb : xb ≠ b) :
    Calls Tryz.prog 91 #[.pointer (some ⟨b, 0, none⟩), .pointer (some ⟨xb, 0, none⟩)] w (wrote B b l (labelIn (n, v)) w) := by
  obtain ⟨c0, c1⟩ := two_cells hx
  go_enter Tryz.func91, Tryz.ntmps91
  go_wp2_with fail
  refine (bytes_w w B b 10 l n hh hl (by omega) (by omega)).mono ?_
  rintro e w1 ⟨hb1, (⟨h1, rfl, hh1⟩ | ⟨h1, rfl⟩)⟩
  · obtain ⟨d0, d1⟩ := two_cells (hb1.get hx hxB hxb)
    clear c0 c1
    go_wp2_with fail
    refine (bytes_w w1 B b 18 _ v hh1 (by simpa using h1) (by omega) (by omega)).mono ?_
    rintro e w2 ⟨hb2, (⟨h2, rfl, hh2⟩ | ⟨h2, rfl⟩)⟩
    · go_wp2
      go_end0
      exact wrote_trans hb1 h1 ⟨hb2, .inl ⟨h2, rfl, hh2⟩⟩
    · exact ⟨rfl, wrote_trans hb1 h1 ⟨hb2, .inr ⟨h2, rfl⟩⟩⟩
  · exact ⟨rfl, wrote_gone hb1 h1⟩

set_option maxRecDepth 20000 in
set_option maxHeartbeats 1000000 in
theorem samples1_w (w : World) (B b xb : Nat) (l : List UInt8) (t : Int) (k : Nat) (hh : holdsW w B b l) (hl : l.length ≤ 20000) (hk : k < 18446744073709551616)
    (hx : w.heap[xb]? = some (.cells #[.int .i64 t, .int .u64 k] 48 (0, 0))) (hxB : xb < B) (hxb : xb ≠ b) :
    Calls Tryz.prog 92 #[.pointer (some ⟨b, 0, none⟩), .pointer (some ⟨xb, 0, none⟩)] w (wrote B b l (sampleIn (t, k)) w) := by
  obtain ⟨c0, c1⟩ := two_cells hx
  have HK := hide hk
  clear hk
  go_enter Tryz.func92, Tryz.ntmps92
  go_wp2_with fail
  refine (number_w w B b 9 l hh hl (by omega)).mono ?_
  rintro e w1 ⟨hb1, (⟨h1, rfl, hh1⟩ | ⟨h1, rfl⟩)⟩
  · obtain ⟨d0, d1⟩ := two_cells (hb1.get hx hxB hxb)
    clear c0 c1
    go_wp2_with fail
    refine (eight_w w1 B b k _ hh1 (by simpa using h1) HK.out).mono ?_
    rintro e w2 ⟨hb2, (⟨h2, rfl, hh2⟩ | ⟨h2, rfl⟩)⟩
    · obtain ⟨c0, c1⟩ := two_cells ((hb1.trans hb2).get hx hxB hxb)
      clear d0 d1
      go_wp2_with fail
      refine (number_w w2 B b 16 _ hh2 (by simp at h2 ⊢; omega) (by omega)).mono ?_
      rintro e w3 ⟨hb3, (⟨h3, rfl, hh3⟩ | ⟨h3, rfl⟩)⟩
      · obtain ⟨d0, d1⟩ := two_cells (((hb1.trans hb2).trans hb3).get hx hxB hxb)
        clear c0 c1
        go_wp2_with fail
        rw [unsig_wrap t]
        refine (number_w w3 B b (unsig t) _ hh3 (by simp at h3 ⊢; omega) (unsig_lt t)).mono ?_
        rintro e w4 ⟨hb4, (⟨h4, rfl, hh4⟩ | ⟨h4, rfl⟩)⟩
        · go_wp2
          go_end0
          exact wrote_trans hb1 h1 (wrote_trans hb2 h2 (wrote_trans hb3 h3 ⟨hb4, .inl ⟨h4, rfl, hh4⟩⟩))
        · exact ⟨rfl, wrote_trans hb1 h1 (wrote_trans hb2 h2 (wrote_trans hb3 h3 ⟨hb4, .inr ⟨h4, rfl⟩⟩))⟩
      · exact ⟨rfl, wrote_trans hb1 h1 (wrote_trans hb2 h2 (wrote_gone hb3 h3))⟩
    · exact ⟨rfl, wrote_trans hb1 h1 (wrote_gone hb2 h2)⟩
  · exact ⟨rfl, wrote_gone hb1 h1⟩

/-- A slice of labels below block B. -/
def readsLabels (w : World) (B : Nat) (v : Value) (ls : List Lab) : Prop :=
  ∃ ao cp, v = .slice ao ls.length cp ∧ ∀ i (h : i < ls.length), ∃ b o, ao = some ⟨b, o, none⟩ ∧ b < B ∧ w.cell? ⟨b, o + i * 2, none⟩ = some (.string (bs ls[i].1)) ∧ w.cell? ⟨b, o + i * 2 + 1, none⟩ = some (.string (bs ls[i].2))
def readsSamples (w : World) (B : Nat) (v : Value) (ls : List Sam) : Prop :=
  ∃ ao cp, v = .slice ao ls.length cp ∧ ∀ i (h : i < ls.length), ∃ b o, ao = some ⟨b, o, none⟩ ∧ b < B ∧ w.cell? ⟨b, o + i * 2, none⟩ = some (.int .i64 ls[i].1) ∧ w.cell? ⟨b, o + i * 2 + 1, none⟩ = some (.int .u64 ls[i].2)
def readsSeries (w : World) (B : Nat) (v : Value) (ls : List Ser) : Prop :=
  ∃ ao cp, v = .slice ao ls.length cp ∧ ∀ i (h : i < ls.length), ∃ b o x y, ao = some ⟨b, o, none⟩ ∧ b < B ∧ w.cell? ⟨b, o + i * 2, none⟩ = some x ∧ w.cell? ⟨b, o + i * 2 + 1, none⟩ = some y ∧ readsLabels w B x ls[i].1 ∧ readsSamples w B y ls[i].2

theorem readsLabels_mono {w : World} {B B' : Nat} {v : Value} {ls : List Lab} (h : readsLabels w B v ls) (hB : B ≤ B') : readsLabels w B' v ls := by
  obtain ⟨ao, cp, hv, h⟩ := h
  refine ⟨ao, cp, hv, fun i hi => ?_⟩
  obtain ⟨b, o, h1, h2, h3, h4⟩ := h i hi
  exact ⟨b, o, h1, by omega, h3, h4⟩
theorem readsSamples_mono {w : World} {B B' : Nat} {v : Value} {ls : List Sam} (h : readsSamples w B v ls) (hB : B ≤ B') : readsSamples w B' v ls := by
  obtain ⟨ao, cp, hv, h⟩ := h
  refine ⟨ao, cp, hv, fun i hi => ?_⟩
  obtain ⟨b, o, h1, h2, h3, h4⟩ := h i hi
  exact ⟨b, o, h1, by omega, h3, h4⟩
theorem readsLabels_below {w w' : World} {B : Nat} {v : Value} {ls : List Lab} (h : readsLabels w B v ls) (hb : Below B w w') : readsLabels w' B v ls := by
  obtain ⟨ao, cp, hv, h⟩ := h
  refine ⟨ao, cp, hv, fun i hi => ?_⟩
  obtain ⟨b, o, h1, h2, h3, h4⟩ := h i hi
  exact ⟨b, o, h1, h2, (hb.cell h2).trans h3, (hb.cell h2).trans h4⟩
theorem readsSamples_below {w w' : World} {B : Nat} {v : Value} {ls : List Sam} (h : readsSamples w B v ls) (hb : Below B w w') : readsSamples w' B v ls := by
  obtain ⟨ao, cp, hv, h⟩ := h
  refine ⟨ao, cp, hv, fun i hi => ?_⟩
  obtain ⟨b, o, h1, h2, h3, h4⟩ := h i hi
  exact ⟨b, o, h1, h2, (hb.cell h2).trans h3, (hb.cell h2).trans h4⟩
theorem readsSeries_below {w w' : World} {B : Nat} {v : Value} {ls : List Ser} (h : readsSeries w B v ls) (hb : Below B w w') : readsSeries w' B v ls := by
  obtain ⟨ao, cp, hv, h⟩ := h
  refine ⟨ao, cp, hv, fun i hi => ?_⟩
  obtain ⟨b, o, x, y, h1, h2, h3, h4, h5, h6⟩ := h i hi
  exact ⟨b, o, x, y, h1, h2, (hb.cell h2).trans h3, (hb.cell h2).trans h4, readsLabels_below h5 hb, readsSamples_below h6 hb⟩

theorem readsSeries_mono {w : World} {B B' : Nat} {v : Value} {ls : List Ser} (h : readsSeries w B v ls) (hB : B ≤ B') : readsSeries w B' v ls := by
  obtain ⟨ao, cp, hv, h⟩ := h
  refine ⟨ao, cp, hv, fun i hi => ?_⟩
  obtain ⟨b, o, x, y, h1, h2, h3, h4, h5, h6⟩ := h i hi
  exact ⟨b, o, x, y, h1, by omega, h3, h4, readsLabels_mono h5 hB, readsSamples_mono h6 hB⟩

set_option maxRecDepth 20000 in
set_option maxHeartbeats 1000000 in
theorem labels_w (w : World) (A B b : Nat) (hA : A ≤ B) (hAb : A ≤ b) (l : List UInt8) (v : Value) (ls : List Lab) (hh : holdsW w B b l) (hl : l.length ≤ 20000)
    (hv : readsLabels w A v ls) (hsm : ls.length ≤ 20) (hx : ∀ x ∈ ls, x.1.length ≤ 20000 ∧ x.2.length ≤ 20000) :
    Calls Tryz.prog 67 #[.pointer (some ⟨b, 0, none⟩), v] w (wrote B b l (labelsB ls) w) := by
  obtain ⟨ao, cp, rfl, hcells⟩ := id hv
  have hcf : ∀ (args : Array Value) (w : World), (callFunc 91 args).run Tryz.prog w = .ok (.enter 91 args) w := fun args w => by simp [go_sem]
  go_enter Tryz.func67, Tryz.ntmps67
  go_wp2
  go_loopw [8] (fun i wr => ∃ k : Nat, k ≤ ls.length ∧ i = .int .i64 k ∧ KeptX B b w wr ∧ (l ++ labelsB (ls.take k)).length ≤ 20000 ∧ holdsW wr B b (l ++ labelsB (ls.take k))) (fun i _ => ls.length - (intOf i).toNat)
  case atStart => exact ⟨0, by omega, rfl, KeptX.refl _ _ _, by simpa [labelsB] using hl, by simpa [labelsB] using hh⟩
  case round =>
    obtain ⟨k, hk, rfl, hb, hlen, hhr⟩ := hrel
    by_cases hlt : k < ls.length
    · obtain ⟨lb, lo, rfl, hlB, c0, c1⟩ := hcells k hlt
      have d0 := ((hb.below hA hAb).cell (p := ⟨lb, lo + k * 2, none⟩) hlB).trans c0
      have d1 := ((hb.below hA hAb).cell (p := ⟨lb, lo + k * 2 + 1, none⟩) hlB).trans c1
      clear c0 c1
      have hmem := hx ls[k] (List.getElem_mem hlt)
      have hxb : ((wr.alloc (.cells #[.string (bs ls[k].1), .string (bs ls[k].2)] 62)).alloc (.cells #[.slice none 0 0] 65)).heap[wr.heap.size]? = some (.cells #[.string (bs ls[k].1), .string (bs ls[k].2)] 62 (0, 0)) := by
        rw [Below.heap_alloc _ _ _ (by simp)]; exact heap_alloc_new _ _
      have hba : KeptX B b wr (wr.alloc (.cells #[.string (bs ls[k].1), .string (bs ls[k].2)] 62)) := keptX_of ((Below.refl _ _).alloc (holdsW_le hhr) _)
      have hha := holdsW_below hhr ((Below.refl wr.heap.size wr).alloc (Nat.le_refl _) (.cells #[.string (bs ls[k].1), .string (bs ls[k].2)] 62)) (Nat.le_refl _)
      have HF := hide (within_w (wr.alloc (.cells #[.string (bs ls[k].1), .string (bs ls[k].2)] 62)) B b 10 _ (labelIn ls[k]) 91 #[.pointer (some ⟨wr.heap.size, 0, none⟩)] hha hlen (by omega) hcf
        (labels1_w _ _ _ wr.heap.size [] ls[k].1 ls[k].2 (holdsW_new _) (by simp) hmem.1 hmem.2 hxb (by simp) (by simp)))
      have hcut : labelsB (ls.take (k + 1)) = labelsB (ls.take k) ++ fieldB 10 (labelIn ls[k]) := by rw [List.take_succ_eq_append_getElem hlt, labelsB_append]; simp [labelsB]
      have HC := hide hcut
      clear hcut hxb
      go_wp2_with fail
      refine HF.out.mono ?_
      rintro e w1 ⟨hb1, (⟨h1, rfl, hh1⟩ | ⟨h1, rfl⟩)⟩
      · go_wp2
        go_roundw
        case rel => exact ⟨k + 1, by omega, by go_num, (hb.trans hba).trans hb1, by rw [HC.out]; simp at h1 ⊢; omega, by rw [HC.out, ← List.append_assoc]; exact hh1⟩
        case measure => simp [intOf]; omega
      · refine ⟨rfl, (hb.trans hba).trans hb1, .inr ⟨?_, rfl⟩⟩
        have := labelsB_take_le ls (k + 1)
        rw [HC.out] at this
        simp at h1 this ⊢; omega
    · go_wp2
      go_end0
      rw [List.take_of_length_le (by omega)] at hlen hhr
      exact ⟨hb, .inl ⟨by simpa using hlen, rfl, hhr⟩⟩

set_option maxRecDepth 20000 in
set_option maxHeartbeats 1000000 in
theorem samples_w (w : World) (A B b : Nat) (hA : A ≤ B) (hAb : A ≤ b) (l : List UInt8) (v : Value) (ls : List Sam) (hh : holdsW w B b l) (hl : l.length ≤ 20000)
    (hv : readsSamples w A v ls) (hsm : ls.length ≤ 200) (hx : ∀ x ∈ ls, x.2 < 18446744073709551616) :
    Calls Tryz.prog 68 #[.pointer (some ⟨b, 0, none⟩), v] w (wrote B b l (samplesB ls) w) := by
  obtain ⟨ao, cp, rfl, hcells⟩ := id hv
  have hcf : ∀ (args : Array Value) (w : World), (callFunc 92 args).run Tryz.prog w = .ok (.enter 92 args) w := fun args w => by simp [go_sem]
  go_enter Tryz.func68, Tryz.ntmps68
  go_wp2
  go_loopw [8] (fun i wr => ∃ k : Nat, k ≤ ls.length ∧ i = .int .i64 k ∧ KeptX B b w wr ∧ (l ++ samplesB (ls.take k)).length ≤ 20000 ∧ holdsW wr B b (l ++ samplesB (ls.take k))) (fun i _ => ls.length - (intOf i).toNat)
  case atStart => exact ⟨0, by omega, rfl, KeptX.refl _ _ _, by simpa [samplesB] using hl, by simpa [samplesB] using hh⟩
  case round =>
    obtain ⟨k, hk, rfl, hb, hlen, hhr⟩ := hrel
    by_cases hlt : k < ls.length
    · obtain ⟨lb, lo, rfl, hlB, c0, c1⟩ := hcells k hlt
      have d0 := ((hb.below hA hAb).cell (p := ⟨lb, lo + k * 2, none⟩) hlB).trans c0
      have d1 := ((hb.below hA hAb).cell (p := ⟨lb, lo + k * 2 + 1, none⟩) hlB).trans c1
      clear c0 c1
      have hmem := hx ls[k] (List.getElem_mem hlt)
      have hxb : ((wr.alloc (.cells #[.int .i64 ls[k].1, .int .u64 ls[k].2] 48)).alloc (.cells #[.slice none 0 0] 65)).heap[wr.heap.size]? = some (.cells #[.int .i64 ls[k].1, .int .u64 ls[k].2] 48 (0, 0)) := by
        rw [Below.heap_alloc _ _ _ (by simp)]; exact heap_alloc_new _ _
      have hba : KeptX B b wr (wr.alloc (.cells #[.int .i64 ls[k].1, .int .u64 ls[k].2] 48)) := keptX_of ((Below.refl _ _).alloc (holdsW_le hhr) _)
      have hha := holdsW_below hhr ((Below.refl wr.heap.size wr).alloc (Nat.le_refl _) (.cells #[.int .i64 ls[k].1, .int .u64 ls[k].2] 48)) (Nat.le_refl _)
      have HF := hide (within_w (wr.alloc (.cells #[.int .i64 ls[k].1, .int .u64 ls[k].2] 48)) B b 18 _ (sampleIn ls[k]) 92 #[.pointer (some ⟨wr.heap.size, 0, none⟩)] hha hlen (by omega) hcf
        (samples1_w _ _ _ wr.heap.size [] ls[k].1 ls[k].2 (holdsW_new _) (by simp) hmem hxb (by simp) (by simp)))
      have hcut : samplesB (ls.take (k + 1)) = samplesB (ls.take k) ++ fieldB 18 (sampleIn ls[k]) := by rw [List.take_succ_eq_append_getElem hlt, samplesB_append]; simp [samplesB]
      have HC := hide hcut
      clear hcut hxb
      go_wp2_with fail
      refine HF.out.mono ?_
      rintro e w1 ⟨hb1, (⟨h1, rfl, hh1⟩ | ⟨h1, rfl⟩)⟩
      · go_wp2
        go_roundw
        case rel => exact ⟨k + 1, by omega, by go_num, (hb.trans hba).trans hb1, by rw [HC.out]; simp at h1 ⊢; omega, by rw [HC.out, ← List.append_assoc]; exact hh1⟩
        case measure => simp [intOf]; omega
      · refine ⟨rfl, (hb.trans hba).trans hb1, .inr ⟨?_, rfl⟩⟩
        have := samplesB_take_le ls (k + 1)
        rw [HC.out] at this
        simp at h1 this ⊢; omega
    · go_wp2
      go_end0
      rw [List.take_of_length_le (by omega)] at hlen hhr
      exact ⟨hb, .inl ⟨by simpa using hlen, rfl, hhr⟩⟩

theorem readsLabels_len {w : World} {B : Nat} {v : Value} {ls : List Lab} (h : readsLabels w B v ls) : ∃ ao cp, v = .slice ao ls.length cp := by
  obtain ⟨ao, cp, hv, _⟩ := h; exact ⟨ao, cp, hv⟩
theorem readsSamples_len {w : World} {B : Nat} {v : Value} {ls : List Sam} (h : readsSamples w B v ls) : ∃ ao cp, v = .slice ao ls.length cp := by
  obtain ⟨ao, cp, hv, _⟩ := h; exact ⟨ao, cp, hv⟩

/-- There is not too much of anything. -/
def serFits (x : Ser) : Prop := x.1.length ≤ 20 ∧ x.2.length ≤ 200 ∧ ∀ y ∈ x.1, y.1.length ≤ 20000 ∧ y.2.length ≤ 20000
def bitsFit (x : Ser) : Prop := ∀ y ∈ x.2, y.2 < 18446744073709551616

set_option maxRecDepth 20000 in
set_option maxHeartbeats 1000000 in
theorem series1_w (w : World) (A B b xb : Nat) (hA : A ≤ B) (hAb : A ≤ b) (l : List UInt8) (x : Ser) (vl vs : Value) (hh : holdsW w B b l) (hl : l.length ≤ 20000) (hf : serFits x) (hbits : bitsFit x)
    (hvl : readsLabels w A vl x.1) (hvs : readsSamples w A vs x.2)
    (hx : w.heap[xb]? = some (.cells #[vl, vs] 41 (0, 0))) (hxB : xb < B) (hxb : xb ≠ b) :
    Calls Tryz.prog 66 #[.pointer (some ⟨b, 0, none⟩), .pointer (some ⟨xb, 0, none⟩)] w (wrote B b l (labelsB x.1 ++ samplesB x.2) w) := by
  obtain ⟨c0, c1⟩ := two_cells hx
  obtain ⟨ao, cp, rfl⟩ := readsLabels_len hvl
  obtain ⟨ao', cp', rfl⟩ := readsSamples_len hvs
  go_enter Tryz.func66, Tryz.ntmps66
  go_wp2_with fail
  refine (labels_w w A B b hA hAb l _ x.1 hh hl hvl hf.1 hf.2.2).mono ?_
  rintro e w1 ⟨hb1, (⟨h1, rfl, hh1⟩ | ⟨h1, rfl⟩)⟩
  · obtain ⟨d0, d1⟩ := two_cells (hb1.get hx hxB hxb)
    clear c0 c1
    go_wp2_with fail
    refine (samples_w w1 A B b hA hAb _ _ x.2 hh1 (by simpa using h1) (readsSamples_below hvs (hb1.below hA hAb)) hf.2.1 hbits).mono ?_
    rintro e w2 ⟨hb2, (⟨h2, rfl, hh2⟩ | ⟨h2, rfl⟩)⟩
    · go_wp2
      go_end0
      exact wrote_trans hb1 h1 ⟨hb2, .inl ⟨h2, rfl, hh2⟩⟩
    · exact ⟨rfl, wrote_trans hb1 h1 ⟨hb2, .inr ⟨h2, rfl⟩⟩⟩
  · exact ⟨rfl, wrote_gone hb1 h1⟩

set_option maxRecDepth 20000 in
set_option maxHeartbeats 1000000 in
theorem series_w (w : World) (A B b : Nat) (hA : A ≤ B) (hAb : A ≤ b) (l : List UInt8) (v : Value) (ls : List Ser) (hh : holdsW w B b l) (hl : l.length ≤ 20000)
    (hv : readsSeries w A v ls) (hsm : ls.length ≤ 200) (hx : ∀ x ∈ ls, serFits x ∧ bitsFit x) :
    Calls Tryz.prog 41 #[.pointer (some ⟨b, 0, none⟩), v] w (wrote B b l (seriesB ls) w) := by
  obtain ⟨ao, cp, rfl, hcells⟩ := id hv
  have hcf : ∀ (args : Array Value) (w : World), (callFunc 66 args).run Tryz.prog w = .ok (.enter 66 args) w := fun args w => by simp [go_sem]
  go_enter Tryz.func41, Tryz.ntmps41
  go_wp2
  go_loopw [8] (fun i wr => ∃ k : Nat, k ≤ ls.length ∧ i = .int .i64 k ∧ KeptX B b w wr ∧ (l ++ seriesB (ls.take k)).length ≤ 20000 ∧ holdsW wr B b (l ++ seriesB (ls.take k))) (fun i _ => ls.length - (intOf i).toNat)
  case atStart => exact ⟨0, by omega, rfl, KeptX.refl _ _ _, by simpa [seriesB] using hl, by simpa [seriesB] using hh⟩
  case round =>
    obtain ⟨k, hk, rfl, hb, hlen, hhr⟩ := hrel
    by_cases hlt : k < ls.length
    · obtain ⟨lb, lo, x, y, rfl, hlB, c0, c1, rx, ry⟩ := hcells k hlt
      have d0 := ((hb.below hA hAb).cell (p := ⟨lb, lo + k * 2, none⟩) hlB).trans c0
      have d1 := ((hb.below hA hAb).cell (p := ⟨lb, lo + k * 2 + 1, none⟩) hlB).trans c1
      obtain ⟨xo, xc, rfl⟩ := readsLabels_len rx
      obtain ⟨yo, yc, rfl⟩ := readsSamples_len ry
      clear c0 c1
      have hmem := hx ls[k] (List.getElem_mem hlt)
      obtain ⟨X, HX⟩ : ∃ X, Hid (X = Obj.cells #[.slice xo ls[k].1.length xc, .slice yo ls[k].2.length yc] 41) := ⟨_, hide rfl⟩
      have hxb : ((wr.alloc X).alloc (.cells #[.slice none 0 0] 65)).heap[wr.heap.size]? = some X := by
        rw [Below.heap_alloc _ _ _ (by simp)]; exact heap_alloc_new _ _
      rw [HX.out] at hxb
      have hba : KeptX B b wr (wr.alloc X) := keptX_of ((Below.refl _ _).alloc (holdsW_le hhr) _)
      have hbb : Below A wr ((wr.alloc X).alloc (.cells #[.slice none 0 0] 65)) := ((Below.refl A wr).alloc (by have := holdsW_le hhr; omega) _).alloc (by have := holdsW_le hhr; simp; omega) _
      have hha := holdsW_below hhr ((Below.refl wr.heap.size wr).alloc (Nat.le_refl _) X) (Nat.le_refl _)
      rw [HX.out] at hba hbb hha
      have hle := holdsW_le hhr
      have HF := hide (within_w (wr.alloc (.cells #[.slice xo ls[k].1.length xc, .slice yo ls[k].2.length yc] 41)) B b 10 _ (labelsB ls[k].1 ++ samplesB ls[k].2) 66 #[.pointer (some ⟨wr.heap.size, 0, none⟩)] hha hlen (by omega) hcf
        (series1_w _ A _ _ wr.heap.size (by simp; omega) (by simp; omega) [] ls[k] _ _ (holdsW_new _) (by simp) hmem.1 hmem.2 (readsLabels_below (readsLabels_below rx (hb.below hA hAb)) hbb) (readsSamples_below (readsSamples_below ry (hb.below hA hAb)) hbb) hxb (by simp) (by simp)))
      have hcut : seriesB (ls.take (k + 1)) = seriesB (ls.take k) ++ fieldB 10 (labelsB ls[k].1 ++ samplesB ls[k].2) := by rw [List.take_succ_eq_append_getElem hlt, seriesB_append]; simp [seriesB]
      have HC := hide hcut
      clear hcut hxb HX
      go_wp2_with fail
      refine HF.out.mono ?_
      rintro e w1 ⟨hb1, (⟨h1, rfl, hh1⟩ | ⟨h1, rfl⟩)⟩
      · go_wp2
        go_roundw
        case rel => exact ⟨k + 1, by omega, by go_num, (hb.trans hba).trans hb1, by rw [HC.out]; simp at h1 ⊢; omega, by rw [HC.out, ← List.append_assoc]; exact hh1⟩
        case measure => simp [intOf]; omega
      · refine ⟨rfl, (hb.trans hba).trans hb1, .inr ⟨?_, rfl⟩⟩
        have := seriesB_take_le ls (k + 1)
        rw [HC.out] at this
        simp at h1 this ⊢; omega
    · go_wp2
      go_end0
      rw [List.take_of_length_le (by omega)] at hlen hhr
      exact ⟨hb, .inl ⟨by simpa using hlen, rfl, hhr⟩⟩

end Go.Proofs.YtmdakfmecfcbhaaGreat
