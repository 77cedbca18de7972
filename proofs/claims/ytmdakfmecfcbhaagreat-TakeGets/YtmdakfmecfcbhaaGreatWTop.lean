/- attempt and its deferred closure; Write$1, Write. -/
import Derived.Test.YtmdakfmecfcbhaaGreatProg
import Derived.Test.YtmdakfmecfcbhaaGreatKit
import Derived.Test.YtmdakfmecfcbhaaGreatSpec
import Derived.Test.YtmdakfmecfcbhaaGreatWNum
import Derived.Test.YtmdakfmecfcbhaaGreatWWri
import Derived.Test.YtmdakfmecfcbhaaGreatWSer
import Derived.Test.YtmdakfmecfcbhaaGreatWChk
set_option linter.unusedVariables false
set_option linter.unusedSimpArgs false
namespace Go.Proofs.YtmdakfmecfcbhaaGreat
open Go.RowKit
attribute [local go_sem] bs_size bs_toList bs_append bs_get bs_extract

theorem assert_yes (v : Value) (w : World) : (Instr.typeAssert (.iface 24 v) 20 24 true).run Tryz.prog w = .ok (.tuple #[v, .bool true]) w := by kernel_rfl

set_option maxRecDepth 20000 in
set_option maxHeartbeats 1000000 in
theorem catch_panicking (p : Addr) (x err : Int) (older : List PanicEntry) (w : World) (hc : w.cell? p = some (.int .i64 x)) (hz : w.frozen? p = false) :
    CallsD Tryz.prog 63 #[.pointer (some p)] (.panicking ({ v := .iface 24 (.int .i64 err), recovered := false } :: older)) w fun e u' w' =>
      e = .returned (.tuple #[]) ∧ u' = .panicking ({ v := .iface 24 (.int .i64 err), recovered := true } :: older) ∧ w' = w.setCell p (.int .i64 err) := by
  refine callsD_of_wpS Tryz.func63 rfl fun c₀ cs hu => ?_
  simp only [Tryz.ntmps63, List.size_toArray, List.length_cons, List.length_nil, Nat.reduceAdd, Nat.reduceSub, Array.replicate_succ,
     Array.replicate_zero, List.push_toArray, List.append_toArray, List.nil_append, List.cons_append]
  apply wpS_seq
  apply wpS_region
  simp [wpOpsS, go_sem, recoverD, hu, Exit.thenS]
  apply wpS_seq
  apply wpS_region
  simp [wpOpsS, go_sem, Exit.thenS]
  refine wpS_cond (t := true) (by simp [Act.eval, Array.replicate]) ?_
  simp only [if_true]
  refine wpS_of_wp ?_
  have has := assert_yes
  have hnot : ∀ (x : Bool) (w : World), (Op.unary .not (.bool x)).run Tryz.prog w = .ok (.bool (!x)) w := fun _ _ => rfl
  go_wp2
  cases c₀
  simp_all [bodyPostS, results, Tryz.results63]

set_option maxRecDepth 20000 in
set_option maxHeartbeats 1000000 in
theorem catch_idle (p : Addr) (w : World) :
    CallsD Tryz.prog 63 #[.pointer (some p)] .returning w fun e u' w' => e = .returned (.tuple #[]) ∧ u' = .returning ∧ w' = w := by
  refine callsD_of_wpS Tryz.func63 rfl fun c₀ cs hu => ?_
  simp only [Tryz.ntmps63, List.size_toArray, List.length_cons, List.length_nil, Nat.reduceAdd, Nat.reduceSub, Array.replicate_succ,
     Array.replicate_zero, List.push_toArray, List.append_toArray, List.nil_append, List.cons_append]
  apply wpS_seq
  apply wpS_region
  simp [wpOpsS, go_sem, recoverD, hu, Exit.thenS]
  apply wpS_seq
  apply wpS_region
  simp [wpOpsS, go_sem, Exit.thenS]
  refine wpS_cond (t := false) (by simp [Act.eval, Array.replicate]) ?_
  simp only [Bool.false_eq_true, if_false]
  refine wpS_of_wp (wp_skip ?_)
  cases c₀
  simp_all [bodyPostS, results, Tryz.results63]

/-- What work came to: it came back, or gave up with an error. -/
def worked (R : Int → World → Prop) (e : Ending) (w' : World) : Prop := (e = .returned (.tuple #[]) ∧ R 0 w') ∨ ∃ err, e = gaveUp err ∧ R err w'

set_option maxRecDepth 20000 in
set_option maxHeartbeats 1000000 in
/-- 'attempt': the error with which work gave up, in a world that is work's but for attempt's own variable. -/
theorem attempt_any (w : World) (g : Nat) (cap : Array Value) (R : Int → World → Prop)
    (hcf : ∀ (args : Array Value) (w : World), (callFunc g args).run Tryz.prog w = .ok (.enter g args) w)
    (hwork : Calls Tryz.prog g cap (w.alloc (.cells #[.int .i64 0] 24)) (worked fun err w' => R err w' ∧ w'.heap[w.heap.size]? = some (.cells #[.int .i64 0] 24 (0, 0)))) :
    Calls Tryz.prog 37 #[.func (.func g) #[] cap] w fun e w' => ∃ err w1, e = .returned (.int .i64 err) ∧ R err w1 ∧ w' = w1.setCell ⟨w.heap.size, 0, none⟩ (.int .i64 err) := by
  have HF := hide hwork
  clear hwork
  have hmf : ∀ (fn : Fn) (first cap : Array Value) (w : World), (Instr.makeFunc fn first cap).run Tryz.prog w = .ok (.func fn first cap) w := fun _ _ _ _ => rfl
  go_enter_defers Tryz.func37, Tryz.ntmps37
  go_wp2_with fail
  refine HF.out.mono ?_
  clear HF hcf
  rintro e w1 (⟨rfl, hR, hh⟩ | ⟨err, rfl, hR, hh⟩)
  · have hc := cell_of_one hh
    have hz := free_of_one hh
    go_wp2
    refine leaves_cons (f := 63) (args := #[.pointer (some ⟨w.heap.size, 0, none⟩)]) (by simp) (by simp [go_sem]) ?_
    refine (catch_idle ⟨w.heap.size, 0, none⟩ _).mono ?_
    rintro e u' w'' ⟨rfl, rfl, rfl⟩
    have hc2 := cell_of_one (one_setCell (u := .int .i64 0) hh)
    simp [Leaves, settle, results, Tryz.results37, go_sem, hc2]
    exact ⟨w1, hR, rfl⟩
  · have hc := cell_of_one hh
    have hz := free_of_one hh
    refine leaves_cons (f := 63) (args := #[.pointer (some ⟨w.heap.size, 0, none⟩)]) (by simp) (by simp [go_sem]) ?_
    refine (catch_panicking ⟨w.heap.size, 0, none⟩ 0 err [] w1 hc hz).mono ?_
    rintro e u' w'' ⟨rfl, rfl, rfl⟩
    have hc2 := cell_of_one (one_setCell (u := .int .i64 err) hh)
    simp [Leaves, settle, results, Tryz.results37, go_sem, hc2]
    exact ⟨w1, hR, rfl⟩

def countsB (l : List Ser) : Bool := decide (l.length ≤ 200) && l.all fun x => decide (x.1.length ≤ 20) && (decide (x.2.length ≤ 200) && x.1.all fun y => decide (y.1.length ≤ 20000) && decide (y.2.length ≤ 20000))
def timesB (l : List Ser) : Bool := l.all fun x => x.2.all fun y => decide (-9007199254740991 ≤ y.1) && decide (y.1 ≤ 9007199254740991)
theorem countsB_iff (l : List Ser) : CountsOk l ↔ countsB l = true := by
  simp [CountsOk, countsB, serFits]
theorem timesB_iff (l : List Ser) : TimesOk l ↔ timesB l = true := by
  simp [TimesOk, timesB]
/-- The error of Write: 0 is none. -/
def writeErr (l : List Ser) : Int := if countsB l then (if timesB l then (if (seriesB l).length ≤ 20000 then 0 else 2) else 3) else 2

set_option maxRecDepth 20000 in
set_option maxHeartbeats 1000000 in
theorem write1_any (w : World) (A lb wb : Nat) (v : Value) (ls : List Ser) (hlb : w.heap[lb]? = some (.cells #[v] 22 (0, 0))) (hne : lb ≠ wb) (hAb : A ≤ wb) (hh : holdsW w w.heap.size wb []) (hA : A ≤ w.heap.size)
    (hv : readsSeries w A v ls) (hbits : ∀ x ∈ ls, bitsFit x) (hlen : ls.length ≤ 9223372036854775807) (hin : ∀ x ∈ ls, x.1.length ≤ 9223372036854775807 ∧ x.2.length ≤ 9223372036854775807 ∧ ∀ y ∈ x.1, y.1.length ≤ 9223372036854775807 ∧ y.2.length ≤ 9223372036854775807) :
    Calls Tryz.prog 38 #[.pointer (some ⟨lb, 0, none⟩), .pointer (some ⟨wb, 0, none⟩)] w (worked fun err w' => err = writeErr ls ∧ KeptX w.heap.size wb w w' ∧ (writeErr ls = 0 → holdsW w' w.heap.size wb (seriesB ls))) := by
  have hc := cell_of_one hlb
  have hlt := lt_of_block hlb
  obtain ⟨ao, cp, rfl⟩ : ∃ ao cp, v = .slice ao ls.length cp := by obtain ⟨ao, cp, h, _⟩ := hv; exact ⟨ao, cp, h⟩
  go_enter Tryz.func38, Tryz.ntmps38
  go_wp2_with fail
  refine (checkCounts_any w _ ls (readsSeries_mono hv hA) hlen hin).mono ?_
  clear hlen hin
  rintro e w1 ⟨hb1, (⟨h1, rfl⟩ | ⟨h1, rfl⟩)⟩
  · have hl1 := below_block hb1 hlb hlt
    have hc1 := cell_of_one hl1
    have hs1 := hb1.size
    clear hc
    go_wp2_with fail
    refine (checkTimes_any w1 _ ls (readsSeries_mono (readsSeries_below hv (hb1.mono hA)) (by omega)) h1).mono ?_
    rintro e w2 ⟨hb2, (⟨h2, rfl⟩ | ⟨h2, rfl⟩)⟩
    · have hl2 := below_block hb2 hl1 (by omega)
      have hc2 := cell_of_one hl2
      have hs2 := hb2.size
      have hb12 : Below w.heap.size w w2 := hb1.trans (hb2.mono hs1)
      clear hc1
      go_wp2_with fail
      refine (series_w w2 A w.heap.size wb hA hAb [] _ ls (holdsW_below hh hb12 (Nat.le_refl _)) (by simp) (readsSeries_below hv (hb12.mono hA)) h1.1 (fun x hx => ⟨h1.2 x hx, hbits x hx⟩)).mono ?_
      rintro e w3 ⟨hb3, (⟨h3, rfl, hh3⟩ | ⟨h3, rfl⟩)⟩
      · go_wp2
        go_end0
        have he : writeErr ls = 0 := by
          have := (countsB_iff ls).1 h1; have := (timesB_iff ls).1 h2
          simp only [List.length_nil, Nat.zero_add] at h3
          simp [writeErr, *]
        exact .inl ⟨rfl, he.symm, (keptX_of hb12).trans hb3, fun _ => by simpa using hh3⟩
      · have he : writeErr ls = 2 := by
          have := (countsB_iff ls).1 h1; have := (timesB_iff ls).1 h2
          simp only [List.length_nil, Nat.zero_add] at h3
          simp [writeErr, *]
        exact ⟨rfl, .inr ⟨2, rfl, he.symm, (keptX_of hb12).trans hb3, fun h => by rw [he] at h; simp at h⟩⟩
    · have he : writeErr ls = 3 := by
        have := (countsB_iff ls).1 h1; have h2' := mt (timesB_iff ls).2 h2
        simp [writeErr, *]
      exact ⟨rfl, .inr ⟨3, rfl, he.symm, keptX_of (hb1.trans (hb2.mono hs1)), fun h => by rw [he] at h; simp at h⟩⟩
  · have he : writeErr ls = 2 := by
      have h1' := mt (countsB_iff ls).2 h1
      simp [writeErr, *]
    exact ⟨rfl, .inr ⟨2, rfl, he.symm, keptX_of hb1, fun h => by rw [he] at h; simp at h⟩⟩

def writeTxt (l : List Ser) : List UInt8 := if writeErr l = 0 then seriesB l else []

/-- Every length fits an int. -/
def lensFit (ls : List Ser) : Prop := ls.length ≤ 9223372036854775807 ∧ ∀ x ∈ ls, x.1.length ≤ 9223372036854775807 ∧ x.2.length ≤ 9223372036854775807 ∧ ∀ y ∈ x.1, y.1.length ≤ 9223372036854775807 ∧ y.2.length ≤ 9223372036854775807

theorem below_setCell_new {B : Nat} {w w' : World} (h : Below B w w') {b : Nat} (hb : B ≤ b) (v : Value) : Below B w (w'.setCell ⟨b, 0, none⟩ v) := h.setCell hb v

theorem holdsW_setCell {w : World} {B b c : Nat} {l : List UInt8} (h : holdsW w B b l) (hne : c ≠ b) {x : Value} {t : TypeId} (hc : w.heap[c]? = some (.cells #[x] t (0, 0))) (ht : 5 ≠ t) (u : Value) : holdsW (w.setCell ⟨c, 0, none⟩ u) B b l := by
  obtain ⟨h0, v, h1, h2⟩ := h
  exact ⟨by simpa [World.setCell] using h0, v, (Below.heap_setCell _ _ _ _ (Ne.symm hne)).trans h1, ownsRow_setCell_other h2 (own_apart h2 hc ht) _⟩

set_option maxRecDepth 20000 in
set_option maxHeartbeats 1000000 in
theorem write_any (w : World) (v : Value) (ls : List Ser) (hv : readsSeries w w.heap.size v ls) (hbits : ∀ x ∈ ls, bitsFit x) (hfit : lensFit ls) :
    Calls Tryz.prog 16 #[v] w fun e w' => e = .returned (.tuple #[.string (bs (writeTxt ls)), .int .i64 (writeErr ls)]) ∧ Below w.heap.size w w' := by
  have hcf : ∀ (args : Array Value) (w : World), (callFunc 38 args).run Tryz.prog w = .ok (.enter 38 args) w := fun args w => by simp [go_sem]
  obtain ⟨ao, cp, hvv⟩ : ∃ ao cp, v = .slice ao ls.length cp := by obtain ⟨ao, cp, h, _⟩ := hv; exact ⟨ao, cp, h⟩
  have h0 : Below w.heap.size w (((w.alloc (.cells #[v] 22)).alloc (.cells #[.slice none 0 0] 65)).alloc (.cells #[.int .i64 0] 24)) := (((Below.refl _ _).alloc (Nat.le_refl _) _).alloc (by simp) _).alloc (by simp; omega) _
  have g0 : (((w.alloc (.cells #[v] 22)).alloc (.cells #[.slice none 0 0] 65)).alloc (.cells #[.int .i64 0] 24)).heap[w.heap.size]? = some (.cells #[v] 22 (0, 0)) := by
    rw [Below.heap_alloc _ _ _ (by simp; omega), Below.heap_alloc _ _ _ (by simp)]; exact heap_alloc_new _ _
  have g1 : (((w.alloc (.cells #[v] 22)).alloc (.cells #[.slice none 0 0] 65)).alloc (.cells #[.int .i64 0] 24)).heap[w.heap.size + 1]? = some (.cells #[.slice none 0 0] 65 (0, 0)) := by
    rw [Below.heap_alloc _ _ _ (by simp)]
    have := heap_alloc_new (w.alloc (.cells #[v] 22)) (.cells #[.slice none 0 0] 65)
    simpa using this
  have g2 : (((w.alloc (.cells #[v] 22)).alloc (.cells #[.slice none 0 0] 65)).alloc (.cells #[.int .i64 0] 24)).heap[w.heap.size + 2]? = some (.cells #[.int .i64 0] 24 (0, 0)) := by
    have := heap_alloc_new ((w.alloc (.cells #[v] 22)).alloc (.cells #[.slice none 0 0] 65)) (.cells #[.int .i64 0] 24)
    simpa using this
  have HW := hide ((write1_any _ w.heap.size w.heap.size (w.heap.size + 1) v ls g0 (by omega) (by omega) ⟨Nat.le_refl _, _, g1, World.ownsRow_nil _ _ _ _⟩ h0.size (readsSeries_below hv h0) hbits hfit.1 hfit.2).mono fun e w' h => (show worked (fun err w' => (err = writeErr ls ∧ Below w.heap.size w w' ∧ (writeErr ls = 0 → holdsW w' (w.heap.size + 3) (w.heap.size + 1) (seriesB ls)) ∧ w'.heap[w.heap.size + 2]? = some (.cells #[.int .i64 0] 24 (0, 0))) ∧ w'.heap[((w.alloc (.cells #[v] 22)).alloc (.cells #[.slice none 0 0] 65)).heap.size]? = some (.cells #[.int .i64 0] 24 (0, 0))) e w' from by
    have key : ∀ err w', (err = writeErr ls ∧ KeptX (((w.alloc (.cells #[v] 22)).alloc (.cells #[.slice none 0 0] 65)).alloc (.cells #[.int .i64 0] 24)).heap.size (w.heap.size + 1) (((w.alloc (.cells #[v] 22)).alloc (.cells #[.slice none 0 0] 65)).alloc (.cells #[.int .i64 0] 24)) w' ∧ (writeErr ls = 0 → holdsW w' (((w.alloc (.cells #[v] 22)).alloc (.cells #[.slice none 0 0] 65)).alloc (.cells #[.int .i64 0] 24)).heap.size (w.heap.size + 1) (seriesB ls))) →
        (err = writeErr ls ∧ Below w.heap.size w w' ∧ (writeErr ls = 0 → holdsW w' (w.heap.size + 3) (w.heap.size + 1) (seriesB ls)) ∧ w'.heap[w.heap.size + 2]? = some (.cells #[.int .i64 0] 24 (0, 0))) ∧ w'.heap[((w.alloc (.cells #[v] 22)).alloc (.cells #[.slice none 0 0] 65)).heap.size]? = some (.cells #[.int .i64 0] 24 (0, 0)) := by
      rintro err w' ⟨e1, e2, e3⟩
      have e4 := e2.get g2 (by simp) (by omega)
      refine ⟨⟨e1, h0.trans (e2.below (by simp; omega) (by omega)), fun h => by simpa using e3 h, e4⟩, by simpa using e4⟩
    rcases h with ⟨rfl, hR⟩ | ⟨err, rfl, hR⟩
    · exact .inl ⟨rfl, key _ _ hR⟩
    · exact .inr ⟨err, rfl, key _ _ hR⟩))
  clear g0 g1 g2 hv
  subst hvv
  go_enter Tryz.func16, Tryz.ntmps16
  go_wp2_with fail
  refine (attempt_any _ 38 _ (fun err w' => err = writeErr ls ∧ Below w.heap.size w w' ∧ (writeErr ls = 0 → holdsW w' (w.heap.size + 3) (w.heap.size + 1) (seriesB ls)) ∧ w'.heap[w.heap.size + 2]? = some (.cells #[.int .i64 0] 24 (0, 0))) hcf HW.out).mono ?_
  clear HW hcf
  rintro e w2 ⟨err, w1, rfl, ⟨herr, hb, hW, hg⟩, hw2⟩
  have hb2 : Below w.heap.size w w2 := by rw [hw2]; exact hb.setCell (by simp; omega) _
  by_cases h : writeErr ls = 0
  · have hW2 : holdsW w2 (w.heap.size + 3) (w.heap.size + 1) (seriesB ls) := by
      rw [hw2]
      have := holdsW_setCell (hW h) (c := w.heap.size + 2) (by omega) hg (by decide) (.int .i64 err)
      simpa using this
    clear hw2
    rw [herr, h]
    obtain ⟨_, v, hv, hown⟩ := hW2
    have hcell := cell_of_one hv
    have hcv := run_bytesStr (P := Tryz.prog) Tryz.underlying63 Tryz.underlying5 Tryz.underlying9 hown
    obtain ⟨ao, cp, rfl⟩ := own_shape hown
    have HT : Hid (writeTxt ls = seriesB ls) := by show _ = _; simp [writeTxt, h]
    have HE := hide h
    clear h herr hW hg
    go_wp2
    go_ret2
    exact ⟨by rw [HT.out, HE.out]; rfl, hb2⟩
  · have hne : (err != 0) = true := by rw [herr]; simpa using h
    have HT : Hid (writeTxt ls = []) := by show _ = _; simp [writeTxt, h]
    have HE := hide herr
    clear h herr hW hg hw2
    go_wp2
    go_ret2
    exact ⟨by rw [HT.out, ← HE.out]; rfl, hb2⟩

end Go.Proofs.YtmdakfmecfcbhaaGreat
