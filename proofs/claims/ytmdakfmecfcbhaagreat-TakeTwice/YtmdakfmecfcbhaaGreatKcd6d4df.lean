/- 6 texts in one. -/
import Derived.Test.YtmdakfmecfcbhaaGreatProg
import Derived.Test.YtmdakfmecfcbhaaGreatK7e06493
import Derived.Test.YtmdakfmecfcbhaaGreatK85cc7d6
import Derived.Test.YtmdakfmecfcbhaaGreatK6271d58
set_option linter.unusedVariables false
set_option linter.unusedSimpArgs false
namespace Go.Proofs.YtmdakfmecfcbhaaGreat
open Go.RowKit
attribute [local go_sem] bs_size bs_toList bs_append bs_get bs_extract
theorem assert_yes (v : Value) (w : World) : (Instr.typeAssert (.iface 24 v) 20 24 true).run Tryz.prog w = .ok (.tuple #[v, .bool true]) w := by kernel_rfl
set_option maxRecDepth 20000 in
set_option maxHeartbeats 1000000 in
theorem catch_panicking (p : Addr) (x err : Int) (older : List PanicEntry) (w : World) (hc : w.cell? p = some (.int .i64 x)) (hz : w.frozen? p = false) :
    CallsD Tryz.prog 63 #[.pointer (some p)] (.panicking ({ v := .iface 24 (.int .i64 err), recovered := false } :: older)) w fun e u' w' =>
      e = .returned (.tuple #[]) ∧ u' = .panicking ({ v := .iface 24 (.int .i64 err), recovered := true } :: older) ∧ w' = w.setCell p (.int .i64 err) := by
  refine callsD_of_wpS Tryz.func63 rfl fun c₀ cs hu => ?_
  simp only [Tryz.ntmps63, List.size_toArray, List.length_cons, List.length_nil, Nat.reduceAdd, Nat.reduceSub, Array.replicate_succ,
     Array.replicate_zero, List.push_toArray, List.append_toArray, List.nil_append, List.cons_append]
  apply wpS_seq
  apply wpS_region
  simp [wpOpsS, go_sem, recoverD, hu, Exit.thenS]
  apply wpS_seq
  apply wpS_region
  simp [wpOpsS, go_sem, Exit.thenS]
  refine wpS_cond (t := true) (by simp [Act.eval, Array.replicate]) ?_
  simp only [if_true]
  refine wpS_of_wp ?_
  have has := assert_yes
  have hnot : ∀ (x : Bool) (w : World), (Op.unary .not (.bool x)).run Tryz.prog w = .ok (.bool (!x)) w := fun _ _ => rfl
  go_wp2
  cases c₀
  simp_all [bodyPostS, results, Tryz.results63]
set_option maxRecDepth 20000 in
set_option maxHeartbeats 1000000 in
theorem catch_idle (p : Addr) (w : World) :
    CallsD Tryz.prog 63 #[.pointer (some p)] .returning w fun e u' w' => e = .returned (.tuple #[]) ∧ u' = .returning ∧ w' = w := by
  refine callsD_of_wpS Tryz.func63 rfl fun c₀ cs hu => ?_
  simp only [Tryz.ntmps63, List.size_toArray, List.length_cons, List.length_nil, Nat.reduceAdd, Nat.reduceSub, Array.replicate_succ,
     Array.replicate_zero, List.push_toArray, List.append_toArray, List.nil_append, List.cons_append]
  apply wpS_seq
  apply wpS_region
  simp [wpOpsS, go_sem, recoverD, hu, Exit.thenS]
  apply wpS_seq
  apply wpS_region
  simp [wpOpsS, go_sem, Exit.thenS]
  refine wpS_cond (t := false) (by simp [Act.eval, Array.replicate]) ?_
  simp only [Bool.false_eq_true, if_false]
  refine wpS_of_wp (wp_skip ?_)
  cases c₀
  simp_all [bodyPostS, results, Tryz.results63]
/-- What work came to: it came back, or gave up with an error. -/
def worked (R : Int → World → Prop) (e : Ending) (w' : World) : Prop := (e = .returned (.tuple #[]) ∧ R 0 w') ∨ ∃ err, e = gaveUp err ∧ R err w'
set_option maxRecDepth 20000 in
set_option maxHeartbeats 1000000 in
/-- 'attempt': the error with which work gave up, in a world that is work's but for attempt's own variable. -/
theorem attempt_any (w : World) (g : Nat) (cap : Array Value) (R : Int → World → Prop)
    (hcf : ∀ (args : Array Value) (w : World), (callFunc g args).run Tryz.prog w = .ok (.enter g args) w)
    (hwork : Calls Tryz.prog g cap (w.alloc (.cells #[.int .i64 0] 24)) (worked fun err w' => R err w' ∧ w'.heap[w.heap.size]? = some (.cells #[.int .i64 0] 24 (0, 0)))) :
    Calls Tryz.prog 37 #[.func (.func g) #[] cap] w fun e w' => ∃ err w1, e = .returned (.int .i64 err) ∧ R err w1 ∧ w' = w1.setCell ⟨w.heap.size, 0, none⟩ (.int .i64 err) := by
  have HF := hide hwork
  clear hwork
  have hmf : ∀ (fn : Fn) (first cap : Array Value) (w : World), (Instr.makeFunc fn first cap).run Tryz.prog w = .ok (.func fn first cap) w := fun _ _ _ _ => rfl
  go_enter_defers Tryz.func37, Tryz.ntmps37
  go_wp2_with fail
  refine HF.out.mono ?_
  clear HF hcf
  rintro e w1 (⟨rfl, hR, hh⟩ | ⟨err, rfl, hR, hh⟩)
  · have hc := cell_of_one hh
    have hz := free_of_one hh
    go_wp2
    refine leaves_cons (f := 63) (args := #[.pointer (some ⟨w.heap.size, 0, none⟩)]) (by simp) (by simp [go_sem]) ?_
    refine (catch_idle ⟨w.heap.size, 0, none⟩ _).mono ?_
    rintro e u' w'' ⟨rfl, rfl, rfl⟩
    have hc2 := cell_of_one (one_setCell (u := .int .i64 0) hh)
    simp [Leaves, settle, results, Tryz.results37, go_sem, hc2]
    exact ⟨w1, hR, rfl⟩
  · have hc := cell_of_one hh
    have hz := free_of_one hh
    refine leaves_cons (f := 63) (args := #[.pointer (some ⟨w.heap.size, 0, none⟩)]) (by simp) (by simp [go_sem]) ?_
    refine (catch_panicking ⟨w.heap.size, 0, none⟩ 0 err [] w1 hc hz).mono ?_
    rintro e u' w'' ⟨rfl, rfl, rfl⟩
    have hc2 := cell_of_one (one_setCell (u := .int .i64 err) hh)
    simp [Leaves, settle, results, Tryz.results37, go_sem, hc2]
    exact ⟨w1, hR, rfl⟩
def countsB (l : List Ser) : Bool := decide (l.length ≤ 200) && l.all fun x => decide (x.1.length ≤ 20) && (decide (x.2.length ≤ 200) && x.1.all fun y => decide (y.1.length ≤ 20000) && decide (y.2.length ≤ 20000))
def timesB (l : List Ser) : Bool := l.all fun x => x.2.all fun y => decide (-9007199254740991 ≤ y.1) && decide (y.1 ≤ 9007199254740991)
theorem countsB_iff (l : List Ser) : CountsOk l ↔ countsB l = true := by
  simp [CountsOk, countsB, serFits]
theorem timesB_iff (l : List Ser) : TimesOk l ↔ timesB l = true := by
  simp [TimesOk, timesB]
/-- The error of Write: 0 is none. -/
def writeErr (l : List Ser) : Int := if countsB l then (if timesB l then (if (seriesB l).length ≤ 20000 then 0 else 2) else 3) else 2
set_option maxRecDepth 20000 in
set_option maxHeartbeats 1000000 in
theorem write1_any (w : World) (A lb wb : Nat) (v : Value) (ls : List Ser) (hlb : w.heap[lb]? = some (.cells #[v] 22 (0, 0))) (hne : lb ≠ wb) (hAb : A ≤ wb) (hh : holdsW w w.heap.size wb []) (hA : A ≤ w.heap.size)
    (hv : readsSeries w A v ls) (hbits : ∀ x ∈ ls, bitsFit x) (hlen : ls.length ≤ 9223372036854775807) (hin : ∀ x ∈ ls, x.1.length ≤ 9223372036854775807 ∧ x.2.length ≤ 9223372036854775807 ∧ ∀ y ∈ x.1, y.1.length ≤ 9223372036854775807 ∧ y.2.length ≤ 9223372036854775807) :
    Calls Tryz.prog 38 #[.pointer (some ⟨lb, 0, none⟩), .pointer (some ⟨wb, 0, none⟩)] w (worked fun err w' => err = writeErr ls ∧ KeptX w.heap.size wb w w' ∧ (writeErr ls = 0 → holdsW w' w.heap.size wb (seriesB ls))) := by
  have hc := cell_of_one hlb
  have hlt := lt_of_block hlb
  obtain ⟨ao, cp, rfl⟩ : ∃ ao cp, v = .slice ao ls.length cp := by obtain ⟨ao, cp, h, _⟩ := hv; exact ⟨ao, cp, h⟩
  go_enter Tryz.func38, Tryz.ntmps38
  go_wp2_with fail
  refine (checkCounts_any w _ ls (readsSeries_mono hv hA) hlen hin).mono ?_
  clear hlen hin
  rintro e w1 ⟨hb1, (⟨h1, rfl⟩ | ⟨h1, rfl⟩)⟩
  · have hl1 := below_block hb1 hlb hlt
    have hc1 := cell_of_one hl1
    have hs1 := hb1.size
    clear hc
    go_wp2_with fail
    refine (checkTimes_any w1 _ ls (readsSeries_mono (readsSeries_below hv (hb1.mono hA)) (by omega)) h1).mono ?_
    rintro e w2 ⟨hb2, (⟨h2, rfl⟩ | ⟨h2, rfl⟩)⟩
    · have hl2 := below_block hb2 hl1 (by omega)
      have hc2 := cell_of_one hl2
      have hs2 := hb2.size
      have hb12 : Below w.heap.size w w2 := hb1.trans (hb2.mono hs1)
      clear hc1
      go_wp2_with fail
      refine (series_w w2 A w.heap.size wb hA hAb [] _ ls (holdsW_below hh hb12 (Nat.le_refl _)) (by simp) (readsSeries_below hv (hb12.mono hA)) h1.1 (fun x hx => ⟨h1.2 x hx, hbits x hx⟩)).mono ?_
      rintro e w3 ⟨hb3, (⟨h3, rfl, hh3⟩ | ⟨h3, rfl⟩)⟩
      · go_wp2
        go_end0
        have he : writeErr ls = 0 := by
          have := (countsB_iff ls).1 h1; have := (timesB_iff ls).1 h2
          simp only [List.length_nil, Nat.zero_add] at h3
          simp [writeErr, *]
        exact .inl ⟨rfl, he.symm, (keptX_of hb12).trans hb3, fun _ => by simpa using hh3⟩
      · have he : writeErr ls = 2 := by
          have := (countsB_iff ls).1 h1; have := (timesB_iff ls).1 h2
          simp only [List.length_nil, Nat.zero_add] at h3
          simp [writeErr, *]
        exact ⟨rfl, .inr ⟨2, rfl, he.symm, (keptX_of hb12).trans hb3, fun h => by rw [he] at h; simp at h⟩⟩
    · have he : writeErr ls = 3 := by
        have := (countsB_iff ls).1 h1; have h2' := mt (timesB_iff ls).2 h2
        simp [writeErr, *]
      exact ⟨rfl, .inr ⟨3, rfl, he.symm, keptX_of (hb1.trans (hb2.mono hs1)), fun h => by rw [he] at h; simp at h⟩⟩
  · have he : writeErr ls = 2 := by
      have h1' := mt (countsB_iff ls).2 h1
      simp [writeErr, *]
    exact ⟨rfl, .inr ⟨2, rfl, he.symm, keptX_of hb1, fun h => by rw [he] at h; simp at h⟩⟩
def writeTxt (l : List Ser) : List UInt8 := if writeErr l = 0 then seriesB l else []
/-- Every length fits an int. -/
def lensFit (ls : List Ser) : Prop := ls.length ≤ 9223372036854775807 ∧ ∀ x ∈ ls, x.1.length ≤ 9223372036854775807 ∧ x.2.length ≤ 9223372036854775807 ∧ ∀ y ∈ x.1, y.1.length ≤ 9223372036854775807 ∧ y.2.length ≤ 9223372036854775807
theorem holdsW_setCell {w : World} {B b c : Nat} {l : List UInt8} (h : holdsW w B b l) (hne : c ≠ b) {x : Value} {t : TypeId} (hc : w.heap[c]? = some (.cells #[x] t (0, 0))) (ht : 5 ≠ t) (u : Value) : holdsW (w.setCell ⟨c, 0, none⟩ u) B b l := by
  obtain ⟨h0, v, h1, h2⟩ := h
  exact ⟨by simpa [World.setCell] using h0, v, (Below.heap_setCell _ _ _ _ (Ne.symm hne)).trans h1, ownsRow_setCell_other h2 (own_apart h2 hc ht) _⟩
set_option maxRecDepth 20000 in
set_option maxHeartbeats 1000000 in
theorem write_any (w : World) (v : Value) (ls : List Ser) (hv : readsSeries w w.heap.size v ls) (hbits : ∀ x ∈ ls, bitsFit x) (hfit : lensFit ls) :
    Calls Tryz.prog 16 #[v] w fun e w' => e = .returned (.tuple #[.string (bs (writeTxt ls)), .int .i64 (writeErr ls)]) ∧ Below w.heap.size w w' := by
  have hcf : ∀ (args : Array Value) (w : World), (callFunc 38 args).run Tryz.prog w = .ok (.enter 38 args) w := fun args w => by simp [go_sem]
  obtain ⟨ao, cp, hvv⟩ : ∃ ao cp, v = .slice ao ls.length cp := by obtain ⟨ao, cp, h, _⟩ := hv; exact ⟨ao, cp, h⟩
  have h0 : Below w.heap.size w (((w.alloc (.cells #[v] 22)).alloc (.cells #[.slice none 0 0] 65)).alloc (.cells #[.int .i64 0] 24)) := (((Below.refl _ _).alloc (Nat.le_refl _) _).alloc (by simp) _).alloc (by simp; omega) _
  have g0 : (((w.alloc (.cells #[v] 22)).alloc (.cells #[.slice none 0 0] 65)).alloc (.cells #[.int .i64 0] 24)).heap[w.heap.size]? = some (.cells #[v] 22 (0, 0)) := by
    rw [Below.heap_alloc _ _ _ (by simp; omega), Below.heap_alloc _ _ _ (by simp)]; exact heap_alloc_new _ _
  have g1 : (((w.alloc (.cells #[v] 22)).alloc (.cells #[.slice none 0 0] 65)).alloc (.cells #[.int .i64 0] 24)).heap[w.heap.size + 1]? = some (.cells #[.slice none 0 0] 65 (0, 0)) := by
    rw [Below.heap_alloc _ _ _ (by simp)]
    have := heap_alloc_new (w.alloc (.cells #[v] 22)) (.cells #[.slice none 0 0] 65)
    simpa using this
  have g2 : (((w.alloc (.cells #[v] 22)).alloc (.cells #[.slice none 0 0] 65)).alloc (.cells #[.int .i64 0] 24)).heap[w.heap.size + 2]? = some (.cells #[.int .i64 0] 24 (0, 0)) := by
    have := heap_alloc_new ((w.alloc (.cells #[v] 22)).alloc (.cells #[.slice none 0 0] 65)) (.cells #[.int .i64 0] 24)
    simpa using this
  have HW := hide ((write1_any _ w.heap.size w.heap.size (w.heap.size + 1) v ls g0 (by omega) (by omega) ⟨Nat.le_refl _, _, g1, World.ownsRow_nil _ _ _ _⟩ h0.size (readsSeries_below hv h0) hbits hfit.1 hfit.2).mono fun e w' h => (show worked (fun err w' => (err = writeErr ls ∧ Below w.heap.size w w' ∧ (writeErr ls = 0 → holdsW w' (w.heap.size + 3) (w.heap.size + 1) (seriesB ls)) ∧ w'.heap[w.heap.size + 2]? = some (.cells #[.int .i64 0] 24 (0, 0))) ∧ w'.heap[((w.alloc (.cells #[v] 22)).alloc (.cells #[.slice none 0 0] 65)).heap.size]? = some (.cells #[.int .i64 0] 24 (0, 0))) e w' from by
    have key : ∀ err w', (err = writeErr ls ∧ KeptX (((w.alloc (.cells #[v] 22)).alloc (.cells #[.slice none 0 0] 65)).alloc (.cells #[.int .i64 0] 24)).heap.size (w.heap.size + 1) (((w.alloc (.cells #[v] 22)).alloc (.cells #[.slice none 0 0] 65)).alloc (.cells #[.int .i64 0] 24)) w' ∧ (writeErr ls = 0 → holdsW w' (((w.alloc (.cells #[v] 22)).alloc (.cells #[.slice none 0 0] 65)).alloc (.cells #[.int .i64 0] 24)).heap.size (w.heap.size + 1) (seriesB ls))) →
        (err = writeErr ls ∧ Below w.heap.size w w' ∧ (writeErr ls = 0 → holdsW w' (w.heap.size + 3) (w.heap.size + 1) (seriesB ls)) ∧ w'.heap[w.heap.size + 2]? = some (.cells #[.int .i64 0] 24 (0, 0))) ∧ w'.heap[((w.alloc (.cells #[v] 22)).alloc (.cells #[.slice none 0 0] 65)).heap.size]? = some (.cells #[.int .i64 0] 24 (0, 0)) := by
      rintro err w' ⟨e1, e2, e3⟩
      have e4 := e2.get g2 (by simp) (by omega)
      refine ⟨⟨e1, h0.trans (e2.below (by simp; omega) (by omega)), fun h => by simpa using e3 h, e4⟩, by simpa using e4⟩
    rcases h with ⟨rfl, hR⟩ | ⟨err, rfl, hR⟩
    · exact .inl ⟨rfl, key _ _ hR⟩
    · exact .inr ⟨err, rfl, key _ _ hR⟩))
  clear g0 g1 g2 hv
  subst hvv
  go_enter Tryz.func16, Tryz.ntmps16
  go_wp2_with fail
  refine (attempt_any _ 38 _ (fun err w' => err = writeErr ls ∧ Below w.heap.size w w' ∧ (writeErr ls = 0 → holdsW w' (w.heap.size + 3) (w.heap.size + 1) (seriesB ls)) ∧ w'.heap[w.heap.size + 2]? = some (.cells #[.int .i64 0] 24 (0, 0))) hcf HW.out).mono ?_
  clear HW hcf
  rintro e w2 ⟨err, w1, rfl, ⟨herr, hb, hW, hg⟩, hw2⟩
  have hb2 : Below w.heap.size w w2 := by rw [hw2]; exact hb.setCell (by simp; omega) _
  by_cases h : writeErr ls = 0
  · have hW2 : holdsW w2 (w.heap.size + 3) (w.heap.size + 1) (seriesB ls) := by
      rw [hw2]
      have := holdsW_setCell (hW h) (c := w.heap.size + 2) (by omega) hg (by decide) (.int .i64 err)
      simpa using this
    clear hw2
    rw [herr, h]
    obtain ⟨_, v, hv, hown⟩ := hW2
    have hcell := cell_of_one hv
    have hcv := run_bytesStr (P := Tryz.prog) Tryz.underlying63 Tryz.underlying5 Tryz.underlying9 hown
    obtain ⟨ao, cp, rfl⟩ := own_shape hown
    have HT : Hid (writeTxt ls = seriesB ls) := by show _ = _; simp [writeTxt, h]
    have HE := hide h
    clear h herr hW hg
    go_wp2
    go_ret2
    exact ⟨by rw [HT.out, HE.out]; rfl, hb2⟩
  · have hne : (err != 0) = true := by rw [herr]; simpa using h
    have HT : Hid (writeTxt ls = []) := by show _ = _; simp [writeTxt, h]
    have HE := hide herr
    clear h herr hW hg hw2
    go_wp2
    go_ret2
    exact ⟨by rw [HT.out, ← HE.out]; rfl, hb2⟩
theorem takeWhile_len (p : UInt8 → Bool) : ∀ (l : List UInt8) (k : Nat), k ≤ l.length → (∀ j (h : j < l.length), j < k → p l[j] = true) → (k = l.length ∨ ∃ h : k < l.length, p l[k] = false) → (l.takeWhile p).length = k
  | [], k, hk, _, _ => by simp at hk; simp [hk]
  | c :: l, 0, hk, ha, hs => by
    rcases hs with hs | ⟨h, hs⟩
    · simp at hs
    · simp at hs
      simp [List.takeWhile_cons, hs]
  | c :: l, k + 1, hk, ha, hs => by
    have h0 := ha 0 (by simp) (by omega)
    simp at h0
    have ih := takeWhile_len p l k (by simpa using hk) (fun j h hj => by have := ha (j + 1) (by simp; omega) (by omega); simpa using this) (by
      rcases hs with hs | ⟨h, hs⟩
      · exact .inl (by simpa using hs)
      · exact .inr ⟨by simpa using h, by simpa using hs⟩)
    simp [List.takeWhile_cons, h0, ih]
theorem numMany_eq (l : List UInt8) (k : Nat) (hk : k ≤ l.length) (h9 : k ≤ 9) (ha : ∀ j (h : j < l.length), j < k → 128 ≤ l[j].toNat) (hs : k = l.length ∨ k = 9 ∨ ∃ h : k < l.length, l[k].toNat < 128) : numMany l = k := by
  unfold numMany
  refine takeWhile_len _ _ k (by simp; omega) (fun j h hj => ?_) ?_
  · simp at h
    simp [List.getElem_take, ha j (by omega) hj]
  · by_cases e : k = (l.take 9).length
    · exact .inl e
    · rw [List.length_take] at e
      right
      refine ⟨by simp; omega, ?_⟩
      rcases hs with hs | hs | ⟨h, hs⟩
      · omega
      · omega
      · simp [List.getElem_take]; omega
set_option maxRecDepth 20000 in
set_option maxHeartbeats 2000000 in
theorem numberAt_any (l : List UInt8) (w : World) (hs : l.length ≤ 9223372036854775807) :
    Calls Tryz.prog 57 #[.string (bs l)] w fun e w' => e = .returned (.tuple #[.int .u64 (numAt l).1, .int .i64 (numAt l).2.1, .int .i64 (numAt l).2.2]) ∧ w' = w := by
  go_enter Tryz.func57, Tryz.ntmps57
  go_wp2
  go_loop [5] (fun i => ∃ k : Nat, k ≤ l.length ∧ k ≤ 9 ∧ i = .int .i64 k ∧ Hid (∀ j (h : j < l.length), j < k → 128 ≤ l[j].toNat)) (fun i => 9 - (intOf i).toNat)
  case atStart => exact ⟨0, by omega, by omega, rfl, hide (fun j _ h => by omega)⟩
  case round =>
    obtain ⟨k, hk, hk9, rfl, HA⟩ := hrel
    by_cases hgo : ∃ h : k < l.length, 128 ≤ l[k].toNat ∧ k < 9
    · obtain ⟨h1, h2, h3⟩ := hgo
      have t1 : (128 : Int) ≤ (l[k].toNat : Int) := by omega
      go_wp2
      go_round
      case rel => exact ⟨k + 1, by omega, by omega, by go_num, hide (fun j hj h => by
        by_cases e : j = k
        · subst e; exact h2
        · exact HA.out j hj (by omega))⟩
      case measure => simp [intOf]; omega
    · have hstop : k = l.length ∨ k = 9 ∨ ∃ h : k < l.length, l[k].toNat < 128 := by
        by_cases c1 : k = l.length
        · exact .inl c1
        · by_cases c2 : k = 9
          · exact .inr (.inl c2)
          · refine .inr (.inr ⟨by omega, ?_⟩)
            by_cases c3 : l[k].toNat < 128
            · exact c3
            · exact absurd ⟨by omega, by omega, by omega⟩ hgo
      have HM := hide (numMany_eq l k hk hk9 HA.out hstop)
      by_cases c1 : k = l.length
      · have HN : Hid (numAt l = (0, 0, 1)) := by show _ = _; simp [numAt, HM.out, c1]
        go_wp2
        go_ret3
        exact ⟨by rw [HN.out]; rfl, rfl⟩
      · have hkl : k < l.length := by omega
        have c1' : ((k : Int) == (l.length : Int)) = false := by rw [beq_eq_false_iff_ne]; omega
        have HT : Hid ((l.take (k + 1)).length = k + 1) := by show _ = _; rw [List.length_take]; omega
        have HG : Hid (∀ j (hj : j < k + 1) (hl : j < l.length), (l.take (k + 1))[j]'(by rw [HT.out]; exact hj) = l[j]) := fun j hj hl => List.getElem_take ..
        by_cases c2 : k = 9
        · subst c2
          have t9 : ((9 : Int) == (l.length : Int)) = false := by rw [beq_eq_false_iff_ne]; omega
          by_cases d : 1 < l[9].toNat
          · have d' : (1 : Int) < (l[9].toNat : Int) := by omega
            have HN : Hid (numAt l = (0, 0, 3)) := by show _ = _; unfold numAt; rw [HM.out, if_neg c1, if_pos ⟨rfl, by rw [getD_get _ _ hkl]; exact d⟩]
            clear c1 d hgo hstop
            go_wp2
            all_goals go_ret3
            all_goals exact ⟨by rw [HN.out]; rfl, rfl⟩
          · have d' : ¬ (1 : Int) < (l[9].toNat : Int) := by omega
            have HO : Hid (numAt l = (numVal (l.take 10), 10, 0)) := by show _ = _; unfold numAt; rw [HM.out, if_neg c1, if_neg (fun h => d (by have := h.2; rw [getD_get _ _ hkl] at this; exact this))]
            have HV : Hid (numVal (l.take 10) < 18446744073709551616) := numVal_ten _ HT.out (by rw [List.getD_eq_getElem?_getD, List.getElem?_take_of_lt (by omega), ← List.getD_eq_getElem?_getD, getD_get _ _ hkl]; exact d)
            clear c1 d hgo hstop
            generalize l.take 10 = T at HT HG HO HV
            go_wp2
            go_loop [6, 7] (fun n i => ∃ (m : Int) (N : Nat), -1 ≤ m ∧ m < 10 ∧ i = .int .i64 m ∧ n = .int .u64 N ∧ Hid (N = numVal (T.drop (m + 1).toNat))) (fun _ i => (intOf i + 1).toNat)
            case atStart => exact ⟨9, 0, by omega, by omega, rfl, rfl, by show _ = _; rw [List.drop_eq_nil_of_le (by rw [HT.out]; omega)]; rfl⟩
            case round =>
              obtain ⟨m, N, hm1, hm2, rfl, rfl, HN⟩ := hrel
              by_cases hm : 0 ≤ m
              · obtain ⟨j, rfl⟩ := Int.eq_ofNat_of_zero_le hm
                have hjl : j < l.length := by omega
                have HD : Hid (IntKind.u64.wrap (IntKind.u64.wrap ((N : Int) * 128) + (l[j].toNat : Int) % 128) = ((numVal (T.drop j) : Nat) : Int)) := by
                  have e := numVal_drop T j (by rw [HT.out]; omega)
                  have e2 := numVal_drop_le T j
                  have e3 := HV.out
                  have e4 : N = numVal (T.drop (j + 1)) := HN.out
                  rw [HG.out j (by omega) hjl] at e
                  show _ = _
                  rw [wrap_u64_small ((N : Int) * 128) (by omega) (by omega), wrap_u64_small _ (by omega) (by omega)]
                  omega
                go_wp2
                go_round
                case rel => exact ⟨(j : Int) - 1, numVal (T.drop j), by omega, by omega, rfl, by rw [HD.out], by show _ = _; rw [show ((j : Int) - 1 + 1).toNat = j from by omega]⟩
                case measure => simp [intOf]
              · go_wp2
                go_ret3
                obtain rfl : m = -1 := by omega
                exact ⟨by rw [HO.out, HN.out]; rfl, rfl⟩
        · have hlow : l[k].toNat < 128 := by
            rcases hstop with h | h | ⟨_, h⟩
            · omega
            · omega
            · exact h
          have t1 : ¬ (128 : Int) ≤ (l[k].toNat : Int) := by omega
          have t9 : ((k : Int) == 9) = false := by rw [beq_eq_false_iff_ne]; omega
          have HO : Hid (numAt l = (numVal (l.take (k + 1)), k + 1, 0)) := by show _ = _; simp [numAt, HM.out, c1, c2]
          have HV : Hid (numVal (l.take (k + 1)) < 18446744073709551616) := numVal_nine _ (by rw [HT.out]; omega)
          have C2 := hide c2
          clear c1 hgo hstop c2
          generalize l.take (k + 1) = T at HT HG HO HV
          go_wp2
          go_loop [6, 7] (fun n i => ∃ (m : Int) (N : Nat), -1 ≤ m ∧ m < k + 1 ∧ i = .int .i64 m ∧ n = .int .u64 N ∧ Hid (N = numVal (T.drop (m + 1).toNat))) (fun _ i => (intOf i + 1).toNat)
          case atStart => exact ⟨k, 0, by omega, by omega, rfl, rfl, by show _ = _; rw [List.drop_eq_nil_of_le (by rw [HT.out]; omega)]; rfl⟩
          case round =>
            obtain ⟨m, N, hm1, hm2, rfl, rfl, HN⟩ := hrel
            by_cases hm : 0 ≤ m
            · obtain ⟨j, rfl⟩ := Int.eq_ofNat_of_zero_le hm
              have hjl : j < l.length := by omega
              have HD : Hid (IntKind.u64.wrap (IntKind.u64.wrap ((N : Int) * 128) + (l[j].toNat : Int) % 128) = ((numVal (T.drop j) : Nat) : Int)) := by
                have e := numVal_drop T j (by rw [HT.out]; omega)
                have e2 := numVal_drop_le T j
                have e3 := HV.out
                have e4 : N = numVal (T.drop (j + 1)) := HN.out
                rw [HG.out j (by omega) hjl] at e
                show _ = _
                rw [wrap_u64_small ((N : Int) * 128) (by omega) (by omega), wrap_u64_small _ (by omega) (by omega)]
                omega
              go_wp2
              go_round
              case rel => exact ⟨(j : Int) - 1, numVal (T.drop j), by omega, by omega, rfl, by rw [HD.out], by show _ = _; rw [show ((j : Int) - 1 + 1).toNat = j from by omega]⟩
              case measure => simp [intOf]
            · go_wp2
              go_ret3
              obtain rfl : m = -1 := by omega
              exact ⟨by rw [HO.out, HN.out]; rfl, rfl⟩
end Go.Proofs.YtmdakfmecfcbhaaGreat
namespace Go.Proofs.YtmdakfmecfcbhaaGreat
theorem takeWhile_ends (p : UInt8 → Bool) : ∀ (l : List UInt8), (∀ j (h : j < l.length), j < (l.takeWhile p).length → p l[j] = true) ∧ ((l.takeWhile p).length = l.length ∨ ∃ h : (l.takeWhile p).length < l.length, p (l[(l.takeWhile p).length]'h) = false)
  | [] => by simp
  | c :: l => by
    have ih := takeWhile_ends p l
    by_cases hc : p c = true
    · simp only [List.takeWhile_cons, hc, if_true, List.length_cons]
      refine ⟨fun j h hj => ?_, ?_⟩
      · cases j with
        | zero => simpa using hc
        | succ j => have := ih.1 j (by simpa using h) (by omega); simpa using this
      · rcases ih.2 with h | ⟨h, h'⟩
        · exact .inl (by omega)
        · exact .inr ⟨by omega, by simpa using h'⟩
    · have hc' : p c = false := by simpa using hc
      simp [List.takeWhile_cons, hc']
theorem numMany_ends (l : List UInt8) : numMany l ≤ l.length ∧ numMany l ≤ 9 ∧ (∀ j (h : j < l.length), j < numMany l → 128 ≤ l[j].toNat) ∧ (numMany l = l.length ∨ numMany l = 9 ∨ ∃ h : numMany l < l.length, (l[numMany l]'h).toNat < 128) := by
  have h := takeWhile_ends (fun c => decide (128 ≤ c.toNat)) (l.take 9)
  have hle : numMany l ≤ (l.take 9).length := by
    unfold numMany
    rcases h.2 with h | ⟨h, _⟩ <;> omega
  rw [List.length_take] at hle
  refine ⟨by omega, by omega, fun j hj hk => ?_, ?_⟩
  · have := h.1 j (by rw [List.length_take]; omega) hk
    rw [List.getElem_take] at this
    simpa using this
  · rcases h.2 with h | ⟨h, h'⟩
    · have : numMany l = min 9 l.length := by unfold numMany; rw [h, List.length_take]
      omega
    · have hm : numMany l < min 9 l.length := by rw [← List.length_take]; exact h
      refine .inr (.inr ⟨by omega, ?_⟩)
      rw [List.getElem_take] at h'
      have h2 : ¬ 128 ≤ (l[numMany l]'(by omega)).toNat := by simpa [numMany] using h'
      omega
/-- Both ways to read a number agree, but for which error. -/
theorem numAt_read (l : List UInt8) : ((numAt l).2.2 = 0 ∧ readNum l = numAt l) ∨ ((numAt l).2.2 ≠ 0 ∧ (readNum l).2.2 ≠ 0) := by
  obtain ⟨h1, h2, h3, h4⟩ := numMany_ends l
  by_cases c1 : numMany l = l.length
  · right
    have hz : numSize l = 0 := numSize_miss l fun j hj => by have := h3 j hj (by omega); omega
    unfold numAt readNum
    rw [if_pos c1, if_pos hz]
    simp
  · by_cases c2 : numMany l = 9 ∧ 1 < (l.getD 9 0).toNat
    · right
      have hl : 9 < l.length := by omega
      have hg := getD_get l 9 hl
      have h9 := c2.2
      rw [hg] at h9
      unfold numAt
      rw [if_neg c1, if_pos c2]
      refine ⟨by simp, ?_⟩
      by_cases c3 : l[9].toNat < 128
      · have hz : numSize l = 10 := numSize_hit l 9 hl (fun j hj hk => by have := h3 j hj (by omega); omega) (by omega)
        unfold readNum
        rw [hz, if_neg (by omega), if_pos (.inr ⟨rfl, c2.2⟩)]
        simp
      · unfold readNum
        by_cases hz : numSize l = 0
        · rw [if_pos hz]; simp
        · by_cases hz2 : 10 < numSize l
          · rw [if_neg hz, if_pos (.inl hz2)]; simp
          · exfalso
            -- a hit at ten or below would be at a byte below 128
            have key : ∀ k, (hk : k < l.length) → numSize l = k + 1 → l[k].toNat < 128 := by
              intro k hk e
              unfold numSize at e
              split at e
              · rename_i i hi
                obtain ⟨hlt, hp, _⟩ := List.findIdx?_eq_some_iff_getElem.1 hi
                have : i = k := by omega
                subst this
                simpa using hp
              · omega
            have hle := numSize_le l
            obtain ⟨k, hk⟩ : ∃ k, numSize l = k + 1 := ⟨numSize l - 1, by omega⟩
            have := key k (by omega) hk
            by_cases e : k = 9
            · subst e; exact c3 this
            · have := h3 k (by omega) (by omega); omega
    · left
      have hlow : ∃ h : numMany l < l.length, (l[numMany l]'h).toNat < 128 := by
        rcases h4 with h | h | h
        · exact absurd h c1
        · have hl : 9 < l.length := by omega
          have h9 : ¬ 1 < (l.getD 9 0).toNat := fun k => c2 ⟨h, k⟩
          rw [getD_get l 9 hl] at h9
          exact ⟨by omega, by simp only [h]; omega⟩
        · exact h
      obtain ⟨hl, hlow⟩ := hlow
      have hz : numSize l = numMany l + 1 := numSize_hit l (numMany l) hl (fun j hj hk => by have := h3 j hj hk; omega) (by omega)
      unfold numAt readNum
      rw [if_neg c1, if_neg c2, hz, if_neg (by omega), if_neg (fun h => by
        rcases h with h | ⟨h, h'⟩
        · omega
        · exact c2 ⟨by omega, h'⟩)]
      exact ⟨rfl, rfl⟩
theorem cutNum_at (l : List UInt8) : cutNum l = if (numAt l).2.2 = 0 then some ((numAt l).1, l.drop (numAt l).2.1) else none := by
  unfold cutNum
  rcases numAt_read l with ⟨h1, h2⟩ | ⟨h1, h2⟩
  · rw [h2, if_pos h1]
  · rw [if_neg h2, if_neg h1]
/-- A field with its bytes as they stand; what it is in the program's. -/
def asFld (f : Fld) : Fld := if f.1 % 8 = 1 then (f.1, lowB f.2.2, []) else if f.1 % 8 = 5 then (f.1, 0, []) else f
def rawField (l : List UInt8) : Option (Fld × List UInt8) :=
  match cutNum l with
  | none => none
  | some (h, r) =>
    if h / 8 < 1 ∨ 536870911 < h / 8 then none
    else if h % 8 = 0 then
      match cutNum r with
      | none => none
      | some (n, r') => some ((h, n, []), r')
    else if h % 8 = 1 then (if 8 ≤ r.length then some ((h, 0, r.take 8), r.drop 8) else none)
    else if h % 8 = 2 then
      match cutNum r with
      | none => none
      | some (n, r') => if n ≤ r'.length then some ((h, 0, r'.take n), r'.drop n) else none
    else if h % 8 = 5 then (if 4 ≤ r.length then some ((h, 0, r.take 4), r.drop 4) else none)
    else none
theorem oneField_raw (l : List UInt8) : oneField l = (rawField l).map fun x => (asFld x.1, x.2) := by
  unfold oneField rawField
  cases cutNum l with
  | none => rfl
  | some x =>
    obtain ⟨h, r⟩ := x
    simp only
    by_cases c0 : h / 8 < 1 ∨ 536870911 < h / 8
    · simp only [c0, if_true, Option.map_none]
    · rw [if_neg c0, if_neg c0]
      by_cases c1 : h % 8 = 0
      · rw [if_pos c1, if_pos c1]
        cases cutNum r with
        | none => rfl
        | some y => simp [asFld, c1]
      · rw [if_neg c1, if_neg c1]
        by_cases c2 : h % 8 = 1
        · rw [if_pos c2, if_pos c2]
          by_cases c : 8 ≤ r.length
          · simp [c, asFld, c2]
          · simp [c]
        · rw [if_neg c2, if_neg c2]
          by_cases c3 : h % 8 = 2
          · rw [if_pos c3, if_pos c3]
            cases cutNum r with
            | none => rfl
            | some y =>
              by_cases c : y.1 ≤ y.2.length
              · simp [c, asFld, c3]
              · simp [c]
          · rw [if_neg c3, if_neg c3]
            by_cases c4 : h % 8 = 5
            · rw [if_pos c4, if_pos c4]
              by_cases c : 4 ≤ r.length
              · simp [c, asFld, c4]
              · simp [c]
            · rw [if_neg c4, if_neg c4]; rfl
def rawF : Nat → List UInt8 → List Fld × Bool
  | 0, _ => ([], true)
  | k + 1, l =>
    if l = [] then ([], true)
    else
      match rawField l with
      | none => ([], false)
      | some (f, r) => (f :: (rawF k r).1, (rawF k r).2)
def raws (l : List UInt8) : List Fld × Bool := rawF l.length l
theorem fieldsF_raw : ∀ (k : Nat) (l : List UInt8), fieldsF k l = ((rawF k l).1.map asFld, (rawF k l).2)
  | 0, l => rfl
  | k + 1, l => by
    simp only [fieldsF, rawF]
    split
    · rfl
    · rw [oneField_raw]
      cases rawField l with
      | none => rfl
      | some x =>
        obtain ⟨f, r⟩ := x
        simp [fieldsF_raw k r]
/-- The program's fields are the reference's, told otherwise. -/
theorem fields_raw (l : List UInt8) : fields l = ((raws l).1.map asFld, (raws l).2) := fieldsF_raw _ _
theorem rawField_shorter {l r : List UInt8} {f : Fld} (h : rawField l = some (f, r)) : r.length < l.length := by
  have e := oneField_raw l
  rw [h] at e
  exact (oneField_shorter e).1
theorem rawF_any : ∀ (k k' : Nat) (l : List UInt8), l.length ≤ k → l.length ≤ k' → rawF k l = rawF k' l := by
  intro k
  induction k with
  | zero =>
    intro k' l h _
    have : l = [] := List.eq_nil_of_length_eq_zero (by omega)
    subst this
    cases k' <;> rfl
  | succ k ih =>
    intro k' l h h'
    cases k' with
    | zero =>
      have : l = [] := List.eq_nil_of_length_eq_zero (by omega)
      subst this
      rfl
    | succ k' =>
      simp only [rawF]
      split
      · rfl
      · split
        · rfl
        · rename_i f r hf
          have := rawField_shorter hf
          rw [ih k' r (by omega) (by omega)]
theorem raws_nil : raws [] = ([], true) := rfl
theorem raws_none {l : List UInt8} (h0 : l ≠ []) (h : rawField l = none) : raws l = ([], false) := by
  cases l with
  | nil => exact absurd rfl h0
  | cons c l => simp [raws, rawF, h]
theorem raws_some {l r : List UInt8} {f : Fld} (h0 : l ≠ []) (h : rawField l = some (f, r)) : raws l = (f :: (raws r).1, (raws r).2) := by
  have hr := rawField_shorter h
  cases l with
  | nil => exact absurd rfl h0
  | cons c l =>
    simp only [List.length_cons] at hr
    simp only [raws, List.length_cons, rawF, List.cons_ne_nil, if_false, h]
    rw [rawF_any l.length r.length r (by omega) (Nat.le_refl _)]
end Go.Proofs.YtmdakfmecfcbhaaGreat
namespace Go.Proofs.YtmdakfmecfcbhaaGreat
open Go.RowKit
attribute [local go_sem] bs_size bs_toList bs_append bs_get bs_extract
set_option maxRecDepth 20000 in
set_option maxHeartbeats 1000000 in
theorem isTime_any (t : Int) (w : World) :
    Calls Tryz.prog 26 #[.int .i64 t] w fun e w' => e = .returned (.bool (decide (-9007199254740991 ≤ t) && decide (t ≤ 9007199254740991))) ∧ w' = w := by
  go_enter Tryz.func26, Tryz.ntmps26
  by_cases h : -9007199254740991 ≤ t
  · by_cases h' : t ≤ 9007199254740991
    · go_wp2
      go_ret
      simp [h, h']
    · go_wp2
      go_ret
      simp [h, h']
  · go_wp2
    go_ret
    simp
    omega
theorem countsB_bad {ls : List Ser} {k : Nat} (hk : k < ls.length) (h : ¬ (ls[k].1.length ≤ 20 ∧ ls[k].2.length ≤ 200 ∧ ∀ y ∈ ls[k].1, y.1.length ≤ 20000 ∧ y.2.length ≤ 20000)) : countsB ls = false := by
  cases e : countsB ls with
  | false => rfl
  | true => exact absurd (((countsB_iff ls).2 e).2 _ (List.getElem_mem hk)) h
set_option maxRecDepth 20000 in
set_option maxHeartbeats 2000000 in
theorem tooMany_any (w : World) (v : Value) (ls : List Ser) (hv : readsSeries w w.heap.size v ls) (hfit : lensFit ls) :
    Calls Tryz.prog 87 #[v] w fun e w' => e = .returned (.bool (!countsB ls)) ∧ w' = w := by
  obtain ⟨ao, cp, rfl, hcells⟩ := id hv
  have HL := hfit.1
  have HI := hide hfit.2
  clear hfit hv
  go_enter Tryz.func87, Tryz.ntmps87
  go_wp2
  go_loop [3] (fun i => ∃ k : Nat, k ≤ ls.length ∧ i = .int .i64 k ∧ Hid (∀ j (h : j < ls.length), j < k → serFits ls[j])) (fun i => ls.length - (intOf i).toNat)
  case atStart => exact ⟨0, by omega, rfl, hide (fun j _ h => by omega)⟩
  case round =>
    obtain ⟨k, hk, rfl, HD⟩ := hrel
    by_cases hlt : k < ls.length
    · obtain ⟨lb, lo, x, y, rfl, hlB, c0, c1, rx, ry⟩ := hcells k hlt
      obtain ⟨xo, xc, rfl, xcells⟩ := id rx
      obtain ⟨yo, yc, rfl, _⟩ := id ry
      clear hcells
      have HK := HI.out _ (List.getElem_mem hlt)
      have HK1 := HK.1
      have HK2 := HK.2.1
      have HK3 := hide HK.2.2
      clear HK
      by_cases h20 : ls[k].1.length ≤ 20
      · by_cases hs200 : ls[k].2.length ≤ 200
        · go_wp2
          go_loop [4] (fun i => ∃ q : Nat, q ≤ ls[k].1.length ∧ i = .int .i64 q ∧ Hid (∀ j (h : j < ls[k].1.length), j < q → ls[k].1[j].1.length ≤ 20000 ∧ ls[k].1[j].2.length ≤ 20000)) (fun i => ls[k].1.length - (intOf i).toNat)
          case atStart => exact ⟨0, by omega, rfl, hide (fun j _ h => by omega)⟩
          case round =>
            obtain ⟨q, hq, rfl, HQ⟩ := hrel
            by_cases hqlt : q < ls[k].1.length
            · obtain ⟨nb, no, rfl, hnB, e0, e1⟩ := xcells q hqlt
              clear xcells
              have hQQ := HK3.out _ (List.getElem_mem hqlt)
              by_cases hn : ls[k].1[q].1.length ≤ 20000
              · by_cases hm : ls[k].1[q].2.length ≤ 20000
                · go_wp2
                  go_round
                  case rel => exact ⟨q + 1, by omega, by go_num, hide (fun j hj h => by
                    by_cases e : j = q
                    · subst e; exact ⟨hn, hm⟩
                    · exact HQ.out j hj (by omega))⟩
                  case measure => simp [intOf]; omega
                · have hb := hide (countsB_bad hlt (fun h => hm (h.2.2 _ (List.getElem_mem hqlt)).2))
                  go_wp2
                  go_ret
                  exact ⟨by rw [hb.out]; rfl, rfl⟩
              · have hb := hide (countsB_bad hlt (fun h => hn (h.2.2 _ (List.getElem_mem hqlt)).1))
                go_wp2
                go_ret
                exact ⟨by rw [hb.out]; rfl, rfl⟩
            · go_wp2
              go_round
              case rel => exact ⟨k + 1, by omega, by go_num, hide (fun j hj h => by
                by_cases e : j = k
                · subst e
                  refine ⟨h20, hs200, fun y hy => ?_⟩
                  obtain ⟨p, hp, rfl⟩ := List.getElem_of_mem hy
                  exact HQ.out p hp (by omega)
                · exact HD.out j hj (by omega))⟩
              case measure => simp [intOf]; omega
        · have hb := hide (countsB_bad hlt (fun h => hs200 h.2.1))
          go_wp2
          go_ret
          exact ⟨by rw [hb.out]; rfl, rfl⟩
      · have hb := hide (countsB_bad hlt (fun h => h20 h.1))
        go_wp2
        go_ret
        exact ⟨by rw [hb.out]; rfl, rfl⟩
    · have hall : ∀ x ∈ ls, serFits x := fun x hx => by obtain ⟨p, hp, rfl⟩ := List.getElem_of_mem hx; exact HD.out p hp (by omega)
      by_cases h200 : ls.length ≤ 200
      · have hb := hide ((countsB_iff ls).1 ⟨h200, hall⟩)
        clear hall
        go_wp2
        go_ret
        exact ⟨ret_bool (by rw [hb.out]; simp; omega), rfl⟩
      · have hb : Hid (countsB ls = false) := by
          show _ = _
          cases e : countsB ls with
          | false => rfl
          | true => exact absurd ((countsB_iff ls).2 e).1 h200
        clear hall
        go_wp2
        go_ret
        exact ⟨ret_bool (by rw [hb.out]; simp; omega), rfl⟩
theorem timesB_bad {ls : List Ser} {k q : Nat} (hk : k < ls.length) (hq : q < ls[k].2.length) (h : ¬ (-9007199254740991 ≤ ls[k].2[q].1 ∧ ls[k].2[q].1 ≤ 9007199254740991)) : timesB ls = false := by
  cases e : timesB ls with
  | false => rfl
  | true => exact absurd (((timesB_iff ls).2 e) _ (List.getElem_mem hk) _ (List.getElem_mem hq)) h
def checkErr (l : List Ser) : Int := if countsB l then (if timesB l then 0 else 3) else 2
set_option maxRecDepth 20000 in
set_option maxHeartbeats 2000000 in
theorem checkSeries_any (w : World) (v : Value) (ls : List Ser) (hv : readsSeries w w.heap.size v ls) (hfit : lensFit ls) :
    Calls Tryz.prog 60 #[v] w fun e w' => e = .returned (.int .i64 (checkErr ls)) ∧ w' = w := by
  obtain ⟨ao, cp, hvv, hcells⟩ := id hv
  have HF := hide hfit
  have HV := hide hv
  have HL := hfit.1
  clear hfit hv
  cases hc : countsB ls with
  | false =>
    have HC : Hid (countsB ls = false) := hc
    clear hc
    subst hvv
    go_enter Tryz.func60, Tryz.ntmps60
    go_wp2_with fail
    refine (tooMany_any w _ ls HV.out HF.out).mono ?_
    rintro e w' ⟨rfl, rfl⟩
    rw [HC.out]
    go_wp2
    go_ret
    exact ⟨by simp [checkErr, HC.out], rfl⟩
  | true =>
    have HC : Hid (countsB ls = true) := hc
    have h200 := ((countsB_iff ls).2 hc).1
    have HS := hide ((countsB_iff ls).2 hc).2
    clear hc
    subst hvv
    go_enter Tryz.func60, Tryz.ntmps60
    go_wp2_with fail
    refine (tooMany_any w _ ls HV.out HF.out).mono ?_
    rintro e w' ⟨rfl, rfl⟩
    rename World => w
    rw [HC.out]
    clear HL
    go_wp2
    go_loop [3] (fun i => ∃ k : Nat, k ≤ ls.length ∧ i = .int .i64 k ∧ Hid (∀ j (h : j < ls.length), j < k → ∀ y ∈ ls[j].2, -9007199254740991 ≤ y.1 ∧ y.1 ≤ 9007199254740991)) (fun i => ls.length - (intOf i).toNat)
    case atStart => exact ⟨0, by omega, rfl, hide (fun j _ h => by omega)⟩
    case round =>
      obtain ⟨k, hk, rfl, HD⟩ := hrel
      by_cases hlt : k < ls.length
      · obtain ⟨lb, lo, x, y, rfl, hlB, c0, c1, rx, ry⟩ := hcells k hlt
        obtain ⟨yo, yc, rfl, ycells⟩ := id ry
        clear hcells
        have hs200 : ls[k].2.length ≤ 200 := (HS.out _ (List.getElem_mem hlt)).2.1
        go_wp2
        go_loop [4] (fun i => ∃ q : Nat, q ≤ ls[k].2.length ∧ i = .int .i64 q ∧ Hid (∀ j (h : j < ls[k].2.length), j < q → -9007199254740991 ≤ ls[k].2[j].1 ∧ ls[k].2[j].1 ≤ 9007199254740991)) (fun i => ls[k].2.length - (intOf i).toNat)
        case atStart => exact ⟨0, by omega, rfl, hide (fun j _ h => by omega)⟩
        case round =>
          obtain ⟨q, hq, rfl, HQ⟩ := hrel
          by_cases hqlt : q < ls[k].2.length
          · obtain ⟨nb, no, rfl, hnB, e0, e1⟩ := ycells q hqlt
            clear ycells
            have hnot : ∀ (x : Bool) (w : World), (Op.unary .not (.bool x)).run Tryz.prog w = .ok (.bool (!x)) w := fun _ _ => rfl
            by_cases ht : -9007199254740991 ≤ ls[k].2[q].1 ∧ ls[k].2[q].1 ≤ 9007199254740991
            · have HT : Hid ((decide (-9007199254740991 ≤ ls[k].2[q].1) && decide (ls[k].2[q].1 ≤ 9007199254740991)) = true) := by show _ = _; simp [ht]
              clear ht
              go_wp2_with (go_at_call 26; refine (isTime_any _ _).mono ?_; rintro e w' ⟨rfl, rfl⟩; rw [HT.out])
              go_round
              case rel => exact ⟨q + 1, by omega, by go_num, hide (fun j hj h => by
                by_cases e : j = q
                · subst e; simpa using HT.out
                · exact HQ.out j hj (by omega))⟩
              case measure => simp [intOf]; omega
            · have HT : Hid ((decide (-9007199254740991 ≤ ls[k].2[q].1) && decide (ls[k].2[q].1 ≤ 9007199254740991)) = false) := by show _ = _; simpa using ht
              have hb := hide (timesB_bad hlt hqlt ht)
              clear ht
              go_wp2_with (go_at_call 26; refine (isTime_any _ _).mono ?_; rintro e w' ⟨rfl, rfl⟩; rw [HT.out])
              go_ret
              exact ⟨by simp [checkErr, HC.out, hb.out], rfl⟩
          · go_wp2
            go_round
            case rel => exact ⟨k + 1, by omega, by go_num, hide (fun j hj h y hy => by
              by_cases e : j = k
              · subst e
                obtain ⟨p, hp, rfl⟩ := List.getElem_of_mem hy
                exact HQ.out p hp (by omega)
              · exact HD.out j hj (by omega) y hy)⟩
            case measure => simp [intOf]; omega
      · have hb := hide ((timesB_iff ls).1 (fun x hx => by obtain ⟨p, hp, rfl⟩ := List.getElem_of_mem hx; exact HD.out p hp (by omega)))
        go_wp2
        go_ret
        exact ⟨by simp [checkErr, HC.out, hb.out], rfl⟩
set_option maxRecDepth 20000 in
set_option maxHeartbeats 1000000 in
theorem wireBegun_any (w : World) :
    Calls Tryz.prog 14 #[] w fun e w' => e = .returned (.bool true) ∧ Below w.heap.size w w' := by
  go_enter Tryz.func14, Tryz.ntmps14
  go_wp2_with fail
  refine (number_any 300 w (by omega)).mono ?_
  rintro e w1 ⟨rfl, hb1⟩
  have hadd : (Op.stringOp .add (bs (numB 300)) { data := #[120] }).run Tryz.prog w1 = .ok (.string (bs (numB 300 ++ [120]))) w1 := by
    have h := run_string_add_sum (P := Tryz.prog) w1 (bs (numB 300)) { data := #[120] } (by rw [bs_size]; have := numB_length 300; show _ + 1 ≤ _; omega)
    rw [h]
    exact congrArg (fun s => Result.ok (Value.string s) w1) (bs_append (numB 300) [120])
  go_wp2_with fail
  refine (readNumber_any (numB 300 ++ [120]) w1 (by have := numB_length 300; simp [maxLen]; omega)).mono ?_
  rintro e w2 ⟨rfl, rfl⟩
  have e1 : readNum (numB 300 ++ [120]) = (300, 2, 0) := by decide +kernel
  rw [e1]
  go_wp2_with fail
  have hs2 := hb1.size
  have h0 : Below w.heap.size w ((w2.alloc (.cells #[.string { data := #[97] }, .string { data := #[98] }] 62)).alloc (.cells #[.slice (some ⟨w2.heap.size, 0, none⟩) 1 1, .slice none 0 0] 41)) := (hb1.alloc hs2 _).alloc (by simp; omega) _
  have c0 : ((w2.alloc (.cells #[.string { data := #[97] }, .string { data := #[98] }] 62)).alloc (.cells #[.slice (some ⟨w2.heap.size, 0, none⟩) 1 1, .slice none 0 0] 41)).heap[w2.heap.size]? = some (.cells #[.string { data := #[97] }, .string { data := #[98] }] 62 (0, 0)) := by
    rw [Below.heap_alloc _ _ _ (by simp)]; exact heap_alloc_new _ _
  have c1 : ((w2.alloc (.cells #[.string { data := #[97] }, .string { data := #[98] }] 62)).alloc (.cells #[.slice (some ⟨w2.heap.size, 0, none⟩) 1 1, .slice none 0 0] 41)).heap[w2.heap.size + 1]? = some (.cells #[.slice (some ⟨w2.heap.size, 0, none⟩) 1 1, .slice none 0 0] 41 (0, 0)) := by
    have := heap_alloc_new (w2.alloc (.cells #[.string { data := #[97] }, .string { data := #[98] }] 62)) (.cells #[.slice (some ⟨w2.heap.size, 0, none⟩) 1 1, .slice none 0 0] 41)
    simpa using this
  have hr : readsSeries ((w2.alloc (.cells #[.string { data := #[97] }, .string { data := #[98] }] 62)).alloc (.cells #[.slice (some ⟨w2.heap.size, 0, none⟩) 1 1, .slice none 0 0] 41)) ((w2.alloc (.cells #[.string { data := #[97] }, .string { data := #[98] }] 62)).alloc (.cells #[.slice (some ⟨w2.heap.size, 0, none⟩) 1 1, .slice none 0 0] 41)).heap.size (.slice (some ⟨w2.heap.size + 1, 0, none⟩) 1 1) [([([97], [98])], [])] := by
    refine ⟨_, 1, rfl, fun i hi => ?_⟩
    obtain rfl : i = 0 := by simpa using hi
    refine ⟨_, _, _, _, rfl, by simp, (two_cells c1).1, (two_cells c1).2, ⟨_, 1, rfl, fun j hj => ?_⟩, ⟨none, 0, rfl, fun j hj => by simp at hj⟩⟩
    obtain rfl : j = 0 := by simpa using hj
    exact ⟨_, _, rfl, by simp; omega, (two_cells c0).1, (two_cells c0).2⟩
  refine (write_any _ _ [([([97], [98])], [])] hr (by simp [bitsFit]) (by simp [lensFit])).mono ?_
  rintro e w4 ⟨rfl, hb4⟩
  have hbel : Below w.heap.size w w4 := h0.trans (hb4.mono h0.size)
  have e2 : writeErr [([([97], [98])], [])] = 0 := by decide +kernel
  have e3 : (writeTxt [([([97], [98])], [])]).length = 10 := by decide +kernel
  rw [e2]
  clear c0 c1 hr h0 hb4 hb1 hs2 e2 hadd e1
  go_wp2
  go_ret
  exact ⟨rfl, hbel⟩
end Go.Proofs.YtmdakfmecfcbhaaGreat
