/- labels: Make, With. -/
import Derived.Test.YtdlmgkncneifaaaGreatProg
import Derived.Test.YtdlmgkncneifaaaGreatKit
import Derived.Test.YtdlmgkncneifaaaGreatLSpec
import Derived.Test.YtdlmgkncneifaaaGreatReg
import Derived.Test.YtdlmgkncneifaaaGreatLRow
import Derived.Test.YtdlmgkncneifaaaGreatLChk
import Derived.Test.YtdlmgkncneifaaaGreatLTwi
import Derived.Test.YtdlmgkncneifaaaGreatLCat
import Derived.Test.YtdlmgkncneifaaaGreatLGet
import Derived.Test.YtdlmgkncneifaaaGreatLSrt
set_option linter.unusedVariables false
set_option linter.unusedSimpArgs false
namespace Go.Proofs.YtdlmgkncneifaaaGreat.Lb
open Go.RowKit
attribute [local go_sem] bs_size bs_toList bs_append bs_get bs_extract

theorem twice_filter {l : List Lab} (p : Lab → Bool) (h : twiceB l = false) : twiceB (l.filter p) = false := by
  have h1 : (l.map (·.1)).Nodup := by simpa [twiceB] using h
  have h2 : ((l.filter p).map (·.1)).Nodup := h1.sublist (List.filter_sublist.map _)
  unfold twiceB
  simpa using h2
theorem make_none {l : List Lab} : (∀ x ∈ l, nameB x.1 = true ∧ 0 ≤ x.2.length ∧ x.2.length ≤ 100) → ∀ x ∈ l, x.1.length ≤ 1000 ∧ x.2.length ≤ 1000 := by
  intro h x hx
  have := h x hx
  have h2 := nameB_len this.1
  omega
theorem makeErr_each {l : List Lab} (h : eachErr 0 l ≠ 0) : makeErr l = eachErr 0 l := by unfold makeErr; rw [if_neg h]
theorem makeErr_twice {l : List Lab} (h : eachErr 0 l = 0) (k : twiceB l = true) : makeErr l = 6 := by unfold makeErr; rw [if_pos h, if_neg (by rw [k]; simp)]
theorem makeErr_ok {l : List Lab} (h : eachErr 0 l = 0) (k : twiceB l = false) : makeErr l = 0 := by unfold makeErr; rw [if_pos h, if_pos k]
theorem makeAns_no {l : List Lab} (h : makeErr l ≠ 0) : makeAns l = [] := by unfold makeAns; rw [if_neg h]
theorem makeAns_ok {l : List Lab} (h : makeErr l = 0) : makeAns l = makeL l := by unfold makeAns; rw [if_pos h]

set_option maxRecDepth 20000 in
set_option maxHeartbeats 1000000 in
theorem make_any (w : World) (v : Value) (ls : List Lab) (hv : readsLabels w w.heap.size v ls) (hlen : ls.length ≤ 9223372036854775807) (hin : lensOk ls) :
    Calls Tryz.prog 39 #[v] w fun e w' => ∃ v', e = .returned (.tuple #[v', .int .i64 (makeErr ls)]) ∧ ownLabels w' w.heap.size v' (makeAns ls) ∧ Below w.heap.size w w' := by
  have HV := hide hv
  have HI := hide hin
  clear hv hin
  go_enter Tryz.func39, Tryz.ntmps39
  go_wp2_with fail
  refine (checkEach_any w v ls 0 HV.out hlen HI.out (by omega)).mono ?_
  rintro e w1 ⟨rfl, hb1⟩
  have hs1 := hb1.size
  by_cases h0 : eachErr 0 ls = 0
  · obtain ⟨hl20, hn⟩ := eachErr_names h0
    have HL := hide (eachErr_zero.1 h0).2
    have HN := hide hn
    have H0 := hide h0
    clear hn
    rw [h0]
    clear h0
    have HV1 := hide (readsLabels_mono (readsLabels_below HV.out hb1) hb1.size)
    go_wp2_with fail
    refine (twice_any w1 v ls HV1.out hl20 (fun x hx => (HN.out x hx).1)).mono ?_
    rintro e w2 ⟨rfl, hb2'⟩
    have hb2 : Below w.heap.size w w2 := hb1.trans (hb2'.mono hs1)
    clear hb2'
    cases ht : twiceB ls with
    | true =>
      have HE := hide (makeErr_twice H0.out ht)
      clear ht
      go_wp2
      go_ret2
      exact ⟨_, ret2 rfl (vint (by rw [HE.out]; rfl)), by rw [makeAns_no (by rw [HE.out]; omega)]; exact World.ownsRow_nil _ _ _ _, hb2⟩
    | false =>
      have HE := hide (makeErr_ok H0.out ht)
      have HT := hide ht
      clear ht
      have hr0 : readsLabels w2 w2.heap.size (.slice none 0 0) [] := ⟨none, 0, rfl, fun i hi => by simp at hi⟩
      have HS := hide (sorted_any w2 v (.slice none 0 0) ls [] (readsLabels_mono (readsLabels_below HV.out hb2) hb2.size) hr0 (by omega) (by simp) (by rw [List.append_nil]; exact make_none HL.out) (by rw [List.append_nil]; exact twice_filter _ HT.out))
      go_wp2_with fail
      refine HS.out.mono ?_
      rintro e w3 ⟨v', d, rfl, hown, hr, hm, hb3⟩
      have HD : Hid (d = makeL ls) := makeL_uniq HT.out hr (fun y => by rw [hm y, List.append_nil])
      clear hr hm HS
      go_wp2
      go_ret2
      exact ⟨_, ret2 rfl (vint (by rw [HE.out]; rfl)), by rw [makeAns_ok HE.out, ← HD.out]; exact own_le hown hb2.size, hb2.trans (hb3.mono hb2.size)⟩
  · have H0 := hide h0
    have HE := hide (makeErr_each h0)
    have hne : ((eachErr 0 ls : Int) != 0) = true := by simpa using h0
    clear h0
    go_wp2
    go_ret2
    exact ⟨_, ret2 rfl (vint (by rw [HE.out])), by rw [makeAns_no (by rw [HE.out]; exact H0.out)]; exact World.ownsRow_nil _ _ _ _, hb1⟩

theorem withErr_get {l : List Lab} {n v : List UInt8} (h : getErr l n ≠ 0) : withErr l n v = getErr l n := by unfold withErr; rw [if_neg h]
theorem withErr_long {l : List Lab} {n v : List UInt8} (h : getErr l n = 0) (k : ¬ v.length ≤ 100) : withErr l n v = 2 := by unfold withErr; rw [if_pos h, if_neg k]
theorem withErr_many {l : List Lab} {n v : List UInt8} (h : getErr l n = 0) (k : v.length ≤ 100) (m : ¬ (putB l n v).length ≤ 20) : withErr l n v = 2 := by unfold withErr; rw [if_pos h, if_pos k, if_neg m]
theorem withErr_ok {l : List Lab} {n v : List UInt8} (h : getErr l n = 0) (k : v.length ≤ 100) (m : (putB l n v).length ≤ 20) : withErr l n v = 0 := by unfold withErr; rw [if_pos h, if_pos k, if_pos m]
theorem withAns_no {l : List Lab} {n v : List UInt8} (h : withErr l n v ≠ 0) : withAns l n v = [] := by unfold withAns; rw [if_neg h]
theorem withAns_ok {l : List Lab} {n v : List UInt8} (h : withErr l n v = 0) : withAns l n v = putB l n v := by unfold withAns; rw [if_pos h]

theorem twice_snoc {l : List Lab} {n v : List UInt8} (h : twiceB l = false) : twiceB ((l.filter fun x => decide (x.1 ≠ n)) ++ [(n, v)]) = false := by
  have h1 := twice_filter (fun x : Lab => decide (x.1 ≠ n)) h
  have h2 : ((l.filter fun x => decide (x.1 ≠ n)).map (·.1)).Nodup := by simpa [twiceB] using h1
  unfold twiceB
  rw [Bool.not_eq_false', decide_eq_true_iff, List.map_append, List.nodup_append]
  refine ⟨h2, by simp, fun a ha b hb => ?_⟩
  simp at hb
  subst hb
  obtain ⟨x, hx, rfl⟩ := List.mem_map.1 ha
  have := (List.mem_filter.1 hx).2
  simpa using this

theorem one_reads (w : World) (n v : List UInt8) : readsLabels (w.alloc (.cells #[.string (bs n), .string (bs v)] 69)) (w.alloc (.cells #[.string (bs n), .string (bs v)] 69)).heap.size (.slice (some ⟨w.heap.size, 0, none⟩) 1 1) [(n, v)] := by
  obtain ⟨c0, c1⟩ := two_cells (heap_alloc_new w (.cells #[.string (bs n), .string (bs v)] 69))
  refine ⟨_, _, rfl, fun i hi => ?_⟩
  match i, hi with
  | 0, _ => exact ⟨_, _, rfl, by simp, c0, c1⟩

end Go.Proofs.YtdlmgkncneifaaaGreat.Lb
