/- 1 texts in one. -/
import Derived.Laws.OwnMore
import Derived.Test.YtndpjdmfkhjiiaaGreatDoorProg
import Derived.Test.YtndpjdmfkhjiiaaGreatDoorK06d19db
import Derived.Test.YtndpjdmfkhjiiaaGreatDoorKf25e925
import Derived.Test.YtndpjdmfkhjiiaaGreatDoorKf8fa243
import Derived.Test.YtndpjdmfkhjiiaaGreatDoorKb1922dc
import Derived.BigFrame
import Derived.BigRegion
set_option linter.unusedVariables false
set_option linter.unusedSimpArgs false
namespace Go.Proofs.YtndpjdmfkhjiiaaGreatDoor.Rl
open Go.RowKit Lb
attribute [local go_sem] bs_size bs_toList bs_append bs_get bs_extract
def intoL : List Nat → List Nat × Nat
 | [] => ([], 0)
 | x :: l => ((65536 * (intoL l).2 + x) / 10000 :: (intoL l).1, (65536 * (intoL l).2 + x) % 10000)
theorem intoL_lt : ∀ l, (intoL l).2 < 10000
 | [] => by simp [intoL]
 | x :: l => by simp only [intoL]; omega
theorem intoL_len : ∀ l, (intoL l).1.length = l.length
 | [] => rfl
 | x :: l => by simp [intoL, intoL_len l]
def qAt (l : List Nat) (n : Nat) : List Int := List.replicate n 0 ++ (intoL (l.drop n)).1.map Int.ofNat
theorem qAt_all (l : List Nat) : qAt l l.length = List.replicate l.length 0 := by simp [qAt, intoL]
theorem qAt_next {l : List Nat} {k : Nat} (h : k < l.length) : (qAt l (k + 1)).set k (((65536 * (intoL (l.drop (k + 1))).2 + l[k]) / 10000 : Nat) : Int) = qAt l k := by
 unfold qAt
 rw [List.drop_eq_getElem_cons h, intoL, List.replicate_succ', List.append_assoc, List.set_append_right _ _ (by simp)]
 simp
theorem qAt_zero (l : List Nat) : qAt l 0 = (intoL l).1.map Int.ofNat := by simp [qAt]
theorem qAt_get {l : List Nat} {k : Nat} : (qAt l (k + 1))[k]? = some 0 := by
 unfold qAt
 rw [List.getElem?_append_left (by simp)]
 simp
theorem intoL_next {l : List Nat} {k : Nat} (h : k < l.length) : (intoL (l.drop k)).2 = (65536 * (intoL (l.drop (k + 1))).2 + l[k]) % 10000 := by
 rw [List.drop_eq_getElem_cons h, intoL]
theorem marks_reads {w : World} {b : Nat} {l : List Nat} (h : marksAt w b (l.map Int.ofNat)) : readsLim w w.heap.size (.slice (some ⟨b, 0, none⟩) l.length l.length) l := by
 refine ⟨_, _, rfl, Nat.le_refl _, fun i hi => ⟨b, 0, rfl, lt_of_block h, ?_⟩⟩
 have := marksAt.cell h (k := i) (x := ((l[i] : Nat) : Int)) (by simp [hi])
 rw [Nat.zero_add]
 exact this
theorem readsLim.keep {w w' : World} {B : Nat} {v : Value} {l : List Nat} (h : readsLim w B v l) (g : Below B w w') : readsLim w' B v l := by
 obtain ⟨ao, cp, hv, hc, h⟩ := h
 refine ⟨ao, cp, hv, hc, fun i hi => ?_⟩
 obtain ⟨b, o, e, hb, h1⟩ := h i hi
 exact ⟨b, o, e, hb, (g.cell (p := ⟨b, _, none⟩) hb).trans h1⟩
theorem readsLim.more {w : World} {B B' : Nat} {v : Value} {l : List Nat} (h : readsLim w B v l) (hB : B ≤ B') : readsLim w B' v l := by
 obtain ⟨ao, cp, hv, hc, h⟩ := h
 refine ⟨ao, cp, hv, hc, fun i hi => ?_⟩
 obtain ⟨b, o, e, hb, h1⟩ := h i hi
 exact ⟨b, o, e, by omega, h1⟩
set_option maxRecDepth 20000 in
set_option maxHeartbeats 4000000 in
theorem into_any (w : World) (l : List Nat) (va : Value) (hr : readsLim w w.heap.size va l) (hl : l.length ≤ 1000) (hlim : ∀ x ∈ l, x < 65536) (bb : Nat) (hb : w.cell? ⟨bb, 0, none⟩ = some (.int .i64 10000)) (hbb : bb < w.heap.size) :
  Calls Tryz.prog 51 #[va, .slice (some ⟨bb, 0, none⟩) 1 1] w fun e w' => Grow w w' ∧ ∃ v1 v2, e = .returned (.tuple #[v1, v2]) ∧ readsLim w' w'.heap.size v1 (trimL (intoL l).1) ∧ readsLim w' w'.heap.size v2 (trimL [(intoL l).2]) := by
 have hmk := make_ints l.length (by omega) w
 have HR := hide hr
 obtain ⟨ao, cp, rfl, hcp, hc⟩ := hr
 have HC := hide hc
 have HLIM := hide hlim
 have HB := hide hb
 obtain ⟨W, HW⟩ : ∃ W, Hid (W = w.alloc (.cells (Array.replicate l.length (Value.int .i64 0)) 3)) := ⟨_, hide rfl⟩
 have gW : Grow w W := by rw [HW.out]; exact (Grow.refl _).alloc _
 have hM : marksAt W w.heap.size (qAt l l.length) := by
  rw [HW.out, qAt_all]
  unfold marksAt
  rw [heap_alloc_new]
  simp
 have eW := HW.out.symm
 have HGW := hide gW
 have HM := hide hM
 clear hc hlim hb gW hM
 go_enter Tryz.func51, Tryz.ntmps51
 go_wp2
 clear eW hmk HW
 go_loopw [7, 8] (fun rv iv wr => ∃ n : Nat, n ≤ l.length ∧ iv = .int .i64 ((n : Int) - 1) ∧ rv = .int .i64 ((intoL (l.drop n)).2 : Nat) ∧ Hid (Grow w wr) ∧ Hid (marksAt wr w.heap.size (qAt l n))) (fun _ iv _ => (intOf iv + 1).toNat)
 case atStart => exact ⟨l.length, by omega, rfl, by simp [intoL], HGW, HM⟩
 case round =>
  obtain ⟨n, hn, rfl, rfl, HG, HM⟩ := hrel
  by_cases h0 : n = 0
  ·
   subst h0
   have hq := HM.out
   rw [qAt_zero] at hq
   have hl1 := intoL_len l
   rw [List.drop_zero] at *
   obtain ⟨R, HRR⟩ : ∃ R, Hid ((intoL l).2 = R) := ⟨_, hide rfl⟩
   obtain ⟨Q, HQ⟩ : ∃ Q, Hid ((intoL l).1 = Q) := ⟨_, hide rfl⟩
   rw [HQ.out] at hq hl1
   rw [HRR.out]
   have hrd := marks_reads hq
   rw [hl1] at hrd
   have HT1 := hide (trim_any wr _ Q _ hrd (by omega))
   clear hq hrd
   go_wp2_with fail
   refine HT1.out.mono ?_
   rintro e w1 ⟨v1, rfl, rfl, hr1⟩
   have HR1 := hide hr1
   clear hr1
   obtain ⟨X, HX⟩ : ∃ X, Hid (X = w1.alloc (.cells #[.int .i64 (R : Nat)] 3)) := ⟨_, hide rfl⟩
   have gX : Grow w1 X := by rw [HX.out]; exact (Grow.refl _).alloc _
   have hX : marksAt X w1.heap.size ([R].map Int.ofNat) := by rw [HX.out]; unfold marksAt; rw [heap_alloc_new]; rfl
   have hT2 := trim_any X _ [R] _ (marks_reads hX) (by simp)
   have HX1 := hide ((HR1.out.keep gX).more gX.size)
   have HGX := hide (HG.out.trans gX)
   rw [HX.out] at hT2 HX1 HGX
   have HT2 := hide hT2
   clear gX hX hT2 HX
   go_wp2_with fail
   refine HT2.out.mono ?_
   rintro e w2 ⟨v2, rfl, rfl, hr2⟩
   have HR2 := hide hr2
   clear hr2
   go_wp2
   have h1 := HX1.out
   have h2 := HR2.out
   rw [← HQ.out] at h1
   rw [show trimL [R] = trimL [(intoL l).2] by rw [HRR.out]] at h2
   simp [bodyPost, results, Tryz.results51, go_sem]
   exact ⟨HGX.out, _, _, ⟨rfl, rfl⟩, by simpa using h1, by simpa using h2⟩
  ·
   obtain ⟨k, rfl⟩ : ∃ k, n = k + 1 := ⟨n - 1, by omega⟩
   obtain ⟨b, o, rfl, hb1, d0⟩ := HC.out k (by omega)
   have d1 := (HG.out.cell (p := ⟨b, _, none⟩) hb1).trans d0
   have d2 := (HG.out.cell (p := ⟨bb, _, none⟩) hbb).trans HB.out
   have hxl := HLIM.out _ (List.getElem_mem (show k < l.length by omega))
   have HN1 := hide (qAt_next (show k < l.length by omega))
   have HN2 := hide (intoL_next (show k < l.length by omega))
   have hRl := intoL_lt (l.drop (k + 1))
   have hcell := HM.out.cell (k := k) (x := 0) qAt_get
   have fz := not_frozen (k := k) HM.out
   obtain ⟨x, HX⟩ : ∃ x, Hid (l[k] = x) := ⟨_, hide rfl⟩
   obtain ⟨R, HRR⟩ : ∃ R, Hid ((intoL (l.drop (k + 1))).2 = R) := ⟨_, hide rfl⟩
   rw [HX.out] at d0 d1 hxl HN1 HN2
   rw [HRR.out] at hRl HN1 HN2 ⊢
   clear d0
   go_wp2
   go_region
   go_wp2
   refine ⟨⟨k, by omega, by go_num, ?_, hide ((Below.setCell (p := ⟨w.heap.size, k, none⟩) HG.out (Nat.le_refl _) _).drew), hide ?_⟩, ?_⟩
   ·
    rw [HN2.out]; rfl
   ·
    rw [← HN1.out]
    exact HM.out.set _ _
   ·
    simp [intOf]
end Go.Proofs.YtndpjdmfkhjiiaaGreatDoor.Rl
