/- What all of masks' statements begin with: two examples; texts that are compared. -/
import Derived.Test.YtndpjdmfkhjiiaaGreatDoorProg
import Derived.Test.YtndpjdmfkhjiiaaGreatDoorQ74d152
import Derived.Test.YtndpjdmfkhjiiaaGreatDoorQ3d7cfc
import Derived.Test.YtndpjdmfkhjiiaaGreatDoorQ082284
import Derived.Test.YtndpjdmfkhjiiaaGreatDoorMGrpV
import Derived.Test.YtndpjdmfkhjiiaaGreatDoorMMatV
import Derived.Test.YtndpjdmfkhjiiaaGreatDoorQ898ed8
import Derived.BigQuiet
set_option linter.unusedVariables false
set_option linter.unusedSimpArgs false
namespace Go.Proofs.YtndpjdmfkhjiiaaGreatDoor
open Go.RowKit
attribute [local go_sem] bs_size bs_toList bs_append bs_get bs_extract

set_option maxRecDepth 20000 in
set_option maxHeartbeats 1000000 in
theorem sameTexts_any (w : World) (v1 v2 : Value) (a b : List (List UInt8)) (h1 : readsStrs w w.heap.size v1 a) (h2 : readsStrs w w.heap.size v2 b) (ha : a.length ≤ 9223372036854775807) (hb : b.length ≤ 9223372036854775807) :
    Calls Tryz.prog 53 #[v1, v2] w fun e w' => e = .returned (.bool (decide (a = b))) ∧ ∃ n, w' = w.drewN n := by
  obtain ⟨ao, ac, rfl, hc1⟩ := h1
  obtain ⟨bo, bc, rfl, hc2⟩ := h2
  have H1 := hide hc1
  have H2 := hide hc2
  clear hc1 hc2
  by_cases hl : a.length = b.length
  · have HL := hide hl
    have hlb : ((a.length : Int) != b.length) = false := by simp [hl]
    clear hl
    go_enter Tryz.func53, Tryz.ntmps53
    go_wp2
    go_loopw [5] (fun v wr => ∃ k : Nat, k ≤ a.length ∧ v = .int .i64 k ∧ (∃ n, wr = w.drewN n) ∧ Hid (a.take k = b.take k)) (fun v _ => a.length - (intOf v).toNat)
    case atStart => exact ⟨0, by omega, rfl, ⟨0, rfl⟩, hide rfl⟩
    case round =>
      obtain ⟨k, hk, rfl, ⟨n, rfl⟩, HT⟩ := hrel
      by_cases hlt : k < a.length
      · have hltb : k < b.length := by rw [← HL.out]; exact hlt
        have hk1 : (k : Int) < a.length := by omega
        have hk2 : (k : Int) < b.length := by omega
        obtain ⟨p, po, rfl, hp, hcp⟩ := H1.out k hlt
        obtain ⟨q, qo, rfl, hq, hcq⟩ := H2.out k hltb
        obtain ⟨x, hx⟩ : ∃ x, a[k] = x := ⟨_, rfl⟩
        obtain ⟨y, hy⟩ : ∃ y, b[k] = y := ⟨_, rfl⟩
        rw [hx] at hcp
        rw [hy] at hcq
        have HX : Hid (a[k]? = some x) := hide (by rw [List.getElem?_eq_getElem hlt, hx])
        have HY : Hid (b[k]? = some y) := hide (by rw [List.getElem?_eq_getElem hltb, hy])
        have dcp : (w.drewN n).cell? ⟨p, po + k, none⟩ = some (.string (bs x)) := hcp
        have dcq : (w.drewN n).cell? ⟨q, qo + k, none⟩ = some (.string (bs y)) := hcq
        by_cases he : x = y
        · subst he
          have HT2 : Hid (a.take (k + 1) = b.take (k + 1)) := by
            show _ = _
            rw [List.take_add_one, List.take_add_one, HT.out, HX.out, HY.out]
          clear hx hy
          go_wp2
          go_quiet (fail)
          go_wp2
          refine ⟨⟨k + 1, by omega, by go_num, ⟨_, rfl⟩, HT2⟩, ?_⟩
          simp [intOf]; omega
        · have hne : (x != y) = true := by simpa using he
          have hne2 : (x == y) = false := by simpa using he
          have HD : Hid (decide (a = b) = false) := by
            show _ = _
            simp only [decide_eq_false_iff_not]
            rintro rfl
            have h1 := HX.out
            rw [HY.out] at h1
            exact he (Option.some.inj h1).symm
          clear hx hy he
          go_wp2
          go_quiet (fail)
          go_wp2
          go_ret
          exact ⟨ret_bool HD.out.symm, _, World.drewN_drewN _ _ _⟩
      · obtain rfl : k = a.length := by omega
        have hT := HT.out
        rw [List.take_length, List.take_of_length_le (by rw [HL.out]; exact Nat.le_refl _)] at hT
        have HD : Hid (decide (a = b) = true) := hide (by simpa using hT)
        clear hT
        go_wp2
        go_ret
        exact ⟨ret_bool HD.out.symm, n, rfl⟩
  · have HD : Hid (decide (a = b) = false) := by
      show _ = _
      simp only [decide_eq_false_iff_not]
      rintro rfl
      exact hl rfl
    have hlb : ((a.length : Int) != b.length) = true := by simp; omega
    go_enter Tryz.func53, Tryz.ntmps53
    go_wp2
    go_ret
    exact ⟨ret_bool HD.out.symm, 0, rfl⟩

/-! ### the two examples -/
def exaM : List UInt8 := [40, 97, 124, 98, 41, 43, 99]
def exaT : Tr := .row (.grp 0 (.row (.set (between 97 97) 0 .nil) (.row (.set (between 98 98) 0 .nil) .nil)) 43 (.set (between 99 99) 0 .nil)) .nil
theorem exa_is : maskIs exaM = .ok (exaT, 1) := by rfl
theorem exa_way : wayOf exaT [97, 98, 99] = some [(0, 0), (1, 1), (0, 1), (1, 2)] := wayOf_eq (f := 60) (by decide)
theorem exa_took : tookL [97, 98, 99] [(0, 0), (1, 1), (0, 1), (1, 2)] 1 = [[98]] := by decide
theorem exa_filled : exAns [60, 36, 49, 62] [97, 98, 99] [[98]] = ([60, 98, 62], 0) := by decide

set_option maxRecDepth 20000 in
set_option maxHeartbeats 1000000 in
theorem maskBegun_any (w : World) : Calls Tryz.prog 23 #[] w fun e w' => e = .returned (.bool true) ∧ Grow w w' := by
  have HM := hide fun W => match_any W exaM [97, 98, 99] (by decide) (by decide)
  unfold matchAns at HM
  rw [exa_is] at HM
  simp only [exa_way] at HM
  go_enter Tryz.func23, Tryz.ntmps23
  go_wp2_with fail
  refine (HM.out w).mono ?_
  rintro e w1 ⟨hg, h⟩
  unfold matchOk at h
  simp only [exa_took] at h
  rw [if_neg (by decide)] at h
  obtain ⟨v, rfl, ho⟩ := h
  have hr := readsStrs_own ho
  obtain ⟨ao, cp, rfl⟩ := own_shape ho
  have HX := hide (expand_any [60, 36, 49, 62] [97, 98, 99] [[98]] _ w1 (by decide) (by decide) (by decide) (by decide) hr)
  rw [exa_filled] at HX
  have HR := hide hr
  have HG := hide hg
  clear hr ho hg HM
  go_wp2_with fail
  refine HX.out.mono ?_
  rintro e w2 ⟨rfl, hg2⟩
  have HR2 := hide ((HR.out.keep hg2).more hg2.size)
  have HG2 : Hid (Grow w w2) := hide (HG.out.trans hg2)
  clear hg2
  go_wp2_with fail
  have hn : (w2.alloc (.cells #[.string (bs [98])] 9)).heap[w2.heap.size]? = some (.cells #[.string (bs [98])] 9 (0, 0)) := heap_alloc_new _ _
  have hg3 : Grow w2 (w2.alloc (.cells #[.string (bs [98])] 9)) := (Grow.refl _).alloc _
  have hs3 : w2.heap.size < (w2.alloc (.cells #[.string (bs [98])] 9)).heap.size := by simp
  refine (sameTexts_any (w2.alloc (.cells #[.string (bs [98])] 9)) _ (.slice (some ⟨w2.heap.size, 0, none⟩) 1 1) [[98]] [[98]] ((HR2.out.keep hg3).more hg3.size) ⟨_, _, rfl, fun i hi => ⟨w2.heap.size, 0, rfl, hs3, ?_⟩⟩ (by decide) (by decide)).mono ?_
  · match i, hi with
    | 0, _ => exact cell_of_one hn
  · rintro e w4 ⟨rfl, n, rfl⟩
    have HG4 : Hid (Grow w ((w2.alloc (.cells #[.string (bs [98])] 9)).drewN n)) := hide ((HG2.out.trans hg3).trans (grow_drewN _ n))
    clear hn hg3 hs3
    go_wp2
    go_ret
    exact ⟨rfl, HG4.out⟩

end Go.Proofs.YtndpjdmfkhjiiaaGreatDoor
