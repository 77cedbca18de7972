/- find: twice. -/
import Derived.Laws.OwnMore
import Derived.Test.YtdlmgkncneifaaaGreatProg
import Derived.Test.YtdlmgkncneifaaaGreatKit
import Derived.Test.YtdlmgkncneifaaaGreatReg
import Derived.Test.YtdlmgkncneifaaaGreatLSpec
import Derived.Test.YtdlmgkncneifaaaGreatLRow
import Derived.Test.YtdlmgkncneifaaaGreatFdA
import Derived.BigQuiet
set_option linter.unusedVariables false
set_option linter.unusedSimpArgs false
namespace Go.Proofs.YtdlmgkncneifaaaGreat.Fd
open Go.RowKit Lb
attribute [local go_sem] bs_size bs_toList bs_append bs_get bs_extract

/-- Are two that stand side by side the same? -/
def sameNext (l : List Tgt) : Bool := (List.range (l.length - 1)).any fun j => decide (ordB (l.getD j []) (l.getD (j + 1) []) = 0)
theorem fwrap (x : Int) (h0 : -9223372036854775808 ≤ x) (h : x < 9223372036854775808) : IntKind.i64.wrap x = x := by
  rw [IntKind.wrap_i64]; omega
theorem getD_at {l : List Tgt} {j : Nat} (h : j < l.length) : l.getD j [] = l[j] := by simp [List.getD, h]
theorem sameNext_yes {l : List Tgt} {j : Nat} (hj : j + 1 < l.length) (h : ordB l[j] l[j + 1] = 0) : sameNext l = true := by
  unfold sameNext
  refine List.any_eq_true.2 ⟨j, List.mem_range.2 (by omega), ?_⟩
  rw [getD_at (show j < l.length by omega), getD_at hj]
  simpa using h
theorem sameNext_no {l : List Tgt} (h : ∀ j (hj : j + 1 < l.length), ordB l[j] l[j + 1] ≠ 0) : sameNext l = false := by
  unfold sameNext
  rw [List.any_eq_false]
  intro j hj
  have hj' := List.mem_range.1 hj
  rw [getD_at (show j < l.length by omega), getD_at (show j + 1 < l.length by omega)]
  have := h j (by omega)
  simpa using this
set_option maxRecDepth 20000 in
set_option maxHeartbeats 1000000 in
theorem ftwice_any (w : World) (v : Value) (l : List Tgt) (hv : readsTgts w w.heap.size v l) (hl : l.length ≤ 1000) (hc : ∀ x ∈ l, checkB x = 0) :
    Calls Tryz.prog 31 #[v] w fun e w' => e = .returned (.bool (sameNext l)) ∧ Grow w w' := by
  obtain ⟨ao, cp, rfl, _, hcells⟩ := hv
  have HC := hide hc
  have HCELLS := hide hcells
  clear hc hcells
  obtain ⟨E, HE⟩ : ∃ E, Hid (sameNext l = E) := ⟨_, hide rfl⟩
  rw [HE.out]
  go_enter Tryz.func31, Tryz.ntmps31
  go_wp2
  go_loopw [3] (fun iv wr => ∃ i : Nat, 1 ≤ i ∧ i ≤ l.length + 1 ∧ iv = .int .i64 i ∧ Hid (∀ j (hj : j + 1 < l.length), j + 1 < i → ordB l[j] l[j + 1] ≠ 0) ∧ Hid (Grow w wr)) (fun iv _ => l.length + 1 - (intOf iv).toNat)
  case atStart => exact ⟨1, by omega, by omega, rfl, hide (fun j hj h => by omega), hide (Grow.refl _)⟩
  case round =>
    obtain ⟨i, hi1, hi, rfl, HD, HGr⟩ := hrel
    by_cases hlt : i < l.length
    · have hlti : (i : Int) < (l.length : Int) := by omega
      obtain ⟨j, rfl⟩ : ∃ j, i = j + 1 := ⟨i - 1, by omega⟩
      obtain ⟨rb, rf, xa, rfl, hrB, ha, a0⟩ := HCELLS.out j (by omega)
      obtain ⟨rb', rf', xb, e, _, hb, b0⟩ := HCELLS.out (j + 1) hlt
      cases e
      have HA0 := hide a0
      have HB0 := hide b0
      obtain ⟨O, HO⟩ : ∃ O, Hid (ordB (l[j]'(by omega)) l[j + 1] = O) := ⟨_, hide rfl⟩
      have HK : Hid (∀ W, Grow wr W → Calls Tryz.prog 50 #[.agg #[xa], .agg #[xb]] W fun e w' => e = .returned (.int .i64 O) ∧ Grow W w') := hide fun W g => by
        have gw : Grow w W := HGr.out.trans g
        have := fcmp_any W xa xb _ _ (readsLabels_mono (readsLabels_below ha gw) gw.size) (readsLabels_mono (readsLabels_below hb gw) gw.size) (HC.out _ (List.getElem_mem (show j < l.length by omega))) (HC.out _ (List.getElem_mem hlt))
        rw [HO.out] at this
        exact this
      obtain ⟨xo, xc, hxa⟩ := readsLabels_len ha
      obtain ⟨yo, yc, hxb⟩ := readsLabels_len hb
      generalize (l[j]'(by omega)).length = n1 at hxa
      generalize l[j + 1].length = n2 at hxb
      subst hxa hxb
      have hk1 : ((j + 1 : Nat) : Int) - 1 = (j : Int) := by omega
      have hk2 : (j : Int) + 1 - 1 = (j : Int) := by omega
      have hk3 : (j : Int) < (l.length : Int) := by omega
      have hk4 : (j : Int) + 1 < (l.length : Int) := by omega
      have hk5 : ((j : Int) + 1).toNat = j + 1 := by omega
      have hk6 : (0 : Int) ≤ (j : Int) + 1 := by omega
      have hl1 : (l.length : Int) ≤ 1000 := by omega
      have mixed : Tryz.prog.follows .mixedOrders = true := by kernel_rfl
      clear ha hb a0 b0
      go_wp2
      refine wp_region_free 11 21 mixed rfl (by decide +kernel) Grow (fun _ _ _ => Grow.trans) (Grow.refl _)
        (fun q v w' => match q with
          | 0 => v = .slice (some ⟨rb, rf, none⟩) l.length cp
          | 1 => v = .int .i64 (j + 1 : Nat)
          | 2 => v = .int .i64 j
          | 3 => v = .pointer (some ⟨rb, rf + j, none⟩)
          | 4 => v = .agg #[.slice xo n1 xc]
          | 5 => v = .slice (some ⟨rb, rf, none⟩) l.length cp
          | 6 => v = .int .i64 (j + 1 : Nat)
          | 7 => v = .pointer (some ⟨rb, rf + (j + 1), none⟩)
          | 8 => v = .agg #[.slice yo n2 yc]
          | 9 => v = .int .i64 O
          | _ => v = .bool (O == 0))
        (fun q v w' w'' h hg => h)
        (fun _ _ => False) (fun _ _ _ _ h => h.elim) (fun q hq o ho a w4 hG hoff hdep => ?_) (fun vals w4 hG hvals => ?_)
      · have hgw : Grow wr w4 := hG.undrew
        have e0 := ((HGr.out.trans hgw).cell (p := ⟨rb, rf + j, none⟩) hrB).trans HA0.out
        have e1 := ((HGr.out.trans hgw).cell (p := ⟨rb, rf + (j + 1), none⟩) hrB).trans HB0.out
        match q, hq with
        | 0, _ =>
          obtain rfl := Option.some.inj ho
          have o0 := hoff 0 (by decide +kernel)
          simp at o0
          simp [opYields, go_sem, o0]
          exact Grow.refl _
        | 1, _ =>
          obtain rfl := Option.some.inj ho
          have o3 := hoff 3 (by decide +kernel)
          simp at o3
          simp [opYields, go_sem, o3]
          exact Grow.refl _
        | 2, _ =>
          obtain rfl := Option.some.inj ho
          have d1 := hdep 1 (by decide +kernel)
          simp [slotOf, dstOf] at d1
          simp [opYields, go_sem, d1, hk1, hk2]
          exact ⟨Grow.refl _, fwrap _ (by omega) (by omega)⟩
        | 3, _ =>
          obtain rfl := Option.some.inj ho
          have d0 := hdep 0 (by decide +kernel)
          simp [slotOf, dstOf] at d0
          have d2 := hdep 2 (by decide +kernel)
          simp [slotOf, dstOf] at d2
          simp [opYields, go_sem, d0, d2, hk3]
          exact Grow.refl _
        | 4, _ =>
          obtain rfl := Option.some.inj ho
          have d3 := hdep 3 (by decide +kernel)
          simp [slotOf, dstOf] at d3
          simp [opYields, go_sem, d3, e0]
          exact Grow.refl _
        | 5, _ =>
          obtain rfl := Option.some.inj ho
          have o0 := hoff 0 (by decide +kernel)
          simp at o0
          simp [opYields, go_sem, o0]
          exact Grow.refl _
        | 6, _ =>
          obtain rfl := Option.some.inj ho
          have o3 := hoff 3 (by decide +kernel)
          simp at o3
          simp [opYields, go_sem, o3]
          exact Grow.refl _
        | 7, _ =>
          obtain rfl := Option.some.inj ho
          have d5 := hdep 5 (by decide +kernel)
          simp [slotOf, dstOf] at d5
          have d6 := hdep 6 (by decide +kernel)
          simp [slotOf, dstOf] at d6
          simp [opYields, go_sem, d5, d6, hk4, hk5, hk6]
          exact Grow.refl _
        | 8, _ =>
          obtain rfl := Option.some.inj ho
          have d7 := hdep 7 (by decide +kernel)
          simp [slotOf, dstOf] at d7
          simp [opYields, go_sem, d7, e1]
          exact Grow.refl _
        | 9, _ =>
          obtain rfl := Option.some.inj ho
          have d4 := hdep 4 (by decide +kernel)
          simp [slotOf, dstOf] at d4
          have d8 := hdep 8 (by decide +kernel)
          simp [slotOf, dstOf] at d8
          simp [opYields, go_sem, d4, d8]
          refine (HK.out w4 hgw).mono ?_
          rintro e w5 ⟨rfl, h3⟩
          exact ⟨h3, rfl⟩
        | 10, _ =>
          obtain rfl := Option.some.inj ho
          have d9 := hdep 9 (by decide +kernel)
          simp [slotOf, dstOf] at d9
          simp [opYields, go_sem, d9]
          exact Grow.refl _
        | q + 11, h => exact absurd h (by omega)
      · have v10 := hvals 10 (by omega)
        simp only at v10
        have HG4 : Hid (Grow w w4) := hide (HGr.out.trans hG.undrew)
        by_cases hO : O = 0
        · have hE := HE.out
          rw [sameNext_yes hlt (HO.out.trans hO)] at hE
          subst hE
          have v10' : vals 10 = .bool true := by rw [v10]; simp [hO]
          clear hvals hG v10 hO
          simp [over, dstOf, Act.put, v10']
          go_wp2
          go_ret
          exact ⟨rfl, HG4.out⟩
        · have HO0 := hide hO
          have v10' : vals 10 = .bool false := by rw [v10]; simp [hO]
          clear hvals hG v10 hO
          simp [over, dstOf, Act.put, v10']
          go_wp2
          go_roundw
          case rel => exact ⟨j + 1 + 1, by omega, by omega, by go_num, hide (fun p hp hpi => by
            by_cases e : p = j
            · subst e; rw [HO.out]; exact HO0.out
            · exact HD.out p hp (by omega)), HG4⟩
          case measure => simp [intOf]; omega
    · have hnl : ¬ ((i : Int) < (l.length : Int)) := by omega
      have hE := HE.out
      rw [sameNext_no (fun j hj => HD.out j hj (by omega))] at hE
      subst hE
      go_wp2
      go_ret
      exact ⟨rfl, HGr.out⟩
end Go.Proofs.YtdlmgkncneifaaaGreat.Fd
