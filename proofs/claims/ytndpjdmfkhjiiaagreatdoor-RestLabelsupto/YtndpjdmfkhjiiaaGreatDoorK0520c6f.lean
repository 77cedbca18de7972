/- 1 texts in one. -/
import Derived.Test.YtndpjdmfkhjiiaaGreatDoorProg
import Derived.Test.YtndpjdmfkhjiiaaGreatDoorK97fdc06
import Derived.Test.YtndpjdmfkhjiiaaGreatDoorK8a35c84
import Derived.Test.YtndpjdmfkhjiiaaGreatDoorK06c36d1
import Derived.Test.YtndpjdmfkhjiiaaGreatDoorKa2d19b0
import Derived.Test.YtndpjdmfkhjiiaaGreatDoorKa9444aa
import Derived.Test.YtndpjdmfkhjiiaaGreatDoorK2069ade
import Derived.BigFrame
set_option linter.unusedVariables false
set_option linter.unusedSimpArgs false
namespace Go.Proofs.YtndpjdmfkhjiiaaGreatDoor.Rl
open Go.RowKit Lb
attribute [local go_sem] bs_size bs_toList bs_append bs_get bs_extract
/-- The Source of a rule. -/
def sourceB (r : Rul) (ls : List Lab) : List UInt8 := Lib.join (r.sources.map (getAns ls)) r.between
theorem right_small {ls : List Lab} (h : checkB ls = 0) : ls.length ≤ 20 ∧ ∀ x ∈ ls, x.1.length ≤ 40 ∧ x.2.length ≤ 100 := eachErr_names (checkB_zero.1 h).1
theorem value_small {ls : List Lab} (h : checkB ls = 0) (n : List UInt8) : (getAns ls n).length ≤ 100 := by
  unfold getAns
  split
  · unfold valueB
    split
    · rename_i x hx
      exact ((right_small h).2 x (List.mem_of_find?_eq_some hx)).2
    · simp
  · simp
set_option maxRecDepth 20000 in
set_option maxHeartbeats 8000000 in
theorem source_any (w : World) (r : Rul) (v va : Value) (ls : List Lab) (hv : readsStrs w w.heap.size v r.sources) (ha : readsLabels w w.heap.size va ls) (hc : checkB ls = 0) (h20 : r.sources.length ≤ 20) (hbt : r.between.length ≤ 100) (hs : ∀ s ∈ r.sources, s.length ≤ maxLen) :
    Calls Tryz.prog 36 #[ruleV r v, va] w fun e w' => e = .returned (.string (bs (sourceB r ls))) ∧ Grow w w' := by
  obtain ⟨i0, hinf, hz0, hz1, hz2⟩ := info_parts Tryz.infoStr
  obtain ⟨kind, src, bt, mk, md, tg, rp⟩ := r
  unfold ruleV sourceB
  simp only at hv h20 hbt hs ⊢
  obtain ⟨ao, cp, rfl, hcells⟩ := hv
  obtain ⟨lo, lc, rfl⟩ := readsLabels_len ha
  have HC := hide hcells
  have HA := hide ha
  have HS := hide hs
  have HCB := hide hc
  have hsm := right_small hc
  have HIN : Hid (lensOk ls) := hide (fun x hx => by have := hsm.2 x hx; omega)
  have hll : ls.length ≤ 9223372036854775807 := by omega
  clear hcells ha hs hc hsm
  obtain ⟨W, eW, gW, sW, hW⟩ := laid_rule w (.int .i64 kind) (.slice ao src.length cp) (.string (bs bt)) (.string (bs mk)) (.int .i64 md) (.string (bs tg)) (.string (bs rp)) 24
  obtain ⟨c0, c1, c2, c3, c4, c5, c6⟩ := seven_cells hW
  have HGW := hide gW
  have HW := hide hW
  clear gW hW
  obtain ⟨V, HV⟩ : ∃ V, Hid (src.map (getAns ls) = V) := ⟨_, hide rfl⟩
  have HVL : Hid (V.length = src.length) := hide (by rw [← HV.out, List.length_map])
  have HVS : Hid (∀ s ∈ V, s.length ≤ 1000) := hide (by
    intro s hs
    rw [← HV.out] at hs
    obtain ⟨n, _, rfl⟩ := List.mem_map.1 hs
    have := value_small HCB.out n
    omega)
  rw [HV.out]
  go_enter Tryz.func36, Tryz.ntmps36
  go_wp2
  go_loopw [5, 13] (fun vv i wr => ∃ k : Nat, k ≤ src.length ∧ i = .int .i64 k ∧ Hid (ownStrs wr W.heap.size vv (V.take k)) ∧ Hid (Grow W wr)) (fun _ i _ => src.length - (intOf i).toNat)
  case atStart => exact ⟨0, by omega, rfl, hide (World.ownsRow_nil _ _ _ _), hide (Grow.refl _)⟩
  case round =>
    obtain ⟨k, hk, rfl, HO, HG⟩ := hrel
    have hGW := HGW.out.trans HG.out
    obtain ⟨b0, b1, b2, b3, b4, b5, b6⟩ := seven_cells (HG.out.get HW.out)
    by_cases hlt : k < src.length
    · obtain ⟨lb, lo', rfl, hlB, d0⟩ := HC.out k hlt
      have d1 := (hGW.cell (p := ⟨lb, lo' + k, none⟩) hlB).trans d0
      have hlm := HS.out _ (List.getElem_mem hlt)
      clear d0
      have HGet := hide (get_any wr (.slice lo ls.length lc) ls src[k] (readsLabels_mono (readsLabels_below HA.out hGW) hGW.size) hll HIN.out hlm)
      obtain ⟨n, HX⟩ : ∃ n : List UInt8, Hid (src[k] = n) := ⟨_, hide rfl⟩
      rw [HX.out] at HGet d1
      obtain ⟨s, HSV⟩ : ∃ s, Hid (getAns ls n = s) := ⟨_, hide rfl⟩
      rw [HSV.out] at HGet
      have HT : Hid (V.take (k + 1) = V.take k ++ [s]) := hide (by
        have hkV : k < V.length := by rw [HVL.out]; exact hlt
        have : V[k] = s := by
          have h1 : V[k]? = some s := by rw [← HV.out, List.getElem?_map, List.getElem?_eq_getElem hlt, HX.out]; exact congrArg some HSV.out
          rw [List.getElem?_eq_getElem hkV] at h1
          exact Option.some.inj h1
        rw [← this, List.take_succ_eq_append_getElem hkV])
      obtain ⟨L, HL⟩ : ∃ L, Hid (V.take k = L) := ⟨_, hide rfl⟩
      have hlen : L.length = k := by rw [← HL.out, List.length_take, HVL.out]; omega
      rw [HL.out] at HO HT
      obtain ⟨vo, vc, rfl⟩ := own_shape HO.out
      have HLEN := hide hlen
      clear hlm hlen
      generalize getErr ls n = ge at HGet
      go_wp2_with fail
      refine HGet.out.mono ?_
      rintro e w3 ⟨rfl, hb3⟩
      have hg3 : Grow wr w3 := hb3
      have hown : w3.ownsRow W.heap.size 9 1 (.slice vo L.length vc) L.length (strsV L) := own_grow HO.out hg3
      have hs3 := hg3.size
      have hs4 := HG.out.size
      have hlk : L.length ≤ 20 := by have := HLEN.out; omega
      have HG3 : Hid (Grow W w3) := hide (HG.out.trans hg3)
      clear hg3 hb3
      go_wp2_with (at_builtin; go_loud (refine wpList_append_own _ rfl _ _ 22 rfl W.heap.size 9 i0 (.string ByteArray.empty) 1 16 Tryz.underlying22 hinf hz0 hz1 hz2 rfl (by omega) (.slice vo L.length vc) L.length (strsV L) rfl (hown.alloc _) ⟨w3.heap.size, 0, none⟩ 1 1 (strsV [s]) rfl rfl (World.news_of_block (cs := #[.string (bs s)]) (heap_alloc_new w3 _)) (by simp [strsV, Value.oneCell']) (by unfold maxLen; omega) (by omega) (by simp; omega) ?_); intro v' w1 hown' hgrow _)
      have hbw : Below W.heap.size W (w3.alloc (.cells #[.string (bs s)] 9)) := Grow.alloc HG3.out _
      have hgr : Grow W w1 := hbw.grown hgrow (by simp; omega) (fun j hj => (hown.lt j hj).1)
      refine ⟨⟨k + 1, by omega, by go_num, hide ?_, hide hgr⟩, ?_⟩
      · rw [HT.out]
        show World.ownsRow _ _ _ _ _ _ _
        rw [List.length_append, strsV_snoc]
        exact hown'
      · simp [intOf]; omega
    · have hall : V.take k = V := List.take_of_length_le (by rw [HVL.out]; omega)
      rw [hall] at HO
      clear hall
      have HJ := hide (join_any wr W.heap.size _ V bt HO.out (by rw [HVL.out]; omega) HVS.out (by omega))
      obtain ⟨vo, vc, rfl⟩ := own_shape HO.out
      go_wp2_with fail
      refine HJ.out.mono ?_
      rintro e w3 ⟨rfl, hb3⟩
      go_wp2
      go_ret
      exact ⟨rfl, hGW.trans hb3⟩
end Go.Proofs.YtndpjdmfkhjiiaaGreatDoor.Rl
