/- 2 texts in one. -/
import Derived.Test.YtndpjdmfkhjiiaaGreatDoorProg
import Derived.Test.YtndpjdmfkhjiiaaGreatDoorK97fdc06
import Derived.Test.YtndpjdmfkhjiiaaGreatDoorK9cc7e09
import Derived.Test.YtndpjdmfkhjiiaaGreatDoorK88846a0
import Derived.Test.YtndpjdmfkhjiiaaGreatDoorKa9444aa
import Derived.Test.YtndpjdmfkhjiiaaGreatDoorK2069ade
import Derived.Deep.AppendLies
import Derived.BigFrame
set_option linter.unusedVariables false
set_option linter.unusedSimpArgs false
namespace Go.Proofs.YtndpjdmfkhjiiaaGreatDoor.Rl
open Go.RowKit Lb
attribute [local go_sem] bs_size bs_toList bs_append bs_get bs_extract
theorem laid_lab (w : World) (x y : Value) (t : TypeId) : ∃ W : World, w.alloc (.cells #[x, y] t) = W ∧ Grow w W ∧ W.heap.size = w.heap.size + 1 ∧ W.heap[w.heap.size]? = some (.cells #[x, y] t (0, 0)) := ⟨_, rfl, (Grow.refl _).alloc _, by simp, heap_alloc_new _ _⟩
set_option maxRecDepth 20000 in
set_option maxHeartbeats 4000000 in
theorem thoseLose_any (w : World) (v : Value) (ls : List Lab) (b : Nat) (p : List UInt8 → Bool) (hv : readsLabels w w.heap.size v ls) (hlen : ls.length ≤ 100)
    (hp : ∀ W, Grow w W → ∀ x ∈ ls, Calls Tryz.prog 68 #[.string (bs x.1), .pointer (some ⟨b, 0, none⟩)] W fun e w' => e = .returned (.bool (p x.1)) ∧ Grow W w') :
    Calls Tryz.prog 67 #[v, .func (.func 68) #[] #[.pointer (some ⟨b, 0, none⟩)]] w fun e w' => ∃ v', e = .returned v' ∧ ownLabels w' w.heap.size v' (ls.filter fun x => p x.1) ∧ Grow w w' := by
  obtain ⟨i0, hi0, hz0, hz1, hz2⟩ := info_parts Tryz.infoL
  obtain ⟨ao, cp, rfl, hcells⟩ := id hv
  have HP := hide hp
  have HCL := hide hcells
  clear hv hp hcells
  go_enter Tryz.func67, Tryz.ntmps67
  go_wp2
  go_loopw [5, 10] (fun v i wr => ∃ k : Nat, k ≤ ls.length ∧ i = .int .i64 k ∧ Hid (ownLabels wr w.heap.size v ((ls.take k).filter fun x => p x.1)) ∧ Hid (Grow w wr)) (fun _ i _ => ls.length - (intOf i).toNat)
  case atStart => exact ⟨0, by omega, rfl, hide (World.ownsRow_nil _ _ _ _), hide (Grow.refl _)⟩
  case round =>
    obtain ⟨k, hk, rfl, HO, HG⟩ := hrel
    have hfl := List.length_filter_le (fun x : Lab => p x.1) (ls.take k)
    rw [List.length_take] at hfl
    by_cases hlt : k < ls.length
    · have HF := hide (filter_take ls (fun x => p x.1) k hlt)
      obtain ⟨lb, lo, rfl, hlB, c0, c1⟩ := HCL.out k hlt
      have d0 := (HG.out.cell (p := ⟨lb, lo + k * 2, none⟩) hlB).trans c0
      have d1 := (HG.out.cell (p := ⟨lb, lo + k * 2 + 1, none⟩) hlB).trans c1
      clear c0 c1
      have hmem := List.getElem_mem hlt
      obtain ⟨x, HX⟩ : ∃ x : Lab, Hid (ls[k] = x) := ⟨_, hide rfl⟩
      obtain ⟨L, HL⟩ : ∃ L, Hid ((ls.take k).filter (fun x => p x.1) = L) := ⟨_, hide rfl⟩
      rw [HX.out] at d0 d1 HF hmem
      rw [HL.out] at HO hfl HF
      obtain ⟨W, eW, gW, sW, hW⟩ := laid_lab wr (.string (bs x.1)) (.string (bs x.2)) 39
      have HGW : Hid (Grow w W) := hide (HG.out.trans gW)
      have HW := hide hW
      obtain ⟨a0, a1⟩ := two_cells hW
      have HT := hide (HP.out W HGW.out x hmem)
      have HOW : Hid (ownLabels W w.heap.size _ L) := hide (own_grow HO.out gW)
      clear hmem gW hW
      cases hpx : p x.1 with
      | false =>
        have HPX := hide hpx
        rw [HPX.out] at HT
        have HFo : Hid (List.filter (fun x => p x.1) (List.take (k + 1) ls) = L) := by show _ = _; rw [HF.out]; simp [HPX.out]
        clear hpx
        go_wp2_with fail
        refine HT.out.mono ?_
        rintro e w3 ⟨rfl, hg3⟩
        have HG3 : Hid (Grow w w3) := hide (HGW.out.trans hg3)
        have HO3 := hide (own_grow HOW.out hg3)
        clear hg3 eW
        go_wp2
        go_roundw
        case rel => exact ⟨k + 1, by omega, by go_num, hide (by rw [HFo.out]; exact HO3.out), HG3⟩
        case measure => simp [intOf]; omega
      | true =>
        have HPX := hide hpx
        rw [HPX.out] at HT
        have HFo : Hid (List.filter (fun x => p x.1) (List.take (k + 1) ls) = L ++ [x]) := by show _ = _; rw [HF.out]; simp [HPX.out]
        clear hpx
        go_wp2_with fail
        refine HT.out.mono ?_
        rintro e w3 ⟨rfl, hg3⟩
        have HG3 : Hid (Grow w w3) := hide (HGW.out.trans hg3)
        have HO3 := hide (own_grow HOW.out hg3)
        obtain ⟨b0, b1⟩ := two_cells (hg3.get HW.out)
        have hs3 := HG3.out.size
        have HNews := hide (news_new w3 x)
        clear hg3 eW a0 a1
        go_wp2_with (at_builtin; go_loud (refine wpList_append_own _ rfl _ _ 29 rfl w.heap.size 39 i0 _ 2 32 Tryz.underlying29 hi0 hz0 hz1 hz2 zeroLab (by omega) _ L.length (labCells L) rfl (HO3.out.alloc _) ⟨w3.heap.size, 0, none⟩ 1 1 (labCells [x]) rfl (labCells_length [x]) HNews.out (labCells_one [x]) (by unfold maxLen; omega) (by omega) (by simp; omega) ?_); intro v' w1 hown' hgrow _)
        go_roundw
        case rel => exact ⟨k + 1, by omega, by go_num, hide (by rw [HFo.out]; unfold ownLabels; rw [List.length_append, labCells_append]; exact hown'), hide (Below.grown (HG3.out.alloc _) hgrow (by simp; omega) (fun j hj => (HO3.out.lt j hj).1))⟩
        case measure => simp [intOf]; omega
    · obtain rfl : k = ls.length := by omega
      rw [List.take_of_length_le (Nat.le_refl _)] at HO
      go_wp2
      go_ret
      exact ⟨_, rfl, HO.out, HG.out⟩
set_option maxRecDepth 20000 in
set_option maxHeartbeats 4000000 in
theorem thoseHold_any (w : World) (v : Value) (ls : List Lab) (b : Nat) (p : List UInt8 → Bool) (hv : readsLabels w w.heap.size v ls) (hlen : ls.length ≤ 100)
    (hp : ∀ W, Grow w W → ∀ x ∈ ls, Calls Tryz.prog 70 #[.string (bs x.1), .pointer (some ⟨b, 0, none⟩)] W fun e w' => e = .returned (.bool (p x.1)) ∧ Grow W w') :
    Calls Tryz.prog 67 #[v, .func (.func 70) #[] #[.pointer (some ⟨b, 0, none⟩)]] w fun e w' => ∃ v', e = .returned v' ∧ ownLabels w' w.heap.size v' (ls.filter fun x => p x.1) ∧ Grow w w' := by
  obtain ⟨i0, hi0, hz0, hz1, hz2⟩ := info_parts Tryz.infoL
  obtain ⟨ao, cp, rfl, hcells⟩ := id hv
  have HP := hide hp
  have HCL := hide hcells
  clear hv hp hcells
  go_enter Tryz.func67, Tryz.ntmps67
  go_wp2
  go_loopw [5, 10] (fun v i wr => ∃ k : Nat, k ≤ ls.length ∧ i = .int .i64 k ∧ Hid (ownLabels wr w.heap.size v ((ls.take k).filter fun x => p x.1)) ∧ Hid (Grow w wr)) (fun _ i _ => ls.length - (intOf i).toNat)
  case atStart => exact ⟨0, by omega, rfl, hide (World.ownsRow_nil _ _ _ _), hide (Grow.refl _)⟩
  case round =>
    obtain ⟨k, hk, rfl, HO, HG⟩ := hrel
    have hfl := List.length_filter_le (fun x : Lab => p x.1) (ls.take k)
    rw [List.length_take] at hfl
    by_cases hlt : k < ls.length
    · have HF := hide (filter_take ls (fun x => p x.1) k hlt)
      obtain ⟨lb, lo, rfl, hlB, c0, c1⟩ := HCL.out k hlt
      have d0 := (HG.out.cell (p := ⟨lb, lo + k * 2, none⟩) hlB).trans c0
      have d1 := (HG.out.cell (p := ⟨lb, lo + k * 2 + 1, none⟩) hlB).trans c1
      clear c0 c1
      have hmem := List.getElem_mem hlt
      obtain ⟨x, HX⟩ : ∃ x : Lab, Hid (ls[k] = x) := ⟨_, hide rfl⟩
      obtain ⟨L, HL⟩ : ∃ L, Hid ((ls.take k).filter (fun x => p x.1) = L) := ⟨_, hide rfl⟩
      rw [HX.out] at d0 d1 HF hmem
      rw [HL.out] at HO hfl HF
      obtain ⟨W, eW, gW, sW, hW⟩ := laid_lab wr (.string (bs x.1)) (.string (bs x.2)) 39
      have HGW : Hid (Grow w W) := hide (HG.out.trans gW)
      have HW := hide hW
      obtain ⟨a0, a1⟩ := two_cells hW
      have HT := hide (HP.out W HGW.out x hmem)
      have HOW : Hid (ownLabels W w.heap.size _ L) := hide (own_grow HO.out gW)
      clear hmem gW hW
      cases hpx : p x.1 with
      | false =>
        have HPX := hide hpx
        rw [HPX.out] at HT
        have HFo : Hid (List.filter (fun x => p x.1) (List.take (k + 1) ls) = L) := by show _ = _; rw [HF.out]; simp [HPX.out]
        clear hpx
        go_wp2_with fail
        refine HT.out.mono ?_
        rintro e w3 ⟨rfl, hg3⟩
        have HG3 : Hid (Grow w w3) := hide (HGW.out.trans hg3)
        have HO3 := hide (own_grow HOW.out hg3)
        clear hg3 eW
        go_wp2
        go_roundw
        case rel => exact ⟨k + 1, by omega, by go_num, hide (by rw [HFo.out]; exact HO3.out), HG3⟩
        case measure => simp [intOf]; omega
      | true =>
        have HPX := hide hpx
        rw [HPX.out] at HT
        have HFo : Hid (List.filter (fun x => p x.1) (List.take (k + 1) ls) = L ++ [x]) := by show _ = _; rw [HF.out]; simp [HPX.out]
        clear hpx
        go_wp2_with fail
        refine HT.out.mono ?_
        rintro e w3 ⟨rfl, hg3⟩
        have HG3 : Hid (Grow w w3) := hide (HGW.out.trans hg3)
        have HO3 := hide (own_grow HOW.out hg3)
        obtain ⟨b0, b1⟩ := two_cells (hg3.get HW.out)
        have hs3 := HG3.out.size
        have HNews := hide (news_new w3 x)
        clear hg3 eW a0 a1
        go_wp2_with (at_builtin; go_loud (refine wpList_append_own _ rfl _ _ 29 rfl w.heap.size 39 i0 _ 2 32 Tryz.underlying29 hi0 hz0 hz1 hz2 zeroLab (by omega) _ L.length (labCells L) rfl (HO3.out.alloc _) ⟨w3.heap.size, 0, none⟩ 1 1 (labCells [x]) rfl (labCells_length [x]) HNews.out (labCells_one [x]) (by unfold maxLen; omega) (by omega) (by simp; omega) ?_); intro v' w1 hown' hgrow _)
        go_roundw
        case rel => exact ⟨k + 1, by omega, by go_num, hide (by rw [HFo.out]; unfold ownLabels; rw [List.length_append, labCells_append]; exact hown'), hide (Below.grown (HG3.out.alloc _) hgrow (by simp; omega) (fun j hj => (HO3.out.lt j hj).1))⟩
        case measure => simp [intOf]; omega
    · obtain rfl : k = ls.length := by omega
      rw [List.take_of_length_le (Nat.le_refl _)] at HO
      go_wp2
      go_ret
      exact ⟨_, rfl, HO.out, HG.out⟩
set_option maxRecDepth 20000 in
set_option maxHeartbeats 4000000 in
theorem keep_any (w : World) (r : Rul) (v va : Value) (src : List UInt8) {T : Tr} {g : Nat} (hm : maskIs r.mask = .ok (T, g)) (hsrc : src.length ≤ 2000) :
    Calls Tryz.prog 61 #[ruleV r v, va, .string (bs src)] w fun e w' => Grow w w' ∧ e = .returned (.tuple #[va, .bool (likeR T src), .int .i64 0]) := by
  have HL := hide fun W => like_any W r.mask src hm hsrc
  obtain ⟨kind, rs, bt, mk, md, tg, rp⟩ := r
  unfold ruleV
  simp only at HL ⊢
  clear hm
  generalize likeR T src = b at HL ⊢
  obtain ⟨W, eW, gW, sW, hW⟩ := laid_rule w (.int .i64 kind) v (.string (bs bt)) (.string (bs mk)) (.int .i64 md) (.string (bs tg)) (.string (bs rp)) 24
  obtain ⟨c0, c1, c2, c3, c4, c5, c6⟩ := seven_cells hW
  have HGW := hide gW
  clear gW hW
  go_enter Tryz.func61, Tryz.ntmps61
  go_wp2_with fail
  refine (HL.out W).mono ?_
  rintro e w1 ⟨rfl, hg1⟩
  go_wp2
  simp [bodyPost, results, Tryz.results61, go_sem]
  exact HGW.out.trans hg1
set_option maxRecDepth 20000 in
set_option maxHeartbeats 4000000 in
theorem drop_any (w : World) (r : Rul) (v va : Value) (src : List UInt8) {T : Tr} {g : Nat} (hm : maskIs r.mask = .ok (T, g)) (hsrc : src.length ≤ 2000) :
    Calls Tryz.prog 63 #[ruleV r v, va, .string (bs src)] w fun e w' => Grow w w' ∧ e = .returned (.tuple #[va, .bool (!likeR T src), .int .i64 0]) := by
  have HL := hide fun W => like_any W r.mask src hm hsrc
  obtain ⟨kind, rs, bt, mk, md, tg, rp⟩ := r
  unfold ruleV
  simp only at HL ⊢
  clear hm
  generalize likeR T src = b at HL ⊢
  obtain ⟨W, eW, gW, sW, hW⟩ := laid_rule w (.int .i64 kind) v (.string (bs bt)) (.string (bs mk)) (.int .i64 md) (.string (bs tg)) (.string (bs rp)) 24
  obtain ⟨c0, c1, c2, c3, c4, c5, c6⟩ := seven_cells hW
  have HGW := hide gW
  clear gW hW
  cases b
  all_goals
    go_enter Tryz.func63, Tryz.ntmps63
    go_wp2_with fail
    refine (HL.out W).mono ?_
    rintro e w1 ⟨rfl, hg1⟩
    go_wp2
    simp [bodyPost, results, Tryz.results63, go_sem]
    exact HGW.out.trans hg1
set_option maxRecDepth 20000 in
set_option maxHeartbeats 4000000 in
/-- RuleLose's test of a name. -/
theorem loseTest_any (w : World) (b : Nat) (r : Rul) (v : Value) (n : List UInt8) {T : Tr} {g : Nat} (hb : w.heap[b]? = some (.cells #[.int .i64 r.kind, v, .string (bs r.between), .string (bs r.mask), .int .i64 r.modulus, .string (bs r.target), .string (bs r.repl)] 24 (0, 0))) (hm : maskIs r.mask = .ok (T, g)) (hn : n.length ≤ 2000) :
    Calls Tryz.prog 68 #[.string (bs n), .pointer (some ⟨b, 0, none⟩)] w fun e w' => e = .returned (.bool (!likeR T n)) ∧ Grow w w' := by
  have HL := hide fun W => like_any W r.mask n hm hn
  obtain ⟨c0, c1, c2, c3, c4, c5, c6⟩ := seven_cells hb
  clear hm hb
  generalize likeR T n = b at HL ⊢
  cases b
  all_goals
    go_enter Tryz.func68, Tryz.ntmps68
    go_wp2_with fail
    refine (HL.out w).mono ?_
    rintro e w1 ⟨rfl, hg1⟩
    go_wp2
    go_ret
    exact ⟨rfl, hg1⟩
set_option maxRecDepth 20000 in
set_option maxHeartbeats 4000000 in
/-- RuleHold's test of a name. -/
theorem holdTest_any (w : World) (b : Nat) (r : Rul) (v : Value) (n : List UInt8) {T : Tr} {g : Nat} (hb : w.heap[b]? = some (.cells #[.int .i64 r.kind, v, .string (bs r.between), .string (bs r.mask), .int .i64 r.modulus, .string (bs r.target), .string (bs r.repl)] 24 (0, 0))) (hm : maskIs r.mask = .ok (T, g)) (hn : n.length ≤ 2000) :
    Calls Tryz.prog 70 #[.string (bs n), .pointer (some ⟨b, 0, none⟩)] w fun e w' => e = .returned (.bool (likeR T n)) ∧ Grow w w' := by
  have HL := hide fun W => like_any W r.mask n hm hn
  obtain ⟨c0, c1, c2, c3, c4, c5, c6⟩ := seven_cells hb
  clear hm hb
  generalize likeR T n = b at HL ⊢
  go_enter Tryz.func70, Tryz.ntmps70
  go_wp2_with fail
  refine (HL.out w).mono ?_
  rintro e w1 ⟨rfl, hg1⟩
  go_wp2
  go_ret
  exact ⟨rfl, hg1⟩
end Go.Proofs.YtndpjdmfkhjiiaaGreatDoor.Rl
