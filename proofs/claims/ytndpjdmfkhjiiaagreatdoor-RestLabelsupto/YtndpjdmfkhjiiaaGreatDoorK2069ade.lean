/- 1 texts in one. -/
import Derived.Test.YtndpjdmfkhjiiaaGreatDoorProg
import Derived.Test.YtndpjdmfkhjiiaaGreatDoorK97fdc06
import Derived.Test.YtndpjdmfkhjiiaaGreatDoorK58b8031
import Derived.Test.YtndpjdmfkhjiiaaGreatDoorKdd2361c
import Derived.Test.YtndpjdmfkhjiiaaGreatDoorKb8b36ab
import Derived.Test.YtndpjdmfkhjiiaaGreatDoorKa9444aa
import Derived.BigFrame
set_option linter.unusedVariables false
set_option linter.unusedSimpArgs false
namespace Go.Proofs.YtndpjdmfkhjiiaaGreatDoor.Rl
open Go.RowKit
attribute [local go_sem] bs_size bs_toList bs_append bs_get bs_extract
theorem seven_cells {w : World} {b : Nat} {x0 x1 x2 x3 x4 x5 x6 : Value} {t : TypeId} (h : w.heap[b]? = some (.cells #[x0, x1, x2, x3, x4, x5, x6] t (0, 0))) :
    w.cell? ⟨b, 0, none⟩ = some x0 ∧ w.cell? ⟨b, 1, none⟩ = some x1 ∧ w.cell? ⟨b, 2, none⟩ = some x2 ∧ w.cell? ⟨b, 3, none⟩ = some x3 ∧ w.cell? ⟨b, 4, none⟩ = some x4 ∧ w.cell? ⟨b, 5, none⟩ = some x5 ∧ w.cell? ⟨b, 6, none⟩ = some x6 := by simp [World.cell?, h]
theorem laid_rule (w : World) (x0 x1 x2 x3 x4 x5 x6 : Value) (t : TypeId) : ∃ W : World, w.alloc (.cells #[x0, x1, x2, x3, x4, x5, x6] t) = W ∧ Grow w W ∧ W.heap.size = w.heap.size + 1 ∧ W.heap[w.heap.size]? = some (.cells #[x0, x1, x2, x3, x4, x5, x6] t (0, 0)) := ⟨_, rfl, (Grow.refl _).alloc _, by simp, heap_alloc_new _ _⟩
theorem laid_fault (w : World) (x y : Value) (t : TypeId) : ∃ W : World, w.alloc (.cells #[x, y] t) = W ∧ Grow w W ∧ W.heap[w.heap.size]? = some (.cells #[x, y] t (0, 0)) := ⟨_, rfl, (Grow.refl _).alloc _, heap_alloc_new _ _⟩
/-- A rule as it is handed over. -/
def ruleV (r : Rul) (v : Value) : Value := .agg #[.int .i64 r.kind, v, .string (bs r.between), .string (bs r.mask), .int .i64 r.modulus, .string (bs r.target), .string (bs r.repl)]
/-- A rule's sizes. -/
def okR (r : Rul) : Prop := r.sources.length ≤ 9223372036854775807 ∧ (∀ s ∈ r.sources, s.length ≤ 9223372036854775807) ∧ r.between.length ≤ 9223372036854775807 ∧ r.mask.length ≤ 9223372036854775807 ∧ r.target.length ≤ 9223372036854775807 ∧ r.repl.length ≤ 9223372036854775807
def manyR (r : Rul) : Prop := 20 < r.sources.length ∨ 100 < r.between.length ∨ 100 < r.repl.length ∨ 100 < r.target.length
instance (r : Rul) : Decidable (manyR r) := inferInstanceAs (Decidable (_ ∨ _))
/-- What is wrong with a rule of any kind. -/
def partsErr (r : Rul) : Nat := if manyR r then 2 else if r.sources.all Lb.nameB = true then (faultOf r.mask).1 else 1
set_option maxRecDepth 20000 in
set_option maxHeartbeats 4000000 in
theorem checkParts_any (w : World) (r : Rul) (v : Value) (hv : readsStrs w w.heap.size v r.sources) (hr : okR r) :
    Calls Tryz.prog 30 #[ruleV r v] w fun e w' => e = .returned (.int .i64 (partsErr r)) ∧ Grow w w' := by
  obtain ⟨kind, src, bt, mk, md, tg, rp⟩ := r
  obtain ⟨hr1, hr2, hr3, hr4, hr5, hr6⟩ := hr
  simp only at hr1 hr2 hr3 hr4 hr5 hr6 hv
  unfold ruleV partsErr manyR
  simp only
  obtain ⟨ao, cp, rfl, hcells⟩ := hv
  have HC := hide hcells
  have HR := hide hr2
  clear hcells hr2
  obtain ⟨W, eW, gW, sW, hW⟩ := laid_rule w (.int .i64 kind) (.slice ao src.length cp) (.string (bs bt)) (.string (bs mk)) (.int .i64 md) (.string (bs tg)) (.string (bs rp)) 24
  obtain ⟨c0, c1, c2, c3, c4, c5, c6⟩ := seven_cells hW
  have HGW := hide gW
  have HW := hide hW
  clear gW hW
  by_cases hs : 20 < src.length
  · rw [if_pos (.inl hs)]
    have hs' : (20 : Int) < src.length := by omega
    go_enter Tryz.func30, Tryz.ntmps30
    go_wp2
    go_ret
    exact ⟨rfl, HGW.out⟩
  · have hs' : ¬ (20 : Int) < src.length := by omega
    by_cases hl : 100 < bt.length ∨ 100 < rp.length ∨ 100 < tg.length
    · rw [if_pos (.inr hl)]
      have hl' : (100 : Int) < max (max (bt.length : Int) rp.length) tg.length := by omega
      go_enter Tryz.func30, Tryz.ntmps30
      go_wp2
      all_goals
        go_ret
        exact ⟨rfl, HGW.out⟩
    · rw [if_neg (by omega)]
      have hl1 : ¬ (100 : Int) < bt.length := by omega
      have hl2 : ¬ (100 : Int) < rp.length := by omega
      have hl3 : ¬ (100 : Int) < tg.length := by omega
      have HM := hide fun W => check_mask W mk hr4
      generalize groupsOf mk = G at HM
      generalize (faultOf mk).1 = F1 at HM ⊢
      generalize (faultOf mk).2 = F2 at HM
      obtain ⟨E, HE⟩ : ∃ E : Nat, Hid ((if src.all Lb.nameB = true then F1 else 1) = E) := ⟨_, hide rfl⟩
      rw [HE.out]
      have hss : src.length ≤ 20 := by omega
      clear hl hs
      go_enter Tryz.func30, Tryz.ntmps30
      go_wp2
      all_goals
        go_loopw [27] (fun i wr => ∃ k : Nat, k ≤ src.length ∧ i = .int .i64 k ∧ wr = W ∧ Hid (∀ j (hj : j < src.length), j < k → Lb.nameB src[j] = true)) (fun i _ => src.length - (intOf i).toNat)
        case atStart => exact ⟨0, by omega, rfl, rfl, hide (fun j _ h => by omega)⟩
        case round =>
          obtain ⟨k, hk, rfl, hw, HD⟩ := hrel
          have hw' := hw.symm
          subst hw'
          clear hw
          by_cases hlt : k < src.length
          · obtain ⟨lb, lo, rfl, hlB, d0⟩ := HC.out k hlt
            have d1 := (HGW.out.cell (p := ⟨lb, lo + k, none⟩) hlB).trans d0
            clear d0
            have hl0 := HR.out _ (List.getElem_mem hlt)
            obtain ⟨x, HX⟩ : ∃ x : List UInt8, Hid (src[k] = x) := ⟨_, hide rfl⟩
            rw [HX.out] at d1 hl0
            cases hn : Lb.nameB x with
            | false =>
              have HN := hide hn
              clear hn
              go_wp2_with (go_at_call 49; refine (Lb.isName_any _ _ (by unfold maxLen; omega)).mono ?_; rintro e w' ⟨rfl, rfl⟩; rw [HN.out])
              go_ret
              exact ⟨ret_int (by
                rw [← HE.out, if_neg (fun h => by
                  have := List.all_eq_true.1 h _ (List.getElem_mem hlt)
                  rw [HX.out, HN.out] at this
                  cases this)]; rfl), HGW.out⟩
            | true =>
              have HN := hide hn
              clear hn
              go_wp2_with (go_at_call 49; refine (Lb.isName_any _ _ (by unfold maxLen; omega)).mono ?_; rintro e w' ⟨rfl, rfl⟩; rw [HN.out])
              go_roundw
              case rel => exact ⟨k + 1, by omega, by go_num, trivial, hide (fun j hj h => by
                by_cases e : j = k
                · subst e; rw [HX.out]; exact HN.out
                · exact HD.out j hj (by omega))⟩
              case measure => simp [intOf]; omega
          · have HE1 : Hid (F1 = E) := hide (by
              rw [← HE.out, if_pos (List.all_eq_true.2 fun s hs => by
                obtain ⟨j, hj, rfl⟩ := List.getElem_of_mem hs
                exact HD.out j hj (by omega))])
            go_wp2_with fail
            refine (HM.out W).mono ?_
            rintro e w1 ⟨hg1, rfl⟩
            obtain ⟨W1, eW1, gW1, hW1⟩ := laid_fault w1 (.int .i64 (F1 : Int)) (.int .i64 (F2 : Int)) 65
            have HG1 : Hid (Grow w W1) := hide (HGW.out.trans (hg1.trans gW1))
            obtain ⟨a0, a1⟩ := cells_two hW1
            clear hg1 gW1 hW1
            go_wp2
            go_ret
            exact ⟨ret_int (by rw [HE1.out]), HG1.out⟩
end Go.Proofs.YtndpjdmfkhjiiaaGreatDoor.Rl
