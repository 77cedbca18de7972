/- 1 texts in one. -/
import Derived.Test.YtndpjdmfkhjiiaaGreatDoorProg
import Derived.Test.YtndpjdmfkhjiiaaGreatDoorK06d19db
import Derived.Test.YtndpjdmfkhjiiaaGreatDoorKab34d13
import Derived.Test.YtndpjdmfkhjiiaaGreatDoorK09f7390
import Derived.Test.YtndpjdmfkhjiiaaGreatDoorKd930502
import Derived.Test.YtndpjdmfkhjiiaaGreatDoorK5b78f3b
import Derived.Test.YtndpjdmfkhjiiaaGreatDoorKdd7ec6c
import Derived.Test.YtndpjdmfkhjiiaaGreatDoorK056c889
import Derived.BigFrame
set_option linter.unusedVariables false
set_option linter.unusedSimpArgs false
namespace Go.Proofs.YtndpjdmfkhjiiaaGreatDoor.Rl
open Go.RowKit
attribute [local go_sem] bs_size bs_toList bs_append bs_get bs_extract
set_option maxRecDepth 20000 in
set_option maxHeartbeats 8000000 in
theorem rCheckRule_any (w : World) (r : Rul) (v : Value) (hv : readsStrs w w.heap.size v r.sources) (hr : okR r) :
  Calls Tryz.prog 12 #[ruleV r v] w fun e w' => e = .returned (.int .i64 (ruleErr r)) ∧ Grow w w' := by
 obtain ⟨E, HE⟩ : ∃ E : Nat, Hid (ruleErr r = E) := ⟨_, hide rfl⟩
 have HE1 : Hid ((if 1 ≤ r.kind ∧ r.kind ≤ 7 then (if (if manyR r then 2 else if r.sources.all Lb.nameB = true then (faultOf r.mask).1 else 1) ≠ 0 then (if manyR r then 2 else if r.sources.all Lb.nameB = true then (faultOf r.mask).1 else 1) else
  if r.kind = 1 then (if Lb.nameB r.target = true ∧ tmB r.repl = true then 0 else 1)
  else if r.kind = 4 then (if Lb.nameB r.target = true then (if r.modulus < 1 ∨ 1000000 < r.modulus then 3 else 0) else 1)
  else if r.kind = 5 then (if tmB r.repl = true then 0 else 1) else 0) else 7) = E) := HE
 rw [HE.out]
 clear HE
 obtain ⟨kind, src, bt, mk, md, tg, rp⟩ := r
 obtain ⟨hr1, hr2, hr3, hr4, hr5, hr6⟩ := hr
 unfold manyR at HE1
 unfold ruleV
 simp only at hr1 hr2 hr3 hr4 hr5 hr6 hv HE1 ⊢
 obtain ⟨ao, cp, rfl, hcells⟩ := hv
 have HC := hide hcells
 have HR := hide hr2
 clear hcells hr2
 obtain ⟨W, eW, gW, sW, hW⟩ := laid_rule w (.int .i64 kind) (.slice ao src.length cp) (.string (bs bt)) (.string (bs mk)) (.int .i64 md) (.string (bs tg)) (.string (bs rp)) 24
 obtain ⟨c0, c1, c2, c3, c4, c5, c6⟩ := seven_cells hW
 have HGW := hide gW
 have HW := hide hW
 clear gW hW
 by_cases k1 : kind < 1
 ·
  rw [if_neg (by omega)] at HE1
  go_enter Tryz.func12, Tryz.ntmps12
  go_wp2
  go_ret
  exact ⟨ret_int (by rw [← HE1.out]; rfl), HGW.out⟩
 by_cases k7 : 7 < kind
 ·
  rw [if_neg (by omega)] at HE1
  go_enter Tryz.func12, Tryz.ntmps12
  go_wp2
  go_ret
  exact ⟨ret_int (by rw [← HE1.out]; rfl), HGW.out⟩
 rw [if_pos (show 1 ≤ kind ∧ kind ≤ 7 by omega)] at HE1
 by_cases hm : 20 < src.length ∨ 100 < bt.length ∨ 100 < rp.length ∨ 100 < tg.length
 ·
  have HE2 : Hid (2 = E) := by
   have h := HE1.out
   rw [if_pos hm, if_pos (by omega)] at h
   exact h
  clear HE1
  by_cases m1 : 20 < src.length
  ·
   have m1' : (20 : Int) < src.length := by omega
   clear hm
   go_enter Tryz.func12, Tryz.ntmps12
   go_wp2
   go_ret
   exact ⟨ret_int (by rw [← HE2.out]; rfl), HGW.out⟩
  have m1' : ¬ (20 : Int) < src.length := by omega
  by_cases m2 : 100 < bt.length
  ·
   have m2' : (100 : Int) < bt.length := by omega
   clear hm
   go_enter Tryz.func12, Tryz.ntmps12
   go_wp2
   go_ret
   exact ⟨ret_int (by rw [← HE2.out]; rfl), HGW.out⟩
  have m2' : ¬ (100 : Int) < bt.length := by omega
  by_cases m3 : 100 < rp.length
  ·
   have m3' : (100 : Int) < rp.length := by omega
   clear hm
   go_enter Tryz.func12, Tryz.ntmps12
   go_wp2
   go_ret
   exact ⟨ret_int (by rw [← HE2.out]; rfl), HGW.out⟩
  have m3' : ¬ (100 : Int) < rp.length := by omega
  have m4' : (100 : Int) < tg.length := by omega
  clear hm
  go_enter Tryz.func12, Tryz.ntmps12
  go_wp2
  go_ret
  exact ⟨ret_int (by rw [← HE2.out]; rfl), HGW.out⟩
 ·
  rw [if_neg hm] at HE1
  have m1' : ¬ (20 : Int) < src.length := by omega
  have m2' : ¬ (100 : Int) < bt.length := by omega
  have m3' : ¬ (100 : Int) < rp.length := by omega
  have m4' : ¬ (100 : Int) < tg.length := by omega
  have hss : src.length ≤ 20 := by omega
  have HRP : Hid (rp.length ≤ 100) := hide (by omega)
  clear hm
  have HT := hide fun W => template_any rp W (by have := HRP.out; omega)
  have HN := hide fun W => Lb.rIsName_any tg W (by unfold maxLen; omega)
  have HM : Hid (∀ W, Calls Tryz.prog 33 #[.string (bs mk)] W fun e w' => Grow W w' ∧ ∃ ao k cp, e = .returned (.tuple #[.slice ao k cp, .int .i64 (groupsOf mk), .agg #[.int .i64 (faultOf mk).1, .int .i64 (faultOf mk).2]])) := hide fun W => (maskOf_any W mk hr4).mono fun e w' ⟨hg, h⟩ => by
   refine ⟨hg, ?_⟩
   unfold groupsOf faultOf
   cases hx : maskIs mk with
   | error x => rw [hx] at h; exact ⟨none, 0, 0, h⟩
   | ok x =>
    rw [hx] at h
    obtain ⟨v, k, ys, h1, h2, _⟩ := h
    obtain ⟨ao, cp, rfl⟩ := own_shape h2
    exact ⟨ao, k, cp, h1⟩
  have HTB : Hid (∀ W, Calls Tryz.prog 34 #[.string (bs rp)] W fun e w' => Grow W w' ∧ ∃ v1 v2, e = .returned (.tuple #[v1, v2, .bool (tmB rp)])) := hide fun W => (HT.out W).mono fun e w' h => by
   obtain ⟨v1, v2, b, h1, h2, h3⟩ := h
   refine ⟨h2, v1, v2, ?_⟩
   unfold tmB
   cases hx : tmAt rp 0 with
   | none => rw [hx] at h3; rw [h1, h3]; rfl
   | some l => rw [hx] at h3; rw [h1, h3.1]; rfl
  clear HT
  generalize tmB rp = B at HTB HE1
  generalize Lb.nameB tg = C at HN HE1
  generalize groupsOf mk = G at HM
  generalize (faultOf mk).1 = F1 at HM HE1
  generalize (faultOf mk).2 = F2 at HM
  go_enter Tryz.func12, Tryz.ntmps12
  go_wp2
  go_loopw [3] (fun i wr => ∃ k : Nat, k ≤ src.length ∧ i = .int .i64 k ∧ wr = W ∧ Hid (∀ j (hj : j < src.length), j < k → Lb.nameB src[j] = true)) (fun i _ => src.length - (intOf i).toNat)
  case atStart => exact ⟨0, by omega, rfl, rfl, hide (fun j _ h => by omega)⟩
  case round =>
   obtain ⟨k, hk, rfl, hw, HD⟩ := hrel
   have hw' := hw.symm
   subst hw'
   clear hw
   by_cases hlt : k < src.length
   ·
    obtain ⟨lb, lo, rfl, hlB, d0⟩ := HC.out k hlt
    have d1 := (HGW.out.cell (p := ⟨lb, lo + k, none⟩) hlB).trans d0
    clear d0
    have hl0 := HR.out _ (List.getElem_mem hlt)
    obtain ⟨x, HX⟩ : ∃ x : List UInt8, Hid (src[k] = x) := ⟨_, hide rfl⟩
    rw [HX.out] at d1 hl0
    cases hn : Lb.nameB x with
    | false =>
     have HNX := hide hn
     clear hn
     have HE2 : Hid (1 = E) := by
      have hS : ¬ (src.all Lb.nameB = true) := fun h => by
       have := List.all_eq_true.1 h _ (List.getElem_mem hlt)
       rw [HX.out, HNX.out] at this
       cases this
      have h := HE1.out
      rw [if_neg hS, if_pos (by omega)] at h
      exact h
     clear HE1
     go_wp2_with (go_at_call 32; refine (Lb.rIsName_any _ _ (by unfold maxLen; omega)).mono ?_; rintro e w' ⟨rfl, rfl⟩; rw [HNX.out])
     go_ret
     exact ⟨ret_int (by rw [← HE2.out]; rfl), HGW.out⟩
    | true =>
     have HNX := hide hn
     clear hn
     go_wp2_with (go_at_call 32; refine (Lb.rIsName_any _ _ (by unfold maxLen; omega)).mono ?_; rintro e w' ⟨rfl, rfl⟩; rw [HNX.out])
     go_roundw
     case rel => exact ⟨k + 1, by omega, by go_num, trivial, hide (fun j hj h => by
      by_cases e : j = k
      ·
       subst e; rw [HX.out]; exact HNX.out
      ·
       exact HD.out j hj (by omega))⟩
     case measure => simp [intOf]; omega
   ·
    rw [if_pos (List.all_eq_true.2 fun s hs => by
     obtain ⟨j, hj, rfl⟩ := List.getElem_of_mem hs
     exact HD.out j hj (by omega))] at HE1
    go_wp2_with fail
    refine (HM.out W).mono ?_
    rintro e w1 ⟨hg1, ao1, k1', cp1, rfl⟩
    obtain ⟨W1, eW1, gW1, hW1⟩ := laid_fault w1 (.int .i64 (F1 : Int)) (.int .i64 (F2 : Int)) 65
    have HG1 : Hid (Grow w W1) := hide (HGW.out.trans (hg1.trans gW1))
    have HW1 := hide ((hg1.trans gW1).get HW.out)
    obtain ⟨a0, a1⟩ := cells_two hW1
    obtain ⟨b0, b1, b2, b3, b4, b5, b6⟩ := seven_cells HW1.out
    clear hg1 gW1 hW1 c0 c1 c2 c3 c4 c5 c6 HM
    by_cases hF : F1 = 0
    ·
     have hF' : ((F1 : Int) != 0) = false := by simp [hF]
     have HE2 : Hid ((if kind = 1 then (if C = true ∧ B = true then 0 else 1) else if kind = 4 then (if C = true then (if md < 1 ∨ 1000000 < md then 3 else 0) else 1) else if kind = 5 then (if B = true then 0 else 1) else 0) = E) := by
      have h := HE1.out
      rw [if_neg (by omega)] at h
      exact h
     clear HE1 hF
     go_wp2_with fail
     refine (HTB.out W1).mono ?_
     rintro e w2 ⟨hg2, v1, v2, rfl⟩
     have HG2 : Hid (Grow w w2) := hide (HG1.out.trans hg2)
     obtain ⟨c0, c1, c2, c3, c4, c5, c6⟩ := seven_cells (hg2.get HW1.out)
     clear hg2 b0 b1 b2 b3 b4 b5 b6 a0 a1 eW1 eW
     cases C with
     | false =>
      by_cases q : kind = 1 ∨ kind = 4
      ·
       have HE3 : Hid (1 = E) := by rcases q with rfl | rfl <;> simpa [Hid] using HE2.out
       rcases q with rfl | rfl
       all_goals
        go_wp2_with (go_at_call 32; refine (HN.out _).mono ?_; rintro e w' ⟨rfl, rfl⟩)
        go_ret
        exact ⟨ret_int (by rw [← HE3.out]; rfl), HG2.out⟩
      ·
       have q1 : (kind == 1) = false := by simp; omega
       have q4 : (kind == 4) = false := by simp; omega
       by_cases q5 : kind = 5
       ·
        subst q5
        cases B with
        | false =>
         have HE3 : Hid (1 = E) := by simpa [Hid] using HE2.out
         go_wp2
         go_ret
         exact ⟨ret_int (by rw [← HE3.out]; rfl), HG2.out⟩
        | true =>
         have HE3 : Hid (0 = E) := by simpa [Hid] using HE2.out
         go_wp2
         go_ret
         exact ⟨ret_int (by rw [← HE3.out]; rfl), HG2.out⟩
       ·
        have q5' : (kind == 5) = false := by simp; omega
        have HE3 : Hid (0 = E) := by
         have h := HE2.out
         rw [if_neg (by omega), if_neg (by omega), if_neg q5] at h
         exact h
        go_wp2
        go_ret
        exact ⟨ret_int (by rw [← HE3.out]; rfl), HG2.out⟩
     | true =>
      by_cases q1 : kind = 1
      ·
       subst q1
       cases B with
       | false =>
        have HE3 : Hid (1 = E) := by simpa [Hid] using HE2.out
        go_wp2_with (go_at_call 32; refine (HN.out _).mono ?_; rintro e w' ⟨rfl, rfl⟩)
        go_ret
        exact ⟨ret_int (by rw [← HE3.out]; rfl), HG2.out⟩
       | true =>
        have HE3 : Hid (0 = E) := by simpa [Hid] using HE2.out
        go_wp2_with (go_at_call 32; refine (HN.out _).mono ?_; rintro e w' ⟨rfl, rfl⟩)
        go_ret
        exact ⟨ret_int (by rw [← HE3.out]; rfl), HG2.out⟩
      ·
       have q1' : (kind == 1) = false := by simp; omega
       by_cases q4 : kind = 4
       ·
        subst q4
        by_cases z1 : md < 1
        ·
         have HE3 : Hid (3 = E) := by simpa [Hid, z1] using HE2.out
         go_wp2_with (go_at_call 32; refine (HN.out _).mono ?_; rintro e w' ⟨rfl, rfl⟩)
         go_ret
         exact ⟨ret_int (by rw [← HE3.out]; rfl), HG2.out⟩
        ·
         by_cases z2 : 1000000 < md
         ·
          have HE3 : Hid (3 = E) := by simpa [Hid, z2] using HE2.out
          go_wp2_with (go_at_call 32; refine (HN.out _).mono ?_; rintro e w' ⟨rfl, rfl⟩)
          go_ret
          exact ⟨ret_int (by rw [← HE3.out]; rfl), HG2.out⟩
         ·
          have HE3 : Hid (0 = E) := by simpa [Hid, z1, z2] using HE2.out
          go_wp2_with (go_at_call 32; refine (HN.out _).mono ?_; rintro e w' ⟨rfl, rfl⟩)
          go_ret
          exact ⟨ret_int (by rw [← HE3.out]; rfl), HG2.out⟩
       ·
        have q4' : (kind == 4) = false := by simp; omega
        by_cases q5 : kind = 5
        ·
         subst q5
         cases B with
         | false =>
          have HE3 : Hid (1 = E) := by simpa [Hid] using HE2.out
          go_wp2
          go_ret
          exact ⟨ret_int (by rw [← HE3.out]; rfl), HG2.out⟩
         | true =>
          have HE3 : Hid (0 = E) := by simpa [Hid] using HE2.out
          go_wp2
          go_ret
          exact ⟨ret_int (by rw [← HE3.out]; rfl), HG2.out⟩
        ·
         have q5' : (kind == 5) = false := by simp; omega
         have HE3 : Hid (0 = E) := by
          have h := HE2.out
          rw [if_neg q1, if_neg q4, if_neg q5] at h
          exact h
         go_wp2
         go_ret
         exact ⟨ret_int (by rw [← HE3.out]; rfl), HG2.out⟩
    ·
     have HE2 : Hid (F1 = E) := by
      have h := HE1.out
      rw [if_pos hF] at h
      exact h
     have hp' : ((F1 : Int) != 0) = true := by simp; exact hF
     clear hF HE1
     go_wp2
     go_ret
     exact ⟨ret_int (by rw [HE2.out]), HG1.out⟩
end Go.Proofs.YtndpjdmfkhjiiaaGreatDoor.Rl
