/- shard: Done, where something is wrong and nothing came; labels of right items. -/
import Derived.Laws.OwnMore
import Derived.Test.YtfdogelkgogcbaaProg
import Derived.Test.YtfdogelkgogcbaaKit
import Derived.Test.YtfdogelkgogcbaaReg
import Derived.Test.YtfdogelkgogcbaaLSpec
import Derived.Test.YtfdogelkgogcbaaLMak
import Derived.Test.YtfdogelkgogcbaaLRow
import Derived.Test.YtfdogelkgogcbaaLRefB
import Derived.Test.YtfdogelkgogcbaaShA
import Derived.Test.YtfdogelkgogcbaaShC
import Derived.Test.YtfdogelkgogcbaaShE
import Derived.Test.YtfdogelkgogcbaaShG
import Derived.Test.YtfdogelkgogcbaaShL
import Derived.BigQuiet
set_option linter.unusedVariables false
set_option linter.unusedSimpArgs false
namespace Go.Proofs.Ytfdogelkgogcbaa.Sh
open Go.RowKit
attribute [local go_sem] bs_size bs_toList bs_append bs_get bs_extract

set_option maxRecDepth 20000 in
set_option maxHeartbeats 2000000 in
theorem done_bad (w : World) (vi : Value) (s : Shd) (now : Int) (hv : readsItems w w.heap.size vi s.items) (hok : okShd s) (h0 : doneErr s now 0 ≠ 0) :
    Calls Try.prog 18 #[shdV vi s, .int .i64 now, .int .i64 0] w fun e w' => e = .returned (.tuple #[.agg #[.slice none 0 0, .int .i64 0, .int .i64 0, .int .i64 0, .int .i64 0, .int .i64 0, .int .i64 0], .int .i64 (doneErr s now 0 : Nat)]) ∧ Grow w w' := by
  obtain ⟨E, HE⟩ : ∃ E, Hid (doneErr s now 0 = E) := ⟨_, hide rfl⟩
  rw [HE.out] at h0 ⊢
  have HE1 : Hid ((if atErr s now ≠ 0 then atErr s now else if s.items.length = 0 then 5 else 0) = E) := hide (by rw [← HE.out]; unfold doneErr; rw [if_neg (show ¬ ((0 : Int) ≠ 200 ∧ (0 : Int) ≠ 400 ∧ (0 : Int) ≠ 0) from fun h => h.2.2 rfl)])
  clear HE
  obtain ⟨A, HA⟩ : ∃ A, Hid (atErr s now = A) := ⟨_, hide rfl⟩
  rw [HA.out] at HE1
  obtain ⟨io, ic, hvi, hcap, -⟩ := id hv
  obtain ⟨V1, e1, g1, b1⟩ := laid_at w #[vi, .int .i64 s.batch, .int .i64 s.room, .int .i64 s.first, .int .i64 s.most, .int .i64 s.waits, .int .i64 s.till] 24
  obtain ⟨V2, e2, g2, b2⟩ := laid_at V1 #[.slice none 0 0, .int .i64 0, .int .i64 0, .int .i64 0, .int .i64 0, .int .i64 0, .int .i64 0] 24
  have s1 : V1.heap.size = w.heap.size + 1 := by rw [← e1]; simp
  have hg2 : Grow w V2 := g1.trans g2
  have HB1 := hide (g2.get b1)
  have HB2 := hide (by have := b2; rw [s1] at this; exact this)
  have HCA := checkAt_any V2 vi s now ((hv.keep hg2).more hg2.size) hok
  rw [HA.out] at HCA
  have HG2 := hide hg2
  clear hv hok HA g1 g2 b1 b2 hg2
  unfold shdV at *
  obtain ⟨is, batch, room, first, most, waits, till⟩ := s
  simp only at HCA HB1 HE1 hvi hcap e1 ⊢
  replace HCA := hide HCA
  subst hvi
  obtain ⟨c0, c1, c2, c3, c4, c5, c6⟩ := seven_of HB1.out
  go_enter Try.func18, Try.ntmps18
  go_wp2_with fail
  refine HCA.out.mono ?_
  rintro e w3 ⟨rfl, hg3⟩
  have HG3 : Hid (Grow V2 w3) := hide hg3
  have HGW : Hid (Grow w w3) := hide (HG2.out.trans hg3)
  have b23 := hg3.get HB2.out
  clear hg3 HCA c0 c1 c2 c3 c4 c5 c6 e1 e2
  obtain ⟨c0, c1, c2, c3, c4, c5, c6⟩ := seven_of (HG3.out.get HB1.out)
  obtain ⟨k0, k1, k2, k3, k4, k5, k6⟩ := seven_of b23
  have y0 : w3.frozen? ⟨w.heap.size + 1, 0, none⟩ = false := by simp only [World.frozen?, b23]; rfl
  have y1 : w3.frozen? ⟨w.heap.size + 1, 1, none⟩ = false := by simp only [World.frozen?, b23]; rfl
  have y2 : w3.frozen? ⟨w.heap.size + 1, 2, none⟩ = false := by simp only [World.frozen?, b23]; rfl
  have y3 : w3.frozen? ⟨w.heap.size + 1, 3, none⟩ = false := by simp only [World.frozen?, b23]; rfl
  have y4 : w3.frozen? ⟨w.heap.size + 1, 4, none⟩ = false := by simp only [World.frozen?, b23]; rfl
  have y5 : w3.frozen? ⟨w.heap.size + 1, 5, none⟩ = false := by simp only [World.frozen?, b23]; rfl
  have y6 : w3.frozen? ⟨w.heap.size + 1, 6, none⟩ = false := by simp only [World.frozen?, b23]; rfl
  have B23 := hide b23
  have hle : w.heap.size ≤ w.heap.size + 1 := by omega
  clear b23
  have h0' := set4 B23.out 0 (.slice none 0 0)
  have h1 := set4 h0' 1 (.int .i64 0)
  have h2 := set4 h1 2 (.int .i64 0)
  have h3 := set4 h2 3 (.int .i64 0)
  have h4 := set4 h3 4 (.int .i64 0)
  have h5 := set4 h4 5 (.int .i64 0)
  have H6 := hide (set4 h5 6 (.int .i64 0))
  clear h0' h1 h2 h3 h4 h5
  by_cases hA : A = 0
  · rw [if_neg (by omega)] at HE1
    have hz : ((A : Int) != 0) = false := by simp [hA]
    by_cases hl : is.length = 0
    · rw [if_pos hl] at HE1
      have hlz : ((is.length : Int) == 0) = true := by simp [hl]
      clear hA hl h0
      go_wp2
      obtain ⟨f0, f1, f2, f3, f4, f5, f6⟩ := seven_of H6.out
      refine bodyPost_ret (v := .tuple #[.agg #[.slice none 0 0, .int .i64 0, .int .i64 0, .int .i64 0, .int .i64 0, .int .i64 0, .int .i64 0], .int .i64 5]) (by simp [results, Try.results18, go_sem, f0, f1, f2, f3, f4, f5, f6]) rfl ?_
      exact ⟨by rw [← HE1.out]; rfl, Below.setCell (Below.setCell (Below.setCell (Below.setCell (Below.setCell (Below.setCell (Below.setCell HGW.out hle _) hle _) hle _) hle _) hle _) hle _) hle _⟩
    · rw [if_neg hl] at HE1
      exact absurd HE1.out.symm h0
  · rw [if_pos hA] at HE1
    have hz : ((A : Int) != 0) = true := by simp; exact hA
    clear hA h0
    go_wp2
    obtain ⟨f0, f1, f2, f3, f4, f5, f6⟩ := seven_of H6.out
    refine bodyPost_ret (v := .tuple #[.agg #[.slice none 0 0, .int .i64 0, .int .i64 0, .int .i64 0, .int .i64 0, .int .i64 0, .int .i64 0], .int .i64 A]) (by simp [results, Try.results18, go_sem, f0, f1, f2, f3, f4, f5, f6]) rfl ?_
    exact ⟨by rw [← HE1.out], Below.setCell (Below.setCell (Below.setCell (Below.setCell (Below.setCell (Below.setCell (Below.setCell HGW.out hle _) hle _) hle _) hle _) hle _) hle _) hle _⟩

/-- Labels that are right are their own copy. -/
theorem make_right {ls : List Lb.Lab} (h : Lb.checkB ls = 0) : Lb.makeErr ls = 0 ∧ Lb.makeAns ls = ls := by
  obtain ⟨h1, h2, h3⟩ : Lb.eachErr 1 ls = 0 ∧ Lb.twiceB ls = false ∧ Lb.riseB ls = true := by
    unfold Lb.checkB at h
    split at h
    · rename_i h1
      split at h
      · rename_i h2
        split at h
        · rename_i h3; exact ⟨h1, h2, h3⟩
        · cases h
      · cases h
    · rename_i h1; exact absurd h h1
  obtain ⟨hl, hx⟩ := Lb.eachErr_zero.1 h1
  have h0 : Lb.makeErr ls = 0 := by
    unfold Lb.makeErr
    rw [if_pos (Lb.eachErr_zero.2 ⟨hl, fun x hm => by have := hx x hm; exact ⟨this.1, by omega, this.2.2⟩⟩), if_pos h2]
  refine ⟨h0, ?_⟩
  rw [Lb.makeAns_ok h0]
  refine (Lb.makeL_uniq h2 (Lb.rise_iff.2 h3) fun y => ⟨fun hy => ⟨hy, fun e => ?_⟩, fun hy => hy.1⟩).symm
  have := (hx y hy).2.1
  rw [e] at this
  simp at this
theorem copyI_right {x : Itm} (h : itemErr x = 0) : copyI x = x := by
  unfold itemErr at h
  split at h
  · cases h
  · unfold copyI
    rw [(make_right h).2]
/-- Items of a shard that passes Check are their own copies. -/
theorem copies_right {l : List Itm} (h : ∀ i, i < l.length → oneE l i = 0) : l.map copyI = l := by
  have : ∀ x ∈ l, copyI x = x := fun x hx => by
    obtain ⟨i, hi, rfl⟩ := List.getElem_of_mem hx
    have := h i hi
    rw [oneE_is hi] at this
    by_cases h0 : itemErr l[i] = 0
    · exact copyI_right h0
    · rw [if_pos h0] at this; exact absurd this h0
  exact (List.map_congr_left this).trans (List.map_id' l)
set_option maxRecDepth 20000 in
set_option maxHeartbeats 4000000 in
theorem sameItems_yes (w : World) (va vb : Value) (l : List Itm) (ha : readsItems w w.heap.size va l) (hb : readsItems w w.heap.size vb l) (hlen : l.length ≤ 1000) (hlab : ∀ x ∈ l, x.2.1.length ≤ 1000000) :
    Calls Try.prog 21 #[va, vb] w fun e w' => e = .returned (.bool true) ∧ ∃ n, w' = w.drewN n := by
  obtain ⟨ao, ac, rfl, -, hac⟩ := ha
  obtain ⟨bo, bc, rfl, -, hbc⟩ := hb
  have HL := hide hlab
  have hlr : ((l.length : Int) != (l.length : Int)) = false := by simp
  clear hlab
  go_enter Try.func21, Try.ntmps21
  go_wp2
  go_loopw [5] (fun iv wr => ∃ k n : Nat, k ≤ l.length ∧ iv = .int .i64 k ∧ Hid (wr = w.drewN n)) (fun iv _ => l.length - (intOf iv).toNat)
  case atStart => exact ⟨0, 0, by omega, rfl, hide rfl⟩
  case round =>
    obtain ⟨k, n, hk, rfl, HW⟩ := hrel
    by_cases hlt : k < l.length
    · have hlti : (k : Int) < (l.length : Int) := by omega
      obtain ⟨ab, af, av, rfl, haB, hal, a0, a1, a2, a3⟩ := hac k hlt
      obtain ⟨bb, bf, bv, rfl, hbB, hbl, b0, b1, b2, b3⟩ := hbc k hlt
      have hx := HL.out _ (List.getElem_mem hlt)
      obtain ⟨x, HX⟩ : ∃ x : Itm, Hid (l[k] = x) := ⟨_, hide rfl⟩
      rw [HX.out] at hal hbl a0 a2 a3 b0 b2 b3 hx
      have HSL : Hid (∀ q, Calls Try.prog 38 #[av, bv] (wr.drewN q) fun e w' => e = .returned (.bool true) ∧ ∃ n, w' = (wr.drewN q).drewN n) := hide fun q => by
        have e : wr.drewN q = w.drewN (n + q) := by rw [HW.out, World.drewN_drewN]
        rw [e]
        have := Lb.sameLabels_any (w.drewN (n + q)) av bv x.2.1 x.2.1 hal hbl hx (by omega)
        rw [decide_eq_true rfl] at this
        exact this
      obtain ⟨alo, alc, rfl⟩ := Lb.readsLabels_len hal
      obtain ⟨blo, blc, rfl⟩ := Lb.readsLabels_len hbl
      have d0 : wr.cell? ⟨ab, af + k * 4, none⟩ = some (.int .i64 x.1) := by rw [HW.out]; exact a0
      have d1 : wr.cell? ⟨ab, af + k * 4 + 1, none⟩ = some (.slice alo x.2.1.length alc) := by rw [HW.out]; exact a1
      have d2 : wr.cell? ⟨ab, af + k * 4 + 2, none⟩ = some (.int .i64 x.2.2.1) := by rw [HW.out]; exact a2
      have d3 : wr.cell? ⟨ab, af + k * 4 + 3, none⟩ = some (.int .u64 (x.2.2.2 : Nat)) := by rw [HW.out]; exact a3
      have e0 : wr.cell? ⟨bb, bf + k * 4, none⟩ = some (.int .i64 x.1) := by rw [HW.out]; exact b0
      have e1 : wr.cell? ⟨bb, bf + k * 4 + 1, none⟩ = some (.slice blo x.2.1.length blc) := by rw [HW.out]; exact b1
      have e2 : wr.cell? ⟨bb, bf + k * 4 + 2, none⟩ = some (.int .i64 x.2.2.1) := by rw [HW.out]; exact b2
      have e3 : wr.cell? ⟨bb, bf + k * 4 + 3, none⟩ = some (.int .u64 (x.2.2.2 : Nat)) := by rw [HW.out]; exact b3
      clear hac hbc hal hbl a0 a1 a2 a3 b0 b1 b2 b3 haB hbB
      go_wp2
      go_quiet ((go_at_call 38; exact Calls.quiet_of (HSL.out _)))
      go_wp2
      go_roundw
      case rel => exact ⟨k + 1, _, by omega, by go_num, hide (by rw [HW.out, World.drewN_drewN])⟩
      case measure => simp [intOf]; omega
    · go_wp2
      go_ret
      exact ⟨rfl, n, HW.out⟩
end Go.Proofs.Ytfdogelkgogcbaa.Sh
