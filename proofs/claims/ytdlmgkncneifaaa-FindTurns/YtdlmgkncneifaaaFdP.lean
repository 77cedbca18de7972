/- find: the walk of FindTurns. -/
import Derived.Test.YtdlmgkncneifaaaProg
import Derived.Test.YtdlmgkncneifaaaKit
import Derived.Test.YtdlmgkncneifaaaLSpec
import Derived.Test.YtdlmgkncneifaaaFdA
import Derived.Test.YtdlmgkncneifaaaFdC
import Derived.Test.YtdlmgkncneifaaaFdD
import Derived.Test.YtdlmgkncneifaaaFdI
import Derived.Test.YtdlmgkncneifaaaFdN
set_option linter.unusedVariables false
set_option linter.unusedSimpArgs false
namespace Go.Proofs.Ytdlmgkncneifaaa.Fd
open Go.RowKit Go.Maps Lb Ln
attribute [local go_sem] bs_size bs_toList bs_append bs_get bs_extract

theorem firstT_all {l : List Tgt} (h : ∀ x ∈ l, checkB x = 0) : firstT l = 0 := firstT_zero fun j hj => h _ (List.getElem_mem hj)
theorem diffErr_self {a b : List Tgt} (h : diffErr a b = 0) : diffErr a a = 0 ∧ a.length ≤ 100 ∧ b.length ≤ 100 ∧ (∀ x ∈ a, checkB x = 0) ∧ ∀ x ∈ b, checkB x = 0 := by
  unfold diffErr at h
  split at h
  · rename_i h0
    split at h
    · rename_i hn
      obtain ⟨l1, l2, r1, r2⟩ := listsErr_two_zero h0
      refine ⟨?_, l1, l2, r1, r2⟩
      have : listsErr [a, a] = 0 := by
        unfold listsErr manyLL
        rw [if_neg (by simp; omega)]
        unfold firstLL
        rw [if_pos (firstT_all r1)]
        unfold firstLL
        rw [if_pos (firstT_all r1)]
        rfl
      unfold diffErr
      rw [if_pos this, if_pos ⟨hn.1, hn.1⟩]
    · cases h
  · rename_i h0; exact absurd h h0
theorem part_mem {a b : List Tgt} {x : Tgt} : (x ∈ (partT a b).1 → x ∈ a) ∧ (x ∈ (partT a b).2.1 → x ∈ a) ∧ (x ∈ (partT a b).2.2 → x ∈ b) := by
  fun_induction partT a b with
  | case1 b => simp
  | case2 y a => simp
  | case3 y a z b h ih => simp only [List.mem_cons] at *; grind
  | case4 y a z b h h2 ih => simp only [List.mem_cons] at *; grind
  | case5 y a z b h h2 ih => simp only [List.mem_cons] at *; grind
set_option maxRecDepth 20000 in
set_option maxHeartbeats 1200000 in
theorem findTurns_any (w : World) (va : Value) (a : List Tgt) (ha : readsTgts w w.heap.size va a) (oa : okTgts a) (vb : Value) (b : List Tgt) (hb : readsTgts w w.heap.size vb b) (ob : okTgts b) :
    Calls Try.prog 3 #[va, vb] w fun e w' => e = .returned (.bool true) ∧ Grow w w' := by
  have S0 := hide (findBegun_any w)
  obtain ⟨ao, ac, hva⟩ := ha.shape
  obtain ⟨bo, bc, hvb⟩ := hb.shape
  have HA := hide ha
  have HB := hide hb
  have HOA := hide oa
  have HOB := hide ob
  clear ha hb oa ob
  subst hva hvb
  go_enter Try.func3, Try.ntmps3
  go_wp2_with fail
  refine S0.out.mono ?_
  rintro e w1 ⟨rfl, hg1⟩
  have HG1 := hide hg1
  have S1 := hide (diff_any w1 _ _ a b ((HA.out.keep HG1.out).more HG1.out.size) ((HB.out.keep HG1.out).more HG1.out.size) HOA.out HOB.out)
  clear hg1 S0
  go_wp2_with fail
  refine S1.out.mono ?_
  rintro e w2 ⟨hg2, g1, s1, c1, d1, rfl, r1, r2, r3, hd1⟩
  have HG2 : Hid (Grow w w2) := hide (HG1.out.trans hg2)
  have HR1 := hide r1
  have HR2 := hide r2
  have HR3 := hide r3
  have HD1 := hide hd1
  obtain ⟨x1, y1, hg1⟩ := r1.shape
  obtain ⟨x2, y2, hs1⟩ := r2.shape
  obtain ⟨x3, y3, hc1⟩ := r3.shape
  have S2 := hide (diff_any w2 _ _ b a ((HB.out.keep HG2.out).more HG2.out.size) ((HA.out.keep HG2.out).more HG2.out.size) HOB.out HOA.out)
  clear hg2 S1 r1 r2 r3 hd1
  subst hg1 hs1 hc1
  go_wp2_with fail
  refine S2.out.mono ?_
  rintro e w3 ⟨hg3, g2, s2, c2, d2, rfl, r1, r2, r3, hd2⟩
  have HG3 : Hid (Grow w w3) := hide (HG2.out.trans hg3)
  have HQ1 := hide r1
  have HQ2 := hide r2
  have HQ3 := hide r3
  have HD2 := hide hd2
  obtain ⟨x4, y4, hg1⟩ := r1.shape
  obtain ⟨x5, y5, hs1⟩ := r2.shape
  obtain ⟨x6, y6, hc1⟩ := r3.shape
  have HP1 := hide ((HR1.out.keep hg3).more hg3.size)
  have HP2 := hide ((HR2.out.keep hg3).more hg3.size)
  have HP3 := hide ((HR3.out.keep hg3).more hg3.size)
  clear hg3 S2 r1 r2 r3 hd2 HR1 HR2 HR3
  subst hg1 hs1 hc1
  by_cases h1 : diffErr a b = 0
  · by_cases h2 : diffErr b a = 0
    · obtain ⟨h3, l1, l2, k1, k2⟩ := diffErr_self h1
      have e1 := HD1.out
      have e2 := HD2.out
      rw [if_pos h1] at e1
      rw [if_pos h2] at e2
      obtain ⟨qa, qb, i1, i2, rfl⟩ := e1
      obtain ⟨qb', qa', i3, i4, rfl⟩ := e2
      obtain rfl := sorted_uniq i1 i4
      obtain rfl := sorted_uniq i2 i3
      have HI1 := hide i1
      have HI2 := hide i2
      have hpt := part_turn qa qb
      rw [hpt] at HQ1 HQ2 HQ3 ⊢
      have S3 := hide (diff_any w3 _ _ a a ((HA.out.keep HG3.out).more HG3.out.size) ((HA.out.keep HG3.out).more HG3.out.size) HOA.out HOA.out)
      have H3 := hide h3
      have hpl := part_len qa qb
      rw [i1.1.length_eq, i2.1.length_eq] at hpl
      have HK1 : Hid (∀ x ∈ (partT qa qb).1 ++ (partT qa qb).2.1 ++ (partT qa qb).2.2, x.length ≤ 1000000) := hide fun x hx => by
        have hmem : x ∈ a ∨ x ∈ b := by
          rcases List.mem_append.1 hx with hx | hx
          · rcases List.mem_append.1 hx with hx | hx
            · exact .inl (HI1.out.1.mem_iff.1 (part_mem.1 hx))
            · exact .inl (HI1.out.1.mem_iff.1 (part_mem.2.1 hx))
          · exact .inr (HI2.out.1.mem_iff.1 (part_mem.2.2 hx))
        have := (lens_right (hmem.elim (k1 x) (k2 x))).1
        omega
      rw [h1, h2]
      clear h1 h2 h3 hpt HD1 HD2 i1 i2 i3 i4 k1 k2
      generalize partT qa qb = d at *
      obtain ⟨dg, ds, dc⟩ := d
      simp only at *
      go_wp2_with fail
      refine S3.out.mono ?_
      rintro e w4 ⟨hg4, g3, s3, c3, d3, rfl, r1, r2, r3, hd3⟩
      rw [if_pos H3.out] at hd3
      rw [H3.out]
      obtain ⟨qa3, qa4, i5, i6, rfl⟩ := hd3
      obtain rfl := sorted_uniq i5 i6
      rw [part_self] at r1 r2 r3
      obtain ⟨x7, y7, hg1⟩ := r1.shape
      obtain ⟨x8, y8, hs1⟩ := r2.shape
      obtain ⟨x9, y9, hc1⟩ := r3.shape
      have hql : qa3.length = a.length := i5.1.length_eq
      simp only [hql, List.length_nil] at hg1 hs1 hc1
      have HG4 : Hid (Grow w w4) := hide (HG3.out.trans hg4)
      have HP1' := hide ((HP1.out.keep hg4).more hg4.size)
      have HP2' := hide ((HP2.out.keep hg4).more hg4.size)
      have HP3' := hide ((HP3.out.keep hg4).more hg4.size)
      have HQ1' := hide ((HQ1.out.keep hg4).more hg4.size)
      have HQ2' := hide ((HQ2.out.keep hg4).more hg4.size)
      have HQ3' := hide ((HQ3.out.keep hg4).more hg4.size)
      clear hg4 S3 r1 r2 r3 i5 i6 hql HP1 HP2 HP3 HQ1 HQ2 HQ3
      subst hg1 hs1 hc1
      have hlg : dg.length ≤ 1000000 := by omega
      have hls : ds.length ≤ 1000000 := by omega
      have hlc : dc.length ≤ 1000000 := by omega
      have HKg : Hid (∀ x ∈ dg, x.length ≤ 1000000) := hide fun x hx => HK1.out x (by simp [hx])
      have HKs : Hid (∀ x ∈ ds, x.length ≤ 1000000) := hide fun x hx => HK1.out x (by simp [hx])
      have HKc : Hid (∀ x ∈ dc, x.length ≤ 1000000) := hide fun x hx => HK1.out x (by simp [hx])
      have T1 := hide (sameTgts_any w4 _ _ dg dg HP1'.out HQ3'.out hlg HKg.out (fun x hx => by have := HKg.out x hx; omega))
      rw [show decide (dg = dg) = true by simp] at T1
      go_wp2_with fail
      refine T1.out.mono ?_
      rintro e w5 ⟨rfl, hg5⟩
      have HG5 : Hid (Grow w w5) := hide (HG4.out.trans hg5)
      have T2 := hide (sameTgts_any w5 _ _ ds ds ((HP2'.out.keep hg5).more hg5.size) ((HQ2'.out.keep hg5).more hg5.size) hls HKs.out (fun x hx => by have := HKs.out x hx; omega))
      have HP3'' := hide ((HP3'.out.keep hg5).more hg5.size)
      have HQ1'' := hide ((HQ1'.out.keep hg5).more hg5.size)
      rw [show decide (ds = ds) = true by simp] at T2
      clear hg5 T1
      go_wp2_with fail
      refine T2.out.mono ?_
      rintro e w6 ⟨rfl, hg6⟩
      have HG6 : Hid (Grow w w6) := hide (HG5.out.trans hg6)
      have T3 := hide (sameTgts_any w6 _ _ dc dc ((HP3''.out.keep hg6).more hg6.size) ((HQ1''.out.keep hg6).more hg6.size) hlc HKc.out (fun x hx => by have := HKc.out x hx; omega))
      rw [show decide (dc = dc) = true by simp] at T3
      clear hg6 T2
      go_wp2_with fail
      refine T3.out.mono ?_
      rintro e w7 ⟨rfl, hg7⟩
      have HG7 : Hid (Grow w w7) := hide (HG6.out.trans hg7)
      clear hg7 T3
      have e1 : ((dg.length : Int) + (ds.length : Int) == (a.length : Int)) = true := by simp; omega
      have e2 : ((dc.length : Int) + (ds.length : Int) == (b.length : Int)) = true := by simp; omega
      have f1 : (dg.length : Int) ≤ 1000000 := by omega
      have f2 : (ds.length : Int) ≤ 1000000 := by omega
      have f3 : (dc.length : Int) ≤ 1000000 := by omega
      have f4 : (a.length : Int) ≤ 1000000 := by omega
      have f5 : (b.length : Int) ≤ 1000000 := by omega
      go_wp2
      go_ret
      exact ⟨rfl, HG7.out⟩
    · have hne : ((diffErr b a : Int) != 0) = true := by simpa using h2
      rw [h1]
      generalize diffErr b a = E2 at *
      clear h1 h2
      go_wp2
      go_ret
      exact ⟨rfl, HG3.out⟩
  · have hne : ((diffErr a b : Int) != 0) = true := by simpa using h1
    generalize diffErr a b = E1 at *
    clear h1
    go_wp2
    go_ret
    exact ⟨rfl, HG3.out⟩
end Go.Proofs.Ytdlmgkncneifaaa.Fd
