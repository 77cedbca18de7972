/- find: findBegun. -/
import Derived.Test.YtdlmgkncneifaaaGreatProg
import Derived.Test.YtdlmgkncneifaaaGreatKit
import Derived.Test.YtdlmgkncneifaaaGreatLSpec
import Derived.Test.YtdlmgkncneifaaaGreatFdA
import Derived.Test.YtdlmgkncneifaaaGreatFdD
import Derived.Test.YtdlmgkncneifaaaGreatFdI
import Derived.Test.YtdlmgkncneifaaaGreatFdM
set_option linter.unusedVariables false
set_option linter.unusedSimpArgs false
namespace Go.Proofs.YtdlmgkncneifaaaGreat.Fd
open Go.RowKit Go.Maps Lb Ln
attribute [local go_sem] bs_size bs_toList bs_append bs_get bs_extract

def begT : List UInt8 := [97, 61, 34, 98, 34, 10, 35, 32, 120, 10, 99, 61, 34, 100, 34]
def begA : Tgt := [([97], [98])]
def begB : Tgt := [([99], [100])]
theorem parse_beg : parseT begT = .ok [begA, begB] := by kernel_rfl
theorem part_beg : partT [begA] [begA, begB] = ([], [begA], [begB]) := by
  have h : ordB begA begA = 0 := ordB_zero.2 rfl
  rw [partT, if_neg (by omega), if_neg (by omega), partT]
theorem sorted_one (x : Tgt) : isSorted [x] [x] := ⟨List.Perm.refl _, List.pairwise_singleton _ _⟩
theorem sorted_two {x y : Tgt} (h : ordB x y ≤ 0) : isSorted [x, y] [x, y] := ⟨List.Perm.refl _, by simpa using h⟩
theorem diff_beg : diffErr [begA] [begA, begB] = 0 := by kernel_rfl
theorem readsTgts_first {w : World} {B : Nat} {v : Value} {x y : Tgt} (h : readsTgts w B v [x, y]) : ∃ b o cp, v = .slice (some ⟨b, o, none⟩) 2 cp ∧ 2 ≤ cp ∧ readsTgts w B (.slice (some ⟨b, o, none⟩) 1 cp) [x] := by
  obtain ⟨ao, cp, hv, hc, h⟩ := h
  obtain ⟨b, o, p, rfl, hb, hp, c0⟩ := h 0 (by simp)
  refine ⟨b, o, cp, hv, hc, some ⟨b, o, none⟩, cp, rfl, by simp at hc ⊢; omega, fun i hi => ?_⟩
  obtain rfl : i = 0 := by simp at hi; omega
  exact ⟨b, o, p, rfl, hb, hp, c0⟩
set_option maxRecDepth 20000 in
set_option maxHeartbeats 1200000 in
theorem findBegun_any (w : World) : Calls Tryz.prog 7 #[] w fun e w' => e = .returned (.bool true) ∧ Grow w w' := by
  have S1 := hide (parse_any w begT (by decide))
  rw [parse_beg] at S1
  go_enter Tryz.func7, Tryz.ntmps7
  go_wp2_with fail
  refine S1.out.mono ?_
  rintro e w1 ⟨v, rfl, hr, hg⟩
  obtain ⟨b, o, cp, rfl, hcp, hr1⟩ := readsTgts_first hr
  have HR := hide hr
  have HR1 := hide hr1
  have HG := hide hg
  have hcpi : (2 : Int) ≤ (cp : Int) := by omega
  have hgA := (Grow.refl w1).alloc (.cells #[.int .i64 0, .int .i64 0] 25)
  have S2 := hide (diff_any (w1.alloc (.cells #[.int .i64 0, .int .i64 0] 25)) _ _ [begA] [begA, begB] ((hr1.keep hgA).more hgA.size) ((hr.keep hgA).more hgA.size) ⟨by simp, fun x hx => by simp at hx; subst hx; exact ⟨by decide, fun y hy => by simp [begA] at hy; subst hy; decide⟩⟩
    ⟨by simp, fun x hx => by simp at hx; rcases hx with rfl | rfl; exact ⟨by decide, fun y hy => by simp [begA] at hy; subst hy; decide⟩; exact ⟨by decide, fun y hy => by simp [begB] at hy; subst hy; decide⟩⟩)
  clear hr hr1 hg S1 hgA
  simp only [faultT]
  go_wp2_with fail
  refine S2.out.mono ?_
  rintro e w2 ⟨hg2, v1, v2, v3, d, rfl, r1, r2, r3, hd⟩
  rw [if_pos diff_beg] at hd
  rw [diff_beg]
  obtain ⟨qa, qb, ha, hb, rfl⟩ := hd
  obtain rfl := sorted_uniq ha (sorted_one begA)
  obtain rfl := sorted_uniq hb (sorted_two (x := begA) (y := begB) (by decide +kernel))
  rw [part_beg] at r1 r2 r3
  obtain ⟨a1, c1, rfl⟩ := r1.shape
  obtain ⟨a2, c2, rfl⟩ := r2.shape
  obtain ⟨a3, c3, rfl⟩ := r3.shape
  have hgA := (Grow.refl w1).alloc (.cells #[.int .i64 0, .int .i64 0] 25)
  have HG2 : Hid (Grow w w2) := hide (HG.out.trans (hgA.trans hg2))
  obtain ⟨d0, d1⟩ := two_cells (hg2.get (heap_alloc_new w1 (.cells #[.int .i64 0, .int .i64 0] 25)))
  clear hg2 r1 r2 r3 ha hb S2 hgA HR HR1 HG
  simp only [List.length_cons, List.length_nil, Nat.zero_add]
  go_wp2
  go_ret
  exact ⟨rfl, HG2.out⟩
end Go.Proofs.YtdlmgkncneifaaaGreat.Fd
