/- shard: that it is begun; Which. -/
import Derived.Laws.OwnMore
import Derived.Test.YtfdogelkgogcbaaProg
import Derived.Test.YtfdogelkgogcbaaKit
import Derived.Test.YtfdogelkgogcbaaReg
import Derived.Test.YtfdogelkgogcbaaLRow
import Derived.Test.YtfdogelkgogcbaaLSum
import Derived.Test.YtfdogelkgogcbaaShA
import Derived.Test.YtfdogelkgogcbaaShG
import Derived.Test.YtfdogelkgogcbaaShI
import Derived.BigQuiet
set_option linter.unusedVariables false
set_option linter.unusedSimpArgs false
namespace Go.Proofs.Ytfdogelkgogcbaa.Sh
open Go.RowKit
attribute [local go_sem] bs_size bs_toList bs_append bs_get bs_extract

theorem ownItems.reads {w : World} {B : Nat} {v : Value} {ps : List (Itm × Value)} (h : ownItems w B v ps) : readsItems w w.heap.size v (ps.map (·.1)) := by
  obtain ⟨ao, cp, e⟩ := own_shape h.1
  rcases h.1.2 with ⟨hv, h0⟩ | ⟨g, cap, cur, hv, h1, h2, h3⟩
  · refine ⟨none, 0, by rw [hv, List.length_map, h0], by rw [List.length_map]; omega, fun i hi => ?_⟩
    rw [List.length_map] at hi
    omega
  · refine ⟨some ⟨g, 0, none⟩, cap, by rw [hv, List.length_map], by rw [List.length_map]; exact h3.1, fun i hi => ?_⟩
    rw [List.length_map] at hi
    have hc := World.ownsRow.cells h.1 (g := g) (by rw [hv]; rfl)
    obtain ⟨q0, q1, q2, q3⟩ := itCells_at ps i hi
    have r0 := hc _ _ q0
    have r1 := hc _ _ q1
    have r2 := hc _ _ q2
    have r3 := hc _ _ q3
    rw [Addr.add_lit] at r0 r1 r2 r3
    have hl := Lb.reads_ownLabels (h.2 ps[i] (List.getElem_mem hi))
    refine ⟨g, 0, ps[i].2, rfl, lt_of_block h2, by simpa using hl, by simpa using r0, by simpa using r1, by simpa using r2, by simpa using r3⟩
def x0 : Itm := (0, [([97], [98])], 0, 0)
def s0 : Shd := ⟨[], 1, 1, 1, 2, 0, 0⟩
def s1 : Shd := ⟨[x0], 1, 1, 1, 2, 0, 0⟩
theorem copy_x0 : copyI x0 = x0 := by decide +kernel
theorem err_s0 : shardErr s0 = 0 := by decide +kernel
theorem err_x0 : itemErr x0 = 0 := by decide +kernel
theorem at_s1 : atErr s1 0 = 0 := by decide +kernel
theorem write_x0 : writeErr (sersOf ([x0].take 1)) = 0 := by decide +kernel
theorem next_s1 : nextN s1 = 1 := by
  show aheadN [x0] 1 = 1
  exact aheadN_yes (by decide) write_x0
theorem ok_x0 : okItm x0 := by
  refine ⟨⟨by decide, by decide⟩, ⟨by decide, by decide⟩, by decide, by decide, fun y hy => ?_⟩
  have : y = ([97], [98]) := by simpa [x0] using hy
  subst this
  exact ⟨by decide, by decide⟩
theorem ok_s0 : okShd s0 := ⟨by decide, fun x hx => by simp [s0] at hx, by decide, by decide, by decide, by decide, by decide, by decide⟩
theorem ok_s1 : okShd s1 := ⟨by decide, fun x hx => by
  have : x = x0 := by simpa [s1] using hx
  subst this
  exact ok_x0, by decide, by decide, by decide, by decide, by decide, by decide⟩
theorem lit_a : (⟨#[97]⟩ : ByteArray) = bs [97] := rfl
theorem lit_b : (⟨#[98]⟩ : ByteArray) = bs [98] := rfl

set_option maxRecDepth 20000 in
set_option maxHeartbeats 2000000 in
theorem shardBegun_any (w : World) : Calls Try.prog 9 #[] w fun e w' => e = .returned (.bool true) ∧ Grow w w' := by
  obtain ⟨V1, e1, g1, b1⟩ := laid_at w #[.string ⟨#[97]⟩, .string ⟨#[98]⟩] 52
  have hl : Lb.readsLabels V1 V1.heap.size (.slice (some ⟨w.heap.size, 0, none⟩) 1 1) x0.2.1 := ⟨some ⟨w.heap.size, 0, none⟩, 1, rfl, fun i hi => by
    obtain rfl : i = 0 := by simp [x0] at hi; omega
    refine ⟨w.heap.size, 0, rfl, lt_of_block b1, ?_, ?_⟩
    · simp [World.cell?, b1, x0]; rfl
    · simp [World.cell?, b1, x0]; rfl⟩
  have HPU := push_any V1 (.slice none 0 0) (.slice (some ⟨w.heap.size, 0, none⟩) 1 1) s0 x0 ⟨none, 0, rfl, Nat.le_refl _, fun i hi => by simp [s0] at hi⟩ hl ok_s0 ok_x0 err_s0 err_x0 rfl (by decide)
  unfold shdV itmV at HPU
  simp only [s0, x0] at HPU
  replace HPU := hide HPU
  have HG1 := hide g1
  clear hl b1 g1
  go_enter Try.func9, Try.ntmps9
  go_wp2_with fail
  refine HPU.out.mono ?_
  rintro e w2 ⟨v', ps, rfl, hown, hps, hg2⟩
  have hps1 : ps.map (·.1) = [x0] := by rw [hps]; show [copyI x0] = _; rw [copy_x0]
  have hpl : ps.length = 1 := by have := congrArg List.length hps1; simpa using this
  obtain ⟨vo, vc, hvv⟩ := own_shape hown.1
  have hrd := hown.reads
  rw [hps1] at hrd
  rw [hpl] at hvv
  subst hvv
  obtain ⟨V4, e4, g4, b4⟩ := laid_at w2 #[.slice vo 1 vc, .int .i64 1, .int .i64 1, .int .i64 1, .int .i64 2, .int .i64 0, .int .i64 0] 24
  obtain ⟨c0, c1, c2, c3, c4, c5, c6⟩ := seven_of b4
  have HNX := next_any V4 (.slice vo 1 vc) s1 0 ((hrd.keep g4).more g4.size) ok_s1
  unfold shdV at HNX
  rw [at_s1, next_s1] at HNX
  simp only [s1] at HNX
  rw [← e4] at HNX c0 c1 c2 c3 c4 c5 c6
  replace HNX := hide HNX
  have HG4 : Hid (Grow w V4) := hide (HG1.out.trans (Grow.trans hg2 g4))
  rw [← e4] at HG4
  clear hown hps hps1 hpl hrd hg2 g4 b4 HPU e1 e4
  go_wp2_with fail
  refine HNX.out.mono ?_
  rintro e w5 ⟨hg5, ⟨hno, _⟩ | ⟨_, v'', qs, T, rfl, hown, hqs, hT⟩⟩
  · exact absurd rfl hno
  · have hql : qs.length = 1 := by have := congrArg List.length hqs; simpa using this
    obtain ⟨uo, uc, huu⟩ := own_shape hown.1
    rw [hql] at huu
    subst huu
    have hTe : T.isEmpty = false := by
      rcases hT with ⟨h, _⟩ | ⟨_, _, P, _, rfl⟩
      · cases h
      · cases h : numB (writeTxt (sersOf (List.take 1 [x0]))).length with
        | nil => have := (numB_length (writeTxt (sersOf (List.take 1 [x0]))).length).1; rw [h] at this; simp at this
        | cons a l => rfl
    have HG5 : Hid (Grow w w5) := hide (HG4.out.trans hg5)
    clear hown hqs hT hg5 HNX hql
    go_wp2
    go_ret
    exact ⟨rfl, HG5.out⟩
end Go.Proofs.Ytfdogelkgogcbaa.Sh
