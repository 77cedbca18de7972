/- 1 texts in one. -/
import Derived.Laws.OwnMore
import Derived.Test.YtkaeogldielkfaaGreatProg
import Derived.Test.YtkaeogldielkfaaGreatK0755ea5
import Derived.Test.YtkaeogldielkfaaGreatK1cde199
import Derived.Test.YtkaeogldielkfaaGreatK27654cb
import Derived.Test.YtkaeogldielkfaaGreatK3c7d114
import Derived.Test.YtkaeogldielkfaaGreatK5804e26
import Derived.Test.YtkaeogldielkfaaGreatKfd23cdb
import Derived.Test.YtkaeogldielkfaaGreatK594a6b0
import Derived.Test.YtkaeogldielkfaaGreatK50d5940
import Derived.BigQuiet
set_option linter.unusedVariables false
set_option linter.unusedSimpArgs false
namespace Go.Proofs.YtkaeogldielkfaaGreat.Rc
open Go.RowKit Lb
attribute [local go_sem] bs_size bs_toList bs_append bs_get bs_extract
theorem drewN_below (w : World) (n B : Nat) : Below B w (w.drewN n) := ⟨rfl, rfl, rfl, Nat.le_refl _, fun _ _ => rfl⟩
set_option maxRecDepth 20000 in
set_option maxHeartbeats 2000000 in
theorem sameLab_yes (w : World) (va vb : Value) (a : List Lab) (ha : readsLabels w w.heap.size va a) (hb : readsLabels w w.heap.size vb a) (hl : a.length ≤ 1000000) :
    Calls Tryz.prog 30 #[va, vb] w fun e w' => e = .returned (.bool true) ∧ ∃ n, w' = w.drewN n := by
  obtain ⟨ao, ac, rfl, acells⟩ := ha
  obtain ⟨bo, bc, rfl, bcells⟩ := hb
  go_enter Tryz.func30, Tryz.ntmps30
  go_wp2
  go_loopw [5] (fun i wr => ∃ k n : Nat, k ≤ a.length ∧ i = .int .i64 k ∧ Hid (wr = w.drewN n)) (fun i _ => a.length - (intOf i).toNat)
  case atStart => exact ⟨0, 0, by omega, rfl, hide rfl⟩
  case round =>
    obtain ⟨k, n, hk, rfl, HW⟩ := hrel
    by_cases hlt : k < a.length
    · obtain ⟨ab, aof, rfl, haB, a0, a1⟩ := acells k hlt
      obtain ⟨bb, bof, rfl, hbB, b0, b1⟩ := bcells k hlt
      have d0 : wr.cell? ⟨ab, aof + k * 2, none⟩ = some (.string (bs a[k].1)) := by rw [HW.out]; exact a0
      have d1 : wr.cell? ⟨ab, aof + k * 2 + 1, none⟩ = some (.string (bs a[k].2)) := by rw [HW.out]; exact a1
      have e0 : wr.cell? ⟨bb, bof + k * 2, none⟩ = some (.string (bs a[k].1)) := by rw [HW.out]; exact b0
      have e1 : wr.cell? ⟨bb, bof + k * 2 + 1, none⟩ = some (.string (bs a[k].2)) := by rw [HW.out]; exact b1
      clear a0 a1 b0 b1 acells bcells
      go_wp2
      go_quiet (fail)
      go_wp2
      go_roundw
      case rel => exact ⟨k + 1, _, by omega, by go_num, hide (by rw [HW.out, World.drewN_drewN])⟩
      case measure => simp [intOf]; omega
    · obtain rfl : k = a.length := by omega
      go_wp2
      go_ret
      exact ⟨rfl, n, HW.out⟩
set_option maxRecDepth 20000 in
set_option maxHeartbeats 4000000 in
theorem sameRefs_yes (w : World) (va vb : Value) (a : List RefL) (ha : readsRefs w w.heap.size va a) (hb : readsRefs w w.heap.size vb a) (hl : a.length ≤ 1000000) (hll : ∀ x ∈ a, x.2.length ≤ 1000000) :
    Calls Tryz.prog 34 #[va, vb] w fun e w' => e = .returned (.bool true) ∧ ∃ n, w' = w.drewN n := by
  have HA := hide ha
  have HB := hide hb
  have HLL := hide hll
  obtain ⟨ao, ac, rfl, _⟩ := ha
  obtain ⟨bo, bc, rfl, _⟩ := hb
  clear hll
  go_enter Tryz.func34, Tryz.ntmps34
  go_wp2
  go_loopw [5] (fun i wr => ∃ k n : Nat, k ≤ a.length ∧ i = .int .i64 k ∧ Hid (wr = w.drewN n)) (fun i _ => a.length - (intOf i).toNat)
  case atStart => exact ⟨0, 0, by omega, rfl, hide rfl⟩
  case round =>
    obtain ⟨k, n, hk, rfl, HW⟩ := hrel
    by_cases hlt : k < a.length
    · have hlti : (k : Int) < (a.length : Int) := by omega
      obtain ⟨ab, aof, va', rfl, haB, hla, a0, a1⟩ : ∃ b' o vl, ao = some ⟨b', o, none⟩ ∧ b' < w.heap.size ∧ readsLabels wr w.heap.size vl a[k].2 ∧ wr.cell? ⟨b', o + k * 2, none⟩ = some (.int .i64 a[k].1) ∧ wr.cell? ⟨b', o + k * 2 + 1, none⟩ = some vl := by
        obtain ⟨ao', cp', e, h⟩ := HA.out.keep (show Below w.heap.size w wr from HW.out ▸ drewN_below w n _)
        cases e
        exact h k hlt
      obtain ⟨bb, bof, vb', rfl, hbB, hlb, b0, b1⟩ : ∃ b' o vl, bo = some ⟨b', o, none⟩ ∧ b' < w.heap.size ∧ readsLabels wr w.heap.size vl a[k].2 ∧ wr.cell? ⟨b', o + k * 2, none⟩ = some (.int .i64 a[k].1) ∧ wr.cell? ⟨b', o + k * 2 + 1, none⟩ = some vl := by
        obtain ⟨ao', cp', e, h⟩ := HB.out.keep (show Below w.heap.size w wr from HW.out ▸ drewN_below w n _)
        cases e
        exact h k hlt
      have hl1 := HLL.out _ (List.getElem_mem hlt)
      obtain ⟨x, hx⟩ : ∃ x, a[k] = x := ⟨_, rfl⟩
      rw [hx] at a0 b0 hla hlb hl1
      have HLA := hide hla
      have HLB := hide hlb
      have hws : wr.heap.size = w.heap.size := by rw [HW.out]; rfl
      have HWS := hide hws
      obtain ⟨lao, lac, rfl⟩ := readsLabels_len hla
      obtain ⟨lbo, lbc, rfl⟩ := readsLabels_len hlb
      have HC : Hid (∀ q, Calls Tryz.prog 30 #[.slice lao x.2.length lac, .slice lbo x.2.length lbc] (wr.drewN q) fun e w' => e = .returned (.bool true) ∧ ∃ n, w' = (wr.drewN q).drewN n) := hide fun q => by
        have h1 := readsLabels_below HLA.out (drewN_below wr q _)
        have h2 := readsLabels_below HLB.out (drewN_below wr q _)
        exact (sameLab_yes (wr.drewN q) _ _ x.2 (readsLabels_mono h1 (by show _ ≤ wr.heap.size; rw [HWS.out]; exact Nat.le_refl _)) (readsLabels_mono h2 (by show _ ≤ wr.heap.size; rw [HWS.out]; exact Nat.le_refl _)) hl1)
      have hne : (x.1 != x.1) = false := by simp
      clear hla hlb hx hws
      go_wp2
      go_quiet ((go_at_call 30; exact Calls.quiet_of (HC.out _)))
      go_wp2
      go_roundw
      case rel => exact ⟨k + 1, _, by omega, by go_num, hide (by rw [HW.out, World.drewN_drewN])⟩
      case measure => simp [intOf]; omega
    · obtain rfl : k = a.length := by omega
      go_wp2
      go_ret
      exact ⟨rfl, n, HW.out⟩
/-! ### what the statements begin with -/
def begR : Rcd := ⟨2, [], [(1, -1, 0)]⟩
theorem begR_err : recErr begR = 0 := by decide
theorem begR_pack : (packB begR).length = 12 := by decide +kernel
theorem begR_unp : unpO (packB begR) = some begR := unpO_pack begR_err (by intro x hx; simp [begR] at hx; subst hx; decide)
set_option maxRecDepth 20000 in
set_option maxHeartbeats 4000000 in
theorem recordBegun_any (w : World) : Calls Tryz.prog 11 #[] w fun e w' => e = .returned (.bool true) ∧ Grow w w' := by
  obtain ⟨V1, e1, g1, b1⟩ := laid_at w #[.int .i64 1, .int .i64 (-1), .int .u64 0] 64
  have hc := three_of b1
  have hlt := lt_of_block b1
  have HP := hide (pack_any V1 (.slice none 0 0) (.slice (some ⟨w.heap.size, 0, none⟩) 1 1) begR ⟨none, 0, rfl, fun i hi => by simp [begR] at hi⟩ ⟨_, _, rfl, fun i hi => ⟨w.heap.size, 0, rfl, hlt, by
    obtain rfl : i = 0 := by simp [begR] at hi; omega
    exact ⟨hc.1, hc.2.1, hc.2.2⟩⟩⟩ ⟨⟨by decide, by decide⟩, by decide, by decide, by intro x hx; simp [begR] at hx, by intro x hx; simp [begR] at hx; subst hx; exact ⟨by decide, by decide, by decide, by decide, by decide⟩⟩)
  have hpt : packT begR = packB begR := if_pos begR_err
  rw [begR_err, hpt] at HP
  obtain ⟨P, HPP⟩ : ∃ P, Hid (packB begR = P) := ⟨_, hide rfl⟩
  have hpl : P.length = 12 := by rw [← HPP.out]; exact begR_pack
  have hpli : ((P.length : Int) == 12) = true := by simp [hpl]
  have HUN := hide (fun W => unpack_any W P (by omega))
  rw [HPP.out] at HP
  have hun : unpO P = some begR := by rw [← HPP.out]; exact begR_unp
  rw [hun] at HUN
  unfold unpackAns at HUN
  simp only at HUN
  have HG := hide g1
  rw [← e1] at HP HG
  clear e1 g1 b1 hc hlt hpt hun hpl
  go_enter Tryz.func11, Tryz.ntmps11
  go_wp2_with fail
  refine HP.out.mono ?_
  rintro e w2 ⟨rfl, hg2⟩
  have HG2 := hide (HG.out.trans hg2)
  clear hg2 HP
  go_wp2_with fail
  refine (HUN.out w2).mono ?_
  rintro e w3 ⟨hg3, vr, vp, rfl, hor, hop⟩
  have HG3 := hide (HG2.out.trans hg3)
  have HRP := hide (reads_ownPoints hop)
  obtain ⟨ro, rc, hvr⟩ := ownRefs_shape hor
  obtain ⟨po, pc, hvp⟩ := own_shape hop
  subst hvr hvp
  clear hg3 hor hop HUN
  obtain ⟨ao', cp', e, h⟩ := HRP.out
  cases e
  obtain ⟨pb, pof, hpo, hpB, p0, p1, p2⟩ := h 0 (by decide)
  subst hpo
  have e0 : begR.points[0] = (1, -1, 0) := rfl
  rw [e0] at p1
  simp only [Nat.zero_mul, Nat.add_zero] at p1
  have hk2 : begR.kind = 2 := rfl
  have hl1 : begR.points.length = 1 := rfl
  have hl0 : begR.refs.length = 0 := rfl
  clear p0 p2 h e0
  go_wp2
  go_ret
  exact ⟨rfl, HG3.out.trans ((Grow.refl _).alloc _)⟩
end Go.Proofs.YtkaeogldielkfaaGreat.Rc
