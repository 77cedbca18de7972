/- 2 texts in one. -/
import Derived.Laws.OwnMore
import Derived.Test.YtkaeogldielkfaaGreatProg
import Derived.Test.YtkaeogldielkfaaGreatK5674b3b
import Derived.Test.YtkaeogldielkfaaGreatK7aebb14
import Derived.Test.YtkaeogldielkfaaGreatKe92268d
import Derived.Test.YtkaeogldielkfaaGreatKb13b050
import Derived.Test.YtkaeogldielkfaaGreatK9055bc8
import Derived.Test.YtkaeogldielkfaaGreatKf68bbdb
import Derived.Test.YtkaeogldielkfaaGreatKaaaa94b
import Derived.Test.YtkaeogldielkfaaGreatK10927a6
import Derived.Test.YtkaeogldielkfaaGreatK23c4926
import Derived.Test.YtkaeogldielkfaaGreatK6cc5fd4
import Derived.BigQuiet
set_option linter.unusedVariables false
set_option linter.unusedSimpArgs false
namespace Go.Proofs.YtkaeogldielkfaaGreat.Rc
open Go.RowKit Lb
attribute [local go_sem] bs_size bs_toList bs_append bs_get bs_extract
/-- What 'Unpack' leaves in its variable. -/
def unpR (Z rb : Nat) (o : Option Rcd) (w : World) (E : Nat) (w' : World) : Prop :=
  KI rb w w' ∧ match o with
    | some r => E = 0 ∧ ∃ vr vp, w'.heap[rb]? = some (.cells #[.int .i64 r.kind, vr, vp] 29 (0, 0)) ∧ ownRefs w' Z vr r.refs ∧ ownPoints w' Z vp r.points
    | none => E ≠ 0
set_option maxRecDepth 20000 in
set_option maxHeartbeats 4000000 in
theorem unpack1_any (w : World) (sb rb : Nat) (s : List UInt8) (hs : s.length ≤ 140737488355328) (hsb : w.heap[sb]? = some (.cells #[.string (bs s)] 9 (0, 0))) (hrb : w.heap[rb]? = some (.cells #[.int .i64 0, .slice none 0 0, .slice none 0 0] 29 (0, 0))) :
    Calls Tryz.prog 62 #[.pointer (some ⟨sb, 0, none⟩), .pointer (some ⟨rb, 0, none⟩)] w (worked (unpR w.heap.size rb (unpO s) w)) := by
  obtain ⟨O, HO⟩ : ∃ O, Hid (unpO s = O) := ⟨_, hide rfl⟩
  have HU := hide (unpacked_any w s hs)
  rw [HO.out] at HU ⊢
  have HRB := hide hrb
  have hlt := lt_of_block hrb
  have c0 := cell_of_one hsb
  unfold unpAns at HU
  clear hrb hsb HO
  cases O with
  | none =>
    simp only at HU
    go_enter Tryz.func62, Tryz.ntmps62
    go_wp2_with fail
    refine HU.out.mono ?_
    rintro e w1 ⟨hg, E, hE, rfl⟩
    refine ⟨rfl, E, (outc_no hE).symm, KI.grow hg, hE⟩
  | some r =>
    simp only at HU
    go_enter Tryz.func62, Tryz.ntmps62
    go_wp2_with fail
    refine HU.out.mono ?_
    rintro e w1 ⟨hg, vr, vp, rfl, hr, hp⟩
    have hb1 := hg.get HRB.out
    have HB1 := hide hb1
    have HG := hide hg
    have HR := hide hr
    have HP := hide hp
    obtain ⟨ro, rc, hvr⟩ := ownRefs_shape hr
    obtain ⟨po, pc, hvp⟩ := own_shape hp
    subst hvr hvp
    obtain ⟨cr0, cr1, cr2⟩ := three_of hb1
    have z0 : w1.frozen? ⟨rb, 0, none⟩ = false := by simp only [World.frozen?, hb1]; rfl
    have z1 : w1.frozen? ⟨rb, 1, none⟩ = false := by simp only [World.frozen?, hb1]; rfl
    have z2 : w1.frozen? ⟨rb, 2, none⟩ = false := by simp only [World.frozen?, hb1]; rfl
    clear hg hr hp hb1 HU
    go_wp2
    go_end0
    refine ⟨0, rfl, (((KI.grow HG.out).trans (KI.set rb _ 0 _)).trans (KI.set rb _ 1 _)).trans (KI.set rb _ 2 _), rfl, .slice ro r.refs.length rc, .slice po r.points.length pc, ?_, ?_, ?_⟩
    · exact set3 (set3 (set3 HB1.out 0 (.int .i64 r.kind)) 1 (.slice ro r.refs.length rc)) 2 (.slice po r.points.length pc)
    · exact ownRefs_set (ownRefs_set (ownRefs_set HR.out HB1.out (by decide) (by decide) _) (set3 HB1.out 0 _) (by decide) (by decide) _) (set3 (set3 HB1.out 0 _) 1 _) (by decide) (by decide) _
    · have h0 := HP.out
      have h1 := ownsRow_setCell_other (a := ⟨rb, 0, none⟩) h0 (own_apart h0 HB1.out (by decide)) (.int .i64 r.kind)
      have h2 := ownsRow_setCell_other (a := ⟨rb, 1, none⟩) h1 (own_apart h1 (set3 HB1.out 0 _) (by decide)) (.slice ro r.refs.length rc)
      exact ownsRow_setCell_other (a := ⟨rb, 2, none⟩) h2 (own_apart h2 (set3 (set3 HB1.out 0 _) 1 _) (by decide)) _
/-- What 'Unpack' answers. -/
def unpackAns (Z : Nat) (o : Option Rcd) (w : World) (e : Ending) (w' : World) : Prop :=
  Grow w w' ∧ match o with
    | some r => ∃ vr vp, e = .returned (.tuple #[.agg #[.int .i64 r.kind, vr, vp], .int .i64 0]) ∧ ownRefs w' Z vr r.refs ∧ ownPoints w' Z vp r.points
    | none => e = .returned (.tuple #[.agg #[.int .i64 0, .slice none 0 0, .slice none 0 0], .int .i64 1])
set_option maxRecDepth 20000 in
set_option maxHeartbeats 4000000 in
theorem unpack_any (w : World) (s : List UInt8) (hs : s.length ≤ 140737488355328) :
    Calls Tryz.prog 33 #[.string (bs s)] w (unpackAns w.heap.size (unpO s) w) := by
  have hcf : ∀ (args : Array Value) (w : World), (callFunc 62 args).run Tryz.prog w = .ok (.enter 62 args) w := fun args w => by simp [go_sem]
  obtain ⟨O, HO⟩ : ∃ O, Hid (unpO s = O) := ⟨_, hide rfl⟩
  rw [HO.out]
  obtain ⟨V1, e1, g1, b1⟩ := laid_at w #[.string (bs s)] 9
  obtain ⟨V2, e2, g2, b2⟩ := laid_at V1 #[.int .i64 0, .slice none 0 0, .slice none 0 0] 29
  obtain ⟨V3, e3, g3, b3⟩ := laid_at V2 #[.int .i64 0, .slice none 0 0, .slice none 0 0] 29
  obtain ⟨V4, e4, g4, b4⟩ := laid_at V3 #[.int .i64 0] 30
  have s1 : V1.heap.size = w.heap.size + 1 := by rw [← e1]; simp
  have s2 : V2.heap.size = w.heap.size + 2 := by rw [← e2]; simp [s1]
  have s3 : V3.heap.size = w.heap.size + 3 := by rw [← e3]; simp [s2]
  have s4 : V4.heap.size = w.heap.size + 4 := by rw [← e4]; simp [s3]
  have b1' := (g2.trans (g3.trans g4)).get b1
  have b2' := (g3.trans g4).get b2
  have b3' := g4.get b3
  rw [s1] at b2'
  rw [s2] at b3'
  rw [s3] at b4
  have h04 : Grow w V4 := g1.trans (g2.trans (g3.trans g4))
  have HW := hide (unpack1_any V4 w.heap.size (w.heap.size + 2) s hs b1' b3')
  rw [HO.out] at HW
  have HB2 := hide b2'
  have HB3 := hide b3'
  have HB4 := hide b4
  have H04 := hide h04
  have E4 := hide e4
  have HAT := hide (attempt_any V3 62 #[.pointer (some ⟨w.heap.size, 0, none⟩), .pointer (some ⟨w.heap.size + 2, 0, none⟩)] (unpR V4.heap.size (w.heap.size + 2) O V4) hcf (by
    rw [E4.out]
    refine HW.out.mono ?_
    rintro e w' ⟨E, he, h1⟩
    exact ⟨E, he, h1, by rw [s3]; exact h1.1.get HB4.out (by omega)⟩))
  rw [← e3, ← e2, ← e1] at HAT
  clear b1 b2 b3 b1' b2' b3' b4 h04 HW g1 g2 g3 g4 e1 e2 e3 e4 HO
  go_enter Tryz.func33, Tryz.ntmps33
  go_wp2_with fail
  refine HAT.out.mono ?_
  rintro e w2 ⟨E, w1, rfl, ⟨hk, hm⟩, hw2⟩
  have hsz3 : (((w.alloc (.cells #[.string (bs s)] 9)).alloc (.cells #[.int .i64 0, .slice none 0 0, .slice none 0 0] 29)).alloc (.cells #[.int .i64 0, .slice none 0 0, .slice none 0 0] 29)).heap.size = w.heap.size + 3 := by simp
  rw [hsz3] at hw2
  have hg4 := hk.get HB4.out (by omega)
  have hb2 : Grow w w2 := by
    rw [hw2]
    exact Below.setCell (grow_ki H04.out hk (by omega)) (by show w.heap.size ≤ w.heap.size + 3; omega) _
  have hr2 : w2.heap[w.heap.size + 1]? = some (.cells #[.int .i64 0, .slice none 0 0, .slice none 0 0] 29 (0, 0)) := by
    rw [hw2]
    exact (Below.heap_setCell _ _ _ _ (by show w.heap.size + 1 ≠ w.heap.size + 3; omega)).trans (hk.get HB2.out (by omega))
  have HG2 := hide hb2
  have HR2 := hide hr2
  clear HAT hsz3
  cases O with
  | none =>
    simp only at hm
    have hne : ((E : Int) != 0) = true := by simp; exact hm
    obtain ⟨cr0, cr1, cr2⟩ := three_of hr2
    have z0 : w2.frozen? ⟨w.heap.size + 1, 0, none⟩ = false := by simp only [World.frozen?, hr2]; rfl
    have z1 : w2.frozen? ⟨w.heap.size + 1, 1, none⟩ = false := by simp only [World.frozen?, hr2]; rfl
    have z2 : w2.frozen? ⟨w.heap.size + 1, 2, none⟩ = false := by simp only [World.frozen?, hr2]; rfl
    clear hw2 hk hm hg4 hb2 hr2
    go_wp2
    have hF := set3 (set3 (set3 HR2.out 0 (.int .i64 0)) 1 (.slice none 0 0)) 2 (.slice none 0 0)
    obtain ⟨f0, f1, f2⟩ := three_of hF
    refine bodyPost_ret (v := .tuple #[.agg #[.int .i64 0, .slice none 0 0, .slice none 0 0], .int .i64 1]) (by simp [results, Tryz.results33, go_sem, f0, f1, f2]) rfl ?_
    exact ⟨Below.setCell (Below.setCell (Below.setCell HG2.out (by show w.heap.size ≤ w.heap.size + 1; omega) _) (by show w.heap.size ≤ w.heap.size + 1; omega) _) (by show w.heap.size ≤ w.heap.size + 1; omega) _, rfl⟩
  | some r =>
    obtain ⟨rfl, vr, vp, hb3, ho, hp⟩ := hm
    have hr3 : w2.heap[w.heap.size + 2]? = some (.cells #[.int .i64 r.kind, vr, vp] 29 (0, 0)) := by
      rw [hw2]
      exact (Below.heap_setCell _ _ _ _ (by show w.heap.size + 2 ≠ w.heap.size + 3; omega)).trans hb3
    have ho2 : ownRefs w2 w.heap.size vr r.refs := by
      rw [hw2]
      exact ownRefs_set (ownRefs_le ho (by omega)) hg4 (by decide) (by decide) _
    have hp2 : ownPoints w2 w.heap.size vp r.points := by
      rw [hw2]
      exact ownsRow_setCell_other (a := ⟨w.heap.size + 3, 0, none⟩) (own_le hp (by omega)) (own_apart hp hg4 (by decide)) _
    have HO2 := hide ho2
    have HP2 := hide hp2
    obtain ⟨ro, rc, hvr⟩ := ownRefs_shape ho2
    obtain ⟨po, pc, hvp⟩ := own_shape hp2
    subst hvr hvp
    obtain ⟨cr0, cr1, cr2⟩ := three_of hr2
    obtain ⟨cb0, cb1, cb2⟩ := three_of hr3
    have z0 : w2.frozen? ⟨w.heap.size + 1, 0, none⟩ = false := by simp only [World.frozen?, hr2]; rfl
    have z1 : w2.frozen? ⟨w.heap.size + 1, 1, none⟩ = false := by simp only [World.frozen?, hr2]; rfl
    have z2 : w2.frozen? ⟨w.heap.size + 1, 2, none⟩ = false := by simp only [World.frozen?, hr2]; rfl
    clear hw2 hk hb3 ho hp hg4 hb2 hr2 hr3 ho2 hp2
    go_wp2
    have hF := set3 (set3 (set3 HR2.out 0 (.int .i64 r.kind)) 1 (.slice ro r.refs.length rc)) 2 (.slice po r.points.length pc)
    obtain ⟨f0, f1, f2⟩ := three_of hF
    refine bodyPost_ret (v := .tuple #[.agg #[.int .i64 r.kind, .slice ro r.refs.length rc, .slice po r.points.length pc], .int .i64 0]) (by simp [results, Tryz.results33, go_sem, f0, f1, f2]) rfl ?_
    refine ⟨Below.setCell (Below.setCell (Below.setCell HG2.out (by show w.heap.size ≤ w.heap.size + 1; omega) _) (by show w.heap.size ≤ w.heap.size + 1; omega) _) (by show w.heap.size ≤ w.heap.size + 1; omega) _, .slice ro r.refs.length rc, .slice po r.points.length pc, rfl, ?_, ?_⟩
    · exact ownRefs_set (ownRefs_set (ownRefs_set HO2.out HR2.out (by decide) (by decide) _) (set3 HR2.out 0 _) (by decide) (by decide) _) (set3 (set3 HR2.out 0 _) 1 _) (by decide) (by decide) _
    · have h0 := HP2.out
      have h1 := ownsRow_setCell_other (a := ⟨w.heap.size + 1, 0, none⟩) h0 (own_apart h0 HR2.out (by decide)) (.int .i64 r.kind)
      have h2 := ownsRow_setCell_other (a := ⟨w.heap.size + 1, 1, none⟩) h1 (own_apart h1 (set3 HR2.out 0 _) (by decide)) (.slice ro r.refs.length rc)
      exact ownsRow_setCell_other (a := ⟨w.heap.size + 1, 2, none⟩) h2 (own_apart h2 (set3 (set3 HR2.out 0 _) 1 _) (by decide)) _
theorem drewN_below (w : World) (n B : Nat) : Below B w (w.drewN n) := ⟨rfl, rfl, rfl, Nat.le_refl _, fun _ _ => rfl⟩
set_option maxRecDepth 20000 in
set_option maxHeartbeats 2000000 in
theorem sameLab_yes (w : World) (va vb : Value) (a : List Lab) (ha : readsLabels w w.heap.size va a) (hb : readsLabels w w.heap.size vb a) (hl : a.length ≤ 1000000) :
    Calls Tryz.prog 30 #[va, vb] w fun e w' => e = .returned (.bool true) ∧ ∃ n, w' = w.drewN n := by
  obtain ⟨ao, ac, rfl, acells⟩ := ha
  obtain ⟨bo, bc, rfl, bcells⟩ := hb
  go_enter Tryz.func30, Tryz.ntmps30
  go_wp2
  go_loopw [5] (fun i wr => ∃ k n : Nat, k ≤ a.length ∧ i = .int .i64 k ∧ Hid (wr = w.drewN n)) (fun i _ => a.length - (intOf i).toNat)
  case atStart => exact ⟨0, 0, by omega, rfl, hide rfl⟩
  case round =>
    obtain ⟨k, n, hk, rfl, HW⟩ := hrel
    by_cases hlt : k < a.length
    · obtain ⟨ab, aof, rfl, haB, a0, a1⟩ := acells k hlt
      obtain ⟨bb, bof, rfl, hbB, b0, b1⟩ := bcells k hlt
      have d0 : wr.cell? ⟨ab, aof + k * 2, none⟩ = some (.string (bs a[k].1)) := by rw [HW.out]; exact a0
      have d1 : wr.cell? ⟨ab, aof + k * 2 + 1, none⟩ = some (.string (bs a[k].2)) := by rw [HW.out]; exact a1
      have e0 : wr.cell? ⟨bb, bof + k * 2, none⟩ = some (.string (bs a[k].1)) := by rw [HW.out]; exact b0
      have e1 : wr.cell? ⟨bb, bof + k * 2 + 1, none⟩ = some (.string (bs a[k].2)) := by rw [HW.out]; exact b1
      clear a0 a1 b0 b1 acells bcells
      go_wp2
      go_quiet (fail)
      go_wp2
      go_roundw
      case rel => exact ⟨k + 1, _, by omega, by go_num, hide (by rw [HW.out, World.drewN_drewN])⟩
      case measure => simp [intOf]; omega
    · obtain rfl : k = a.length := by omega
      go_wp2
      go_ret
      exact ⟨rfl, n, HW.out⟩
set_option maxRecDepth 20000 in
set_option maxHeartbeats 4000000 in
theorem sameRefs_yes (w : World) (va vb : Value) (a : List RefL) (ha : readsRefs w w.heap.size va a) (hb : readsRefs w w.heap.size vb a) (hl : a.length ≤ 1000000) (hll : ∀ x ∈ a, x.2.length ≤ 1000000) :
    Calls Tryz.prog 34 #[va, vb] w fun e w' => e = .returned (.bool true) ∧ ∃ n, w' = w.drewN n := by
  have HA := hide ha
  have HB := hide hb
  have HLL := hide hll
  obtain ⟨ao, ac, rfl, _⟩ := ha
  obtain ⟨bo, bc, rfl, _⟩ := hb
  clear hll
  go_enter Tryz.func34, Tryz.ntmps34
  go_wp2
  go_loopw [5] (fun i wr => ∃ k n : Nat, k ≤ a.length ∧ i = .int .i64 k ∧ Hid (wr = w.drewN n)) (fun i _ => a.length - (intOf i).toNat)
  case atStart => exact ⟨0, 0, by omega, rfl, hide rfl⟩
  case round =>
    obtain ⟨k, n, hk, rfl, HW⟩ := hrel
    by_cases hlt : k < a.length
    · have hlti : (k : Int) < (a.length : Int) := by omega
      obtain ⟨ab, aof, va', rfl, haB, hla, a0, a1⟩ : ∃ b' o vl, ao = some ⟨b', o, none⟩ ∧ b' < w.heap.size ∧ readsLabels wr w.heap.size vl a[k].2 ∧ wr.cell? ⟨b', o + k * 2, none⟩ = some (.int .i64 a[k].1) ∧ wr.cell? ⟨b', o + k * 2 + 1, none⟩ = some vl := by
        obtain ⟨ao', cp', e, h⟩ := HA.out.keep (show Below w.heap.size w wr from HW.out ▸ drewN_below w n _)
        cases e
        exact h k hlt
      obtain ⟨bb, bof, vb', rfl, hbB, hlb, b0, b1⟩ : ∃ b' o vl, bo = some ⟨b', o, none⟩ ∧ b' < w.heap.size ∧ readsLabels wr w.heap.size vl a[k].2 ∧ wr.cell? ⟨b', o + k * 2, none⟩ = some (.int .i64 a[k].1) ∧ wr.cell? ⟨b', o + k * 2 + 1, none⟩ = some vl := by
        obtain ⟨ao', cp', e, h⟩ := HB.out.keep (show Below w.heap.size w wr from HW.out ▸ drewN_below w n _)
        cases e
        exact h k hlt
      have hl1 := HLL.out _ (List.getElem_mem hlt)
      obtain ⟨x, hx⟩ : ∃ x, a[k] = x := ⟨_, rfl⟩
      rw [hx] at a0 b0 hla hlb hl1
      have HLA := hide hla
      have HLB := hide hlb
      have hws : wr.heap.size = w.heap.size := by rw [HW.out]; rfl
      have HWS := hide hws
      obtain ⟨lao, lac, rfl⟩ := readsLabels_len hla
      obtain ⟨lbo, lbc, rfl⟩ := readsLabels_len hlb
      have HC : Hid (∀ q, Calls Tryz.prog 30 #[.slice lao x.2.length lac, .slice lbo x.2.length lbc] (wr.drewN q) fun e w' => e = .returned (.bool true) ∧ ∃ n, w' = (wr.drewN q).drewN n) := hide fun q => by
        have h1 := readsLabels_below HLA.out (drewN_below wr q _)
        have h2 := readsLabels_below HLB.out (drewN_below wr q _)
        exact (sameLab_yes (wr.drewN q) _ _ x.2 (readsLabels_mono h1 (by show _ ≤ wr.heap.size; rw [HWS.out]; exact Nat.le_refl _)) (readsLabels_mono h2 (by show _ ≤ wr.heap.size; rw [HWS.out]; exact Nat.le_refl _)) hl1)
      have hne : (x.1 != x.1) = false := by simp
      clear hla hlb hx hws
      go_wp2
      go_quiet ((go_at_call 30; exact Calls.quiet_of (HC.out _)))
      go_wp2
      go_roundw
      case rel => exact ⟨k + 1, _, by omega, by go_num, hide (by rw [HW.out, World.drewN_drewN])⟩
      case measure => simp [intOf]; omega
    · obtain rfl : k = a.length := by omega
      go_wp2
      go_ret
      exact ⟨rfl, n, HW.out⟩
/-! ### what the statements begin with -/
def begR : Rcd := ⟨2, [], [(1, -1, 0)]⟩
theorem begR_err : recErr begR = 0 := by decide
theorem begR_pack : (packB begR).length = 12 := by decide +kernel
theorem begR_unp : unpO (packB begR) = some begR := unpO_pack begR_err (by intro x hx; simp [begR] at hx; subst hx; decide)
set_option maxRecDepth 20000 in
set_option maxHeartbeats 4000000 in
theorem recordBegun_any (w : World) : Calls Tryz.prog 11 #[] w fun e w' => e = .returned (.bool true) ∧ Grow w w' := by
  obtain ⟨V1, e1, g1, b1⟩ := laid_at w #[.int .i64 1, .int .i64 (-1), .int .u64 0] 64
  have hc := three_of b1
  have hlt := lt_of_block b1
  have HP := hide (pack_any V1 (.slice none 0 0) (.slice (some ⟨w.heap.size, 0, none⟩) 1 1) begR ⟨none, 0, rfl, fun i hi => by simp [begR] at hi⟩ ⟨_, _, rfl, fun i hi => ⟨w.heap.size, 0, rfl, hlt, by
    obtain rfl : i = 0 := by simp [begR] at hi; omega
    exact ⟨hc.1, hc.2.1, hc.2.2⟩⟩⟩ ⟨⟨by decide, by decide⟩, by decide, by decide, by intro x hx; simp [begR] at hx, by intro x hx; simp [begR] at hx; subst hx; exact ⟨by decide, by decide, by decide, by decide, by decide⟩⟩)
  have hpt : packT begR = packB begR := if_pos begR_err
  rw [begR_err, hpt] at HP
  obtain ⟨P, HPP⟩ : ∃ P, Hid (packB begR = P) := ⟨_, hide rfl⟩
  have hpl : P.length = 12 := by rw [← HPP.out]; exact begR_pack
  have hpli : ((P.length : Int) == 12) = true := by simp [hpl]
  have HUN := hide (fun W => unpack_any W P (by omega))
  rw [HPP.out] at HP
  have hun : unpO P = some begR := by rw [← HPP.out]; exact begR_unp
  rw [hun] at HUN
  unfold unpackAns at HUN
  simp only at HUN
  have HG := hide g1
  rw [← e1] at HP HG
  clear e1 g1 b1 hc hlt hpt hun hpl
  go_enter Tryz.func11, Tryz.ntmps11
  go_wp2_with fail
  refine HP.out.mono ?_
  rintro e w2 ⟨rfl, hg2⟩
  have HG2 := hide (HG.out.trans hg2)
  clear hg2 HP
  go_wp2_with fail
  refine (HUN.out w2).mono ?_
  rintro e w3 ⟨hg3, vr, vp, rfl, hor, hop⟩
  have HG3 := hide (HG2.out.trans hg3)
  have HRP := hide (reads_ownPoints hop)
  obtain ⟨ro, rc, hvr⟩ := ownRefs_shape hor
  obtain ⟨po, pc, hvp⟩ := own_shape hop
  subst hvr hvp
  clear hg3 hor hop HUN
  obtain ⟨ao', cp', e, h⟩ := HRP.out
  cases e
  obtain ⟨pb, pof, hpo, hpB, p0, p1, p2⟩ := h 0 (by decide)
  subst hpo
  have e0 : begR.points[0] = (1, -1, 0) := rfl
  rw [e0] at p1
  simp only [Nat.zero_mul, Nat.add_zero] at p1
  have hk2 : begR.kind = 2 := rfl
  have hl1 : begR.points.length = 1 := rfl
  have hl0 : begR.refs.length = 0 := rfl
  clear p0 p2 h e0
  go_wp2
  go_ret
  exact ⟨rfl, HG3.out.trans ((Grow.refl _).alloc _)⟩
end Go.Proofs.YtkaeogldielkfaaGreat.Rc
