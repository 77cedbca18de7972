/- record: the reader: unpacked. -/
import Derived.Laws.OwnMore
import Derived.Test.YtnlkfehnmijimaaProg
import Derived.Test.YtnlkfehnmijimaaKit
import Derived.Test.YtnlkfehnmijimaaSpec
import Derived.Test.YtnlkfehnmijimaaReg
import Derived.Test.YtnlkfehnmijimaaReg2
import Derived.Test.YtnlkfehnmijimaaLRow
import Derived.Test.YtnlkfehnmijimaaRcA
import Derived.Test.YtnlkfehnmijimaaRcM
import Derived.Test.YtnlkfehnmijimaaRcN
import Derived.Test.YtnlkfehnmijimaaRcS
import Derived.Test.YtnlkfehnmijimaaRcT
import Derived.Test.YtnlkfehnmijimaaRcU
import Derived.Test.YtnlkfehnmijimaaRcV
import Derived.Test.YtnlkfehnmijimaaRcW
import Derived.Test.YtnlkfehnmijimaaRcY
import Derived.Test.YtnlkfehnmijimaaRfA
import Derived.Test.YtnlkfehnmijimaaRfB
import Derived.Test.YtnlkfehnmijimaaRfD
import Derived.Test.YtnlkfehnmijimaaRfE
import Derived.Test.YtnlkfehnmijimaaRfF
import Derived.Test.YtnlkfehnmijimaaRfG
import Derived.Test.YtnlkfehnmijimaaRfH
import Derived.Test.YtnlkfehnmijimaaRfI
import Derived.Test.YtnlkfehnmijimaaRcP
import Derived.Test.YtnlkfehnmijimaaRcQ
import Derived.BigQuiet
set_option linter.unusedVariables false
set_option linter.unusedSimpArgs false
namespace Go.Proofs.Ytnlkfehnmijimaa.Rc
open Go.RowKit Lb
attribute [local go_sem] bs_size bs_toList bs_append bs_get bs_extract


theorem KI.grow_other {b : Nat} {w w' : World} (h : KI b w w') {a : World} (g : Grow a w) (hb : a.heap.size ≤ b) : Grow a w' := grow_ki g h hb
/-- What 'Unpack' leaves in its variable. -/
def unpR (Z rb : Nat) (o : Option Rcd) (w : World) (E : Nat) (w' : World) : Prop :=
  KI rb w w' ∧ match o with
    | some r => E = 0 ∧ ∃ vr vp, w'.heap[rb]? = some (.cells #[.int .i64 r.kind, vr, vp] 25 (0, 0)) ∧ ownRefs w' Z vr r.refs ∧ ownPoints w' Z vp r.points
    | none => E ≠ 0
set_option maxRecDepth 20000 in
set_option maxHeartbeats 4000000 in
theorem unpack1_any (w : World) (sb rb : Nat) (s : List UInt8) (hs : s.length ≤ 140737488355328) (hsb : w.heap[sb]? = some (.cells #[.string (bs s)] 9 (0, 0))) (hrb : w.heap[rb]? = some (.cells #[.int .i64 0, .slice none 0 0, .slice none 0 0] 25 (0, 0))) :
    Calls Try.prog 26 #[.pointer (some ⟨sb, 0, none⟩), .pointer (some ⟨rb, 0, none⟩)] w (worked (unpR w.heap.size rb (unpO s) w)) := by
  obtain ⟨O, HO⟩ : ∃ O, Hid (unpO s = O) := ⟨_, hide rfl⟩
  have HU := hide (unpacked_any w s hs)
  rw [HO.out] at HU ⊢
  have HRB := hide hrb
  have hlt := lt_of_block hrb
  have c0 := cell_of_one hsb
  unfold unpAns at HU
  clear hrb hsb HO
  cases O with
  | none =>
    simp only at HU
    go_enter Try.func26, Try.ntmps26
    go_wp2_with fail
    refine HU.out.mono ?_
    rintro e w1 ⟨hg, E, hE, rfl⟩
    refine ⟨rfl, E, (outc_no hE).symm, KI.grow hg, hE⟩
  | some r =>
    simp only at HU
    go_enter Try.func26, Try.ntmps26
    go_wp2_with fail
    refine HU.out.mono ?_
    rintro e w1 ⟨hg, vr, vp, rfl, hr, hp⟩
    have hb1 := hg.get HRB.out
    have HB1 := hide hb1
    have HG := hide hg
    have HR := hide hr
    have HP := hide hp
    obtain ⟨ro, rc, hvr⟩ := ownRefs_shape hr
    obtain ⟨po, pc, hvp⟩ := own_shape hp
    subst hvr hvp
    obtain ⟨cr0, cr1, cr2⟩ := three_of hb1
    have z0 : w1.frozen? ⟨rb, 0, none⟩ = false := by simp only [World.frozen?, hb1]; rfl
    have z1 : w1.frozen? ⟨rb, 1, none⟩ = false := by simp only [World.frozen?, hb1]; rfl
    have z2 : w1.frozen? ⟨rb, 2, none⟩ = false := by simp only [World.frozen?, hb1]; rfl
    clear hg hr hp hb1 HU
    go_wp2
    go_end0
    refine ⟨0, rfl, (((KI.grow HG.out).trans (KI.set rb _ 0 _)).trans (KI.set rb _ 1 _)).trans (KI.set rb _ 2 _), rfl, .slice ro r.refs.length rc, .slice po r.points.length pc, ?_, ?_, ?_⟩
    · exact set3 (set3 (set3 HB1.out 0 (.int .i64 r.kind)) 1 (.slice ro r.refs.length rc)) 2 (.slice po r.points.length pc)
    · exact ownRefs_set (ownRefs_set (ownRefs_set HR.out HB1.out (by decide) (by decide) _) (set3 HB1.out 0 _) (by decide) (by decide) _) (set3 (set3 HB1.out 0 _) 1 _) (by decide) (by decide) _
    · have h0 := HP.out
      have h1 := ownsRow_setCell_other (a := ⟨rb, 0, none⟩) h0 (own_apart h0 HB1.out (by decide)) (.int .i64 r.kind)
      have h2 := ownsRow_setCell_other (a := ⟨rb, 1, none⟩) h1 (own_apart h1 (set3 HB1.out 0 _) (by decide)) (.slice ro r.refs.length rc)
      exact ownsRow_setCell_other (a := ⟨rb, 2, none⟩) h2 (own_apart h2 (set3 (set3 HB1.out 0 _) 1 _) (by decide)) _
/-- What 'Unpack' answers. -/
def unpackAns (Z : Nat) (o : Option Rcd) (w : World) (e : Ending) (w' : World) : Prop :=
  Grow w w' ∧ match o with
    | some r => ∃ vr vp, e = .returned (.tuple #[.agg #[.int .i64 r.kind, vr, vp], .int .i64 0]) ∧ ownRefs w' Z vr r.refs ∧ ownPoints w' Z vp r.points
    | none => e = .returned (.tuple #[.agg #[.int .i64 0, .slice none 0 0, .slice none 0 0], .int .i64 1])
set_option maxRecDepth 20000 in
set_option maxHeartbeats 4000000 in
theorem unpack_any (w : World) (s : List UInt8) (hs : s.length ≤ 140737488355328) :
    Calls Try.prog 12 #[.string (bs s)] w (unpackAns w.heap.size (unpO s) w) := by
  have hcf : ∀ (args : Array Value) (w : World), (callFunc 26 args).run Try.prog w = .ok (.enter 26 args) w := fun args w => by simp [go_sem]
  obtain ⟨O, HO⟩ : ∃ O, Hid (unpO s = O) := ⟨_, hide rfl⟩
  rw [HO.out]
  obtain ⟨V1, e1, g1, b1⟩ := laid_at w #[.string (bs s)] 9
  obtain ⟨V2, e2, g2, b2⟩ := laid_at V1 #[.int .i64 0, .slice none 0 0, .slice none 0 0] 25
  obtain ⟨V3, e3, g3, b3⟩ := laid_at V2 #[.int .i64 0, .slice none 0 0, .slice none 0 0] 25
  obtain ⟨V4, e4, g4, b4⟩ := laid_at V3 #[.int .i64 0] 26
  have s1 : V1.heap.size = w.heap.size + 1 := by rw [← e1]; simp
  have s2 : V2.heap.size = w.heap.size + 2 := by rw [← e2]; simp [s1]
  have s3 : V3.heap.size = w.heap.size + 3 := by rw [← e3]; simp [s2]
  have s4 : V4.heap.size = w.heap.size + 4 := by rw [← e4]; simp [s3]
  have b1' := (g2.trans (g3.trans g4)).get b1
  have b2' := (g3.trans g4).get b2
  have b3' := g4.get b3
  rw [s1] at b2'
  rw [s2] at b3'
  rw [s3] at b4
  have h04 : Grow w V4 := g1.trans (g2.trans (g3.trans g4))
  have HW := hide (unpack1_any V4 w.heap.size (w.heap.size + 2) s hs b1' b3')
  rw [HO.out] at HW
  have HB2 := hide b2'
  have HB3 := hide b3'
  have HB4 := hide b4
  have H04 := hide h04
  have E4 := hide e4
  have HAT := hide (attempt_any V3 26 #[.pointer (some ⟨w.heap.size, 0, none⟩), .pointer (some ⟨w.heap.size + 2, 0, none⟩)] (unpR V4.heap.size (w.heap.size + 2) O V4) hcf (by
    rw [E4.out]
    refine HW.out.mono ?_
    rintro e w' ⟨E, he, h1⟩
    exact ⟨E, he, h1, by rw [s3]; exact h1.1.get HB4.out (by omega)⟩))
  rw [← e3, ← e2, ← e1] at HAT
  clear b1 b2 b3 b1' b2' b3' b4 h04 HW g1 g2 g3 g4 e1 e2 e3 e4 HO
  go_enter Try.func12, Try.ntmps12
  go_wp2_with fail
  refine HAT.out.mono ?_
  rintro e w2 ⟨E, w1, rfl, ⟨hk, hm⟩, hw2⟩
  have hsz3 : (((w.alloc (.cells #[.string (bs s)] 9)).alloc (.cells #[.int .i64 0, .slice none 0 0, .slice none 0 0] 25)).alloc (.cells #[.int .i64 0, .slice none 0 0, .slice none 0 0] 25)).heap.size = w.heap.size + 3 := by simp
  rw [hsz3] at hw2
  have hg4 := hk.get HB4.out (by omega)
  have hb2 : Grow w w2 := by
    rw [hw2]
    exact Below.setCell (grow_ki H04.out hk (by omega)) (by show w.heap.size ≤ w.heap.size + 3; omega) _
  have hr2 : w2.heap[w.heap.size + 1]? = some (.cells #[.int .i64 0, .slice none 0 0, .slice none 0 0] 25 (0, 0)) := by
    rw [hw2]
    exact (Below.heap_setCell _ _ _ _ (by show w.heap.size + 1 ≠ w.heap.size + 3; omega)).trans (hk.get HB2.out (by omega))
  have HG2 := hide hb2
  have HR2 := hide hr2
  clear HAT hsz3
  cases O with
  | none =>
    simp only at hm
    have hne : ((E : Int) != 0) = true := by simp; exact hm
    obtain ⟨cr0, cr1, cr2⟩ := three_of hr2
    have z0 : w2.frozen? ⟨w.heap.size + 1, 0, none⟩ = false := by simp only [World.frozen?, hr2]; rfl
    have z1 : w2.frozen? ⟨w.heap.size + 1, 1, none⟩ = false := by simp only [World.frozen?, hr2]; rfl
    have z2 : w2.frozen? ⟨w.heap.size + 1, 2, none⟩ = false := by simp only [World.frozen?, hr2]; rfl
    clear hw2 hk hm hg4 hb2 hr2
    go_wp2
    have hF := set3 (set3 (set3 HR2.out 0 (.int .i64 0)) 1 (.slice none 0 0)) 2 (.slice none 0 0)
    obtain ⟨f0, f1, f2⟩ := three_of hF
    refine bodyPost_ret (v := .tuple #[.agg #[.int .i64 0, .slice none 0 0, .slice none 0 0], .int .i64 1]) (by simp [results, Try.results12, go_sem, f0, f1, f2]) rfl ?_
    exact ⟨Below.setCell (Below.setCell (Below.setCell HG2.out (by show w.heap.size ≤ w.heap.size + 1; omega) _) (by show w.heap.size ≤ w.heap.size + 1; omega) _) (by show w.heap.size ≤ w.heap.size + 1; omega) _, rfl⟩
  | some r =>
    obtain ⟨rfl, vr, vp, hb3, ho, hp⟩ := hm
    have hr3 : w2.heap[w.heap.size + 2]? = some (.cells #[.int .i64 r.kind, vr, vp] 25 (0, 0)) := by
      rw [hw2]
      exact (Below.heap_setCell _ _ _ _ (by show w.heap.size + 2 ≠ w.heap.size + 3; omega)).trans hb3
    have ho2 : ownRefs w2 w.heap.size vr r.refs := by
      rw [hw2]
      exact ownRefs_set (ownRefs_le ho (by omega)) hg4 (by decide) (by decide) _
    have hp2 : ownPoints w2 w.heap.size vp r.points := by
      rw [hw2]
      exact ownsRow_setCell_other (a := ⟨w.heap.size + 3, 0, none⟩) (own_le hp (by omega)) (own_apart hp hg4 (by decide)) _
    have HO2 := hide ho2
    have HP2 := hide hp2
    obtain ⟨ro, rc, hvr⟩ := ownRefs_shape ho2
    obtain ⟨po, pc, hvp⟩ := own_shape hp2
    subst hvr hvp
    obtain ⟨cr0, cr1, cr2⟩ := three_of hr2
    obtain ⟨cb0, cb1, cb2⟩ := three_of hr3
    have z0 : w2.frozen? ⟨w.heap.size + 1, 0, none⟩ = false := by simp only [World.frozen?, hr2]; rfl
    have z1 : w2.frozen? ⟨w.heap.size + 1, 1, none⟩ = false := by simp only [World.frozen?, hr2]; rfl
    have z2 : w2.frozen? ⟨w.heap.size + 1, 2, none⟩ = false := by simp only [World.frozen?, hr2]; rfl
    clear hw2 hk hb3 ho hp hg4 hb2 hr2 hr3 ho2 hp2
    go_wp2
    have hF := set3 (set3 (set3 HR2.out 0 (.int .i64 r.kind)) 1 (.slice ro r.refs.length rc)) 2 (.slice po r.points.length pc)
    obtain ⟨f0, f1, f2⟩ := three_of hF
    refine bodyPost_ret (v := .tuple #[.agg #[.int .i64 r.kind, .slice ro r.refs.length rc, .slice po r.points.length pc], .int .i64 0]) (by simp [results, Try.results12, go_sem, f0, f1, f2]) rfl ?_
    refine ⟨Below.setCell (Below.setCell (Below.setCell HG2.out (by show w.heap.size ≤ w.heap.size + 1; omega) _) (by show w.heap.size ≤ w.heap.size + 1; omega) _) (by show w.heap.size ≤ w.heap.size + 1; omega) _, .slice ro r.refs.length rc, .slice po r.points.length pc, rfl, ?_, ?_⟩
    · exact ownRefs_set (ownRefs_set (ownRefs_set HO2.out HR2.out (by decide) (by decide) _) (set3 HR2.out 0 _) (by decide) (by decide) _) (set3 (set3 HR2.out 0 _) 1 _) (by decide) (by decide) _
    · have h0 := HP2.out
      have h1 := ownsRow_setCell_other (a := ⟨w.heap.size + 1, 0, none⟩) h0 (own_apart h0 HR2.out (by decide)) (.int .i64 r.kind)
      have h2 := ownsRow_setCell_other (a := ⟨w.heap.size + 1, 1, none⟩) h1 (own_apart h1 (set3 HR2.out 0 _) (by decide)) (.slice ro r.refs.length rc)
      exact ownsRow_setCell_other (a := ⟨w.heap.size + 1, 2, none⟩) h2 (own_apart h2 (set3 (set3 HR2.out 0 _) 1 _) (by decide)) _
end Go.Proofs.Ytnlkfehnmijimaa.Rc
