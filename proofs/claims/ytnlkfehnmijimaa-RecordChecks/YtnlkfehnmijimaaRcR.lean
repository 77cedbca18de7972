/- record: Pack. -/
import Derived.Laws.OwnMore
import Derived.Test.YtnlkfehnmijimaaProg
import Derived.Test.YtnlkfehnmijimaaKit
import Derived.Test.YtnlkfehnmijimaaSpec
import Derived.Test.YtnlkfehnmijimaaReg
import Derived.Test.YtnlkfehnmijimaaLRow
import Derived.Test.YtnlkfehnmijimaaRcA
import Derived.Test.YtnlkfehnmijimaaRcM
import Derived.Test.YtnlkfehnmijimaaRcN
import Derived.Test.YtnlkfehnmijimaaRcO
import Derived.Test.YtnlkfehnmijimaaRcQ
import Derived.BigQuiet
set_option linter.unusedVariables false
set_option linter.unusedSimpArgs false
namespace Go.Proofs.Ytnlkfehnmijimaa.Rc
open Go.RowKit Lb
attribute [local go_sem] bs_size bs_toList bs_append bs_get bs_extract

/-- Records that a machine has. -/
def okRec (r : Rcd) : Prop := (-9223372036854775808 ≤ r.kind ∧ r.kind ≤ 9223372036854775807) ∧ r.refs.length ≤ 9223372036854775807 ∧ r.points.length ≤ 9223372036854775807 ∧ (∀ x ∈ r.refs, okRef x) ∧ ∀ x ∈ r.points, okPnt x
/-- A record's parts can be read. -/
def readsRec (w : World) (A : Nat) (v : Value) (r : Rcd) : Prop := ∃ vr vp, v = .agg #[.int .i64 r.kind, vr, vp] ∧ readsRefs w A vr r.refs ∧ readsPoints w A vp r.points

set_option maxRecDepth 20000 in
set_option maxHeartbeats 4000000 in
theorem pack1_any (w : World) (A rb wb : Nat) (vr vp : Value) (r : Rcd) (hrb : w.heap[rb]? = some (.cells #[.int .i64 r.kind, vr, vp] 25 (0, 0))) (hne : rb ≠ wb) (hAw : A ≤ wb) (hA : A ≤ w.heap.size) (hh : holdsW w w.heap.size wb []) (hr : readsRefs w A vr r.refs) (hp : readsPoints w A vp r.points) (hok : okRec r) :
    Calls Try.prog 18 #[.pointer (some ⟨rb, 0, none⟩), .pointer (some ⟨wb, 0, none⟩)] w (worked fun E w' => E = recErr r ∧ KeptX w.heap.size wb w w' ∧ (E = 0 → holdsW w' w.heap.size wb (packB r))) := by
  obtain ⟨h1, h2, h3, h4, h5⟩ := hok
  have HCR := hide (checkRecord_any w vr vp r (hr.more hA) (hp.more hA) h1 h2 h3 h4 h5)
  have HB5 : Hid (∀ x ∈ r.points, x.2.2 < 18446744073709551616) := hide fun x hx => (h5 x hx).2.2.2.2
  have HRB := hide hrb
  have HH := hide hh
  have HR := hide hr
  have HP := hide hp
  obtain ⟨ro, rc, rfl, _⟩ := hr
  obtain ⟨po, pc, rfl, _⟩ := hp
  obtain ⟨c0, c1, c2⟩ := three_of hrb
  have hrlt := lt_of_block hrb
  clear hrb hh h1 h2 h3 h4 h5
  go_enter Try.func18, Try.ntmps18
  go_wp2_with fail
  refine HCR.out.mono ?_
  rintro e w1 ⟨rfl, hg1⟩
  have HG1 := hide hg1
  have HRB1 := hide (hg1.get HRB.out)
  clear hg1 HCR c0 c1 c2
  by_cases h0 : recErr r = 0
  · rw [h0, outc_ok]
    obtain ⟨c0, c1, c2⟩ := three_of HRB1.out
    have HW := hide (record_w w1 A w.heap.size wb _ _ r hA hAw (by
      have h := holdsW_below HH.out HG1.out (Nat.le_refl _)
      exact h) (HR.out.keep (Below.mono HG1.out hA)) (HP.out.keep (Below.mono HG1.out hA)) h0 HB5.out)
    have H0 := hide h0
    clear h0
    go_wp2_with fail
    refine HW.out.mono ?_
    rintro e w2 ⟨hk2, rfl, hh2⟩
    go_wp2
    go_end0
    refine ⟨0, rfl, H0.out.symm, (keptX_grow HG1.out (Nat.le_refl _)).trans hk2, fun _ => ?_⟩
    simpa using hh2
  · rw [outc_no h0]
    refine ⟨rfl, recErr r, (outc_no h0).symm, rfl, keptX_grow HG1.out (Nat.le_refl _), fun h => absurd h h0⟩
theorem holdsW_setCell {w : World} {B b c : Nat} {l : List UInt8} (h : holdsW w B b l) (hne : c ≠ b) {x : Value} {t : TypeId} (hc : w.heap[c]? = some (.cells #[x] t (0, 0))) (ht : 5 ≠ t) (u : Value) : holdsW (w.setCell ⟨c, 0, none⟩ u) B b l := by
  obtain ⟨h0, v, h1, h2⟩ := h
  exact ⟨by simpa [World.setCell] using h0, v, (Below.heap_setCell _ _ _ _ (Ne.symm hne)).trans h1, ownsRow_setCell_other h2 (own_apart h2 hc ht) _⟩

def packT (r : Rcd) : List UInt8 := if recErr r = 0 then packB r else []
set_option maxRecDepth 20000 in
set_option maxHeartbeats 4000000 in
theorem pack_any (w : World) (vr vp : Value) (r : Rcd) (hr : readsRefs w w.heap.size vr r.refs) (hp : readsPoints w w.heap.size vp r.points) (hok : okRec r) :
    Calls Try.prog 7 #[.agg #[.int .i64 r.kind, vr, vp]] w fun e w' => e = .returned (.tuple #[.string (bs (packT r)), .int .i64 (recErr r)]) ∧ Grow w w' := by
  have hcf : ∀ (args : Array Value) (w : World), (callFunc 18 args).run Try.prog w = .ok (.enter 18 args) w := fun args w => by simp [go_sem]
  obtain ⟨V1, e1, g1, b1⟩ := laid_at w #[.int .i64 r.kind, vr, vp] 25
  obtain ⟨V2, e2, g2, b2⟩ := laid_at V1 #[.slice none 0 0] 47
  obtain ⟨V3, e3, g3, b3⟩ := laid_at V2 #[.int .i64 0] 26
  have s1 : V1.heap.size = w.heap.size + 1 := by rw [← e1]; simp
  have s2 : V2.heap.size = w.heap.size + 2 := by rw [← e2]; simp [s1]
  have s3 : V3.heap.size = w.heap.size + 3 := by rw [← e3]; simp [s2]
  have b1' := (g2.trans g3).get b1
  have b2' := g3.get b2
  rw [s1] at b2'
  rw [s2] at b3
  have h03 : Grow w V3 := g1.trans (g2.trans g3)
  have HW := hide (pack1_any V3 w.heap.size w.heap.size (w.heap.size + 1) vr vp r b1' (by omega) (by omega) (by omega) ⟨Nat.le_refl _, _, b2', World.ownsRow_nil _ _ _ _⟩ (hr.keep h03) (hp.keep h03) hok)
  have HB3 := hide b3
  have H03 := hide h03
  have E1 := hide e1
  have E2 := hide e2
  have E3 := hide e3
  obtain ⟨ro, rc, hvr, _⟩ := hr
  obtain ⟨po, pc, hvp, _⟩ := hp
  have HAT := hide (attempt_any V2 18 #[.pointer (some ⟨w.heap.size, 0, none⟩), .pointer (some ⟨w.heap.size + 1, 0, none⟩)] (fun E w' => E = recErr r ∧ KeptX V3.heap.size (w.heap.size + 1) V3 w' ∧ (E = 0 → holdsW w' V3.heap.size (w.heap.size + 1) (packB r))) hcf (by
    rw [E3.out]
    refine HW.out.mono ?_
    rintro e w' ⟨E, he, h1, h2, h3⟩
    exact ⟨E, he, ⟨h1, h2, h3⟩, by rw [s2]; exact h2.get HB3.out (by omega) (by omega)⟩))
  clear b1 b2 b1' b2' b3 h03 HW g1 g2 g3 e1 e2 e3 hok
  subst hvr hvp
  have e1 := E1.out
  have e2 := E2.out
  go_enter Try.func7, Try.ntmps7
  go_wp2_with fail
  refine HAT.out.mono ?_
  rintro e w2 ⟨E, w1, rfl, ⟨rfl, hk, hh⟩, hw2⟩
  have hb2 : Grow w w2 := by
    rw [hw2, s2]
    exact Below.setCell (Below.trans H03.out (hk.below (by omega) (by omega))) (by show w.heap.size ≤ w.heap.size + 2; omega) _
  have HG2 := hide hb2
  have hg := hk.get HB3.out (by omega) (by omega)
  by_cases h : recErr r = 0
  · have hW2 : holdsW w2 V3.heap.size (w.heap.size + 1) (packB r) := by
      rw [hw2, s2]
      exact holdsW_setCell (hh h) (c := w.heap.size + 2) (by omega) hg (by decide) _
    have HT : Hid (packT r = packB r) := hide (by unfold packT; rw [if_pos h])
    have H0 := hide h
    rw [h]
    obtain ⟨_, v, hv, hown⟩ := hW2
    have hcell := cell_of_one hv
    have hcv := run_bytesStr (P := Try.prog) Try.underlying45 Try.underlying5 Try.underlying9 hown
    obtain ⟨ao, cp, rfl⟩ := own_shape hown
    clear hw2 h hh hg hk hb2 HAT
    go_wp2
    go_ret2
    exact ⟨by rw [HT.out, H0.out]; rfl, HG2.out⟩
  · have hne : ((recErr r : Nat) : Int) ≠ 0 := by omega
    have hnb : (((recErr r : Nat) : Int) != 0) = true := by simp; exact h
    have HT : Hid (packT r = []) := hide (by unfold packT; rw [if_neg h])
    clear hw2 h hh hg hk hb2 HAT hne
    go_wp2
    go_ret2
    exact ⟨by rw [HT.out]; rfl, HG2.out⟩
end Go.Proofs.Ytnlkfehnmijimaa.Rc
