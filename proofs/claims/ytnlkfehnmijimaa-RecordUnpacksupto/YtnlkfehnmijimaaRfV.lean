/- record: the document's own reading. -/
import Derived.Laws.OwnMore
import Derived.OwnWalk
import Derived.Test.YtnlkfehnmijimaaProg
import Derived.Test.YtnlkfehnmijimaaKit
import Derived.Test.YtnlkfehnmijimaaSpec
import Derived.Test.YtnlkfehnmijimaaReg
import Derived.Test.YtnlkfehnmijimaaLRow
import Derived.Test.YtnlkfehnmijimaaRcA
import Derived.Test.YtnlkfehnmijimaaRcM
import Derived.Test.YtnlkfehnmijimaaRcN
import Derived.Test.YtnlkfehnmijimaaRcS
import Derived.Test.YtnlkfehnmijimaaRcU
import Derived.Test.YtnlkfehnmijimaaRcV
import Derived.Test.YtnlkfehnmijimaaRcY
import Derived.Test.YtnlkfehnmijimaaRcR
import Derived.Test.YtnlkfehnmijimaaRfB
import Derived.Test.YtnlkfehnmijimaaRfE
import Derived.Test.YtnlkfehnmijimaaRfH
import Derived.Test.YtnlkfehnmijimaaRfI
import Derived.Test.YtnlkfehnmijimaaRfJ
import Derived.Test.YtnlkfehnmijimaaRfK
import Derived.Test.YtnlkfehnmijimaaRfQ
import Derived.Test.YtnlkfehnmijimaaRfR
import Derived.Test.YtnlkfehnmijimaaRfS
import Derived.Test.YtnlkfehnmijimaaRfT
import Derived.Test.YtnlkfehnmijimaaRfU
import Derived.BigQuiet
set_option linter.unusedVariables false
set_option linter.unusedSimpArgs false
namespace Go.Proofs.Ytnlkfehnmijimaa.Rc
open Go.RowKit Lb
attribute [local go_sem] bs_size bs_toList bs_append bs_get bs_extract
set_option maxRecDepth 20000 in
set_option maxHeartbeats 16000000 in
theorem unpRec3_any (w : World) (k : UInt8) (s : List UInt8) (hk1 : k.toNat ≠ 1) (hk2 : k.toNat ≠ 2) (hs : s.length + 1 ≤ 1048576) :
    Calls Try.prog 13 #[.string (bs (k :: s))] w (unpackAns w.heap.size (unpT (k :: s)) w) := by
  obtain ⟨UO, HUO⟩ : ∃ UO, Hid (unpT (k :: s) = UO) := ⟨_, hide rfl⟩
  rw [HUO.out]
  obtain ⟨V1, e1, g1, b1⟩ := laid_at w #[.int .i64 0, .slice none 0 0, .slice none 0 0] 25
  obtain ⟨V2, e2, g2, b2⟩ := laid_at V1 #[.string (bs (k :: s)), .bool false] 65
  have s1 : V1.heap.size = w.heap.size + 1 := by rw [← e1]; simp
  have s2 : V2.heap.size = w.heap.size + 2 := by rw [← e2]; simp [s1]
  rw [s1] at b2
  have h02 : Grow w V2 := g1.trans g2
  have hB : bytT 1 (k :: s, false) = ([k], (s, false)) := by unfold bytT; rw [if_neg (by simp)]; rfl
  have HBY := hide (curBytes_any V2 (w.heap.size + 1) 1 (k :: s, false) b2 (by show (k :: s).length ≤ _; rw [List.length_cons]; omega) (by omega))
  rw [hB] at HBY
  have H02 := hide h02
  have HZ2 := hide (g2.get b1)
  have hcw : IntKind.i64.wrap ((k.toNat : Nat) : Int) = (k.toNat : Int) := by have := k.toNat_lt; rw [IntKind.wrap_i64]; omega
  rw [← e2, ← e1] at HBY H02 HZ2
  clear b1 b2 g1 g2 h02 hB e1 e2
  obtain ⟨cn, HCN⟩ : ∃ cn, Hid (numT (s, false) = cn) := ⟨_, hide rfl⟩
  have HNC : Hid (∀ W, CurAt W (w.heap.size + 1) (s, false) → Calls Try.prog 29 #[.pointer (some ⟨w.heap.size + 1, 0, none⟩)] W fun e w' => e = .returned (.int .i64 (cn.1 : Nat)) ∧ KI (w.heap.size + 1) W w' ∧ CurAt w' (w.heap.size + 1) cn.2) := hide fun W h => by
    have := curNumber_any W (w.heap.size + 1) (s, false) h (by show s.length ≤ _; omega)
    rwa [HCN.out] at this
  have hcnl : cn.2.1.length ≤ 1048576 := by
    have := (numT_less (s, false)).1
    rw [HCN.out] at this
    have h2 : (s, false).1.length = s.length := rfl
    omega
  have hcn1 : cn.1 ≤ 4611686018427387904 := by have := numT_le (s, false); rwa [HCN.out] at this
  obtain ⟨n, c0⟩ := cn
  simp only at HNC hcnl hcn1
  go_enter Try.func13, Try.ntmps13
  go_wp2_with fail
  refine HBY.out.mono ?_
  rintro e w2 ⟨rfl, hk2, hc2⟩
  have hsw : w.heap.size + 2 ≤ w2.heap.size := by have := hk2.size; simp at this; omega
  have hz2 := hk2.get HZ2.out (by omega)
  have hg2 : Grow w w2 := grow_ki H02.out hk2 (by omega)
  obtain ⟨w3, e3, g3, b3⟩ := laid_at w2 #[.int .i64 (k.toNat : Int), .slice none 0 0, .slice none 0 0] 25
  have HB3 := hide b3
  have HN := hide (HNC.out w3 (hc2.get g3))
  have HZ3 := hide (g3.get hz2)
  have HG3 := hide (hg2.trans g3)
  have hs3 : w2.heap.size + 1 ≤ w3.heap.size := by rw [← e3]; simp
  obtain ⟨cb0, cb1⟩ := two_of (show w2.heap[w.heap.size + 1]? = some (.cells #[.string (bs s), .bool false] 65 (0, 0)) from hc2)
  rw [← e3] at HN
  have E3 := hide e3
  clear e3
  clear hk2 hz2 hg2 g3 b3 hc2 HBY HZ2 H02 HNC
  go_wp2_with fail
  refine HN.out.mono ?_
  rintro e w4 ⟨rfl, hk4, hc4⟩
  rw [E3.out] at hk4
  have hcr : w.heap.size + 1 < w2.heap.size := by omega
  have HB4 := hide (hk4.get HB3.out (by omega))
  have HC4 := hide hc4
  have HG4 : Hid (Grow w w4) := hide (grow_ki (x := w.heap.size + 1) HG3.out hk4 (by omega))
  have HZ4 := hide (hk4.get HZ3.out (by omega))
  have ht1 : ((k.toNat : Int) == 1) = false := by rw [beq_eq_false_iff_ne]; omega
  have ht2 : ((k.toNat : Int) == 2) = false := by rw [beq_eq_false_iff_ne]; omega
  obtain ⟨r0, hr0⟩ : ∃ r0 : Rcd, r0 = ⟨(k.toNat : Int), [], []⟩ := ⟨_, rfl⟩
  have HBT0 : Hid (bodyT k (s, false) = (r0, c0)) := hide (by
    unfold bodyT
    rw [if_neg hk1, if_neg hk2, HCN.out, hr0])
  have HR0 : Hid (r0 = ⟨(k.toNat : Int), [], []⟩) := hide hr0
  have HRK : Hid (r0.kind = (k.toNat : Int)) := hide (by rw [hr0])
  clear hk4 hc4 HN hcnl cb0 cb1 hr0 hk1 hk2
  go_wp2
  go_loopw [8, 9, 10, 11, 12, 13, 14, 15, 16, 17] (fun iv _ _ _ _ _ _ _ _ _ wr => iv = .int .i64 0 ∧ Hid (wr.heap[w2.heap.size]? = some (.cells #[.int .i64 (k.toNat : Int), .slice none 0 0, .slice none 0 0] 25 (0, 0))) ∧ Hid (CurAt wr (w.heap.size + 1) c0) ∧ Hid (Grow w wr) ∧ Hid (wr.heap[w.heap.size]? = some (.cells #[.int .i64 0, .slice none 0 0, .slice none 0 0] 25 (0, 0)))) (fun iv _ _ _ _ _ _ _ _ _ _ => 0)
  case atStart => exact ⟨rfl, HB4, HC4, HG4, HZ4⟩
  case round =>
    obtain ⟨rfl, HBR, HCU, HG, HZ0⟩ := hrel
    have HWR : Hid (ownRefs wr w.heap.size (.slice none 0 0) r0.refs) := hide (by rw [HR0.out]; exact ownRefs_nil _ _)
    have HWP : Hid (ownPoints wr w.heap.size (.slice none 0 0) r0.points) := hide (by rw [HR0.out]; exact World.ownsRow_nil _ _ _ _)
    obtain ⟨cx0, cx1, cx2⟩ := three_of HBR.out
    have HBT := HBT0
    obtain ⟨c, hc⟩ : ∃ c, c0 = c := ⟨_, rfl⟩
    rw [hc] at HBT HCU
    clear hc
    by_cases h0n : 0 < n
    · have h0i : (0 : Int) < (n : Int) := by omega
      as_aux_lemma =>
        obtain ⟨q, bad⟩ := c
        obtain ⟨cu0, cu1⟩ := two_of (show wr.heap[w.heap.size + 1]? = some (.cells #[.string (bs q), .bool bad] 65 (0, 0)) from HCU.out)
        cases bad with
        | true =>
          have HU : Hid (unpT (k :: s) = none) := hide (by simp only [unpT]; rw [HBT.out, if_neg (fun h => by cases h.1)])
          obtain ⟨cr0, cr1, cr2⟩ := three_of HZ0.out
          have z0 : wr.frozen? ⟨w.heap.size, 0, none⟩ = false := by simp only [World.frozen?, HZ0.out]; rfl
          have z1 : wr.frozen? ⟨w.heap.size, 1, none⟩ = false := by simp only [World.frozen?, HZ0.out]; rfl
          have z2 : wr.frozen? ⟨w.heap.size, 2, none⟩ = false := by simp only [World.frozen?, HZ0.out]; rfl
          go_wp2
          have hF := set3 (set3 (set3 HZ0.out 0 (.int .i64 0)) 1 (.slice none 0 0)) 2 (.slice none 0 0)
          obtain ⟨f0, f1, f2⟩ := three_of hF
          refine bodyPost_ret (v := .tuple #[.agg #[.int .i64 0, .slice none 0 0, .slice none 0 0], .int .i64 1]) (by simp [results, Try.results13, go_sem, f0, f1, f2]) rfl ?_
          unfold unpackAns
          rw [← HUO.out, HU.out]
          exact ⟨Below.setCell (Below.setCell (Below.setCell HG.out (Nat.le_refl _) _) (Nat.le_refl _) _) (Nat.le_refl _) _, rfl⟩
        | false =>
          by_cases hq : q = []
          · subst hq
            have hqe : (@List.isEmpty UInt8 []) = true := rfl
            have HCR := hide (rCheckRecord_any wr (.slice none 0 0) (.slice none 0 0) r0 (reads_ownRefs HWR.out) (reads_ownPoints HWP.out) (by have := bodyT_ok k (s, false); rw [HBT.out] at this; exact this))
            rw [HRK.out] at HCR
            obtain ⟨cx0, cx1, cx2⟩ := three_of HBR.out
            go_wp2_with fail
            refine HCR.out.mono ?_
            rintro e w8 ⟨rfl, hg8⟩
            have HG8 := hide hg8
            have hb0 := hg8.get HZ0.out
            have HB0 := hide hb0
            obtain ⟨cr0, cr1, cr2⟩ := three_of hb0
            have z0 : w8.frozen? ⟨w.heap.size, 0, none⟩ = false := by simp only [World.frozen?, hb0]; rfl
            have z1 : w8.frozen? ⟨w.heap.size, 1, none⟩ = false := by simp only [World.frozen?, hb0]; rfl
            have z2 : w8.frozen? ⟨w.heap.size, 2, none⟩ = false := by simp only [World.frozen?, hb0]; rfl
            clear cx0 cx1 cx2 HCR cu0 cu1
            by_cases hr : recErr r0 = 0
            · have HU : Hid (unpT (k :: s) = some r0) := hide (by simp only [unpT]; rw [HBT.out, if_pos ⟨rfl, hr⟩])
              have hz : (((recErr r0 : Nat) : Int) != 0) = false := by simp [hr]
              obtain ⟨cx0, cx1, cx2⟩ := three_of (hg8.get HBR.out)
              clear hr hg8 hb0
              go_wp2
              have hF := set3 (set3 (set3 HB0.out 0 (.int .i64 (k.toNat : Int))) 1 (.slice none 0 0)) 2 (.slice none 0 0)
              obtain ⟨f0, f1, f2⟩ := three_of hF
              refine bodyPost_ret (v := .tuple #[.agg #[.int .i64 (k.toNat : Int), (.slice none 0 0), (.slice none 0 0)], .int .i64 0]) (by simp [results, Try.results13, go_sem, f0, f1, f2]) rfl ?_
              unfold unpackAns
              rw [← HUO.out, HU.out]
              refine ⟨Below.setCell (Below.setCell (Below.setCell (HG.out.trans HG8.out) (Nat.le_refl _) _) (Nat.le_refl _) _) (Nat.le_refl _) _, (.slice none 0 0), (.slice none 0 0), by rw [HRK.out], ?_, ?_⟩
              · have h0 := ownRefs_stay HWR.out (fun g _ hg => HG8.out.block g hg)
                exact ownRefs_set (ownRefs_set (ownRefs_set h0 HB0.out (by decide) (by decide) _) (set3 HB0.out 0 _) (by decide) (by decide) _) (set3 (set3 HB0.out 0 _) 1 _) (by decide) (by decide) _
              · have h0 := own_stay HWP.out (fun g _ hg => HG8.out.block g hg)
                have h1 := ownsRow_setCell_other (a := ⟨w.heap.size, 0, none⟩) h0 (own_apart h0 HB0.out (by decide)) (.int .i64 (k.toNat : Int))
                have h2 := ownsRow_setCell_other (a := ⟨w.heap.size, 1, none⟩) h1 (own_apart h1 (set3 HB0.out 0 _) (by decide)) (.slice none 0 0)
                exact ownsRow_setCell_other (a := ⟨w.heap.size, 2, none⟩) h2 (own_apart h2 (set3 (set3 HB0.out 0 _) 1 _) (by decide)) _
            · have HU : Hid (unpT (k :: s) = none) := hide (by simp only [unpT]; rw [HBT.out, if_neg (fun h => hr h.2)])
              have hz : (((recErr r0 : Nat) : Int) != 0) = true := by simp; exact hr
              clear hr hg8 hb0
              go_wp2
              have hF := set3 (set3 (set3 HB0.out 0 (.int .i64 0)) 1 (.slice none 0 0)) 2 (.slice none 0 0)
              obtain ⟨f0, f1, f2⟩ := three_of hF
              refine bodyPost_ret (v := .tuple #[.agg #[.int .i64 0, .slice none 0 0, .slice none 0 0], .int .i64 1]) (by simp [results, Try.results13, go_sem, f0, f1, f2]) rfl ?_
              unfold unpackAns
              rw [← HUO.out, HU.out]
              exact ⟨Below.setCell (Below.setCell (Below.setCell (HG.out.trans HG8.out) (Nat.le_refl _) _) (Nat.le_refl _) _) (Nat.le_refl _) _, rfl⟩
          · have HU : Hid (unpT (k :: s) = none) := hide (by simp only [unpT]; rw [HBT.out, if_neg (fun h => hq (by have := h.1; simp only [Prod.mk.injEq, and_true] at this; exact this))])
            have hqe : q.isEmpty = false := by cases q with | nil => exact absurd rfl hq | cons => rfl
            obtain ⟨cr0, cr1, cr2⟩ := three_of HZ0.out
            have z0 : wr.frozen? ⟨w.heap.size, 0, none⟩ = false := by simp only [World.frozen?, HZ0.out]; rfl
            have z1 : wr.frozen? ⟨w.heap.size, 1, none⟩ = false := by simp only [World.frozen?, HZ0.out]; rfl
            have z2 : wr.frozen? ⟨w.heap.size, 2, none⟩ = false := by simp only [World.frozen?, HZ0.out]; rfl
            clear hq
            go_wp2
            have hF := set3 (set3 (set3 HZ0.out 0 (.int .i64 0)) 1 (.slice none 0 0)) 2 (.slice none 0 0)
            obtain ⟨f0, f1, f2⟩ := three_of hF
            refine bodyPost_ret (v := .tuple #[.agg #[.int .i64 0, .slice none 0 0, .slice none 0 0], .int .i64 1]) (by simp [results, Try.results13, go_sem, f0, f1, f2]) rfl ?_
            unfold unpackAns
            rw [← HUO.out, HU.out]
            exact ⟨Below.setCell (Below.setCell (Below.setCell HG.out (Nat.le_refl _) _) (Nat.le_refl _) _) (Nat.le_refl _) _, rfl⟩
    · have h0i : ¬ (0 : Int) < (n : Int) := by omega
      as_aux_lemma =>
        obtain ⟨q, bad⟩ := c
        obtain ⟨cu0, cu1⟩ := two_of (show wr.heap[w.heap.size + 1]? = some (.cells #[.string (bs q), .bool bad] 65 (0, 0)) from HCU.out)
        cases bad with
        | true =>
          have HU : Hid (unpT (k :: s) = none) := hide (by simp only [unpT]; rw [HBT.out, if_neg (fun h => by cases h.1)])
          obtain ⟨cr0, cr1, cr2⟩ := three_of HZ0.out
          have z0 : wr.frozen? ⟨w.heap.size, 0, none⟩ = false := by simp only [World.frozen?, HZ0.out]; rfl
          have z1 : wr.frozen? ⟨w.heap.size, 1, none⟩ = false := by simp only [World.frozen?, HZ0.out]; rfl
          have z2 : wr.frozen? ⟨w.heap.size, 2, none⟩ = false := by simp only [World.frozen?, HZ0.out]; rfl
          go_wp2
          have hF := set3 (set3 (set3 HZ0.out 0 (.int .i64 0)) 1 (.slice none 0 0)) 2 (.slice none 0 0)
          obtain ⟨f0, f1, f2⟩ := three_of hF
          refine bodyPost_ret (v := .tuple #[.agg #[.int .i64 0, .slice none 0 0, .slice none 0 0], .int .i64 1]) (by simp [results, Try.results13, go_sem, f0, f1, f2]) rfl ?_
          unfold unpackAns
          rw [← HUO.out, HU.out]
          exact ⟨Below.setCell (Below.setCell (Below.setCell HG.out (Nat.le_refl _) _) (Nat.le_refl _) _) (Nat.le_refl _) _, rfl⟩
        | false =>
          by_cases hq : q = []
          · subst hq
            have hqe : (@List.isEmpty UInt8 []) = true := rfl
            have HCR := hide (rCheckRecord_any wr (.slice none 0 0) (.slice none 0 0) r0 (reads_ownRefs HWR.out) (reads_ownPoints HWP.out) (by have := bodyT_ok k (s, false); rw [HBT.out] at this; exact this))
            rw [HRK.out] at HCR
            obtain ⟨cx0, cx1, cx2⟩ := three_of HBR.out
            go_wp2_with fail
            refine HCR.out.mono ?_
            rintro e w8 ⟨rfl, hg8⟩
            have HG8 := hide hg8
            have hb0 := hg8.get HZ0.out
            have HB0 := hide hb0
            obtain ⟨cr0, cr1, cr2⟩ := three_of hb0
            have z0 : w8.frozen? ⟨w.heap.size, 0, none⟩ = false := by simp only [World.frozen?, hb0]; rfl
            have z1 : w8.frozen? ⟨w.heap.size, 1, none⟩ = false := by simp only [World.frozen?, hb0]; rfl
            have z2 : w8.frozen? ⟨w.heap.size, 2, none⟩ = false := by simp only [World.frozen?, hb0]; rfl
            clear cx0 cx1 cx2 HCR cu0 cu1
            by_cases hr : recErr r0 = 0
            · have HU : Hid (unpT (k :: s) = some r0) := hide (by simp only [unpT]; rw [HBT.out, if_pos ⟨rfl, hr⟩])
              have hz : (((recErr r0 : Nat) : Int) != 0) = false := by simp [hr]
              obtain ⟨cx0, cx1, cx2⟩ := three_of (hg8.get HBR.out)
              clear hr hg8 hb0
              go_wp2
              have hF := set3 (set3 (set3 HB0.out 0 (.int .i64 (k.toNat : Int))) 1 (.slice none 0 0)) 2 (.slice none 0 0)
              obtain ⟨f0, f1, f2⟩ := three_of hF
              refine bodyPost_ret (v := .tuple #[.agg #[.int .i64 (k.toNat : Int), (.slice none 0 0), (.slice none 0 0)], .int .i64 0]) (by simp [results, Try.results13, go_sem, f0, f1, f2]) rfl ?_
              unfold unpackAns
              rw [← HUO.out, HU.out]
              refine ⟨Below.setCell (Below.setCell (Below.setCell (HG.out.trans HG8.out) (Nat.le_refl _) _) (Nat.le_refl _) _) (Nat.le_refl _) _, (.slice none 0 0), (.slice none 0 0), by rw [HRK.out], ?_, ?_⟩
              · have h0 := ownRefs_stay HWR.out (fun g _ hg => HG8.out.block g hg)
                exact ownRefs_set (ownRefs_set (ownRefs_set h0 HB0.out (by decide) (by decide) _) (set3 HB0.out 0 _) (by decide) (by decide) _) (set3 (set3 HB0.out 0 _) 1 _) (by decide) (by decide) _
              · have h0 := own_stay HWP.out (fun g _ hg => HG8.out.block g hg)
                have h1 := ownsRow_setCell_other (a := ⟨w.heap.size, 0, none⟩) h0 (own_apart h0 HB0.out (by decide)) (.int .i64 (k.toNat : Int))
                have h2 := ownsRow_setCell_other (a := ⟨w.heap.size, 1, none⟩) h1 (own_apart h1 (set3 HB0.out 0 _) (by decide)) (.slice none 0 0)
                exact ownsRow_setCell_other (a := ⟨w.heap.size, 2, none⟩) h2 (own_apart h2 (set3 (set3 HB0.out 0 _) 1 _) (by decide)) _
            · have HU : Hid (unpT (k :: s) = none) := hide (by simp only [unpT]; rw [HBT.out, if_neg (fun h => hr h.2)])
              have hz : (((recErr r0 : Nat) : Int) != 0) = true := by simp; exact hr
              clear hr hg8 hb0
              go_wp2
              have hF := set3 (set3 (set3 HB0.out 0 (.int .i64 0)) 1 (.slice none 0 0)) 2 (.slice none 0 0)
              obtain ⟨f0, f1, f2⟩ := three_of hF
              refine bodyPost_ret (v := .tuple #[.agg #[.int .i64 0, .slice none 0 0, .slice none 0 0], .int .i64 1]) (by simp [results, Try.results13, go_sem, f0, f1, f2]) rfl ?_
              unfold unpackAns
              rw [← HUO.out, HU.out]
              exact ⟨Below.setCell (Below.setCell (Below.setCell (HG.out.trans HG8.out) (Nat.le_refl _) _) (Nat.le_refl _) _) (Nat.le_refl _) _, rfl⟩
          · have HU : Hid (unpT (k :: s) = none) := hide (by simp only [unpT]; rw [HBT.out, if_neg (fun h => hq (by have := h.1; simp only [Prod.mk.injEq, and_true] at this; exact this))])
            have hqe : q.isEmpty = false := by cases q with | nil => exact absurd rfl hq | cons => rfl
            obtain ⟨cr0, cr1, cr2⟩ := three_of HZ0.out
            have z0 : wr.frozen? ⟨w.heap.size, 0, none⟩ = false := by simp only [World.frozen?, HZ0.out]; rfl
            have z1 : wr.frozen? ⟨w.heap.size, 1, none⟩ = false := by simp only [World.frozen?, HZ0.out]; rfl
            have z2 : wr.frozen? ⟨w.heap.size, 2, none⟩ = false := by simp only [World.frozen?, HZ0.out]; rfl
            clear hq
            go_wp2
            have hF := set3 (set3 (set3 HZ0.out 0 (.int .i64 0)) 1 (.slice none 0 0)) 2 (.slice none 0 0)
            obtain ⟨f0, f1, f2⟩ := three_of hF
            refine bodyPost_ret (v := .tuple #[.agg #[.int .i64 0, .slice none 0 0, .slice none 0 0], .int .i64 1]) (by simp [results, Try.results13, go_sem, f0, f1, f2]) rfl ?_
            unfold unpackAns
            rw [← HUO.out, HU.out]
            exact ⟨Below.setCell (Below.setCell (Below.setCell HG.out (Nat.le_refl _) _) (Nat.le_refl _) _) (Nat.le_refl _) _, rfl⟩

set_option maxRecDepth 20000 in
set_option maxHeartbeats 4000000 in
theorem unpRec0_any (w : World) :
    Calls Try.prog 13 #[.string (bs [])] w (unpackAns w.heap.size (unpT []) w) := by
  obtain ⟨V1, e1, g1, b1⟩ := laid_at w #[.int .i64 0, .slice none 0 0, .slice none 0 0] 25
  obtain ⟨V2, e2, g2, b2⟩ := laid_at V1 #[.string (bs []), .bool false] 65
  have s1 : V1.heap.size = w.heap.size + 1 := by rw [← e1]; simp
  rw [s1] at b2
  have h02 : Grow w V2 := g1.trans g2
  have hB : bytT 1 ([], false) = ([], ([], true)) := rfl
  have HBY := hide (curBytes_any V2 (w.heap.size + 1) 1 ([], false) b2 (by simp) (by omega))
  rw [hB] at HBY
  have H02 := hide h02
  have HZ2 := hide (g2.get b1)
  rw [← e2, ← e1] at HBY H02 HZ2
  clear b1 b2 g1 g2 h02 hB e1 e2
  go_enter Try.func13, Try.ntmps13
  go_wp2_with fail
  refine HBY.out.mono ?_
  rintro e w2 ⟨rfl, hk2, hc2⟩
  have hz2 := hk2.get HZ2.out (by omega)
  have HG := hide (grow_ki H02.out hk2 (by omega))
  have HZ0 := hide hz2
  obtain ⟨cb0, cb1⟩ := two_of (show w2.heap[w.heap.size + 1]? = some (.cells #[.string (bs []), .bool true] 65 (0, 0)) from hc2)
  obtain ⟨cr0, cr1, cr2⟩ := three_of HZ0.out
  have z0 : w2.frozen? ⟨w.heap.size, 0, none⟩ = false := by simp only [World.frozen?, HZ0.out]; rfl
  have z1 : w2.frozen? ⟨w.heap.size, 1, none⟩ = false := by simp only [World.frozen?, HZ0.out]; rfl
  have z2 : w2.frozen? ⟨w.heap.size, 2, none⟩ = false := by simp only [World.frozen?, HZ0.out]; rfl
  clear hk2 hc2 hz2 HBY H02 HZ2
  go_wp2
  have hF := set3 (set3 (set3 HZ0.out 0 (.int .i64 0)) 1 (.slice none 0 0)) 2 (.slice none 0 0)
  obtain ⟨f0, f1, f2⟩ := three_of hF
  refine bodyPost_ret (v := .tuple #[.agg #[.int .i64 0, .slice none 0 0, .slice none 0 0], .int .i64 1]) (by simp [results, Try.results13, go_sem, f0, f1, f2]) rfl ?_
  unfold unpackAns unpT
  exact ⟨Below.setCell (Below.setCell (Below.setCell HG.out (Nat.le_refl _) _) (Nat.le_refl _) _) (Nat.le_refl _) _, rfl⟩
/-- The document's own reading answers what the program's does. -/
theorem unpackRecord_any (w : World) (s : List UInt8) (hs : s.length ≤ 1048576) :
    Calls Try.prog 13 #[.string (bs s)] w (unpackAns w.heap.size (unpO s) w) := by
  rw [← unpT_eq (by omega)]
  cases s with
  | nil => exact unpRec0_any w
  | cons k s =>
    simp only [List.length_cons] at hs
    by_cases h1 : k.toNat = 1
    · exact unpRec1_any w k s h1 hs
    · by_cases h2 : k.toNat = 2
      · exact unpRec2_any w k s h2 hs
      · exact unpRec3_any w k s h1 h2 hs
end Go.Proofs.Ytnlkfehnmijimaa.Rc
