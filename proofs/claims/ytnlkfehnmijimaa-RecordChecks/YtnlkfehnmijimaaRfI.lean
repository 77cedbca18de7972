/- record: the reader: unpacked. -/
import Derived.Laws.OwnMore
import Derived.Test.YtnlkfehnmijimaaProg
import Derived.Test.YtnlkfehnmijimaaKit
import Derived.Test.YtnlkfehnmijimaaSpec
import Derived.Test.YtnlkfehnmijimaaReg
import Derived.Test.YtnlkfehnmijimaaReg2
import Derived.Test.YtnlkfehnmijimaaLRow
import Derived.Test.YtnlkfehnmijimaaRcA
import Derived.Test.YtnlkfehnmijimaaRcM
import Derived.Test.YtnlkfehnmijimaaRcN
import Derived.Test.YtnlkfehnmijimaaRcS
import Derived.Test.YtnlkfehnmijimaaRcT
import Derived.Test.YtnlkfehnmijimaaRcU
import Derived.Test.YtnlkfehnmijimaaRcV
import Derived.Test.YtnlkfehnmijimaaRcW
import Derived.Test.YtnlkfehnmijimaaRcY
import Derived.Test.YtnlkfehnmijimaaRfA
import Derived.Test.YtnlkfehnmijimaaRfB
import Derived.Test.YtnlkfehnmijimaaRfD
import Derived.Test.YtnlkfehnmijimaaRfE
import Derived.Test.YtnlkfehnmijimaaRfF
import Derived.Test.YtnlkfehnmijimaaRfG
import Derived.Test.YtnlkfehnmijimaaRfH
import Derived.Test.YtnlkfehnmijimaaRcP
import Derived.Test.YtnlkfehnmijimaaRcQ
import Derived.BigQuiet
set_option linter.unusedVariables false
set_option linter.unusedSimpArgs false
namespace Go.Proofs.Ytnlkfehnmijimaa.Rc
open Go.RowKit Lb
attribute [local go_sem] bs_size bs_toList bs_append bs_get bs_extract


theorem grow_ki {a b c : World} {x : Nat} (h : Grow a b) (k : KI x b c) (hx : a.heap.size ≤ x) : Grow a c :=
  ⟨k.os.trans h.os, k.tape.trans h.tape, k.output.trans h.output, Nat.le_trans h.size k.size, fun i hi => (k.block i (Nat.lt_of_lt_of_le hi h.size) (by omega)).trans (h.block i hi)⟩
theorem grow_kz {a b c : World} {Z x : Nat} (h : Grow a b) (k : KZ Z x b c) (hZ : a.heap.size ≤ Z) (hx : a.heap.size ≤ x) : Grow a c :=
  ⟨k.1.trans h.os, k.2.1.trans h.tape, k.2.2.1.trans h.output, Nat.le_trans h.size k.2.2.2.1, fun i hi => (k.2.2.2.2 i (by omega) (by omega)).trans (h.block i hi)⟩
set_option maxRecDepth 20000 in
set_option maxHeartbeats 8000000 in
theorem unpacked_any (w : World) (s0 : List UInt8) (hs : s0.length ≤ 140737488355328) :
    Calls Try.prog 27 #[.string (bs s0)] w (unpAns w.heap.size (unpO s0) w) := by
  have hcf1 : ∀ (args : Array Value) (w : World), (callFunc 45 args).run Try.prog w = .ok (.enter 45 args) w := fun args w => by simp [go_sem]
  have hcf2 : ∀ (args : Array Value) (w : World), (callFunc 47 args).run Try.prog w = .ok (.enter 47 args) w := fun args w => by simp [go_sem]
  obtain ⟨UO, HUO⟩ : ∃ UO, Hid (unpO s0 = UO) := ⟨_, hide rfl⟩
  rw [HUO.out]
  obtain ⟨V1, e1, g1, b1⟩ := laid_at w #[.int .i64 0, .slice none 0 0, .slice none 0 0] 25
  obtain ⟨V2, e2, g2, b2⟩ := laid_at V1 #[.string (bs s0)] 79
  have s1 : V1.heap.size = w.heap.size + 1 := by rw [← e1]; simp
  have s2 : V2.heap.size = w.heap.size + 2 := by rw [← e2]; simp [s1]
  rw [s1] at b2
  have h02 : Grow w V2 := g1.trans g2
  have HTK := hide (take_any V2 (w.heap.size + 1) 1 s0 b2 hs (by omega))
  have H02 := hide h02
  have HZ2 := hide (g2.get b1)
  rw [← e2, ← e1] at HTK H02 HZ2
  unfold readAs at HTK
  clear b1 b2 g1 g2 h02
  cases s0 with
  | nil =>
    rw [if_neg (by simp)] at HTK
    simp only at HTK
    have HU : Hid (none = UO) := hide HUO.out
    clear e1 e2
    go_enter Try.func27, Try.ntmps27
    go_wp2_with fail
    refine HTK.out.mono ?_
    rintro e w1 ⟨hk, E, hE, rfl⟩
    refine ⟨rfl, ?_⟩
    unfold unpAns
    rw [← HU.out]
    exact ⟨grow_ki H02.out hk (by omega), E, hE, rfl⟩
  | cons c s =>
    rw [if_pos (by simp)] at HTK
    simp only at HTK
    simp only [List.length_cons] at hs
    have htk : (c :: s).take 1 = [c] := rfl
    have hdr : (c :: s).drop 1 = s := rfl
    rw [htk, hdr] at HTK
    have hcl := c.toNat_lt
    have hcw : IntKind.i64.wrap ((c.toNat : Nat) : Int) = (c.toNat : Int) := by rw [IntKind.wrap_i64]; omega
    clear e1 e2 htk hdr s1 s2
    by_cases h1 : c.toNat = 1
    · rw [h1] at hcw
      as_aux_lemma =>
        go_enter Try.func27, Try.ntmps27
        go_wp2_with fail
        refine HTK.out.mono ?_
        rintro e w2 ⟨hk2, rfl, hi2⟩
        have hsw : w.heap.size + 2 ≤ w2.heap.size := by have := hk2.size; simp at this; omega
        have hz2 := hk2.get HZ2.out (by omega)
        have hg2 : Grow w w2 := grow_ki H02.out hk2 (by omega)
        obtain ⟨w3, e3, g3, b3⟩ := laid_at w2 #[.int .i64 1, .slice none 0 0, .slice none 0 0] 25
        have HB3 := hide b3
        have HI3 := hide (hi2.grow g3)
        have HZ3 := hide (g3.get hz2)
        have HG3 := hide (hg2.trans g3)
        have hs3 : w2.heap.size + 1 ≤ w3.heap.size := by rw [← e3]; simp
        clear hk2 hz2 hg2 g3 b3 hi2 HTK HZ2 H02
        have hb2 := HB3.out
        have HE := hide (each_any w3 (w.heap.size + 1) 200 45 #[.pointer (some ⟨w2.heap.size, 0, none⟩), .pointer (some ⟨w.heap.size + 1, 0, none⟩)] (fun st => st.2) (fun st r => (st.1, r)) (fun k st w' => KZ w2.heap.size (w.heap.size + 1) w3 w' ∧ inRec w2.heap.size (w.heap.size + 1) w2.heap.size 1 k st w') (fun w' => KZ w2.heap.size (w.heap.size + 1) w3 w') stepR ([], s) hcf1 (by omega) HI3.out (by show s.length ≤ _; omega) (fun q w' hk hq hql => by
            have hql' : q.length ≤ s.length := hql
            exact ⟨hk.kz (by omega), by have := hk.size; omega, by show q.length ≤ _; omega, Nat.zero_le _, hq, .slice none 0 0, hk.get hb2 (by omega), ownRefs_nil _ _⟩) (fun w' hk => hk.kz (by omega)) (fun k st w' h => h.1) (fun k st W' hk200 hI => by
            refine (unp1_any W' w2.heap.size (w.heap.size + 1) w2.heap.size 1 k st hk200 (by omega) (Nat.le_refl _) hI.2).mono fun e w' ht => ?_
            unfold turned at ht ⊢
            cases hst : stepR st with
            | none => rw [hst] at ht; exact ⟨ht.1, hI.1.trans ht.2⟩
            | some st' => rw [hst] at ht; exact ⟨ht.1, hI.1.trans ht.2.1, ht.2.2⟩))
        rw [← e3] at HE HG3 HZ3
        obtain ⟨EO, HEO⟩ : ∃ EO, Hid (eachO stepR 200 (fun st => st.2) (fun st r => (st.1, r)) ([], s) = EO) := ⟨_, hide rfl⟩
        rw [HEO.out] at HE
        unfold turned at HE
        rw [← e3] at hb2
        obtain ⟨cb0, cb1, cb2⟩ := three_of hb2
        clear hb2 hcf1 hcf2 e3
        cases EO with
        | none =>
          simp only at HE
          go_wp2_with fail
          refine HE.out.mono ?_
          rintro e w5 ⟨⟨E, hE, rfl⟩, hk5⟩
          refine ⟨rfl, ?_⟩
          unfold unpAns
          rw [← HUO.out, unpO_none (by unfold bodyO; rw [if_pos h1]; rw [HEO.out]; rfl)]
          exact ⟨grow_kz (Z := w2.heap.size) (x := w.heap.size + 1) HG3.out hk5 (by omega) (by omega), E, hE, rfl⟩
        | some x =>
          obtain ⟨l, q⟩ := x
          simp only at HE
          go_wp2_with fail
          refine HE.out.mono ?_
          rintro e w5 ⟨rfl, k5, hk55, hk5, hZ5, hq5, hl5, hi5, v5, hx5, ho5⟩
          simp only at hi5 ho5
          have hg5 : Grow w w5 := grow_kz (Z := w2.heap.size) (x := w.heap.size + 1) HG3.out hk5 (by omega) (by omega)
          have hz5 := (hk5.2.2.2.2 w.heap.size (by omega) (by omega)).trans HZ3.out
          obtain ⟨r0, hr0⟩ : ∃ r0 : Rcd, r0 = ⟨1, l, []⟩ := ⟨_, rfl⟩
          have hbo : bodyO c s = some (r0, q) := by unfold bodyO; rw [if_pos h1]; rw [HEO.out, hr0]; rfl
          have HOK := hide (bodyO_ok (by omega) hbo)
          have HBO := hide hbo
          have HG := hide hg5
          have HZ0 := hide hz5
          have HBR := hide hx5
          have HIQ := hide hi5
          have HWR : Hid (ownRefs w5 w.heap.size v5 r0.refs) := hide (by rw [hr0]; exact ownRefs_le ho5 (by omega))
          have HWP : Hid (ownPoints w5 w.heap.size (.slice none 0 0) r0.points) := hide (by rw [hr0]; exact World.ownsRow_nil _ _ _ _)
          have HRK : Hid (r0.kind = 1) := hide (by rw [hr0])
          obtain ⟨ao, cp, hv5⟩ := ownRefs_shape ho5
          subst hv5
          clear hk5 hZ5 hq5 hl5 hi5 hx5 ho5 hg5 hz5 hbo hr0 HE cb0 cb1 cb2 HEO
          by_cases hq : q = []
          · subst hq
            have hqe : (@List.isEmpty UInt8 []) = true := rfl
            have HCR := hide (checkRecord_any w5 (.slice ao l.length cp) (.slice none 0 0) r0 (reads_ownRefs HWR.out) (reads_ownPoints HWP.out) HOK.out.1 (by have := HOK.out.2.1; omega) (by have := HOK.out.2.2.1; omega) HOK.out.2.2.2.1 HOK.out.2.2.2.2)
            rw [HRK.out] at HCR
            have hi0 := cell_of_one (show w5.heap[w.heap.size + 1]? = some (.cells #[.string (bs [])] 79 (0, 0)) from HIQ.out)
            obtain ⟨cx0, cx1, cx2⟩ := three_of HBR.out
            go_wp2_with fail
            refine (refuse_any false 1 w5 (by decide)).mono ?_
            rintro e w7 ⟨rfl, hw7⟩
            subst hw7
            rw [if_neg (by simp), outc_ok]
            go_wp2_with fail
            refine HCR.out.mono ?_
            rintro e w8 ⟨rfl, hg8⟩
            have HG8 := hide hg8
            clear hg8 cx0 cx1 cx2 hi0 HCR
            by_cases hr : recErr r0 = 0
            · have HU := hide (unpO_ok HBO.out hr)
              rw [hr, outc_ok]
              have hbr := HG8.out.get HBR.out
              have hb0 := HG8.out.get HZ0.out
              have HB0 := hide hb0
              have HBR8 := hide hbr
              obtain ⟨cx0, cx1, cx2⟩ := three_of hbr
              obtain ⟨cr0, cr1, cr2⟩ := three_of hb0
              have z0 : w8.frozen? ⟨w.heap.size, 0, none⟩ = false := by simp only [World.frozen?, hb0]; rfl
              have z1 : w8.frozen? ⟨w.heap.size, 1, none⟩ = false := by simp only [World.frozen?, hb0]; rfl
              have z2 : w8.frozen? ⟨w.heap.size, 2, none⟩ = false := by simp only [World.frozen?, hb0]; rfl
              clear hr hbr hb0
              go_wp2
              have HF := set3 (set3 (set3 HB0.out 0 (.int .i64 1)) 1 (.slice ao l.length cp)) 2 (.slice none 0 0)
              refine bodyPost_ret (v := .agg #[.int .i64 1, (.slice ao l.length cp), (.slice none 0 0)]) (results_cell_row (p := 2) (ty := 25) rfl _ _ w.heap.size _ _ _ _ rfl HF Try.underlying25 rfl infoRec) rfl ?_
              unfold unpAns
              rw [← HUO.out, HU.out]
              have s8 : w.heap.size ≤ w8.heap.size := by have := (HG.out.trans HG8.out).size; omega
              refine ⟨Below.setCell (Below.setCell (Below.setCell (HG.out.trans HG8.out) (by show w.heap.size ≤ w.heap.size; omega) _) (by show w.heap.size ≤ w.heap.size; omega) _) (by show w.heap.size ≤ w.heap.size; omega) _, (.slice ao l.length cp), (.slice none 0 0), by rw [HRK.out], ?_, ?_⟩
              · have h0 := ownRefs_stay HWR.out (fun g _ hg => HG8.out.block g hg)
                exact ownRefs_set (ownRefs_set (ownRefs_set h0 HB0.out (by decide) (by decide) _) (set3 HB0.out 0 _) (by decide) (by decide) _) (set3 (set3 HB0.out 0 _) 1 _) (by decide) (by decide) _
              · have h0 := own_stay HWP.out (fun g _ hg => HG8.out.block g hg)
                have h1 := ownsRow_setCell_other (a := ⟨w.heap.size, 0, none⟩) h0 (own_apart h0 HB0.out (by decide)) (.int .i64 1)
                have h2 := ownsRow_setCell_other (a := ⟨w.heap.size, 1, none⟩) h1 (own_apart h1 (set3 HB0.out 0 _) (by decide)) (.slice ao l.length cp)
                exact ownsRow_setCell_other (a := ⟨w.heap.size, 2, none⟩) h2 (own_apart h2 (set3 (set3 HB0.out 0 _) 1 _) (by decide)) _
            · have HU := hide (unpO_wrong HBO.out hr)
              rw [outc_no hr]
              refine ⟨rfl, ?_⟩
              unfold unpAns
              rw [← HUO.out, HU.out]
              exact ⟨HG.out.trans HG8.out, recErr r0, hr, rfl⟩
          · have HU := hide (unpO_left HBO.out hq)
            have hqe : q.isEmpty = false := by cases q with | nil => exact absurd rfl hq | cons => rfl
            have hi0 := cell_of_one (show w5.heap[w.heap.size + 1]? = some (.cells #[.string (bs q)] 79 (0, 0)) from HIQ.out)
            clear hq
            go_wp2_with fail
            refine (refuse_any true 1 w5 (by decide)).mono ?_
            rintro e w7 ⟨rfl, hw7⟩
            subst hw7
            rw [if_pos rfl, outc_no (by decide)]
            refine ⟨rfl, ?_⟩
            unfold unpAns
            rw [← HUO.out, HU.out]
            exact ⟨HG.out, 1, by decide, rfl⟩
    · by_cases h2 : c.toNat = 2
      · rw [h2] at hcw
        as_aux_lemma =>
          go_enter Try.func27, Try.ntmps27
          go_wp2_with fail
          refine HTK.out.mono ?_
          rintro e w2 ⟨hk2, rfl, hi2⟩
          have hsw : w.heap.size + 2 ≤ w2.heap.size := by have := hk2.size; simp at this; omega
          have hz2 := hk2.get HZ2.out (by omega)
          have hg2 : Grow w w2 := grow_ki H02.out hk2 (by omega)
          obtain ⟨w3, e3, g3, b3⟩ := laid_at w2 #[.int .i64 2, .slice none 0 0, .slice none 0 0] 25
          have HB3 := hide b3
          have HI3 := hide (hi2.grow g3)
          have HZ3 := hide (g3.get hz2)
          have HG3 := hide (hg2.trans g3)
          have hs3 : w2.heap.size + 1 ≤ w3.heap.size := by rw [← e3]; simp
          clear hk2 hz2 hg2 g3 b3 hi2 HTK HZ2 H02
          have hb2 := HB3.out
          have HE := hide (each_any w3 (w.heap.size + 1) 200 47 #[.pointer (some ⟨w2.heap.size, 0, none⟩), .pointer (some ⟨w.heap.size + 1, 0, none⟩)] (fun st => st.2) (fun st r => (st.1, r)) (fun k st w' => KZ w2.heap.size (w.heap.size + 1) w3 w' ∧ inRecP w2.heap.size (w.heap.size + 1) w2.heap.size 2 k st w') (fun w' => KZ w2.heap.size (w.heap.size + 1) w3 w') stepP ([], s) hcf2 (by omega) HI3.out (by show s.length ≤ _; omega) (fun q w' hk hq hql => by
              have hql' : q.length ≤ s.length := hql
              exact ⟨hk.kz (by omega), by have := hk.size; omega, by show q.length ≤ _; omega, Nat.zero_le _, hq, .slice none 0 0, hk.get hb2 (by omega), World.ownsRow_nil _ _ _ _⟩) (fun w' hk => hk.kz (by omega)) (fun k st w' h => h.1) (fun k st W' hk200 hI => by
              refine (unp2_any W' w2.heap.size (w.heap.size + 1) w2.heap.size 2 k st hk200 (by omega) (Nat.le_refl _) hI.2).mono fun e w' ht => ?_
              unfold turned at ht ⊢
              cases hst : stepP st with
              | none => rw [hst] at ht; exact ⟨ht.1, hI.1.trans ht.2⟩
              | some st' => rw [hst] at ht; exact ⟨ht.1, hI.1.trans ht.2.1, ht.2.2⟩))
          rw [← e3] at HE HG3 HZ3
          obtain ⟨EO, HEO⟩ : ∃ EO, Hid (eachO stepP 200 (fun st => st.2) (fun st r => (st.1, r)) ([], s) = EO) := ⟨_, hide rfl⟩
          rw [HEO.out] at HE
          unfold turned at HE
          rw [← e3] at hb2
          obtain ⟨cb0, cb1, cb2⟩ := three_of hb2
          clear hb2 hcf1 hcf2 e3
          cases EO with
          | none =>
            simp only at HE
            go_wp2_with fail
            refine HE.out.mono ?_
            rintro e w5 ⟨⟨E, hE, rfl⟩, hk5⟩
            refine ⟨rfl, ?_⟩
            unfold unpAns
            rw [← HUO.out, unpO_none (by unfold bodyO; rw [if_neg h1, if_pos h2]; rw [HEO.out]; rfl)]
            exact ⟨grow_kz (Z := w2.heap.size) (x := w.heap.size + 1) HG3.out hk5 (by omega) (by omega), E, hE, rfl⟩
          | some x =>
            obtain ⟨l, q⟩ := x
            simp only at HE
            go_wp2_with fail
            refine HE.out.mono ?_
            rintro e w5 ⟨rfl, k5, hk55, hk5, hZ5, hq5, hl5, hi5, v5, hx5, ho5⟩
            simp only at hi5 ho5
            have hg5 : Grow w w5 := grow_kz (Z := w2.heap.size) (x := w.heap.size + 1) HG3.out hk5 (by omega) (by omega)
            have hz5 := (hk5.2.2.2.2 w.heap.size (by omega) (by omega)).trans HZ3.out
            obtain ⟨r0, hr0⟩ : ∃ r0 : Rcd, r0 = ⟨2, [], l⟩ := ⟨_, rfl⟩
            have hbo : bodyO c s = some (r0, q) := by unfold bodyO; rw [if_neg h1, if_pos h2]; rw [HEO.out, hr0]; rfl
            have HOK := hide (bodyO_ok (by omega) hbo)
            have HBO := hide hbo
            have HG := hide hg5
            have HZ0 := hide hz5
            have HBR := hide hx5
            have HIQ := hide hi5
            have HWR : Hid (ownRefs w5 w.heap.size (.slice none 0 0) r0.refs) := hide (by rw [hr0]; exact ownRefs_nil _ _)
            have HWP : Hid (ownPoints w5 w.heap.size v5 r0.points) := hide (by rw [hr0]; exact own_le ho5 (by omega))
            have HRK : Hid (r0.kind = 2) := hide (by rw [hr0])
            obtain ⟨ao, cp, hv5⟩ := own_shape ho5
            subst hv5
            clear hk5 hZ5 hq5 hl5 hi5 hx5 ho5 hg5 hz5 hbo hr0 HE cb0 cb1 cb2 HEO
            by_cases hq : q = []
            · subst hq
              have hqe : (@List.isEmpty UInt8 []) = true := rfl
              have HCR := hide (checkRecord_any w5 (.slice none 0 0) (.slice ao l.length cp) r0 (reads_ownRefs HWR.out) (reads_ownPoints HWP.out) HOK.out.1 (by have := HOK.out.2.1; omega) (by have := HOK.out.2.2.1; omega) HOK.out.2.2.2.1 HOK.out.2.2.2.2)
              rw [HRK.out] at HCR
              have hi0 := cell_of_one (show w5.heap[w.heap.size + 1]? = some (.cells #[.string (bs [])] 79 (0, 0)) from HIQ.out)
              obtain ⟨cx0, cx1, cx2⟩ := three_of HBR.out
              go_wp2_with fail
              refine (refuse_any false 1 w5 (by decide)).mono ?_
              rintro e w7 ⟨rfl, hw7⟩
              subst hw7
              rw [if_neg (by simp), outc_ok]
              go_wp2_with fail
              refine HCR.out.mono ?_
              rintro e w8 ⟨rfl, hg8⟩
              have HG8 := hide hg8
              clear hg8 cx0 cx1 cx2 hi0 HCR
              by_cases hr : recErr r0 = 0
              · have HU := hide (unpO_ok HBO.out hr)
                rw [hr, outc_ok]
                have hbr := HG8.out.get HBR.out
                have hb0 := HG8.out.get HZ0.out
                have HB0 := hide hb0
                have HBR8 := hide hbr
                obtain ⟨cx0, cx1, cx2⟩ := three_of hbr
                obtain ⟨cr0, cr1, cr2⟩ := three_of hb0
                have z0 : w8.frozen? ⟨w.heap.size, 0, none⟩ = false := by simp only [World.frozen?, hb0]; rfl
                have z1 : w8.frozen? ⟨w.heap.size, 1, none⟩ = false := by simp only [World.frozen?, hb0]; rfl
                have z2 : w8.frozen? ⟨w.heap.size, 2, none⟩ = false := by simp only [World.frozen?, hb0]; rfl
                clear hr hbr hb0
                go_wp2
                have HF := set3 (set3 (set3 HB0.out 0 (.int .i64 2)) 1 (.slice none 0 0)) 2 (.slice ao l.length cp)
                refine bodyPost_ret (v := .agg #[.int .i64 2, (.slice none 0 0), (.slice ao l.length cp)]) (results_cell_row (p := 2) (ty := 25) rfl _ _ w.heap.size _ _ _ _ rfl HF Try.underlying25 rfl infoRec) rfl ?_
                unfold unpAns
                rw [← HUO.out, HU.out]
                have s8 : w.heap.size ≤ w8.heap.size := by have := (HG.out.trans HG8.out).size; omega
                refine ⟨Below.setCell (Below.setCell (Below.setCell (HG.out.trans HG8.out) (by show w.heap.size ≤ w.heap.size; omega) _) (by show w.heap.size ≤ w.heap.size; omega) _) (by show w.heap.size ≤ w.heap.size; omega) _, (.slice none 0 0), (.slice ao l.length cp), by rw [HRK.out], ?_, ?_⟩
                · have h0 := ownRefs_stay HWR.out (fun g _ hg => HG8.out.block g hg)
                  exact ownRefs_set (ownRefs_set (ownRefs_set h0 HB0.out (by decide) (by decide) _) (set3 HB0.out 0 _) (by decide) (by decide) _) (set3 (set3 HB0.out 0 _) 1 _) (by decide) (by decide) _
                · have h0 := own_stay HWP.out (fun g _ hg => HG8.out.block g hg)
                  have h1 := ownsRow_setCell_other (a := ⟨w.heap.size, 0, none⟩) h0 (own_apart h0 HB0.out (by decide)) (.int .i64 2)
                  have h2 := ownsRow_setCell_other (a := ⟨w.heap.size, 1, none⟩) h1 (own_apart h1 (set3 HB0.out 0 _) (by decide)) (.slice none 0 0)
                  exact ownsRow_setCell_other (a := ⟨w.heap.size, 2, none⟩) h2 (own_apart h2 (set3 (set3 HB0.out 0 _) 1 _) (by decide)) _
              · have HU := hide (unpO_wrong HBO.out hr)
                rw [outc_no hr]
                refine ⟨rfl, ?_⟩
                unfold unpAns
                rw [← HUO.out, HU.out]
                exact ⟨HG.out.trans HG8.out, recErr r0, hr, rfl⟩
            · have HU := hide (unpO_left HBO.out hq)
              have hqe : q.isEmpty = false := by cases q with | nil => exact absurd rfl hq | cons => rfl
              have hi0 := cell_of_one (show w5.heap[w.heap.size + 1]? = some (.cells #[.string (bs q)] 79 (0, 0)) from HIQ.out)
              clear hq
              go_wp2_with fail
              refine (refuse_any true 1 w5 (by decide)).mono ?_
              rintro e w7 ⟨rfl, hw7⟩
              subst hw7
              rw [if_pos rfl, outc_no (by decide)]
              refine ⟨rfl, ?_⟩
              unfold unpAns
              rw [← HUO.out, HU.out]
              exact ⟨HG.out, 1, by decide, rfl⟩
      · as_aux_lemma =>
          go_enter Try.func27, Try.ntmps27
          go_wp2_with fail
          refine HTK.out.mono ?_
          rintro e w2 ⟨hk2, rfl, hi2⟩
          have hsw : w.heap.size + 2 ≤ w2.heap.size := by have := hk2.size; simp at this; omega
          have hz2 := hk2.get HZ2.out (by omega)
          have hg2 : Grow w w2 := grow_ki H02.out hk2 (by omega)
          obtain ⟨w3, e3, g3, b3⟩ := laid_at w2 #[.int .i64 (c.toNat : Int), .slice none 0 0, .slice none 0 0] 25
          have HB3 := hide b3
          have HI3 := hide (hi2.grow g3)
          have HZ3 := hide (g3.get hz2)
          have HG3 := hide (hg2.trans g3)
          have hs3 : w2.heap.size + 1 ≤ w3.heap.size := by rw [← e3]; simp
          clear hk2 hz2 hg2 g3 b3 hi2 HTK HZ2 H02
          have hbo : bodyO c s = some (⟨(c.toNat : Int), [], []⟩, s) := by unfold bodyO; rw [if_neg h1, if_neg h2]
          obtain ⟨r0, hr0⟩ : ∃ r0 : Rcd, r0 = ⟨(c.toNat : Int), [], []⟩ := ⟨_, rfl⟩
          rw [← hr0] at hbo
          obtain ⟨q, hsq⟩ : ∃ q, q = s := ⟨_, rfl⟩
          have HQL : Hid (q.length ≤ 140737488355328) := hide (by rw [hsq]; omega)
          rw [← hsq] at HI3
          have HOK := hide (bodyO_ok (by omega) hbo)
          rw [show (some (r0, s) : Option (Rcd × List UInt8)) = some (r0, q) by rw [hsq]] at hbo
          have HBO := hide hbo
          have HWR : Hid (ownRefs w3 w.heap.size (.slice none 0 0) r0.refs) := hide (by rw [hr0]; exact ownRefs_nil _ _)
          have HWP : Hid (ownPoints w3 w.heap.size (.slice none 0 0) r0.points) := hide (by rw [hr0]; exact World.ownsRow_nil _ _ _ _)
          have HRK : Hid (r0.kind = (c.toNat : Int)) := hide (by rw [hr0])
          have hk1 : ((c.toNat : Int) == 1) = false := by rw [beq_eq_false_iff_ne]; omega
          have hk2 : ((c.toNat : Int) == 2) = false := by rw [beq_eq_false_iff_ne]; omega
          rw [← e3] at HB3 HI3 HZ3 HG3 HWR HWP
          obtain ⟨cb0, cb1, cb2⟩ := three_of HB3.out
          have HBR := HB3
          have HIQ := HI3
          have HG := HG3
          have HZ0 := HZ3
          clear e3 hbo hr0 hsq h1 h2 hcf1 hcf2
          by_cases hq : q = []
          · subst hq
            have hqe : (@List.isEmpty UInt8 []) = true := rfl
            have HCR := hide (checkRecord_any (w2.alloc (.cells #[.int .i64 (c.toNat : Int), .slice none 0 0, .slice none 0 0] 25)) (.slice none 0 0) (.slice none 0 0) r0 (reads_ownRefs HWR.out) (reads_ownPoints HWP.out) HOK.out.1 (by have := HOK.out.2.1; omega) (by have := HOK.out.2.2.1; omega) HOK.out.2.2.2.1 HOK.out.2.2.2.2)
            rw [HRK.out] at HCR
            have hi0 := cell_of_one (show (w2.alloc (.cells #[.int .i64 (c.toNat : Int), .slice none 0 0, .slice none 0 0] 25)).heap[w.heap.size + 1]? = some (.cells #[.string (bs [])] 79 (0, 0)) from HIQ.out)
            obtain ⟨cx0, cx1, cx2⟩ := three_of HBR.out
            go_wp2_with fail
            refine (refuse_any false 1 (w2.alloc (.cells #[.int .i64 (c.toNat : Int), .slice none 0 0, .slice none 0 0] 25)) (by decide)).mono ?_
            rintro e w7 ⟨rfl, hw7⟩
            subst hw7
            rw [if_neg (by simp), outc_ok]
            go_wp2_with fail
            refine HCR.out.mono ?_
            rintro e w8 ⟨rfl, hg8⟩
            have HG8 := hide hg8
            clear hg8 cx0 cx1 cx2 hi0 HCR
            by_cases hr : recErr r0 = 0
            · have HU := hide (unpO_ok HBO.out hr)
              rw [hr, outc_ok]
              have hbr := HG8.out.get HBR.out
              have hb0 := HG8.out.get HZ0.out
              have HB0 := hide hb0
              have HBR8 := hide hbr
              obtain ⟨cx0, cx1, cx2⟩ := three_of hbr
              obtain ⟨cr0, cr1, cr2⟩ := three_of hb0
              have z0 : w8.frozen? ⟨w.heap.size, 0, none⟩ = false := by simp only [World.frozen?, hb0]; rfl
              have z1 : w8.frozen? ⟨w.heap.size, 1, none⟩ = false := by simp only [World.frozen?, hb0]; rfl
              have z2 : w8.frozen? ⟨w.heap.size, 2, none⟩ = false := by simp only [World.frozen?, hb0]; rfl
              clear hr hbr hb0
              go_wp2
              have HF := set3 (set3 (set3 HB0.out 0 (.int .i64 (c.toNat : Int))) 1 (.slice none 0 0)) 2 (.slice none 0 0)
              refine bodyPost_ret (v := .agg #[.int .i64 (c.toNat : Int), (.slice none 0 0), (.slice none 0 0)]) (results_cell_row (p := 2) (ty := 25) rfl _ _ w.heap.size _ _ _ _ rfl HF Try.underlying25 rfl infoRec) rfl ?_
              unfold unpAns
              rw [← HUO.out, HU.out]
              have s8 : w.heap.size ≤ w8.heap.size := by have := (HG.out.trans HG8.out).size; omega
              refine ⟨Below.setCell (Below.setCell (Below.setCell (HG.out.trans HG8.out) (by show w.heap.size ≤ w.heap.size; omega) _) (by show w.heap.size ≤ w.heap.size; omega) _) (by show w.heap.size ≤ w.heap.size; omega) _, (.slice none 0 0), (.slice none 0 0), by rw [HRK.out], ?_, ?_⟩
              · have h0 := ownRefs_stay HWR.out (fun g _ hg => HG8.out.block g hg)
                exact ownRefs_set (ownRefs_set (ownRefs_set h0 HB0.out (by decide) (by decide) _) (set3 HB0.out 0 _) (by decide) (by decide) _) (set3 (set3 HB0.out 0 _) 1 _) (by decide) (by decide) _
              · have h0 := own_stay HWP.out (fun g _ hg => HG8.out.block g hg)
                have h1 := ownsRow_setCell_other (a := ⟨w.heap.size, 0, none⟩) h0 (own_apart h0 HB0.out (by decide)) (.int .i64 (c.toNat : Int))
                have h2 := ownsRow_setCell_other (a := ⟨w.heap.size, 1, none⟩) h1 (own_apart h1 (set3 HB0.out 0 _) (by decide)) (.slice none 0 0)
                exact ownsRow_setCell_other (a := ⟨w.heap.size, 2, none⟩) h2 (own_apart h2 (set3 (set3 HB0.out 0 _) 1 _) (by decide)) _
            · have HU := hide (unpO_wrong HBO.out hr)
              rw [outc_no hr]
              refine ⟨rfl, ?_⟩
              unfold unpAns
              rw [← HUO.out, HU.out]
              exact ⟨HG.out.trans HG8.out, recErr r0, hr, rfl⟩
          · have HU := hide (unpO_left HBO.out hq)
            have hqe : q.isEmpty = false := by cases q with | nil => exact absurd rfl hq | cons => rfl
            have hi0 := cell_of_one (show (w2.alloc (.cells #[.int .i64 (c.toNat : Int), .slice none 0 0, .slice none 0 0] 25)).heap[w.heap.size + 1]? = some (.cells #[.string (bs q)] 79 (0, 0)) from HIQ.out)
            clear hq
            go_wp2_with fail
            refine (refuse_any true 1 (w2.alloc (.cells #[.int .i64 (c.toNat : Int), .slice none 0 0, .slice none 0 0] 25)) (by decide)).mono ?_
            rintro e w7 ⟨rfl, hw7⟩
            subst hw7
            rw [if_pos rfl, outc_no (by decide)]
            refine ⟨rfl, ?_⟩
            unfold unpAns
            rw [← HUO.out, HU.out]
            exact ⟨HG.out, 1, by decide, rfl⟩
end Go.Proofs.Ytnlkfehnmijimaa.Rc
