/- The reference's line: labels, up to the line's end. -/
import Derived.Laws.OwnMore
import Derived.Deep.Cut
import Derived.Deep.CutRange
import Derived.Deep.DeepCutAuto
import Derived.Test.YtdlmgkncneifaaaGreatProg
import Derived.Test.YtdlmgkncneifaaaGreatKit
import Derived.Test.YtdlmgkncneifaaaGreatReg
import Derived.Test.YtdlmgkncneifaaaGreatLSpec
import Derived.Test.YtdlmgkncneifaaaGreatLRow
import Derived.Test.YtdlmgkncneifaaaGreatLRefA
import Derived.Test.YtdlmgkncneifaaaGreatLnA
import Derived.Test.YtdlmgkncneifaaaGreatLnB
import Derived.Test.YtdlmgkncneifaaaGreatLnC
import Derived.Test.YtdlmgkncneifaaaGreatLnD
import Derived.Test.YtdlmgkncneifaaaGreatLnE
import Derived.Test.YtdlmgkncneifaaaGreatRnA
import Derived.Test.YtdlmgkncneifaaaGreatRnB
import Derived.Test.YtdlmgkncneifaaaGreatRnC
import Derived.BigQuiet
set_option linter.unusedVariables false
set_option linter.unusedSimpArgs false
namespace Go.Proofs.YtdlmgkncneifaaaGreat.Rn
open Go.RowKit Lb Ln
attribute [local go_sem] bs_size bs_toList bs_append bs_get bs_extract

theorem nameR_ok {r : List UInt8} {x : List UInt8 × List UInt8} (h : nameR r = .ok x) : nameE r = .ok x := by
  unfold nameR at h
  split at h
  · cases h
  · split at h
    · cases h
    · rename_i he _; cases h; exact he
theorem nameR_error {r q : List UInt8} (h : nameR r = .error q) : labE r = .error q := by
  unfold nameR at h
  split at h
  · rename_i he; cases h; unfold labE; rw [he]
  · rename_i x he
    split at h
    · rename_i hn
      cases h
      have hx2 : x.2 = r.drop (namN r) := by
        unfold nameE at he
        split at he
        · cases he
        · cases he; rfl
      have hlt := nm_some hn
      unfold nmB at hn
      rw [drop_at hlt] at hn hx2
      have hn2 : letB r[namN r] = true ∨ digB r[namN r] = true := by
        rw [Bool.or_eq_true] at hn
        rcases hn with h | h
        · exact .inl h
        · rw [Bool.and_eq_true] at h; exact .inr h.2
      generalize r[namN r] = c at *
      have hb : blR x.2 = x.2 := by
        rw [hx2, blR]
        refine if_neg ?_
        rintro (rfl | rfl)
        · revert hn2; decide
        · revert hn2; decide
      have hs : skipB 61 x.2 = false := by
        rw [hx2]
        show (c == 61) = false
        simp only [beq_eq_false_iff_ne, ne_eq]
        rintro rfl
        revert hn2; decide
      unfold labE mustL
      rw [he]
      simp only
      rw [hb, if_neg (by rw [hs]; simp)]
    · cases h
/-- A label, behind its name. -/
def labTail (x : List UInt8 × List UInt8) : Except (List UInt8) (Lab × List UInt8) := match mustL 61 (blR x.2) with
  | .error q => .error q
  | .ok y => match valE (blR y.2) with
    | .error q => .error q
    | .ok z => .ok ((x.1, z.1), blR z.2)
theorem labE_name {r : List UInt8} {x : List UInt8 × List UInt8} (h : nameE r = .ok x) : labE r = labTail x := by
  unfold labE
  rw [h]
  rfl
/-- Labels up to the end. -/
def consL (x : Lab) : Except (List UInt8) (List Lab) → Except (List UInt8) (List Lab)
  | .ok l => .ok (x :: l)
  | .error q => .error q
def lkR : Nat → List UInt8 → Except (List UInt8) (List Lab)
  | 0, r => .error r
  | n + 1, r => if r = [] then .ok [] else match labE r with
    | .error q => .error q
    | .ok x => if x.2 = [] then .ok [x.1] else if skipB 44 x.2 = true then consL x.1 (lkR n (blR (skipR 44 x.2))) else .error x.2
/-- What is told by all of a rest. -/
def wholeL : Except (List UInt8) (List Lab × List UInt8) → Except (List UInt8) (List Lab)
  | .error q => .error q
  | .ok x => if x.2 = [] then .ok x.1 else .error x.2
theorem whole_ahead (x : Lab) (o : Except (List UInt8) (List Lab × List UInt8)) : wholeL (Ln.ahead [x] o) = consL x (wholeL o) := by
  cases o with
  | error q => rfl
  | ok y =>
    show (if y.2 = [] then _ else _) = consL x (if y.2 = [] then _ else _)
    split <;> rfl
theorem lkR_eq : ∀ (n : Nat) (r : List UInt8), r.length < n → lkR n r = wholeL (labsG n r)
  | 0, r, h => by omega
  | n + 1, r, h => by
    rw [lkR, labsG]
    by_cases hr : r = []
    · subst hr; rfl
    · rw [if_neg hr]
      cases hn : namedB r 0 with
      | false =>
        rw [if_neg (by simp)]
        have hN : namN r = 0 := by
          show (if namedB r 0 = true then _ else 0) = 0
          rw [if_neg (by rw [hn]; simp)]
        have he : labE r = .error r := by unfold labE nameE; rw [if_pos hN]
        rw [he]
        show _ = (if r = [] then _ else _)
        rw [if_neg hr]
      | true =>
        rw [if_pos rfl]
        cases hl : labE r with
        | error q => rfl
        | ok x =>
          simp only
          by_cases hx : x.2 = []
          · rw [if_pos hx, if_neg (by rw [hx]; simp [skipB])]
            show _ = (if x.2 = [] then _ else _)
            rw [if_pos hx]
          · rw [if_neg hx]
            cases hs : skipB 44 x.2 with
            | true =>
              rw [if_pos rfl, if_pos rfl, whole_ahead, lkR_eq n _ (by
                have h1 := lab_len hl
                have h2 := skip_len hs
                have h3 := bl_len (skipR 44 x.2)
                omega)]
            | false =>
              rw [if_neg (by simp), if_neg (by simp)]
              show _ = (if x.2 = [] then _ else _)
              rw [if_neg hx]
/-- Labels that were made, ahead. -/
def aheadL (a : List Lab) : Except (List UInt8) (List Lab) → Except (List UInt8) (List Lab)
  | .ok l => .ok (a ++ l)
  | .error q => .error q
theorem aheadL_nil (o : Except (List UInt8) (List Lab)) : aheadL [] o = o := by cases o <;> rfl
theorem aheadL_cons (a : List Lab) (x : Lab) (o : Except (List UInt8) (List Lab)) : aheadL a (consL x o) = aheadL (a ++ [x]) o := by
  cases o with
  | ok l => simp [aheadL, consL]
  | error q => rfl
theorem RL.setOther {w : World} {b k g : Nat} {s : List UInt8} {e a : Int} (h : RL w b s k g e a) {z : Nat} (hz : b ≠ z) (i : Nat) (u : Value) : RL (w.setCell ⟨z, i, none⟩ u) b s k g e a := ⟨h.len, h.kk, h.fir, (Below.heap_setCell w ⟨z, i, none⟩ u b hz).trans h.cell⟩
theorem RL.grown {w w' : World} {b k g : Nat} {s : List UInt8} {e a : Int} {row : Option Nat} (h : RL w b s k g e a) (hg : w.grownBy w' row) (hr : row ≠ some b) : RL w' b s k g e a := ⟨h.len, h.kk, h.fir, grown_block hg h.cell hr⟩
/-- What labels comes to. -/
def rlabsAs (b g : Nat) (s : List UInt8) (o : Except (List UInt8) (List Lab)) (w : World) (e : Ending) (w' : World) : Prop :=
  KI b w w' ∧ match o with
    | .ok ls => ∃ v k', e = .returned v ∧ ownLabels w' w.heap.size v ls ∧ RL w' b s k' g 0 0 ∧ s.drop k' = []
    | .error q => ∃ v k', e = .returned v ∧ RL w' b s k' g 1 ((g : Int) + (pos s q : Int))
set_option maxRecDepth 20000 in
set_option maxHeartbeats 4000000 in
theorem rlabels_any (w : World) (b k g : Nat) (s : List UInt8) (hk : k ≤ s.length) (hn : ∀ c ∈ s, c ≠ 10) (h : RL w b s k g 0 0) :
    Calls Tryz.prog 25 #[.pointer (some ⟨b, 0, none⟩), .int .u8 10] w (rlabsAs b g s (lkR ((blR (s.drop k)).length + 1) (blR (s.drop k))) w) := by
  obtain ⟨i0, hi0, hz0, hz1, hz2⟩ := info_parts Tryz.infoL
  have S1 := hide (rblanks_any w b k g s 0 0 h)
  have HN := hide hn
  have hl := h.len
  have HBW : Hid (b < w.heap.size) := hide (lt_of_block h.cell)
  obtain ⟨O, HO⟩ : ∃ O, Hid (lkR ((blR (s.drop k)).length + 1) (blR (s.drop k)) = O) := ⟨_, hide rfl⟩
  rw [HO.out]
  clear h hn
  go_enter Tryz.func25, Tryz.ntmps25
  go_wp2_with fail
  refine S1.out.mono ?_
  rintro e w1 ⟨d, k1, rfl, hk1, hr1, hd1, -, hle1⟩
  have HK1 := hide hk1
  have HR1 := hide hr1
  have HD1 := hide hd1
  have hks1 := hle1 hk
  have hrl1 : (blR (s.drop k)).length ≤ 1000000 := by rw [← hd1, List.length_drop]; omega
  obtain ⟨r1, hr1e⟩ : ∃ r1, blR (s.drop k) = r1 := ⟨_, rfl⟩
  rw [hr1e] at HO HD1 hrl1
  clear hk1 hr1 hd1 hle1 hr1e S1
  go_wp2
  go_loopw [5] (fun v wr => (∃ (acc : List Lab) (r' : List UInt8) (n k' : Nat), r'.length < n ∧ acc.length + r'.length ≤ 1000000 ∧ Hid (aheadL acc (lkR n r') = O) ∧ Hid (RL wr b s k' g 0 0) ∧ Hid (s.drop k' = r') ∧ k' ≤ s.length ∧ Hid (KI b w wr) ∧ Hid (ownLabels wr w.heap.size v acc)) ∨ (∃ q k', Hid (O = .error q) ∧ Hid (RL wr b s k' g 1 ((g : Int) + (pos s q : Int))) ∧ Hid (KI b w wr))) (fun _ wr => match wr.heap[b]? with | some (.cells c _ _) => if intOf (c.getD 3 undef) = 0 then s.length + 1 - (intOf (c.getD 1 undef)).toNat else 0 | _ => 0)
  case atStart => exact .inl ⟨[], r1, r1.length + 1, k1, by omega, by simp; omega, hide (by rw [aheadL_nil]; exact HO.out), HR1, HD1, hks1, HK1, hide (World.ownsRow_nil _ _ _ _)⟩
  case round =>
    rcases hrel with ⟨acc, r', n, k', hn', hal, HA, HI, HD, hk', HK, HOW⟩ | ⟨q, k', HO2, HI, HK⟩
    · obtain ⟨so, sc, hsv⟩ := own_shape HOW.out
      subst hsv
      obtain ⟨d0, d1, d2, d3, d4, y1, y3, y4⟩ := five_cells HI.out.cell
      have S2 := hide (rnext_any wr b k' g s 0 0 HI.out)
      rw [HD.out] at S2
      obtain ⟨m, rfl⟩ : ∃ m, n = m + 1 := ⟨n - 1, by omega⟩
      have ha := HA.out
      rw [lkR] at ha
      have far : ∀ W, KI b wr W → ownLabels W w.heap.size (.slice so acc.length sc) acc := fun W hW => own_keep HOW.out fun g hg => by
        have := HOW.out.lt g hg
        exact hW.block g this.2 (by have := HBW.out; omega)
      have FAR := hide far
      clear far
      cases r' with
      | nil =>
        rw [if_pos rfl] at ha
        have hO : O = .ok acc := by rw [← ha]; simp [aheadL]
        subst hO
        clear ha
        rw [show nxt [] = 10 from rfl] at S2
        go_wp2_with fail
        refine S2.out.mono ?_
        rintro e w2 ⟨rfl, n2, rfl⟩
        go_wp2
        go_ret
        exact ⟨HK.out.drewN _, _, k', rfl, FAR.out _ ((KI.refl _ _).drewN _), HI.out.drewN _, HD.out⟩
      | cons c q0 =>
        rw [if_neg (by simp)] at ha
        rw [show nxt (c :: q0) = c from rfl] at S2
        have hc10 : c.toNat ≠ 10 := fun e => HN.out c (drop_mem HD.out c (List.mem_cons_self ..)) (UInt8.toNat_inj.1 e)
        have hx10 : ((c.toNat : Int) == 10) = false := byte_ne hc10
        have S3 := hide fun n => rname_any (wr.drewN n) b k' g s hk' (HI.out.drewN n)
        rw [HD.out] at S3
        obtain ⟨r0, hr0⟩ : ∃ r0, c :: q0 = r0 := ⟨_, rfl⟩
        rw [hr0] at S3 ha
        cases hnm : nameR r0 with
        | error q =>
          have he := nameR_error hnm
          rw [he] at ha
          rw [hnm] at S3
          have hO : O = .error q := by rw [← ha]; rfl
          subst hO
          clear ha he hnm
          go_wp2_with fail
          refine S2.out.mono ?_
          rintro e w2 ⟨rfl, n2, rfl⟩
          go_wp2_with fail
          refine (S3.out n2).mono ?_
          rintro e w3 ⟨hk3, v3, k3, rfl, ⟨nm, rfl⟩, hr3⟩
          have HK3 := hide ((HK.out.drewN n2).trans hk3)
          have HR3 := hide hr3
          clear hk3 hr3 S2 S3
          go_upto_region 5 with fail
          obtain ⟨V, HV⟩ : ∃ V, Hid (w3.alloc (.cells #[.string (bs nm), .string { data := #[] }] 69) = V) := ⟨_, hide rfl⟩
          rw [HV.out]
          have HRV : Hid (RL V b s k3 g 1 ((g : Int) + (pos s q : Int))) := hide (by rw [← HV.out]; exact HR3.out.alloc _)
          have HKV : Hid (KI b w V) := hide (by rw [← HV.out]; exact HK3.out.trans (KI.grow ((Grow.refl w3).alloc _)))
          obtain ⟨e0, e1, e2, e3, e4, x1, x3, x4⟩ := five_cells HRV.out.cell
          go_wp2
          go_ret
          exact ⟨HKV.out, _, k3, rfl, HRV.out⟩
        | ok x =>
          have hx := nameR_ok hnm
          have hla := labE_name hx
          unfold labTail at hla
          rw [hnm] at S3
          obtain ⟨LE, hLE⟩ : ∃ LE, labE r0 = LE := ⟨_, rfl⟩
          rw [hLE] at ha hla
          have HLL := hide hLE
          clear hx hnm hLE
          go_wp2_with fail
          refine S2.out.mono ?_
          rintro e w2 ⟨rfl, n2, rfl⟩
          go_wp2_with fail
          refine (S3.out n2).mono ?_
          rintro e w3 ⟨hk3, rfl, k3, hr3, hd3, hks3⟩
          have HK3 := hide ((HK.out.drewN n2).trans hk3)
          have HKr3 : Hid (KI b wr w3) := hide (((KI.refl _ _).drewN n2).trans hk3)
          have HR3 := hide hr3
          have HD3 := hide hd3
          have HB3 : Hid (b < w3.heap.size) := hide (lt_of_block hr3.cell)
          clear hk3 hr3 hd3 S2 S3
          go_upto_region 5 with fail
          obtain ⟨V, HV⟩ : ∃ V, Hid (w3.alloc (.cells #[.string (bs x.1), .string { data := #[] }] 69) = V) := ⟨_, hide rfl⟩
          rw [HV.out]
          have HRV : Hid (RL V b s k3 g 0 0) := hide (by rw [← HV.out]; exact HR3.out.alloc _)
          have HKV : Hid (KI b w3 V) := hide (by rw [← HV.out]; exact KI.grow ((Grow.refl w3).alloc _))
          have HBV : Hid (V.heap[w3.heap.size]? = some (.cells #[.string (bs x.1), .string { data := #[] }] 69 (0, 0))) := hide (by rw [← HV.out]; exact heap_alloc_new _ _)
          have HZ : Hid (w3.heap.size ≠ b) := hide (by have := HB3.out; omega)
          obtain ⟨z, hz⟩ : ∃ z, w3.heap.size = z := ⟨_, rfl⟩
          rw [hz] at HBV HZ ⊢
          have HZ3 := hide hz
          clear hz
          obtain ⟨e0, e1, e2, e3, e4, x1, x3, x4⟩ := five_cells HRV.out.cell
          have S4 := hide (rblanks_any V b k3 g s 0 0 HRV.out)
          go_wp2_with fail
          refine S4.out.mono ?_
          rintro e w4 ⟨d4', k4, rfl, hk4, hr4, hd4, -, hle4⟩
          have HKV4 := hide hk4
          have HR4 := hide hr4
          have hd4 := hd4.trans (by rw [HD3.out])
          have HD4 := hide hd4
          have hks4 := hle4 hks3
          have S5 := hide (rmust_any w4 b k4 g s 0 61 (by decide) hks4 hr4)
          rw [hd4] at S5
          clear hk4 hr4 hd4 hle4 S4
          cases hm61 : skipB 61 (blR x.2) with
          | false =>
            have hmu : mustL 61 (blR x.2) = .error (blR x.2) := by unfold mustL; rw [if_neg (by rw [hm61]; simp)]
            rw [hmu] at hla
            simp only at hla
            subst hla
            have hO : O = .error (blR x.2) := by rw [← ha]; rfl
            subst hO
            simp only [hm61, Bool.false_eq_true, if_false] at S5
            have HPS := hide (pos_at HD4.out hks4)
            clear ha hmu hm61
            go_wp2_with fail
            refine S5.out.mono ?_
            rintro e w5 ⟨rfl, hk5, hr5⟩
            have HK5 := hide (HK3.out.trans (HKV.out.trans (HKV4.out.trans hk5)))
            have HR5 := hide hr5
            obtain ⟨f0, f1, f2, f3, f4, g1, g3, g4⟩ := five_cells hr5.cell
            clear hk5 hr5 S5
            go_wp2
            go_ret
            exact ⟨HK5.out, _, k4 + 1, rfl, by rw [HPS.out]; exact HR5.out⟩
          | true =>
            have hmu : mustL 61 (blR x.2) = .ok ((), skipR 61 (blR x.2)) := by unfold mustL; rw [if_pos hm61]
            rw [hmu] at hla
            simp only at hla
            simp only [hm61, if_true] at S5
            clear hmu hm61
            go_wp2_with fail
            refine S5.out.mono ?_
            rintro e w5 ⟨rfl, hk5, hr5, hd5, hks5⟩
            have HKV5 := hide (HKV4.out.trans hk5)
            have HR5 := hide hr5
            have HD5 := hide hd5
            obtain ⟨f0, f1, f2, f3, f4, g1, g3, g4⟩ := five_cells hr5.cell
            have S6 := hide (rblanks_any w5 b (k4 + 1) g s 0 0 hr5)
            clear hk5 hr5 hd5 S5
            go_wp2_with fail
            refine S6.out.mono ?_
            rintro e w6 ⟨d6', k6, rfl, hk6, hr6, hd6, -, hle6⟩
            have HKV6 := hide (HKV5.out.trans hk6)
            have hd6 := hd6.trans (by rw [HD5.out])
            have hks6 := hle6 hks5
            have S7 := hide (rquoted_any w6 b k6 g s hks6 HN.out hr6)
            rw [hd6] at S7
            clear hk6 hr6 hd6 hle6 S6
            cases hv : valE (blR (skipR 61 (blR x.2))) with
            | error q =>
              rw [hv] at S7 hla
              simp only at hla
              subst hla
              have hO : O = .error q := by rw [← ha]; rfl
              subst hO
              clear ha hv
              go_wp2_with fail
              refine S7.out.mono ?_
              rintro e w7 ⟨hk7, v7, k7, rfl, ⟨nm, rfl⟩, hr7⟩
              have HK7 := hide (HK3.out.trans (HKV.out.trans (HKV6.out.trans hk7)))
              have HB7 := (HKV6.out.trans hk7).get HBV.out HZ.out
              obtain ⟨q0', q1', q2', q3'⟩ := two_free HB7
              have HR7 := hide hr7
              clear hk7 hr7 S7
              go_upto_region 13 with fail
              obtain ⟨X, HX⟩ : ∃ X, Hid (w7.setCell ⟨z, 1, none⟩ (.string (bs nm)) = X) := ⟨_, hide rfl⟩
              rw [HX.out]
              have HRX : Hid (RL X b s k7 g 1 ((g : Int) + (pos s q : Int))) := hide (by rw [← HX.out]; exact HR7.out.setOther (fun e => HZ.out e.symm) _ _)
              have HKX : Hid (KI b w X) := hide (by rw [← HX.out]; exact HK7.out.setNew (by rw [← HZ3.out]; exact HK3.out.size) _ _)
              obtain ⟨h0, h1, h2, h3, h4, j1, j3, j4⟩ := five_cells HRX.out.cell
              go_wp2
              go_ret
              exact ⟨HKX.out, _, k7, rfl, HRX.out⟩
            | ok y =>
              rw [hv] at S7 hla
              simp only at hla
              subst hla
              have hyl := lab_len HLL.out
              simp only at hyl
              simp only at ha
              clear hv
              go_wp2_with fail
              refine S7.out.mono ?_
              rintro e w7 ⟨hk7, rfl, k7, hr7, hd7, hks7⟩
              have HKV7 := hide (HKV6.out.trans hk7)
              have HB7 := HKV7.out.get HBV.out HZ.out
              obtain ⟨q0', q1', q2', q3'⟩ := two_free HB7
              have HR7 := hide hr7
              have HD7 := hide hd7
              clear hk7 hr7 hd7 S7
              go_upto_region 13 with fail
              obtain ⟨X, HX⟩ : ∃ X, Hid (w7.setCell ⟨z, 1, none⟩ (.string (bs y.1)) = X) := ⟨_, hide rfl⟩
              rw [HX.out]
              have HRX : Hid (RL X b s k7 g 0 0) := hide (by rw [← HX.out]; exact HR7.out.setOther (fun e => HZ.out e.symm) _ _)
              have HK7 := hide (HK3.out.trans (HKV.out.trans HKV7.out))
              have HKX : Hid (KI b w X) := hide (by rw [← HX.out]; exact HK7.out.setNew (by rw [← HZ3.out]; exact HK3.out.size) _ _)
              have HKrX : Hid (KI b wr X) := hide (by rw [← HX.out]; exact (HKr3.out.trans (HKV.out.trans HKV7.out)).setNew (by rw [← HZ3.out]; exact HKr3.out.size) _ _)
              have hbx : X.heap[z]? = some (.cells #[.string (bs x.1), .string (bs y.1)] 69 (0, 0)) := by
                rw [← HX.out]
                simp [World.setCell, Array.getElem?_modify, HB7]
              obtain ⟨h0, h1, h2, h3, h4, j1, j3, j4⟩ := five_cells HRX.out.cell
              obtain ⟨t0, t1, t2, t3⟩ := two_free hbx
              have HOX := hide (FAR.out X HKrX.out)
              have HSX : w.heap.size ≤ X.heap.size := HKX.out.size
              have hal2 : acc.length ≤ 1000000 := by omega
              clear hbx
              go_wp2_with (at_builtin; refine wpList_append_own _ rfl _ _ 34 rfl w.heap.size 69 i0 _ 2 32 Tryz.underlying34 hi0 hz0 hz1 hz2 zeroLab (by omega) _ acc.length (labCells acc) rfl (own_grow HOX.out ((Grow.refl X).alloc _)) ⟨X.heap.size, 0, none⟩ 1 1 (labCells [(x.1, y.1)]) rfl (labCells_length [(x.1, y.1)]) (World.news_of_block (heap_alloc_new X _)) (labCells_one [(x.1, y.1)]) (by unfold maxLen; omega) (by omega) (by simp; omega) ?_; intro v' w8 hown' hgrow _; rw [← labCells_append] at hown')
              have HW8 : Hid (ownLabels w8 w.heap.size v' (acc ++ [(x.1, y.1)])) := hide (by unfold ownLabels; rw [List.length_append]; exact hown')
              have hne : (Value.slice so acc.length sc).ownBlock ≠ some b := fun e => by
                have h1 := (HOX.out.lt b e).1
                have := HBW.out
                omega
              have HK8 : Hid (KI b w w8) := hide ((HKX.out.trans (KI.grow ((Grow.refl X).alloc _))).grown hgrow (fun k hk => (HOX.out.lt k hk).1))
              have HR8 : Hid (RL w8 b s k7 g 0 0) := hide ((HRX.out.alloc _).grown hgrow hne)
              obtain ⟨so', sc', hv'⟩ := own_shape HW8.out
              clear hown' hgrow hne
              subst hv'
              rw [List.length_append] at HW8 ⊢
              have HW9 : Hid (∀ W, KI b w8 W → ownLabels W w.heap.size (.slice so' (acc.length + [(x.1, y.1)].length) sc') (acc ++ [(x.1, y.1)])) := hide fun W hW => own_keep HW8.out fun g hg => by
                have := HW8.out.lt g hg
                exact hW.block g this.2 (by have := HBW.out; omega)
              have S8 := hide (rblanks_any w8 b k7 g s 0 0 HR8.out)
              go_wp2_with fail
              refine S8.out.mono ?_
              rintro e w9 ⟨d9', k9, rfl, hk9, hr9, hd9, -, hle9⟩
              have HK89 := hide hk9
              have HR9 := hide hr9
              have hd9 := hd9.trans (by rw [HD7.out])
              have HD9 := hide hd9
              have hks9 := hle9 hks7
              have S9 := hide (rnext_any w9 b k9 g s 0 0 hr9)
              rw [hd9] at S9
              have hd9' := hd9
              clear hk9 hr9 hd9 hle9 S8
              have hm : ∀ (W : World) (q : Nat) (e a : Int), RL W b s q g e a → (match W.heap[b]? with | some (.cells c _ _) => if intOf (c.getD 3 undef) = 0 then s.length + 1 - (intOf (c.getD 1 undef)).toNat else 0 | _ => 0) = if e = 0 then s.length + 1 - q else 0 := fun W q e a hq => by
                rw [hq.cell]
                simp [intOf]
              have HM := hide hm
              clear hm
              obtain ⟨R, hR⟩ : ∃ R, blR y.2 = R := ⟨_, rfl⟩
              rw [hR] at ha S9 HD9 hyl
              clear hR
              cases R with
              | nil =>
                rw [if_pos rfl] at ha
                have hO : O = .ok (acc ++ [(x.1, y.1)]) := by rw [← ha]; rfl
                subst hO
                rw [show nxt [] = 10 from rfl] at S9
                clear ha
                go_wp2_with fail
                refine S9.out.mono ?_
                rintro e w10 ⟨rfl, n10, rfl⟩
                go_wp2
                go_ret
                exact ⟨(HK8.out.trans HK89.out).drewN _, _, k9, rfl, HW9.out _ (HK89.out.drewN _), HR9.out.drewN _, HD9.out⟩
              | cons c2 q2 =>
                rw [if_neg (by simp)] at ha
                rw [show nxt (c2 :: q2) = c2 from rfl] at S9
                have hc210 : c2.toNat ≠ 10 := fun e => HN.out c2 (drop_mem HD9.out c2 (List.mem_cons_self ..)) (UInt8.toNat_inj.1 e)
                have S10 := hide fun n => rmust_any (w9.drewN n) b k9 g s 0 44 (by decide) hks9 (HR9.out.drewN n)
                rw [HD9.out] at S10
                have hlr : r0.length = s.length - k' := by
                  rw [← hr0]
                  have := congrArg List.length HD.out
                  rw [List.length_drop] at this
                  exact this.symm
                have hl9 : s.length - k9 = (c2 :: q2).length := by
                  have := congrArg List.length HD9.out
                  rw [List.length_drop] at this
                  exact this
                rw [hr0] at hn' hal
                cases h44 : skipB 44 (c2 :: q2) with
                | true =>
                  rw [if_pos h44, aheadL_cons] at ha
                  simp only [h44, if_true] at S10
                  have HA2 := hide ha
                  have hsl := skip_len h44
                  have hbl := bl_len (skipR 44 (c2 :: q2))
                  clear ha h44
                  go_wp2_with fail
                  refine S9.out.mono ?_
                  rintro e w10 ⟨rfl, n10, rfl⟩
                  go_wp2_with fail
                  refine (S10.out n10).mono ?_
                  rintro e w11 ⟨rfl, hk11, hr11, hd11, hks11⟩
                  have HK11 := hide ((HK89.out.drewN n10).trans hk11)
                  have HD11 := hide hd11
                  have S11 := hide (rblanks_any w11 b (k9 + 1) g s 0 0 hr11)
                  clear hk11 hr11 hd11 S9 S10
                  go_wp2_with fail
                  refine S11.out.mono ?_
                  rintro e w12 ⟨d12', k12, rfl, hk12, hr12, hd12, -, hle12⟩
                  have HK12 := hide (HK11.out.trans hk12)
                  have HR12 := hide hr12
                  have hd12 := hd12.trans (by rw [HD11.out])
                  have HD12 := hide hd12
                  have hks12 := hle12 hks11
                  have hl12 : s.length - k12 = (blR (skipR 44 (c2 :: q2))).length := by
                    have := congrArg List.length hd12
                    rw [List.length_drop] at this
                    exact this
                  clear hk12 hr12 hd12 hle12 S11
                  go_wp2
                  go_roundw
                  case rel => exact .inl ⟨acc ++ [(x.1, y.1)], blR (skipR 44 (c2 :: q2)), m, k12, by omega, by simp; omega, HA2, HR12, HD12, hks12, hide (HK8.out.trans HK12.out), hide (HW9.out _ HK12.out)⟩
                  case measure => rw [HM.out _ _ _ _ HR12.out, HM.out _ _ _ _ HI.out, if_pos rfl, if_pos rfl]; omega
                | false =>
                  rw [if_neg (by rw [h44]; simp)] at ha
                  have hO : O = .error (c2 :: q2) := by rw [← ha]; rfl
                  subst hO
                  simp only [h44, Bool.false_eq_true, if_false] at S10
                  have HPS := hide (pos_at HD9.out hks9)
                  clear ha h44
                  go_wp2_with fail
                  refine S9.out.mono ?_
                  rintro e w10 ⟨rfl, n10, rfl⟩
                  go_wp2_with fail
                  refine (S10.out n10).mono ?_
                  rintro e w11 ⟨rfl, hk11, hr11⟩
                  have HK11 := hide ((HK89.out.drewN n10).trans hk11)
                  have S11 := hide (rblanks_any w11 b (k9 + 1) g s _ _ hr11)
                  clear hk11 hr11 S9 S10
                  go_wp2_with fail
                  refine S11.out.mono ?_
                  rintro e w12 ⟨d12', k12, rfl, hk12, hr12, -, -, -⟩
                  have HK12 := hide (HK11.out.trans hk12)
                  have HR12 := hide hr12
                  clear hk12 hr12 S11
                  go_wp2
                  go_roundw
                  case rel => exact .inr ⟨c2 :: q2, k12, hide rfl, hide (by rw [HPS.out]; exact HR12.out), hide (HK8.out.trans HK12.out)⟩
                  case measure => rw [HM.out _ _ _ _ HR12.out, HM.out _ _ _ _ HI.out, if_neg (by decide), if_pos rfl]; omega
    · obtain ⟨d0, d1, d2, d3, d4, y1, y3, y4⟩ := five_cells HI.out.cell
      have hO := HO2.out
      subst hO
      go_wp2
      go_ret
      exact ⟨HK.out, _, k', rfl, HI.out⟩
end Go.Proofs.YtdlmgkncneifaaaGreat.Rn
