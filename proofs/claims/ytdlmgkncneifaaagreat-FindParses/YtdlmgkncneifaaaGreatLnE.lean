/- line: Labels. -/
import Derived.Laws.OwnMore
import Derived.Deep.AppendLies
import Derived.Test.YtdlmgkncneifaaaGreatProg
import Derived.Test.YtdlmgkncneifaaaGreatKit
import Derived.Test.YtdlmgkncneifaaaGreatReg
import Derived.Test.YtdlmgkncneifaaaGreatLSpec
import Derived.Test.YtdlmgkncneifaaaGreatLRow
import Derived.Test.YtdlmgkncneifaaaGreatLCat
import Derived.Test.YtdlmgkncneifaaaGreatLChk
import Derived.Test.YtdlmgkncneifaaaGreatLnA
import Derived.Test.YtdlmgkncneifaaaGreatLnB
import Derived.Test.YtdlmgkncneifaaaGreatLnC
import Derived.Test.YtdlmgkncneifaaaGreatLnD
import Derived.BigQuiet
set_option linter.unusedVariables false
set_option linter.unusedSimpArgs false
namespace Go.Proofs.YtdlmgkncneifaaaGreat.Ln
open Go.RowKit Lb
attribute [local go_sem] bs_size bs_toList bs_append bs_get bs_extract

def labsG : Nat → List UInt8 → Except (List UInt8) (List Lab × List UInt8)
  | 0, r => .error r
  | n + 1, r => if namedB r 0 = true then match labE r with
      | .error q => .error q
      | .ok x => if skipB 44 x.2 = true then ahead [x.1] (labsG n (blR (skipR 44 x.2))) else .ok ([x.1], x.2)
    else .ok ([], r)
def labsE (r : List UInt8) : Except (List UInt8) (List Lab × List UInt8) := labsG ((blR r).length + 1) (blR r)
theorem name_len {r : List UInt8} {x : List UInt8 × List UInt8} (h : nameE r = .ok x) : x.2.length ≤ r.length := by
  unfold nameE at h
  split at h
  · cases h
  · cases h; show (r.drop _).length ≤ _; rw [List.length_drop]; omega
theorem must_len {c : UInt8} {r : List UInt8} {x : Unit × List UInt8} (h : mustL c r = .ok x) : x.2.length < r.length := by
  unfold mustL at h
  split at h
  · rename_i hs
    cases h
    exact skip_len hs
  · cases h
theorem bl_len (r : List UInt8) : (blR r).length ≤ r.length := (blR_suf r).length_le
theorem ahead_ok {α : Type} {a : List α} {o : Except (List UInt8) (List α × List UInt8)} {x : List α × List UInt8} (h : ahead a o = .ok x) : ∃ y, o = .ok y ∧ x = (a ++ y.1, y.2) := by
  cases o with
  | error q => cases h
  | ok y => cases h; exact ⟨y, rfl, rfl⟩
theorem valG_len : ∀ (n : Nat) {r : List UInt8} {x : List UInt8 × List UInt8}, valG n r = .ok x → x.2.length ≤ r.length
  | 0, r, x, h => by cases h
  | n + 1, r, x, h => by
    rw [valG] at h
    split at h
    · rename_i hs
      cases h
      exact Nat.le_of_lt (skip_len hs)
    · split at h
      · cases h
      · rename_i y hy
        obtain ⟨z, hz, rfl⟩ := ahead_ok h
        have h1 := valG_len n hz
        have h2 := vb_len hy
        show z.2.length ≤ _
        omega
theorem val_len {r : List UInt8} {x : List UInt8 × List UInt8} (h : valE r = .ok x) : x.2.length ≤ r.length := by
  unfold valE at h
  split at h
  · cases h
  · rename_i y hy
    have h1 := must_len hy
    have h2 := valG_len _ h
    omega
theorem lab_len {r : List UInt8} {x : Lab × List UInt8} (h : labE r = .ok x) : x.2.length < r.length := by
  unfold labE at h
  split at h
  · cases h
  · rename_i a ha
    split at h
    · cases h
    · rename_i b hb
      split at h
      · cases h
      · rename_i c hc
        cases h
        have h1 := name_len ha
        have h2 := must_len hb
        have h3 := val_len hc
        have h4 := bl_len a.2
        have h5 := bl_len b.2
        have h6 := bl_len c.2
        show (blR c.2).length < _
        omega
/-- What Labels comes to. -/
def labsAs (b f : Nat) (t : List UInt8) (o : Except (List UInt8) (List Lab × List UInt8)) (w : World) (e : Ending) (w' : World) : Prop :=
  KI b w w' ∧ match o with
    | .ok x => ∃ v, e = .returned v ∧ ownLabels w' w.heap.size v x.1 ∧ InL w' b t f x.2
    | .error r => e = gaveF 1 (pos t r)
set_option maxRecDepth 20000 in
set_option maxHeartbeats 1200000 in
theorem labels_any (w : World) (b f : Nat) (t r : List UInt8) (h : InL w b t f r) : Calls Tryz.prog 37 #[.pointer (some ⟨b, 0, none⟩)] w (labsAs b f t (labsE r) w) := by
  obtain ⟨i0, hi0, hz0, hz1, hz2⟩ := info_parts Tryz.infoL
  have S1 := hide (blanks_any w b f t r h)
  have HBW : Hid (b < w.heap.size) := hide (lt_of_block h.cell)
  obtain ⟨O, HO⟩ : ∃ O, Hid (labsE r = O) := ⟨_, hide rfl⟩
  rw [HO.out]
  clear h
  go_enter Tryz.func37, Tryz.ntmps37
  go_wp2_with fail
  refine S1.out.mono ?_
  rintro e w1 ⟨rfl, hk, hi⟩
  have HK1 := hide hk
  have HI1 := hide hi
  have HS1 : Hid (w.heap.size ≤ w1.heap.size) := hide hk.size
  have HL1 : Hid ((blR r).length ≤ 1000000) := hide (Nat.le_trans hi.suf.length_le hi.len)
  clear hk hi S1
  go_wp2
  go_loopw [3] (fun v wr => ∃ (acc : List Lab) (r' : List UInt8) (n : Nat), r'.length < n ∧ acc.length + r'.length ≤ 1000000 ∧ Hid (ahead acc (labsG n r') = O) ∧ Hid (InL wr b t f r') ∧ Hid (KI b w wr) ∧ Hid (ownLabels wr w.heap.size v acc)) (fun _ wr => match wr.heap[b]? with | some (.cells c _ _) => t.length - (intOf (c.getD 2 undef)).toNat | _ => 0)
  case atStart => exact ⟨[], blR r, (blR r).length + 1, by omega, by simpa using HL1.out, hide (by rw [ahead_nil]; exact HO.out), HI1, HK1, hide (World.ownsRow_nil _ _ _ _)⟩
  case round =>
    obtain ⟨acc, r', n, hn, hal, HA, HI, HK, HOW⟩ := hrel
    obtain ⟨so, sc, hsv⟩ := own_shape HOW.out
    subst hsv
    have hm : ∀ (W : World) (q : List UInt8), InL W b t f q → (match W.heap[b]? with | some (.cells c _ _) => t.length - (intOf (c.getD 2 undef)).toNat | _ => 0) = q.length := fun W q hq => by
      rw [hq.cell]
      have := suf_len hq.suf
      simp [intOf]
      omega
    have HM := hide hm
    have hnm := named_any wr b f t r' 0 HI.out.suf (Nat.zero_le _) HI.out
    obtain ⟨d0, d1, d2, y2⟩ := three_cells HI.out.cell
    obtain ⟨p, HP⟩ : ∃ p, Hid (pos t r' = p) := ⟨_, hide rfl⟩
    rw [HP.out] at hnm d2
    have S2 := hide hnm
    obtain ⟨m, rfl⟩ : ∃ m, n = m + 1 := ⟨n - 1, by omega⟩
    have ha := HA.out
    rw [labsG] at ha
    have far : ∀ W, KI b wr W → ownLabels W w.heap.size (.slice so acc.length sc) acc := fun W hW => own_keep HOW.out fun g hg => by
      have := HOW.out.lt g hg
      exact hW.block g this.2 (by have := HBW.out; omega)
    have FAR := hide far
    clear hm far hnm
    cases hs : namedB r' 0 with
    | false =>
      rw [hs] at S2 ha
      rw [if_neg (by simp)] at ha
      simp only [ahead, List.append_nil] at ha
      subst ha
      clear hs
      go_wp2_with fail
      refine S2.out.mono ?_
      rintro e w2 ⟨rfl, q, rfl⟩
      go_wp2
      go_ret
      exact ⟨HK.out.drewN q, _, rfl, FAR.out _ ((KI.refl _ _).drewN q), HI.out.drewN q⟩
    | true =>
      rw [hs] at S2 ha
      rw [if_pos rfl] at ha
      clear hs
      go_wp2_with fail
      refine S2.out.mono ?_
      rintro e w2 ⟨rfl, q, rfl⟩
      have S3 := hide (label_any (wr.drewN q) b f t r' (HI.out.drewN q))
      clear S2
      cases hv : labE r' with
      | error q' =>
        rw [hv] at S3 ha
        simp only [ahead] at ha
        subst ha
        clear hv
        go_wp2_with fail
        refine S3.out.mono ?_
        rintro e w3 ⟨hk3, rfl⟩
        exact ⟨rfl, (HK.out.drewN q).trans hk3, rfl⟩
      | ok y =>
        rw [hv] at S3 ha
        simp only at ha
        have hyl := lab_len hv
        have HAH := hide ha
        clear hv ha
        go_wp2_with fail
        refine S3.out.mono ?_
        rintro e w3 ⟨hk3, rfl, hi3⟩
        have HK3 : Hid (KI b w w3) := hide ((HK.out.drewN q).trans hk3)
        have HI3 := hide hi3
        have HO3 := hide (FAR.out w3 (((KI.refl _ _).drewN q).trans hk3))
        have HS3 : w.heap.size ≤ w3.heap.size := HK3.out.size
        clear hk3 hi3 S3
        go_wp2_with (at_builtin; refine wpList_append_own _ rfl _ _ 34 rfl w.heap.size 69 i0 _ 2 32 Tryz.underlying34 hi0 hz0 hz1 hz2 zeroLab (by omega) _ acc.length (labCells acc) rfl (own_grow HO3.out ((Grow.refl w3).alloc _)) ⟨w3.heap.size, 0, none⟩ 1 1 (labCells [y.1]) rfl (labCells_length [y.1]) (World.news_of_block (heap_alloc_new w3 _)) (labCells_one [y.1]) (by unfold maxLen; omega) (by omega) (by simp; omega) ?_; intro v' w4 hown' hgrow _; rw [← labCells_append] at hown')
        have HW4 : Hid (ownLabels w4 w.heap.size v' (acc ++ [y.1])) := hide (by unfold ownLabels; rw [List.length_append]; exact hown')
        have hne : (Value.slice so acc.length sc).ownBlock ≠ some b := fun e => by
          have h1 := (HO3.out.lt b e).1
          have := HBW.out
          omega
        have HK4 : Hid (KI b w w4) := hide ((HK3.out.trans (KI.grow ((Grow.refl w3).alloc _))).grown hgrow (fun k hk => (HO3.out.lt k hk).1))
        have HI4 : Hid (InL w4 b t f y.2) := hide ((HI3.out.grow ((Grow.refl w3).alloc _)).grown hgrow hne)
        obtain ⟨so', sc', hv'⟩ := own_shape HW4.out
        have S4 := hide (skip_any w4 b f t y.2 44 HI4.out)
        clear hown' hgrow hne
        subst hv'
        rw [List.length_append] at HW4 ⊢
        have HW5 : Hid (∀ W, KI b w4 W → ownLabels W w.heap.size (.slice so' (acc.length + [y.1].length) sc') (acc ++ [y.1])) := hide fun W hW => own_keep HW4.out fun g hg => by
          have := HW4.out.lt g hg
          exact hW.block g this.2 (by have := HBW.out; omega)
        cases hk : skipB 44 y.2 with
        | true =>
          rw [hk] at S4
          have ha := HAH.out
          rw [hk, if_pos rfl, ahead_ahead] at ha
          have HA2 := hide ha
          have hsl := skip_len hk
          have hbl := bl_len (skipR 44 y.2)
          clear hk ha
          go_wp2_with fail
          refine S4.out.mono ?_
          rintro e w5 ⟨rfl, hk5, hi5⟩
          have HK5 := hide hk5
          have S5 := hide (blanks_any w5 b f t _ hi5)
          clear hk5 hi5 S4
          go_wp2_with fail
          refine S5.out.mono ?_
          rintro e w6 ⟨rfl, hk6, hi6⟩
          have HK6 := hide (HK5.out.trans hk6)
          have HI6 := hide hi6
          clear hk6 hi6 S5
          go_wp2
          go_roundw
          case rel => exact ⟨acc ++ [y.1], _, m, by omega, by simp; omega, HA2, HI6, hide (HK4.out.trans HK6.out), hide (HW5.out _ HK6.out)⟩
          case measure => rw [HM.out _ _ HI6.out, HM.out _ _ HI.out]; omega
        | false =>
          rw [hk, skipB_no hk] at S4
          have ha := HAH.out
          rw [hk, if_neg (by simp)] at ha
          simp only [ahead] at ha
          subst ha
          clear hk
          go_wp2_with fail
          refine S4.out.mono ?_
          rintro e w5 ⟨rfl, hk5, hi5⟩
          have HK5 := hide hk5
          have HI5 := hide hi5
          clear hk5 hi5 S4
          go_wp2
          go_ret
          exact ⟨HK4.out.trans HK5.out, _, rfl, HW5.out _ HK5.out, HI5.out⟩
end Go.Proofs.YtdlmgkncneifaaaGreat.Ln
