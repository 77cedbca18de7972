/- line: value, label, Labels. -/
import Derived.Laws.OwnMore
import Derived.Deep.AppendLies
import Derived.Test.YtdlmgkncneifaaaGreatProg
import Derived.Test.YtdlmgkncneifaaaGreatKit
import Derived.Test.YtdlmgkncneifaaaGreatReg
import Derived.Test.YtdlmgkncneifaaaGreatLSpec
import Derived.Test.YtdlmgkncneifaaaGreatLRow
import Derived.Test.YtdlmgkncneifaaaGreatLCat
import Derived.Test.YtdlmgkncneifaaaGreatLChk
import Derived.Test.YtdlmgkncneifaaaGreatLnA
import Derived.Test.YtdlmgkncneifaaaGreatLnB
import Derived.Test.YtdlmgkncneifaaaGreatLnC
import Derived.BigQuiet
set_option linter.unusedVariables false
set_option linter.unusedSimpArgs false
namespace Go.Proofs.YtdlmgkncneifaaaGreat.Ln
open Go.RowKit Lb
attribute [local go_sem] bs_size bs_toList bs_append bs_get bs_extract

/-- What was made, ahead of what is made. -/
def ahead {α : Type} (a : List α) : Except (List UInt8) (List α × List UInt8) → Except (List UInt8) (List α × List UInt8)
  | .ok (s, q) => .ok (a ++ s, q)
  | .error q => .error q
theorem ahead_nil {α : Type} (o : Except (List UInt8) (List α × List UInt8)) : ahead [] o = o := by
  cases o with
  | ok x => rfl
  | error q => rfl
theorem ahead_ahead {α : Type} (a b : List α) (o : Except (List UInt8) (List α × List UInt8)) : ahead a (ahead b o) = ahead (a ++ b) o := by
  cases o with
  | ok x => simp [ahead]
  | error q => rfl
/-- Bytes of a value, up to its end. -/
def valG : Nat → List UInt8 → Except (List UInt8) (List UInt8 × List UInt8)
  | 0, r => .error r
  | n + 1, r => if skipB 34 r = true then .ok ([], skipR 34 r) else match vbE r with
    | .error q => .error q
    | .ok x => ahead [x.1] (valG n x.2)
def valE (r : List UInt8) : Except (List UInt8) (List UInt8 × List UInt8) := match mustL 34 r with
  | .error q => .error q
  | .ok x => valG (x.2.length + 1) x.2
theorem next_len {r : List UInt8} {x : UInt8 × List UInt8} (h : nextE r = .ok x) : x.2.length < r.length := by
  cases r with
  | nil => cases h
  | cons c r => cases h; simp
theorem skip_len {c : UInt8} {r : List UInt8} (h : skipB c r = true) : (skipR c r).length < r.length := by
  have := congrArg List.length (skipB_yes h)
  rw [List.length_cons] at this
  omega
theorem vb_len {r : List UInt8} {x : UInt8 × List UInt8} (h : vbE r = .ok x) : x.2.length < r.length := by
  unfold vbE at h
  split at h
  · rename_i hs
    have h1 := skip_len hs
    split at h
    · cases h
    · rename_i c q hq
      rw [hq, List.length_cons] at h1
      split at h
      · cases h; show q.length < r.length; omega
      · split at h
        · cases h; show q.length < r.length; omega
        · cases h
  · exact next_len h
theorem KI.grown {b : Nat} {a w w' : World} {row : Option Nat} (h : KI b a w) (hg : w.grownBy w' row) (hr : ∀ k, row = some k → a.heap.size ≤ k) : KI b a w' :=
  ⟨hg.os.trans h.os, hg.tape.trans h.tape, hg.output.trans h.output, Nat.le_trans h.size hg.size, fun k hk hn => (hg.block k (Nat.lt_of_lt_of_le hk h.size) (fun e => by have := hr k e.symm; omega)).trans (h.block k hk hn)⟩
theorem InL.grown {w w' : World} {b f : Nat} {t r : List UInt8} {row : Option Nat} (h : InL w b t f r) (hg : w.grownBy w' row) (hr : row ≠ some b) : InL w' b t f r := ⟨h.suf, h.len, h.fir, grown_block hg h.cell hr⟩
theorem infoB : (Tryz.prog.info? 5).map (fun i => (i.zero, i.size, i.bytes)) = some (some (.int .u8 0), 1, 1) := by kernel_rfl
set_option maxRecDepth 20000 in
set_option maxHeartbeats 1200000 in
theorem value_any (w : World) (b f : Nat) (t r : List UInt8) (h : InL w b t f r) : Calls Tryz.prog 73 #[.pointer (some ⟨b, 0, none⟩)] w (lineAs b f t (fun s => .string (bs s)) (valE r) w) := by
  obtain ⟨i0, hi0, hz0, hz1, hz2⟩ := info_parts infoB
  have S1 := hide (must_any w b f t r 34 h)
  have HBW : Hid (b < w.heap.size) := hide (lt_of_block h.cell)
  obtain ⟨O, HO⟩ : ∃ O, Hid (valE r = O) := ⟨_, hide rfl⟩
  rw [HO.out]
  have hO := HO.out
  unfold valE at hO
  cases hm : mustL 34 r with
  | error q =>
    rw [hm] at S1 hO
    simp only at hO
    subst hO
    clear h hm
    go_enter Tryz.func73, Tryz.ntmps73
    go_wp2_with fail
    refine S1.out.mono ?_
    rintro e w1 ⟨hk, rfl⟩
    exact ⟨rfl, hk, rfl⟩
  | ok x =>
    rw [hm] at S1 hO
    simp only at hO
    have HO1 := hide hO
    clear h hm hO
    go_enter Tryz.func73, Tryz.ntmps73
    go_wp2_with fail
    refine S1.out.mono ?_
    rintro e w1 ⟨hk, rfl, hi⟩
    have HK1 := hide hk
    have HI1 := hide hi
    have HS1 : Hid (w.heap.size ≤ w1.heap.size) := hide hk.size
    have HL1 : Hid (x.2.length ≤ 1000000) := hide (Nat.le_trans hi.suf.length_le hi.len)
    clear hk hi S1
    go_wp2
    go_loopw [3] (fun v wr => ∃ (acc r' : List UInt8) (n : Nat), r'.length < n ∧ acc.length + r'.length ≤ 1000000 ∧ Hid (ahead acc (valG n r') = O) ∧ Hid (InL wr b t f r') ∧ Hid (KI b w1 wr) ∧ Hid (wr.ownsRow w1.heap.size 5 1 v acc.length (bytesV acc))) (fun _ wr => match wr.heap[b]? with | some (.cells c _ _) => t.length - (intOf (c.getD 2 undef)).toNat | _ => 0)
    case atStart => exact ⟨[], x.2, x.2.length + 1, by omega, by simpa using HL1.out, hide (by rw [ahead_nil]; exact HO1.out), HI1, hide (KI.refl _ _), hide (World.ownsRow_nil _ _ _ _)⟩
    case round =>
      obtain ⟨acc, r', n, hn, hal, HA, HI, HK, HOW⟩ := hrel
      obtain ⟨so, sc, hsv⟩ := own_shape HOW.out
      subst hsv
      have hm : ∀ (W : World) (q : List UInt8), InL W b t f q → (match W.heap[b]? with | some (.cells c _ _) => t.length - (intOf (c.getD 2 undef)).toNat | _ => 0) = q.length := fun W q hq => by
        rw [hq.cell]
        have := suf_len hq.suf
        simp [intOf]
        omega
      have HM := hide hm
      have S2 := hide (skip_any wr b f t r' 34 HI.out)
      obtain ⟨m, rfl⟩ : ∃ m, n = m + 1 := ⟨n - 1, by omega⟩
      have ha := HA.out
      rw [valG] at ha
      have far : ∀ W, KI b wr W → W.ownsRow w1.heap.size 5 1 (.slice so acc.length sc) acc.length (bytesV acc) := fun W hW => own_keep HOW.out fun g hg => by
        have := HOW.out.lt g hg
        exact hW.block g this.2 (by have := HBW.out; have := HS1.out; omega)
      have FAR := hide far
      clear hm far
      cases hs : skipB 34 r' with
      | true =>
        rw [hs] at S2 ha
        rw [if_pos rfl] at ha
        simp only [ahead, List.append_nil] at ha
        subst ha
        clear hs
        go_wp2_with fail
        refine S2.out.mono ?_
        rintro e w2 ⟨rfl, hk2, hi2⟩
        have HK2 := hide (HK1.out.trans (HK.out.trans hk2))
        have HI2 := hide hi2
        have hcv := run_bytesStr (P := Tryz.prog) Tryz.underlying91 Tryz.underlying5 Tryz.underlying9 (FAR.out w2 hk2)
        clear hk2 hi2 S2
        go_wp2
        go_ret
        exact ⟨HK2.out, rfl, HI2.out⟩
      | false =>
        rw [hs] at ha
        rw [hs, skipB_no hs] at S2
        rw [if_neg (by simp)] at ha
        clear hs
        go_wp2_with fail
        refine S2.out.mono ?_
        rintro e w2 ⟨rfl, hk2, hi2⟩
        have HK2 := hide hk2
        have S3 := hide (valueByte_any w2 b f t r' hi2)
        clear hk2 hi2 S2
        cases hv : vbE r' with
        | error q =>
          rw [hv] at S3 ha
          simp only [ahead] at ha
          subst ha
          clear hv
          go_wp2_with fail
          refine S3.out.mono ?_
          rintro e w3 ⟨hk3, rfl⟩
          exact ⟨rfl, HK1.out.trans (HK.out.trans (HK2.out.trans hk3)), rfl⟩
        | ok y =>
          rw [hv] at S3 ha
          simp only [ahead_ahead] at ha
          have HA2 := hide ha
          have hyl := vb_len hv
          clear hv ha
          go_wp2_with fail
          refine S3.out.mono ?_
          rintro e w3 ⟨hk3, rfl, hi3⟩
          have HK3 : Hid (KI b wr w3) := hide (HK2.out.trans hk3)
          have HI3 := hide hi3
          have HO3 := hide (FAR.out w3 (HK2.out.trans hk3))
          have HB3 : Hid (b < w3.heap.size) := hide (lt_of_block hi3.cell)
          have HS3 : w1.heap.size ≤ w3.heap.size := (HK.out.trans (HK2.out.trans hk3)).size
          clear hk3 hi3 S3
          go_wp2_with (at_builtin; refine wpList_append_own _ rfl _ _ 91 rfl w1.heap.size 5 i0 (.int .u8 0) 1 1 Tryz.underlying91 hi0 hz0 hz1 hz2 rfl (by decide) _ acc.length (bytesV acc) rfl (own_grow HO3.out ((Grow.refl w3).alloc _)) ⟨w3.heap.size, 0, none⟩ 1 1 (bytesV [y.1]) rfl rfl (World.news_of_block (heap_alloc_new w3 _)) (bytesV_oneCell _) (by unfold maxLen; omega) (by omega) (by simp; omega) ?_; intro v' w4 hown' hgrow _; rw [← bytesV_append] at hown')
          have HW4 := hide hown'
          have hne : (Value.slice so acc.length sc).ownBlock ≠ some b := fun e => by
            have h1 := (HO3.out.lt b e).1
            have := HBW.out; have := HS1.out
            omega
          have HK4 : Hid (KI b w1 w4) := hide (((HK.out.trans HK3.out).trans (KI.grow ((Grow.refl w3).alloc _))).grown hgrow (fun k hk => (HO3.out.lt k hk).1))
          have HI4 : Hid (InL w4 b t f y.2) := hide ((HI3.out.grow ((Grow.refl w3).alloc _)).grown hgrow hne)
          clear hown' hgrow hne
          go_wp2
          go_roundw
          case rel => exact ⟨acc ++ [y.1], y.2, m, by omega, by simp; omega, HA2, HI4, HK4, hide (by rw [List.length_append]; exact HW4.out)⟩
          case measure => rw [HM.out _ _ HI4.out, HM.out _ _ HI.out]; exact hyl
/-- A label, and the blanks behind it. -/
def labE (r : List UInt8) : Except (List UInt8) (Lab × List UInt8) := match nameE r with
  | .error q => .error q
  | .ok x => match mustL 61 (blR x.2) with
    | .error q => .error q
    | .ok y => match valE (blR y.2) with
      | .error q => .error q
      | .ok z => .ok ((x.1, z.1), blR z.2)
theorem infoLs : (Tryz.prog.info? 69).map (·.size) = some 2 := by kernel_rfl
theorem KI.setNew {b : Nat} {a w : World} (h : KI b a w) {g : Nat} (hg : a.heap.size ≤ g) (i : Nat) (u : Value) : KI b a (w.setCell ⟨g, i, none⟩ u) :=
  ⟨h.os, h.tape, h.output, by simpa [World.setCell] using h.size, fun k hk hn => (Below.heap_setCell w ⟨g, i, none⟩ u k (by show k ≠ g; omega)).trans (h.block k hk hn)⟩
theorem InL.setOther {w : World} {b f : Nat} {t r : List UInt8} (h : InL w b t f r) {g : Nat} (hg : b ≠ g) (i : Nat) (u : Value) : InL (w.setCell ⟨g, i, none⟩ u) b t f r := ⟨h.suf, h.len, h.fir, (Below.heap_setCell w ⟨g, i, none⟩ u b hg).trans h.cell⟩
theorem two_free {w : World} {b : Nat} {x y : Value} {t : TypeId} (h : w.heap[b]? = some (.cells #[x, y] t (0, 0))) : w.cell? ⟨b, 0, none⟩ = some x ∧ w.cell? ⟨b, 1, none⟩ = some y ∧ w.frozen? ⟨b, 0, none⟩ = false ∧ w.frozen? ⟨b, 1, none⟩ = false := by simp [World.cell?, World.frozen?, h]
set_option maxRecDepth 20000 in
set_option maxHeartbeats 1200000 in
theorem label_any (w : World) (b f : Nat) (t r : List UInt8) (h : InL w b t f r) : Calls Tryz.prog 54 #[.pointer (some ⟨b, 0, none⟩)] w (lineAs b f t (fun x => .agg #[.string (bs x.1), .string (bs x.2)]) (labE r) w) := by
  obtain ⟨V, HV⟩ : ∃ V, Hid (w.alloc (.cells #[.string { data := #[] }, .string { data := #[] }] 69) = V) := ⟨_, hide rfl⟩
  have hgV : Grow w V := by rw [← HV.out]; exact (Grow.refl w).alloc _
  have hbV : V.heap[w.heap.size]? = some (.cells #[.string { data := #[] }, .string { data := #[] }] 69 (0, 0)) := by rw [← HV.out]; exact heap_alloc_new _ _
  have HBV := hide hbV
  have HBW : Hid (b < w.heap.size) := hide (lt_of_block h.cell)
  have HK0 : Hid (KI b w V) := hide (KI.grow hgV)
  have S1 := hide (name_any V b f t r (h.grow hgV))
  obtain ⟨O, HO⟩ : ∃ O, Hid (labE r = O) := ⟨_, hide rfl⟩
  rw [HO.out]
  have hO := HO.out
  unfold labE at hO
  clear h hgV hbV
  cases h1 : nameE r with
  | error q =>
    rw [h1] at S1 hO
    simp only at hO
    subst hO
    clear h1
    go_enter Tryz.func54, Tryz.ntmps54
    go_wp2_with fail
    rw [HV.out]
    refine S1.out.mono ?_
    rintro e w1 ⟨hk, rfl⟩
    exact ⟨rfl, HK0.out.trans hk, rfl⟩
  | ok x =>
    rw [h1] at S1 hO
    simp only at hO
    clear h1
    go_enter Tryz.func54, Tryz.ntmps54
    go_wp2_with fail
    rw [HV.out]
    refine S1.out.mono ?_
    rintro e w1 ⟨hk, rfl, hi⟩
    have HK1 := hide hk
    have S2 := hide (blanks_any w1 b f t x.2 hi)
    clear hk hi S1
    go_wp2_with fail
    refine S2.out.mono ?_
    rintro e w2 ⟨rfl, hk, hi⟩
    have HK2 := hide (HK1.out.trans hk)
    have S3 := hide (must_any w2 b f t _ 61 hi)
    clear hk hi S2
    cases h2 : mustL 61 (blR x.2) with
    | error q =>
      rw [h2] at S3 hO
      simp only at hO
      subst hO
      clear h2
      go_wp2_with fail
      refine S3.out.mono ?_
      rintro e w3 ⟨hk, rfl⟩
      exact ⟨rfl, HK0.out.trans (HK2.out.trans hk), rfl⟩
    | ok y =>
      rw [h2] at S3 hO
      simp only at hO
      clear h2
      go_wp2_with fail
      refine S3.out.mono ?_
      rintro e w3 ⟨hk, rfl, hi⟩
      have HK3 := hide (HK2.out.trans hk)
      have S4 := hide (blanks_any w3 b f t _ hi)
      clear hk hi S3
      go_wp2_with fail
      refine S4.out.mono ?_
      rintro e w4 ⟨rfl, hk, hi⟩
      have HK4 := hide (HK3.out.trans hk)
      have S5 := hide (value_any w4 b f t _ hi)
      clear hk hi S4
      cases h3 : valE (blR y.2) with
      | error q =>
        rw [h3] at S5 hO
        simp only at hO
        subst hO
        clear h3
        go_wp2_with fail
        refine S5.out.mono ?_
        rintro e w5 ⟨hk, rfl⟩
        exact ⟨rfl, HK0.out.trans (HK4.out.trans hk), rfl⟩
      | ok z =>
        rw [h3] at S5 hO
        simp only at hO
        subst hO
        clear h3
        go_wp2_with fail
        refine S5.out.mono ?_
        rintro e w5 ⟨hk, rfl, hi⟩
        have HK5 := hide (HK4.out.trans hk)
        have S6 := hide (blanks_any w5 b f t _ hi)
        clear hk hi S5
        go_wp2_with fail
        refine S6.out.mono ?_
        rintro e w6 ⟨rfl, hk, hi⟩
        have HK6 := hide (HK5.out.trans hk)
        have HI6 := hide hi
        have hb6 := HK6.out.get HBV.out (by have := HBW.out; omega)
        obtain ⟨d0, d1, y0, y1⟩ := two_free hb6
        have HB6 := hide hb6
        clear hk hi S6 hb6
        go_wp2
        have hne : b ≠ w.heap.size := by have := HBW.out; omega
        have hc : ((w6.setCell ⟨w.heap.size, 0, none⟩ (.string (bs x.1))).setCell ⟨w.heap.size, 1, none⟩ (.string (bs z.1))).heap[w.heap.size]? = some (.cells #[.string (bs x.1), .string (bs z.1)] 69 (0, 0)) := by simp [World.setCell, Array.getElem?_modify, HB6.out]
        refine bodyPost_ret (v := .agg #[.string (bs x.1), .string (bs z.1)]) (results_cell_row (p := 2) (ty := 69) rfl _ _ w.heap.size _ _ _ _ rfl hc Tryz.underlying69 rfl infoLs) rfl ⟨?_, rfl, ?_⟩
        · exact ((HK0.out.trans HK6.out).setNew (Nat.le_refl _) 0 _).setNew (Nat.le_refl _) 1 _
        · exact (HI6.out.setOther hne 0 _).setOther hne 1 _
end Go.Proofs.YtdlmgkncneifaaaGreat.Ln
