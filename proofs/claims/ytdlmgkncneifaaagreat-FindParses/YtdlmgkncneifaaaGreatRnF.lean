/- The reference's lines of a text. -/
import Derived.Laws.OwnMore
import Derived.Maps.AppendAt
import Derived.Deep.Cut
import Derived.Deep.CutRange
import Derived.Deep.DeepCutAuto
import Derived.Deep.CutBlock
import Derived.Lib.IndexLaws
import Derived.Test.YtdlmgkncneifaaaGreatProg
import Derived.Test.YtdlmgkncneifaaaGreatKit
import Derived.Test.YtdlmgkncneifaaaGreatReg
import Derived.Test.YtdlmgkncneifaaaGreatLSpec
import Derived.Test.YtdlmgkncneifaaaGreatLRow
import Derived.Test.YtdlmgkncneifaaaGreatLnA
import Derived.Test.YtdlmgkncneifaaaGreatLnF
import Derived.Test.YtdlmgkncneifaaaGreatRnA
import Derived.Test.YtdlmgkncneifaaaGreatRnC
import Derived.BigQuiet
set_option linter.unusedVariables false
set_option linter.unusedSimpArgs false
namespace Go.Proofs.YtdlmgkncneifaaaGreat.Rn
open Go.RowKit Lb Ln
attribute [local go_sem] bs_size bs_toList bs_append bs_get bs_extract

/-- Where the lines of a text begin and end. -/
def linesR (s : List UInt8) : Nat → Nat → List (Nat × Nat)
  | 0, _ => []
  | n + 1, f => if f < s.length then (f, lineEnd s f) :: linesR s n (lineEnd s f + 1) else []
theorem lineEnd_is {s : List UInt8} {f e : Nat} (hf : f ≤ e) (he : e ≤ s.length) (hb : ∀ j (hj : j < s.length), f ≤ j → j < e → s[j] ≠ 10) (hs : e = s.length ∨ ∃ h : e < s.length, s[e] = 10) : lineEnd s f = e := by
  have hge := Lib.indexByte_ge (s.drop f) 10
  have hget : ∀ k, (s.drop f)[k]? = s[f + k]? := fun k => List.getElem?_drop
  unfold lineEnd
  split
  · rename_i h0
    obtain ⟨o, ho⟩ : ∃ o : Nat, Lib.indexByte (s.drop f) 10 = (o : Int) := ⟨(Lib.indexByte (s.drop f) 10).toNat, by omega⟩
    rw [ho]
    obtain ⟨h1, h2⟩ := Lib.indexByte_some ho
    rw [hget] at h1
    obtain ⟨h3, h4⟩ := List.getElem?_eq_some_iff.1 h1
    have h5 : e ≤ f + o := by
      rcases Nat.lt_or_ge (f + o) e with h | h
      · exact absurd h4 (hb _ h3 (by omega) h)
      · exact h
    show f + ((o : Int)).toNat = e
    rw [Int.toNat_natCast]
    rcases hs with hs | ⟨hs, hse⟩
    · omega
    · rcases Nat.lt_or_ge (e - f) o with h | h
      · refine absurd ?_ (h2 (e - f) h)
        rw [hget, show f + (e - f) = e by omega, List.getElem?_eq_getElem hs, hse]
      · omega
  · rename_i h0
    have h1 : Lib.indexByte (s.drop f) 10 = -1 := by omega
    rcases hs with hs | ⟨hs, hse⟩
    · exact hs.symm
    · refine absurd ?_ (Lib.indexByte_none h1 (e - f))
      rw [hget, show f + (e - f) = e by omega, List.getElem?_eq_getElem hs, hse]
/-- A line's two places, in cells of their own. -/
def pairAt (w : World) (B : Nat) (row : Option Nat) (u : Value) (p : Nat × Nat) : Prop := ∃ z, u = .slice (some ⟨z, 0, none⟩) 2 2 ∧ B ≤ z ∧ row ≠ some z ∧ w.heap[z]? = some (.cells #[.int .i64 (p.1 : Int), .int .i64 (p.2 : Int)] 3 (0, 0))
/-- A row of lines. -/
def rowL (w : World) (B : Nat) (v : Value) (L : List (Nat × Nat)) : Prop := ∃ us : List Value, us.length = L.length ∧ w.ownsRow B 56 1 v L.length us ∧ ∀ (i : Nat) (h : i < us.length) (h2 : i < L.length), pairAt w B v.ownBlock us[i] L[i]
theorem rowL.more {w Y w8 : World} {B : Nat} {v v8 u : Value} {us : List Value} {L : List (Nat × Nat)} {p : Nat × Nat} (hul : us.length = L.length) (hrow : w.ownsRow B 56 1 v L.length us) (hp : ∀ (i : Nat) (h : i < us.length) (h2 : i < L.length), pairAt w B v.ownBlock us[i] L[i])
    (hY : Grow w Y) (hB : B ≤ w.heap.size) (hu : u = .slice (some ⟨w.heap.size, 0, none⟩) 2 2) (hc : Y.heap[w.heap.size]? = some (.cells #[.int .i64 (p.1 : Int), .int .i64 (p.2 : Int)] 3 (0, 0)))
    (hg : Y.grownBy w8 v.ownBlock) (hown : w8.ownsRow B 56 1 v8 (L.length + 1) (us ++ [u])) (hat : v8.ownBlock = v.ownBlock ∨ v8.ownBlock = some Y.heap.size) : rowL w8 B v8 (L ++ [p]) := by
  have hfar : ∀ z, z < Y.heap.size → v.ownBlock ≠ some z → v8.ownBlock ≠ some z := fun z hz hne e => by
    rcases hat with h | h
    · exact hne (h ▸ e)
    · rw [h] at e; have := Option.some.inj e; omega
  refine ⟨us ++ [u], by simp [hul], by rw [List.length_append]; exact hown, fun i h h2 => ?_⟩
  rw [List.length_append, List.length_singleton] at h h2
  by_cases hi : i < us.length
  · obtain ⟨z, h3, h4, h5, h6⟩ := hp i hi (by omega)
    have hzw := lt_of_block h6
    have h7 := hY.get h6
    refine ⟨z, ?_, h4, hfar z (lt_of_block h7) h5, ?_⟩
    · rw [List.getElem_append_left hi]; exact h3
    · rw [List.getElem_append_left (by omega)]
      exact (hg.block z (lt_of_block h7) (fun e => h5 e.symm)).trans h7
  · have hi2 : i = us.length := by omega
    subst hi2
    have h5 : v.ownBlock ≠ some w.heap.size := fun e => by have := (hrow.lt _ e).2; omega
    refine ⟨w.heap.size, ?_, hB, hfar _ (lt_of_block hc) h5, ?_⟩
    · rw [List.getElem_append_right (Nat.le_refl _)]; simpa using hu
    · have : (L ++ [p])[us.length]'(by simp; omega) = p := by
        simp only [hul]
        simp
      rw [this]
      exact (hg.block _ (lt_of_block hc) (fun e => h5 e.symm)).trans hc
theorem infoLL : (Tryz.prog.info? 56).map (fun i => (i.zero, i.size, i.bytes)) = some (some (.slice none 0 0), 1, 24) := by kernel_rfl
set_option maxRecDepth 20000 in
set_option maxHeartbeats 1600000 in
theorem rlines_any (w : World) (s : List UInt8) (hs : s.length ≤ 20000) :
    Calls Tryz.prog 23 #[.string (bs s)] w fun o w' => ∃ v, o = .returned v ∧ rowL w' w.heap.size v (linesR s (s.length + 1) 0) ∧ Grow w w' := by
  obtain ⟨i0, hi0, hz0, hz1, hz2⟩ := info_parts infoLL
  obtain ⟨O, HO⟩ : ∃ O, Hid (linesR s (s.length + 1) 0 = O) := ⟨_, hide rfl⟩
  rw [HO.out]
  go_enter Tryz.func23, Tryz.ntmps23
  go_wp2
  go_loopw [3, 4] (fun v fv wr => ∃ (acc : List (Nat × Nat)) (f n : Nat), fv = .int .i64 f ∧ f ≤ s.length + 1 ∧ s.length < f + n ∧ acc.length ≤ f ∧ Hid (acc ++ linesR s n f = O) ∧ Hid (rowL wr w.heap.size v acc) ∧ Hid (Grow w wr)) (fun _ fv _ => s.length + 1 - (intOf fv).toNat)
  case atStart => exact ⟨[], 0, s.length + 1, rfl, by omega, by omega, by simp, hide HO.out, hide ⟨[], rfl, World.ownsRow_nil _ _ _ _, fun i h => absurd h (by simp)⟩, hide (Grow.refl _)⟩
  case round =>
    obtain ⟨acc, f, n, rfl, hf, hn, hac, HA, HRW, HG⟩ := hrel
    obtain ⟨us, hul, hrow, hpr⟩ := HRW.out
    obtain ⟨so, sc, hsv⟩ := own_shape hrow
    subst hsv
    have HROW := hide hrow
    have HPR := hide hpr
    clear hrow hpr HRW
    have ha := HA.out
    rename World => wo
    by_cases hlt : f < s.length
    · have hli : (f : Int) < (s.length : Int) := by omega
      obtain ⟨m, rfl⟩ : ∃ m, n = m + 1 := ⟨n - 1, by omega⟩
      rw [linesR, if_pos hlt] at ha
      have HAH := hide ha
      have hle := lineEnd_le (s := s) (f := f) (by omega)
      obtain ⟨E, HE⟩ : ∃ E, Hid (lineEnd s f = E) := ⟨_, hide rfl⟩
      rw [HE.out] at HAH hle
      clear ha
      go_upto_block 2 with fail
      go_cut [5] from 11 to 22 (fun ev wx => ev = .int .i64 E ∧ ∃ q, wx = wo.drewN q)
      case first =>
        go_wp2
        go_loopw [5] (fun ev wr => ∃ (e q : Nat), ev = .int .i64 e ∧ f ≤ e ∧ e ≤ s.length ∧ Hid (∀ j (hj : j < s.length), f ≤ j → j < e → s[j] ≠ 10) ∧ wr = wo.drewN q) (fun ev _ => s.length - (intOf ev).toNat)
        case atStart => exact ⟨f, 0, rfl, Nat.le_refl _, by omega, hide (fun j hj h1 h2 => by omega), rfl⟩
        case round =>
          obtain ⟨e, q, rfl, hfe, hes, HB, rfl⟩ := hrel
          by_cases hel : e < s.length
          · have helt : (e : Int) < (s.length : Int) := by omega
            have hed : decide ((e : Int) < (s.length : Int)) = true := decide_eq_true helt
            obtain ⟨c, hc⟩ : ∃ c, s[e] = c := ⟨_, rfl⟩
            by_cases h10 : c.toNat = 10
            · obtain rfl : c = 10 := UInt8.toNat_inj.1 h10
              have hE : E = e := by rw [← HE.out]; exact lineEnd_is hfe hes HB.out (.inr ⟨hel, hc⟩)
              subst hE
              clear h10
              go_wp2
              go_meet
              exact ⟨rfl, _, rfl⟩
            · have hx10 : ((c.toNat : Int) == 10) = false := byte_ne h10
              have hne : c ≠ 10 := fun e => h10 (by rw [e]; rfl)
              have HB2 : Hid (∀ j (hj : j < s.length), f ≤ j → j < e + 1 → s[j] ≠ 10) := hide (fun j hj h1 h2 => by
                by_cases hj2 : j = e
                · subst hj2; rw [hc]; exact hne
                · exact HB.out j hj h1 (by omega))
              go_wp2
              go_roundw
              case rel => exact ⟨e + 1, _, by go_num, by omega, by omega, HB2, rfl⟩
              case measure => simp [intOf]; omega
          · have helt : ¬ (e : Int) < (s.length : Int) := by omega
            have hed : decide ((e : Int) < (s.length : Int)) = false := decide_eq_false helt
            have hE : E = e := by rw [← HE.out]; exact lineEnd_is hfe hes HB.out (.inl (by omega))
            subst hE
            go_wp2
            go_meet
            exact ⟨rfl, _, rfl⟩
      case rest =>
      obtain ⟨rfl, q, rfl⟩ := hcut
      have HGq : Hid (Grow wo (wo.drewN q)) := hide (⟨rfl, rfl, rfl, Nat.le_refl _, fun _ _ => rfl⟩)
      have hsz : w.heap.size ≤ wo.heap.size := HG.out.size
      have hcn : ∀ q j u, ([Value.slice (some ⟨wo.heap.size, 0, none⟩) 2 2] : List Value)[j]? = some u → (((wo.drewN q).alloc (.cells #[.int .i64 (f : Int), .int .i64 (E : Int)] 3)).alloc (.cells #[.slice (some ⟨wo.heap.size, 0, none⟩) 2 2] 56)).cell? ((⟨wo.heap.size + 1, 0, none⟩ : Addr).add j) = some u := fun q j u hj => by
        cases j with
        | zero =>
          cases hj
          have h6 := heap_alloc_new ((wo.drewN q).alloc (.cells #[.int .i64 (f : Int), .int .i64 (E : Int)] 3)) (.cells #[.slice (some ⟨wo.heap.size, 0, none⟩) 2 2] 56)
          have h7 : ∀ (W : World) (b : Nat) (x : Value) (t : TypeId), W.heap[b]? = some (.cells #[x] t (0, 0)) → W.cell? ⟨b, 0, none⟩ = some x := fun W b x t h => by simp [World.cell?, h]
          exact h7 _ _ _ _ (by simpa using h6)
        | succ j => cases hj
      go_wp2_with (at_builtin; refine wpList_append_own_at _ rfl _ _ 53 rfl w.heap.size 56 i0 _ 1 24 Tryz.underlying53 hi0 hz0 hz1 hz2 rfl (by decide) (.slice so acc.length sc) acc.length us rfl (own_grow HROW.out ((HGq.out.alloc _).alloc _)) ⟨wo.heap.size + 1, 0, none⟩ 1 1 [.slice (some ⟨wo.heap.size, 0, none⟩) 2 2] rfl rfl (hcn q) (by intro u hu; rw [List.mem_singleton] at hu; rw [hu]; rfl) (by unfold maxLen; omega) (by omega) (by simp; omega) ?_; intro v8 w8 hown8 hgrow8 _ hat8)
      have hnew : ((wo.drewN q).alloc (.cells #[.int .i64 (f : Int), .int .i64 (E : Int)] 3)).heap[wo.heap.size]? = some (.cells #[.int .i64 (f : Int), .int .i64 (E : Int)] 3 (0, 0)) := heap_alloc_new (wo.drewN q) _
      have HGY : Hid (Grow wo (((wo.drewN q).alloc (.cells #[.int .i64 (f : Int), .int .i64 (E : Int)] 3)).alloc (.cells #[.slice (some ⟨wo.heap.size, 0, none⟩) 2 2] 56))) := hide ((HGq.out.alloc _).alloc _)
      have HROW8 : Hid (rowL w8 w.heap.size v8 (acc ++ [(f, E)])) := hide (rowL.more (p := (f, E)) hul HROW.out HPR.out HGY.out hsz rfl (((Grow.refl _).alloc _).get hnew) hgrow8 hown8 hat8)
      have HG8 : Hid (Grow w w8) := hide (Below.trans (HG.out.trans HGY.out) ((Below.refl _ _).grown hgrow8 (by simp; omega) (fun k hk => (HROW.out.lt k hk).1)))
      exact ⟨⟨acc ++ [(f, E)], E + 1, m, by go_num, by omega, by omega, by simp; omega, hide (by rw [List.append_assoc]; exact HAH.out), HROW8, HG8⟩, by simp [intOf]; omega⟩
    · have hO : O = acc := by
        rw [← ha]
        cases n with
        | zero => simp [linesR]
        | succ n => rw [linesR, if_neg hlt, List.append_nil]
      subst hO
      have hli : ¬ (f : Int) < (s.length : Int) := by omega
      go_wp2
      go_ret
      exact ⟨_, rfl, ⟨us, hul, HROW.out, HPR.out⟩, HG.out⟩
end Go.Proofs.YtdlmgkncneifaaaGreat.Rn
