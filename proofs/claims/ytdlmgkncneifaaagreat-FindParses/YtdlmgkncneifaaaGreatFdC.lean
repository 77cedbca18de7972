/- find: the reference's SameTargets. -/
import Derived.Laws.OwnMore
import Derived.Test.YtdlmgkncneifaaaGreatProg
import Derived.Test.YtdlmgkncneifaaaGreatKit
import Derived.Test.YtdlmgkncneifaaaGreatReg
import Derived.Test.YtdlmgkncneifaaaGreatLSpec
import Derived.Test.YtdlmgkncneifaaaGreatLRow
import Derived.Test.YtdlmgkncneifaaaGreatLRefB
import Derived.Test.YtdlmgkncneifaaaGreatFdA
import Derived.BigQuiet
set_option linter.unusedVariables false
set_option linter.unusedSimpArgs false
namespace Go.Proofs.YtdlmgkncneifaaaGreat.Fd
open Go.RowKit Lb
attribute [local go_sem] bs_size bs_toList bs_append bs_get bs_extract

set_option maxRecDepth 20000 in
set_option maxHeartbeats 1000000 in
theorem sameTgts_any (w : World) (va vb : Value) (a b : List Tgt) (ha : readsTgts w w.heap.size va a) (hb : readsTgts w w.heap.size vb b) (la : a.length ≤ 1000000) (hal : ∀ x ∈ a, x.length ≤ 1000000) (hbl : ∀ x ∈ b, x.length ≤ 9223372036854775807) :
    Calls Tryz.prog 8 #[va, vb] w fun e w' => e = .returned (.bool (decide (a = b))) ∧ Grow w w' := by
  obtain ⟨ao, ac, rfl, _, acells⟩ := ha
  obtain ⟨bo, bc, rfl, _, bcells⟩ := hb
  have HA := hide hal
  have HB := hide hbl
  have HAC := hide acells
  have HBC := hide bcells
  clear hal hbl acells bcells
  obtain ⟨D, HD⟩ : ∃ D, Hid (decide (a = b) = D) := ⟨_, hide rfl⟩
  rw [HD.out]
  go_enter Tryz.func8, Tryz.ntmps8
  by_cases hn : a.length = b.length
  · have hne : ((a.length : Int) != (b.length : Int)) = false := by simp [hn]
    obtain ⟨n, HN⟩ : ∃ n, Hid (a.length = n) := ⟨_, hide rfl⟩
    have HN2 : Hid (b.length = n) := hide (hn.symm.trans HN.out)
    clear hn
    rw [HN.out] at la hne ⊢
    rw [HN2.out] at hne ⊢
    go_wp2
    go_loopw [5] (fun iv wr => ∃ k : Nat, k ≤ n ∧ iv = .int .i64 k ∧ Hid (∀ j (hj : j < a.length) (hj' : j < b.length), j < k → a[j] = b[j]) ∧ Hid (Grow w wr)) (fun iv _ => n - (intOf iv).toNat)
    case atStart => exact ⟨0, by omega, rfl, hide (fun j hj _ h => by omega), hide (Grow.refl _)⟩
    case round =>
      obtain ⟨k, hk, rfl, HE, HGr⟩ := hrel
      by_cases hlt : k < n
      · have hlti : (k : Int) < (n : Int) := by omega
        have hka : k < a.length := by rw [HN.out]; exact hlt
        have hkb : k < b.length := by rw [HN2.out]; exact hlt
        obtain ⟨rb, rf, xa, rfl, hrB, ra, a0⟩ := HAC.out k hka
        obtain ⟨sb, sf, xb, rfl, hsB, rb', b0⟩ := HBC.out k hkb
        have c0 := (HGr.out.cell (p := ⟨rb, rf + k, none⟩) hrB).trans a0
        have c1 := (HGr.out.cell (p := ⟨sb, sf + k, none⟩) hsB).trans b0
        obtain ⟨F, HF⟩ : ∃ F, Hid (decide (a[k] = b[k]) = F) := ⟨_, hide rfl⟩
        have HS : Hid (∀ q, Calls Tryz.prog 13 #[xa, xb] (wr.drewN q) fun e w' => e = .returned (.bool F) ∧ ∃ n, w' = (wr.drewN q).drewN n) := hide fun q => by
          have gw : Grow w (wr.drewN q) := HGr.out.trans (grow_drewF _ _)
          have := sameLabels_any (wr.drewN q) xa xb a[k] b[k] (readsLabels_mono (readsLabels_below ra gw) gw.size) (readsLabels_mono (readsLabels_below rb' gw) gw.size) (HA.out _ (List.getElem_mem hka)) (HB.out _ (List.getElem_mem hkb))
          rw [HF.out] at this
          exact this
        obtain ⟨xo, xc, hxa⟩ := readsLabels_len ra
        obtain ⟨yo, yc, hxb⟩ := readsLabels_len rb'
        generalize a[k].length = n1 at hxa
        generalize b[k].length = n2 at hxb
        subst hxa hxb
        clear ra rb' a0 b0
        cases F with
        | true =>
          have HEK : Hid (a[k] = b[k]) := hide (of_decide_eq_true HF.out)
          go_wp2
          go_quiet ((go_at_call 13; exact Calls.quiet_of (HS.out _)))
          have HGq : Hid (Grow w (wr.drewN nq)) := hide (HGr.out.trans (grow_drewF _ _))
          go_wp2
          go_roundw
          case rel => exact ⟨k + 1, by omega, by go_num, hide (fun j hj hj' hji => by
            by_cases e : j = k
            · subst e; exact HEK.out
            · exact HE.out j hj hj' (by omega)), HGq⟩
          case measure => simp [intOf]; omega
        | false =>
          have hne2 : ¬ a = b := fun e => of_decide_eq_false HF.out (by subst e; rfl)
          have hD : D = false := by rw [← HD.out]; exact decide_eq_false hne2
          subst hD
          clear hne2
          go_wp2
          go_quiet ((go_at_call 13; exact Calls.quiet_of (HS.out _)))
          have HGq : Hid (Grow w (wr.drewN nq)) := hide (HGr.out.trans (grow_drewF _ _))
          go_wp2
          go_ret
          exact ⟨rfl, HGq.out⟩
      · obtain rfl : k = n := by omega
        have hnl : ¬ ((k : Int) < (k : Int)) := by omega
        have hD : D = true := by
          rw [← HD.out]
          exact decide_eq_true (List.ext_getElem (HN.out.trans HN2.out.symm) fun j h1 h2 => HE.out j h1 h2 (by rw [← HN.out]; exact h1))
        subst hD
        go_wp2
        go_ret
        exact ⟨rfl, HGr.out⟩
  · have hne : ((a.length : Int) != (b.length : Int)) = true := by simp; omega
    have hD : D = false := by rw [← HD.out]; exact decide_eq_false (fun e => hn (by rw [e]))
    subst hD
    clear hn
    go_wp2
    go_ret
    exact ⟨rfl, Grow.refl _⟩
end Go.Proofs.YtdlmgkncneifaaaGreat.Fd
