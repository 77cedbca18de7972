/- find: sorted. -/
import Derived.Laws.OwnMore
import Derived.Deep.AppendLies
import Derived.Test.YtdlmgkncneifaaaGreatProg
import Derived.Test.YtdlmgkncneifaaaGreatKit
import Derived.Test.YtdlmgkncneifaaaGreatReg
import Derived.Test.YtdlmgkncneifaaaGreatLSpec
import Derived.Test.YtdlmgkncneifaaaGreatLRow
import Derived.Test.YtdlmgkncneifaaaGreatLMak
import Derived.Test.YtdlmgkncneifaaaGreatFdA
import Derived.Test.YtdlmgkncneifaaaGreatFdF
import Derived.Test.YtdlmgkncneifaaaGreatFdE
import Derived.BigQuiet
set_option linter.unusedVariables false
set_option linter.unusedSimpArgs false
namespace Go.Proofs.YtdlmgkncneifaaaGreat.Fd
open Go.RowKit Lb
attribute [local go_sem] bs_size bs_toList bs_append bs_get bs_extract

/-- Labels that are right are their own copy. -/
theorem make_ownF {ls : List Lab} (h : checkB ls = 0) : makeErr ls = 0 ∧ makeAns ls = ls := by
  obtain ⟨h1, h2, h3⟩ : eachErr 1 ls = 0 ∧ twiceB ls = false ∧ riseB ls = true := by
    unfold checkB at h
    split at h
    · rename_i h1
      split at h
      · rename_i h2
        split at h
        · rename_i h3; exact ⟨h1, h2, h3⟩
        · cases h
      · cases h
    · rename_i h1; exact absurd h h1
  obtain ⟨hl, hx⟩ := eachErr_zero.1 h1
  have h0 : makeErr ls = 0 := by
    unfold makeErr
    rw [if_pos (eachErr_zero.2 ⟨hl, fun x hm => by have := hx x hm; exact ⟨this.1, by omega, this.2.2⟩⟩), if_pos h2]
  refine ⟨h0, ?_⟩
  rw [makeAns_ok h0]
  refine (makeL_uniq h2 (rise_iff.2 h3) fun y => ⟨fun hy => ⟨hy, fun e => ?_⟩, fun hy => hy.1⟩).symm
  have := (hx y hy).2.1
  rw [e] at this
  simp at this
set_option maxRecDepth 20000 in
set_option maxHeartbeats 1200000 in
theorem fsorted_any (w : World) (v : Value) (l : List Tgt) (hv : readsTgts w w.heap.size v l) (hlen : l.length ≤ 1000) (hok : ∀ s ∈ l, checkB s = 0) :
    Calls Tryz.prog 30 #[v] w fun e w' => ∃ v' qs, e = .returned v' ∧ ownTgts w' w.heap.size v' qs ∧ (tgts qs).Perm l ∧ (tgts qs).Pairwise (fun p q => ordB p q ≤ 0) ∧ Grow w w' := by
  obtain ⟨i0, hi0, hz0, hz1, hz2⟩ := info_parts infoTgt
  obtain ⟨ao, cp, hvv, -, hcells⟩ := id hv
  subst hvv
  have HOK := hide hok
  clear hv hok
  go_enter Tryz.func30, Tryz.ntmps30
  go_wp2
  go_loopw [3, 10] (fun sv iv wr => ∃ (k : Nat) (ps : List TP), k ≤ l.length ∧ iv = .int .i64 k ∧ Hid (ownTgts wr w.heap.size sv ps) ∧ Hid (tgts ps = l.take k) ∧ Hid (Grow w wr)) (fun _ iv _ => l.length - (intOf iv).toNat)
  case atStart => exact ⟨0, [], by omega, rfl, hide ⟨World.ownsRow_nil _ _ _ _, fun p hp => by simp at hp⟩, hide rfl, hide (Grow.refl _)⟩
  case round =>
    obtain ⟨k, ps, hkk, rfl, HOW, HPS, HGr⟩ := hrel
    obtain ⟨so, sc, hsv⟩ := own_shape HOW.out.1
    subst hsv
    have hpl : ps.length = k := by
      have := congrArg List.length HPS.out
      simp [tgts] at this
      omega
    by_cases hlt : k < l.length
    · have hlti : (k : Int) < (l.length : Int) := by omega
      obtain ⟨rb, rf, xa, rfl, hrB, ha, a0⟩ := hcells k hlt
      have c0 := (HGr.out.cell (p := ⟨rb, rf + k, none⟩) hrB).trans a0
      obtain ⟨x, HX⟩ : ∃ x : Tgt, Hid (l[k] = x) := ⟨_, hide rfl⟩
      have hokx := HOK.out _ (List.getElem_mem hlt)
      rw [HX.out] at ha hokx
      obtain ⟨xo, xc, hxa⟩ := readsLabels_len ha
      obtain ⟨V, eV, gV, hV⟩ := laid1 wr #[xa] 36
      have hgV : Grow w V := HGr.out.trans gV
      obtain ⟨hlx, hix⟩ := lens_right hokx
      obtain ⟨hm0, hm1⟩ := make_ownF hokx
      have HMK := make_any V xa x (readsLabels_mono (readsLabels_below ha hgV) hgV.size) (by omega) hix
      rw [hm0, hm1] at HMK
      replace HMK := hide HMK
      have HVV := hide hV
      have HGV := hide hgV
      have HgV := hide gV
      have d0 := cell_one hV
      subst hxa
      generalize hn1 : x.length = n1 at *
      clear ha a0 hcells gV hV hgV hokx hlx hix hm0 hm1
      go_wp2_with fail
      refine HMK.out.mono ?_
      rintro e w6 ⟨mv, rfl, hml, hg6⟩
      obtain ⟨mo, mc, hmv⟩ := own_shape hml
      rw [hn1] at hmv
      subst hmv
      have HML := hide hml
      have HG6 : Hid (Grow V w6) := hide hg6
      clear hml hg6 HMK d0 c0 eV
      obtain ⟨W7, e7, g7, b7⟩ := laid1 w6 #[.slice mo n1 mc] 36
      have hgr7 : Grow wr W7 := HgV.out.trans (HG6.out.trans g7)
      have HO7 : Hid (ownTgts W7 w.heap.size (.slice so ps.length sc) ps) := hide (HOW.out.grow hgr7)
      have hVs : wr.heap.size ≤ V.heap.size := HgV.out.size
      have hws : w.heap.size ≤ wr.heap.size := HGr.out.size
      have HL7 : Hid (ownLabels W7 w.heap.size (.slice mo n1 mc) x) := hide (own_leF (own_growF HML.out g7) (by omega))
      have HR7 : Hid (W7.ownsRow w.heap.size 36 1 (.slice so k sc) k (vals ps)) := hide (by have := HO7.out.1; unfold rowT at this; rw [hpl] at this; exact this)
      have HB7 := hide b7
      have HBW : Hid (Below w.heap.size w W7) := hide (HGr.out.trans hgr7)
      have hs7 : w.heap.size ≤ W7.heap.size := HBW.out.size
      clear g7 b7 hgr7
      go_wp2_with (at_builtin; refine wpList_append_own _ rfl _ _ 22 rfl w.heap.size 36 i0 _ 1 24 Tryz.underlying22 hi0 hz0 hz1 hz2 rfl (by decide) _ k (vals ps) rfl HR7.out ⟨w6.heap.size, 0, none⟩ 1 1 [.slice mo n1 mc] rfl rfl (World.news_of_block HB7.out) (by simp [Value.oneCell']) (by unfold maxLen; omega) (by omega) hs7 ?_)
      intro v' w8 hown' hgrow _
      have hbel : Below w.heap.size W7 w8 := (Below.refl _ _).grown hgrow hs7 (fun q hq => (HR7.out.lt q hq).1)
      have HB8 : Hid (Below w.heap.size w w8) := hide (HBW.out.trans hbel)
      have HN8 : Hid (ownTgts w8 w.heap.size v' (ps ++ [(x, .slice mo n1 mc)])) := hide (by
        have far : ∀ {u : Value} {ls : List Lab}, ownLabels W7 w.heap.size u ls → ownLabels w8 w.heap.size u ls := fun {u ls} q => by
          rcases HR7.out.2 with ⟨r1, _⟩ | ⟨g, cap, cur, r1, _, r3, _⟩
          · exact own_keep q fun b hb => hgrow.block b (q.lt b hb).2 (fun e => by rw [r1] at e; simp [Value.ownBlock] at e)
          · exact own_keep q fun b hb => hgrow.block b (q.lt b hb).2 (fun e => own_apart q r3 (by decide) (by rw [hb, e, r1]; rfl))
        refine ⟨?_, fun p hp => ?_⟩
        · unfold rowT
          rw [List.length_append, hpl, vals_append]
          exact hown'
        · rcases List.mem_append.1 hp with hp | hp
          · exact far (HO7.out.2 p hp)
          · simp only [List.mem_singleton] at hp
            subst hp
            exact far HL7.out)
      clear hown' hgrow hbel
      go_wp2
      go_roundw
      case rel =>
        refine ⟨k + 1, _, by omega, by go_num, HN8, hide ?_, HB8⟩
        rw [tgts_append, HPS.out, List.take_succ_eq_append_getElem hlt, HX.out]
        rfl
      case measure => simp [intOf]; omega
    · obtain rfl : k = l.length := by omega
      have hpr : ∀ p ∈ ps, checkB p.1 = 0 := fun p hp => by
        have h1 : p.1 ∈ tgts ps := List.mem_map.2 ⟨p, hp, rfl⟩
        rw [HPS.out, List.take_length] at h1
        exact HOK.out _ h1
      have HS := hide (sortTgts_any wr w.heap.size _ ps HOW.out hpr (by omega))
      have hbs : ∀ q, (Value.slice so ps.length sc).ownBlock = some q → w.heap.size ≤ q := fun q hq => (HOW.out.1.lt q hq).1
      have HBS := hide hbs
      clear hpr hbs hcells
      rw [hpl] at HS HBS ⊢
      go_wp2_with fail
      refine HS.out.mono ?_
      rintro e w5 ⟨rfl, qs, hq1, hq2, hq3, hq4⟩
      have HQ1 := hide hq1
      have HQ2 := hide hq2
      have HQ3 := hide hq3
      have HG5 : Hid (Grow w w5) := hide (Below.grown HGr.out hq4 HGr.out.size HBS.out)
      clear hq1 hq2 hq3 hq4
      go_wp2
      go_ret
      refine ⟨_, qs, rfl, HQ1.out, ?_, ?_, HG5.out⟩
      · have := HQ2.out.map (·.1)
        rw [show List.map (·.1) ps = l from by have h := HPS.out; rw [List.take_length] at h; exact h] at this
        exact this
      · unfold tgts; rw [List.pairwise_map]; exact HQ3.out
end Go.Proofs.YtdlmgkncneifaaaGreat.Fd
