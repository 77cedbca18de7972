/- find: a line of Parse, the walk. -/
import Derived.Laws.OwnMore
import Derived.Deep.AppendLies
import Derived.Maps.Own
import Derived.Maps.OwnOps
import Derived.Maps.OwnSet
import Derived.Maps.Views
import Derived.Test.YtdlmgkncneifaaaGreatProg
import Derived.Test.YtdlmgkncneifaaaGreatKit
import Derived.Test.YtdlmgkncneifaaaGreatReg
import Derived.Test.YtdlmgkncneifaaaGreatLSpec
import Derived.Test.YtdlmgkncneifaaaGreatLRow
import Derived.Test.YtdlmgkncneifaaaGreatLTwi
import Derived.Test.YtdlmgkncneifaaaGreatLTxt
import Derived.Test.YtdlmgkncneifaaaGreatLTin
import Derived.Test.YtdlmgkncneifaaaGreatLnA
import Derived.Test.YtdlmgkncneifaaaGreatLnB
import Derived.Test.YtdlmgkncneifaaaGreatLnE
import Derived.Test.YtdlmgkncneifaaaGreatLnF
import Derived.Test.YtdlmgkncneifaaaGreatFdA
import Derived.Test.YtdlmgkncneifaaaGreatFdF
import Derived.Test.YtdlmgkncneifaaaGreatFdE
import Derived.Test.YtdlmgkncneifaaaGreatFdJ
import Derived.Test.YtdlmgkncneifaaaGreatFdK
import Derived.BigQuiet
set_option linter.unusedVariables false
set_option linter.unusedSimpArgs false
namespace Go.Proofs.YtdlmgkncneifaaaGreat.Fd
open Go.RowKit Go.Maps Lb Ln
open Go.WideMaps (keyOf_string_mk)
attribute [local go_sem] bs_size bs_toList bs_append bs_get bs_extract

/-- One more target: its text in the map, itself behind the row, the row in its variable. -/
theorem PJ.more {w W W2 W3 : World} {st : List Tgt} {ls : Tgt} {lv v v' : Value} (h : PJ w st W) (h0 : checkB ls = 0) (hn : ls ≠ []) (hl : st.length < 100)
    (hlv : ownLabels W (w.heap.size + 5) lv ls) (hm : W2.ownsMap Tryz.prog 9 unitElem (w.heap.size + 2) (st.length + 1) (setOf (H := Unit) (.agg []) (textsT (st ++ [ls])))) (hg2 : W.grownBy W2 (some (w.heap.size + 2)))
    {ps : List TP} (hv : W.heap[w.heap.size + 1]? = some (.cells #[v] 22 (0, 0))) (hps : ownTgts W (w.heap.size + 5) v ps) (hst : tgts ps = st)
    {V : World} (hgV : Grow W2 V) (hr : W3.ownsRow (w.heap.size + 5) 36 1 v' (ps.length + 1) (vals ps ++ [lv])) (hg3 : V.grownBy W3 v.ownBlock) :
    PJ w (st ++ [ls]) (W3.setCell ⟨w.heap.size + 1, 0, none⟩ v') := by
  have hsz := h.sz
  have hs2 := hg2.size
  have hsV := hgV.size
  have hs3 := hg3.size
  have hvb : ∀ g, v.ownBlock = some g → w.heap.size + 5 ≤ g := fun g hg => (hps.1.lt g hg).1
  -- blocks that stay all along
  have s3 : ∀ k, k < W.heap.size → k ≠ w.heap.size + 2 → v.ownBlock ≠ some k → W3.heap[k]? = W.heap[k]? := fun k hk h2 h3 => ((hg3.block k (by omega) (fun e => h3 e.symm)).trans (hgV.block k (by omega))).trans (hg2.block k hk (fun e => h2 (by simpa using e)))
  have s4 : ∀ k, k < W.heap.size → k ≠ w.heap.size + 2 → k ≠ w.heap.size + 1 → v.ownBlock ≠ some k → (W3.setCell ⟨w.heap.size + 1, 0, none⟩ v').heap[k]? = W.heap[k]? := fun k hk h2 h1 h3 => (Below.heap_setCell _ _ _ _ h1).trans (s3 k hk h2 h3)
  have low : ∀ k, k < w.heap.size + 4 → v.ownBlock ≠ some k := fun k hk e => by have := hvb k e; omega
  have tgt : ∀ {e size n : Nat} {u : Value} {xs : List Value}, W.ownsRow (w.heap.size + 5) e size u n xs → e ≠ 36 → (W3.setCell ⟨w.heap.size + 1, 0, none⟩ v').ownsRow (w.heap.size + 5) e size u n xs := fun {e size n u xs} q hne => own_keep q fun g hg => by
    have hq := q.lt g hg
    refine s4 g hq.2 (by omega) (by omega) (fun e2 => ?_)
    rcases hps.1.2 with ⟨e3, _⟩ | ⟨g', cap, cur, e3, _, h3, _⟩
    · rw [e3] at e2; cases e2
    · rw [e3] at e2
      obtain rfl : g' = g := by simpa [Value.ownBlock] using e2
      exact own_apart q h3 hne (by rw [hg])
  refine ⟨⟨?_, ?_, ?_, ?_, fun k hk => ?_⟩, ?_, ?_, ?_, ?_, ⟨v', ps ++ [(ls, lv)], ?_, ⟨?_, fun p hp => ?_⟩, ?_⟩, fun x hx => ?_, ?_⟩
  · exact hg3.os.trans (hgV.os.trans (hg2.os.trans h.gr.os))
  · exact hg3.tape.trans (hgV.tape.trans (hg2.tape.trans h.gr.tape))
  · exact hg3.output.trans (hgV.output.trans (hg2.output.trans h.gr.output))
  · simp [World.setCell]; omega
  · exact (s4 k (by omega) (by omega) (by omega) (low k (by omega))).trans (h.gr.block k hk)
  · simp [World.setCell]; omega
  · exact (s4 _ (by omega) (by omega) (by omega) (low _ (by omega))).trans h.fz
  · exact (s4 _ (by omega) (by omega) (by omega) (low _ (by omega))).trans h.ct
  · rw [List.length_append]
    refine ((hm.kept (grownG hgV) (by simp)).kept hg3 (fun e => low (w.heap.size + 2) (by omega) e.symm)).kept (grownS W3 (w.heap.size + 1) 0 v') (by simp)
  · have := (s3 (w.heap.size + 1) (by omega) (by omega) (low _ (by omega))).trans hv
    exact one_setCell this
  · unfold rowT
    rw [List.length_append, vals_append]
    exact own_keep hr fun g hg => Below.heap_setCell _ _ _ _ (by have := (hr.lt g hg).1; show g ≠ w.heap.size + 1; omega)
  · rcases List.mem_append.1 hp with hp | hp
    · exact tgt (hps.2 p hp) (by decide)
    · rw [List.mem_singleton] at hp; subst hp; exact tgt hlv (by decide)
  · rw [tgts_append, hst]; rfl
  · rcases List.mem_append.1 hx with hx | hx
    · exact h.ok x hx
    · rw [List.mem_singleton] at hx; subst hx; exact ⟨h0, hn⟩
  · rw [List.length_append]; simp only [List.length_cons, List.length_nil]; omega
set_option maxRecDepth 20000 in
set_option maxHeartbeats 1200000 in
theorem line_any (w W : World) (st : List Tgt) (b f : Nat) (t : List UInt8) (h : PJ w st W) (hb : w.heap.size + 4 < b) (hf : f ≤ t.length) (hi : InL W b t f (t.drop f)) :
    Calls Tryz.prog 15 #[.pointer (some ⟨b, 0, none⟩), .pointer (some ⟨w.heap.size + 3, 0, none⟩), .pointer (some ⟨w.heap.size + 1, 0, none⟩)] W fun e W' => W.heap.size ≤ W'.heap.size ∧ W'.heap[w.heap.size + 4]? = W.heap[w.heap.size + 4]? ∧ lineTurn (PJ w) (PF w) (stepT t f st) e W' := by
  obtain ⟨i0, hi0, hz0, hz1, hz2⟩ := info_parts infoTgt
  have S1 := hide (blanks_any W b f t _ hi)
  have HJ := hide h
  have HIN := hide hi
  have HBW : Hid (b < W.heap.size) := hide (lt_of_block hi.cell)
  have HBB := hide hb
  obtain ⟨O, HO⟩ : ∃ O, Hid (stepT t f st = O) := ⟨_, hide rfl⟩
  rw [HO.out]
  have hO := HO.out
  unfold stepT at hO
  obtain ⟨r, hr⟩ : ∃ r, blR (t.drop f) = r := ⟨_, rfl⟩
  rw [hr] at hO S1
  clear h hi hr hf
  go_enter Tryz.func15, Tryz.ntmps15
  go_wp2_with fail
  refine S1.out.mono ?_
  rintro e w1 ⟨rfl, hk, hi⟩
  have HK1 := hide hk
  have HI1 := hide hi
  have S2 := hide (ended_any w1 b f t r hi)
  clear hk hi S1
  -- what is told at an end: the frame
  have fin : ∀ W', KI b W W' → W.heap.size ≤ W'.heap.size ∧ W'.heap[w.heap.size + 4]? = W.heap[w.heap.size + 4]? := fun W' hk => ⟨hk.size, hk.block _ (by have := HBW.out; have := HBB.out; omega) (by have := HBB.out; omega)⟩
  have FIN := hide fin
  clear fin
  by_cases hr0 : r = []
  · rw [if_pos (.inl hr0)] at hO
    rw [decide_eq_true hr0] at S2
    subst hO
    clear hr0
    go_wp2_with fail
    refine S2.out.mono ?_
    rintro e w2 ⟨rfl, n, rfl⟩
    go_wp2
    refine bodyPost_ret (v := .tuple #[]) (by simp [results, Tryz.results15, go_sem]) rfl ?_
    obtain ⟨f1, f2⟩ := FIN.out _ (HK1.out.drewN n)
    exact ⟨f1, f2, rfl, HJ.out.ki HIN.out HBB.out (HK1.out.drewN n)⟩
  · rw [decide_eq_false hr0] at S2
    go_wp2_with fail
    refine S2.out.mono ?_
    rintro e w2 ⟨rfl, n, rfl⟩
    have HK2 := hide (HK1.out.drewN n)
    have HI2 := hide (HI1.out.drewN n)
    have S3 := hide (skip_any _ b f t r 35 HI2.out)
    clear S2
    generalize w1.drewN n = w2 at HK2 HI2 S3 ⊢
    cases hs : skipB 35 r with
    | true =>
      rw [if_pos (.inr hs)] at hO
      rw [hs] at S3
      subst hO
      clear hr0 hs
      go_wp2_with fail
      refine S3.out.mono ?_
      rintro e w3 ⟨rfl, hk, hi⟩
      have HK3 := hide (HK2.out.trans hk)
      clear hk hi S3
      go_wp2
      refine bodyPost_ret (v := .tuple #[]) (by simp [results, Tryz.results15, go_sem]) rfl ?_
      obtain ⟨f1, f2⟩ := FIN.out _ HK3.out
      exact ⟨f1, f2, rfl, HJ.out.ki HIN.out HBB.out HK3.out⟩
    | false =>
      rw [if_neg (by rw [hs]; simpa using hr0)] at hO
      rw [hs, skipB_no hs] at S3
      clear hr0 hs
      go_wp2_with fail
      refine S3.out.mono ?_
      rintro e w3 ⟨rfl, hk, hi⟩
      have HK3 := hide (HK2.out.trans hk)
      have S4 := hide (readLabels_any w3 b f t r hi)
      clear hk hi S3
      cases hrd : readE t f r with
      | error x =>
        rw [hrd] at S4 hO
        simp only at hO
        subst hO
        clear hrd
        go_wp2_with fail
        refine S4.out.mono ?_
        rintro e w4 ⟨hk, rfl⟩
        have HK4 := hide (HK3.out.trans hk)
        obtain ⟨f1, f2⟩ := FIN.out _ HK4.out
        exact ⟨rfl, f1, f2, rfl, HJ.out.fails.ki HBB.out HK4.out⟩
      | ok ls =>
        obtain ⟨h0, hn⟩ := read_right hrd
        rw [hrd] at S4 hO
        simp only at hO
        clear hrd
        go_wp2_with fail
        refine S4.out.mono ?_
        rintro e w4 ⟨hk, lv, rfl, hlv, hi⟩
        have HK4 := hide (HK3.out.trans hk)
        have HI4 := hide hi
        have HLV : Hid (ownLabels w4 (w.heap.size + 5) lv ls) := hide (own_le hlv (by have := HK3.out.size; have := HBW.out; have := HBB.out; omega))
        have HJ4 := hide (HJ.out.ki HIN.out HBB.out HK4.out)
        obtain ⟨hl20, hlens⟩ := lens_right h0
        have S5 := hide (text_any w4 lv ls (reads_ownLabels hlv) (by omega) hlens)
        rw [h0] at S5
        obtain ⟨T, HT⟩ : ∃ T, Hid (textAns ls = T) := ⟨_, hide rfl⟩
        have hTs := text_short h0
        rw [HT.out] at S5 hTs
        obtain ⟨lo, lc, hlvs⟩ := own_shape hlv
        have H0 := hide h0
        have HN := hide hn
        have HX := hide (textsT_has HJ.out.ok h0 hn)
        rw [HT.out] at HX
        have hkey : keyOf Tryz.prog 9 (.string (bs T)) = some (.string T) := by rw [keyOf_string_mk Tryz.underlying9 (by rw [bs_size]; unfold maxLen; omega), bs_data]
        generalize hnl : ls.length = nl at hlvs
        clear hk hi hlv S4 h0 hn hl20 hlens hnl
        subst hlvs
        go_wp2_with fail
        refine S5.out.mono ?_
        rintro e w5 ⟨rfl, hg5⟩
        have HG5 : Hid (Grow w4 w5) := hide hg5
        have HJ5 := hide (HJ4.out.grow HG5.out)
        have c0 := cell_of_one HJ5.out.ct
        have HK5 := hide (HK4.out.trans (KI.grow HG5.out))
        have HI5 := hide (HI4.out.grow HG5.out)
        clear hg5 S5
        by_cases hm : ls ∈ st
        · rw [if_pos hm] at hO
          rw [decide_eq_true hm] at HX
          subst hO
          clear hm
          go_wp2_with (at_lookup; refine wpList_lookup_own_unit _ rfl _ _ 41 rfl 9 48 Tryz.keyLaw Tryz.underlying41 (Tryz.zeroUnit _) (w.heap.size + 2) st.length _ rfl HJ5.out.mp _ _ rfl hkey ?_; rw [HX.out])
          go_wp2_with (first | (go_at_call 22; refine (first_any _ b f t _ (HI5.out.grow ((Grow.refl w5).alloc _))).mono ?_; rintro e w' ⟨rfl, rfl⟩) | (go_at_call 21; refine (giveF_any _ _ _).mono ?_; rintro e w' ⟨rfl, rfl⟩))
          have hk6 := HK5.out.trans (KI.grow ((Grow.refl w5).alloc (.cells #[] 48)))
          obtain ⟨f1, f2⟩ := FIN.out _ hk6
          exact ⟨rfl, f1, f2, rfl, HJ.out.fails.ki HBB.out hk6⟩
        · rw [if_neg hm] at hO
          rw [decide_eq_false hm] at HX
          clear hm
          have hl := HJ.out.ln
          obtain ⟨W6, HW6⟩ : ∃ W6, Hid (w5.alloc (.cells #[] 48) = W6) := ⟨_, hide rfl⟩
          have hg6 : Grow w5 W6 := by rw [← HW6.out]; exact (Grow.refl w5).alloc _
          have HJ6 := hide (HJ5.out.grow hg6)
          have HI6 := hide (HI5.out.grow hg6)
          have HK6 := hide (HK5.out.trans (KI.grow hg6))
          have HL6 := hide (own_growF HLV.out (HG5.out.trans hg6))
          obtain ⟨v, ps, hv, hps, hst⟩ := HJ6.out.tg
          have hpl : ps.length = st.length := by rw [← hst, tgts_length]
          have HV := hide hv
          have HPS := hide hps
          have HST := hide hst
          have c1 := cell_of_one hv
          have c2 := cell_of_one HJ6.out.ct
          obtain ⟨vo, vc, hvs⟩ := own_shape hps.1
          subst hvs
          rw [hpl] at c1
          rw [← HW6.out] at c1 c2
          by_cases h100 : st.length = 100
          · rw [if_pos h100] at hO
            subst hO
            rw [h100] at c1
            go_wp2_with (first | (at_lookup; refine wpList_lookup_own_unit _ rfl _ _ 41 rfl 9 48 Tryz.keyLaw Tryz.underlying41 (Tryz.zeroUnit _) (w.heap.size + 2) st.length _ rfl HJ5.out.mp _ _ rfl hkey ?_; rw [HX.out]) | (go_at_call 22; refine (first_any _ b f t _ (HI5.out.grow ((Grow.refl w5).alloc _))).mono ?_; rintro e w' ⟨rfl, rfl⟩) | (go_at_call 21; refine (giveF_any _ _ _).mono ?_; rintro e w' ⟨rfl, rfl⟩))
            have hk6 := HK5.out.trans (KI.grow ((Grow.refl w5).alloc (.cells #[] 48)))
            obtain ⟨f1, f2⟩ := FIN.out _ hk6
            exact ⟨rfl, f1, f2, rfl, HJ.out.fails.ki HBB.out hk6⟩
          · rw [if_neg h100] at hO
            subst hO
            have h1i : ((st.length : Int) == 100) = false := by simp only [beq_eq_false_iff_ne, ne_eq]; omega
            have hl2 : st.length < 100 := by omega
            clear h100 hv hps hst hg6
            go_wp2_with (first | (at_lookup; refine wpList_lookup_own_unit _ rfl _ _ 41 rfl 9 48 Tryz.keyLaw Tryz.underlying41 (Tryz.zeroUnit _) (w.heap.size + 2) st.length _ rfl HJ5.out.mp _ _ rfl hkey ?_; rw [HX.out]) | (at_mapUpdate; rw [HW6.out]; refine wpList_mapUpdate_own _ rfl _ _ _ 41 rfl 9 48 Tryz.keyLaw Tryz.underlying41 (unitElem (H := Unit)) (w.heap.size + 2) st.length _ rfl HJ6.out.mp (by unfold maxLen; omega) _ _ _ rfl rfl hkey _ [] unitElem_mk ?_; intro w7 hown7 hgrow7; have c7 := cell_of_one (grown_block hgrow7 HV.out (by simp)); rw [hpl] at c7; have HR7 := hide (own_growF (own_far HPS.out.1 hgrow7 (fun g e => by cases e; intro e2; have := (HPS.out.1.lt _ e2).1; omega)) ((Grow.refl w7).alloc (.cells #[.slice lo nl lc] 36))); rw [hpl] at HR7; have HM7 := hide hown7; have HG7 := hide hgrow7; have hs7 : w.heap.size + 5 ≤ (w7.alloc (.cells #[.slice lo nl lc] 36)).heap.size := (by have h1 := HK6.out.size; have h2 := hgrow7.size; have h3 := HBW.out; simp; omega); clear hown7 hgrow7) | (at_builtin; refine wpList_append_own _ rfl _ _ 22 rfl (w.heap.size + 5) 36 i0 _ 1 24 Tryz.underlying22 hi0 hz0 hz1 hz2 rfl (by decide) (.slice vo st.length vc) st.length (vals ps) rfl HR7.out ⟨w7.heap.size, 0, none⟩ 1 1 [.slice lo nl lc] rfl rfl (World.news_of_block (heap_alloc_new w7 _)) (by simp [Value.oneCell']) (by unfold maxLen; omega) (by omega) hs7 ?_; intro v' w8 hown8 hgrow8 _; obtain ⟨vo', vc', hv8⟩ := own_shape hown8; subst hv8; have HW8 := hide hown8; have HG8 := hide hgrow8; have e8 := grown_block hgrow8 (Grow.get (Grow.alloc (Grow.refl w7) (.cells #[.slice lo nl lc] 36)) (grown_block HG7.out HV.out (by simp))) (fun e => by have := (HR7.out.lt _ e).1; omega); have c8 := cell_of_one e8; have z8 := free_of_one e8; clear hown8 hgrow8))
            go_wp2
            go_end0
            have hvb : ∀ g, (Value.slice vo st.length vc).ownBlock = some g → w.heap.size + 5 ≤ g := fun g e => (HR7.out.lt g e).1
            obtain ⟨f1, f2⟩ := FIN.out _ HK6.out
            have s7 := HG7.out.size
            have s8 := HG8.out.size
            have hB := HBW.out
            simp at s8
            have hP := HPS.out
            rw [← hpl] at hvb
            refine ⟨?_, ?_, rfl, PJ.more HJ6.out H0.out HN.out hl2 HL6.out (by rw [textsT_snoc, setOf_snoc, HT.out]; exact HM7.out) HG7.out HV.out HPS.out HST.out ((Grow.refl w7).alloc _) (by rw [hpl]; exact HW8.out) (by rw [hpl]; exact HG8.out)⟩
            · simp [World.setCell]; omega
            · refine (Below.heap_setCell _ _ _ _ (by show w.heap.size + 4 ≠ w.heap.size + 1; omega)).trans ?_
              refine (HG8.out.block _ (by simp; omega) (fun e => by have := hvb _ (by rw [hpl]; exact e.symm); omega)).trans ?_
              refine (Below.heap_alloc _ _ _ (by omega)).trans ?_
              exact (HG7.out.block _ (by omega) (by simp)).trans f2
end Go.Proofs.YtdlmgkncneifaaaGreat.Fd
