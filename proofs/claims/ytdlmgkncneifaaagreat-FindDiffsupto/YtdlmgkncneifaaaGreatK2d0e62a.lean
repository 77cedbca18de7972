/- 2 texts in one. -/
import Derived.Laws.OwnMore
import Derived.Maps.Own
import Derived.Maps.OwnOps
import Derived.Maps.OwnSet
import Derived.Maps.Views
import Derived.Test.YtdlmgkncneifaaaGreatProg
import Derived.Test.YtdlmgkncneifaaaGreatK77c7527
import Derived.Test.YtdlmgkncneifaaaGreatKa9a7a6f
import Derived.Test.YtdlmgkncneifaaaGreatK261a29d
import Derived.Test.YtdlmgkncneifaaaGreatK037941d
import Derived.Test.YtdlmgkncneifaaaGreatK7250bea
import Derived.Test.YtdlmgkncneifaaaGreatKb1b4827
import Derived.Test.YtdlmgkncneifaaaGreatK00cb663
import Derived.Test.YtdlmgkncneifaaaGreatK101b007
import Derived.Test.YtdlmgkncneifaaaGreatKda5cde6
import Derived.Test.YtdlmgkncneifaaaGreatK2b0d28e
import Derived.Test.YtdlmgkncneifaaaGreatKc03411f
import Derived.Test.YtdlmgkncneifaaaGreatKfd892f7
import Derived.BigQuiet
import Derived.BigRegion
set_option linter.unusedVariables false
set_option linter.unusedSimpArgs false
namespace Go.Proofs.YtdlmgkncneifaaaGreat.Fd
open Go.RowKit Go.Maps Lb Ln
attribute [local go_sem] bs_size bs_toList bs_append bs_get bs_extract
/-- What Parse makes of a text. -/
def parseT (s : List UInt8) : Except (Nat × Nat) (List Tgt) := eachF stepT s []
def okT : Except (Nat × Nat) (List Tgt) → List Tgt
  | .ok st => st
  | .error _ => []
def faultT : Except (Nat × Nat) (List Tgt) → Nat × Nat
  | .ok _ => (0, 0)
  | .error x => x
theorem linesG_err {σ : Type} {step : List UInt8 → Nat → σ → Except (Nat × Nat) σ} (h : ∀ t f st x, step t f st = .error x → x.1 ≠ 0) (s : List UInt8) : ∀ n f st x, linesG step s n f st = .error x → x.1 ≠ 0
  | 0, f, st, x, hx => by cases hx
  | n + 1, f, st, x, hx => by
    rw [linesG] at hx
    split at hx
    · split at hx
      · rename_i y hy; cases hx; exact h _ _ _ _ hy
      · exact linesG_err h s n _ _ x hx
    · cases hx
theorem eachF_err {σ : Type} {step : List UInt8 → Nat → σ → Except (Nat × Nat) σ} (h : ∀ t f st x, step t f st = .error x → x.1 ≠ 0) {s : List UInt8} {st : σ} {x : Nat × Nat} (hx : eachF step s st = .error x) : x.1 ≠ 0 := by
  unfold eachF at hx
  split at hx
  · cases hx; decide
  · exact linesG_err h s _ _ _ x hx
theorem readE_err {t : List UInt8} {f : Nat} {r : List UInt8} {x : Nat × Nat} (h : readE t f r = .error x) : x.1 ≠ 0 := by
  unfold readE at h
  split at h
  · cases h; simp
  · split at h
    · split at h
      · split at h
        · cases h; simp
        · cases h
      · rename_i h0; cases h; exact h0
    · cases h; simp
theorem stepT_err (t : List UInt8) (f : Nat) (st : List Tgt) (x : Nat × Nat) (h : stepT t f st = .error x) : x.1 ≠ 0 := by
  unfold stepT at h
  split at h
  · cases h
  · split at h
    · rename_i y hy; cases h; exact readE_err hy
    · split at h
      · cases h; simp
      · split at h
        · cases h; simp
        · cases h
theorem results_tmp_cell {P : Program} {fn : Func} {p u : Tmp} {ty : TypeId} (h : fn.results = #[.tmp u, .cell p ty]) (tmps : Array Value) (w : World) (g : Nat) (t : TypeId) (cs : Array Value) (fr : Nat × Nat) (d : TypeDesc)
    (hp : tmps.getD p undef = .pointer (some ⟨g, 0, none⟩)) (hg : w.heap[g]? = some (.cells cs t fr))
    (hu : P.underlying ty = some d) (hd : (match d with | .struct _ | .array _ _ => true | _ => false) = true) (hi : (P.info? ty).map (·.size) = some cs.size) :
    (results fn tmps).run P w = .ok (.tuple #[tmps.getD u undef, .agg cs]) w := by
  have hp' : tmps[p]?.getD undef = .pointer (some ⟨g, 0, none⟩) := by simpa using hp
  simp [results, h, hp', asAddr, run_loadVar_row w g t ty cs fr d hg hu hd hi]
set_option maxRecDepth 20000 in
set_option maxHeartbeats 1200000 in
theorem parse_any (w : World) (s : List UInt8) (hs : s.length ≤ 9223372036854775807) :
    Calls Tryz.prog 5 #[.string (bs s)] w fun e w' => ∃ v, e = .returned (.tuple #[v, .agg #[.int .i64 (faultT (parseT s)).1, .int .i64 (faultT (parseT s)).2]]) ∧ readsTgts w' w'.heap.size v (okT (parseT s)) ∧ Grow w w' := by
  obtain ⟨O, HO⟩ : ∃ O, Hid (parseT s = O) := ⟨_, hide rfl⟩
  rw [HO.out]
  have hmf : ∀ (fn : Fn) (first cap : Array Value) (w : World), (Instr.makeFunc fn first cap).run Tryz.prog w = .ok (.func fn first cap) w := fun _ _ _ _ => rfl
  have hmm := @run_makeMap Tryz.prog
  have hcf : ∀ (args : Array Value) (w : World), (callFunc 15 args).run Tryz.prog w = .ok (.enter 15 args) w := enters_of Tryz.func15 (by kernel_rfl) rfl
  go_enter Tryz.func5, Tryz.ntmps5
  go_wp2_with fail
  obtain ⟨V, HV⟩ : ∃ V, Hid (((((w.alloc (.cells #[.int .i64 0, .int .i64 0] 25)).alloc (.cells #[.slice none 0 0] 22)).alloc (.map #[] 0)).alloc (.cells #[.map (some (w.heap.size + 1 + 1))] 41)) = V) := ⟨_, hide rfl⟩
  have hVs : V.heap.size = w.heap.size + 4 := by rw [← HV.out]; simp
  have hb0 : ∀ k, k < w.heap.size → V.heap[k]? = w.heap[k]? := fun k hk => by rw [← HV.out]; exact ((((Grow.refl w).alloc _).alloc _).alloc _).alloc _ |>.block k hk
  have hb1 : V.heap[w.heap.size]? = some zeroF := by
    rw [← HV.out]
    exact Grow.get ((((Grow.refl _).alloc _).alloc _).alloc _) (heap_alloc_new w _)
  have hb2 : V.heap[w.heap.size + 1]? = some (.cells #[.slice none 0 0] 22 (0, 0)) := by
    rw [← HV.out]
    have h := heap_alloc_new (w.alloc (.cells #[.int .i64 0, .int .i64 0] 25)) (.cells #[.slice none 0 0] 22)
    rw [show (w.alloc (.cells #[.int .i64 0, .int .i64 0] 25)).heap.size = w.heap.size + 1 by simp] at h
    exact Grow.get (((Grow.refl _).alloc _).alloc _) h
  have hb3 : V.heap[w.heap.size + 3]? = some (.cells #[.map (some (w.heap.size + 2))] 41 (0, 0)) := by
    rw [← HV.out]
    have h := heap_alloc_new (((w.alloc (.cells #[.int .i64 0, .int .i64 0] 25)).alloc (.cells #[.slice none 0 0] 22)).alloc (.map #[] 0)) (.cells #[.map (some (w.heap.size + 1 + 1))] 41)
    rw [show (((w.alloc (.cells #[.int .i64 0, .int .i64 0] 25)).alloc (.cells #[.slice none 0 0] 22)).alloc (.map #[] 0)).heap.size = w.heap.size + 3 by simp] at h
    exact h
  have hmp : V.ownsMap Tryz.prog 9 unitElem (w.heap.size + 2) 0 (setOf (H := Unit) (.agg []) (textsT [])) := by
    rw [← HV.out]
    have := World.ownsMap_made (P := Tryz.prog) (H := Unit) ((w.alloc (.cells #[.int .i64 0, .int .i64 0] 25)).alloc (.cells #[.slice none 0 0] 22)) 9 unitElem
    simp at this
    exact this.alloc _
  have HPJ : Hid (PJ w [] V) := hide ⟨⟨by rw [← HV.out]; rfl, by rw [← HV.out]; rfl, by rw [← HV.out]; rfl, by omega, hb0⟩, by omega, hb1, hb3, hmp, ⟨_, [], hb2, ⟨World.ownsRow_nil _ _ _ _, fun p hp => absurd hp (by simp)⟩, rfl⟩, fun x hx => absurd hx (by simp), by simp⟩
  rw [HV.out]
  have HE := hide (each_any V s 15 #[.pointer (some ⟨w.heap.size + 3, 0, none⟩), .pointer (some ⟨w.heap.size + 1, 0, none⟩)] (PJ w) (PF w) stepT [] hcf hs HPJ.out
    (fun st W o _ h => h.grow ((Grow.refl W).alloc o)) (fun st W i u h => by rw [hVs]; exact h.stay (grownS W (w.heap.size + 4) i u) (fun g e => by cases e; exact .inl rfl))
    (fun W o _ h => ⟨Below.alloc h.1 (by have := h.2.1; omega) o, Nat.le_trans h.2.1 (by simp), ((Grow.refl W).alloc o).get h.2.2⟩)
    (fun W i u h => by
      rw [hVs]
      refine ⟨⟨h.1.os, h.1.tape, h.1.output, by simpa [World.setCell] using h.1.size, fun k hk => (Below.heap_setCell _ _ _ _ (by show k ≠ w.heap.size + 4; omega)).trans (h.1.block k hk)⟩, by simpa [World.setCell] using h.2.1, (Below.heap_setCell _ _ _ _ (by show w.heap.size ≠ w.heap.size + 4; omega)).trans h.2.2⟩)
    (fun st W h => h.fails)
    (fun st W b t f hb h hf hi hz => by
      rw [hVs] at hb ⊢
      exact line_any w W st b f t h hb hf hi))
  have HOP : eachF stepT s [] = O := HO.out
  rw [HOP] at HE
  clear hb0 hb1 hb2 hb3 hmp hVs HOP
  refine HE.out.mono ?_
  rintro e w1 hE
  clear HE HPJ
  cases O with
  | ok st =>
    obtain ⟨rfl, hj⟩ := hE
    have HJ := hide hj
    obtain ⟨v, ps, hv, hps, hst⟩ := hj.tg
    have HPS := hide hps
    have HST := hide hst
    obtain ⟨vo, vc, hvs⟩ := own_shape hps.1
    have hgA := (Grow.refl w1).alloc (.cells #[.int .i64 0, .int .i64 0] 25)
    subst hvs
    have c1 := cell_of_one (hgA.get hv)
    obtain ⟨d0, d1, y0, y1⟩ := two_free (hgA.get hj.fz)
    clear hj hv hps hst hgA
    go_wp2
    have hZ := zero_set (((Grow.refl w1).alloc (.cells #[.int .i64 0, .int .i64 0] 25)).get HJ.out.fz) (.int .i64 0) (.int .i64 0)
    refine bodyPost_ret (v := .tuple #[.slice vo ps.length vc, .agg #[.int .i64 0, .int .i64 0]]) (results_tmp_cell (p := 3) (u := 2) (ty := 25) rfl _ _ w.heap.size _ _ _ _ rfl hZ Tryz.underlying25 rfl infoF) rfl ?_
    have hgr : Grow w (((w1.alloc (.cells #[.int .i64 0, .int .i64 0] 25)).setCell ⟨w.heap.size, 0, none⟩ (.int .i64 0)).setCell ⟨w.heap.size, 1, none⟩ (.int .i64 0)) := by
      have h1 := HJ.out.gr.alloc (by have := HJ.out.sz; omega) (.cells #[.int .i64 0, .int .i64 0] 25)
      exact ⟨h1.os, h1.tape, h1.output, by simpa [World.setCell] using h1.size, fun k hk => (Below.heap_setCell _ _ _ _ (by show k ≠ w.heap.size; omega)).trans ((Below.heap_setCell _ _ _ _ (by show k ≠ w.heap.size; omega)).trans (h1.block k hk))⟩
    refine ⟨_, rfl, ?_, hgr⟩
    have hO2 : ownTgts (((w1.alloc (.cells #[.int .i64 0, .int .i64 0] 25)).setCell ⟨w.heap.size, 0, none⟩ (.int .i64 0)).setCell ⟨w.heap.size, 1, none⟩ (.int .i64 0)) (w.heap.size + 5) (.slice vo ps.length vc) ps := by
      have h1 := HPS.out.grow ((Grow.refl w1).alloc (.cells #[.int .i64 0, .int .i64 0] 25))
      have far : ∀ {e size n : Nat} {u : Value} {xs : List Value}, (w1.alloc (.cells #[.int .i64 0, .int .i64 0] 25)).ownsRow (w.heap.size + 5) e size u n xs → (((w1.alloc (.cells #[.int .i64 0, .int .i64 0] 25)).setCell ⟨w.heap.size, 0, none⟩ (.int .i64 0)).setCell ⟨w.heap.size, 1, none⟩ (.int .i64 0)).ownsRow (w.heap.size + 5) e size u n xs := fun {e size n u xs} q => own_keep q fun g hg => by
        have := (q.lt g hg).1
        exact (Below.heap_setCell _ _ _ _ (by show g ≠ w.heap.size; omega)).trans (Below.heap_setCell _ _ _ _ (by show g ≠ w.heap.size; omega))
      exact ⟨far h1.1, fun p hp => far (h1.2 p hp)⟩
    have := hO2.reads
    rw [HST.out] at this
    exact this
  | error x =>
    obtain ⟨rfl, hf⟩ := hE
    have HF := hide hf
    obtain ⟨d0, d1, y0, y1⟩ := two_free (((Grow.refl w1).alloc (.cells #[.int .i64 x.1, .int .i64 x.2] 25)).get hf.2.2)
    clear hf
    have hx : x.1 ≠ 0 := eachF_err stepT_err HO.out
    have hxi : ((x.1 : Int) != 0) = true := by simpa using hx
    go_wp2
    go_region
    go_wp2
    have hZ := zero_set (((Grow.refl w1).alloc (.cells #[.int .i64 x.1, .int .i64 x.2] 25)).get HF.out.2.2) (.int .i64 x.1) (.int .i64 x.2)
    have hgr : Grow w ((((w1.alloc (.cells #[.int .i64 x.1, .int .i64 x.2] 25)).setCell ⟨w.heap.size, 0, none⟩ (.int .i64 x.1)).setCell ⟨w.heap.size, 1, none⟩ (.int .i64 x.2)).drew) := by
      have h1 := Below.alloc HF.out.1 (by have := HF.out.2.1; omega) (.cells #[.int .i64 x.1, .int .i64 x.2] 25)
      exact ⟨h1.os, h1.tape, h1.output, by simpa [World.setCell] using h1.size, fun k hk => (Below.heap_setCell _ _ _ _ (by show k ≠ w.heap.size; omega)).trans ((Below.heap_setCell _ _ _ _ (by show k ≠ w.heap.size; omega)).trans (h1.block k hk))⟩
    refine bodyPost_ret (v := .tuple #[.slice none 0 0, .agg #[.int .i64 x.1, .int .i64 x.2]]) (results_tmp_cell (p := 3) (u := 2) (ty := 25) rfl _ _ w.heap.size _ _ _ _ rfl hZ Tryz.underlying25 rfl infoF) rfl ?_
    exact ⟨_, rfl, ⟨none, 0, rfl, Nat.le_refl _, fun i h => absurd h (by simp [okT])⟩, hgr⟩
def begT : List UInt8 := [97, 61, 34, 98, 34, 10, 35, 32, 120, 10, 99, 61, 34, 100, 34]
def begA : Tgt := [([97], [98])]
def begB : Tgt := [([99], [100])]
theorem parse_beg : parseT begT = .ok [begA, begB] := by kernel_rfl
theorem part_beg : partT [begA] [begA, begB] = ([], [begA], [begB]) := by
  have h : ordB begA begA = 0 := ordB_zero.2 rfl
  rw [partT, if_neg (by omega), if_neg (by omega), partT]
theorem sorted_one (x : Tgt) : isSorted [x] [x] := ⟨List.Perm.refl _, List.pairwise_singleton _ _⟩
theorem sorted_two {x y : Tgt} (h : ordB x y ≤ 0) : isSorted [x, y] [x, y] := ⟨List.Perm.refl _, by simpa using h⟩
theorem diff_beg : diffErr [begA] [begA, begB] = 0 := by kernel_rfl
theorem readsTgts_first {w : World} {B : Nat} {v : Value} {x y : Tgt} (h : readsTgts w B v [x, y]) : ∃ b o cp, v = .slice (some ⟨b, o, none⟩) 2 cp ∧ 2 ≤ cp ∧ readsTgts w B (.slice (some ⟨b, o, none⟩) 1 cp) [x] := by
  obtain ⟨ao, cp, hv, hc, h⟩ := h
  obtain ⟨b, o, p, rfl, hb, hp, c0⟩ := h 0 (by simp)
  refine ⟨b, o, cp, hv, hc, some ⟨b, o, none⟩, cp, rfl, by simp at hc ⊢; omega, fun i hi => ?_⟩
  obtain rfl : i = 0 := by simp at hi; omega
  exact ⟨b, o, p, rfl, hb, hp, c0⟩
set_option maxRecDepth 20000 in
set_option maxHeartbeats 1200000 in
theorem findBegun_any (w : World) : Calls Tryz.prog 7 #[] w fun e w' => e = .returned (.bool true) ∧ Grow w w' := by
  have S1 := hide (parse_any w begT (by decide))
  rw [parse_beg] at S1
  go_enter Tryz.func7, Tryz.ntmps7
  go_wp2_with fail
  refine S1.out.mono ?_
  rintro e w1 ⟨v, rfl, hr, hg⟩
  obtain ⟨b, o, cp, rfl, hcp, hr1⟩ := readsTgts_first hr
  have HR := hide hr
  have HR1 := hide hr1
  have HG := hide hg
  have hcpi : (2 : Int) ≤ (cp : Int) := by omega
  have hgA := (Grow.refl w1).alloc (.cells #[.int .i64 0, .int .i64 0] 25)
  have S2 := hide (diff_any (w1.alloc (.cells #[.int .i64 0, .int .i64 0] 25)) _ _ [begA] [begA, begB] ((hr1.keep hgA).more hgA.size) ((hr.keep hgA).more hgA.size) ⟨by simp, fun x hx => by simp at hx; subst hx; exact ⟨by decide, fun y hy => by simp [begA] at hy; subst hy; decide⟩⟩
    ⟨by simp, fun x hx => by simp at hx; rcases hx with rfl | rfl; exact ⟨by decide, fun y hy => by simp [begA] at hy; subst hy; decide⟩; exact ⟨by decide, fun y hy => by simp [begB] at hy; subst hy; decide⟩⟩)
  clear hr hr1 hg S1 hgA
  simp only [faultT]
  go_wp2_with fail
  refine S2.out.mono ?_
  rintro e w2 ⟨hg2, v1, v2, v3, d, rfl, r1, r2, r3, hd⟩
  rw [if_pos diff_beg] at hd
  rw [diff_beg]
  obtain ⟨qa, qb, ha, hb, rfl⟩ := hd
  obtain rfl := sorted_uniq ha (sorted_one begA)
  obtain rfl := sorted_uniq hb (sorted_two (x := begA) (y := begB) (by decide +kernel))
  rw [part_beg] at r1 r2 r3
  obtain ⟨a1, c1, rfl⟩ := r1.shape
  obtain ⟨a2, c2, rfl⟩ := r2.shape
  obtain ⟨a3, c3, rfl⟩ := r3.shape
  have hgA := (Grow.refl w1).alloc (.cells #[.int .i64 0, .int .i64 0] 25)
  have HG2 : Hid (Grow w w2) := hide (HG.out.trans (hgA.trans hg2))
  obtain ⟨d0, d1⟩ := two_cells (hg2.get (heap_alloc_new w1 (.cells #[.int .i64 0, .int .i64 0] 25)))
  clear hg2 r1 r2 r3 ha hb S2 hgA HR HR1 HG
  simp only [List.length_cons, List.length_nil, Nat.zero_add]
  go_wp2
  go_ret
  exact ⟨rfl, HG2.out⟩
end Go.Proofs.YtdlmgkncneifaaaGreat.Fd
