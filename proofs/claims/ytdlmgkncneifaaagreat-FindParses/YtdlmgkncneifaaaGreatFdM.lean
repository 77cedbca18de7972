/- find: Parse. -/
import Derived.Laws.OwnMore
import Derived.Maps.Own
import Derived.Maps.OwnOps
import Derived.Maps.OwnSet
import Derived.Maps.Views
import Derived.Test.YtdlmgkncneifaaaGreatProg
import Derived.Test.YtdlmgkncneifaaaGreatKit
import Derived.Test.YtdlmgkncneifaaaGreatReg
import Derived.Test.YtdlmgkncneifaaaGreatLSpec
import Derived.Test.YtdlmgkncneifaaaGreatLRow
import Derived.Test.YtdlmgkncneifaaaGreatLTwi
import Derived.Test.YtdlmgkncneifaaaGreatLnA
import Derived.Test.YtdlmgkncneifaaaGreatLnB
import Derived.Test.YtdlmgkncneifaaaGreatLnE
import Derived.Test.YtdlmgkncneifaaaGreatLnF
import Derived.Test.YtdlmgkncneifaaaGreatFdA
import Derived.Test.YtdlmgkncneifaaaGreatFdF
import Derived.Test.YtdlmgkncneifaaaGreatFdE
import Derived.Test.YtdlmgkncneifaaaGreatFdJ
import Derived.Test.YtdlmgkncneifaaaGreatFdK
import Derived.Test.YtdlmgkncneifaaaGreatFdL
import Derived.BigQuiet
import Derived.BigRegion
set_option linter.unusedVariables false
set_option linter.unusedSimpArgs false
namespace Go.Proofs.YtdlmgkncneifaaaGreat.Fd
open Go.RowKit Go.Maps Lb Ln
attribute [local go_sem] bs_size bs_toList bs_append bs_get bs_extract

/-- What Parse makes of a text. -/
def parseT (s : List UInt8) : Except (Nat × Nat) (List Tgt) := eachF stepT s []
def okT : Except (Nat × Nat) (List Tgt) → List Tgt
  | .ok st => st
  | .error _ => []
def faultT : Except (Nat × Nat) (List Tgt) → Nat × Nat
  | .ok _ => (0, 0)
  | .error x => x
theorem linesG_err {σ : Type} {step : List UInt8 → Nat → σ → Except (Nat × Nat) σ} (h : ∀ t f st x, step t f st = .error x → x.1 ≠ 0) (s : List UInt8) : ∀ n f st x, linesG step s n f st = .error x → x.1 ≠ 0
  | 0, f, st, x, hx => by cases hx
  | n + 1, f, st, x, hx => by
    rw [linesG] at hx
    split at hx
    · split at hx
      · rename_i y hy; cases hx; exact h _ _ _ _ hy
      · exact linesG_err h s n _ _ x hx
    · cases hx
theorem eachF_err {σ : Type} {step : List UInt8 → Nat → σ → Except (Nat × Nat) σ} (h : ∀ t f st x, step t f st = .error x → x.1 ≠ 0) {s : List UInt8} {st : σ} {x : Nat × Nat} (hx : eachF step s st = .error x) : x.1 ≠ 0 := by
  unfold eachF at hx
  split at hx
  · cases hx; decide
  · exact linesG_err h s _ _ _ x hx
theorem readE_err {t : List UInt8} {f : Nat} {r : List UInt8} {x : Nat × Nat} (h : readE t f r = .error x) : x.1 ≠ 0 := by
  unfold readE at h
  split at h
  · cases h; simp
  · split at h
    · split at h
      · split at h
        · cases h; simp
        · cases h
      · rename_i h0; cases h; exact h0
    · cases h; simp
theorem stepT_err (t : List UInt8) (f : Nat) (st : List Tgt) (x : Nat × Nat) (h : stepT t f st = .error x) : x.1 ≠ 0 := by
  unfold stepT at h
  split at h
  · cases h
  · split at h
    · rename_i y hy; cases h; exact readE_err hy
    · split at h
      · cases h; simp
      · split at h
        · cases h; simp
        · cases h
theorem results_tmp_cell {P : Program} {fn : Func} {p u : Tmp} {ty : TypeId} (h : fn.results = #[.tmp u, .cell p ty]) (tmps : Array Value) (w : World) (g : Nat) (t : TypeId) (cs : Array Value) (fr : Nat × Nat) (d : TypeDesc)
    (hp : tmps.getD p undef = .pointer (some ⟨g, 0, none⟩)) (hg : w.heap[g]? = some (.cells cs t fr))
    (hu : P.underlying ty = some d) (hd : (match d with | .struct _ | .array _ _ => true | _ => false) = true) (hi : (P.info? ty).map (·.size) = some cs.size) :
    (results fn tmps).run P w = .ok (.tuple #[tmps.getD u undef, .agg cs]) w := by
  have hp' : tmps[p]?.getD undef = .pointer (some ⟨g, 0, none⟩) := by simpa using hp
  simp [results, h, hp', asAddr, run_loadVar_row w g t ty cs fr d hg hu hd hi]
set_option maxRecDepth 20000 in
set_option maxHeartbeats 1200000 in
theorem parse_any (w : World) (s : List UInt8) (hs : s.length ≤ 9223372036854775807) :
    Calls Tryz.prog 5 #[.string (bs s)] w fun e w' => ∃ v, e = .returned (.tuple #[v, .agg #[.int .i64 (faultT (parseT s)).1, .int .i64 (faultT (parseT s)).2]]) ∧ readsTgts w' w'.heap.size v (okT (parseT s)) ∧ Grow w w' := by
  obtain ⟨O, HO⟩ : ∃ O, Hid (parseT s = O) := ⟨_, hide rfl⟩
  rw [HO.out]
  have hmf : ∀ (fn : Fn) (first cap : Array Value) (w : World), (Instr.makeFunc fn first cap).run Tryz.prog w = .ok (.func fn first cap) w := fun _ _ _ _ => rfl
  have hmm := @run_makeMap Tryz.prog
  have hcf : ∀ (args : Array Value) (w : World), (callFunc 15 args).run Tryz.prog w = .ok (.enter 15 args) w := enters_of Tryz.func15 (by kernel_rfl) rfl
  go_enter Tryz.func5, Tryz.ntmps5
  go_wp2_with fail
  obtain ⟨V, HV⟩ : ∃ V, Hid (((((w.alloc (.cells #[.int .i64 0, .int .i64 0] 25)).alloc (.cells #[.slice none 0 0] 22)).alloc (.map #[] 0)).alloc (.cells #[.map (some (w.heap.size + 1 + 1))] 41)) = V) := ⟨_, hide rfl⟩
  have hVs : V.heap.size = w.heap.size + 4 := by rw [← HV.out]; simp
  have hb0 : ∀ k, k < w.heap.size → V.heap[k]? = w.heap[k]? := fun k hk => by rw [← HV.out]; exact ((((Grow.refl w).alloc _).alloc _).alloc _).alloc _ |>.block k hk
  have hb1 : V.heap[w.heap.size]? = some zeroF := by
    rw [← HV.out]
    exact Grow.get ((((Grow.refl _).alloc _).alloc _).alloc _) (heap_alloc_new w _)
  have hb2 : V.heap[w.heap.size + 1]? = some (.cells #[.slice none 0 0] 22 (0, 0)) := by
    rw [← HV.out]
    have h := heap_alloc_new (w.alloc (.cells #[.int .i64 0, .int .i64 0] 25)) (.cells #[.slice none 0 0] 22)
    rw [show (w.alloc (.cells #[.int .i64 0, .int .i64 0] 25)).heap.size = w.heap.size + 1 by simp] at h
    exact Grow.get (((Grow.refl _).alloc _).alloc _) h
  have hb3 : V.heap[w.heap.size + 3]? = some (.cells #[.map (some (w.heap.size + 2))] 41 (0, 0)) := by
    rw [← HV.out]
    have h := heap_alloc_new (((w.alloc (.cells #[.int .i64 0, .int .i64 0] 25)).alloc (.cells #[.slice none 0 0] 22)).alloc (.map #[] 0)) (.cells #[.map (some (w.heap.size + 1 + 1))] 41)
    rw [show (((w.alloc (.cells #[.int .i64 0, .int .i64 0] 25)).alloc (.cells #[.slice none 0 0] 22)).alloc (.map #[] 0)).heap.size = w.heap.size + 3 by simp] at h
    exact h
  have hmp : V.ownsMap Tryz.prog 9 unitElem (w.heap.size + 2) 0 (setOf (H := Unit) (.agg []) (textsT [])) := by
    rw [← HV.out]
    have := World.ownsMap_made (P := Tryz.prog) (H := Unit) ((w.alloc (.cells #[.int .i64 0, .int .i64 0] 25)).alloc (.cells #[.slice none 0 0] 22)) 9 unitElem
    simp at this
    exact this.alloc _
  have HPJ : Hid (PJ w [] V) := hide ⟨⟨by rw [← HV.out]; rfl, by rw [← HV.out]; rfl, by rw [← HV.out]; rfl, by omega, hb0⟩, by omega, hb1, hb3, hmp, ⟨_, [], hb2, ⟨World.ownsRow_nil _ _ _ _, fun p hp => absurd hp (by simp)⟩, rfl⟩, fun x hx => absurd hx (by simp), by simp⟩
  rw [HV.out]
  have HE := hide (each_any V s 15 #[.pointer (some ⟨w.heap.size + 3, 0, none⟩), .pointer (some ⟨w.heap.size + 1, 0, none⟩)] (PJ w) (PF w) stepT [] hcf hs HPJ.out
    (fun st W o _ h => h.grow ((Grow.refl W).alloc o)) (fun st W i u h => by rw [hVs]; exact h.stay (grownS W (w.heap.size + 4) i u) (fun g e => by cases e; exact .inl rfl))
    (fun W o _ h => ⟨Below.alloc h.1 (by have := h.2.1; omega) o, Nat.le_trans h.2.1 (by simp), ((Grow.refl W).alloc o).get h.2.2⟩)
    (fun W i u h => by
      rw [hVs]
      refine ⟨⟨h.1.os, h.1.tape, h.1.output, by simpa [World.setCell] using h.1.size, fun k hk => (Below.heap_setCell _ _ _ _ (by show k ≠ w.heap.size + 4; omega)).trans (h.1.block k hk)⟩, by simpa [World.setCell] using h.2.1, (Below.heap_setCell _ _ _ _ (by show w.heap.size ≠ w.heap.size + 4; omega)).trans h.2.2⟩)
    (fun st W h => h.fails)
    (fun st W b t f hb h hf hi hz => by
      rw [hVs] at hb ⊢
      exact line_any w W st b f t h hb hf hi))
  have HOP : eachF stepT s [] = O := HO.out
  rw [HOP] at HE
  clear hb0 hb1 hb2 hb3 hmp hVs HOP
  refine HE.out.mono ?_
  rintro e w1 hE
  clear HE HPJ
  cases O with
  | ok st =>
    obtain ⟨rfl, hj⟩ := hE
    have HJ := hide hj
    obtain ⟨v, ps, hv, hps, hst⟩ := hj.tg
    have HPS := hide hps
    have HST := hide hst
    obtain ⟨vo, vc, hvs⟩ := own_shape hps.1
    have hgA := (Grow.refl w1).alloc (.cells #[.int .i64 0, .int .i64 0] 25)
    subst hvs
    have c1 := cell_of_one (hgA.get hv)
    obtain ⟨d0, d1, y0, y1⟩ := two_free (hgA.get hj.fz)
    clear hj hv hps hst hgA
    go_wp2
    have hZ := zero_set (((Grow.refl w1).alloc (.cells #[.int .i64 0, .int .i64 0] 25)).get HJ.out.fz) (.int .i64 0) (.int .i64 0)
    refine bodyPost_ret (v := .tuple #[.slice vo ps.length vc, .agg #[.int .i64 0, .int .i64 0]]) (results_tmp_cell (p := 3) (u := 2) (ty := 25) rfl _ _ w.heap.size _ _ _ _ rfl hZ Tryz.underlying25 rfl infoF) rfl ?_
    have hgr : Grow w (((w1.alloc (.cells #[.int .i64 0, .int .i64 0] 25)).setCell ⟨w.heap.size, 0, none⟩ (.int .i64 0)).setCell ⟨w.heap.size, 1, none⟩ (.int .i64 0)) := by
      have h1 := HJ.out.gr.alloc (by have := HJ.out.sz; omega) (.cells #[.int .i64 0, .int .i64 0] 25)
      exact ⟨h1.os, h1.tape, h1.output, by simpa [World.setCell] using h1.size, fun k hk => (Below.heap_setCell _ _ _ _ (by show k ≠ w.heap.size; omega)).trans ((Below.heap_setCell _ _ _ _ (by show k ≠ w.heap.size; omega)).trans (h1.block k hk))⟩
    refine ⟨_, rfl, ?_, hgr⟩
    have hO2 : ownTgts (((w1.alloc (.cells #[.int .i64 0, .int .i64 0] 25)).setCell ⟨w.heap.size, 0, none⟩ (.int .i64 0)).setCell ⟨w.heap.size, 1, none⟩ (.int .i64 0)) (w.heap.size + 5) (.slice vo ps.length vc) ps := by
      have h1 := HPS.out.grow ((Grow.refl w1).alloc (.cells #[.int .i64 0, .int .i64 0] 25))
      have far : ∀ {e size n : Nat} {u : Value} {xs : List Value}, (w1.alloc (.cells #[.int .i64 0, .int .i64 0] 25)).ownsRow (w.heap.size + 5) e size u n xs → (((w1.alloc (.cells #[.int .i64 0, .int .i64 0] 25)).setCell ⟨w.heap.size, 0, none⟩ (.int .i64 0)).setCell ⟨w.heap.size, 1, none⟩ (.int .i64 0)).ownsRow (w.heap.size + 5) e size u n xs := fun {e size n u xs} q => own_keep q fun g hg => by
        have := (q.lt g hg).1
        exact (Below.heap_setCell _ _ _ _ (by show g ≠ w.heap.size; omega)).trans (Below.heap_setCell _ _ _ _ (by show g ≠ w.heap.size; omega))
      exact ⟨far h1.1, fun p hp => far (h1.2 p hp)⟩
    have := hO2.reads
    rw [HST.out] at this
    exact this
  | error x =>
    obtain ⟨rfl, hf⟩ := hE
    have HF := hide hf
    obtain ⟨d0, d1, y0, y1⟩ := two_free (((Grow.refl w1).alloc (.cells #[.int .i64 x.1, .int .i64 x.2] 25)).get hf.2.2)
    clear hf
    have hx : x.1 ≠ 0 := eachF_err stepT_err HO.out
    have hxi : ((x.1 : Int) != 0) = true := by simpa using hx
    go_wp2
    go_region
    go_wp2
    have hZ := zero_set (((Grow.refl w1).alloc (.cells #[.int .i64 x.1, .int .i64 x.2] 25)).get HF.out.2.2) (.int .i64 x.1) (.int .i64 x.2)
    have hgr : Grow w ((((w1.alloc (.cells #[.int .i64 x.1, .int .i64 x.2] 25)).setCell ⟨w.heap.size, 0, none⟩ (.int .i64 x.1)).setCell ⟨w.heap.size, 1, none⟩ (.int .i64 x.2)).drew) := by
      have h1 := Below.alloc HF.out.1 (by have := HF.out.2.1; omega) (.cells #[.int .i64 x.1, .int .i64 x.2] 25)
      exact ⟨h1.os, h1.tape, h1.output, by simpa [World.setCell] using h1.size, fun k hk => (Below.heap_setCell _ _ _ _ (by show k ≠ w.heap.size; omega)).trans ((Below.heap_setCell _ _ _ _ (by show k ≠ w.heap.size; omega)).trans (h1.block k hk))⟩
    refine bodyPost_ret (v := .tuple #[.slice none 0 0, .agg #[.int .i64 x.1, .int .i64 x.2]]) (results_tmp_cell (p := 3) (u := 2) (ty := 25) rfl _ _ w.heap.size _ _ _ _ rfl hZ Tryz.underlying25 rfl infoF) rfl ?_
    exact ⟨_, rfl, ⟨none, 0, rfl, Nat.le_refl _, fun i h => absurd h (by simp [okT])⟩, hgr⟩
end Go.Proofs.YtdlmgkncneifaaaGreat.Fd
