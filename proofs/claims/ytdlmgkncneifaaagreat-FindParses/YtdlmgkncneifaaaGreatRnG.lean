/- The reference's targets of a text. -/
import Derived.Laws.OwnMore
import Derived.Maps.AppendAt
import Derived.Deep.Cut
import Derived.Deep.CutRange
import Derived.Deep.DeepCutAuto
import Derived.Deep.CutBlock
import Derived.Test.YtdlmgkncneifaaaGreatProg
import Derived.Test.YtdlmgkncneifaaaGreatKit
import Derived.Test.YtdlmgkncneifaaaGreatReg
import Derived.Test.YtdlmgkncneifaaaGreatLSpec
import Derived.Test.YtdlmgkncneifaaaGreatLRow
import Derived.Test.YtdlmgkncneifaaaGreatLRefB
import Derived.Test.YtdlmgkncneifaaaGreatFdA
import Derived.Test.YtdlmgkncneifaaaGreatFdF
import Derived.Test.YtdlmgkncneifaaaGreatFdJ
import Derived.Test.YtdlmgkncneifaaaGreatFdK
import Derived.Test.YtdlmgkncneifaaaGreatLMak
import Derived.Test.YtdlmgkncneifaaaGreatFdM
import Derived.Test.YtdlmgkncneifaaaGreatLnA
import Derived.Test.YtdlmgkncneifaaaGreatLnF
import Derived.Test.YtdlmgkncneifaaaGreatRnA
import Derived.Test.YtdlmgkncneifaaaGreatRnC
import Derived.Test.YtdlmgkncneifaaaGreatRnD
import Derived.Test.YtdlmgkncneifaaaGreatRnE
import Derived.Test.YtdlmgkncneifaaaGreatRnF
import Derived.BigQuiet
set_option linter.unusedVariables false
set_option linter.unusedSimpArgs false
namespace Go.Proofs.YtdlmgkncneifaaaGreat.Rn
open Go.RowKit Lb Ln Go.Proofs.YtdlmgkncneifaaaGreat.Fd
attribute [local go_sem] bs_size bs_toList bs_append bs_get bs_extract

/-- What a line S that begins at f makes of the targets so far. -/
def stepR (S : List UInt8) (f : Nat) (st : List Tgt) : Except (Nat × Nat) (List Tgt) :=
  if blR S = [] ∨ skipB 35 (blR S) = true then .ok st else match lkR ((blR S).length + 1) (blR S) with
    | .error q => .error (1, f + pos S q)
    | .ok ls => if makeErr ls = 0 then (if makeL ls = [] then .error (5, f) else if makeL ls ∈ st then .error (6, f) else if st.length = 100 then .error (2, f) else .ok (st ++ [makeL ls])) else .error (makeErr ls, f)
def runR (s : List UInt8) : List (Nat × Nat) → List Tgt → Except (Nat × Nat) (List Tgt)
  | [], st => .ok st
  | p :: L, st => match stepR ((s.drop p.1).take (p.2 - p.1)) p.1 st with
    | .error x => .error x
    | .ok st' => runR s L st'
/-- What TargetsOf says. -/
def targetsR (s : List UInt8) : Except (Nat × Nat) (List Tgt) := if 20000 < s.length then .error (2, 0) else runR s (linesR s (s.length + 1) 0) []
theorem linesR_in (s : List UInt8) : ∀ (n f : Nat), ∀ p ∈ linesR s n f, p.1 ≤ p.2 ∧ p.2 ≤ s.length ∧ p.2 = lineEnd s p.1
  | 0, f, p, hp => by cases hp
  | n + 1, f, p, hp => by
    rw [linesR] at hp
    split at hp
    · rename_i hlt
      rcases List.mem_cons.1 hp with rfl | hp
      · have := lineEnd_le (s := s) (f := f) (by omega)
        exact ⟨this.1, this.2, rfl⟩
      · exact linesR_in s n _ p hp
    · cases hp
theorem lk_out {r : List UInt8} {ls : List Lab} (h : lkR (r.length + 1) r = .ok ls) : ls.length ≤ r.length ∧ ∀ y ∈ ls, y.1.length ≤ r.length ∧ y.2.length ≤ r.length := by
  rw [lkR_eq _ _ (Nat.lt_succ_self _)] at h
  cases hg : labsG (r.length + 1) r with
  | error q => rw [hg] at h; cases h
  | ok x =>
    rw [hg] at h
    unfold wholeL at h
    simp only at h
    split at h
    · cases h; exact labsG_out _ hg
    · cases h
theorem linesR_len (s : List UInt8) : ∀ (n f : Nat), (linesR s n f).length ≤ n
  | 0, f => Nat.le_refl _
  | n + 1, f => by
    rw [linesR]
    split
    · have := linesR_len s n (lineEnd s f + 1)
      rw [List.length_cons]; omega
    · simp
theorem rtgts_nil (w : World) (B : Nat) : readsTgts w B (.slice none 0 0) [] := ⟨none, 0, rfl, Nat.le_refl _, fun i h => absurd h (by simp)⟩
theorem own_growF {w w' : World} {base e size n : Nat} {v : Value} {xs : List Value} (h : w.ownsRow base e size v n xs) (g : Grow w w') : w'.ownsRow base e size v n xs := own_keep h fun b hb => g.block b (h.lt b hb).2
theorem own_base {w : World} {B B' e size n : Nat} {v : Value} {xs : List Value} (h : w.ownsRow B e size v n xs) (hB : B' ≤ B) : w.ownsRow B' e size v n xs := by
  refine ⟨h.1, ?_⟩
  rcases h.2 with h2 | ⟨g, cap, cur, h1, h2, h3⟩
  · exact .inl h2
  · exact .inr ⟨g, cap, cur, h1, Nat.le_trans hB h2, h3⟩
theorem own_kind {w : World} {B B' e e' size size' n n' : Nat} {v v' : Value} {xs xs' : List Value} (h : w.ownsRow B e size v n xs) (h' : w.ownsRow B' e' size' v' n' xs') (he : e ≠ e') {g : Nat} (hg : v.ownBlock = some g) : v'.ownBlock ≠ some g := by
  intro hg'
  rcases h.2 with ⟨rfl, _⟩ | ⟨k, cap, cur, rfl, _, h1, _⟩
  · cases hg
  · rcases h'.2 with ⟨rfl, _⟩ | ⟨k', cap', cur', rfl, _, h1', _⟩
    · cases hg'
    · cases hg
      cases hg'
      rw [h1] at h1'
      cases h1'
      exact he rfl
theorem zero_grow {w W : World} {z : Nat} (h : Below z w W) (hz : z = w.heap.size) (x y : Value) (n : Nat) : Grow w (((W.setCell ⟨z, 0, none⟩ x).setCell ⟨z, 1, none⟩ y).drewN n) := by
  subst hz
  exact ⟨h.os, h.tape, h.output, by simpa [World.setCell] using h.size, fun k hk => (Below.heap_setCell _ _ _ _ (by show k ≠ w.heap.size; omega)).trans ((Below.heap_setCell _ _ _ _ (by show k ≠ w.heap.size; omega)).trans (h.block k hk))⟩
theorem line_no10 {s : List UInt8} {f : Nat} (hf : f ≤ s.length) : ∀ c ∈ (s.drop f).take (lineEnd s f - f), c ≠ 10 := by
  intro c hc
  obtain ⟨j, hj, rfl⟩ := List.getElem_of_mem hc
  rw [List.length_take, List.length_drop] at hj
  rw [List.getElem_take]
  intro e
  have hge := Lib.indexByte_ge (s.drop f) 10
  have h1 : (s.drop f)[j]? = some 10 := by rw [List.getElem?_eq_getElem (by rw [List.length_drop]; omega), e]
  unfold lineEnd at hj
  split at hj
  · obtain ⟨o, ho⟩ : ∃ o : Nat, Lib.indexByte (s.drop f) 10 = (o : Int) := ⟨(Lib.indexByte (s.drop f) 10).toNat, by omega⟩
    rw [ho, Int.toNat_natCast] at hj
    exact (Lib.indexByte_some ho).2 j (by omega) h1
  · exact Lib.indexByte_none (by omega) j h1
theorem own_cell1 {w : World} {B e n : Nat} {v : Value} {us : List Value} (h : w.ownsRow B e 1 v n us) {i : Nat} (hi : i < us.length) (hn : i < n) : ∃ g cap, v = .slice (some ⟨g, 0, none⟩) n cap ∧ n ≤ cap ∧ g < w.heap.size ∧ w.cell? ⟨g, i, none⟩ = some us[i] := by
  rcases h.2 with ⟨_, h0⟩ | ⟨g, cap, cur, r1, r2, r3, r4, _⟩
  · omega
  · have hc := World.ownsRow.cells h (g := g) (by rw [r1]; rfl)
    have r0 := hc i us[i] (List.getElem?_eq_getElem hi)
    rw [Addr.add_lit] at r0
    exact ⟨g, cap, r1, r4, lt_of_block r3, by simpa using r0⟩
set_option maxRecDepth 20000 in
set_option maxHeartbeats 40000000 in
theorem rtargets_any (w : World) (s : List UInt8) (hs : s.length ≤ 9223372036854775807) :
    Calls Tryz.prog 6 #[.string (bs s)] w fun e w' => ∃ v, e = .returned (.tuple #[v, .agg #[.int .i64 (faultT (targetsR s)).1, .int .i64 (faultT (targetsR s)).2]]) ∧ readsTgts w' w'.heap.size v (okT (targetsR s)) ∧ Grow w w' := by
  obtain ⟨i0, hi0, hz0, hz1, hz2⟩ := info_parts infoTgt
  obtain ⟨O, HO⟩ : ∃ O, Hid (targetsR s = O) := ⟨_, hide rfl⟩
  rw [HO.out]
  have hO := HO.out
  unfold targetsR at hO
  obtain ⟨V, HV⟩ : ∃ V, Hid (w.alloc (.cells #[.int .i64 0, .int .i64 0] 25) = V) := ⟨_, hide rfl⟩
  have HZ0 : Hid (V.heap[w.heap.size]? = some (.cells #[.int .i64 0, .int .i64 0] 25 (0, 0))) := hide (by rw [← HV.out]; exact heap_alloc_new _ _)
  have HGV : Hid (Grow w V) := hide (by rw [← HV.out]; exact (Grow.refl w).alloc _)
  by_cases hl : 20000 < s.length
  · rw [if_pos hl] at hO
    subst hO
    have hli : (20000 : Int) < (s.length : Int) := by omega
    obtain ⟨q0, q1, y0, y1⟩ := two_free HZ0.out
    go_enter Tryz.func6, Tryz.ntmps6
    go_wp2
    have hzz := heap_alloc_new w (.cells #[.int .i64 2, .int .i64 0] 25)
    refine bodyPost_ret (v := .tuple #[.slice none 0 0, .agg #[.int .i64 2, .int .i64 0]]) (results_tmp_cell (p := 3) (u := 2) (ty := 25) rfl _ _ w.heap.size _ _ _ _ rfl hzz Tryz.underlying25 rfl infoF) rfl ?_
    exact ⟨_, by first | rfl | simp [faultT], rtgts_nil _ _, (Grow.refl w).alloc _⟩
  · rw [if_neg hl] at hO
    have hli : ¬ (20000 : Int) < (s.length : Int) := by omega
    have HO1 := hide hO
    clear hO
    go_enter Tryz.func6, Tryz.ntmps6
    go_wp2_with fail
    rw [HV.out]
    refine (rlines_any V s (by omega)).mono ?_
    rintro e X ⟨lv, rfl, hrl, hgx⟩
    have HGX := hide hgx
    have HZX : Hid (X.heap[w.heap.size]? = some (.cells #[.int .i64 0, .int .i64 0] 25 (0, 0))) := hide (hgx.get HZ0.out)
    obtain ⟨us, hul, hrow, hpr⟩ := hrl
    obtain ⟨L, HL⟩ : ∃ L, Hid (linesR s (s.length + 1) 0 = L) := ⟨_, hide rfl⟩
    rw [HL.out] at hul hrow hpr HO1
    obtain ⟨lo, lc, hlv⟩ := own_shape hrow
    subst hlv
    have HROW := hide hrow
    have HPR := hide hpr
    have hLl : L.length ≤ 20001 := by have := linesR_len s (s.length + 1) 0; rw [HL.out] at this; omega
    clear hgx hrow hpr
    go_wp2
    go_loopw [4, 6] (fun v iv wr => ∃ (i : Nat) (ps : List TP), i ≤ L.length ∧ iv = .int .i64 i ∧ ps.length ≤ 100 ∧ Hid (runR s (L.drop i) (tgts ps) = O) ∧ Hid (rowT wr X.heap.size v ps) ∧ Hid (∀ p ∈ ps, ownLabels wr X.heap.size p.2 p.1 ∧ p.1.length ≤ 20) ∧ Hid (Grow X wr)) (fun _ iv _ => L.length - (intOf iv).toNat)
    case atStart => exact ⟨0, [], by omega, rfl, by simp, hide (by rw [List.drop_zero]; exact HO1.out), hide (World.ownsRow_nil _ _ _ _), hide (fun p hp => absurd hp (by simp)), hide (Grow.refl _)⟩
    case round =>
      obtain ⟨i, ps, hi, rfl, hpl, HR, HRT, HPS, HG⟩ := hrel
      obtain ⟨vo, vc, htv⟩ := own_shape HRT.out
      subst htv
      by_cases hlt : i < L.length
      · have hlti : (i : Int) < (L.length : Int) := by omega
        have hiu : i < us.length := by omega
        obtain ⟨z, hz1', hz2', hz3', hz4'⟩ := HPR.out i hiu hlt
        obtain ⟨f, e, hp⟩ : ∃ f e, L[i] = (f, e) := ⟨_, _, rfl⟩
        obtain ⟨hfe, hes, hle⟩ := linesR_in s (s.length + 1) 0 (f, e) (by rw [HL.out, ← hp]; exact List.getElem_mem hlt)
        simp only at hfe hes hle
        rw [hp] at hz4'
        obtain ⟨g, cap, hv0, hcap, hgl, c0⟩ := own_cell1 HROW.out hiu hlt
        rw [hz1'] at c0
        simp only [Value.slice.injEq, true_and] at hv0
        obtain ⟨rfl, rfl⟩ := hv0
        have e0 := (HG.out.cell (p := ⟨g, i, none⟩) hgl).trans c0
        obtain ⟨e1, e2, -, -⟩ := two_free (HG.out.get hz4')
        obtain ⟨S, hS⟩ : ∃ S, (s.drop f).take (e - f) = S := ⟨_, rfl⟩
        have HN10 : Hid (∀ c ∈ S, c ≠ 10) := hide (by rw [← hS, hle]; exact line_no10 (by omega))
        have hSl : S.length = e - f := by rw [← hS, List.length_take, List.length_drop]; omega
        obtain ⟨B, HB⟩ : ∃ B, Hid ((wr.alloc (.cells #[.string (bs S), .int .i64 0, .int .i64 (f : Int), .int .i64 0, .int .i64 0] 58)).drew = B) := ⟨_, hide rfl⟩
        have hgb : Grow wr B := by rw [← HB.out]; exact ((Grow.refl wr).alloc _).trans (growR_drew _ 1)
        have hRL : RL B wr.heap.size S 0 f 0 0 := ⟨by omega, by omega, by omega, by rw [← HB.out]; exact heap_alloc_new _ _⟩
        have hr := HR.out
        rw [List.drop_eq_getElem_cons hlt, hp, runR] at hr
        simp only at hr
        rw [hS] at hr
        have HGB := hide hgb
        have HRL := hide hRL
        have HRR := hide hr
        have hfi : (f : Int) ≤ (e : Int) := by omega
        have hei : (e : Int) ≤ (s.length : Int) := by omega
        clear c0 hz4' hz1' hgb hRL hr hp hle
        go_upto_region 8 with fail
        go_region
        rw [HB.out]
        obtain ⟨b, hb⟩ : ∃ b, wr.heap.size = b := ⟨_, rfl⟩
        rw [hb] at HRL ⊢
        have HBW := hide hb
        have HZB : Hid (w.heap.size ≠ b) := hide (by
          have h1 := lt_of_block HZX.out
          have h2 := HG.out.size
          omega)
        have HBB : Hid (w.heap.size ≤ b) := hide (by have := lt_of_block HZX.out; have := HG.out.size; omega)
        have HBB2 : Hid (w.heap.size ≤ B.heap.size) := hide (by have := HGB.out.size; have := HBB.out; omega)
        have ST := hide (rtells_any B b f S 0 0 HRL.out)
        clear hb
        obtain ⟨c, hc⟩ : ∃ c, nxt (blR S) = c := ⟨_, rfl⟩
        rw [hc] at ST
        have HRR2 := HRR.out
        unfold stepR at HRR2
        by_cases hz : blR S = [] ∨ skipB 35 (blR S) = true
        · as_aux_lemma =>
            rw [if_pos hz] at HRR2
            simp only at HRR2
            have HRR3 := hide HRR2
            have hcc : c = 10 ∨ c = 35 := by
              rw [← hc]
              rcases hz with h | h
              · rw [h]; exact .inl rfl
              · cases hq : blR S with
                | nil => exact .inl rfl
                | cons x q =>
                  rw [hq] at h
                  exact .inr (by simpa [skipB, nxt] using h)
            clear hc hz HRR2
            rcases hcc with rfl | rfl
            all_goals
              go_wp2_with fail
              refine ST.out.mono ?_
              rintro e w2 ⟨rfl, n2, rfl⟩
              have HG2 : Hid (Grow wr (B.drewN n2)) := hide (HGB.out.trans (growR_drew _ _))
              go_wp2
              go_roundw
              case rel => exact ⟨i + 1, ps, by omega, by go_num, hpl, HRR3, hide (own_keep HRT.out fun g hg => HG2.out.block g (HRT.out.lt g hg).2), hide (fun p hp => ⟨own_keep (HPS.out p hp).1 fun g hg => HG2.out.block g ((HPS.out p hp).1.lt g hg).2, (HPS.out p hp).2⟩), hide (HG.out.trans HG2.out)⟩
              case measure => simp [intOf]; omega
        · rw [if_neg hz] at HRR2
          have hcc : c.toNat ≠ 10 ∧ c.toNat ≠ 35 := by
            rw [← hc]
            cases hq : blR S with
            | nil => exact absurd (.inl hq) hz
            | cons x q =>
              rw [hq] at hz
              refine ⟨fun h => ?_, fun h => ?_⟩
              · have : x ∈ S := (blR_suf S).subset (by rw [hq]; exact List.mem_cons_self ..)
                exact HN10.out x this (UInt8.toNat_inj.1 h)
              · have h2 : x = 35 := UInt8.toNat_inj.1 h
                exact hz (.inr (by rw [h2]; rfl))
          obtain ⟨hc10, hc35⟩ := hcc
          have hx10 : ((c.toNat : Int) == 10) = false := byte_ne hc10
          have hx35 : ((c.toNat : Int) == 35) = false := byte_ne hc35
          have SL := hide fun n => rlabels_any (B.drewN n) b 0 f S (Nat.zero_le _) HN10.out (HRL.out.drewN n)
          rw [List.drop_zero] at SL
          clear hz hc
          cases hlk : lkR ((blR S).length + 1) (blR S) with
          | error q =>
            as_aux_lemma =>
              rw [hlk] at SL HRR2
              simp only at HRR2
              subst HRR2
              clear hlk
              go_wp2_with fail
              refine ST.out.mono ?_
              rintro e w2 ⟨rfl, n2, rfl⟩
              go_wp2_with fail
              refine (SL.out n2).mono ?_
              rintro e w3 ⟨hk3, v3, k3, rfl, hr3⟩
              have HK3 := hide (((KI.refl b B).drewN n2).trans hk3)
              have HR3 := hide hr3
              clear hk3 hr3 ST SL
              obtain ⟨d0, d1, d2, d3, d4, -, -, -⟩ := five_cells HR3.out.cell
              have SM := hide (rmade_no w3 b k3 f S v3 1 _ (by decide) HR3.out)
              go_wp2_with fail
              refine SM.out.mono ?_
              rintro e w4 ⟨rfl, rfl⟩
              have hne0 : ((1 : Int) == 0) = false := by decide
              obtain ⟨s0', s1', s2', s3', s4', -, -, -⟩ := five_cells HR3.out.cell
              go_upto_block 2 with fail
              go_cut [10] from 88 to 110 (fun _ wx => wx = w4)
              case first =>
                go_wp2_with fail
                go_loopw [10] (fun jv wr2 => jv = .int .i64 0 ∧ wr2 = w4) (fun _ _ => 0)
                case atStart => exact ⟨rfl, rfl⟩
                case round =>
                  obtain ⟨rfl, rfl⟩ := hrel
                  by_cases h0 : 0 < ps.length
                  · have h0i : (0 : Int) < (ps.length : Int) := by omega
                    have h0d : decide ((0 : Int) < (ps.length : Int)) = true := decide_eq_true h0i
                    go_wp2
                    go_meet
                    exact rfl
                  · have h0i : ¬ (0 : Int) < (ps.length : Int) := by omega
                    have h0d : decide ((0 : Int) < (ps.length : Int)) = false := decide_eq_false h0i
                    go_wp2
                    go_meet
                    exact rfl
              case rest =>
              rw [hcut]
              obtain ⟨r0', r1', r2', r3', r4', -, -, -⟩ := five_cells HR3.out.cell
              have hzz := HK3.out.get (HGB.out.get (HG.out.get HZX.out)) HZB.out
              obtain ⟨z0', z1', z2'', z3''⟩ := two_free hzz
              have HBZ : Hid (Below w.heap.size w w4) := hide (Below.trans ((HGV.out.trans HGX.out).trans ((HG.out.trans HGB.out).mono (by have := HGX.out.size; have := HGV.out.size; omega))) (HK3.out.below HBB.out HBB2.out))
              go_upto_region 25 with fail
              go_region
              go_wp2
              refine bodyPost_ret (v := .tuple #[.slice none 0 0, .agg #[.int .i64 1, .int .i64 ((f : Int) + (pos S q : Int))]]) (results_tmp_cell (p := 3) (u := 2) (ty := 25) rfl _ _ w.heap.size _ _ _ _ rfl (zero_set hzz _ _) Tryz.underlying25 rfl infoF) rfl ?_
              refine ⟨_, by first | rfl | simp [faultT], rtgts_nil _ _, ?_⟩
              exact zero_grow HBZ.out rfl _ _ 1
          | ok ls =>
            rw [hlk] at SL HRR2
            simp only at HRR2
            obtain ⟨hb1, hb2⟩ := lk_out hlk
            have hblS : (blR S).length ≤ S.length := bl_len S
            clear hlk
            go_wp2_with fail
            refine ST.out.mono ?_
            rintro e w2 ⟨rfl, n2, rfl⟩
            go_wp2_with fail
            refine (SL.out n2).mono ?_
            rintro e w3 ⟨hk3, v3, k3, rfl, hown3, hr3, hd3⟩
            obtain ⟨so3, sc3, hv3⟩ := own_shape hown3
            subst hv3
            have HK3 := hide (((KI.refl b B).drewN n2).trans hk3)
            have SN := hide (rnext_any w3 b k3 f S 0 0 hr3)
            rw [hd3, show nxt [] = 10 from rfl] at SN
            obtain ⟨d0, d1, d2, d3, d4, -, -, -⟩ := five_cells hr3.cell
            have SM := hide fun n => rmade_any (w3.drewN n) b k3 f S (.slice so3 ls.length sc3) ls (readsLabels_mono (readsLabels_below (reads_ownLabels hown3) (growR_drew w3 n)) (growR_drew w3 n).size) (by omega) (fun x hx => by have := hb2 x hx; omega) (hr3.drewN n)
            have HB3 : Hid (b < w3.heap.size) := hide (lt_of_block hr3.cell)
            clear hk3 hown3 hr3 hd3 ST SL hb2
            go_wp2_with fail
            refine SN.out.mono ?_
            rintro e w4 ⟨rfl, n4, rfl⟩
            go_wp2_with fail
            refine (SM.out n4).mono ?_
            rintro e w5 ⟨v5, rfl, hk5, hm5⟩
            have HK5 : Hid (KI b B w5) := hide ((HK3.out.drewN n4).trans hk5)
            clear hk5 SN SM
            by_cases hme : makeErr ls = 0
            · rw [if_pos hme] at HRR2 hm5
              obtain ⟨hown5, hr5⟩ := hm5
              have hck := make_rightF hme
              rw [makeAns_ok hme] at hck
              obtain ⟨l, hl⟩ : ∃ l, makeL ls = l := ⟨_, rfl⟩
              rw [hl] at HRR2 hown5 hck
              have hl20 := (lens_right hck).1
              obtain ⟨so5, sc5, hv5⟩ := own_shape hown5
              subst hv5
              have HOW5 := hide hown5
              have HR5 := hide hr5
              clear hown5 hr5 hme hl hck
              by_cases hle0 : l = []
              · as_aux_lemma =>
                  rw [if_pos hle0] at HRR2
                  simp only at HRR2
                  subst HRR2
                  subst hle0
                  obtain ⟨d0, d1, d2, d3, d4, -, -, -⟩ := five_cells HR5.out.cell
                  go_wp2_with fail
                  refine (rwrong_any w5 b k3 f S 0 HR5.out 5 0 (by omega) (by omega)).mono ?_
                  rintro e w6 ⟨rfl, hk6, hr6⟩
                  rw [Int.add_zero] at hr6
                  have HK6 : Hid (KI b B w6) := hide (HK5.out.trans hk6)
                  have HR6 := hide hr6
                  clear hk6 hr6
                  have hne0 : ((5 : Int) == 0) = false := by decide
                  obtain ⟨s0', s1', s2', s3', s4', -, -, -⟩ := five_cells HR6.out.cell
                  go_upto_block 2 with fail
                  go_cut [10] from 88 to 110 (fun _ wx => wx = w6)
                  case first =>
                    go_wp2_with fail
                    go_loopw [10] (fun jv wr2 => jv = .int .i64 0 ∧ wr2 = w6) (fun _ _ => 0)
                    case atStart => exact ⟨rfl, rfl⟩
                    case round =>
                      obtain ⟨rfl, rfl⟩ := hrel
                      by_cases h0 : 0 < ps.length
                      · have h0i : (0 : Int) < (ps.length : Int) := by omega
                        have h0d : decide ((0 : Int) < (ps.length : Int)) = true := decide_eq_true h0i
                        go_wp2
                        go_meet
                        exact rfl
                      · have h0i : ¬ (0 : Int) < (ps.length : Int) := by omega
                        have h0d : decide ((0 : Int) < (ps.length : Int)) = false := decide_eq_false h0i
                        go_wp2
                        go_meet
                        exact rfl
                  case rest =>
                  rw [hcut]
                  obtain ⟨r0', r1', r2', r3', r4', -, -, -⟩ := five_cells HR6.out.cell
                  have hzz := HK6.out.get (HGB.out.get (HG.out.get HZX.out)) HZB.out
                  obtain ⟨z0', z1', z2'', z3''⟩ := two_free hzz
                  have HBZ : Hid (Below w.heap.size w w6) := hide (Below.trans ((HGV.out.trans HGX.out).trans ((HG.out.trans HGB.out).mono (by have := HGX.out.size; have := HGV.out.size; omega))) (HK6.out.below HBB.out HBB2.out))
                  go_upto_region 25 with fail
                  go_region
                  go_wp2
                  refine bodyPost_ret (v := .tuple #[.slice none 0 0, .agg #[.int .i64 5, .int .i64 (f : Int)]]) (results_tmp_cell (p := 3) (u := 2) (ty := 25) rfl _ _ w.heap.size _ _ _ _ rfl (zero_set hzz _ _) Tryz.underlying25 rfl infoF) rfl ?_
                  refine ⟨_, by first | rfl | simp [faultT], rtgts_nil _ _, ?_⟩
                  exact zero_grow HBZ.out rfl _ _ 1
              · rw [if_neg hle0] at HRR2
                have hll : l.length ≠ 0 := fun e => hle0 (List.eq_nil_of_length_eq_zero e)
                have hlli : ((l.length : Int) == 0) = false := by simp only [beq_eq_false_iff_ne, ne_eq]; omega
                obtain ⟨d0, d1, d2, d3, d4, -, -, -⟩ := five_cells HR5.out.cell
                go_upto_block 2 with fail
                go_cut [10] from 88 to 110 (fun _ wx => KI b w5 wx ∧ RL wx b S k3 f (if l ∈ tgts ps then 6 else 0) (if l ∈ tgts ps then (f : Int) else 0))
                case first =>
                  as_aux_lemma =>
                    go_wp2_with fail
                    go_loopw [10] (fun jv wq => ∃ j : Nat, j ≤ ps.length ∧ jv = .int .i64 j ∧ Hid (KI b w5 wq) ∧ ((Hid (∀ q ∈ (tgts ps).take j, q ≠ l) ∧ Hid (RL wq b S k3 f 0 0)) ∨ (Hid (l ∈ tgts ps) ∧ Hid (RL wq b S k3 f 6 (f : Int))))) (fun jv _ => ps.length - (intOf jv).toNat)
                    case atStart => exact ⟨0, by omega, rfl, hide (KI.refl _ _), .inl ⟨hide (by simp), HR5⟩⟩
                    case round =>
                      obtain ⟨j, hj, rfl, HKq, hcase⟩ := hrel
                      rename World => wq
                      rcases hcase with ⟨HNE, HRq⟩ | ⟨HMem, HRq⟩
                      · obtain ⟨d0, d1, d2, d3, d4, -, -, -⟩ := five_cells HRq.out.cell
                        by_cases hlt2 : j < ps.length
                        · have hj1 : (j : Int) < (ps.length : Int) := by omega
                          have hjd : decide ((j : Int) < (ps.length : Int)) = true := decide_eq_true hj1
                          have HKwq : Hid (KI b wr wq) := hide (((KI.grow HGB.out).trans HK5.out).trans HKq.out)
                          have hrtq : rowT wq X.heap.size (.slice vo ps.length vc) ps := own_keep HRT.out fun g hg => HKwq.out.block g (HRT.out.lt g hg).2 (by have := (HRT.out.lt g hg).2; have := HBW.out; omega)
                          obtain ⟨g2, cap2, hv2, hcp2, hgl2, c2⟩ := own_cell1 hrtq (i := j) (by rw [vals_length]; exact hlt2) hlt2
                          simp only [Value.slice.injEq, true_and] at hv2
                          obtain ⟨rfl, rfl⟩ := hv2
                          rw [show (Fd.vals ps)[j]'(by rw [vals_length]; exact hlt2) = ps[j].2 by simp [Fd.vals]] at c2
                          have hpm := List.getElem_mem hlt2
                          have hpo := HPS.out _ hpm
                          have hbq : ownLabels wq X.heap.size ps[j].2 ps[j].1 := own_keep hpo.1 fun g hg => HKwq.out.block g (hpo.1.lt g hg).2 (by have := (hpo.1.lt g hg).2; have := HBW.out; omega)
                          have hol : ownLabels wq (w3.drewN n4).heap.size (.slice so5 l.length sc5) l := own_keep HOW5.out fun g hg => HKq.out.block g (HOW5.out.lt g hg).2 (by have := (HOW5.out.lt g hg).1; have := HB3.out; have h9 : (w3.drewN n4).heap.size = w3.heap.size := rfl; omega)
                          obtain ⟨F, HF⟩ : ∃ F, Hid (decide (ps[j].1 = l) = F) := ⟨_, hide rfl⟩
                          have hsl := sameLabels_any wq ps[j].2 (.slice so5 l.length sc5) ps[j].1 l (reads_ownLabels hbq) (reads_ownLabels hol) (by have := hpo.2; omega) (by omega)
                          rw [HF.out] at hsl
                          have HSL := hide hsl
                          obtain ⟨po, pc2, hpv⟩ := own_shape hbq
                          have HMM : Hid (ps[j].1 ∈ tgts ps) := hide (List.mem_map.2 ⟨ps[j], hpm, rfl⟩)
                          have HTK : Hid ((tgts ps).take (j + 1) = (tgts ps).take j ++ [ps[j].1]) := hide (by
                            have h1 : j < (tgts ps).length := by rw [tgts_length]; exact hlt2
                            rw [List.take_succ_eq_append_getElem h1]
                            congr 1
                            simp [tgts])
                          obtain ⟨pv, hpv2⟩ : ∃ pv, ps[j].2 = pv := ⟨_, rfl⟩
                          obtain ⟨pl, hpl2⟩ : ∃ pl, ps[j].1.length = pl := ⟨_, rfl⟩
                          rw [hpl2] at hpv
                          rw [hpv] at c2 HSL
                          clear hrtq hpm hpo hbq hol hsl hpv2 hpl2
                          cases F with
                          | true =>
                            have hmem : l ∈ tgts ps := by have := of_decide_eq_true HF.out; rw [← this]; exact HMM.out
                            have HMEM := hide hmem
                            clear hmem
                            go_wp2_with fail
                            refine HSL.out.mono ?_
                            rintro e w7 ⟨rfl, n7, rfl⟩
                            go_wp2_with fail
                            refine (rwrong_any (wq.drewN n7) b k3 f S 0 (HRq.out.drewN n7) 6 0 (by omega) (by omega)).mono ?_
                            rintro e w8 ⟨rfl, hk8, hr8⟩
                            rw [Int.add_zero] at hr8
                            have HK8 : Hid (KI b w5 w8) := hide ((HKq.out.drewN n7).trans hk8)
                            have HR8 := hide hr8
                            clear hk8 hr8
                            go_wp2
                            go_roundw
                            case rel => exact ⟨j + 1, by omega, by go_num, HK8, .inr ⟨HMEM, HR8⟩⟩
                            case measure => simp [intOf]; omega
                          | false =>
                            have HNE2 : Hid (∀ q ∈ (tgts ps).take (j + 1), q ≠ l) := hide (by
                              rw [HTK.out]
                              intro q hq
                              rcases List.mem_append.1 hq with h | h
                              · exact HNE.out q h
                              · rw [List.mem_singleton] at h; rw [h]; exact of_decide_eq_false HF.out)
                            go_wp2_with fail
                            refine HSL.out.mono ?_
                            rintro e w7 ⟨rfl, n7, rfl⟩
                            go_wp2
                            go_roundw
                            case rel => exact ⟨j + 1, by omega, by go_num, hide (HKq.out.drewN n7), .inl ⟨HNE2, hide (HRq.out.drewN n7)⟩⟩
                            case measure => simp [intOf]; omega
                        · have hj1 : ¬ (j : Int) < (ps.length : Int) := by omega
                          have hjd : decide ((j : Int) < (ps.length : Int)) = false := decide_eq_false hj1
                          have HNM : Hid (¬ l ∈ tgts ps) := hide (fun hm => HNE.out l (by rw [List.take_of_length_le (by rw [tgts_length]; omega)]; exact hm) rfl)
                          go_wp2
                          go_meet
                          exact ⟨HKq.out, by rw [if_neg HNM.out, if_neg HNM.out]; exact HRq.out⟩
                      · obtain ⟨d0, d1, d2, d3, d4, -, -, -⟩ := five_cells HRq.out.cell
                        by_cases hlt2 : j < ps.length
                        · have hj1 : (j : Int) < (ps.length : Int) := by omega
                          have hjd : decide ((j : Int) < (ps.length : Int)) = true := decide_eq_true hj1
                          go_wp2
                          go_meet
                          exact ⟨HKq.out, by rw [if_pos HMem.out, if_pos HMem.out]; exact HRq.out⟩
                        · have hj1 : ¬ (j : Int) < (ps.length : Int) := by omega
                          have hjd : decide ((j : Int) < (ps.length : Int)) = false := decide_eq_false hj1
                          go_wp2
                          go_meet
                          exact ⟨HKq.out, by rw [if_pos HMem.out, if_pos HMem.out]; exact HRq.out⟩
                case rest =>
                obtain ⟨hkc, hrc⟩ := hcut
                rename World => w6
                have HK6 : Hid (KI b B w6) := hide (HK5.out.trans hkc)
                have HK56 := hide hkc
                clear hkc
                by_cases hmem : l ∈ tgts ps
                · as_aux_lemma =>
                    rw [if_pos hmem, if_pos hmem] at hrc
                    rw [if_pos hmem] at HRR2
                    simp only at HRR2
                    subst HRR2
                    have HR6 := hide hrc
                    clear hrc
                    obtain ⟨r0', r1', r2', r3', r4', -, -, -⟩ := five_cells HR6.out.cell
                    have hzz := HK6.out.get (HGB.out.get (HG.out.get HZX.out)) HZB.out
                    obtain ⟨z0', z1', z2'', z3''⟩ := two_free hzz
                    have HBZ : Hid (Below w.heap.size w w6) := hide (Below.trans ((HGV.out.trans HGX.out).trans ((HG.out.trans HGB.out).mono (by have := HGX.out.size; have := HGV.out.size; omega))) (HK6.out.below HBB.out HBB2.out))
                    go_upto_region 25 with fail
                    go_region
                    go_wp2
                    refine bodyPost_ret (v := .tuple #[.slice none 0 0, .agg #[.int .i64 6, .int .i64 (f : Int)]]) (results_tmp_cell (p := 3) (u := 2) (ty := 25) rfl _ _ w.heap.size _ _ _ _ rfl (zero_set hzz _ _) Tryz.underlying25 rfl infoF) rfl ?_
                    refine ⟨_, by first | rfl | simp [faultT], rtgts_nil _ _, ?_⟩
                    exact zero_grow HBZ.out rfl _ _ 1
                · rw [if_neg hmem, if_neg hmem] at hrc
                  rw [if_neg hmem] at HRR2
                  have HR6 := hide hrc
                  clear hrc
                  obtain ⟨d0, d1, d2, d3, d4, -, -, -⟩ := five_cells HR6.out.cell
                  by_cases h100 : ps.length = 100
                  · as_aux_lemma =>
                      rw [if_pos (by rw [tgts_length]; exact h100)] at HRR2
                      simp only at HRR2
                      subst HRR2
                      have h100i : (ps.length : Int) = 100 := by omega
                      go_wp2_with fail
                      refine (rwrong_any w6 b k3 f S 0 HR6.out 2 0 (by omega) (by omega)).mono ?_
                      rintro e w7 ⟨rfl, hk7, hr7⟩
                      rw [Int.add_zero] at hr7
                      have HK7 : Hid (KI b B w7) := hide (HK6.out.trans hk7)
                      have HR7 := hide hr7
                      clear hk7 hr7
                      obtain ⟨r0', r1', r2', r3', r4', -, -, -⟩ := five_cells HR7.out.cell
                      have hzz := HK7.out.get (HGB.out.get (HG.out.get HZX.out)) HZB.out
                      obtain ⟨z0', z1', z2'', z3''⟩ := two_free hzz
                      have HBZ : Hid (Below w.heap.size w w7) := hide (Below.trans ((HGV.out.trans HGX.out).trans ((HG.out.trans HGB.out).mono (by have := HGX.out.size; have := HGV.out.size; omega))) (HK7.out.below HBB.out HBB2.out))
                      go_upto_region 25 with fail
                      go_region
                      go_wp2
                      refine bodyPost_ret (v := .tuple #[.slice none 0 0, .agg #[.int .i64 2, .int .i64 (f : Int)]]) (results_tmp_cell (p := 3) (u := 2) (ty := 25) rfl _ _ w.heap.size _ _ _ _ rfl (zero_set hzz _ _) Tryz.underlying25 rfl infoF) rfl ?_
                      refine ⟨_, by first | rfl | simp [faultT], rtgts_nil _ _, ?_⟩
                      exact zero_grow HBZ.out rfl _ _ 1
                  · as_aux_lemma =>
                      rw [if_neg (by rw [tgts_length]; exact h100)] at HRR2
                      simp only at HRR2
                      have HRR3 := hide HRR2
                      have h100i : ((ps.length : Int) == 100) = false := by simp only [beq_eq_false_iff_ne, ne_eq]; omega
                      have HKw6 : Hid (KI b wr w6) := hide ((KI.grow HGB.out).trans HK6.out)
                      have hrt6 : rowT w6 X.heap.size (.slice vo ps.length vc) ps := own_keep HRT.out fun g hg => HKw6.out.block g (HRT.out.lt g hg).2 (by have := (HRT.out.lt g hg).2; have := HBW.out; omega)
                      have HRT6 := hide hrt6
                      have hsz6 : X.heap.size ≤ w6.heap.size := by have := HG.out.size; have := HKw6.out.size; omega
                      clear hrt6 HRR2
                      go_wp2_with (at_builtin; refine wpList_append_own_at _ rfl _ _ 22 rfl X.heap.size 36 i0 _ 1 24 Tryz.underlying22 hi0 hz0 hz1 hz2 rfl (by decide) (.slice vo ps.length vc) ps.length (Fd.vals ps) rfl (own_grow HRT6.out ((Grow.refl w6).alloc _)) ⟨w6.heap.size, 0, none⟩ 1 1 [.slice so5 l.length sc5] rfl rfl (cell_one_new _ _ _) (by intro u hu; rw [List.mem_singleton] at hu; rw [hu]; rfl) (by unfold maxLen; omega) (by omega) (by simp; omega) ?_; intro v8 w8 hown8 hgrow8 _ hat8)
                      have hgy : Grow w6 (w6.alloc (.cells #[.slice so5 l.length sc5] 36)) := (Grow.refl w6).alloc _
                      have HW8 : Hid (rowT w8 X.heap.size v8 (ps ++ [(l, .slice so5 l.length sc5)])) := hide (by unfold rowT; rw [List.length_append, vals_append, vals_one]; exact hown8)
                      have hY6 := own_growF HRT6.out hgy
                      have hlab : ∀ p ∈ ps ++ [(l, Value.slice so5 l.length sc5)], ownLabels w8 X.heap.size p.2 p.1 ∧ p.1.length ≤ 20 := fun p hp => by
                        have h6 : ownLabels w6 X.heap.size p.2 p.1 ∧ p.1.length ≤ 20 := by
                          rcases List.mem_append.1 hp with h | h
                          · exact ⟨own_keep (HPS.out p h).1 fun g hg => HKw6.out.block g ((HPS.out p h).1.lt g hg).2 (by have := ((HPS.out p h).1.lt g hg).2; have := HBW.out; omega), (HPS.out p h).2⟩
                          · rw [List.mem_singleton] at h
                            subst h
                            refine ⟨own_base (B := (w3.drewN n4).heap.size) (own_keep HOW5.out fun g hg => HK56.out.block g (HOW5.out.lt g hg).2 (by have := (HOW5.out.lt g hg).1; have := HB3.out; have h9 : (w3.drewN n4).heap.size = w3.heap.size := rfl; omega)) ?_, hl20⟩
                            have := HG.out.size; have := HGB.out.size; have := HK3.out.size
                            have h9 : (w3.drewN n4).heap.size = w3.heap.size := rfl
                            omega
                        have h7 := own_growF h6.1 hgy
                        exact ⟨own_keep h7 fun g hg => hgrow8.block g (h7.lt g hg).2 (fun e => own_kind h7 hY6 (by decide) hg e.symm), h6.2⟩
                      have HG8 : Hid (Grow X w8) := hide (Below.trans (Below.trans (Below.trans (HG.out.trans HGB.out) (HK6.out.below (by have := HBW.out; have := HG.out.size; omega) (by have := HG.out.size; have := HGB.out.size; omega))) (hgy.mono hsz6)) ((Below.refl _ _).grown hgrow8 (by simp; omega) (fun k hk => (HRT6.out.lt k hk).1)))
                      obtain ⟨o8, c8, hv8⟩ := own_shape hown8
                      subst hv8
                      have HLAB := hide hlab
                      clear hown8 hgrow8 hat8 hgy hY6 hlab
                      go_wp2
                      go_roundw
                      case rel => exact ⟨i + 1, ps ++ [(l, .slice so5 l.length sc5)], by omega, by go_num, by simp; omega, hide (by rw [tgts_append]; exact HRR3.out), HW8, HLAB, HG8⟩
                      case measure => simp [intOf]; omega
            · as_aux_lemma =>
                rw [if_neg hme] at HRR2 hm5
                obtain ⟨rfl, hr5⟩ := hm5
                simp only at HRR2
                subst HRR2
                have HR5 := hide hr5
                have hMi : ((makeErr ls : Int) == 0) = false := by simp only [beq_eq_false_iff_ne, ne_eq]; omega
                clear hr5
                have hne0 : ((makeErr ls : Int) == 0) = false := by exact hMi
                obtain ⟨s0', s1', s2', s3', s4', -, -, -⟩ := five_cells HR5.out.cell
                go_upto_block 2 with fail
                go_cut [10] from 88 to 110 (fun _ wx => wx = w5)
                case first =>
                  go_wp2_with fail
                  go_loopw [10] (fun jv wr2 => jv = .int .i64 0 ∧ wr2 = w5) (fun _ _ => 0)
                  case atStart => exact ⟨rfl, rfl⟩
                  case round =>
                    obtain ⟨rfl, rfl⟩ := hrel
                    by_cases h0 : 0 < ps.length
                    · have h0i : (0 : Int) < (ps.length : Int) := by omega
                      have h0d : decide ((0 : Int) < (ps.length : Int)) = true := decide_eq_true h0i
                      go_wp2
                      go_meet
                      exact rfl
                    · have h0i : ¬ (0 : Int) < (ps.length : Int) := by omega
                      have h0d : decide ((0 : Int) < (ps.length : Int)) = false := decide_eq_false h0i
                      go_wp2
                      go_meet
                      exact rfl
                case rest =>
                rw [hcut]
                obtain ⟨r0', r1', r2', r3', r4', -, -, -⟩ := five_cells HR5.out.cell
                have hzz := HK5.out.get (HGB.out.get (HG.out.get HZX.out)) HZB.out
                obtain ⟨z0', z1', z2'', z3''⟩ := two_free hzz
                have HBZ : Hid (Below w.heap.size w w5) := hide (Below.trans ((HGV.out.trans HGX.out).trans ((HG.out.trans HGB.out).mono (by have := HGX.out.size; have := HGV.out.size; omega))) (HK5.out.below HBB.out HBB2.out))
                go_upto_region 25 with fail
                go_region
                go_wp2
                refine bodyPost_ret (v := .tuple #[.slice none 0 0, .agg #[.int .i64 (makeErr ls : Int), .int .i64 (f : Int)]]) (results_tmp_cell (p := 3) (u := 2) (ty := 25) rfl _ _ w.heap.size _ _ _ _ rfl (zero_set hzz _ _) Tryz.underlying25 rfl infoF) rfl ?_
                refine ⟨_, by first | rfl | simp [faultT], rtgts_nil _ _, ?_⟩
                exact zero_grow HBZ.out rfl _ _ 1
      · as_aux_lemma =>
          obtain rfl : i = L.length := by omega
          have hnl : ¬ ((L.length : Int) < (L.length : Int)) := by omega
          have hr := HR.out
          rw [List.drop_length] at hr
          have hO : O = .ok (tgts ps) := hr.symm
          subst hO
          have hzz := HG.out.get HZX.out
          obtain ⟨z0', z1', z2'', z3''⟩ := two_free hzz
          clear hr
          go_wp2
          refine bodyPost_ret (v := .tuple #[.slice vo ps.length vc, .agg #[.int .i64 0, .int .i64 0]]) (results_tmp_cell (p := 3) (u := 2) (ty := 25) rfl _ _ w.heap.size _ _ _ _ rfl (zero_set hzz _ _) Tryz.underlying25 rfl infoF) rfl ?_
          have hXw : w.heap.size < X.heap.size := lt_of_block HZX.out
          have far : ∀ {e size n : Nat} {u : Value} {xs : List Value}, wr.ownsRow X.heap.size e size u n xs → ((wr.setCell ⟨w.heap.size, 0, none⟩ (.int .i64 0)).setCell ⟨w.heap.size, 1, none⟩ (.int .i64 0)).ownsRow X.heap.size e size u n xs := fun {e size n u xs} q => own_keep q fun g hg => by
            have := (q.lt g hg).1
            exact (Below.heap_setCell _ _ _ _ (by show g ≠ w.heap.size; omega)).trans (Below.heap_setCell _ _ _ _ (by show g ≠ w.heap.size; omega))
          refine ⟨_, rfl, rowT.reads (far HRT.out) (fun p hp => reads_ownLabels (far (HPS.out p hp).1)), ?_⟩
          exact zero_grow (Below.trans (HGV.out.trans HGX.out) (HG.out.mono (by have := HGX.out.size; have := HGV.out.size; omega))) rfl _ _ 0
end Go.Proofs.YtdlmgkncneifaaaGreat.Rn
