/- 1 texts in one. -/
import Derived.Laws.OwnMore
import Derived.Deep.AppendLies
import Derived.Maps.AppendAt
import Derived.Shelf.RegionOpenPlain
import Derived.Test.YtmdakfmecfcbhaaGreatProg
import Derived.Test.YtmdakfmecfcbhaaGreatK7e06493
import Derived.Test.YtmdakfmecfcbhaaGreatK85cc7d6
import Derived.Test.YtmdakfmecfcbhaaGreatK6ada7ca
import Derived.Test.YtmdakfmecfcbhaaGreatK14d8a0b
import Derived.Test.YtmdakfmecfcbhaaGreatKf7a2202
import Derived.Test.YtmdakfmecfcbhaaGreatKbe49eb6
import Derived.Test.YtmdakfmecfcbhaaGreatK62f8920
import Derived.Test.YtmdakfmecfcbhaaGreatK0be3e27
import Derived.BigQuiet
set_option linter.unusedVariables false
set_option linter.unusedSimpArgs false
namespace Go.Proofs.YtmdakfmecfcbhaaGreat.Tk
open Go.RowKit Go.Shelf Lb
attribute [local go_sem] bs_size bs_toList bs_append bs_get bs_extract
theorem KeptM.setCell {B M N : Nat} (w : World) (g o : Nat) (u : Value) (hB : B ≤ g) (hf : g < M ∨ N ≤ g) : KeptM B M N w (w.setCell ⟨g, o, none⟩ u) :=
  ⟨(Below.refl _ _).setCell (by simpa using hB) u, fun k h1 h2 => Below.heap_setCell _ _ _ _ (by show k ≠ g; omega)⟩
theorem ownStore.ins {w w1 : World} {B : Nat} {v v1 : Value} {ps : List Pt} {i : Nat} {l : List Lab} {lv : Value} (h : ownStore w B v ps) (hl : ownLabels w B lv l) (hi : i ≤ ps.length) (hrow : w1.ownsRow B 41 2 v1 (ps.length + 1) ((serC ps).take (i * 2) ++ [lv, .slice none 0 0] ++ (serC ps).drop (i * 2))) (hg : w.grownBy w1 v.ownBlock) : ownStore w1 B v1 (ps.take i ++ ((l, []), lv, .slice none 0 0) :: ps.drop i) := by
  have hmem : ∀ p ∈ ps.take i ++ ps.drop i, p ∈ ps := fun p hp => by rw [List.take_append_drop] at hp; exact hp
  have hin : ∀ p ∈ ps.take i ++ ((l, []), lv, .slice none 0 0) :: ps.drop i, p = ((l, []), lv, .slice none 0 0) ∨ p ∈ ps := fun p hp => by
    rcases List.mem_append.1 hp with hp | hp
    · exact .inr (hmem p (List.mem_append_left _ hp))
    · rcases List.mem_cons.1 hp with hp | hp
      · exact .inl hp
      · exact .inr (hmem p (List.mem_append_right _ hp))
  refine ⟨?_, fun p hp => ?_, ?_⟩
  · have e1 : (ps.take i ++ ((l, []), lv, Value.slice none 0 0) :: ps.drop i).length = ps.length + 1 := by
      rw [List.length_append, List.length_cons, List.length_take, List.length_drop]; omega
    have e2 : serC (ps.take i ++ ((l, []), lv, Value.slice none 0 0) :: ps.drop i) = (serC ps).take (i * 2) ++ [lv, .slice none 0 0] ++ (serC ps).drop (i * 2) := by
      rw [serC_append, serC_take, serC_drop, List.append_assoc]
      rfl
    rw [e1, e2]
    exact hrow
  · rcases hin p hp with rfl | hp
    · exact ⟨tOwn_grown hl hg (fun g e => own_other hl h.1 (by decide) g e), World.ownsRow_nil _ _ _ _⟩
    · obtain ⟨q1, q2⟩ := h.2.1 p hp
      exact ⟨tOwn_grown q1 hg (fun g e => own_other q1 h.1 (by decide) g e), tOwn_grown q2 hg (fun g e => own_other q2 h.1 (by decide) g e)⟩
  · have h3 := h.2.2
    unfold apartS at h3 ⊢
    rw [← List.take_append_drop i ps] at h3
    rw [List.pairwise_append] at h3 ⊢
    obtain ⟨h4, h5, h6⟩ := h3
    rw [List.pairwise_cons]
    refine ⟨h4, ⟨fun p _ g e => by simp [Value.ownBlock] at e, h5⟩, fun p hp q hq g e => ?_⟩
    rcases List.mem_cons.1 hq with rfl | hq
    · simp [Value.ownBlock]
    · exact h6 p hp q hq g e
set_option maxRecDepth 20000 in
set_option maxHeartbeats 2000000 in
theorem keep_any (w : World) (B M N : Nat) (v : Value) (ps : List Pt) (x : Ser) (xl xs : Value) (hst : ownStore w B v ps) (hfr : freeS M N v ps) (hBM : B ≤ M) (hMN : M ≤ N) (hN : N ≤ w.heap.size)
    (hxl : ownLabels w M xl x.1) (hxs : ownSam w M xs x.2) (hxsN : ∀ g, xs.ownBlock = some g → g < N) (hlen : ps.length ≤ 100000) (hsl : ∀ p ∈ ps, p.1.2.length ≤ 50000) (hxn : x.2.length ≤ 200)
    (hr : ∀ p ∈ ps, checkB p.1.1 = 0) (hcx : checkB x.1 = 0) (hri : riseS (ps.map (·.1)) = true) :
    Calls Tryz.prog 30 #[v, .agg #[xl, xs]] w fun e w' => ∃ v' ps', e = .returned v' ∧ ownStore w' B v' ps' ∧ freeS M N v' ps' ∧ ps'.map (·.1) = keepAll (ps.map (·.1)) x.1 x.2 ∧ KeptM B M N w w' := by
  obtain ⟨j0, hj0, hy0, hy1, hy2⟩ := info_parts infoSam
  obtain ⟨V1, e1, g1, b1⟩ := laid_at w #[xl, xs] 41
  have s1 : V1.heap.size = w.heap.size + 1 := by rw [← e1]; simp
  obtain ⟨lo, lc, hlv⟩ := own_shape hxl
  obtain ⟨mo, mc, hmv⟩ := own_shape hxs
  obtain ⟨vo, vc, hvv⟩ := own_shape hst.1
  have HST := hide hst
  have HFR := hide hfr
  have HXL := hide hxl
  have HXS := hide hxs
  have HB1 := hide b1
  have HG1 := hide g1
  have HSL := hide hsl
  have HXN := hide hxsN
  have HCX := hide hcx
  have HRI := hide hri
  have HR := hide hr
  have hBw : B ≤ w.heap.size := by omega
  obtain ⟨xlab, xsam⟩ := x
  simp only at hlv hmv HXL HXS HCX hxn
  by_cases hx0 : xsam.length = 0
  · obtain rfl : xsam = [] := List.length_eq_zero_iff.1 hx0
    subst hlv hmv hvv
    obtain ⟨c0, c1⟩ := two_cells b1
    clear hst hfr hxl hxs b1 g1 hsl hxsN hcx hri hr hx0
    simp only [List.length_nil] at c1 e1 ⊢
    go_enter Tryz.func30, Tryz.ntmps30
    go_wp2
    go_ret
    exact ⟨_, ps, rfl, HST.out.grow HG1.out, HFR.out, rfl, KeptM.grow HG1.out hBw hN⟩
  · have hx0i : ((xsam.length : Int) == 0) = false := by rw [beq_eq_false_iff_ne]; omega
    have HNE : Hid (xsam ≠ []) := hide (fun e => hx0 (by rw [e]; rfl))
    have hrd := (hst.grow g1).reads
    have hLl : (ps.map (·.1)).length = ps.length := List.length_map _
    have HFI := hide (tfind_any V1 v xl (ps.map (·.1)) xlab hrd (reads_ownLabels (own_growT hxl g1)) (by omega) (fun s hs => by
      obtain ⟨p, hp, rfl⟩ := List.mem_map.1 hs
      exact hr p hp) hcx hri)
    obtain ⟨c0, c1⟩ := two_cells b1
    subst hlv hmv hvv
    clear hst hfr hxl hxs b1 g1 hsl hxsN hcx hri hr hrd hx0
    go_enter Tryz.func30, Tryz.ntmps30
    go_wp2_with fail
    refine HFI.out.mono ?_
    rintro e w2 ⟨i, hi, hia, hib, F, rfl, hF, hg2⟩
    rw [hLl] at hi
    obtain ⟨pa, pb⟩ := place_of (by rw [hLl]; exact hi) hia hib
    have HPA : Hid (∀ t ∈ (ps.take i).map (·.1), ordB t.1 xlab < 0) := hide (by rw [List.map_take]; exact pa)
    have HPB : Hid (∀ t ∈ (ps.drop i).map (·.1), 0 ≤ ordB t.1 xlab) := hide (by rw [List.map_drop]; exact pb)
    have HG2 : Hid (Grow w w2) := hide (HG1.out.trans hg2)
    have HG12 : Hid (Grow V1 w2) := hide hg2
    have HFD := hide (find_iff (by rw [hLl]; exact hi) hia hib HRI.out)
    have hFF := hide hF
    clear hg2 HFI hia hib pa pb c0 c1 e1 hF
    obtain ⟨c0, c1⟩ := two_cells (HG12.out.get HB1.out)
    cases F with
    | true =>
      obtain ⟨hil, h0⟩ := hFF.out.1 rfl
      rw [hLl] at hil
      obtain ⟨⟨⟨ql, ss0⟩, lv, sv0⟩, hq⟩ : ∃ q, ps[i] = q := ⟨_, rfl⟩
      have hqx : xlab = ql := by
        rw [List.getElem_map] at h0
        have := ordB_zero.1 h0
        rw [hq] at this
        exact this.symm
      subst hqx
      have hps : ps = ps.take i ++ ((xlab, ss0), lv, sv0) :: ps.drop (i + 1) := by rw [← hq, ← List.drop_eq_getElem_cons hil, List.take_append_drop]
      obtain ⟨A, hA⟩ : ∃ A, ps.take i = A := ⟨_, rfl⟩
      obtain ⟨Bq, hBq⟩ : ∃ Bq, ps.drop (i + 1) = Bq := ⟨_, rfl⟩
      rw [hA, hBq] at hps
      rw [hA] at HPA
      have hAl : A.length = i := by rw [← hA, List.length_take]; omega
      have HPS := hide hps
      have HS2 : Hid (ownStore w2 B (.slice vo ps.length vc) (A ++ ((xlab, ss0), lv, sv0) :: Bq)) := hide (by
        have : ∀ l', l' = ps → ownStore w2 B (.slice vo ps.length vc) l' := fun l' e => by subst e; exact HST.out.grow HG2.out
        exact this _ hps.symm)
      have HFB : Hid (freeB M N (.slice vo ps.length vc)) := hide HFR.out.1
      have HFA : Hid (∀ p ∈ A ++ Bq, freeB M N p.2.2) := hide (fun p hp => HFR.out.2 p (by
        rw [hps]
        rcases List.mem_append.1 hp with hp | hp
        · exact List.mem_append_left _ hp
        · exact List.mem_append_right _ (List.mem_cons_of_mem _ hp)))
      have HF0 : Hid (freeB M N sv0) := hide (HFR.out.2 ((xlab, ss0), lv, sv0) (by rw [hps]; simp))
      have HS0 : Hid (ss0.length ≤ 50000) := hide (HSL.out ((xlab, ss0), lv, sv0) (by rw [hps]; simp))
      have HFIN : Hid (A.map (·.1) ++ (xlab, xsam.foldl addS ss0) :: Bq.map (·.1) = keepAll (ps.map (·.1)) xlab xsam) := hide (by
        rw [hps, List.map_append, List.map_cons, keepAll_in HPA.out])
      have HKM : Hid (KeptM B M N w w2) := hide (KeptM.grow HG2.out hBw hN)
      have HN2 : Hid (N ≤ w2.heap.size) := hide (Nat.le_trans hN HG2.out.size)
      clear h0 hq hps hA hBq
      obtain ⟨uo, nn, uc, huv⟩ : ∃ ao n cp, Value.slice vo ps.length vc = .slice ao n cp := ⟨_, _, _, rfl⟩
      rw [huv] at HS2 HFB
      obtain ⟨rfl, rfl, rfl⟩ : vo = uo ∧ ps.length = nn ∧ vc = uc := by simpa using huv
      obtain ⟨w4, hw4⟩ : ∃ w4, w4 = w2 := ⟨_, rfl⟩
      rw [← hw4] at HS2 HKM HN2 ⊢
      have HBX : Hid (w4.heap[w.heap.size]? = some (.cells #[.slice lo xlab.length lc, .slice mo xsam.length mc] 41 (0, 0))) := hide (by rw [hw4]; exact HG12.out.get HB1.out)
      clear hw4 c0 c1 huv hFF HFD
      obtain ⟨c0, c1⟩ := two_cells HBX.out
      go_wp2
      go_loopw [33] (fun iv wr => ∃ (k : Nat) (ss : List Sam) (sv : Value), k ≤ xsam.length ∧ iv = .int .i64 k ∧ Hid (ownStore wr B (.slice vo ps.length vc) (A ++ ((xlab, ss), lv, sv) :: Bq)) ∧ Hid (ss = (xsam.take k).foldl addS ss0) ∧ Hid (freeB M N sv) ∧ Hid (KeptM B M N w wr) ∧ Hid (N ≤ wr.heap.size)) (fun iv _ => xsam.length - (intOf iv).toNat)
      case atStart => exact ⟨0, ss0, sv0, by omega, rfl, HS2, hide rfl, HF0, HKM, HN2⟩
      case round =>
        clear c0 c1
        obtain ⟨k, ss, sv, hk, rfl, HOS, HSS, HFS, HKW, HNW⟩ := hrel
        by_cases hlt : k < xsam.length
        · have hlti : (k : Int) < (xsam.length : Int) := by omega
          obtain ⟨sb, hmo, hsbN, hsbM, d0, d1⟩ : ∃ b, mo = some ⟨b, 0, none⟩ ∧ b < N ∧ M ≤ b ∧ wr.cell? ⟨b, k * 2, none⟩ = some (.int .i64 xsam[k].1) ∧ wr.cell? ⟨b, k * 2 + 1, none⟩ = some (.int .u64 (xsam[k].2 : Nat)) := by
            rcases HXS.out.2 with ⟨_, h0⟩ | ⟨b, cap, cur, r1, r2, r3, _⟩
            · omega
            · simp only [Value.slice.injEq] at r1
              obtain ⟨rfl, _, _⟩ := r1
              have hbN := HXN.out b rfl
              have hc := World.ownsRow.cells HXS.out (g := b) rfl
              obtain ⟨q0, q1⟩ := samC_at xsam k hlt
              have z0 := hc _ _ q0
              have z1 := hc _ _ q1
              rw [Addr.add_lit] at z0 z1
              have hm := HKW.out.mid b r2 hbN
              refine ⟨b, rfl, hbN, r2, ?_, ?_⟩
              · rw [World.cell?_of_block (w := w) hm]; simpa using z0
              · rw [World.cell?_of_block (w := w) hm]; simpa using z1
          subst hmo
          obtain ⟨p, HP⟩ : ∃ p : Sam, Hid (xsam[k] = p) := ⟨_, hide rfl⟩
          rw [HP.out] at d0 d1
          obtain ⟨g, cap, cur, hgv, hgB, hgc, hgn, hgm, hgs, hgt, hgl⟩ := HOS.out.cell
          simp only [Value.slice.injEq] at hgv
          obtain ⟨hgo, hgnn, hgcap⟩ := hgv
          subst hgo hgcap
          obtain ⟨V, eV, gV, bV⟩ := laid_at wr #[.int .i64 p.1, .int .u64 (p.2 : Nat)] 48
          obtain ⟨svo, svc, hsv⟩ := own_shape HOS.out.split.2
          have hssl : ss.length ≤ 50200 := by
            rw [HSS.out]
            have h1 := foldl_addS_len (xsam.take k) ss0
            rw [List.length_take] at h1
            have := HS0.out
            omega
          obtain ⟨F, HF⟩ : ∃ F, Hid (laterB ss p.1 = F) := ⟨_, hide rfl⟩
          have HOSV : Hid (∀ W', Grow V W' → ownStore W' B (.slice (some ⟨g, 0, none⟩) ps.length vc) (A ++ ((xlab, ss), lv, sv) :: Bq)) := hide fun W' gg => HOS.out.grow (gV.trans gg)
          have HLA : Hid (∀ W', Grow V W' → Calls Tryz.prog 52 #[sv, .agg #[.int .i64 p.1, .int .u64 (p.2 : Nat)]] W' fun e w' => e = .returned (.bool F) ∧ Grow W' w') := hide fun W' gg => by
            have := later_any W' sv ss p.1 p.2 (HOSV.out W' gg).split.2.reads (by omega)
            rw [HF.out] at this
            exact this
          have HGNN := hide hgnn
          have hili : (i : Int) < (ps.length : Int) := by omega
          have hiln : i < ps.length := by omega
          have HBV := hide bV
          have HGV := hide gV
          have HGL := hide hgl
          rw [hAl] at HGL
          have HSS2 : Hid (addS ss p = (xsam.take (k + 1)).foldl addS ss0) := hide (by rw [foldl_addS_snoc _ _ hlt, ← HSS.out, HP.out])
          have hBr : B ≤ wr.heap.size := Nat.le_trans hBw HKW.out.below.size
          have HGC := hide hgc
          clear gV bV hgl hgc hgt hgs hgnn hgn hgm
          go_wp2
          clear d0 d1 eV
          refine wp_region_free 7 58 mixedT rfl (by decide +kernel) Grow (fun _ _ _ => Grow.trans) (Grow.refl _)
            (fun q u _ => match q with
              | 0 => u = .slice (some ⟨g, 0, none⟩) ps.length vc
              | 1 => u = .int .i64 i
              | 2 => u = .pointer (some ⟨g, i * 2, none⟩)
              | 3 => u = .pointer (some ⟨g, i * 2 + 1, none⟩)
              | 4 => u = sv
              | 5 => u = .agg #[.int .i64 p.1, .int .u64 (p.2 : Nat)]
              | _ => u = .bool F)
            (fun q u w5 w6 h hg => h) (fun _ _ => False) (fun _ _ _ _ h => h.elim) (fun q hq o ho a w5 hG hoff hdep => ?_) (fun vals w5 hG hvals => ?_)
          · have hb5 : Grow V w5 := hG.undrew
            have gl : w5.cell? ⟨g, i * 2 + 1, none⟩ = some sv := ((HGV.out.trans hb5).cell (p := ⟨g, i * 2 + 1, none⟩) (World.block_lt_of_cell? _ _ HGL.out)).trans HGL.out
            obtain ⟨q0, q1⟩ := two_cells (hb5.get HBV.out)
            subst hsv
            match q, hq with
            | 0, _ =>
              obtain rfl := Option.some.inj ho
              have o0 := hoff 0 (by decide +kernel)
              simp at o0
              simp [opYields, go_sem, o0]
              exact Grow.refl _
            | 1, _ =>
              obtain rfl := Option.some.inj ho
              have o5 := hoff 5 (by decide +kernel)
              simp at o5
              simp [opYields, go_sem, o5]
              exact Grow.refl _
            | 2, _ =>
              obtain rfl := Option.some.inj ho
              have d0 := hdep 0 (by decide +kernel)
              simp [slotOf, dstOf] at d0
              have d1 := hdep 1 (by decide +kernel)
              simp [slotOf, dstOf] at d1
              simp [opYields, go_sem, d0, d1, hili, hiln]
              exact Grow.refl _
            | 3, _ =>
              obtain rfl := Option.some.inj ho
              have d2 := hdep 2 (by decide +kernel)
              simp [slotOf, dstOf] at d2
              simp [opYields, go_sem, d2]
              exact Grow.refl _
            | 4, _ =>
              obtain rfl := Option.some.inj ho
              have d3 := hdep 3 (by decide +kernel)
              simp [slotOf, dstOf] at d3
              simp [opYields, go_sem, d3, gl]
              exact Grow.refl _
            | 5, _ =>
              obtain rfl := Option.some.inj ho
              have o8 := hoff 8 (by decide +kernel)
              simp at o8
              simp [opYields, go_sem, o8, q0, q1]
              exact Grow.refl _
            | 6, _ =>
              obtain rfl := Option.some.inj ho
              have d4 := hdep 4 (by decide +kernel)
              simp [slotOf, dstOf] at d4
              have d5 := hdep 5 (by decide +kernel)
              simp [slotOf, dstOf] at d5
              simp [opYields, go_sem, d4, d5]
              refine (HLA.out w5 hb5).mono ?_
              rintro e w6 ⟨rfl, hb⟩
              exact ⟨hb, rfl⟩
            | q + 7, h => exact absurd h (by omega)
          · have v6 := hvals 6 (by omega)
            simp only at v6
            have hV5 : Grow V w5 := hG.undrew
            have HG5 := hide hV5
            clear hvals hG hV5
            simp [over, dstOf, Act.put, v6]
            cases F with
            | false =>
              have HAD : Hid (addS ss p = ss) := hide (by unfold addS; rw [HF.out]; rfl)
              go_wp2
              go_roundw
              case rel => exact ⟨k + 1, ss, sv, by omega, by go_num, hide (HOSV.out w5 HG5.out), hide (by rw [← HSS2.out, HAD.out]), HFS, hide (KeptM.trans HKW.out (KeptM.grow (HGV.out.trans HG5.out) hBr HNW.out)), hide (Nat.le_trans HNW.out (HGV.out.trans HG5.out).size)⟩
              case measure => simp [intOf]; omega
            | true =>
              have HAD : Hid (addS ss p = ss ++ [p]) := hide (by unfold addS; rw [HF.out]; rfl)
              go_wp2
              have hGw5 : Grow wr w5 := HGV.out.trans HG5.out
              obtain ⟨X, eX⟩ : ∃ X, w5.drew.alloc (.cells #[.int .i64 p.1, .int .u64 (p.2 : Nat)] 48) = X := ⟨_, rfl⟩
              have hGX : Grow w5 X := Grow.trans (⟨rfl, rfl, rfl, Nat.le_refl _, fun _ _ => rfl⟩ : Grow w5 w5.drew) (by rw [← eX]; exact (Grow.refl _).alloc _)
              have hbX : X.heap[w5.heap.size]? = some (.cells #[.int .i64 p.1, .int .u64 (p.2 : Nat)] 48 (0, 0)) := by rw [← eX]; exact heap_alloc_new _ _
              have hOSX := HOSV.out X (HG5.out.trans hGX)
              have gl5 : w5.drew.cell? ⟨g, i * 2 + 1, none⟩ = some sv := (hGw5.cell (p := ⟨g, i * 2 + 1, none⟩) (World.block_lt_of_cell? _ _ HGL.out)).trans HGL.out
              have glX : X.cell? ⟨g, i * 2 + 1, none⟩ = some sv := (hGX.cell (p := ⟨g, i * 2 + 1, none⟩) (World.block_lt_of_cell? _ _ gl5)).trans gl5
              obtain ⟨q0, q1⟩ := two_cells (HG5.out.get HBV.out)
              have q0' : w5.drew.cell? ⟨wr.heap.size, 0, none⟩ = some (.int .i64 p.1) := q0
              have q1' : w5.drew.cell? ⟨wr.heap.size, 1, none⟩ = some (.int .u64 (p.2 : Nat)) := q1
              have hgX : X.heap[g]? = some (.cells cur 41 (0, 0)) := (hGw5.trans hGX).get HGC.out
              have hBX : B ≤ X.heap.size := Nat.le_trans hBr (hGw5.trans hGX).size
              have mixed : Tryz.prog.follows .mixedOrders = true := by kernel_rfl
              subst hsv
              go_region_law_o (refine step_app_at rfl _ _ 35 rfl B 48 j0 _ 2 16 Tryz.underlying35 hj0 hy0 hy1 hy2 rfl (by decide) _ ss.length (samC ss) (by simp [Act.eval, Act.put]) hOSX.split.2 ⟨w5.heap.size, 0, none⟩ 1 1 [.int .i64 p.1, .int .u64 (p.2 : Nat)] (by simp [Act.eval, Act.put]) rfl (World.news_of_block hbX) (by simp [Value.oneCell']) (by unfold maxLen; omega) (by omega) hBX ?_; intro v6 w6 hown6 hg6 hat6; obtain ⟨o6, c6, hv6⟩ := own_shape hown6; subst hv6; have hg6c := grown_block hg6 hgX (own_apart hOSX.split.2 hgX (by decide)); have cc6 : w6.cell? ⟨g, i * 2 + 1, none⟩ = some (.slice svo ss.length svc) := (World.cell?_of_block (w := X) (hg6c.trans hgX.symm)).trans ((hGX.cell (p := ⟨g, i * 2 + 1, none⟩) (World.block_lt_of_cell? _ _ gl5)).trans gl5); have zz6 : w6.frozen? ⟨g, i * 2 + 1, none⟩ = false := by simp only [World.frozen?, hg6c]; rfl)
              all_goals (
                have HO6 := hide hown6
                have HGR6 := hide hg6
                have HAT6 := hide hat6
                have HOX := hide hOSX
                have HGWX : Hid (Grow wr X) := hide (hGw5.trans hGX)
                clear hown6 hg6 hat6 hOSX hGX hGw5 hg6c cc6 zz6 q0 q1 q0' q1' gl5 glX hbX eX
                go_wp2
                go_roundw
                case rel =>
                  have hNX : N ≤ X.heap.size := Nat.le_trans HNW.out HGWX.out.size
                  have hfg : g < M ∨ N ≤ g := HFB.out g rfl
                  have hS6 : ownSam w6 B (.slice o6 (ss.length + 1) c6) (ss ++ [p]) := by
                    unfold ownSam
                    rw [List.length_append, samC_append]
                    exact HO6.out
                  refine ⟨k + 1, ss ++ [p], .slice o6 (ss.length + 1) c6, by omega, by go_num, hide ?_, hide (by rw [← HSS2.out, HAD.out]), hide (fun b e => ?_), hide (KeptM.trans HKW.out (KeptM.trans (KeptM.grow HGWX.out hBr HNW.out) (KeptM.trans (KeptM.grown HGR6.out hBX hNX HFS.out (fun b e => (HOX.out.split.2.lt b e).1)) (KeptM.setCell w6 g (i * 2 + 1) _ hgB hfg)))), hide ?_⟩
                  · have := HOX.out.put (by rw [HGNN.out]) HGR6.out hS6 (by
                      rcases HAT6.out with h | h
                      · exact .inl h
                      · exact .inr ⟨_, h, Nat.le_refl _⟩)
                    rw [hAl] at this
                    exact this
                  · rcases HAT6.out with h | h
                    · exact HFS.out b (by rw [← h]; exact e)
                    · rw [h] at e
                      obtain rfl : X.heap.size = b := by simpa using e
                      exact .inr hNX
                  · show N ≤ (w6.setCell _ _).heap.size
                    have := HGR6.out.size
                    simp only [World.setCell, Array.size_modify]
                    omega
                case measure => simp [intOf]; omega)
        · obtain rfl : k = xsam.length := by omega
          go_wp2
          go_ret
          refine ⟨_, _, rfl, HOS.out, ⟨HFB.out, fun p hp => ?_⟩, ?_, HKW.out⟩
          · rcases List.mem_append.1 hp with hp | hp
            · exact HFA.out p (List.mem_append_left _ hp)
            · rcases List.mem_cons.1 hp with rfl | hp
              · exact HFS.out
              · exact HFA.out p (List.mem_append_right _ hp)
          · rw [List.map_append, List.map_cons, HSS.out, List.take_length]
            exact HFIN.out
    | false =>
      have hno : ∀ s ∈ ps.map (·.1), s.1 ≠ xlab := HFD.out.resolve_left (fun h => by have := hFF.out.2 h; simp at this)
      obtain ⟨W3, e3, g3, b3⟩ := laid_at w2 #[.slice lo xlab.length lc, .slice none 0 0] 41
      have hG3 : Grow w W3 := HG2.out.trans g3
      have HIN := hide (insert_any W3 B (.slice vo ps.length vc) ps.length i (serC ps) (HST.out.grow hG3).1 (HST.out.one) hi (by omega) (Nat.le_trans hBw hG3.size) w2.heap.size (.slice lo xlab.length lc) (.slice none 0 0) b3 rfl rfl (fun e => by have := (HST.out.1.lt _ e).2; have := HG2.out.size; omega))
      have HG3 := hide hG3
      have HB3 : Hid (W3.heap[w.heap.size]? = some (.cells #[.slice lo xlab.length lc, .slice mo xsam.length mc] 41 (0, 0))) := hide (g3.get (HG12.out.get HB1.out))
      have HNO := hide hno
      clear g3 b3 hG3 hno
      go_wp2_with fail
      refine HIN.out.mono ?_
      rintro e w4 ⟨v3, rfl, hrow3, hg3, hat3⟩
      obtain ⟨uo, uc, huv⟩ := own_shape hrow3
      subst huv
      obtain ⟨A, hA⟩ : ∃ A, ps.take i = A := ⟨_, rfl⟩
      obtain ⟨Bq, hBq⟩ : ∃ Bq, ps.drop i = Bq := ⟨_, rfl⟩
      have hps : ps = A ++ Bq := by rw [← hA, ← hBq, List.take_append_drop]
      have hmem : ∀ p ∈ A ++ Bq, p ∈ ps := fun p hp => by rw [hps]; exact hp
      have HS2 : Hid (ownStore w4 B (.slice uo (ps.length + 1) uc) (A ++ ((xlab, []), .slice lo xlab.length lc, .slice none 0 0) :: Bq)) := hide (by
        rw [← hA, ← hBq]
        exact (HST.out.grow HG3.out).ins (own_leT (own_growT HXL.out HG3.out) hBM) hi hrow3 hg3)
      have hN3 : N ≤ W3.heap.size := Nat.le_trans hN HG3.out.size
      have HFB : Hid (freeB M N (.slice uo (ps.length + 1) uc)) := hide (fun b e => by
        rcases hat3 with h | h
        · exact HFR.out.1 b (by rw [← h]; exact e)
        · rw [h] at e
          obtain rfl : W3.heap.size = b := by simpa using e
          exact .inr hN3)
      have HFA : Hid (∀ p ∈ A ++ Bq, freeB M N p.2.2) := hide (fun p hp => HFR.out.2 p (hmem p hp))
      obtain ⟨sv0, hsv0⟩ : ∃ sv0, Value.slice none 0 0 = sv0 := ⟨_, rfl⟩
      obtain ⟨ss0, hss0⟩ : ∃ ss0 : List Sam, ([] : List Sam) = ss0 := ⟨_, rfl⟩
      obtain ⟨lv, hlvv⟩ : ∃ lv, Value.slice lo xlab.length lc = lv := ⟨_, rfl⟩
      have HF0 : Hid (freeB M N sv0) := hide (fun b e => by rw [← hsv0] at e; simp [Value.ownBlock] at e)
      have HS0 : Hid (ss0.length ≤ 50000) := hide (by rw [← hss0]; simp)
      have HFIN : Hid (A.map (·.1) ++ (xlab, xsam.foldl addS ss0) :: Bq.map (·.1) = keepAll (ps.map (·.1)) xlab xsam) := hide (by
        rw [hA] at HPA
        rw [hBq] at HPB
        have hn : ∀ t ∈ Bq.map (·.1), t.1 ≠ xlab := fun t ht => HNO.out t (by
          obtain ⟨p, hp, rfl⟩ := List.mem_map.1 ht
          exact List.mem_map.2 ⟨p, hmem p (List.mem_append_right _ hp), rfl⟩)
        rw [hps, List.map_append, keepAll_new HPA.out HPB.out hn HNE.out, ← hss0])
      have hbN : w.heap.size < W3.heap.size := by have := lt_of_block HB3.out; exact this
      have HKM : Hid (KeptM B M N w w4) := hide (KeptM.trans (KeptM.grow HG3.out hBw hN) (KeptM.grown hg3 (Nat.le_trans hBw HG3.out.size) hN3 HFR.out.1 (fun k e => (HST.out.1.lt k e).1)))
      have HN2 : Hid (N ≤ w4.heap.size) := hide (Nat.le_trans hN3 hg3.size)
      have hAl : A.length = i := by rw [← hA, List.length_take]; omega
      have HBX : Hid (w4.heap[w.heap.size]? = some (.cells #[.slice lo xlab.length lc, .slice mo xsam.length mc] 41 (0, 0))) := hide (grown_block hg3 HB3.out (fun e => by have := (HST.out.1.lt _ e).2; omega))
      rw [hsv0, hss0, hlvv] at HS2
      clear hA hBq hps hmem hN3 hrow3 hg3 hat3 hbN HIN hsv0 hss0 hlvv HPA HPB HNO HB3 HG3 c0 c1 hFF HFD e3
      obtain ⟨nn, hnn⟩ : ∃ nn, ps.length + 1 = nn := ⟨_, rfl⟩
      rw [hnn] at HS2 HFB ⊢
      obtain ⟨c0, c1⟩ := two_cells HBX.out
      go_wp2
      go_loopw [33] (fun iv wr => ∃ (k : Nat) (ss : List Sam) (sv : Value), k ≤ xsam.length ∧ iv = .int .i64 k ∧ Hid (ownStore wr B (.slice uo nn uc) (A ++ ((xlab, ss), lv, sv) :: Bq)) ∧ Hid (ss = (xsam.take k).foldl addS ss0) ∧ Hid (freeB M N sv) ∧ Hid (KeptM B M N w wr) ∧ Hid (N ≤ wr.heap.size)) (fun iv _ => xsam.length - (intOf iv).toNat)
      case atStart => exact ⟨0, ss0, sv0, by omega, rfl, HS2, hide rfl, HF0, HKM, HN2⟩
      case round =>
        clear c0 c1
        obtain ⟨k, ss, sv, hk, rfl, HOS, HSS, HFS, HKW, HNW⟩ := hrel
        by_cases hlt : k < xsam.length
        · have hlti : (k : Int) < (xsam.length : Int) := by omega
          obtain ⟨sb, hmo, hsbN, hsbM, d0, d1⟩ : ∃ b, mo = some ⟨b, 0, none⟩ ∧ b < N ∧ M ≤ b ∧ wr.cell? ⟨b, k * 2, none⟩ = some (.int .i64 xsam[k].1) ∧ wr.cell? ⟨b, k * 2 + 1, none⟩ = some (.int .u64 (xsam[k].2 : Nat)) := by
            rcases HXS.out.2 with ⟨_, h0⟩ | ⟨b, cap, cur, r1, r2, r3, _⟩
            · omega
            · simp only [Value.slice.injEq] at r1
              obtain ⟨rfl, _, _⟩ := r1
              have hbN := HXN.out b rfl
              have hc := World.ownsRow.cells HXS.out (g := b) rfl
              obtain ⟨q0, q1⟩ := samC_at xsam k hlt
              have z0 := hc _ _ q0
              have z1 := hc _ _ q1
              rw [Addr.add_lit] at z0 z1
              have hm := HKW.out.mid b r2 hbN
              refine ⟨b, rfl, hbN, r2, ?_, ?_⟩
              · rw [World.cell?_of_block (w := w) hm]; simpa using z0
              · rw [World.cell?_of_block (w := w) hm]; simpa using z1
          subst hmo
          obtain ⟨p, HP⟩ : ∃ p : Sam, Hid (xsam[k] = p) := ⟨_, hide rfl⟩
          rw [HP.out] at d0 d1
          obtain ⟨g, cap, cur, hgv, hgB, hgc, hgn, hgm, hgs, hgt, hgl⟩ := HOS.out.cell
          simp only [Value.slice.injEq] at hgv
          obtain ⟨hgo, hgnn, hgcap⟩ := hgv
          subst hgo hgcap
          obtain ⟨V, eV, gV, bV⟩ := laid_at wr #[.int .i64 p.1, .int .u64 (p.2 : Nat)] 48
          obtain ⟨svo, svc, hsv⟩ := own_shape HOS.out.split.2
          have hssl : ss.length ≤ 50200 := by
            rw [HSS.out]
            have h1 := foldl_addS_len (xsam.take k) ss0
            rw [List.length_take] at h1
            have := HS0.out
            omega
          obtain ⟨F, HF⟩ : ∃ F, Hid (laterB ss p.1 = F) := ⟨_, hide rfl⟩
          have HOSV : Hid (∀ W', Grow V W' → ownStore W' B (.slice (some ⟨g, 0, none⟩) nn uc) (A ++ ((xlab, ss), lv, sv) :: Bq)) := hide fun W' gg => HOS.out.grow (gV.trans gg)
          have HLA : Hid (∀ W', Grow V W' → Calls Tryz.prog 52 #[sv, .agg #[.int .i64 p.1, .int .u64 (p.2 : Nat)]] W' fun e w' => e = .returned (.bool F) ∧ Grow W' w') := hide fun W' gg => by
            have := later_any W' sv ss p.1 p.2 (HOSV.out W' gg).split.2.reads (by omega)
            rw [HF.out] at this
            exact this
          have HGNN := hide hgnn
          have hili : (i : Int) < (nn : Int) := by omega
          have hiln : i < nn := by omega
          have HBV := hide bV
          have HGV := hide gV
          have HGL := hide hgl
          rw [hAl] at HGL
          have HSS2 : Hid (addS ss p = (xsam.take (k + 1)).foldl addS ss0) := hide (by rw [foldl_addS_snoc _ _ hlt, ← HSS.out, HP.out])
          have hBr : B ≤ wr.heap.size := Nat.le_trans hBw HKW.out.below.size
          have HGC := hide hgc
          clear gV bV hgl hgc hgt hgs hgnn hgn hgm
          go_wp2
          clear d0 d1 eV
          refine wp_region_free 7 58 mixedT rfl (by decide +kernel) Grow (fun _ _ _ => Grow.trans) (Grow.refl _)
            (fun q u _ => match q with
              | 0 => u = .slice (some ⟨g, 0, none⟩) nn uc
              | 1 => u = .int .i64 i
              | 2 => u = .pointer (some ⟨g, i * 2, none⟩)
              | 3 => u = .pointer (some ⟨g, i * 2 + 1, none⟩)
              | 4 => u = sv
              | 5 => u = .agg #[.int .i64 p.1, .int .u64 (p.2 : Nat)]
              | _ => u = .bool F)
            (fun q u w5 w6 h hg => h) (fun _ _ => False) (fun _ _ _ _ h => h.elim) (fun q hq o ho a w5 hG hoff hdep => ?_) (fun vals w5 hG hvals => ?_)
          · have hb5 : Grow V w5 := hG.undrew
            have gl : w5.cell? ⟨g, i * 2 + 1, none⟩ = some sv := ((HGV.out.trans hb5).cell (p := ⟨g, i * 2 + 1, none⟩) (World.block_lt_of_cell? _ _ HGL.out)).trans HGL.out
            obtain ⟨q0, q1⟩ := two_cells (hb5.get HBV.out)
            subst hsv
            match q, hq with
            | 0, _ =>
              obtain rfl := Option.some.inj ho
              have o0 := hoff 0 (by decide +kernel)
              simp at o0
              simp [opYields, go_sem, o0]
              exact Grow.refl _
            | 1, _ =>
              obtain rfl := Option.some.inj ho
              have o5 := hoff 5 (by decide +kernel)
              simp at o5
              simp [opYields, go_sem, o5]
              exact Grow.refl _
            | 2, _ =>
              obtain rfl := Option.some.inj ho
              have d0 := hdep 0 (by decide +kernel)
              simp [slotOf, dstOf] at d0
              have d1 := hdep 1 (by decide +kernel)
              simp [slotOf, dstOf] at d1
              simp [opYields, go_sem, d0, d1, hili, hiln]
              exact Grow.refl _
            | 3, _ =>
              obtain rfl := Option.some.inj ho
              have d2 := hdep 2 (by decide +kernel)
              simp [slotOf, dstOf] at d2
              simp [opYields, go_sem, d2]
              exact Grow.refl _
            | 4, _ =>
              obtain rfl := Option.some.inj ho
              have d3 := hdep 3 (by decide +kernel)
              simp [slotOf, dstOf] at d3
              simp [opYields, go_sem, d3, gl]
              exact Grow.refl _
            | 5, _ =>
              obtain rfl := Option.some.inj ho
              have o8 := hoff 8 (by decide +kernel)
              simp at o8
              simp [opYields, go_sem, o8, q0, q1]
              exact Grow.refl _
            | 6, _ =>
              obtain rfl := Option.some.inj ho
              have d4 := hdep 4 (by decide +kernel)
              simp [slotOf, dstOf] at d4
              have d5 := hdep 5 (by decide +kernel)
              simp [slotOf, dstOf] at d5
              simp [opYields, go_sem, d4, d5]
              refine (HLA.out w5 hb5).mono ?_
              rintro e w6 ⟨rfl, hb⟩
              exact ⟨hb, rfl⟩
            | q + 7, h => exact absurd h (by omega)
          · have v6 := hvals 6 (by omega)
            simp only at v6
            have hV5 : Grow V w5 := hG.undrew
            have HG5 := hide hV5
            clear hvals hG hV5
            simp [over, dstOf, Act.put, v6]
            cases F with
            | false =>
              have HAD : Hid (addS ss p = ss) := hide (by unfold addS; rw [HF.out]; rfl)
              go_wp2
              go_roundw
              case rel => exact ⟨k + 1, ss, sv, by omega, by go_num, hide (HOSV.out w5 HG5.out), hide (by rw [← HSS2.out, HAD.out]), HFS, hide (KeptM.trans HKW.out (KeptM.grow (HGV.out.trans HG5.out) hBr HNW.out)), hide (Nat.le_trans HNW.out (HGV.out.trans HG5.out).size)⟩
              case measure => simp [intOf]; omega
            | true =>
              have HAD : Hid (addS ss p = ss ++ [p]) := hide (by unfold addS; rw [HF.out]; rfl)
              go_wp2
              have hGw5 : Grow wr w5 := HGV.out.trans HG5.out
              obtain ⟨X, eX⟩ : ∃ X, w5.drew.alloc (.cells #[.int .i64 p.1, .int .u64 (p.2 : Nat)] 48) = X := ⟨_, rfl⟩
              have hGX : Grow w5 X := Grow.trans (⟨rfl, rfl, rfl, Nat.le_refl _, fun _ _ => rfl⟩ : Grow w5 w5.drew) (by rw [← eX]; exact (Grow.refl _).alloc _)
              have hbX : X.heap[w5.heap.size]? = some (.cells #[.int .i64 p.1, .int .u64 (p.2 : Nat)] 48 (0, 0)) := by rw [← eX]; exact heap_alloc_new _ _
              have hOSX := HOSV.out X (HG5.out.trans hGX)
              have gl5 : w5.drew.cell? ⟨g, i * 2 + 1, none⟩ = some sv := (hGw5.cell (p := ⟨g, i * 2 + 1, none⟩) (World.block_lt_of_cell? _ _ HGL.out)).trans HGL.out
              have glX : X.cell? ⟨g, i * 2 + 1, none⟩ = some sv := (hGX.cell (p := ⟨g, i * 2 + 1, none⟩) (World.block_lt_of_cell? _ _ gl5)).trans gl5
              obtain ⟨q0, q1⟩ := two_cells (HG5.out.get HBV.out)
              have q0' : w5.drew.cell? ⟨wr.heap.size, 0, none⟩ = some (.int .i64 p.1) := q0
              have q1' : w5.drew.cell? ⟨wr.heap.size, 1, none⟩ = some (.int .u64 (p.2 : Nat)) := q1
              have hgX : X.heap[g]? = some (.cells cur 41 (0, 0)) := (hGw5.trans hGX).get HGC.out
              have hBX : B ≤ X.heap.size := Nat.le_trans hBr (hGw5.trans hGX).size
              have mixed : Tryz.prog.follows .mixedOrders = true := by kernel_rfl
              subst hsv
              go_region_law_o (refine step_app_at rfl _ _ 35 rfl B 48 j0 _ 2 16 Tryz.underlying35 hj0 hy0 hy1 hy2 rfl (by decide) _ ss.length (samC ss) (by simp [Act.eval, Act.put]) hOSX.split.2 ⟨w5.heap.size, 0, none⟩ 1 1 [.int .i64 p.1, .int .u64 (p.2 : Nat)] (by simp [Act.eval, Act.put]) rfl (World.news_of_block hbX) (by simp [Value.oneCell']) (by unfold maxLen; omega) (by omega) hBX ?_; intro v6 w6 hown6 hg6 hat6; obtain ⟨o6, c6, hv6⟩ := own_shape hown6; subst hv6; have hg6c := grown_block hg6 hgX (own_apart hOSX.split.2 hgX (by decide)); have cc6 : w6.cell? ⟨g, i * 2 + 1, none⟩ = some (.slice svo ss.length svc) := (World.cell?_of_block (w := X) (hg6c.trans hgX.symm)).trans ((hGX.cell (p := ⟨g, i * 2 + 1, none⟩) (World.block_lt_of_cell? _ _ gl5)).trans gl5); have zz6 : w6.frozen? ⟨g, i * 2 + 1, none⟩ = false := by simp only [World.frozen?, hg6c]; rfl)
              all_goals (
                have HO6 := hide hown6
                have HGR6 := hide hg6
                have HAT6 := hide hat6
                have HOX := hide hOSX
                have HGWX : Hid (Grow wr X) := hide (hGw5.trans hGX)
                clear hown6 hg6 hat6 hOSX hGX hGw5 hg6c cc6 zz6 q0 q1 q0' q1' gl5 glX hbX eX
                go_wp2
                go_roundw
                case rel =>
                  have hNX : N ≤ X.heap.size := Nat.le_trans HNW.out HGWX.out.size
                  have hfg : g < M ∨ N ≤ g := HFB.out g rfl
                  have hS6 : ownSam w6 B (.slice o6 (ss.length + 1) c6) (ss ++ [p]) := by
                    unfold ownSam
                    rw [List.length_append, samC_append]
                    exact HO6.out
                  refine ⟨k + 1, ss ++ [p], .slice o6 (ss.length + 1) c6, by omega, by go_num, hide ?_, hide (by rw [← HSS2.out, HAD.out]), hide (fun b e => ?_), hide (KeptM.trans HKW.out (KeptM.trans (KeptM.grow HGWX.out hBr HNW.out) (KeptM.trans (KeptM.grown HGR6.out hBX hNX HFS.out (fun b e => (HOX.out.split.2.lt b e).1)) (KeptM.setCell w6 g (i * 2 + 1) _ hgB hfg)))), hide ?_⟩
                  · have := HOX.out.put (by rw [HGNN.out]) HGR6.out hS6 (by
                      rcases HAT6.out with h | h
                      · exact .inl h
                      · exact .inr ⟨_, h, Nat.le_refl _⟩)
                    rw [hAl] at this
                    exact this
                  · rcases HAT6.out with h | h
                    · exact HFS.out b (by rw [← h]; exact e)
                    · rw [h] at e
                      obtain rfl : X.heap.size = b := by simpa using e
                      exact .inr hNX
                  · show N ≤ (w6.setCell _ _).heap.size
                    have := HGR6.out.size
                    simp only [World.setCell, Array.size_modify]
                    omega
                case measure => simp [intOf]; omega)
        · obtain rfl : k = xsam.length := by omega
          go_wp2
          go_ret
          refine ⟨_, _, rfl, HOS.out, ⟨HFB.out, fun p hp => ?_⟩, ?_, HKW.out⟩
          · rcases List.mem_append.1 hp with hp | hp
            · exact HFA.out p (List.mem_append_left _ hp)
            · rcases List.mem_cons.1 hp with rfl | hp
              · exact HFS.out
              · exact HFA.out p (List.mem_append_right _ hp)
          · rw [List.map_append, List.map_cons, HSS.out, List.take_length]
            exact HFIN.out
end Go.Proofs.YtmdakfmecfcbhaaGreat.Tk
