/- 1 texts in one. -/
import Derived.Test.YtmdakfmecfcbhaaGreatProg
import Derived.Test.YtmdakfmecfcbhaaGreatK7e06493
import Derived.Test.YtmdakfmecfcbhaaGreatK85cc7d6
import Derived.Test.YtmdakfmecfcbhaaGreatK3e23582
import Derived.Test.YtmdakfmecfcbhaaGreatKf6e7fe6
set_option linter.unusedVariables false
set_option linter.unusedSimpArgs false
namespace Go.Proofs.YtmdakfmecfcbhaaGreat
open Go.RowKit
attribute [local go_sem] bs_size bs_toList bs_append bs_get bs_extract
set_option maxRecDepth 20000 in
set_option maxHeartbeats 8000000 in
theorem readOf_any (w : World) (s : List UInt8) (hs : s.length ≤ 9223372036854775807) :
    Calls Tryz.prog 32 #[.string (bs s)] w fun e w' => Below w.heap.size w w' ∧
      ((readErr s = 0 ∧ ∃ x v, allRead s = some x ∧ e = .returned (.tuple #[v, .int .i64 0]) ∧ ownSeries w' w.heap.size v x) ∨ (readErr s ≠ 0 ∧ e = .returned (.tuple #[.slice none 0 0, .int .i64 (readErr s)]))) := by
  by_cases hlen : s.length ≤ 20000
  · have HErr : Hid (readErr s = rdErr s) := by show _ = _; unfold readErr; rw [if_pos hlen]
    have HBad : Hid (allRead s = none → readErr s = 1) := fun h => by rw [HErr.out]; unfold rdErr; rw [h]
    go_enter Tryz.func32, Tryz.ntmps32
    go_wp2_with fail
    refine (fieldsOf_any w s (by omega)).mono ?_
    rintro e w1 ⟨hb1, (⟨v, hok, rfl, hoT⟩ | ⟨hok, rfl⟩)⟩
    · have HIn := hide (raws_in s)
      have HLen := raws_len s
      have HGood := hide (allRead_raw (b := s) hok)
      have HBad2 : Hid ((∃ f ∈ (raws s).1, allOk (asFld f) = false) → readErr s = 1) := fun h => HBad.out (allRead_bad (.inr h))
      clear hok
      generalize (raws s).1 = T at *
      obtain ⟨aoT, cpT, rfl, hcells⟩ := reads_ownRaws hoT
      have HCells := hide hcells
      clear hcells hoT
      have hs1 := hb1.size
      go_wp2
      go_loopw [6, 7] (fun out i wr => ∃ k : Nat, k ≤ T.length ∧ i = .int .i64 k ∧ Below w1.heap.size w1 wr ∧ ownSeries wr w1.heap.size out (allOf ((T.take k).map asFld)) ∧ Hid (∀ f ∈ T.take k, allOk (asFld f) = true)) (fun _ i _ => T.length - (intOf i).toNat)
      case atStart => exact ⟨0, by omega, rfl, Below.refl _ _, ownSeries_nil _ _, hide (by simp)⟩
      case round =>
        obtain ⟨k, hk, rfl, hbr, hout, HOk⟩ := hrel
        by_cases hlt : k < T.length
        · obtain ⟨gT, haoT, hgT, c0, c1, c2, c3⟩ := HCells.out k hlt
          subst haoT
          have d0 := (hbr.cell (p := ⟨gT, k * 4, none⟩) hgT).trans c0
          have d1 := (hbr.cell (p := ⟨gT, k * 4 + 1, none⟩) hgT).trans c1
          have d3 := (hbr.cell (p := ⟨gT, k * 4 + 3, none⟩) hgT).trans c3
          have hin := HIn.out _ (List.getElem_mem hlt)
          have HTk : Hid (T.take (k + 1) = T.take k ++ [T[k]]) := List.take_succ_eq_append_getElem hlt
          have HMem : Hid (T[k] ∈ T) := List.getElem_mem hlt
          clear c0 c1 c2 c3
          obtain ⟨h, n, b, HX⟩ : ∃ h n b, Hid (T[k] = (h, n, b)) := ⟨_, _, _, hide rfl⟩
          rw [HX.out] at d0 d1 d3 hin
          simp only at d0 d1 d3
          obtain ⟨hin1, hin2, hin3, hin4⟩ := hin
          simp only at hin1 hin2 hin3 hin4
          have HIn4 := hide hin4
          have HIn2 := hide hin2
          clear hin4 hin2
          have hsr := hbr.size
          by_cases m : h = 10
          · have M := hide m
            have t0 : (h : Int) / 8 = 1 := by omega
            have t1 : (h : Int) % 8 = 2 := by omega
            rw [t0] at d0
            rw [t1] at d1
            clear t0 t1 m
            go_wp2_with fail
            refine (fieldsOf_any wr b (by omega)).mono ?_
            rintro e w2 ⟨hb2, (⟨v2, hok2, rfl, hoU⟩ | ⟨hok2, rfl⟩)⟩
            · have HInU := hide (raws_in b)
              have HLenU := raws_len b
              have HGoodU := hide (serRead_raw (b := b) hok2)
              have HBadU : Hid ((∃ f ∈ (raws b).1, serOk (asFld f) = false) → readErr s = 1) := fun h => HBad2.out ⟨_, HMem.out, by rw [HX.out, M.out, allOk_ten, serRead_bad (.inr h)]; rfl⟩
              clear hok2
              generalize (raws b).1 = U at *
              obtain ⟨aoU, cpU, rfl, hcellsU⟩ := reads_ownRaws hoU
              have HCellsU := hide hcellsU
              clear hcellsU hoU d0 d1 d3
              have hs2 := hb2.size
              go_wp2
              go_loopw [11] (fun i wk => ∃ q : Nat, q ≤ U.length ∧ i = .int .i64 q ∧ Below w2.heap.size w2 wk ∧ serAt wk (w2.heap.size + 1) w2.heap.size (serOf ((U.take q).map asFld)) ∧ Hid (∀ f ∈ U.take q, serOk (asFld f) = true)) (fun i _ => U.length - (intOf i).toNat)
              case atStart => exact ⟨0, by omega, rfl, (Below.refl _ _).alloc (Nat.le_refl _) _, ⟨by simp, _, _, heap_alloc_new _ _, World.ownsRow_nil _ _ _ _, World.ownsRow_nil _ _ _ _⟩, hide (by simp)⟩
              case round =>
                obtain ⟨q, hq, rfl, hbk, hser, HOkU⟩ := hrel
                rename World => wk
                by_cases hqlt : q < U.length
                · obtain ⟨gU, haoU, hgU, c0, c1, c2, c3⟩ := HCellsU.out q hqlt
                  subst haoU
                  have e0 := (hbk.cell (p := ⟨gU, q * 4, none⟩) hgU).trans c0
                  have e1 := (hbk.cell (p := ⟨gU, q * 4 + 1, none⟩) hgU).trans c1
                  have e2 := (hbk.cell (p := ⟨gU, q * 4 + 2, none⟩) hgU).trans c2
                  have e3 := (hbk.cell (p := ⟨gU, q * 4 + 3, none⟩) hgU).trans c3
                  have hin := HInU.out _ (List.getElem_mem hqlt)
                  have HUq : Hid (U.take (q + 1) = U.take q ++ [U[q]]) := List.take_succ_eq_append_getElem hqlt
                  have HMemU : Hid (U[q] ∈ U) := List.getElem_mem hqlt
                  clear c0 c1 c2 c3
                  obtain ⟨h', n', b', HY⟩ : ∃ h n b, Hid (U[q] = (h, n, b)) := ⟨_, _, _, hide rfl⟩
                  rw [HY.out] at e0 e1 e2 e3 hin
                  simp only at e0 e1 e2 e3
                  obtain ⟨kin1, kin2, kin3, kin4⟩ := hin
                  simp only at kin1 kin2 kin3 kin4
                  clear kin4 kin2
                  have hsk := hbk.size
                  by_cases mm : h' = 10
                  · as_aux_lemma =>
                    have MM := hide mm
                    have k1 : (h' : Int) / 8 = 1 := by omega
                    have k2 : (h' : Int) % 8 = 2 := by omega
                    rw [k1] at e0
                    rw [k2] at e1
                    clear k1 k2 mm
                    have hfb := heap_alloc_new wk (.cells #[.int .i64 1, .int .i64 2, .int .u64 n', .string (bs b')] 88)
                    obtain ⟨W, HW⟩ : ∃ W, Hid (W = wk.alloc (.cells #[.int .i64 1, .int .i64 2, .int .u64 n', .string (bs b')] 88)) := ⟨_, hide rfl⟩
                    have gW : Grow wk W := by rw [HW.out]; exact (Grow.refl _).alloc _
                    rw [← HW.out] at hfb
                    go_wp2_with fail
                    rw [← HW.out]
                    refine (fieldsOf_any W b' (by omega)).mono ?_
                    rintro e w3 ⟨hb3, (⟨v3, hok3, rfl, hoV⟩ | ⟨hok3, rfl⟩)⟩
                    · have HLenV := raws_len b'
                      have HLab : Hid (labRead b' = some (labOf ((raws b').1.map asFld))) := by show _ = _; rw [labRead_raw, if_pos hok3]
                      have HInV := hide (raws_in b')
                      clear hok3
                      generalize (raws b').1 = V at *
                      obtain ⟨aoV, cpV, rfl, hcellsV⟩ := reads_ownRaws hoV
                      have HCellsV := hide hcellsV
                      clear hcellsV hoV e0 e1 e2 e3
                      have hs3 := hb3.size
                      have hsW := gW.size
                      have hfb3 := Grow.get hb3 hfb
                      have hltb : wk.heap.size < w3.heap.size := lt_of_block hfb3
                      obtain ⟨⟨g0, g1, g2, g3⟩, _⟩ := four_cells hfb3
                      go_wp2
                      go_loopw [17] (fun i wj => ∃ r : Nat, r ≤ V.length ∧ i = .int .i64 r ∧ Below w3.heap.size w3 wj ∧ w3.heap.size + 2 ≤ wj.heap.size ∧ wj.heap[w3.heap.size]? = some (.cells #[.string (bs (labOf ((V.take r).map asFld)).1), .string (bs (labOf ((V.take r).map asFld)).2)] 62 (0, 0)) ∧ wj.heap[w3.heap.size + 1]? = some (.cells #[.int .i64 0, .int .u64 0] 48 (0, 0))) (fun i _ => V.length - (intOf i).toNat)
                      case atStart => exact ⟨0, by omega, rfl, ((Below.refl _ _).alloc (Nat.le_refl _) _).alloc (by simp) _, by simp, by rw [Below.heap_alloc _ _ _ (by simp)]; exact heap_alloc_new _ _, by have h9 := heap_alloc_new (w3.alloc (.cells #[.string { data := #[] }, .string { data := #[] }] 62)) (.cells #[.int .i64 0, .int .u64 0] 48); simpa using h9⟩
                      case round =>
                        obtain ⟨r, hr, rfl, hbj, hsj, hlab, hsam⟩ := hrel
                        rename World => wj
                        by_cases hrlt : r < V.length
                        · as_aux_lemma =>
                          obtain ⟨gV, haoV, hgV, c0, c1, c2, c3⟩ := HCellsV.out r hrlt
                          subst haoV
                          have f0 := (hbj.cell (p := ⟨gV, r * 4, none⟩) hgV).trans c0
                          have f1 := (hbj.cell (p := ⟨gV, r * 4 + 1, none⟩) hgV).trans c1
                          have f2 := (hbj.cell (p := ⟨gV, r * 4 + 2, none⟩) hgV).trans c2
                          have f3 := (hbj.cell (p := ⟨gV, r * 4 + 3, none⟩) hgV).trans c3
                          have hin := HInV.out _ (List.getElem_mem hrlt)
                          have HVr : Hid (V.take (r + 1) = V.take r ++ [V[r]]) := List.take_succ_eq_append_getElem hrlt
                          clear c0 c1 c2 c3
                          obtain ⟨h2, n2, b2, HZ⟩ : ∃ h n b, Hid (V[r] = (h, n, b)) := ⟨_, _, _, hide rfl⟩
                          rw [HZ.out] at f0 f1 f2 f3 hin
                          simp only at f0 f1 f2 f3
                          have h2pos := hin.1
                          simp only at h2pos
                          clear hin
                          have hfbj := below_block hbj hfb3 hltb
                          have hltb2 : wk.heap.size < wj.heap.size := lt_of_block hfbj
                          generalize HLB : labOf ((V.take r).map asFld) = lb at *
                          have HLb := hide HLB
                          clear HLB g0 g1 g2 g3
                          obtain ⟨G, HG⟩ : ∃ G, Hid (G = wj.alloc (.cells #[.int .i64 ((h2 : Int) / 8), .int .i64 ((h2 : Int) % 8), .int .u64 n2, .string (bs b2)] 88)) := ⟨_, hide rfl⟩
                          have gG : Grow wj G := by rw [HG.out]; exact (Grow.refl _).alloc _
                          have hfbG := gG.get hfbj
                          have hlabG := gG.get hlab
                          rw [HG.out] at hfbG hlabG
                          obtain ⟨⟨g0, g1, g2, g3⟩, _⟩ := four_cells hfbG
                          obtain ⟨l0, l1⟩ := two_cells hlabG
                          have z0 : (wj.alloc (.cells #[.int .i64 ((h2 : Int) / 8), .int .i64 ((h2 : Int) % 8), .int .u64 n2, .string (bs b2)] 88)).frozen? ⟨w3.heap.size, 0, none⟩ = false := by simp only [World.frozen?, hlabG]; rfl
                          have z1 : (wj.alloc (.cells #[.int .i64 ((h2 : Int) / 8), .int .i64 ((h2 : Int) % 8), .int .u64 n2, .string (bs b2)] 88)).frozen? ⟨w3.heap.size, 1, none⟩ = false := by simp only [World.frozen?, hlabG]; rfl
                          clear hfbG hlabG
                          have hltl : w3.heap.size < wj.heap.size := by omega
                          have hlts : w3.heap.size + 1 < wj.heap.size := by omega
                          by_cases p1 : (h2 : Int) / 8 = 1
                          · by_cases p2 : (h2 : Int) % 8 = 2
                            · have HV2 : Hid (h2 = 10) := by show _ = _; omega
                              have t81 : ((h2 : Int) / 8 == 1) = true := by rw [beq_iff_eq]; omega
                              have t82 : ((h2 : Int) / 8 == 2) = false := by rw [beq_eq_false_iff_ne]; omega
                              have t82 : ((h2 : Int) % 8 == 2) = true := by rw [beq_iff_eq]; omega
                              clear p1 p2
                              go_wp2
                              go_roundw
                              case rel => exact ⟨r + 1, by omega, by go_num, (hbj.setCell (p := ⟨w3.heap.size, 0, none⟩) (Nat.le_refl _) _).alloc (by simp [World.setCell]; omega) _, by simp [World.setCell]; omega, by rw [HVr.out, labOf_step, HLb.out, HZ.out, HV2.out, labStep_ten, Below.heap_alloc _ _ _ (by simpa [World.setCell] using hltl), set_block hlab]; rfl, by rw [Below.heap_alloc _ _ _ (by simpa [World.setCell] using hlts), Below.heap_setCell _ _ _ _ (by simp)]; exact hsam⟩
                              case measure => simp [intOf]; omega
                            · have HVn : Hid (V[r].1 ≠ 10 ∧ V[r].1 ≠ 18) := by show _ ∧ _; rw [HZ.out]; show h2 ≠ 10 ∧ h2 ≠ 18; omega
                              have t81 : ((h2 : Int) / 8 == 1) = true := by rw [beq_iff_eq]; omega
                              have t82 : ((h2 : Int) / 8 == 2) = false := by rw [beq_eq_false_iff_ne]; omega
                              have t82 : ((h2 : Int) % 8 == 2) = false := by rw [beq_eq_false_iff_ne]; omega
                              clear p1 p2
                              go_wp2
                              go_roundw
                              case rel => exact ⟨r + 1, by omega, by go_num, hbj.alloc hbj.size _, by simp; omega, by rw [HVr.out, labOf_step, HLb.out, labStep_other lb HVn.out.1 HVn.out.2, Below.heap_alloc _ _ _ hltl]; exact hlab, by rw [Below.heap_alloc _ _ _ hlts]; exact hsam⟩
                              case measure => simp [intOf]; omega
                          · by_cases p3 : (h2 : Int) / 8 = 2
                            · by_cases p2 : (h2 : Int) % 8 = 2
                              · have HV2 : Hid (h2 = 18) := by show _ = _; omega
                                have t81 : ((h2 : Int) / 8 == 1) = false := by rw [beq_eq_false_iff_ne]; omega
                                have t82 : ((h2 : Int) / 8 == 2) = true := by rw [beq_iff_eq]; omega
                                have t82 : ((h2 : Int) % 8 == 2) = true := by rw [beq_iff_eq]; omega
                                clear p1 p2 p3
                                go_wp2
                                go_roundw
                                case rel => exact ⟨r + 1, by omega, by go_num, (hbj.setCell (p := ⟨w3.heap.size, 1, none⟩) (Nat.le_refl _) _).alloc (by simp [World.setCell]; omega) _, by simp [World.setCell]; omega, by rw [HVr.out, labOf_step, HLb.out, HZ.out, HV2.out, labStep_eighteen, Below.heap_alloc _ _ _ (by simpa [World.setCell] using hltl), set_block hlab]; rfl, by rw [Below.heap_alloc _ _ _ (by simpa [World.setCell] using hlts), Below.heap_setCell _ _ _ _ (by simp)]; exact hsam⟩
                                case measure => simp [intOf]; omega
                              · have HVn : Hid (V[r].1 ≠ 10 ∧ V[r].1 ≠ 18) := by show _ ∧ _; rw [HZ.out]; show h2 ≠ 10 ∧ h2 ≠ 18; omega
                                have t81 : ((h2 : Int) / 8 == 1) = false := by rw [beq_eq_false_iff_ne]; omega
                                have t82 : ((h2 : Int) / 8 == 2) = true := by rw [beq_iff_eq]; omega
                                have t82 : ((h2 : Int) % 8 == 2) = false := by rw [beq_eq_false_iff_ne]; omega
                                clear p1 p2 p3
                                go_wp2
                                go_roundw
                                case rel => exact ⟨r + 1, by omega, by go_num, hbj.alloc hbj.size _, by simp; omega, by rw [HVr.out, labOf_step, HLb.out, labStep_other lb HVn.out.1 HVn.out.2, Below.heap_alloc _ _ _ hltl]; exact hlab, by rw [Below.heap_alloc _ _ _ hlts]; exact hsam⟩
                                case measure => simp [intOf]; omega
                            · have HVn : Hid (V[r].1 ≠ 10 ∧ V[r].1 ≠ 18) := by show _ ∧ _; rw [HZ.out]; show h2 ≠ 10 ∧ h2 ≠ 18; omega
                              have t81 : ((h2 : Int) / 8 == 1) = false := by rw [beq_eq_false_iff_ne]; omega
                              have t82 : ((h2 : Int) / 8 == 2) = false := by rw [beq_eq_false_iff_ne]; omega
                              clear p1 p3
                              go_wp2
                              go_roundw
                              case rel => exact ⟨r + 1, by omega, by go_num, hbj.alloc hbj.size _, by simp; omega, by rw [HVr.out, labOf_step, HLb.out, labStep_other lb HVn.out.1 HVn.out.2, Below.heap_alloc _ _ _ hltl]; exact hlab, by rw [Below.heap_alloc _ _ _ hlts]; exact hsam⟩
                              case measure => simp [intOf]; omega
                        · as_aux_lemma =>
                          have HTr : Hid (V.take r = V) := List.take_of_length_le (by omega)
                          rw [HTr.out] at hlab
                          obtain ⟨lx, HLx⟩ : ∃ lx, Hid (labOf (V.map asFld) = lx) := ⟨_, hide rfl⟩
                          rw [HLx.out] at hlab
                          have HLab2 : Hid (labRead b' = some lx) := by show _ = _; rw [HLab.out, HLx.out]
                          have hfbj := below_block hbj hfb3 hltb
                          have gj : Grow wk wj := Grow.trans gW (Grow.trans hb3 hbj)
                          have hserj := serAt_grow hser gj
                          have hlenx : (serOf ((U.take q).map asFld)).1.length ≤ 1000000 := by have h9 := (serOf_len ((U.take q).map asFld) ([], [])).1; rw [List.length_map, List.length_take, List.length_nil] at h9; have e9 : (serOf ((U.take q).map asFld)).1.length = (((U.take q).map asFld).foldl serStep ([], [])).1.length := rfl; omega
                          obtain ⟨xs, HXs⟩ : ∃ xs, Hid (serOf ((U.take q).map asFld) = xs) := ⟨_, hide rfl⟩
                          rw [HXs.out] at hserj hlenx
                          obtain ⟨ls, ss⟩ := xs
                          obtain ⟨hBx, v1, v2, hxb, ho1, ho2⟩ := hserj
                          simp only at ho1 ho2 hlenx
                          obtain ⟨ao1, cp1, rfl⟩ := own_shape ho1
                          obtain ⟨ao2, cp2, rfl⟩ := own_shape ho2
                          clear g0 g1 g2 g3
                          obtain ⟨x0, x1⟩ := two_cells hxb
                          obtain ⟨l0, l1⟩ := two_cells hlab
                          obtain ⟨⟨g0, g1, g2, g3⟩, _⟩ := four_cells hfbj
                          have hwj : w2.heap.size + 1 ≤ wj.heap.size := by omega
                          have hbel : Below w2.heap.size w2 wj := hbk.trans (Below.mono gj (by omega))
                          have HO1 := hide ho1
                          have HO2 := hide ho2
                          have HXB := hide hxb
                          have HBel := hide hbel
                          clear ho1 ho2 hxb hbel hlab hfbj
                          go_wp2_with (at_builtin; go_must (refine append_lab rfl (.tmp 193) (.tmp 195) rfl (w2.heap.size + 1) (.slice ao1 ls.length cp1) ls lx rfl HO1.out rfl hlenx hwj ?_); intro ao3 cp3 w7 hown7 hb7 hg7; have hx7 := grown_block hg7 (Grow.get ((Grow.refl _).alloc _) HXB.out) (own_apart HO1.out HXB.out (by decide)); have z7 : w7.frozen? ⟨w2.heap.size, 0, none⟩ = false := (by simp only [World.frozen?, hx7]; rfl); have HG7 := hide hg7; have HOW7 := hide hown7; clear hg7 hown7; obtain ⟨y0, y1⟩ := two_cells hx7)
                          go_roundw
                          case rel =>
                            have g8 : Grow wj (wj.alloc (.cells #[.string (bs lx.1), .string (bs lx.2)] 62)) := (Grow.refl _).alloc _
                            have hoth := World.ownsRow.kept (own_grow HO2.out g8) HG7.out (own_two (own_grow HO2.out g8) (own_grow HO1.out g8) (by decide))
                            refine ⟨q + 1, by omega, by go_num, (HBel.out.trans (hb7.mono (by omega))).setCell (p := ⟨w2.heap.size, 0, none⟩) (Nat.le_refl _) _, ?_, hide (all_snoc HUq.out HOkU.out (by rw [HY.out, MM.out, serOk_ten, HLab2.out]; rfl))⟩
                            rw [HUq.out, HY.out, MM.out, serOf_ten HLab2.out, HXs.out]
                            have h7s := hb7.size
                            exact ⟨by simp [World.setCell]; omega, .slice ao3 (ls.length + 1) cp3, .slice ao2 ss.length cp2, set_block hx7 _, ownsRow_setCell_other (a := ⟨w2.heap.size, 0, none⟩) HOW7.out (own_apart HOW7.out hx7 (by decide)) _, ownsRow_setCell_other (a := ⟨w2.heap.size, 0, none⟩) hoth (own_apart hoth hx7 (by decide)) _⟩
                          case measure => simp [intOf]; omega
                    · have he := HBadU.out ⟨_, HMemU.out, by rw [HY.out, MM.out, serOk_ten, labRead_raw, hok3]; rfl⟩
                      have HE := hide he
                      clear he hok3
                      go_wp2
                      go_ret2
                      have hne : readErr s ≠ 0 := by rw [HE.out]; decide
                      have hsW := gW.size
                      exact ⟨(hb1.trans (hbr.mono hs1)).trans ((hb2.mono (by omega)).trans ((hbk.mono (by omega)).trans ((Below.mono gW (by omega)).trans (hb3.mono (by omega))))), .inr ⟨hne, by rw [HE.out]; rfl⟩⟩
                  · by_cases mm2 : h' = 18
                    · as_aux_lemma =>
                      have MM := hide mm2
                      have k1 : (h' : Int) / 8 = 2 := by omega
                      have k2 : (h' : Int) % 8 = 2 := by omega
                      rw [k1] at e0
                      rw [k2] at e1
                      clear k1 k2 mm mm2
                      have hfb := heap_alloc_new wk (.cells #[.int .i64 2, .int .i64 2, .int .u64 n', .string (bs b')] 88)
                      obtain ⟨W, HW⟩ : ∃ W, Hid (W = wk.alloc (.cells #[.int .i64 2, .int .i64 2, .int .u64 n', .string (bs b')] 88)) := ⟨_, hide rfl⟩
                      have gW : Grow wk W := by rw [HW.out]; exact (Grow.refl _).alloc _
                      rw [← HW.out] at hfb
                      go_wp2_with fail
                      rw [← HW.out]
                      refine (fieldsOf_any W b' (by omega)).mono ?_
                      rintro e w3 ⟨hb3, (⟨v3, hok3, rfl, hoV⟩ | ⟨hok3, rfl⟩)⟩
                      · have HLenV := raws_len b'
                        have HLab : Hid (samRead b' = some (samOf ((raws b').1.map asFld))) := by show _ = _; rw [samRead_raw, if_pos hok3]
                        have HInV := hide (raws_in b')
                        clear hok3
                        generalize (raws b').1 = V at *
                        obtain ⟨aoV, cpV, rfl, hcellsV⟩ := reads_ownRaws hoV
                        have HCellsV := hide hcellsV
                        clear hcellsV hoV e0 e1 e2 e3
                        have hs3 := hb3.size
                        have hsW := gW.size
                        have hfb3 := Grow.get hb3 hfb
                        have hltb : wk.heap.size < w3.heap.size := lt_of_block hfb3
                        obtain ⟨⟨g0, g1, g2, g3⟩, _⟩ := four_cells hfb3
                        go_wp2
                        go_loopw [17] (fun i wj => ∃ r : Nat, r ≤ V.length ∧ i = .int .i64 r ∧ Below w3.heap.size w3 wj ∧ w3.heap.size + 2 ≤ wj.heap.size ∧ wj.heap[w3.heap.size + 1]? = some (.cells #[.int .i64 (samOf ((V.take r).map asFld)).1, .int .u64 (samOf ((V.take r).map asFld)).2] 48 (0, 0))) (fun i _ => V.length - (intOf i).toNat)
                        case atStart => exact ⟨0, by omega, rfl, ((Below.refl _ _).alloc (Nat.le_refl _) _).alloc (by simp) _, by simp, by have h9 := heap_alloc_new (w3.alloc (.cells #[.string { data := #[] }, .string { data := #[] }] 62)) (.cells #[.int .i64 0, .int .u64 0] 48); rw [show samOf ((V.take 0).map asFld) = (0, 0) from rfl]; simpa using h9⟩
                        case round =>
                          obtain ⟨r, hr, rfl, hbj, hsj, hlab⟩ := hrel
                          rename World => wj
                          by_cases hrlt : r < V.length
                          · as_aux_lemma =>
                            obtain ⟨gV, haoV, hgV, c0, c1, c2, c3⟩ := HCellsV.out r hrlt
                            subst haoV
                            have f0 := (hbj.cell (p := ⟨gV, r * 4, none⟩) hgV).trans c0
                            have f1 := (hbj.cell (p := ⟨gV, r * 4 + 1, none⟩) hgV).trans c1
                            have f2 := (hbj.cell (p := ⟨gV, r * 4 + 2, none⟩) hgV).trans c2
                            have f3 := (hbj.cell (p := ⟨gV, r * 4 + 3, none⟩) hgV).trans c3
                            have hin := HInV.out _ (List.getElem_mem hrlt)
                            have HVr : Hid (V.take (r + 1) = V.take r ++ [V[r]]) := List.take_succ_eq_append_getElem hrlt
                            clear c0 c1 c2 c3
                            obtain ⟨h2, n2, b2, HZ⟩ : ∃ h n b, Hid (V[r] = (h, n, b)) := ⟨_, _, _, hide rfl⟩
                            rw [HZ.out] at f0 f1 f2 f3 hin
                            simp only at f0 f1 f2 f3
                            have h2pos := hin.1
                            have hn64 := hin.2.1
                            have hin8 := hin.2.2.2
                            simp only at h2pos hn64 hin8
                            have HIN8 := hide hin8
                            have HN64 := hide hn64
                            clear hin hin8 hn64
                            have hfbj := below_block hbj hfb3 hltb
                            have hltb2 : wk.heap.size < wj.heap.size := lt_of_block hfbj
                            generalize HLB : samOf ((V.take r).map asFld) = lb at *
                            have HLb := hide HLB
                            clear HLB g0 g1 g2 g3
                            obtain ⟨tm, bits0⟩ := lb
                            simp only at hlab
                            obtain ⟨G, HG⟩ : ∃ G, Hid (G = wj.alloc (.cells #[.int .i64 ((h2 : Int) / 8), .int .i64 ((h2 : Int) % 8), .int .u64 n2, .string (bs b2)] 88)) := ⟨_, hide rfl⟩
                            have gG : Grow wj G := by rw [HG.out]; exact (Grow.refl _).alloc _
                            have hfbG := gG.get hfbj
                            have hlabG := gG.get hlab
                            rw [HG.out] at hfbG hlabG
                            obtain ⟨⟨g0, g1, g2, g3⟩, _⟩ := four_cells hfbG
                            obtain ⟨l0, l1⟩ := two_cells hlabG
                            have z0 : (wj.alloc (.cells #[.int .i64 ((h2 : Int) / 8), .int .i64 ((h2 : Int) % 8), .int .u64 n2, .string (bs b2)] 88)).frozen? ⟨w3.heap.size + 1, 0, none⟩ = false := by simp only [World.frozen?, hlabG]; rfl
                            have z1 : (wj.alloc (.cells #[.int .i64 ((h2 : Int) / 8), .int .i64 ((h2 : Int) % 8), .int .u64 n2, .string (bs b2)] 88)).frozen? ⟨w3.heap.size + 1, 1, none⟩ = false := by simp only [World.frozen?, hlabG]; rfl
                            clear hfbG hlabG
                            have hlts : w3.heap.size + 1 < wj.heap.size := by omega
                            by_cases p1 : (h2 : Int) / 8 = 1
                            · by_cases p2 : (h2 : Int) % 8 = 1
                              · as_aux_lemma =>
                                have HV2 : Hid (h2 = 9) := by show _ = _; omega
                                have t81 : ((h2 : Int) / 8 == 1) = true := by rw [beq_iff_eq]; omega
                                have t82 : ((h2 : Int) / 8 == 2) = false := by rw [beq_eq_false_iff_ne]; omega
                                have t81 : ((h2 : Int) % 8 == 1) = true := by rw [beq_iff_eq]; omega
                                have hb8 : b2.length = 8 := HIN8.out (by omega)
                                clear p1 p2
                                go_wp2
                                go_loopw [19] (fun i wm => ∃ m : Int, -1 ≤ m ∧ m ≤ 7 ∧ i = .int .i64 m ∧ Below w3.heap.size w3 wm ∧ wj.heap.size + 1 ≤ wm.heap.size ∧ wm.heap[w3.heap.size + 1]? = some (.cells #[.int .i64 tm, .int .u64 (lowB (b2.drop (m + 1).toNat))] 48 (0, 0)) ∧ wm.heap[wj.heap.size]? = some (.cells #[.int .i64 ((h2 : Int) / 8), .int .i64 ((h2 : Int) % 8), .int .u64 n2, .string (bs b2)] 88 (0, 0))) (fun i _ => (intOf i + 1).toNat)
                                case atStart => exact ⟨7, by omega, by omega, rfl, (hbj.setCell (p := ⟨w3.heap.size + 1, 1, none⟩) (by simp) _).alloc (by simp [World.setCell]; omega) _, by simp [World.setCell], by rw [List.drop_eq_nil_of_le (by omega), Below.heap_alloc _ _ _ (by simpa [World.setCell] using hlts), set_block hlab]; rfl, by have h9 := heap_alloc_new (wj.setCell ⟨w3.heap.size + 1, 1, none⟩ (.int .u64 0)) (.cells #[.int .i64 ((h2 : Int) / 8), .int .i64 ((h2 : Int) % 8), .int .u64 n2, .string (bs b2)] 88); simpa [World.setCell] using h9⟩
                                case round =>
                                  obtain ⟨m, hm1, hm2, rfl, hbm, hsm, hsb, hgb⟩ := hrel
                                  rename World => wm
                                  clear l0 l1 z0 z1 g0 g1 g2 g3
                                  by_cases hm : 0 ≤ m
                                  · obtain ⟨j, rfl⟩ := Int.eq_ofNat_of_zero_le hm
                                    have hjl : j < b2.length := by omega
                                    obtain ⟨Nv, HNv⟩ : ∃ Nv, Hid (lowB (b2.drop ((j : Int) + 1).toNat) = Nv) := ⟨_, hide rfl⟩
                                    rw [HNv.out] at hsb
                                    have HD : Hid (IntKind.u64.wrap (IntKind.u64.wrap ((Nv : Int) * 256) + (b2[j].toNat : Int)) = ((lowB (b2.drop j) : Nat) : Int)) := by
                                      have q1 := lowB_drop b2 j hjl
                                      have q2 := lowB_lt (b2.drop j)
                                      have q3 : (b2.drop j).length ≤ 8 := by rw [List.length_drop]; omega
                                      have q4 : 256 ^ (b2.drop j).length ≤ 256 ^ 8 := Nat.pow_le_pow_right (by omega) q3
                                      have q5 : lowB (b2.drop (j + 1)) = Nv := by rw [← HNv.out]; rfl
                                      show _ = _
                                      rw [wrap_u64_small ((Nv : Int) * 256) (by omega) (by omega), wrap_u64_small _ (by omega) (by omega)]
                                      omega
                                    go_wp2
                                    refine wp_region_free 10 214 Tryz.mixed2 rfl (by decide +kernel) Grow (fun _ _ _ => Grow.trans) (Grow.refl _)
                                      (fun i v _ => match i with
                                        | 0 => v = .pointer (some ⟨w3.heap.size + 1, 1, none⟩)
                                        | 1 => v = .int .u64 Nv
                                        | 2 => v = .int .u64 (IntKind.u64.wrap ((Nv : Int) * 256))
                                        | 3 => v = .pointer (some ⟨wj.heap.size, 3, none⟩)
                                        | 4 => v = .string (bs b2)
                                        | 5 => v = .int .i64 j
                                        | 6 => v = .int .u8 (b2[j].toNat : Int)
                                        | 7 => v = .int .u64 (b2[j].toNat : Int)
                                        | 8 => v = .int .u64 (lowB (b2.drop j) : Int)
                                        | _ => v = .pointer (some ⟨w3.heap.size + 1, 1, none⟩))
                                      (fun i v w w' h hg => h) (fun _ _ => False) (fun _ _ _ _ h => h.elim) (fun i hi o ho a w4 hG hoff hdep => ?_) (fun vals w4 hG hvals => ?_)
                                    · obtain ⟨x0, x1⟩ := two_cells (below_block hG.undrew hsb (lt_of_block hsb))
                                      obtain ⟨⟨y0, y1, y2, y3⟩, _⟩ := four_cells (below_block hG.undrew hgb (lt_of_block hgb))
                                      have hu8 : IntKind.u64.wrap (b2[j].toNat : Int) = (b2[j].toNat : Int) := wrap_u64_small _ (by omega) (by have := b2[j].toNat_lt; omega)
                                      match i, hi with
                                      | 0, _ =>
                                        obtain rfl := Option.some.inj ho
                                        have o16 := hoff 16 (by decide +kernel)
                                        simp at o16
                                        simp [opYields, go_sem, o16]
                                        exact Grow.refl _
                                      | 1, _ =>
                                        obtain rfl := Option.some.inj ho
                                        have d0 := hdep 0 (by decide +kernel)
                                        simp [slotOf, dstOf] at d0
                                        simp [opYields, go_sem, d0, x1]
                                        exact Grow.refl _
                                      | 2, _ =>
                                        obtain rfl := Option.some.inj ho
                                        have d1 := hdep 1 (by decide +kernel)
                                        simp [slotOf, dstOf] at d1
                                        simp [opYields, go_sem, d1]
                                        exact Grow.refl _
                                      | 3, _ =>
                                        obtain rfl := Option.some.inj ho
                                        have o18 := hoff 18 (by decide +kernel)
                                        simp at o18
                                        simp [opYields, go_sem, o18]
                                        exact Grow.refl _
                                      | 4, _ =>
                                        obtain rfl := Option.some.inj ho
                                        have d3 := hdep 3 (by decide +kernel)
                                        simp [slotOf, dstOf] at d3
                                        simp [opYields, go_sem, d3, y3]
                                        exact Grow.refl _
                                      | 5, _ =>
                                        obtain rfl := Option.some.inj ho
                                        have o19 := hoff 19 (by decide +kernel)
                                        simp at o19
                                        simp [opYields, go_sem, o19]
                                        exact Grow.refl _
                                      | 6, _ =>
                                        obtain rfl := Option.some.inj ho
                                        have d4 := hdep 4 (by decide +kernel)
                                        simp [slotOf, dstOf] at d4
                                        have d5 := hdep 5 (by decide +kernel)
                                        simp [slotOf, dstOf] at d5
                                        simp [opYields, go_sem, d4, d5, hjl]
                                        exact Grow.refl _
                                      | 7, _ =>
                                        obtain rfl := Option.some.inj ho
                                        have d6 := hdep 6 (by decide +kernel)
                                        simp [slotOf, dstOf] at d6
                                        simp [opYields, go_sem, d6, hu8]
                                        exact Grow.refl _
                                      | 8, _ =>
                                        obtain rfl := Option.some.inj ho
                                        have d2 := hdep 2 (by decide +kernel)
                                        simp [slotOf, dstOf] at d2
                                        have d7 := hdep 7 (by decide +kernel)
                                        simp [slotOf, dstOf] at d7
                                        simp [opYields, go_sem, d2, d7, HD.out]
                                        exact Grow.refl _
                                      | 9, _ =>
                                        obtain rfl := Option.some.inj ho
                                        have o16 := hoff 16 (by decide +kernel)
                                        simp at o16
                                        simp [opYields, go_sem, o16]
                                        exact Grow.refl _
                                    · have v8 := hvals 8 (by omega)
                                      have v9 := hvals 9 (by omega)
                                      simp only at v8 v9
                                      clear hvals
                                      have hsb2 := below_block hG.undrew hsb (lt_of_block hsb)
                                      have hgb2 := below_block hG.undrew hgb (lt_of_block hgb)
                                      obtain ⟨x0, x1⟩ := two_cells hsb2
                                      have y1 : w4.frozen? ⟨w3.heap.size + 1, 1, none⟩ = false := by simp only [World.frozen?, hsb2]; rfl
                                      have hs4 := hG.undrew.size
                                      simp [over, dstOf, Act.put, v8, v9]
                                      go_wp2
                                      go_roundw
                                      case rel => exact ⟨(j : Int) - 1, by omega, by omega, by go_num, (hbm.trans (hG.undrew.mono hbm.size)).setCell (p := ⟨w3.heap.size + 1, 1, none⟩) (by simp) _, by simp [World.setCell]; omega, by rw [set_block hsb2, show ((j : Int) - 1 + 1).toNat = j from by omega]; rfl, by rw [Below.heap_setCell _ _ _ _ (by simp; omega)]; exact hgb2⟩
                                      case measure => simp [intOf]
                                  · obtain rfl : m = -1 := by omega
                                    go_wp2
                                    go_roundw
                                    case rel => exact ⟨r + 1, by omega, by go_num, hbm, by omega, by rw [HVr.out, samOf_step, HLb.out, HZ.out, HV2.out, samStep_nine]; exact hsb⟩
                                    case measure => simp [intOf]; omega
                              · have HVn : Hid (V[r].1 ≠ 9 ∧ V[r].1 ≠ 16) := by show _ ∧ _; rw [HZ.out]; show h2 ≠ 9 ∧ h2 ≠ 16; omega
                                have t81 : ((h2 : Int) / 8 == 1) = true := by rw [beq_iff_eq]; omega
                                have t82 : ((h2 : Int) / 8 == 2) = false := by rw [beq_eq_false_iff_ne]; omega
                                have t81 : ((h2 : Int) % 8 == 1) = false := by rw [beq_eq_false_iff_ne]; omega
                                clear p1 p2
                                go_wp2
                                go_roundw
                                case rel => exact ⟨r + 1, by omega, by go_num, hbj.alloc hbj.size _, by simp; omega, by rw [HVr.out, samOf_step, HLb.out, samStep_other _ HVn.out.1 HVn.out.2, Below.heap_alloc _ _ _ hlts]; exact hlab⟩
                                case measure => simp [intOf]; omega
                            · by_cases p3 : (h2 : Int) / 8 = 2
                              · by_cases p2 : (h2 : Int) % 8 = 0
                                · as_aux_lemma =>
                                  have HV2 : Hid (h2 = 16) := by show _ = _; omega
                                  have t81 : ((h2 : Int) / 8 == 1) = false := by rw [beq_eq_false_iff_ne]; omega
                                  have t82 : ((h2 : Int) / 8 == 2) = true := by rw [beq_iff_eq]; omega
                                  have t80 : ((h2 : Int) % 8 == 0) = true := by rw [beq_iff_eq]; omega
                                  clear p1 p2 p3
                                  by_cases c9 : (n2 : Int) < 9223372036854775808
                                  · have hsg : IntKind.i64.wrap (n2 : Int) = sgn n2 := sgn_wrap n2
                                    go_wp2
                                    go_roundw
                                    case rel => exact ⟨r + 1, by omega, by go_num, (hbj.setCell (p := ⟨w3.heap.size + 1, 0, none⟩) (by simp) _).alloc (by simp [World.setCell]; omega) _, by simp [World.setCell]; omega, by rw [HVr.out, samOf_step, HLb.out, HZ.out, HV2.out, samStep_sixteen, Below.heap_alloc _ _ _ (by simpa [World.setCell] using hlts), set_block hlab]; rfl⟩
                                    case measure => simp [intOf]; omega
                                  · have hsg : sgn n2 = (n2 : Int) - 18446744073709551616 := by have := HN64.out; unfold sgn; rw [if_neg (by omega)]; omega
                                    have hw1 : IntKind.u64.wrap (18446744073709551615 - (n2 : Int)) = 18446744073709551615 - (n2 : Int) := by have := HN64.out; exact wrap_u64_small _ (by omega) (by omega)
                                    have hw2 : IntKind.i64.wrap (18446744073709551615 - (n2 : Int)) = 18446744073709551615 - (n2 : Int) := by have := HN64.out; exact wrap_i64_small _ (by omega) (by omega)
                                    have hw3 : IntKind.i64.wrap (-(18446744073709551615 - (n2 : Int))) = -(18446744073709551615 - (n2 : Int)) := by have := HN64.out; exact wrap_i64_small _ (by omega) (by omega)
                                    have hw4 : IntKind.i64.wrap (-(18446744073709551615 - (n2 : Int)) - 1) = sgn n2 := by have := HN64.out; rw [hsg, wrap_i64_small _ (by omega) (by omega)]; omega
                                    clear hsg
                                    go_wp2
                                    go_roundw
                                    case rel => exact ⟨r + 1, by omega, by go_num, (hbj.setCell (p := ⟨w3.heap.size + 1, 0, none⟩) (by simp) _).alloc (by simp [World.setCell]; omega) _, by simp [World.setCell]; omega, by rw [HVr.out, samOf_step, HLb.out, HZ.out, HV2.out, samStep_sixteen, Below.heap_alloc _ _ _ (by simpa [World.setCell] using hlts), set_block hlab]; rfl⟩
                                    case measure => simp [intOf]; omega
                                · have HVn : Hid (V[r].1 ≠ 9 ∧ V[r].1 ≠ 16) := by show _ ∧ _; rw [HZ.out]; show h2 ≠ 9 ∧ h2 ≠ 16; omega
                                  have t81 : ((h2 : Int) / 8 == 1) = false := by rw [beq_eq_false_iff_ne]; omega
                                  have t82 : ((h2 : Int) / 8 == 2) = true := by rw [beq_iff_eq]; omega
                                  have t80 : ((h2 : Int) % 8 == 0) = false := by rw [beq_eq_false_iff_ne]; omega
                                  clear p1 p2 p3
                                  go_wp2
                                  go_roundw
                                  case rel => exact ⟨r + 1, by omega, by go_num, hbj.alloc hbj.size _, by simp; omega, by rw [HVr.out, samOf_step, HLb.out, samStep_other _ HVn.out.1 HVn.out.2, Below.heap_alloc _ _ _ hlts]; exact hlab⟩
                                  case measure => simp [intOf]; omega
                              · have HVn : Hid (V[r].1 ≠ 9 ∧ V[r].1 ≠ 16) := by show _ ∧ _; rw [HZ.out]; show h2 ≠ 9 ∧ h2 ≠ 16; omega
                                have t81 : ((h2 : Int) / 8 == 1) = false := by rw [beq_eq_false_iff_ne]; omega
                                have t82 : ((h2 : Int) / 8 == 2) = false := by rw [beq_eq_false_iff_ne]; omega
                                clear p1 p3
                                go_wp2
                                go_roundw
                                case rel => exact ⟨r + 1, by omega, by go_num, hbj.alloc hbj.size _, by simp; omega, by rw [HVr.out, samOf_step, HLb.out, samStep_other _ HVn.out.1 HVn.out.2, Below.heap_alloc _ _ _ hlts]; exact hlab⟩
                                case measure => simp [intOf]; omega
                          · as_aux_lemma =>
                            have HTr : Hid (V.take r = V) := List.take_of_length_le (by omega)
                            rw [HTr.out] at hlab
                            obtain ⟨lx, HLx⟩ : ∃ lx, Hid (samOf (V.map asFld) = lx) := ⟨_, hide rfl⟩
                            rw [HLx.out] at hlab
                            have HLab2 : Hid (samRead b' = some lx) := by show _ = _; rw [HLab.out, HLx.out]
                            have hfbj := below_block hbj hfb3 hltb
                            have gj : Grow wk wj := Grow.trans gW (Grow.trans hb3 hbj)
                            have hserj := serAt_grow hser gj
                            have hlenx : (serOf ((U.take q).map asFld)).2.length ≤ 1000000 := by have h9 := (serOf_len ((U.take q).map asFld) ([], [])).2; rw [List.length_map, List.length_take, List.length_nil] at h9; have e9 : (serOf ((U.take q).map asFld)).2.length = (((U.take q).map asFld).foldl serStep ([], [])).2.length := rfl; omega
                            obtain ⟨xs, HXs⟩ : ∃ xs, Hid (serOf ((U.take q).map asFld) = xs) := ⟨_, hide rfl⟩
                            rw [HXs.out] at hserj hlenx
                            obtain ⟨ls, ss⟩ := xs
                            obtain ⟨hBx, v1, v2, hxb, ho1, ho2⟩ := hserj
                            simp only at ho1 ho2 hlenx
                            obtain ⟨ao1, cp1, rfl⟩ := own_shape ho1
                            obtain ⟨ao2, cp2, rfl⟩ := own_shape ho2
                            clear g0 g1 g2 g3
                            obtain ⟨x0, x1⟩ := two_cells hxb
                            obtain ⟨l0, l1⟩ := two_cells hlab
                            obtain ⟨⟨g0, g1, g2, g3⟩, _⟩ := four_cells hfbj
                            have hwj : w2.heap.size + 1 ≤ wj.heap.size := by omega
                            have hbel : Below w2.heap.size w2 wj := hbk.trans (Below.mono gj (by omega))
                            have HO1 := hide ho1
                            have HO2 := hide ho2
                            have HXB := hide hxb
                            have HBel := hide hbel
                            clear ho1 ho2 hxb hbel hlab hfbj
                            go_wp2_with (at_builtin; go_must (refine append_sam rfl (.tmp 199) (.tmp 201) rfl (w2.heap.size + 1) (.slice ao2 ss.length cp2) ss lx rfl HO2.out rfl hlenx hwj ?_); intro ao3 cp3 w7 hown7 hb7 hg7; have hx7 := grown_block hg7 (Grow.get ((Grow.refl _).alloc _) HXB.out) (own_apart HO2.out HXB.out (by decide)); have z7 : w7.frozen? ⟨w2.heap.size, 1, none⟩ = false := (by simp only [World.frozen?, hx7]; rfl); have HG7 := hide hg7; have HOW7 := hide hown7; clear hg7 hown7; obtain ⟨y0, y1⟩ := two_cells hx7)
                            go_roundw
                            case rel =>
                              have g8 : Grow wj (wj.alloc (.cells #[.int .i64 lx.1, .int .u64 lx.2] 48)) := (Grow.refl _).alloc _
                              have hoth := World.ownsRow.kept (own_grow HO1.out g8) HG7.out (own_two (own_grow HO1.out g8) (own_grow HO2.out g8) (by decide))
                              refine ⟨q + 1, by omega, by go_num, (HBel.out.trans (hb7.mono (by omega))).setCell (p := ⟨w2.heap.size, 1, none⟩) (Nat.le_refl _) _, ?_, hide (all_snoc HUq.out HOkU.out (by rw [HY.out, MM.out, serOk_eighteen, HLab2.out]; rfl))⟩
                              rw [HUq.out, HY.out, MM.out, serOf_eighteen HLab2.out, HXs.out]
                              have h7s := hb7.size
                              exact ⟨by simp [World.setCell]; omega, .slice ao1 ls.length cp1, .slice ao3 (ss.length + 1) cp3, set_block hx7 _, ownsRow_setCell_other (a := ⟨w2.heap.size, 1, none⟩) hoth (own_apart hoth hx7 (by decide)) _, ownsRow_setCell_other (a := ⟨w2.heap.size, 1, none⟩) HOW7.out (own_apart HOW7.out hx7 (by decide)) _⟩
                            case measure => simp [intOf]; omega
                      · have he := HBadU.out ⟨_, HMemU.out, by rw [HY.out, MM.out, serOk_eighteen, samRead_raw, hok3]; rfl⟩
                        have HE := hide he
                        clear he hok3
                        go_wp2
                        go_ret2
                        have hne : readErr s ≠ 0 := by rw [HE.out]; decide
                        have hsW := gW.size
                        exact ⟨(hb1.trans (hbr.mono hs1)).trans ((hb2.mono (by omega)).trans ((hbk.mono (by omega)).trans ((Below.mono gW (by omega)).trans (hb3.mono (by omega))))), .inr ⟨hne, by rw [HE.out]; rfl⟩⟩
                    · have HUn : Hid (U[q].1 ≠ 10 ∧ U[q].1 ≠ 18) := by show _ ∧ _; rw [HY.out]; exact ⟨mm, mm2⟩
                      by_cases k1 : (h' : Int) % 8 = 2
                      · have k2 : 2 < (h' : Int) / 8 := by omega
                        rw [k1] at e1
                        clear k1 mm mm2
                        go_wp2
                        go_roundw
                        case rel => exact ⟨q + 1, by omega, by go_num, hbk.alloc hbk.size _, by rw [HUq.out, serOf_other HUn.out.1 HUn.out.2]; exact serAt_grow hser ((Grow.refl _).alloc _), hide (all_snoc HUq.out HOkU.out (serOk_other HUn.out.1 HUn.out.2))⟩
                        case measure => simp [intOf]; omega
                      · have k2 : ((h' : Int) % 8 != 2) = true := by simp; omega
                        clear k1 mm mm2
                        go_wp2
                        go_roundw
                        case rel => exact ⟨q + 1, by omega, by go_num, hbk.alloc hbk.size _, by rw [HUq.out, serOf_other HUn.out.1 HUn.out.2]; exact serAt_grow hser ((Grow.refl _).alloc _), hide (all_snoc HUq.out HOkU.out (serOk_other HUn.out.1 HUn.out.2))⟩
                        case measure => simp [intOf]; omega
                · as_aux_lemma =>
                  have HTq : Hid (U.take q = U) := List.take_of_length_le (by omega)
                  have hall := HGoodU.out (fun f hf => HOkU.out f (by rw [HTq.out]; exact hf))
                  rw [HTq.out] at hser
                  have HSr := hide hall
                  clear hall
                  generalize serOf (U.map asFld) = x at *
                  obtain ⟨hBx, v1, v2, hxb, ho1, ho2⟩ := hser
                  obtain ⟨ao1, cp1, rfl⟩ := own_shape ho1
                  obtain ⟨ao2, cp2, rfl⟩ := own_shape ho2
                  obtain ⟨x0, x1⟩ := two_cells hxb
                  have gk : Grow wr wk := Grow.trans hb2 hbk
                  have hout2 := ownSeries_grow hout gk
                  have hlo : (allOf ((T.take k).map asFld)).length ≤ 1000000 := by have h9 := allOf_len ((T.take k).map asFld) []; rw [List.length_map, List.length_take, List.length_nil] at h9; have e9 : (allOf ((T.take k).map asFld)).length = (((T.take k).map asFld).foldl allStep []).length := rfl; omega
                  have hwk : w1.heap.size ≤ wk.heap.size := by omega
                  have HB1 := hide (own_le ho1 (show w1.heap.size ≤ w2.heap.size + 1 by omega))
                  have HB2 := hide (own_le ho2 (show w1.heap.size ≤ w2.heap.size + 1 by omega))
                  obtain ⟨vs, hvl, hvr, hva⟩ := id hout2
                  obtain ⟨aoO, cpO, rfl⟩ := own_shape hvr
                  clear hvr hva hvl
                  have HO2 := hide hout2
                  have HLO := hide hlo
                  clear hlo hout2 hout
                  generalize HGn : allOf ((T.take k).map asFld) = done at *
                  have HGe := hide HGn
                  clear HGn
                  go_wp2_with (at_builtin; go_must (refine append_ser rfl (.tmp 204) (.tmp 206) rfl w1.heap.size (.slice aoO done.length cpO) done x _ _ rfl HO2.out HB1.out HB2.out rfl HLO.out hwk ?_); intro ao3 cp3 w7 hown7 hb7)
                  go_roundw
                  case rel => exact ⟨k + 1, by omega, by go_num, (hbr.trans ((hb2.mono hsr).trans (hbk.mono (by omega)))).trans hb7, by rw [HTk.out, HX.out, M.out, allOf_ten HSr.out, HGe.out]; exact hown7, hide (all_snoc HTk.out HOk.out (by rw [HX.out, M.out, allOk_ten, HSr.out]; rfl))⟩
                  case measure => simp [intOf]; omega
            · have he := HBad2.out ⟨_, HMem.out, by rw [HX.out, M.out, allOk_ten, serRead_bad (.inl hok2)]; rfl⟩
              have HE := hide he
              clear he hok2
              go_wp2
              go_ret2
              have hne : readErr s ≠ 0 := by rw [HE.out]; decide
              exact ⟨(hb1.trans (hbr.mono hs1)).trans (hb2.mono (by omega)), .inr ⟨hne, by rw [HE.out]; rfl⟩⟩
          · have HTn : Hid (T[k].1 ≠ 10) := by show _ ≠ _; rw [HX.out]; exact m
            by_cases m1 : (h : Int) / 8 = 1
            · have m2 : ((h : Int) % 8 != 2) = true := by simp; omega
              rw [m1] at d0
              clear m m1
              go_wp2
              go_roundw
              case rel => exact ⟨k + 1, by omega, by go_num, hbr, by rw [HTk.out, allOf_other HTn.out]; exact hout, hide (all_snoc HTk.out HOk.out (allOk_other HTn.out))⟩
              case measure => simp [intOf]; omega
            · have m2 : ((h : Int) / 8 != 1) = true := by simp; omega
              clear m m1
              go_wp2
              go_roundw
              case rel => exact ⟨k + 1, by omega, by go_num, hbr, by rw [HTk.out, allOf_other HTn.out]; exact hout, hide (all_snoc HTk.out HOk.out (allOk_other HTn.out))⟩
              case measure => simp [intOf]; omega
        · have HTk : Hid (T.take k = T) := List.take_of_length_le (by omega)
          have hall := HGood.out (fun f hf => HOk.out f (by rw [HTk.out]; exact hf))
          rw [HTk.out] at hout
          have HAll := hide hall
          clear hall
          have hfit := hide (allRead_fit HAll.out (by omega))
          have HRd := hide (rdErr_check HAll.out)
          generalize allOf (T.map asFld) = ls at *
          obtain ⟨vs, hvl, hvr, hva⟩ := id hout
          obtain ⟨ao, cp, rfl⟩ := own_shape hvr
          have hbel := hb1.trans (hbr.mono hs1)
          go_wp2_with fail
          refine (checkSeries_any wr _ ls (reads_ownSeries hout) hfit.out).mono ?_
          rintro e w9 ⟨rfl, rfl⟩
          have hE : readErr s = checkErr ls := HErr.out.trans HRd.out
          by_cases hc : checkErr ls = 0
          · have HE := hide hE
            have HC := hide hc
            rw [HC.out]
            clear hE hc
            go_wp2
            go_ret2
            obtain ⟨vs, hl, hr, ha⟩ := hout
            exact ⟨hbel, .inl ⟨by rw [HE.out, HC.out], ls, _, HAll.out, rfl, vs, hl, own_le hr hs1, fun i x y h1 h2 => ⟨own_le (ha i x y h1 h2).1 hs1, own_le (ha i x y h1 h2).2 hs1⟩⟩⟩
          · have hne : (checkErr ls != 0) = true := by simpa using hc
            have HE := hide hE
            have HC := hide hc
            clear hE hc
            go_wp2
            go_ret2
            exact ⟨hbel, .inr ⟨by rw [HE.out]; exact HC.out, by rw [HE.out]; rfl⟩⟩
    · have he := HBad.out (allRead_bad (.inl hok))
      have HE := hide he
      clear he hok
      go_wp2
      go_ret2
      have hne : readErr s ≠ 0 := by rw [HE.out]; decide
      exact ⟨hb1, .inr ⟨hne, by rw [HE.out]; rfl⟩⟩
  · have hE : readErr s = 2 := by unfold readErr; rw [if_neg hlen]
    have HE := hide hE
    clear hE
    go_enter Tryz.func32, Tryz.ntmps32
    go_wp2
    go_ret2
    have hne : readErr s ≠ 0 := by rw [HE.out]; decide
    exact ⟨Below.refl _ _, .inr ⟨hne, by rw [HE.out]; rfl⟩⟩
end Go.Proofs.YtmdakfmecfcbhaaGreat
