/- The parser of masks: brackets. -/
import Derived.Test.YtndpjdmfkhjiiaaGreatDoorProg
import Derived.Test.YtndpjdmfkhjiiaaGreatDoorKit
import Derived.Test.YtndpjdmfkhjiiaaGreatDoorMPar
import Derived.Test.YtndpjdmfkhjiiaaGreatDoorMLay
import Derived.Test.YtndpjdmfkhjiiaaGreatDoorMSet
import Derived.Test.YtndpjdmfkhjiiaaGreatDoorMWlk
import Derived.Test.YtndpjdmfkhjiiaaGreatDoorMSetB
import Derived.Test.YtndpjdmfkhjiiaaGreatDoorReg
import Derived.Test.YtndpjdmfkhjiiaaGreatDoorReg2
import Derived.Test.YtndpjdmfkhjiiaaGreatDoorMFrom
import Derived.Test.YtndpjdmfkhjiiaaGreatDoorMPrA
import Derived.Test.YtndpjdmfkhjiiaaGreatDoorMPrD
import Derived.Test.YtndpjdmfkhjiiaaGreatDoorMPrE
import Derived.BigQuiet
set_option linter.unusedVariables false
set_option linter.unusedSimpArgs false
namespace Go.Proofs.YtndpjdmfkhjiiaaGreatDoor
open Go.RowKit
attribute [local go_sem] bs_size bs_toList bs_append bs_get bs_extract

theorem Kept2.mono {b c : Nat} {w w' : World} (h : Kept2 b b w w') : Kept2 b c w w' := ⟨h.os, h.tape, h.output, h.size, fun k h1 h2 _ => h.block k h1 h2 h2⟩
theorem Kept2.setM' {tb mb o : Nat} {w w' : World} (h : Kept2 tb mb w w') (v : Value) : Kept2 tb mb w (w'.setCell ⟨mb, o, none⟩ v) := h.trans (.setM _ _)
theorem set_four {w : World} {b : Nat} {l : List Nat} (hb : wordsAt w b l) (x0 x1 x2 x3 : Nat) (hl : l.length = 4) :
    wordsAt ((((w.setCell ⟨b, 0, none⟩ (.int .u64 x0)).setCell ⟨b, 1, none⟩ (.int .u64 x1)).setCell ⟨b, 2, none⟩ (.int .u64 x2)).setCell ⟨b, 3, none⟩ (.int .u64 x3)) b [x0, x1, x2, x3] := by
  have b1 := hb.set 0 x0
  have b2 := b1.set 1 x1
  have b3 := b2.set 2 x2
  have b4 := b3.set 3 x3
  match l, hl with
  | [_, _, _, _], _ => exact b4

theorem brack_kept {w W W4 w6 w7 : World} {pb tb : Nat} (gW : Grow w W) (hs : W.heap.size = w.heap.size + 1) (h4 : Kept2 pb pb W W4) (h4s : W4.heap.size = tb + 1) (h6 : Kept2 pb tb W4 w6) (htb : w.heap.size < tb) (hsz : w6.heap.size ≤ w7.heap.size) (hk : ∀ k, k ≠ w.heap.size → w7.heap[k]? = w6.heap[k]?) (h1 : w7.os = w6.os) (h2 : w7.tape = w6.tape) (h3 : w7.output = w6.output) : Kept2 pb pb w w7 :=
  ⟨h1.trans (h6.os.trans (h4.os.trans gW.os)), h2.trans (h6.tape.trans (h4.tape.trans gW.tape)), h3.trans (h6.output.trans (h4.output.trans gW.output)), Nat.le_trans gW.size (Nat.le_trans h4.size (Nat.le_trans h6.size hsz)), fun k hk1 hn1 hn2 => (hk k (by omega)).trans ((h6.block k (by have := h4.size; omega) hn1 (by omega)).trans ((h4.block k (by omega) hn1 hn2).trans (gW.block k hk1)))⟩

set_option maxRecDepth 20000 in
set_option maxHeartbeats 4000000 in
theorem brackets_any (w : World) (F : Nat → Prop) (pb : Nat) (m : List UInt8) (i g : Nat) (S : List St) (hp : parserAt w F pb m i S g) (hm : m.length ≤ 1000000) (hi : i < m.length) :
    Calls Tryz.prog 166 #[.pointer (some ⟨pb, 0, none⟩)] w fun e w' => Kept2 pb pb w w' ∧ ((∃ s j v, pBrackets m (i + 1) = some (.ok (s, j)) ∧ e = .returned (setV v) ∧ wordsIs v s ∧ parserAt w' F pb m j S g) ∨ (∃ er a : Nat, pBrackets m (i + 1) = some (.error (er, a)) ∧ e = faulted er a)) := by
  obtain ⟨W, HW⟩ : ∃ W, Hid (W = w.alloc (.cells #[.int .u64 0, .int .u64 0, .int .u64 0, .int .u64 0] 148)) := ⟨_, hide rfl⟩
  have gW : Grow w W := by rw [HW.out]; exact (Grow.refl _).alloc _
  have hWb : wordsAt W w.heap.size [0, 0, 0, 0] := by rw [HW.out]; exact heap_alloc_new _ _
  have hWs : W.heap.size = w.heap.size + 1 := by rw [HW.out]; simp
  have hpW := hp.grow gW
  obtain ⟨hpb, hB, _⟩ := hp.cells
  obtain ⟨_, _, ao, cp, hblk⟩ := hpW.cells
  obtain ⟨c0, c1, c2, c3⟩ := four_cells hblk
  obtain ⟨z0, z1, z2, z3⟩ := four_free hblk
  have HWB := hide hWb
  have HPW := hide hpW
  clear hp hWb hpW hblk c0 c2 c3
  obtain ⟨W1, HW1⟩ : ∃ W1, Hid (W1 = W.setCell ⟨pb, 1, none⟩ (.int .i64 ((i : Int) + 1))) := ⟨_, hide rfl⟩
  have HP1 : Hid (parserAt W1 F pb m (i + 1) S g) := by rw [HW1.out]; exact hide (HPW.out.on _ (by simp))
  have HK1 : Hid (Kept2 pb pb W W1) := by rw [HW1.out]; exact hide (.setT _ _)
  have hwr : IntKind.i64.wrap ((i : Int) + 1) = (i : Int) + 1 := wrap_i64_small _ (by omega) (by omega)
  have eW := HW.out.symm
  have eW1 := HW1.out.symm
  go_enter Tryz.func166, Tryz.ntmps166
  go_wp2_with fail
  clear eW eW1
  refine (skip_any W1 F pb m [94] (i + 1) g S HP1.out hm (by omega)).mono ?_
  rintro e w2 ⟨rfl, hk2, hp2⟩
  rw [comesB_nat _ _ 94 94 rfl] at hp2 ⊢
  obtain ⟨nt, HNT⟩ : ∃ nt, Hid (isAt m (i + 1) 94 = nt) := ⟨_, hide rfl⟩
  rw [HNT.out] at hp2 ⊢
  obtain ⟨j0, HJ0⟩ : ∃ j0, Hid (onIf nt (i + 1) = j0) := ⟨_, hide rfl⟩
  rw [HJ0.out] at hp2
  have hj0 : j0 ≤ m.length := by
    rw [← HJ0.out]
    cases nt with
    | true => have := isAt_lt HNT.out; exact this
    | false => exact hi
  have HQ0 : Hid (pBrackets m (i + 1) = bindO (pSpan m j0) fun x => bindO (pSpans m (m.length + 1) x.1 x.2) fun y => some (.ok (if nt then butAll y.1 else y.1, y.2))) := by
    show _ = _
    unfold pBrackets
    simp only [HNT.out]
    rw [← HJ0.out]
    cases nt <;> rfl
  have HK2 := hide (HK1.out.trans hk2)
  have HP2 := hide hp2
  clear hk2 hp2
  go_wp2_with fail
  refine (pspan_any w2 F pb m j0 g S HP2.out hm hj0).mono ?_
  rintro e w3 ⟨hk3, (⟨s0, j1, v, hq, rfl, hv, hp3⟩ | ⟨er, a, hq, rfl⟩)⟩
  · have hj1 := (pSpan_ok hq).2
    simp only at hj1
    have HQ1 : Hid (pBrackets m (i + 1) = bindO (pSpans m (m.length + 1) s0 j1) fun y => some (.ok (if nt then butAll y.1 else y.1, y.2))) := by show _ = _; rw [HQ0.out, hq]; rfl
    obtain ⟨x0, x1, x2, x3, rfl⟩ := words_four hv
    have HK3 := hide (HK2.out.trans hk3)
    have HP3 := hide hp3
    have HV := hide hv
    clear hk3 hp3 hv hq
    have hs3 : w.heap.size + 1 ≤ w3.heap.size := by rw [← hWs]; exact HK3.out.size
    obtain ⟨tb, htb⟩ : ∃ tb, w3.heap.size = tb := ⟨_, rfl⟩
    obtain ⟨Z, HZ⟩ : ∃ Z, Hid (Z = w3.alloc (.cells #[.int .u64 0, .int .u64 0, .int .u64 0, .int .u64 0] 148)) := ⟨_, hide rfl⟩
    have gZ : Grow w3 Z := by rw [HZ.out]; exact (Grow.refl _).alloc _
    have hZb : wordsAt Z tb [0, 0, 0, 0] := by rw [HZ.out, ← htb]; exact heap_alloc_new _ _
    have hZs : Z.heap.size = tb + 1 := by rw [HZ.out]; simp [htb]
    have f0 := not_frozen (k := 0) hZb
    have f1 := not_frozen (k := 1) hZb
    have f2 := not_frozen (k := 2) hZb
    have f3 := not_frozen (k := 3) hZb
    obtain ⟨q0, q1, q2, q3⟩ := hZb.four
    obtain ⟨W4, HW4⟩ : ∃ W4, Hid (W4 = (((Z.setCell ⟨tb, 0, none⟩ (.int .u64 x0)).setCell ⟨tb, 1, none⟩ (.int .u64 x1)).setCell ⟨tb, 2, none⟩ (.int .u64 x2)).setCell ⟨tb, 3, none⟩ (.int .u64 x3)) := ⟨_, hide rfl⟩
    obtain ⟨r1, r2, r3⟩ := set_put (HP3.out.grow gZ) hZb x0 x1 x2 x3 rfl
    rw [← HW4.out] at r1 r2 r3
    have HP4 := hide r1
    have HB4 := hide r2
    have hW4s : W4.heap.size = tb + 1 := by rw [HW4.out, ← hZs]; simp [World.setCell]
    have HK4 : Hid (Kept2 pb pb W W4) := hide (HK3.out.trans ⟨by rw [HW4.out]; exact gZ.os, by rw [HW4.out]; exact gZ.tape, by rw [HW4.out]; exact gZ.output, by omega, fun k h1 h2 _ => (r3 k (by omega)).trans (gZ.block k h1)⟩)
    have eZ := HZ.out.symm
    have eW4 := HW4.out.symm
    clear r1 r2 r3 hZb
    rw [show setV [x0, x1, x2, x3] = .agg #[.int .u64 (x0 : Int), .int .u64 (x1 : Int), .int .u64 (x2 : Int), .int .u64 (x3 : Int)] from rfl]
    go_wp2_with fail
    clear eZ eW4 f0 f1 f2 f3 q0 q1 q2 q3
    go_loopw [] (fun wr => ∃ f s' i' l, parserAt wr F pb m i' S g ∧ Kept2 pb tb W4 wr ∧ Hid (wordsAt wr tb l) ∧ Hid (wordsIs l s') ∧ i' ≤ m.length ∧ m.length < f + i' ∧ 0 < f ∧ Hid (pSpans m (m.length + 1) s0 j1 = pSpans m f s' i')) (fun wr => m.length - placeOf wr pb)
    case atStart => exact ⟨m.length + 1, s0, j1, [x0, x1, x2, x3], HP4.out, .refl _ _ _, HB4, HV, hj1, by omega, by omega, hide rfl⟩
    case round =>
      obtain ⟨f, s', i', l, hpr, hkr, HBr, HVr, hir, hfr, hf0, HE⟩ := hrel
      rename World => wr
      have HPR := hide hpr
      have HKR := hide hkr
      have hpl := hpr.place
      clear hpr hkr
      obtain ⟨f, rfl⟩ : ∃ f', f = f' + 1 := ⟨f - 1, by omega⟩
      go_wp2_with fail
      refine (skip_any wr F pb m [93] i' g S HPR.out hm hir).mono ?_
      rintro e w5 ⟨rfl, hk5, hp5⟩
      rw [comesB_nat _ _ 93 93 rfl] at hp5 ⊢
      have HK5 := hide (HKR.out.trans hk5.mono)
      have hB5 : wordsAt w5 tb l := HBr.out.keep (hk5.block tb (by have := HKR.out.size; omega) (by omega) (by omega))
      have HB5 := hide hB5
      clear hk5 hB5
      cases hd : isAt m i' 93 with
      | true =>
        have hlt := isAt_lt hd
        have HQ2 : Hid (pBrackets m (i + 1) = some (.ok (if nt then butAll s' else s', i' + 1))) := by
          show _ = _
          rw [HQ1.out, HE.out, pSpans, if_pos hd]
          rfl
        rw [hd] at hp5
        have HP5 : Hid (parserAt w5 F pb m (i' + 1) S g) := hide hp5
        clear hd hp5
        obtain ⟨y0, y1, y2, y3, rfl⟩ := words_four HVr.out
        obtain ⟨q0, q1, q2, q3⟩ := HB5.out.four
        have hs5 : tb + 1 ≤ w5.heap.size := by rw [← hW4s]; exact HK5.out.size
        have hr5 : w5.heap[w.heap.size]? = W.heap[w.heap.size]? := (HK5.out.block _ (by omega) (by omega) (by omega)).trans (HK4.out.block _ (by omega) (by omega) (by omega))
        cases nt with
        | true =>
          go_wp2_with fail
          refine (allBut_any [y0, y1, y2, y3] s' w5 HVr.out).mono ?_
          rintro e w6 ⟨v, rfl, hv, hg6⟩
          obtain ⟨u0, u1, u2, u3, rfl⟩ := words_four hv
          have hw6 : wordsAt w6 w.heap.size [0, 0, 0, 0] := hg6.get (HWB.out.keep hr5)
          obtain ⟨p0, p1, p2, p3⟩ := hw6.four
          have f0 := not_frozen (k := 0) hw6
          have f1 := not_frozen (k := 1) hw6
          have f2 := not_frozen (k := 2) hw6
          have f3 := not_frozen (k := 3) hw6
          obtain ⟨r1, r2, r3⟩ := set_put (HP5.out.grow hg6) hw6 u0 u1 u2 u3 rfl
          have R1 := hide r1
          have R2 := hide r2
          have R3 := hide r3
          have HV6 := hide hv
          have HK6 := hide (HK5.out.trans (.grow hg6))
          clear hw6 r1 r2 r3 hv hg6
          rw [show setV [u0, u1, u2, u3] = .agg #[.int .u64 (u0 : Int), .int .u64 (u1 : Int), .int .u64 (u2 : Int), .int .u64 (u3 : Int)] from rfl]
          go_wp2
          refine bodyPost_ret (v := setV [u0, u1, u2, u3]) (results_cell_row (p := 2) (ty := 148) rfl _ _ w.heap.size _ _ _ _ rfl R2.out Tryz.underlying148 rfl info_set) rfl ⟨?_, .inl ⟨_, _, _, HQ2.out, rfl, HV6.out, R1.out⟩⟩
          exact brack_kept gW hWs HK4.out hW4s HK6.out (by omega) (by simp [World.setCell]) R3.out rfl rfl rfl
        | false =>
          have hw6 : wordsAt w5 w.heap.size [0, 0, 0, 0] := HWB.out.keep hr5
          obtain ⟨p0, p1, p2, p3⟩ := hw6.four
          have f0 := not_frozen (k := 0) hw6
          have f1 := not_frozen (k := 1) hw6
          have f2 := not_frozen (k := 2) hw6
          have f3 := not_frozen (k := 3) hw6
          obtain ⟨r1, r2, r3⟩ := set_put HP5.out hw6 y0 y1 y2 y3 rfl
          have R1 := hide r1
          have R2 := hide r2
          have R3 := hide r3
          clear hw6 r1 r2 r3
          go_wp2
          refine bodyPost_ret (v := setV [y0, y1, y2, y3]) (results_cell_row (p := 2) (ty := 148) rfl _ _ w.heap.size _ _ _ _ rfl R2.out Tryz.underlying148 rfl info_set) rfl ⟨?_, .inl ⟨_, _, _, HQ2.out, rfl, HVr.out, R1.out⟩⟩
          exact brack_kept gW hWs HK4.out hW4s HK5.out (by omega) (by simp [World.setCell]) R3.out rfl rfl rfl
      | false =>
        have HE2 : Hid (pSpans m (m.length + 1) s0 j1 = bindO (pSpan m i') fun x => pSpans m f (union s' x.1) x.2) := by
          show _ = _
          rw [HE.out, pSpans, if_neg (by simp [hd])]
        rw [hd] at hp5
        have HP5 : Hid (parserAt w5 F pb m i' S g) := hide hp5
        clear hd hp5
        obtain ⟨y0, y1, y2, y3, rfl⟩ := words_four HVr.out
        go_wp2
        obtain ⟨y, hy⟩ := pSpan_some m i'
        match y, hy with
        | .error (er, a), hy =>
          have HY := hide hy
          have HQ3 : Hid (pBrackets m (i + 1) = some (.error (er, a))) := by show _ = _; rw [HQ1.out, HE2.out, hy]; rfl
          clear hy
          refine wp_region_state 4 27 Tryz.mixed2 rfl (by decide +kernel) (fun L vals w' => Kept2 pb pb w5 w' ∧ parserAt w' F pb m i' S g)
            (fun L vals h => ⟨Kept2.drew _, HP5.out⟩)
            (fun k v => match k with
              | 1 => v = .pointer (some ⟨pb, 0, none⟩)
              | 2 => False
              | 3 => False
              | _ => True)
            (fun ch w' => Ending.panicked ch = faulted er a ∧ Kept2 pb pb w5 w') (fun ch a2 w2 hd hq => ?_) (fun k hi o ho a2 w2 L vals hLi hLc hLe hJ hoff hval hdep => ?_) (fun vals w2 L hL hJ hvals => (hvals 2 (by omega)).elim)
          · obtain ⟨hq1, hq2⟩ := hq
            simp only [Ending.panicked.injEq] at hq1
            subst hq1
            exact ⟨hd, kept_in gW (by
              have h6 := HK5.out.trans hq2.mono
              exact ⟨h6.os.trans HK4.out.os, h6.tape.trans HK4.out.tape, h6.output.trans HK4.out.output, Nat.le_trans HK4.out.size h6.size, fun k hk h1 h2 => (h6.block k (Nat.lt_of_lt_of_le hk HK4.out.size) h1 (by omega)).trans (HK4.out.block k hk h1 h2)⟩), .inr ⟨er, a, HQ3.out, rfl⟩⟩
          · obtain ⟨hk, hpp⟩ := id hJ
            have hb6 : wordsAt w2 tb [y0, y1, y2, y3] := HB5.out.keep (hk.block tb (by have := HK5.out.size; omega) (by omega) (by omega))
            obtain ⟨q0, q1, q2, q3⟩ := hb6.four
            match k, hi with
            | 0, _ =>
              obtain rfl := Option.some.inj ho
              have o4 := hoff 4 (by decide +kernel)
              simp at o4
              simp [opYields, go_sem, o4, q0, q1, q2, q3]
              exact hJ
            | 1, _ =>
              obtain rfl := Option.some.inj ho
              have o0 := hoff 0 (by decide +kernel)
              simp at o0
              simp [opYields, go_sem, o0]
              exact hJ
            | 2, _ =>
              obtain rfl := Option.some.inj ho
              have d1 := hdep 1 (by decide +kernel)
              simp [slotOf, dstOf] at d1
              simp [opYields, go_sem, d1]
              refine (pspan_any w2 F pb m i' g S hpp hm hir).mono ?_
              rintro e w3' ⟨hk3, (⟨s2, j2, v2, hq, rfl, _, _⟩|⟨er2, a2', hq, rfl⟩)⟩
              · rw [HY.out] at hq; cases hq
              · rw [HY.out] at hq; cases hq; exact ⟨rfl, hk.trans hk3⟩
            | 3, _ => exact (hdep 2 (by decide +kernel)).elim
            | k + 4, h => exact absurd h (by omega)
        | .ok (s, j), hy =>
          have HY := hide hy
          have hjl := pSpan_ok hy
          simp only at hjl
          have HE3 : Hid (pSpans m (m.length + 1) s0 j1 = pSpans m f (union s' s) j) := by show _ = _; rw [HE2.out, hy]; rfl
          clear hy
          refine wp_region_state 4 27 Tryz.mixed2 rfl (by decide +kernel) (fun L vals w' => Kept2 pb pb w5 w' ∧ parserAt w' F pb m (if L 2 then j else i') S g)
            (fun L vals h => by rw [h 2]; exact ⟨Kept2.drew _, HP5.out⟩)
            (fun k v => match k with
              | 0 => v = .agg #[.int .u64 (y0 : Int), .int .u64 (y1 : Int), .int .u64 (y2 : Int), .int .u64 (y3 : Int)]
              | 1 => v = .pointer (some ⟨pb, 0, none⟩)
              | 2 => ∃ l, v = setV l ∧ wordsIs l s
              | _ => ∃ l, v = setV l ∧ wordsIs l (union s' s))
            (fun _ _ => False) (fun _ _ _ _ h => h.elim) (fun k hi o ho a2 w2 L vals hLi hLc hLe hJ hoff hval hdep => ?_) (fun vals w2 L hL hJ hvals => ?_)
          · obtain ⟨hk, hpp⟩ := id hJ
            have hb6 : wordsAt w2 tb [y0, y1, y2, y3] := HB5.out.keep (hk.block tb (by have := HK5.out.size; omega) (by omega) (by omega))
            obtain ⟨q0, q1, q2, q3⟩ := hb6.four
            match k, hi with
            | 0, _ =>
              obtain rfl := Option.some.inj ho
              have o4 := hoff 4 (by decide +kernel)
              simp at o4
              simp [opYields, go_sem, o4, q0, q1, q2, q3]
              exact hJ
            | 1, _ =>
              obtain rfl := Option.some.inj ho
              have o0 := hoff 0 (by decide +kernel)
              simp at o0
              simp [opYields, go_sem, o0]
              exact hJ
            | 2, _ =>
              obtain rfl := Option.some.inj ho
              have d1 := hdep 1 (by decide +kernel)
              simp [slotOf, dstOf] at d1
              rw [hLi] at hpp
              simp [opYields, go_sem, d1]
              refine (pspan_any w2 F pb m i' g S hpp hm hir).mono ?_
              rintro e w3' ⟨hk3, (⟨s2, j2, v2, hq, rfl, hv2, hp3⟩ | ⟨er2, a2', hq, rfl⟩)⟩
              · rw [HY.out] at hq
                cases hq
                exact ⟨⟨hk.trans hk3, hp3⟩, v2, rfl, hv2⟩
              · rw [HY.out] at hq
                cases hq
            | 3, _ =>
              obtain rfl := Option.some.inj ho
              have d0 := hdep 0 (by decide +kernel)
              obtain ⟨l2, d2, hl2⟩ := hdep 2 (by decide +kernel)
              simp [slotOf, dstOf] at d0 d2
              simp [opYields, go_sem, d0, d2]
              refine (both_any [y0, y1, y2, y3] l2 s' s w2 HVr.out hl2).mono ?_
              rintro e w3' ⟨v3, rfl, hv3, hg3⟩
              exact ⟨⟨hk.trans (.grow hg3), hpp.grow hg3⟩, v3, rfl, hv3⟩
            | k + 4, h => exact absurd h (by omega)
          · have h2 := hL 2 (by omega)
            obtain ⟨hk, hpp⟩ := hJ
            rw [h2] at hpp
            simp only [if_true] at hpp
            have v0 := hvals 0 (by omega)
            obtain ⟨l3, v3, hl3⟩ := hvals 3 (by omega)
            simp only at v0
            obtain ⟨u0, u1, u2, u3, rfl⟩ := words_four hl3
            have hb6 : wordsAt w2 tb [y0, y1, y2, y3] := HB5.out.keep (hk.block tb (by have := HK5.out.size; omega) (by omega) (by omega))
            obtain ⟨q0, q1, q2, q3⟩ := hb6.four
            have f0 := not_frozen (k := 0) hb6
            have f1 := not_frozen (k := 1) hb6
            have f2 := not_frozen (k := 2) hb6
            have f3 := not_frozen (k := 3) hb6
            obtain ⟨r1, r2, r3⟩ := set_put hpp hb6 u0 u1 u2 u3 rfl
            have R1 := hide r1
            have R2 := hide r2
            have R3 := hide r3
            have HL3 := hide hl3
            have HK6 := hide (HK5.out.trans hk.mono)
            clear hvals r1 r2 r3 hl3 hpp hk hb6
            rw [show setV [u0, u1, u2, u3] = .agg #[.int .u64 (u0 : Int), .int .u64 (u1 : Int), .int .u64 (u2 : Int), .int .u64 (u3 : Int)] from rfl] at v3
            simp [over, dstOf, Act.put, v0, v3]
            go_wp2
            go_roundw
            case rel => exact ⟨f, union s' s, j, [u0, u1, u2, u3], R1.out, ⟨HK6.out.os, HK6.out.tape, HK6.out.output, by simpa [World.setCell] using HK6.out.size, fun k h1 h2 h3 => (R3.out k h3).trans (HK6.out.block k h1 h2 h3)⟩, R2, HL3, hjl.2, by omega, by omega, HE3⟩
            case measure =>
              rw [R1.out.place, hpl]
              omega
  · have HQ1 : Hid (pBrackets m (i + 1) = some (.error (er, a))) := by show _ = _; rw [HQ0.out, hq]; rfl
    exact ⟨rfl, kept_in gW (HK2.out.trans hk3), .inr ⟨er, a, HQ1.out, rfl⟩⟩

end Go.Proofs.YtndpjdmfkhjiiaaGreatDoor
