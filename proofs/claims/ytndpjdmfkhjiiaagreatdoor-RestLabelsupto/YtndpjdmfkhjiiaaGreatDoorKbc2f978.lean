/- 8 texts in one. -/
import Derived.Test.YtndpjdmfkhjiiaaGreatDoorProg
import Derived.Test.YtndpjdmfkhjiiaaGreatDoorK97fdc06
import Derived.Test.YtndpjdmfkhjiiaaGreatDoorKbff346a
import Derived.Test.YtndpjdmfkhjiiaaGreatDoorK395e834
import Derived.Test.YtndpjdmfkhjiiaaGreatDoorK4429756
import Derived.Test.YtndpjdmfkhjiiaaGreatDoorKbd7ef7d
import Derived.Test.YtndpjdmfkhjiiaaGreatDoorKac5e9b6
import Derived.BigQuiet
import Derived.Test.YtndpjdmfkhjiiaaGreatDoorK1f74ead
import Derived.Test.YtndpjdmfkhjiiaaGreatDoorKa2d19b0
set_option linter.unusedVariables false
set_option linter.unusedSimpArgs false
namespace Go.Proofs.YtndpjdmfkhjiiaaGreatDoor
open Go.RowKit
attribute [local go_sem] bs_size bs_toList bs_append bs_get bs_extract
theorem comesB_one (m : List UInt8) (i : Nat) (c : UInt8) : comesB [c] m i = isAt m i c.toNat := by
  unfold comesB isAt
  cases m[i]? with
  | none => rfl
  | some d =>
    simp only [List.contains_cons, List.contains_nil, Bool.or_false]
    rw [Bool.eq_iff_iff]
    simp [← UInt8.toNat_inj]
theorem comesB_nat (m : List UInt8) (i : Nat) (c : UInt8) (n : Nat) (h : c.toNat = n) : comesB [c] m i = isAt m i n := by rw [comesB_one, h]
theorem contains_nat (c : UInt8) (l : List UInt8) : l.contains c = l.any fun d => decide (c.toNat = d.toNat) := by
  induction l with
  | nil => rfl
  | cons b l ih =>
    rw [List.contains_cons, List.any_cons, ih]
    congr 1
    rw [Bool.eq_iff_iff]
    simp [← UInt8.toNat_inj]
theorem comesB_bad {m : List UInt8} {i : Nat} {c : UInt8} (h : m[i]? = some c) : comesB [91, 93, 92, 94, 45] m i = badIn c := by
  unfold comesB
  rw [h]
  simp only [contains_nat, badIn, List.any_cons, List.any_nil, Bool.or_false, Bool.or_assoc]
  rfl
theorem parserAt.draw {w : World} {F : Nat → Prop} {pb n : Nat} {m : List UInt8} {i g : Nat} {S : List St} (h : parserAt w F pb m i S g) : parserAt (w.drewN n) F pb m i S g := h
set_option maxRecDepth 20000 in
set_option maxHeartbeats 1000000 in
theorem bracketed_any (w : World) (F : Nat → Prop) (pb : Nat) (m : List UInt8) (i g : Nat) (S : List St) (hp : parserAt w F pb m i S g) (hm : m.length ≤ 1000000) (hi : i ≤ m.length) :
    Calls Tryz.prog 173 #[.pointer (some ⟨pb, 0, none⟩)] w fun e w' => (∃ n, w' = w.drewN n) ∧ ((∃ c, pBr m i = some (.ok c) ∧ e = .returned (.int .u8 (c.toNat : Int))) ∨ (pBr m i = some (.error (1, i)) ∧ e = faulted 1 i)) := by
  have HP : Hid (∀ n, parserAt (w.drewN n) F pb m i S g) := hide fun n => hp
  have hp2 := hp
  obtain ⟨sv, rs, ⟨h1, h2, h3⟩, _⟩ := hp2
  obtain ⟨c0, c1, c2, c3⟩ := four_cells h2
  have HBL : Hid (∀ n, (w.drewN n).heap[pb]? = some (.cells #[.string (bs m), .int .i64 (i : Int), sv, .int .i64 (g : Int)] 143 (0, 0))) := hide fun n => h2
  clear h2 h3 hp
  go_enter Tryz.func173, Tryz.ntmps173
  by_cases hlt : i < m.length
  · obtain ⟨c, hc⟩ : ∃ c, m[i] = c := ⟨_, rfl⟩
    have hget : m[i]? = some c := by rw [List.getElem?_eq_getElem hlt, hc]
    have hne : ((i : Int) == m.length) = false := by rw [beq_eq_false_iff_ne]; omega
    have hlt2 : (i : Int) < m.length := by omega
    have HC : Hid (comesB [91, 93, 92, 94, 45] m i = badIn c) := hide (comesB_bad hget)
    have HQ : Hid (pBr m i = if badIn c then some (.error (1, i)) else some (.ok c)) := by show _ = _; unfold pBr; rw [hget]
    have HS : Hid (∀ n, Calls Tryz.prog 154 #[.pointer (some ⟨pb, 0, none⟩), .string { data := #[91, 93, 92, 94, 45] }] (w.drewN n) fun e w' => e = .returned (.bool (badIn c)) ∧ ∃ k, w' = (w.drewN n).drewN k) := by
      intro n
      have h := comes_any (w.drewN n) F pb m [91, 93, 92, 94, 45] i g S (HP.out n) hm hi
      rw [HC.out] at h
      exact h
    clear hget
    cases hb : badIn c with
    | true =>
      rw [hb] at HS HQ
      clear hb
      go_wp2
      go_quiet ((go_at_call 154; exact Calls.quiet_of (HS.out _)))
      go_wp2_with fail
      refine (giveUp_any _ F pb m i g S 1 (HP.out _)).mono ?_
      rintro e w' ⟨rfl, rfl⟩
      exact ⟨rfl, ⟨_, rfl⟩, .inr ⟨HQ.out, rfl⟩⟩
    | false =>
      rw [hb] at HS HQ
      clear hb
      go_wp2
      go_quiet ((go_at_call 154; exact Calls.quiet_of (HS.out _)))
      go_wp2
      have c0' := (four_cells (HBL.out nq)).1
      have c1' := (four_cells (HBL.out nq)).2.1
      go_quiet (fail)
      go_wp2
      go_ret
      exact ⟨⟨_, World.drewN_drewN _ _ _⟩, .inl ⟨c, HQ.out, rfl⟩⟩
  · have hne : ((i : Int) == m.length) = true := by rw [beq_iff_eq]; omega
    have HQ : Hid (pBr m i = some (.error (1, i))) := by show _ = _; unfold pBr; rw [List.getElem?_eq_none_iff.2 (by omega)]
    go_wp2
    go_quiet (fail)
    go_wp2_with fail
    refine (giveUp_any _ F pb m i g S 1 (HP.out _)).mono ?_
    rintro e w' ⟨rfl, rfl⟩
    exact ⟨rfl, ⟨_, rfl⟩, .inr ⟨HQ.out, rfl⟩⟩
/-- Two set aside: where a parser lies, its place is put on. -/
theorem parserAt.on {w : World} {F : Nat → Prop} {pb : Nat} {m : List UInt8} {i i' g : Nat} {S : List St} (h : parserAt w F pb m i S g) (u : Value) (hu : u = .int .i64 (i' : Int)) : parserAt (w.setCell ⟨pb, 1, none⟩ u) F pb m i' S g := by
  obtain ⟨sv, rs, h, e⟩ := h
  subst hu
  exact ⟨sv, rs, h.put (by simp), e⟩
theorem parserAt.cells {w : World} {F : Nat → Prop} {pb : Nat} {m : List UInt8} {i g : Nat} {S : List St} (h : parserAt w F pb m i S g) : pb < w.heap.size ∧ (∀ k, F k → k < w.heap.size) ∧ ∃ ao cp, w.heap[pb]? = some (.cells #[.string (bs m), .int .i64 (i : Int), .slice ao S.length cp, .int .i64 (g : Int)] 143 (0, 0)) := by
  obtain ⟨sv, rs, ⟨h1, h2, h3, _⟩, e⟩ := h
  obtain ⟨ao, cp, rfl⟩ := own_shape h3
  exact ⟨lt_of_block h2, h1, ao, cp, by rw [← e, List.length_map]; exact h2⟩
/-- A cell of another kind is written: a parser stays. -/
theorem parserAt.other {w : World} {F : Nat → Prop} {pb b o : Nat} {m : List UInt8} {i g : Nat} {S : List St} (h : parserAt w F pb m i S g) {c : Array Value} {t : TypeId} {fr : Nat × Nat} (hb : w.heap[b]? = some (.cells c t fr)) (h1 : (143 : Nat) ≠ t) (h2 : (150 : Nat) ≠ t) (h3 : (3 : Nat) ≠ t) (u : Value) : parserAt (w.setCell ⟨b, o, none⟩ u) F pb m i S g := by
  obtain ⟨sv, rs, ⟨k1, k2, k3, k4, k5⟩, e⟩ := h
  have hne : pb ≠ b := by
    rintro rfl
    rw [k2] at hb
    simp at hb
    exact h1 hb.2.1
  refine ⟨sv, rs, ⟨fun k hk => by have := k1 k hk; simpa [World.setCell] using this, ?_, ?_, fun j r hr => (k4 j r hr).keep fun k hk => ?_, k5⟩, e⟩
  · rw [Below.heap_setCell _ _ _ _ hne]; exact k2
  · exact ownsRow_setCell_other (a := ⟨b, o, none⟩) k3 (own_apart k3 hb h2) _
  · exact Below.heap_setCell _ _ _ _ (by rintro rfl; exact (k4 j r hr).apart hb h3 hk)
/-- A set of bytes is put into a block of its own. -/
theorem set_put {w : World} {F : Nat → Prop} {pb b : Nat} {m : List UInt8} {i g : Nat} {S : List St} (h : parserAt w F pb m i S g) {l : List Nat} (hb : wordsAt w b l) (x0 x1 x2 x3 : Nat) (hl : l.length = 4) :
    parserAt ((((w.setCell ⟨b, 0, none⟩ (.int .u64 x0)).setCell ⟨b, 1, none⟩ (.int .u64 x1)).setCell ⟨b, 2, none⟩ (.int .u64 x2)).setCell ⟨b, 3, none⟩ (.int .u64 x3)) F pb m i S g ∧
    wordsAt ((((w.setCell ⟨b, 0, none⟩ (.int .u64 x0)).setCell ⟨b, 1, none⟩ (.int .u64 x1)).setCell ⟨b, 2, none⟩ (.int .u64 x2)).setCell ⟨b, 3, none⟩ (.int .u64 x3)) b [x0, x1, x2, x3] ∧
    (∀ k, k ≠ b → ((((w.setCell ⟨b, 0, none⟩ (.int .u64 x0)).setCell ⟨b, 1, none⟩ (.int .u64 x1)).setCell ⟨b, 2, none⟩ (.int .u64 x2)).setCell ⟨b, 3, none⟩ (.int .u64 x3)).heap[k]? = w.heap[k]?) := by
  have b1 := hb.set 0 x0
  have b2 := b1.set 1 x1
  have b3 := b2.set 2 x2
  have b4 := b3.set 3 x3
  have p1 := h.other (o := 0) hb (by decide) (by decide) (by decide) (.int .u64 x0)
  have p2 := p1.other (o := 1) b1 (by decide) (by decide) (by decide) (.int .u64 x1)
  have p3 := p2.other (o := 2) b2 (by decide) (by decide) (by decide) (.int .u64 x2)
  have p4 := p3.other (o := 3) b3 (by decide) (by decide) (by decide) (.int .u64 x3)
  refine ⟨p4, ?_, fun k hk => ?_⟩
  · match l, hl with
    | [_, _, _, _], _ => exact b4
  · rw [Below.heap_setCell _ _ _ _ hk, Below.heap_setCell _ _ _ _ hk, Below.heap_setCell _ _ _ _ hk, Below.heap_setCell _ _ _ _ hk]
/-- What was laid first, and written last, is no change. -/
theorem kept_out {w W w3 w4 : World} {tb mb : Nat} (gW : Grow w W) (hs : w.heap.size ≤ W.heap.size) (h : Kept2 tb mb W w3) (hsz : w3.heap.size ≤ w4.heap.size) (hk : ∀ k, k ≠ w.heap.size → w4.heap[k]? = w3.heap[k]?) (h1 : w4.os = w3.os) (h2 : w4.tape = w3.tape) (h3 : w4.output = w3.output) : Kept2 tb mb w w4 :=
  ⟨h1.trans (h.os.trans gW.os), h2.trans (h.tape.trans gW.tape), h3.trans (h.output.trans gW.output), Nat.le_trans gW.size (Nat.le_trans h.size hsz), fun k hk1 hn1 hn2 => (hk k (by omega)).trans ((h.block k (by omega) hn1 hn2).trans (gW.block k hk1))⟩
theorem wordsAt.keep {w w' : World} {b : Nat} {l : List Nat} (h : wordsAt w b l) (g : w'.heap[b]? = w.heap[b]?) : wordsAt w' b l := g.trans h
set_option maxRecDepth 20000 in
set_option maxHeartbeats 2000000 in
theorem pspan_any (w : World) (F : Nat → Prop) (pb : Nat) (m : List UInt8) (i g : Nat) (S : List St) (hp : parserAt w F pb m i S g) (hm : m.length ≤ 1000000) (hi : i ≤ m.length) :
    Calls Tryz.prog 169 #[.pointer (some ⟨pb, 0, none⟩)] w fun e w' => Kept2 pb pb w w' ∧ ((∃ s j v, pSpan m i = some (.ok (s, j)) ∧ e = .returned (setV v) ∧ wordsIs v s ∧ parserAt w' F pb m j S g) ∨ (∃ er a : Nat, pSpan m i = some (.error (er, a)) ∧ e = faulted er a)) := by
  obtain ⟨W, HW⟩ : ∃ W, Hid (W = w.alloc (.cells #[.int .u64 0, .int .u64 0, .int .u64 0, .int .u64 0] 148)) := ⟨_, hide rfl⟩
  have gW : Grow w W := by rw [HW.out]; exact (Grow.refl _).alloc _
  have hWb : wordsAt W w.heap.size [0, 0, 0, 0] := by rw [HW.out]; exact heap_alloc_new _ _
  have hWs : W.heap.size = w.heap.size + 1 := by rw [HW.out]; simp
  have hpW := hp.grow gW
  obtain ⟨hpb, hB, _⟩ := hp.cells
  have HWB := hide hWb
  have HPW := hide hpW
  clear hp hWb hpW
  go_enter Tryz.func169, Tryz.ntmps169
  go_wp2_with fail
  rw [← HW.out]
  refine (bracketed_any W F pb m i g S HPW.out hm hi).mono ?_
  rintro e w1 ⟨⟨n, rfl⟩, (⟨a, ha, rfl⟩ | ⟨ha, rfl⟩)⟩
  · have hlt := get_lt (pBr_ok ha).1
    have hab := a.toNat_lt
    have HA := hide ha
    have HP1 : Hid (parserAt (W.drewN n) F pb m i S g) := HPW
    clear ha
    obtain ⟨_, _, ao, cp, hblk⟩ := HP1.out.cells
    obtain ⟨c0, c1, c2, c3⟩ := four_cells hblk
    obtain ⟨z0, z1, z2, z3⟩ := four_free hblk
    clear hblk c0 c2 c3
    obtain ⟨W1, HW1⟩ : ∃ W1, Hid (W1 = (W.drewN n).setCell ⟨pb, 1, none⟩ (.int .i64 ((i : Int) + 1))) := ⟨_, hide rfl⟩
    have HP2 : Hid (parserAt W1 F pb m (i + 1) S g) := by rw [HW1.out]; exact hide (HP1.out.on _ (by simp))
    have HK1 : Hid (Kept2 pb pb W W1) := by rw [HW1.out]; exact hide ((Kept2.drewN (.refl _ _ _)).trans (.setT _ _))
    have hwr : IntKind.i64.wrap ((i : Int) + 1) = (i : Int) + 1 := wrap_i64_small _ (by omega) (by omega)
    go_wp2_with fail
    rw [← HW1.out]
    refine (skip_any W1 F pb m [45] (i + 1) g S HP2.out hm (by omega)).mono ?_
    rintro e w2 ⟨rfl, hk2, hp2⟩
    rw [comesB_nat _ _ 45 45 rfl] at hp2 ⊢
    have HK2 := hide (HK1.out.trans hk2)
    have HP3 := hide hp2
    clear hk2 hp2
    cases hd : isAt m (i + 1) 45 with
    | false =>
      have HQ : Hid (pSpan m i = some (.ok (between a a, i + 1))) := by show _ = _; unfold pSpan; rw [HA.out]; simp only [bindO]; rw [hd]; simp
      rw [hd] at HP3
      clear hd
      go_wp2_with fail
      refine (span_any a a w2 (Nat.le_refl _)).mono ?_
      rintro e w3 ⟨v, rfl, hv, hg3⟩
      obtain ⟨x0, x1, x2, x3, rfl⟩ := words_four hv
      have hw3 : wordsAt w3 w.heap.size [0, 0, 0, 0] := hg3.get (HWB.out.keep (HK2.out.block _ (by omega) (by omega) (by omega)))
      obtain ⟨q0, q1, q2, q3⟩ := hw3.four
      have f0 := not_frozen (k := 0) hw3
      have f1 := not_frozen (k := 1) hw3
      have f2 := not_frozen (k := 2) hw3
      have f3 := not_frozen (k := 3) hw3
      obtain ⟨k1, k2, k3⟩ := set_put (HP3.out.grow hg3) hw3 x0 x1 x2 x3 rfl
      have K1 := hide k1
      have K2 := hide k2
      have K3 := hide k3
      have HV := hide hv
      have HK3 := hide (HK2.out.trans (.grow hg3))
      clear hw3 k1 k2 k3 hv hg3
      rw [show setV [x0, x1, x2, x3] = .agg #[.int .u64 (x0 : Int), .int .u64 (x1 : Int), .int .u64 (x2 : Int), .int .u64 (x3 : Int)] from rfl]
      go_wp2
      refine bodyPost_ret (v := setV [x0, x1, x2, x3]) (results_cell_row (p := 2) (ty := 148) rfl _ _ w.heap.size _ _ _ _ rfl K2.out Tryz.underlying148 rfl info_set) rfl ⟨?_, .inl ⟨_, _, _, HQ.out, rfl, HV.out, K1.out⟩⟩
      exact kept_out gW (by omega) HK3.out (by simp [World.setCell]) K3.out rfl rfl rfl
    | true =>
      rw [hd] at HP3
      have HP4 : Hid (parserAt w2 F pb m (i + 2) S g) := HP3
      have hlt2 := isAt_lt hd
      have HD := hide hd
      clear hd HP3
      go_wp2_with fail
      refine (bracketed_any w2 F pb m (i + 2) g S HP4.out hm (by omega)).mono ?_
      rintro e w4 ⟨⟨n4, rfl⟩, (⟨b, hb, rfl⟩ | ⟨hb, rfl⟩)⟩
      · have HP5 : Hid (parserAt (w2.drewN n4) F pb m (i + 2) S g) := HP4
        have hlt3 := get_lt (pBr_ok hb).1
        have hbb := b.toNat_lt
        have HB := hide hb
        have HK4 : Hid (Kept2 pb pb W (w2.drewN n4)) := hide (HK2.out.trans (Kept2.drewN (.refl _ _ _)))
        clear hb
        by_cases hlt : (b.toNat : Int) < a.toNat
        · have HQ : Hid (pSpan m i = some (.error (3, i + 2))) := by
            show _ = _; unfold pSpan; rw [HA.out]; simp only [bindO]; rw [HD.out, HB.out]; simp only [if_true]; rw [if_pos (by omega)]
          go_wp2_with fail
          refine (giveUp_any _ F pb m (i + 2) g S 3 HP5.out).mono ?_
          rintro e w5 ⟨rfl, rfl⟩
          exact ⟨rfl, ⟨HK4.out.os.trans gW.os, HK4.out.tape.trans gW.tape, HK4.out.output.trans gW.output, Nat.le_trans gW.size HK4.out.size, fun k h1 h2 h3 => (HK4.out.block k (by omega) h2 h3).trans (gW.block k h1)⟩, .inr ⟨3, i + 2, HQ.out, rfl⟩⟩
        · have HQ : Hid (pSpan m i = some (.ok (between a b, i + 3))) := by
            show _ = _; unfold pSpan; rw [HA.out]; simp only [bindO]; rw [HD.out, HB.out]; simp only [if_true]; rw [if_neg (by omega)]
          obtain ⟨_, _, ao5, cp5, hblk⟩ := HP5.out.cells
          obtain ⟨c0, c1, c2, c3⟩ := four_cells hblk
          obtain ⟨y0, y1, y2, y3⟩ := four_free hblk
          clear hblk c0 c2 c3
          obtain ⟨W5, HW5⟩ : ∃ W5, Hid (W5 = (w2.drewN n4).setCell ⟨pb, 1, none⟩ (.int .i64 ((i : Int) + 2 + 1))) := ⟨_, hide rfl⟩
          have HP6 : Hid (parserAt W5 F pb m (i + 3) S g) := by rw [HW5.out]; exact hide (HP5.out.on _ (by simp; omega))
          have HK5 : Hid (Kept2 pb pb W W5) := by rw [HW5.out]; exact hide (HK4.out.trans (.setT _ _))
          have hwr2 : IntKind.i64.wrap ((i : Int) + 2 + 1) = (i : Int) + 2 + 1 := wrap_i64_small _ (by omega) (by omega)
          go_wp2_with fail
          rw [← HW5.out]
          refine (span_any a b W5 (by omega)).mono ?_
          rintro e w6 ⟨v, rfl, hv, hg6⟩
          obtain ⟨x0, x1, x2, x3, rfl⟩ := words_four hv
          have hw6 : wordsAt w6 w.heap.size [0, 0, 0, 0] := hg6.get (HWB.out.keep (HK5.out.block _ (by omega) (by omega) (by omega)))
          obtain ⟨q0, q1, q2, q3⟩ := hw6.four
          have f0 := not_frozen (k := 0) hw6
          have f1 := not_frozen (k := 1) hw6
          have f2 := not_frozen (k := 2) hw6
          have f3 := not_frozen (k := 3) hw6
          obtain ⟨k1, k2, k3⟩ := set_put (HP6.out.grow hg6) hw6 x0 x1 x2 x3 rfl
          have K1 := hide k1
          have K2 := hide k2
          have K3 := hide k3
          have HV := hide hv
          have HK3 := hide (HK5.out.trans (.grow hg6))
          clear hw6 k1 k2 k3 hv hg6
          rw [show setV [x0, x1, x2, x3] = .agg #[.int .u64 (x0 : Int), .int .u64 (x1 : Int), .int .u64 (x2 : Int), .int .u64 (x3 : Int)] from rfl]
          go_wp2
          refine bodyPost_ret (v := setV [x0, x1, x2, x3]) (results_cell_row (p := 2) (ty := 148) rfl _ _ w.heap.size _ _ _ _ rfl K2.out Tryz.underlying148 rfl info_set) rfl ⟨?_, .inl ⟨_, _, _, HQ.out, rfl, HV.out, K1.out⟩⟩
          exact kept_out gW (by omega) HK3.out (by simp [World.setCell]) K3.out rfl rfl rfl
      · have HQ : Hid (pSpan m i = some (.error (1, i + 2))) := by
          show _ = _; unfold pSpan; rw [HA.out]; simp only [bindO]; rw [HD.out, hb]; simp
        have HK4 : Hid (Kept2 pb pb W (w2.drewN n4)) := hide (HK2.out.trans (Kept2.drewN (.refl _ _ _)))
        exact ⟨rfl, ⟨HK4.out.os.trans gW.os, HK4.out.tape.trans gW.tape, HK4.out.output.trans gW.output, Nat.le_trans gW.size HK4.out.size, fun k h1 h2 h3 => (HK4.out.block k (by omega) h2 h3).trans (gW.block k h1)⟩, .inr ⟨1, i + 2, HQ.out, rfl⟩⟩
  · have HQ : Hid (pSpan m i = some (.error (1, i))) := by
      show _ = _; unfold pSpan; rw [ha]; rfl
    exact ⟨rfl, ⟨gW.os, gW.tape, gW.output, gW.size, fun k h1 h2 h3 => gW.block k h1⟩, .inr ⟨1, i, HQ.out, rfl⟩⟩
/-- A byte behind a backslash. -/
def pEsc (m : List UInt8) (i : Nat) : Out ((UInt8 → Bool) × Nat) := match m[i]? with
  | none => some (.error (1, i))
  | some d => if isAl d || isNu d then some (.error (1, i)) else some (.ok (between d d, i + 1))
theorem kept_in {w W w' : World} {tb mb : Nat} (gW : Grow w W) (h : Kept2 tb mb W w') : Kept2 tb mb w w' := (Kept2.grow gW).trans h
set_option maxRecDepth 20000 in
set_option maxHeartbeats 4000000 in
theorem escaped_any (w : World) (F : Nat → Prop) (pb : Nat) (m : List UInt8) (i g : Nat) (S : List St) (hp : parserAt w F pb m i S g) (hm : m.length ≤ 1000000) (hi : i ≤ m.length) :
    Calls Tryz.prog 168 #[.pointer (some ⟨pb, 0, none⟩)] w fun e w' => Kept2 pb pb w w' ∧ ((∃ s j v, pEsc m i = some (.ok (s, j)) ∧ e = .returned (setV v) ∧ wordsIs v s ∧ parserAt w' F pb m j S g) ∨ (∃ er a : Nat, pEsc m i = some (.error (er, a)) ∧ e = faulted er a)) := by
  obtain ⟨W, HW⟩ : ∃ W, Hid (W = w.alloc (.cells #[.int .u64 0, .int .u64 0, .int .u64 0, .int .u64 0] 148)) := ⟨_, hide rfl⟩
  have gW : Grow w W := by rw [HW.out]; exact (Grow.refl _).alloc _
  have hWb : wordsAt W w.heap.size [0, 0, 0, 0] := by rw [HW.out]; exact heap_alloc_new _ _
  have hWs : W.heap.size = w.heap.size + 1 := by rw [HW.out]; simp
  have hpW := hp.grow gW
  obtain ⟨hpb, hB, _⟩ := hp.cells
  have HWB := hide hWb
  have HP : Hid (∀ n, parserAt (W.drewN n) F pb m i S g) := hide fun n => hpW
  obtain ⟨_, _, ao, cp, hblk⟩ := hpW.cells
  obtain ⟨c0, c1, c2, c3⟩ := four_cells hblk
  have HBL : Hid (∀ n, (W.drewN n).heap[pb]? = some (.cells #[.string (bs m), .int .i64 (i : Int), .slice ao S.length cp, .int .i64 (g : Int)] 143 (0, 0))) := hide fun n => hblk
  clear hp hWb hpW hblk
  go_enter Tryz.func168, Tryz.ntmps168
  by_cases hlt : i < m.length
  · obtain ⟨c, hc⟩ : ∃ c, m[i] = c := ⟨_, rfl⟩
    have hget : m[i]? = some c := by rw [List.getElem?_eq_getElem hlt, hc]
    have hne : ((i : Int) == m.length) = false := by rw [beq_eq_false_iff_ne]; omega
    have hlt2 : (i : Int) < m.length := by omega
    have hcl := c.toNat_lt
    have HQ : Hid (pEsc m i = if isAl c || isNu c then some (.error (1, i)) else some (.ok (between c c, i + 1))) := by show _ = _; unfold pEsc; rw [hget]
    have HL : Hid (∀ w, Calls Tryz.prog 172 #[.int .u8 (c.toNat : Int)] w fun e w' => e = .returned (.bool (isAl c)) ∧ w' = w) := hide fun w => isLetter_any c w
    have HN : Hid (∀ w, Calls Tryz.prog 115 #[.int .u8 (c.toNat : Int)] w fun e w' => e = .returned (.bool (isNu c)) ∧ w' = w) := hide fun w => isDigit_any c w
    clear hget
    cases ha : isAl c with
    | true =>
      rw [ha] at HL HQ
      clear ha
      go_wp2_with fail
      rw [← HW.out]
      go_quiet ((go_at_call 172; exact Calls.quiet_of_same (HL.out _)))
      go_wp2_with fail
      refine (giveUp_any _ F pb m i g S 1 (HP.out _)).mono ?_
      rintro e w' ⟨rfl, rfl⟩
      exact ⟨rfl, kept_in gW (Kept2.drewN (.refl _ _ _)), .inr ⟨1, i, HQ.out, rfl⟩⟩
    | false =>
      rw [ha] at HL HQ
      clear ha
      cases hn : isNu c with
      | true =>
        rw [hn] at HN HQ
        clear hn
        go_wp2_with fail
        rw [← HW.out]
        go_quiet (first | (go_at_call 172; exact Calls.quiet_of_same (HL.out _)) | (go_at_call 115; exact Calls.quiet_of_same (HN.out _)))
        go_wp2_with fail
        refine (giveUp_any _ F pb m i g S 1 (HP.out _)).mono ?_
        rintro e w' ⟨rfl, rfl⟩
        exact ⟨rfl, kept_in gW (Kept2.drewN (.refl _ _ _)), .inr ⟨1, i, HQ.out, rfl⟩⟩
      | false =>
        rw [hn] at HN HQ
        clear hn
        go_wp2_with fail
        rw [← HW.out]
        go_quiet (first | (go_at_call 172; exact Calls.quiet_of_same (HL.out _)) | (go_at_call 115; exact Calls.quiet_of_same (HN.out _)))
        obtain ⟨W1, HW1⟩ : ∃ W1, Hid (W1 = W.drewN nq) := ⟨_, hide rfl⟩
        rw [← HW1.out]
        have HP1 : Hid (∀ n, parserAt (W1.drewN n) F pb m i S g) := by rw [HW1.out]; exact hide fun n => (HP.out nq).draw
        have hblk1 : W1.heap[pb]? = some (.cells #[.string (bs m), .int .i64 (i : Int), .slice ao S.length cp, .int .i64 (g : Int)] 143 (0, 0)) := by rw [HW1.out]; exact HBL.out nq
        have HK1 : Hid (Kept2 pb pb W W1) := by rw [HW1.out]; exact hide (Kept2.drewN (.refl _ _ _))
        obtain ⟨k0, k1, _, _⟩ := four_cells hblk1
        have HBL1 := hide hblk1
        clear hblk1
        go_wp2_with fail
        go_quiet (fail)
        obtain ⟨W2, HW2⟩ : ∃ W2, Hid (W2 = W1.drewN nq) := ⟨_, hide rfl⟩
        rw [← HW2.out]
        have HP2 : Hid (parserAt W2 F pb m i S g) := by rw [HW2.out]; exact hide (HP1.out nq)
        have hblk2 : W2.heap[pb]? = some (.cells #[.string (bs m), .int .i64 (i : Int), .slice ao S.length cp, .int .i64 (g : Int)] 143 (0, 0)) := by rw [HW2.out]; exact HBL1.out
        have HK2 : Hid (Kept2 pb pb W W2) := by rw [HW2.out]; exact hide (HK1.out.trans (Kept2.drewN (.refl _ _ _)))
        obtain ⟨l0, l1, _, _⟩ := four_cells hblk2
        obtain ⟨y0, y1, _, _⟩ := four_free hblk2
        clear hblk2
        obtain ⟨W3, HW3⟩ : ∃ W3, Hid (W3 = W2.setCell ⟨pb, 1, none⟩ (.int .i64 ((i : Int) + 1))) := ⟨_, hide rfl⟩
        have HP3 : Hid (parserAt W3 F pb m (i + 1) S g) := by rw [HW3.out]; exact hide (HP2.out.on _ (by simp))
        have HK3 : Hid (Kept2 pb pb W W3) := by rw [HW3.out]; exact hide (HK2.out.trans (.setT _ _))
        have hwr : IntKind.i64.wrap ((i : Int) + 1) = (i : Int) + 1 := wrap_i64_small _ (by omega) (by omega)
        go_wp2_with fail
        rw [← HW3.out]
        refine (span_any c c W3 (Nat.le_refl _)).mono ?_
        rintro e w3 ⟨v, rfl, hv, hg3⟩
        obtain ⟨x0, x1, x2, x3, rfl⟩ := words_four hv
        have hw3 : wordsAt w3 w.heap.size [0, 0, 0, 0] := hg3.get (HWB.out.keep (HK3.out.block _ (by omega) (by omega) (by omega)))
        obtain ⟨q0, q1, q2, q3⟩ := hw3.four
        have f0 := not_frozen (k := 0) hw3
        have f1 := not_frozen (k := 1) hw3
        have f2 := not_frozen (k := 2) hw3
        have f3 := not_frozen (k := 3) hw3
        obtain ⟨r1, r2, r3⟩ := set_put (HP3.out.grow hg3) hw3 x0 x1 x2 x3 rfl
        have R1 := hide r1
        have R2 := hide r2
        have R3 := hide r3
        have HV := hide hv
        have HK4 := hide (HK3.out.trans (.grow hg3))
        clear hw3 r1 r2 r3 hv hg3
        rw [show setV [x0, x1, x2, x3] = .agg #[.int .u64 (x0 : Int), .int .u64 (x1 : Int), .int .u64 (x2 : Int), .int .u64 (x3 : Int)] from rfl]
        go_wp2
        refine bodyPost_ret (v := setV [x0, x1, x2, x3]) (results_cell_row (p := 2) (ty := 148) rfl _ _ w.heap.size _ _ _ _ rfl R2.out Tryz.underlying148 rfl info_set) rfl ⟨?_, .inl ⟨_, _, _, HQ.out, rfl, HV.out, R1.out⟩⟩
        exact kept_out gW (by omega) HK4.out (by simp [World.setCell]) R3.out rfl rfl rfl
  · have hne : ((i : Int) == m.length) = true := by rw [beq_iff_eq]; omega
    have HQ : Hid (pEsc m i = some (.error (1, i))) := by show _ = _; unfold pEsc; rw [List.getElem?_eq_none_iff.2 (by omega)]
    go_wp2_with fail
    rw [← HW.out]
    go_quiet (fail)
    go_wp2_with fail
    refine (giveUp_any _ F pb m i g S 1 (HP.out _)).mono ?_
    rintro e w' ⟨rfl, rfl⟩
    exact ⟨rfl, kept_in gW (Kept2.drewN (.refl _ _ _)), .inr ⟨1, i, HQ.out, rfl⟩⟩
set_option maxRecDepth 20000 in
set_option maxHeartbeats 4000000 in
theorem take_any (w : World) (F : Nat → Prop) (pb : Nat) (m : List UInt8) (i g : Nat) (S : List St) (v : List Nat) (s : UInt8 → Bool) (hp : parserAt w F pb m i S g) (hv : wordsIs v s) (hS : S.length ≤ 1000000) :
    Calls Tryz.prog 165 #[.pointer (some ⟨pb, 0, none⟩), setV v] w fun e w' => e = .returned (.tuple #[]) ∧ KeptX F pb w w' ∧ parserAt w' F pb m i (S ++ [.take s]) g := by
  obtain ⟨x0, x1, x2, x3, rfl⟩ := words_four hv
  obtain ⟨W, HW⟩ : ∃ W, Hid (W = w.alloc (.cells #[.int .u64 (x0 : Int), .int .u64 (x1 : Int), .int .u64 (x2 : Int), .int .u64 (x3 : Int)] 148)) := ⟨_, hide rfl⟩
  have gW : Grow w W := by rw [HW.out]; exact (Grow.refl _).alloc _
  have hWb : wordsAt W w.heap.size [x0, x1, x2, x3] := by rw [HW.out]; exact heap_alloc_new _ _
  have HP := hide (hp.grow gW)
  obtain ⟨hpb, hB, _⟩ := hp.cells
  obtain ⟨c0, c1, c2, c3⟩ := hWb.four
  have HV := hide hv
  clear hp hWb hv
  rw [show setV [x0, x1, x2, x3] = .agg #[.int .u64 (x0 : Int), .int .u64 (x1 : Int), .int .u64 (x2 : Int), .int .u64 (x3 : Int)] from rfl]
  go_enter Tryz.func165, Tryz.ntmps165
  go_wp2_with fail
  rw [← HW.out]
  go_wp2_with fail
  refine (add_any W F pb m i g S ⟨.take s, x0, x1, x2, x3, 0, .slice none 0 0⟩ HP.out rfl (fun w => ⟨World.ownsRow_nil _ _ _ _, HV.out⟩) hS).mono ?_
  rintro e w1 ⟨rfl, hk, hp1⟩
  go_wp2
  go_end0
  exact ⟨rfl, (keptX_grow gW hB).trans hk, hp1⟩
theorem Kept2.mono {b c : Nat} {w w' : World} (h : Kept2 b b w w') : Kept2 b c w w' := ⟨h.os, h.tape, h.output, h.size, fun k h1 h2 _ => h.block k h1 h2 h2⟩
theorem brack_kept {w W W4 w6 w7 : World} {pb tb : Nat} (gW : Grow w W) (hs : W.heap.size = w.heap.size + 1) (h4 : Kept2 pb pb W W4) (h4s : W4.heap.size = tb + 1) (h6 : Kept2 pb tb W4 w6) (htb : w.heap.size < tb) (hsz : w6.heap.size ≤ w7.heap.size) (hk : ∀ k, k ≠ w.heap.size → w7.heap[k]? = w6.heap[k]?) (h1 : w7.os = w6.os) (h2 : w7.tape = w6.tape) (h3 : w7.output = w6.output) : Kept2 pb pb w w7 :=
  ⟨h1.trans (h6.os.trans (h4.os.trans gW.os)), h2.trans (h6.tape.trans (h4.tape.trans gW.tape)), h3.trans (h6.output.trans (h4.output.trans gW.output)), Nat.le_trans gW.size (Nat.le_trans h4.size (Nat.le_trans h6.size hsz)), fun k hk1 hn1 hn2 => (hk k (by omega)).trans ((h6.block k (by have := h4.size; omega) hn1 (by omega)).trans ((h4.block k (by omega) hn1 hn2).trans (gW.block k hk1)))⟩
set_option maxRecDepth 20000 in
set_option maxHeartbeats 4000000 in
theorem brackets_any (w : World) (F : Nat → Prop) (pb : Nat) (m : List UInt8) (i g : Nat) (S : List St) (hp : parserAt w F pb m i S g) (hm : m.length ≤ 1000000) (hi : i < m.length) :
    Calls Tryz.prog 166 #[.pointer (some ⟨pb, 0, none⟩)] w fun e w' => Kept2 pb pb w w' ∧ ((∃ s j v, pBrackets m (i + 1) = some (.ok (s, j)) ∧ e = .returned (setV v) ∧ wordsIs v s ∧ parserAt w' F pb m j S g) ∨ (∃ er a : Nat, pBrackets m (i + 1) = some (.error (er, a)) ∧ e = faulted er a)) := by
  obtain ⟨W, HW⟩ : ∃ W, Hid (W = w.alloc (.cells #[.int .u64 0, .int .u64 0, .int .u64 0, .int .u64 0] 148)) := ⟨_, hide rfl⟩
  have gW : Grow w W := by rw [HW.out]; exact (Grow.refl _).alloc _
  have hWb : wordsAt W w.heap.size [0, 0, 0, 0] := by rw [HW.out]; exact heap_alloc_new _ _
  have hWs : W.heap.size = w.heap.size + 1 := by rw [HW.out]; simp
  have hpW := hp.grow gW
  obtain ⟨hpb, hB, _⟩ := hp.cells
  obtain ⟨_, _, ao, cp, hblk⟩ := hpW.cells
  obtain ⟨c0, c1, c2, c3⟩ := four_cells hblk
  obtain ⟨z0, z1, z2, z3⟩ := four_free hblk
  have HWB := hide hWb
  have HPW := hide hpW
  clear hp hWb hpW hblk c0 c2 c3
  obtain ⟨W1, HW1⟩ : ∃ W1, Hid (W1 = W.setCell ⟨pb, 1, none⟩ (.int .i64 ((i : Int) + 1))) := ⟨_, hide rfl⟩
  have HP1 : Hid (parserAt W1 F pb m (i + 1) S g) := by rw [HW1.out]; exact hide (HPW.out.on _ (by simp))
  have HK1 : Hid (Kept2 pb pb W W1) := by rw [HW1.out]; exact hide (.setT _ _)
  have hwr : IntKind.i64.wrap ((i : Int) + 1) = (i : Int) + 1 := wrap_i64_small _ (by omega) (by omega)
  have eW := HW.out.symm
  have eW1 := HW1.out.symm
  go_enter Tryz.func166, Tryz.ntmps166
  go_wp2_with fail
  clear eW eW1
  refine (skip_any W1 F pb m [94] (i + 1) g S HP1.out hm (by omega)).mono ?_
  rintro e w2 ⟨rfl, hk2, hp2⟩
  rw [comesB_nat _ _ 94 94 rfl] at hp2 ⊢
  obtain ⟨nt, HNT⟩ : ∃ nt, Hid (isAt m (i + 1) 94 = nt) := ⟨_, hide rfl⟩
  rw [HNT.out] at hp2 ⊢
  obtain ⟨j0, HJ0⟩ : ∃ j0, Hid (onIf nt (i + 1) = j0) := ⟨_, hide rfl⟩
  rw [HJ0.out] at hp2
  have hj0 : j0 ≤ m.length := by
    rw [← HJ0.out]
    cases nt with
    | true => have := isAt_lt HNT.out; exact this
    | false => exact hi
  have HQ0 : Hid (pBrackets m (i + 1) = bindO (pSpan m j0) fun x => bindO (pSpans m (m.length + 1) x.1 x.2) fun y => some (.ok (if nt then butAll y.1 else y.1, y.2))) := by
    show _ = _
    unfold pBrackets
    simp only [HNT.out]
    rw [← HJ0.out]
    cases nt <;> rfl
  have HK2 := hide (HK1.out.trans hk2)
  have HP2 := hide hp2
  clear hk2 hp2
  go_wp2_with fail
  refine (pspan_any w2 F pb m j0 g S HP2.out hm hj0).mono ?_
  rintro e w3 ⟨hk3, (⟨s0, j1, v, hq, rfl, hv, hp3⟩ | ⟨er, a, hq, rfl⟩)⟩
  · have hj1 := (pSpan_ok hq).2
    simp only at hj1
    have HQ1 : Hid (pBrackets m (i + 1) = bindO (pSpans m (m.length + 1) s0 j1) fun y => some (.ok (if nt then butAll y.1 else y.1, y.2))) := by show _ = _; rw [HQ0.out, hq]; rfl
    obtain ⟨x0, x1, x2, x3, rfl⟩ := words_four hv
    have HK3 := hide (HK2.out.trans hk3)
    have HP3 := hide hp3
    have HV := hide hv
    clear hk3 hp3 hv hq
    have hs3 : w.heap.size + 1 ≤ w3.heap.size := by rw [← hWs]; exact HK3.out.size
    obtain ⟨tb, htb⟩ : ∃ tb, w3.heap.size = tb := ⟨_, rfl⟩
    obtain ⟨Z, HZ⟩ : ∃ Z, Hid (Z = w3.alloc (.cells #[.int .u64 0, .int .u64 0, .int .u64 0, .int .u64 0] 148)) := ⟨_, hide rfl⟩
    have gZ : Grow w3 Z := by rw [HZ.out]; exact (Grow.refl _).alloc _
    have hZb : wordsAt Z tb [0, 0, 0, 0] := by rw [HZ.out, ← htb]; exact heap_alloc_new _ _
    have hZs : Z.heap.size = tb + 1 := by rw [HZ.out]; simp [htb]
    have f0 := not_frozen (k := 0) hZb
    have f1 := not_frozen (k := 1) hZb
    have f2 := not_frozen (k := 2) hZb
    have f3 := not_frozen (k := 3) hZb
    obtain ⟨q0, q1, q2, q3⟩ := hZb.four
    obtain ⟨W4, HW4⟩ : ∃ W4, Hid (W4 = (((Z.setCell ⟨tb, 0, none⟩ (.int .u64 x0)).setCell ⟨tb, 1, none⟩ (.int .u64 x1)).setCell ⟨tb, 2, none⟩ (.int .u64 x2)).setCell ⟨tb, 3, none⟩ (.int .u64 x3)) := ⟨_, hide rfl⟩
    obtain ⟨r1, r2, r3⟩ := set_put (HP3.out.grow gZ) hZb x0 x1 x2 x3 rfl
    rw [← HW4.out] at r1 r2 r3
    have HP4 := hide r1
    have HB4 := hide r2
    have hW4s : W4.heap.size = tb + 1 := by rw [HW4.out, ← hZs]; simp [World.setCell]
    have HK4 : Hid (Kept2 pb pb W W4) := hide (HK3.out.trans ⟨by rw [HW4.out]; exact gZ.os, by rw [HW4.out]; exact gZ.tape, by rw [HW4.out]; exact gZ.output, by omega, fun k h1 h2 _ => (r3 k (by omega)).trans (gZ.block k h1)⟩)
    have eZ := HZ.out.symm
    have eW4 := HW4.out.symm
    clear r1 r2 r3 hZb
    rw [show setV [x0, x1, x2, x3] = .agg #[.int .u64 (x0 : Int), .int .u64 (x1 : Int), .int .u64 (x2 : Int), .int .u64 (x3 : Int)] from rfl]
    go_wp2_with fail
    clear eZ eW4 f0 f1 f2 f3 q0 q1 q2 q3
    go_loopw [] (fun wr => ∃ f s' i' l, parserAt wr F pb m i' S g ∧ Kept2 pb tb W4 wr ∧ Hid (wordsAt wr tb l) ∧ Hid (wordsIs l s') ∧ i' ≤ m.length ∧ m.length < f + i' ∧ 0 < f ∧ Hid (pSpans m (m.length + 1) s0 j1 = pSpans m f s' i')) (fun wr => m.length - placeOf wr pb)
    case atStart => exact ⟨m.length + 1, s0, j1, [x0, x1, x2, x3], HP4.out, .refl _ _ _, HB4, HV, hj1, by omega, by omega, hide rfl⟩
    case round =>
      obtain ⟨f, s', i', l, hpr, hkr, HBr, HVr, hir, hfr, hf0, HE⟩ := hrel
      rename World => wr
      have HPR := hide hpr
      have HKR := hide hkr
      have hpl := hpr.place
      clear hpr hkr
      obtain ⟨f, rfl⟩ : ∃ f', f = f' + 1 := ⟨f - 1, by omega⟩
      go_wp2_with fail
      refine (skip_any wr F pb m [93] i' g S HPR.out hm hir).mono ?_
      rintro e w5 ⟨rfl, hk5, hp5⟩
      rw [comesB_nat _ _ 93 93 rfl] at hp5 ⊢
      have HK5 := hide (HKR.out.trans hk5.mono)
      have hB5 : wordsAt w5 tb l := HBr.out.keep (hk5.block tb (by have := HKR.out.size; omega) (by omega) (by omega))
      have HB5 := hide hB5
      clear hk5 hB5
      cases hd : isAt m i' 93 with
      | true =>
        have hlt := isAt_lt hd
        have HQ2 : Hid (pBrackets m (i + 1) = some (.ok (if nt then butAll s' else s', i' + 1))) := by
          show _ = _
          rw [HQ1.out, HE.out, pSpans, if_pos hd]
          rfl
        rw [hd] at hp5
        have HP5 : Hid (parserAt w5 F pb m (i' + 1) S g) := hide hp5
        clear hd hp5
        obtain ⟨y0, y1, y2, y3, rfl⟩ := words_four HVr.out
        obtain ⟨q0, q1, q2, q3⟩ := HB5.out.four
        have hs5 : tb + 1 ≤ w5.heap.size := by rw [← hW4s]; exact HK5.out.size
        have hr5 : w5.heap[w.heap.size]? = W.heap[w.heap.size]? := (HK5.out.block _ (by omega) (by omega) (by omega)).trans (HK4.out.block _ (by omega) (by omega) (by omega))
        cases nt with
        | true =>
          go_wp2_with fail
          refine (allBut_any [y0, y1, y2, y3] s' w5 HVr.out).mono ?_
          rintro e w6 ⟨v, rfl, hv, hg6⟩
          obtain ⟨u0, u1, u2, u3, rfl⟩ := words_four hv
          have hw6 : wordsAt w6 w.heap.size [0, 0, 0, 0] := hg6.get (HWB.out.keep hr5)
          obtain ⟨p0, p1, p2, p3⟩ := hw6.four
          have f0 := not_frozen (k := 0) hw6
          have f1 := not_frozen (k := 1) hw6
          have f2 := not_frozen (k := 2) hw6
          have f3 := not_frozen (k := 3) hw6
          obtain ⟨r1, r2, r3⟩ := set_put (HP5.out.grow hg6) hw6 u0 u1 u2 u3 rfl
          have R1 := hide r1
          have R2 := hide r2
          have R3 := hide r3
          have HV6 := hide hv
          have HK6 := hide (HK5.out.trans (.grow hg6))
          clear hw6 r1 r2 r3 hv hg6
          rw [show setV [u0, u1, u2, u3] = .agg #[.int .u64 (u0 : Int), .int .u64 (u1 : Int), .int .u64 (u2 : Int), .int .u64 (u3 : Int)] from rfl]
          go_wp2
          refine bodyPost_ret (v := setV [u0, u1, u2, u3]) (results_cell_row (p := 2) (ty := 148) rfl _ _ w.heap.size _ _ _ _ rfl R2.out Tryz.underlying148 rfl info_set) rfl ⟨?_, .inl ⟨_, _, _, HQ2.out, rfl, HV6.out, R1.out⟩⟩
          exact brack_kept gW hWs HK4.out hW4s HK6.out (by omega) (by simp [World.setCell]) R3.out rfl rfl rfl
        | false =>
          have hw6 : wordsAt w5 w.heap.size [0, 0, 0, 0] := HWB.out.keep hr5
          obtain ⟨p0, p1, p2, p3⟩ := hw6.four
          have f0 := not_frozen (k := 0) hw6
          have f1 := not_frozen (k := 1) hw6
          have f2 := not_frozen (k := 2) hw6
          have f3 := not_frozen (k := 3) hw6
          obtain ⟨r1, r2, r3⟩ := set_put HP5.out hw6 y0 y1 y2 y3 rfl
          have R1 := hide r1
          have R2 := hide r2
          have R3 := hide r3
          clear hw6 r1 r2 r3
          go_wp2
          refine bodyPost_ret (v := setV [y0, y1, y2, y3]) (results_cell_row (p := 2) (ty := 148) rfl _ _ w.heap.size _ _ _ _ rfl R2.out Tryz.underlying148 rfl info_set) rfl ⟨?_, .inl ⟨_, _, _, HQ2.out, rfl, HVr.out, R1.out⟩⟩
          exact brack_kept gW hWs HK4.out hW4s HK5.out (by omega) (by simp [World.setCell]) R3.out rfl rfl rfl
      | false =>
        have HE2 : Hid (pSpans m (m.length + 1) s0 j1 = bindO (pSpan m i') fun x => pSpans m f (union s' x.1) x.2) := by
          show _ = _
          rw [HE.out, pSpans, if_neg (by simp [hd])]
        rw [hd] at hp5
        have HP5 : Hid (parserAt w5 F pb m i' S g) := hide hp5
        clear hd hp5
        obtain ⟨y0, y1, y2, y3, rfl⟩ := words_four HVr.out
        go_wp2
        obtain ⟨y, hy⟩ := pSpan_some m i'
        match y, hy with
        | .error (er, a), hy =>
          have HY := hide hy
          have HQ3 : Hid (pBrackets m (i + 1) = some (.error (er, a))) := by show _ = _; rw [HQ1.out, HE2.out, hy]; rfl
          clear hy
          refine wp_region_state 4 27 Tryz.mixed2 rfl (by decide +kernel) (fun L vals w' => Kept2 pb pb w5 w' ∧ parserAt w' F pb m i' S g)
            (fun L vals h => ⟨Kept2.drew _, HP5.out⟩)
            (fun k v => match k with
              | 1 => v = .pointer (some ⟨pb, 0, none⟩)
              | 2 => False
              | 3 => False
              | _ => True)
            (fun ch w' => Ending.panicked ch = faulted er a ∧ Kept2 pb pb w5 w') (fun ch a2 w2 hd hq => ?_) (fun k hi o ho a2 w2 L vals hLi hLc hLe hJ hoff hval hdep => ?_) (fun vals w2 L hL hJ hvals => (hvals 2 (by omega)).elim)
          · obtain ⟨hq1, hq2⟩ := hq
            simp only [Ending.panicked.injEq] at hq1
            subst hq1
            exact ⟨hd, kept_in gW (by
              have h6 := HK5.out.trans hq2.mono
              exact ⟨h6.os.trans HK4.out.os, h6.tape.trans HK4.out.tape, h6.output.trans HK4.out.output, Nat.le_trans HK4.out.size h6.size, fun k hk h1 h2 => (h6.block k (Nat.lt_of_lt_of_le hk HK4.out.size) h1 (by omega)).trans (HK4.out.block k hk h1 h2)⟩), .inr ⟨er, a, HQ3.out, rfl⟩⟩
          · obtain ⟨hk, hpp⟩ := id hJ
            have hb6 : wordsAt w2 tb [y0, y1, y2, y3] := HB5.out.keep (hk.block tb (by have := HK5.out.size; omega) (by omega) (by omega))
            obtain ⟨q0, q1, q2, q3⟩ := hb6.four
            match k, hi with
            | 0, _ =>
              obtain rfl := Option.some.inj ho
              have o4 := hoff 4 (by decide +kernel)
              simp at o4
              simp [opYields, go_sem, o4, q0, q1, q2, q3]
              exact hJ
            | 1, _ =>
              obtain rfl := Option.some.inj ho
              have o0 := hoff 0 (by decide +kernel)
              simp at o0
              simp [opYields, go_sem, o0]
              exact hJ
            | 2, _ =>
              obtain rfl := Option.some.inj ho
              have d1 := hdep 1 (by decide +kernel)
              simp [slotOf, dstOf] at d1
              simp [opYields, go_sem, d1]
              refine (pspan_any w2 F pb m i' g S hpp hm hir).mono ?_
              rintro e w3' ⟨hk3, (⟨s2, j2, v2, hq, rfl, _, _⟩|⟨er2, a2', hq, rfl⟩)⟩
              · rw [HY.out] at hq; cases hq
              · rw [HY.out] at hq; cases hq; exact ⟨rfl, hk.trans hk3⟩
            | 3, _ => exact (hdep 2 (by decide +kernel)).elim
            | k + 4, h => exact absurd h (by omega)
        | .ok (s, j), hy =>
          have HY := hide hy
          have hjl := pSpan_ok hy
          simp only at hjl
          have HE3 : Hid (pSpans m (m.length + 1) s0 j1 = pSpans m f (union s' s) j) := by show _ = _; rw [HE2.out, hy]; rfl
          clear hy
          refine wp_region_state 4 27 Tryz.mixed2 rfl (by decide +kernel) (fun L vals w' => Kept2 pb pb w5 w' ∧ parserAt w' F pb m (if L 2 then j else i') S g)
            (fun L vals h => by rw [h 2]; exact ⟨Kept2.drew _, HP5.out⟩)
            (fun k v => match k with
              | 0 => v = .agg #[.int .u64 (y0 : Int), .int .u64 (y1 : Int), .int .u64 (y2 : Int), .int .u64 (y3 : Int)]
              | 1 => v = .pointer (some ⟨pb, 0, none⟩)
              | 2 => ∃ l, v = setV l ∧ wordsIs l s
              | _ => ∃ l, v = setV l ∧ wordsIs l (union s' s))
            (fun _ _ => False) (fun _ _ _ _ h => h.elim) (fun k hi o ho a2 w2 L vals hLi hLc hLe hJ hoff hval hdep => ?_) (fun vals w2 L hL hJ hvals => ?_)
          · obtain ⟨hk, hpp⟩ := id hJ
            have hb6 : wordsAt w2 tb [y0, y1, y2, y3] := HB5.out.keep (hk.block tb (by have := HK5.out.size; omega) (by omega) (by omega))
            obtain ⟨q0, q1, q2, q3⟩ := hb6.four
            match k, hi with
            | 0, _ =>
              obtain rfl := Option.some.inj ho
              have o4 := hoff 4 (by decide +kernel)
              simp at o4
              simp [opYields, go_sem, o4, q0, q1, q2, q3]
              exact hJ
            | 1, _ =>
              obtain rfl := Option.some.inj ho
              have o0 := hoff 0 (by decide +kernel)
              simp at o0
              simp [opYields, go_sem, o0]
              exact hJ
            | 2, _ =>
              obtain rfl := Option.some.inj ho
              have d1 := hdep 1 (by decide +kernel)
              simp [slotOf, dstOf] at d1
              rw [hLi] at hpp
              simp [opYields, go_sem, d1]
              refine (pspan_any w2 F pb m i' g S hpp hm hir).mono ?_
              rintro e w3' ⟨hk3, (⟨s2, j2, v2, hq, rfl, hv2, hp3⟩ | ⟨er2, a2', hq, rfl⟩)⟩
              · rw [HY.out] at hq
                cases hq
                exact ⟨⟨hk.trans hk3, hp3⟩, v2, rfl, hv2⟩
              · rw [HY.out] at hq
                cases hq
            | 3, _ =>
              obtain rfl := Option.some.inj ho
              have d0 := hdep 0 (by decide +kernel)
              obtain ⟨l2, d2, hl2⟩ := hdep 2 (by decide +kernel)
              simp [slotOf, dstOf] at d0 d2
              simp [opYields, go_sem, d0, d2]
              refine (both_any [y0, y1, y2, y3] l2 s' s w2 HVr.out hl2).mono ?_
              rintro e w3' ⟨v3, rfl, hv3, hg3⟩
              exact ⟨⟨hk.trans (.grow hg3), hpp.grow hg3⟩, v3, rfl, hv3⟩
            | k + 4, h => exact absurd h (by omega)
          · have h2 := hL 2 (by omega)
            obtain ⟨hk, hpp⟩ := hJ
            rw [h2] at hpp
            simp only [if_true] at hpp
            have v0 := hvals 0 (by omega)
            obtain ⟨l3, v3, hl3⟩ := hvals 3 (by omega)
            simp only at v0
            obtain ⟨u0, u1, u2, u3, rfl⟩ := words_four hl3
            have hb6 : wordsAt w2 tb [y0, y1, y2, y3] := HB5.out.keep (hk.block tb (by have := HK5.out.size; omega) (by omega) (by omega))
            obtain ⟨q0, q1, q2, q3⟩ := hb6.four
            have f0 := not_frozen (k := 0) hb6
            have f1 := not_frozen (k := 1) hb6
            have f2 := not_frozen (k := 2) hb6
            have f3 := not_frozen (k := 3) hb6
            obtain ⟨r1, r2, r3⟩ := set_put hpp hb6 u0 u1 u2 u3 rfl
            have R1 := hide r1
            have R2 := hide r2
            have R3 := hide r3
            have HL3 := hide hl3
            have HK6 := hide (HK5.out.trans hk.mono)
            clear hvals r1 r2 r3 hl3 hpp hk hb6
            rw [show setV [u0, u1, u2, u3] = .agg #[.int .u64 (u0 : Int), .int .u64 (u1 : Int), .int .u64 (u2 : Int), .int .u64 (u3 : Int)] from rfl] at v3
            simp [over, dstOf, Act.put, v0, v3]
            go_wp2
            go_roundw
            case rel => exact ⟨f, union s' s, j, [u0, u1, u2, u3], R1.out, ⟨HK6.out.os, HK6.out.tape, HK6.out.output, by simpa [World.setCell] using HK6.out.size, fun k h1 h2 h3 => (R3.out k h3).trans (HK6.out.block k h1 h2 h3)⟩, R2, HL3, hjl.2, by omega, by omega, HE3⟩
            case measure =>
              rw [R1.out.place, hpl]
              omega
  · have HQ1 : Hid (pBrackets m (i + 1) = some (.error (er, a))) := by show _ = _; rw [HQ0.out, hq]; rfl
    exact ⟨rfl, kept_in gW (HK2.out.trans hk3), .inr ⟨er, a, HQ1.out, rfl⟩⟩
/-- How many steps are laid out is bounded by how many bytes were read. -/
theorem pM_sz {m : List UInt8} : ∀ {f rows i g x}, pM m f rows i g = some (.ok x) → i ≤ m.length → sz x.1 + 5 * i ≤ 5 * x.2.1 + (if rows then 1 else 0) := by
  intro f
  induction f with
  | zero => intro rows i g x h; cases h
  | succ f ih =>
    intro rows i g x h hi
    cases rows with
    | true =>
      rw [pM] at h
      rcases bindO_eq h with ⟨_, _, e⟩ | ⟨y, hy, h⟩
      · cases e
      have h1 := ih hy hi
      have e1 := pM_ok hy hi
      split at h
      · rename_i e
        have := isAt_lt e
        rcases bindO_eq h with ⟨_, _, e⟩ | ⟨z, hz, h⟩
        · cases e
        have h2 := ih hz (by omega)
        cases h
        simp [sz] at h1 h2 ⊢
        omega
      · cases h
        simp [sz] at h1 ⊢
        omega
    | false =>
      rw [pM] at h
      split at h
      · cases h; simp [sz]
      · rename_i c hc
        have li := get_lt hc
        split at h
        · cases h; simp [sz]
        · split at h
          · split at h
            · cases h
            · rcases bindO_eq h with ⟨_, _, e⟩ | ⟨y, hy, h⟩
              · cases e
              have h1 := ih hy (by omega)
              have e1 := pM_ok hy (by omega)
              split at h
              · rename_i e
                have := isAt_lt e
                rcases bindO_eq h with ⟨_, _, e⟩ | ⟨z, hz, h⟩
                · cases e
                have h2 := pSign_ok hz (by omega)
                rcases bindO_eq h with ⟨_, _, e⟩ | ⟨u, hu, h⟩
                · cases e
                have h3 := ih hu (by omega)
                cases h
                have := again_le z.1
                simp [sz] at h1 h3 ⊢
                omega
              · cases h
          · rcases bindO_eq h with ⟨_, _, e⟩ | ⟨y, hy, h⟩
            · cases e
            have h1 := pSet_ok hc hy
            rcases bindO_eq h with ⟨_, _, e⟩ | ⟨z, hz, h⟩
            · cases e
            have h2 := pSign_ok hz (by omega)
            rcases bindO_eq h with ⟨_, _, e⟩ | ⟨u, hu, h⟩
            · cases e
            have h3 := ih hu (by omega)
            cases h
            have := again_le z.1
            simp [sz] at h3 ⊢
            omega
/-- The steps behind rows. -/
def rowsSteps (S : List St) (T : Tr) : List St := S ++ .fork (starts T (S.length + 1)) :: comp T (S.length + 1) (S.length + 1 + sz T)
theorem rowsSteps_length (S T) : (rowsSteps S T).length = S.length + 1 + sz T := by simp [rowsSteps, comp_length]; omega
/-- What rows do, if this is what they are. -/
def rowsPost (F : Nat → Prop) (pb : Nat) (m : List UInt8) (S : List St) (y : Except (Nat × Nat) (Tr × Nat × Nat)) (w : World) (e : Ending) (w' : World) : Prop :=
  KeptX F pb w w' ∧ match y with
    | .error x => e = faulted x.1 x.2
    | .ok x => e = .returned (.bool (nothing x.1)) ∧ parserAt w' F pb m x.2.1 (rowsSteps S x.1) x.2.2
def RowsOK (m : List UInt8) (f : Nat) : Prop :=
  ∀ (w : World) (F : Nat → Prop) (pb i g : Nat) (S : List St) (y : Except (Nat × Nat) (Tr × Nat × Nat)), parserAt w F pb m i S g → i ≤ m.length → g ≤ 9 → S.length + 8 * (m.length - i) ≤ 100000 → pM m f true i g = some y →
    Calls Tryz.prog 121 #[.pointer (some ⟨pb, 0, none⟩)] w (rowsPost F pb m S y w)
/-- What a group does. -/
def groupPost (F : Nat → Prop) (pb : Nat) (m : List UInt8) (S : List St) (i g : Nat) (y : Except (Nat × Nat) (Tr × Nat × Nat)) (w : World) (e : Ending) (w' : World) : Prop :=
  KeptX F pb w w' ∧ if g = 9 then e = faulted 2 i else match y with
    | .error x => e = faulted x.1 x.2
    | .ok x => if isAt m x.2.1 41 then e = .returned (.bool (nothing x.1)) ∧ parserAt w' F pb m (x.2.1 + 1) (rowsSteps (S ++ [.mark (2 * g)]) x.1 ++ [.mark (2 * g + 1)]) x.2.2 else e = faulted 1 x.2.1
set_option maxRecDepth 20000 in
set_option maxHeartbeats 4000000 in
theorem group_any {m : List UInt8} {f : Nat} (hf : RowsOK m f) (w : World) (F : Nat → Prop) (pb i g : Nat) (S : List St) (y : Except (Nat × Nat) (Tr × Nat × Nat)) (hp : parserAt w F pb m i S g) (hi : i < m.length) (hg : g ≤ 9) (hS : S.length + 8 * (m.length - i) ≤ 100002) (hm : m.length ≤ 10000)
    (hy : g ≠ 9 → pM m f true (i + 1) (g + 1) = some y) : Calls Tryz.prog 164 #[.pointer (some ⟨pb, 0, none⟩)] w (groupPost F pb m S i g y w) := by
  have HF := hide hf
  have HY := hide hy
  obtain ⟨hpb, hB, ao, cp, hblk⟩ := hp.cells
  obtain ⟨c0, c1, c2, c3⟩ := four_cells hblk
  obtain ⟨z0, z1, z2, z3⟩ := four_free hblk
  have HP := hide hp
  have HBK := hide hblk
  clear hf hy hp hblk
  by_cases h9 : g = 9
  · have h9' : ((g : Int) == 9) = true := by rw [beq_iff_eq]; omega
    have H9 := hide h9
    clear h9
    go_enter Tryz.func164, Tryz.ntmps164
    go_wp2_with fail
    refine (giveUp_any w F pb m i g S 2 HP.out).mono ?_
    rintro e w1 ⟨rfl, rfl⟩
    exact ⟨rfl, .refl _ _ _, by rw [if_pos H9.out]⟩
  · have h9' : ((g : Int) == 9) = false := by rw [beq_eq_false_iff_ne]; omega
    have H9 := hide h9
    have hg8 : g ≤ 8 := by omega
    obtain ⟨W1, HW1⟩ : ∃ W1, Hid (W1 = w.setCell ⟨pb, 1, none⟩ (.int .i64 ((i : Int) + 1))) := ⟨_, hide rfl⟩
    have hb1 : W1.heap[pb]? = some (.cells #[.string (bs m), .int .i64 ((i : Int) + 1), .slice ao S.length cp, .int .i64 (g : Int)] 143 (0, 0)) := by rw [HW1.out, set_blk HBK.out]; simp
    have HP1 : Hid (parserAt W1 F pb m (i + 1) S g) := by rw [HW1.out]; exact hide (HP.out.on _ (by simp))
    obtain ⟨d0, d1, d2, d3⟩ := four_cells hb1
    obtain ⟨y0, y1, y2, y3⟩ := four_free hb1
    obtain ⟨W2, HW2⟩ : ∃ W2, Hid (W2 = W1.setCell ⟨pb, 3, none⟩ (.int .i64 ((g : Int) + 1))) := ⟨_, hide rfl⟩
    have HP2 : Hid (parserAt W2 F pb m (i + 1) S (g + 1)) := by
      rw [HW2.out]
      obtain ⟨sv, rs, h, e⟩ := HP1.out
      exact hide ⟨sv, rs, h.put (by simp), e⟩
    have HK2 : Hid (KeptX F pb w W2) := by rw [HW2.out, HW1.out]; exact hide (((KeptX.refl _ _ _).setAt _ _).setAt _ _)
    have hwr : IntKind.i64.wrap ((i : Int) + 1) = (i : Int) + 1 := wrap_i64_small _ (by omega) (by omega)
    have hwr2 : IntKind.i64.wrap ((g : Int) + 1) = (g : Int) + 1 := wrap_i64_small _ (by omega) (by omega)
    have hwr3 : IntKind.i64.wrap (2 * (g : Int)) = 2 * (g : Int) := wrap_i64_small _ (by omega) (by omega)
    have eW1 := HW1.out.symm
    have eW2 := HW2.out.symm
    clear hb1 h9
    go_enter Tryz.func164, Tryz.ntmps164
    go_wp2_with fail
    clear eW1 eW2 c0 c1 c2 c3 d0 d1 d2 d3
    refine (add_any W2 F pb m (i + 1) (g + 1) S ⟨.mark (2 * g), 0, 0, 0, 0, 2 * (g : Int), .slice none 0 0⟩ HP2.out rfl (fun w => ⟨World.ownsRow_nil _ _ _ _, by show 2 * (g : Int) = ((2 * g : Nat) : Int); omega⟩) (by omega)).mono ?_
    rintro e w3 ⟨rfl, hk3, hp3⟩
    have HK3 := hide (HK2.out.trans hk3)
    have HP3 : Hid (parserAt w3 F pb m (i + 1) (S ++ [.mark (2 * g)]) (g + 1)) := hide hp3
    clear hk3 hp3
    go_wp2_with fail
    refine (HF.out w3 F pb (i + 1) (g + 1) _ y HP3.out (by omega) (by omega) (by rw [List.length_append]; simp; omega) (HY.out H9.out)).mono ?_
    rintro e w4 ⟨hk4, hy4⟩
    have HK4 := hide (HK3.out.trans hk4)
    match y, hy4, HY with
    | .error x, hy4, HY =>
      simp only at hy4
      subst hy4
      exact ⟨rfl, HK4.out, by rw [if_neg H9.out]⟩
    | .ok x, hy4, HY =>
      obtain ⟨T, j, h⟩ := x
      simp only at hy4
      obtain ⟨rfl, hp4⟩ := hy4
      have HP4 := hide hp4
      have hj := (pM_ok (HY.out H9.out) (by omega)).2
      have hszT := pM_sz (HY.out H9.out) (by omega)
      simp at hj hszT
      clear hp4 hk4
      go_wp2_with fail
      refine (skip_any w4 F pb m [41] j h _ HP4.out (by omega) hj).mono ?_
      rintro e w5 ⟨rfl, hk5, hp5⟩
      rw [comesB_nat _ _ 41 41 rfl] at hp5 ⊢
      have HK5 := hide (HK4.out.trans (keptX_two hk5 HP4.out.room))
      cases hd : isAt m j 41 with
      | false =>
        rw [hd] at hp5
        have HP5 : Hid (parserAt w5 F pb m j _ h) := hide hp5
        have HD := hide hd
        clear hd hp5 hk5
        go_wp2_with fail
        refine (giveUp_any w5 F pb m j h _ 1 HP5.out).mono ?_
        rintro e w6 ⟨rfl, rfl⟩
        exact ⟨rfl, HK5.out, by rw [if_neg H9.out]; simp only; rw [HD.out]; simp⟩
      | true =>
        rw [hd] at hp5
        have HP5 : Hid (parserAt w5 F pb m (j + 1) _ h) := hide hp5
        have HD := hide hd
        have hwr4 : IntKind.i64.wrap (2 * (g : Int) + 1) = 2 * (g : Int) + 1 := wrap_i64_small _ (by omega) (by omega)
        clear hd hp5 hk5
        go_wp2_with fail
        refine (add_any w5 F pb m (j + 1) h _ ⟨.mark (2 * g + 1), 0, 0, 0, 0, 2 * (g : Int) + 1, .slice none 0 0⟩ HP5.out rfl (fun w => ⟨World.ownsRow_nil _ _ _ _, by show 2 * (g : Int) + 1 = ((2 * g + 1 : Nat) : Int); omega⟩) (by rw [rowsSteps_length, List.length_append]; simp; omega)).mono ?_
        rintro e w6 ⟨rfl, hk6, hp6⟩
        have HP6 := hide hp6
        clear hp6
        go_wp2
        go_ret
        exact ⟨HK5.out.trans hk6, by rw [if_neg H9.out]; simp only; rw [HD.out]; exact ⟨rfl, HP6.out⟩⟩
/-- What an atom that is no group does. -/
def atomPost (F : Nat → Prop) (pb : Nat) (m : List UInt8) (S : List St) (g : Nat) (y : Except (Nat × Nat) ((UInt8 → Bool) × Nat)) (w : World) (e : Ending) (w' : World) : Prop :=
  KeptX F pb w w' ∧ match y with
    | .error x => e = faulted x.1 x.2
    | .ok x => e = .returned (.bool false) ∧ parserAt w' F pb m x.2 (S ++ [.take x.1]) g
theorem beq_no {a : Int} {b : Int} (h : ¬ a = b) : (a == b) = false := by simpa using h
theorem beq_yes {a : Int} {b : Int} (h : a = b) : (a == b) = true := by simpa using h
theorem span_whole : between 0 255 = fun _ => true := by
  funext c
  have := c.toNat_lt
  simp [between]
  omega
set_option maxRecDepth 20000 in
set_option maxHeartbeats 8000000 in
theorem atom_set (w : World) (F : Nat → Prop) (pb i g : Nat) (m : List UInt8) (S : List St) (c : UInt8) (y : Except (Nat × Nat) ((UInt8 → Bool) × Nat)) (hp : parserAt w F pb m i S g) (hc : m[i]? = some c) (hS : S.length ≤ 1000000) (hm : m.length ≤ 10000)
    (h40 : c.toNat ≠ 40) (hy : pSet m i c = some y) : Calls Tryz.prog 161 #[.pointer (some ⟨pb, 0, none⟩)] w (atomPost F pb m S g y w) := by
  have hi := get_lt hc
  have hcl := c.toNat_lt
  have hmi : m[i] = c := by rw [List.getElem?_eq_getElem hi] at hc; exact Option.some.inj hc
  obtain ⟨hpb, hB, ao, cp, hblk⟩ := hp.cells
  obtain ⟨c0, c1, c2, c3⟩ := four_cells hblk
  have hi2 : (i : Int) < m.length := by omega
  have HC := hide hc
  have HBL : Hid (∀ n, (w.drewN n).heap[pb]? = some (.cells #[.string (bs m), .int .i64 (i : Int), .slice ao S.length cp, .int .i64 (g : Int)] 143 (0, 0))) := hide fun n => hblk
  have HP : Hid (∀ n, parserAt (w.drewN n) F pb m i S g) := hide fun n => hp
  have HY := hide hy
  have b40 := beq_no (a := (c.toNat : Int)) (b := 40) (by omega)
  clear hp hblk hc h40 hy
  by_cases h91 : (c.toNat : Int) = 91
  · have b91 := beq_yes (a := (c.toNat : Int)) (b := 91) (by omega)
    have HQ : Hid (pSet m i c = pBrackets m (i + 1)) := by show _ = _; unfold pSet; rw [if_pos (by omega)]
    clear h91
    go_enter Tryz.func161, Tryz.ntmps161
    go_wp2_with fail
    go_quiet (fail)
    obtain ⟨W0, HW0⟩ : ∃ W0, Hid (W0 = w.drewN nq) := ⟨_, hide rfl⟩
    rw [← HW0.out]
    have HP0 : Hid (parserAt W0 F pb m i S g) := by rw [HW0.out]; exact hide (HP.out nq)
    have HK0 : Hid (Kept2 pb pb w W0) := by rw [HW0.out]; exact hide (Kept2.drewN (.refl _ _ _))
    have hblk0 : W0.heap[pb]? = some (.cells #[.string (bs m), .int .i64 (i : Int), .slice ao S.length cp, .int .i64 (g : Int)] 143 (0, 0)) := by rw [HW0.out]; exact HBL.out nq
    obtain ⟨d0, d1, d2, d3⟩ := four_cells hblk0
    obtain ⟨z0, z1, z2, z3⟩ := four_free hblk0
    have HBK := hide hblk0
    clear hblk0
    go_wp2_with fail
    refine (brackets_any W0 F pb m i g S HP0.out (by omega) hi).mono ?_
    rintro e w1 ⟨hk1, (⟨s, j, v, hq, rfl, hv, hp1⟩ | ⟨er, a, hq, rfl⟩)⟩
    · have HE : Hid (y = .ok (s, j)) := by show _ = _; have h := HY.out; rw [HQ.out, hq] at h; exact (Option.some.inj h).symm
      have HK1 := hide (HK0.out.trans hk1)
      have HP1 := hide hp1
      clear hk1 hp1 hq
      go_wp2_with fail
      refine (take_any w1 F pb m j g S v s HP1.out hv hS).mono ?_
      rintro e w2 ⟨rfl, hk2, hp2⟩
      go_wp2
      go_ret
      rw [HE.out]
      exact ⟨(keptX_two HK1.out hB).trans hk2, rfl, hp2⟩
    · have HE : Hid (y = .error (er, a)) := by show _ = _; have h := HY.out; rw [HQ.out, hq] at h; exact (Option.some.inj h).symm
      rw [HE.out]
      exact ⟨rfl, keptX_two (HK0.out.trans hk1) hB, rfl⟩
  · by_cases h46 : (c.toNat : Int) = 46
    · have b91 := beq_no (a := (c.toNat : Int)) (b := 91) (by omega)
      have b46 := beq_yes (a := (c.toNat : Int)) (b := 46) (by omega)
      have HE : Hid (y = .ok (fun _ => true, i + 1)) := by show _ = _; have h := HY.out; unfold pSet at h; rw [if_neg (by omega), if_pos (by omega)] at h; exact (Option.some.inj h).symm
      clear h91 h46
      go_enter Tryz.func161, Tryz.ntmps161
      go_wp2_with fail
      go_quiet (fail)
      obtain ⟨W0, HW0⟩ : ∃ W0, Hid (W0 = w.drewN nq) := ⟨_, hide rfl⟩
      rw [← HW0.out]
      have HP0 : Hid (parserAt W0 F pb m i S g) := by rw [HW0.out]; exact hide (HP.out nq)
      have HK0 : Hid (Kept2 pb pb w W0) := by rw [HW0.out]; exact hide (Kept2.drewN (.refl _ _ _))
      have hblk0 : W0.heap[pb]? = some (.cells #[.string (bs m), .int .i64 (i : Int), .slice ao S.length cp, .int .i64 (g : Int)] 143 (0, 0)) := by rw [HW0.out]; exact HBL.out nq
      obtain ⟨d0, d1, d2, d3⟩ := four_cells hblk0
      obtain ⟨z0, z1, z2, z3⟩ := four_free hblk0
      have HBK := hide hblk0
      clear hblk0
      obtain ⟨W1, HW1⟩ : ∃ W1, Hid (W1 = W0.setCell ⟨pb, 1, none⟩ (.int .i64 ((i : Int) + 1))) := ⟨_, hide rfl⟩
      have HP1 : Hid (parserAt W1 F pb m (i + 1) S g) := by rw [HW1.out]; exact hide (HP0.out.on _ (by simp))
      have HK1 : Hid (Kept2 pb pb w W1) := by rw [HW1.out]; exact hide (HK0.out.trans (.setT _ _))
      have hwr : IntKind.i64.wrap ((i : Int) + 1) = (i : Int) + 1 := wrap_i64_small _ (by omega) (by omega)
      have eW1 := HW1.out.symm
      go_wp2_with fail
      clear eW1
      refine (span_any 0 255 W1 (by decide)).mono ?_
      rintro e w2 ⟨v, rfl, hv, hg2⟩
      rw [span_whole] at hv
      have HP2 := hide (HP1.out.grow hg2)
      have HK2 := hide (HK1.out.trans (.grow hg2))
      clear hg2
      go_wp2_with fail
      refine (take_any w2 F pb m (i + 1) g S v _ HP2.out hv hS).mono ?_
      rintro e w3 ⟨rfl, hk3, hp3⟩
      go_wp2
      go_ret
      rw [HE.out]
      exact ⟨(keptX_two HK2.out hB).trans hk3, rfl, hp3⟩
    · by_cases h92 : (c.toNat : Int) = 92
      · have b91 := beq_no (a := (c.toNat : Int)) (b := 91) (by omega)
        have b46 := beq_no (a := (c.toNat : Int)) (b := 46) (by omega)
        have b92 := beq_yes (a := (c.toNat : Int)) (b := 92) (by omega)
        have HQ : Hid (pSet m i c = pEsc m (i + 1)) := by show _ = _; unfold pSet pEsc; rw [if_neg (by omega), if_neg (by omega), if_pos (by omega)]; rfl
        clear h91 h46 h92
        go_enter Tryz.func161, Tryz.ntmps161
        go_wp2_with fail
        go_quiet (fail)
        obtain ⟨W0, HW0⟩ : ∃ W0, Hid (W0 = w.drewN nq) := ⟨_, hide rfl⟩
        rw [← HW0.out]
        have HP0 : Hid (parserAt W0 F pb m i S g) := by rw [HW0.out]; exact hide (HP.out nq)
        have HK0 : Hid (Kept2 pb pb w W0) := by rw [HW0.out]; exact hide (Kept2.drewN (.refl _ _ _))
        have hblk0 : W0.heap[pb]? = some (.cells #[.string (bs m), .int .i64 (i : Int), .slice ao S.length cp, .int .i64 (g : Int)] 143 (0, 0)) := by rw [HW0.out]; exact HBL.out nq
        obtain ⟨d0, d1, d2, d3⟩ := four_cells hblk0
        obtain ⟨z0, z1, z2, z3⟩ := four_free hblk0
        have HBK := hide hblk0
        clear hblk0
        obtain ⟨W1, HW1⟩ : ∃ W1, Hid (W1 = W0.setCell ⟨pb, 1, none⟩ (.int .i64 ((i : Int) + 1))) := ⟨_, hide rfl⟩
        have HP1 : Hid (parserAt W1 F pb m (i + 1) S g) := by rw [HW1.out]; exact hide (HP0.out.on _ (by simp))
        have HK1 : Hid (Kept2 pb pb w W1) := by rw [HW1.out]; exact hide (HK0.out.trans (.setT _ _))
        have hwr : IntKind.i64.wrap ((i : Int) + 1) = (i : Int) + 1 := wrap_i64_small _ (by omega) (by omega)
        have eW1 := HW1.out.symm
        go_wp2_with fail
        clear eW1
        refine (escaped_any W1 F pb m (i + 1) g S HP1.out (by omega) hi).mono ?_
        rintro e w2 ⟨hk2, (⟨s, j, v, hq, rfl, hv, hp2⟩ | ⟨er, a, hq, rfl⟩)⟩
        · have HE : Hid (y = .ok (s, j)) := by show _ = _; have h := HY.out; rw [HQ.out, hq] at h; exact (Option.some.inj h).symm
          have HK2 := hide (HK1.out.trans hk2)
          have HP2 := hide hp2
          clear hk2 hp2 hq
          go_wp2_with fail
          refine (take_any w2 F pb m j g S v s HP2.out hv hS).mono ?_
          rintro e w3 ⟨rfl, hk3, hp3⟩
          go_wp2
          go_ret
          rw [HE.out]
          exact ⟨(keptX_two HK2.out hB).trans hk3, rfl, hp3⟩
        · have HE : Hid (y = .error (er, a)) := by show _ = _; have h := HY.out; rw [HQ.out, hq] at h; exact (Option.some.inj h).symm
          rw [HE.out]
          exact ⟨rfl, keptX_two (HK1.out.trans hk2) hB, rfl⟩
      · by_cases h42 : (c.toNat : Int) = 42
        · have b91 := beq_no (a := (c.toNat : Int)) (b := 91) (by omega)
          have b46 := beq_no (a := (c.toNat : Int)) (b := 46) (by omega)
          have b92 := beq_no (a := (c.toNat : Int)) (b := 92) (by omega)
          have b42 := beq_yes (a := (c.toNat : Int)) (b := 42) (by omega)
          have HE : Hid (y = .error (1, i)) := by show _ = _; have h := HY.out; unfold pSet at h; rw [if_neg (by omega), if_neg (by omega), if_neg (by omega), if_pos (by unfold isSign; simp; omega)] at h; exact (Option.some.inj h).symm
          clear h91 h46 h92 h42
          go_enter Tryz.func161, Tryz.ntmps161
          go_wp2_with fail
          go_quiet (fail)
          obtain ⟨W0, HW0⟩ : ∃ W0, Hid (W0 = w.drewN nq) := ⟨_, hide rfl⟩
          rw [← HW0.out]
          have HP0 : Hid (parserAt W0 F pb m i S g) := by rw [HW0.out]; exact hide (HP.out nq)
          have HK0 : Hid (Kept2 pb pb w W0) := by rw [HW0.out]; exact hide (Kept2.drewN (.refl _ _ _))
          have hblk0 : W0.heap[pb]? = some (.cells #[.string (bs m), .int .i64 (i : Int), .slice ao S.length cp, .int .i64 (g : Int)] 143 (0, 0)) := by rw [HW0.out]; exact HBL.out nq
          obtain ⟨d0, d1, d2, d3⟩ := four_cells hblk0
          obtain ⟨z0, z1, z2, z3⟩ := four_free hblk0
          have HBK := hide hblk0
          clear hblk0
          go_wp2_with fail
          refine (giveUp_any W0 F pb m i g S 1 HP0.out).mono ?_
          rintro e w1 ⟨rfl, rfl⟩
          rw [HE.out]
          exact ⟨rfl, keptX_two HK0.out hB, rfl⟩
        · by_cases h43 : (c.toNat : Int) = 43
          · have b91 := beq_no (a := (c.toNat : Int)) (b := 91) (by omega)
            have b46 := beq_no (a := (c.toNat : Int)) (b := 46) (by omega)
            have b92 := beq_no (a := (c.toNat : Int)) (b := 92) (by omega)
            have b42 := beq_no (a := (c.toNat : Int)) (b := 42) (by omega)
            have b43 := beq_yes (a := (c.toNat : Int)) (b := 43) (by omega)
            have HE : Hid (y = .error (1, i)) := by show _ = _; have h := HY.out; unfold pSet at h; rw [if_neg (by omega), if_neg (by omega), if_neg (by omega), if_pos (by unfold isSign; simp; omega)] at h; exact (Option.some.inj h).symm
            clear h91 h46 h92 h42 h43
            go_enter Tryz.func161, Tryz.ntmps161
            go_wp2_with fail
            go_quiet (fail)
            obtain ⟨W0, HW0⟩ : ∃ W0, Hid (W0 = w.drewN nq) := ⟨_, hide rfl⟩
            rw [← HW0.out]
            have HP0 : Hid (parserAt W0 F pb m i S g) := by rw [HW0.out]; exact hide (HP.out nq)
            have HK0 : Hid (Kept2 pb pb w W0) := by rw [HW0.out]; exact hide (Kept2.drewN (.refl _ _ _))
            have hblk0 : W0.heap[pb]? = some (.cells #[.string (bs m), .int .i64 (i : Int), .slice ao S.length cp, .int .i64 (g : Int)] 143 (0, 0)) := by rw [HW0.out]; exact HBL.out nq
            obtain ⟨d0, d1, d2, d3⟩ := four_cells hblk0
            obtain ⟨z0, z1, z2, z3⟩ := four_free hblk0
            have HBK := hide hblk0
            clear hblk0
            go_wp2_with fail
            refine (giveUp_any W0 F pb m i g S 1 HP0.out).mono ?_
            rintro e w1 ⟨rfl, rfl⟩
            rw [HE.out]
            exact ⟨rfl, keptX_two HK0.out hB, rfl⟩
          · by_cases h63 : (c.toNat : Int) = 63
            · have b91 := beq_no (a := (c.toNat : Int)) (b := 91) (by omega)
              have b46 := beq_no (a := (c.toNat : Int)) (b := 46) (by omega)
              have b92 := beq_no (a := (c.toNat : Int)) (b := 92) (by omega)
              have b42 := beq_no (a := (c.toNat : Int)) (b := 42) (by omega)
              have b43 := beq_no (a := (c.toNat : Int)) (b := 43) (by omega)
              have b63 := beq_yes (a := (c.toNat : Int)) (b := 63) (by omega)
              have HE : Hid (y = .error (1, i)) := by show _ = _; have h := HY.out; unfold pSet at h; rw [if_neg (by omega), if_neg (by omega), if_neg (by omega), if_pos (by unfold isSign; simp; omega)] at h; exact (Option.some.inj h).symm
              clear h91 h46 h92 h42 h43 h63
              go_enter Tryz.func161, Tryz.ntmps161
              go_wp2_with fail
              go_quiet (fail)
              obtain ⟨W0, HW0⟩ : ∃ W0, Hid (W0 = w.drewN nq) := ⟨_, hide rfl⟩
              rw [← HW0.out]
              have HP0 : Hid (parserAt W0 F pb m i S g) := by rw [HW0.out]; exact hide (HP.out nq)
              have HK0 : Hid (Kept2 pb pb w W0) := by rw [HW0.out]; exact hide (Kept2.drewN (.refl _ _ _))
              have hblk0 : W0.heap[pb]? = some (.cells #[.string (bs m), .int .i64 (i : Int), .slice ao S.length cp, .int .i64 (g : Int)] 143 (0, 0)) := by rw [HW0.out]; exact HBL.out nq
              obtain ⟨d0, d1, d2, d3⟩ := four_cells hblk0
              obtain ⟨z0, z1, z2, z3⟩ := four_free hblk0
              have HBK := hide hblk0
              clear hblk0
              go_wp2_with fail
              refine (giveUp_any W0 F pb m i g S 1 HP0.out).mono ?_
              rintro e w1 ⟨rfl, rfl⟩
              rw [HE.out]
              exact ⟨rfl, keptX_two HK0.out hB, rfl⟩
            · by_cases h93 : (c.toNat : Int) = 93
              · have b91 := beq_no (a := (c.toNat : Int)) (b := 91) (by omega)
                have b46 := beq_no (a := (c.toNat : Int)) (b := 46) (by omega)
                have b92 := beq_no (a := (c.toNat : Int)) (b := 92) (by omega)
                have b42 := beq_no (a := (c.toNat : Int)) (b := 42) (by omega)
                have b43 := beq_no (a := (c.toNat : Int)) (b := 43) (by omega)
                have b63 := beq_no (a := (c.toNat : Int)) (b := 63) (by omega)
                have b93 := beq_yes (a := (c.toNat : Int)) (b := 93) (by omega)
                have HE : Hid (y = .error (1, i)) := by show _ = _; have h := HY.out; unfold pSet at h; rw [if_neg (by omega), if_neg (by omega), if_neg (by omega), if_pos (by unfold isSign; simp; omega)] at h; exact (Option.some.inj h).symm
                clear h91 h46 h92 h42 h43 h63 h93
                go_enter Tryz.func161, Tryz.ntmps161
                go_wp2_with fail
                go_quiet (fail)
                obtain ⟨W0, HW0⟩ : ∃ W0, Hid (W0 = w.drewN nq) := ⟨_, hide rfl⟩
                rw [← HW0.out]
                have HP0 : Hid (parserAt W0 F pb m i S g) := by rw [HW0.out]; exact hide (HP.out nq)
                have HK0 : Hid (Kept2 pb pb w W0) := by rw [HW0.out]; exact hide (Kept2.drewN (.refl _ _ _))
                have hblk0 : W0.heap[pb]? = some (.cells #[.string (bs m), .int .i64 (i : Int), .slice ao S.length cp, .int .i64 (g : Int)] 143 (0, 0)) := by rw [HW0.out]; exact HBL.out nq
                obtain ⟨d0, d1, d2, d3⟩ := four_cells hblk0
                obtain ⟨z0, z1, z2, z3⟩ := four_free hblk0
                have HBK := hide hblk0
                clear hblk0
                go_wp2_with fail
                refine (giveUp_any W0 F pb m i g S 1 HP0.out).mono ?_
                rintro e w1 ⟨rfl, rfl⟩
                rw [HE.out]
                exact ⟨rfl, keptX_two HK0.out hB, rfl⟩
              · have b91 := beq_no (a := (c.toNat : Int)) (b := 91) (by omega)
                have b46 := beq_no (a := (c.toNat : Int)) (b := 46) (by omega)
                have b92 := beq_no (a := (c.toNat : Int)) (b := 92) (by omega)
                have b42 := beq_no (a := (c.toNat : Int)) (b := 42) (by omega)
                have b43 := beq_no (a := (c.toNat : Int)) (b := 43) (by omega)
                have b63 := beq_no (a := (c.toNat : Int)) (b := 63) (by omega)
                have b93 := beq_no (a := (c.toNat : Int)) (b := 93) (by omega)
                have HE : Hid (y = .ok (between c c, i + 1)) := by show _ = _; have h := HY.out; unfold pSet at h; rw [if_neg (by omega), if_neg (by omega), if_neg (by omega), if_neg (by unfold isSign; simp; omega)] at h; exact (Option.some.inj h).symm
                clear h91 h46 h92 h42 h43 h63 h93
                go_enter Tryz.func161, Tryz.ntmps161
                go_wp2_with fail
                go_quiet (fail)
                obtain ⟨W0, HW0⟩ : ∃ W0, Hid (W0 = w.drewN nq) := ⟨_, hide rfl⟩
                rw [← HW0.out]
                have HP0 : Hid (parserAt W0 F pb m i S g) := by rw [HW0.out]; exact hide (HP.out nq)
                have HK0 : Hid (Kept2 pb pb w W0) := by rw [HW0.out]; exact hide (Kept2.drewN (.refl _ _ _))
                have hblk0 : W0.heap[pb]? = some (.cells #[.string (bs m), .int .i64 (i : Int), .slice ao S.length cp, .int .i64 (g : Int)] 143 (0, 0)) := by rw [HW0.out]; exact HBL.out nq
                obtain ⟨d0, d1, d2, d3⟩ := four_cells hblk0
                obtain ⟨z0, z1, z2, z3⟩ := four_free hblk0
                have HBK := hide hblk0
                clear hblk0
                obtain ⟨W1, HW1⟩ : ∃ W1, Hid (W1 = W0.setCell ⟨pb, 1, none⟩ (.int .i64 ((i : Int) + 1))) := ⟨_, hide rfl⟩
                have HP1 : Hid (parserAt W1 F pb m (i + 1) S g) := by rw [HW1.out]; exact hide (HP0.out.on _ (by simp))
                have HK1 : Hid (Kept2 pb pb w W1) := by rw [HW1.out]; exact hide (HK0.out.trans (.setT _ _))
                have hwr : IntKind.i64.wrap ((i : Int) + 1) = (i : Int) + 1 := wrap_i64_small _ (by omega) (by omega)
                have eW1 := HW1.out.symm
                go_wp2_with fail
                clear eW1
                refine (span_any c c W1 (Nat.le_refl _)).mono ?_
                rintro e w2 ⟨v, rfl, hv, hg2⟩
                have HP2 := hide (HP1.out.grow hg2)
                have HK2 := hide (HK1.out.trans (.grow hg2))
                clear hg2
                go_wp2_with fail
                refine (take_any w2 F pb m (i + 1) g S v _ HP2.out hv hS).mono ?_
                rintro e w3 ⟨rfl, hk3, hp3⟩
                go_wp2
                go_ret
                rw [HE.out]
                exact ⟨(keptX_two HK2.out hB).trans hk3, rfl, hp3⟩
set_option maxRecDepth 20000 in
set_option maxHeartbeats 4000000 in
theorem atom_group {m : List UInt8} {f : Nat} (hf : RowsOK m f) (w : World) (F : Nat → Prop) (pb i g : Nat) (S : List St) (c : UInt8) (y : Except (Nat × Nat) (Tr × Nat × Nat)) (hp : parserAt w F pb m i S g) (hc : m[i]? = some c) (h40 : c.toNat = 40) (hg : g ≤ 9) (hS : S.length + 8 * (m.length - i) ≤ 100002) (hm : m.length ≤ 10000)
    (hy : g ≠ 9 → pM m f true (i + 1) (g + 1) = some y) : Calls Tryz.prog 161 #[.pointer (some ⟨pb, 0, none⟩)] w (groupPost F pb m S i g y w) := by
  have hi := get_lt hc
  have hcl := c.toNat_lt
  have hmi : m[i] = c := by rw [List.getElem?_eq_getElem hi] at hc; exact Option.some.inj hc
  obtain ⟨hpb, hB, ao, cp, hblk⟩ := hp.cells
  obtain ⟨c0, c1, c2, c3⟩ := four_cells hblk
  have hi2 : (i : Int) < m.length := by omega
  have HP : Hid (∀ n, parserAt (w.drewN n) F pb m i S g) := hide fun n => hp
  have HY := hide hy
  have HF := hide hf
  have b40 := beq_yes (a := (c.toNat : Int)) (b := 40) (by omega)
  clear hp hblk hc h40 hy hf
  go_enter Tryz.func161, Tryz.ntmps161
  go_wp2_with fail
  go_quiet (fail)
  go_wp2_with fail
  refine (group_any HF.out (w.drewN nq) F pb i g S y (HP.out nq) hi hg hS hm HY.out).mono ?_
  rintro e w1 ⟨hk1, h1⟩
  have hk : KeptX F pb w w1 := ⟨hk1.os, hk1.tape, hk1.output, hk1.size, hk1.block⟩
  have HK := hide hk
  clear hk hk1
  unfold groupPost at *
  by_cases h9 : g = 9
  · rw [if_pos h9] at h1
    subst h1
    exact ⟨rfl, HK.out, by rw [if_pos h9]⟩
  · rw [if_neg h9] at h1
    match y, h1, HY with
    | .error x, h1, HY =>
      simp only at h1
      subst h1
      exact ⟨rfl, HK.out, by rw [if_neg h9]⟩
    | .ok x, h1, HY =>
      simp only at h1
      cases hd : isAt m x.2.1 41 with
      | false =>
        rw [hd] at h1
        simp only [Bool.false_eq_true, if_false] at h1
        subst h1
        exact ⟨rfl, HK.out, by rw [if_neg h9]; simp only; rw [hd]; simp⟩
      | true =>
        rw [hd] at h1
        simp only [if_true] at h1
        obtain ⟨rfl, h2⟩ := h1
        have H2 := hide h2
        have HD := hide hd
        clear h2 hd
        go_wp2
        go_ret
        exact ⟨HK.out, rfl, H2.out⟩
/-- What an atom lays out at a place, whether it may take nothing, where it ends, how many groups there are then. -/
def atomOut (m : List UInt8) (f i g b : Nat) (c : UInt8) : Out (List St × Bool × Nat × Nat) :=
  if c.toNat = 40 then
    if g = 9 then some (.error (2, i))
    else bindO (pM m f true (i + 1) (g + 1)) fun x =>
      if isAt m x.2.1 41 then some (.ok (.mark (2 * g) :: .fork (starts x.1 (b + 2)) :: (comp x.1 (b + 2) (b + 2 + sz x.1) ++ [.mark (2 * g + 1)]), nothing x.1, x.2.1 + 1, x.2.2)) else some (.error (1, x.2.1))
  else bindO (pSet m i c) fun x => some (.ok ([.take x.1], false, x.2, g))
/-- Likewise a piece. -/
def pieceOut (m : List UInt8) (f i g b : Nat) (c : UInt8) : Out (List St × Bool × Nat × Nat) :=
  bindO (atomOut m f i g (b + 1) c) fun x => bindO (pSign m x.2.1 x.2.2.1) fun s => some (.ok (pieceC b s.1 x.1, x.2.1 || passed s.1, s.2, x.2.2.2))
def outPost (F : Nat → Prop) (pb : Nat) (m : List UInt8) (S : List St) (y : Except (Nat × Nat) (List St × Bool × Nat × Nat)) (w : World) (e : Ending) (w' : World) : Prop :=
  KeptX F pb w w' ∧ match y with
    | .error x => e = faulted x.1 x.2
    | .ok x => e = .returned (.bool x.2.1) ∧ parserAt w' F pb m x.2.2.1 (S ++ x.1) x.2.2.2
theorem atomOut_ok {m : List UInt8} {f i g b : Nat} {c : UInt8} {x} (hc : m[i]? = some c) (h : atomOut m f i g b c = some (.ok x)) : i < x.2.2.1 ∧ x.2.2.1 ≤ m.length ∧ x.1.length + 5 * i ≤ 5 * x.2.2.1 := by
  have li := get_lt hc
  unfold atomOut at h
  split at h
  · split at h
    · cases h
    · rcases bindO_eq h with ⟨_, _, e⟩ | ⟨y, hy, h⟩
      · cases e
      have h1 := pM_ok hy (by omega)
      have h2 := pM_sz hy (by omega)
      split at h
      · rename_i e
        have := isAt_lt e
        cases h
        simp [comp_length] at h2 ⊢
        omega
      · cases h
  · rcases bindO_eq h with ⟨_, _, e⟩ | ⟨y, hy, h⟩
    · cases e
    have h1 := pSet_ok hc hy
    cases h
    simp
    omega
theorem atom_any {m : List UInt8} {f : Nat} (hf : RowsOK m f) (w : World) (F : Nat → Prop) (pb i g : Nat) (S : List St) (c : UInt8) (y : Except (Nat × Nat) (List St × Bool × Nat × Nat)) (hp : parserAt w F pb m i S g) (hc : m[i]? = some c) (hg : g ≤ 9) (hS : S.length + 8 * (m.length - i) ≤ 100002) (hm : m.length ≤ 10000)
    (hy : atomOut m f i g S.length c = some y) : Calls Tryz.prog 161 #[.pointer (some ⟨pb, 0, none⟩)] w (outPost F pb m S y w) := by
  unfold atomOut at hy
  by_cases h40 : c.toNat = 40
  · rw [if_pos h40] at hy
    by_cases h9 : g = 9
    · rw [if_pos h9] at hy
      obtain rfl := Option.some.inj hy
      refine (atom_group hf w F pb i g S c (.error (0, 0)) hp hc h40 hg hS hm (fun h => absurd h9 h)).mono ?_
      rintro e w' ⟨h1, h2⟩
      rw [if_pos h9] at h2
      exact ⟨h1, h2⟩
    · rw [if_neg h9] at hy
      rcases bindO_eq hy with ⟨x, hx, e⟩ | ⟨x, hx, hy⟩
      · obtain rfl := e
        refine (atom_group hf w F pb i g S c (.error x) hp hc h40 hg hS hm (fun _ => hx)).mono ?_
        rintro e w' ⟨h1, h2⟩
        rw [if_neg h9] at h2
        exact ⟨h1, h2⟩
      · refine (atom_group hf w F pb i g S c (.ok x) hp hc h40 hg hS hm (fun _ => hx)).mono ?_
        rintro e w' ⟨h1, h2⟩
        rw [if_neg h9] at h2
        simp only at h2
        refine ⟨h1, ?_⟩
        split at hy
        · rename_i hd
          obtain rfl := Option.some.inj hy
          rw [if_pos hd] at h2
          refine ⟨h2.1, ?_⟩
          have := h2.2
          simpa [rowsSteps, List.append_assoc, Nat.add_assoc] using this
        · rename_i hd
          obtain rfl := Option.some.inj hy
          rw [if_neg hd] at h2
          exact h2
  · rw [if_neg h40] at hy
    obtain ⟨y2, hy2⟩ := pSet_some m i c
    refine (atom_set w F pb i g m S c y2 hp hc (by omega) hm h40 hy2).mono ?_
    rintro e w' ⟨h1, h2⟩
    refine ⟨h1, ?_⟩
    rw [hy2] at hy
    match y2, h2, hy with
    | .error x, h2, hy =>
      obtain rfl := Option.some.inj hy
      exact h2
    | .ok x, h2, hy =>
      obtain rfl := Option.some.inj hy
      exact h2
theorem set_at (S : List St) (x y : St) (l : List St) : (S ++ x :: l).set S.length y = S ++ y :: l := by simp
theorem get_at (S : List St) (x : St) (l : List St) : (S ++ x :: l)[S.length]? = some x := by simp
/-- The sign behind a piece, by what comes. -/
theorem sign_cases (m : List UInt8) (null : Bool) (j : Nat) :
    (comesB [42, 43] m j = true ∧ comesB [42, 63] m j = true ∧ pSign m null j = if null then some (.error (4, j)) else some (.ok (42, j + 1))) ∨
    (comesB [42, 43] m j = true ∧ comesB [42, 63] m j = false ∧ pSign m null j = if null then some (.error (4, j)) else some (.ok (43, j + 1))) ∨
    (comesB [42, 43] m j = false ∧ comesB [42, 63] m j = true ∧ pSign m null j = some (.ok (63, j + 1))) ∨
    (comesB [42, 43] m j = false ∧ comesB [42, 63] m j = false ∧ pSign m null j = some (.ok (0, j))) := by
  unfold comesB pSign
  cases hm : m[j]? with
  | none => simp
  | some c =>
    simp only [contains_nat, List.any_cons, List.any_nil, Bool.or_false, isSign, show UInt8.toNat 42 = 42 from rfl, show UInt8.toNat 43 = 43 from rfl, show UInt8.toNat 63 = 63 from rfl]
    by_cases h1 : c.toNat = 42
    · left; simp [h1]
    · by_cases h2 : c.toNat = 43
      · right; left; simp [h2]
      · by_cases h3 : c.toNat = 63
        · right; right; left; simp [h3]
        · right; right; right; simp [h1, h2, h3]
set_option maxRecDepth 20000 in
set_option maxHeartbeats 4000000 in
theorem piece_any {m : List UInt8} {f : Nat} (hf : RowsOK m f) (w : World) (F : Nat → Prop) (pb i g : Nat) (S : List St) (c : UInt8) (y : Except (Nat × Nat) (List St × Bool × Nat × Nat)) (hp : parserAt w F pb m i S g) (hc : m[i]? = some c) (hg : g ≤ 9) (hS : S.length + 8 * (m.length - i) ≤ 100001) (hm : m.length ≤ 10000)
    (hy : pieceOut m f i g S.length c = some y) : Calls Tryz.prog 155 #[.pointer (some ⟨pb, 0, none⟩)] w (outPost F pb m S y w) := by
  have hi := get_lt hc
  have HF := hide hf
  have HC := hide hc
  have HY := hide hy
  have HP := hide hp
  clear hf hc hy hp
  go_enter Tryz.func155, Tryz.ntmps155
  go_wp2_with fail
  refine (add_any w F pb m i g S ⟨.fork [], 0, 0, 0, 0, 0, .slice none 0 0⟩ HP.out rfl (fun w => ⟨World.ownsRow_nil _ _ _ _, trivial⟩) (by omega)).mono ?_
  rintro e w1 ⟨rfl, hk1, hp1⟩
  have HK1 := hide hk1
  have HP1 : Hid (parserAt w1 F pb m i (S ++ [.fork []]) g) := hide hp1
  clear hk1 hp1
  obtain ⟨_, _, ao, cp, hblk⟩ := HP1.out.cells
  rw [List.length_append] at hblk
  obtain ⟨c0, c1, c2, c3⟩ := four_cells hblk
  clear hblk c0 c1 c3
  go_wp2_with fail
  refine (way_any w1 F pb m i g S.length (S.length + 1) (S ++ [.fork []]) [] HP1.out (get_at S _ []) (by simp) (by rw [List.length_append]; simp; omega)).mono ?_
  rintro e w2 ⟨rfl, hk2, hp2⟩
  have HK2 := hide (HK1.out.trans hk2)
  have HP2 : Hid (parserAt w2 F pb m i (S ++ [.fork [S.length + 1]]) g) := by
    rw [set_at S] at hp2
    exact hide hp2
  clear hk2 hp2 c2
  go_wp2_with fail
  have hbl : (S ++ [St.fork [S.length + 1]]).length = S.length + 1 := by simp
  rcases bindO_eq HY.out with ⟨x, hx, e⟩ | ⟨x, hx, hy2⟩
  · obtain rfl := e
    refine (atom_any HF.out w2 F pb i g (S ++ [.fork [S.length + 1]]) c (.error x) HP2.out HC.out hg (by rw [hbl]; omega) hm (by rw [hbl]; exact hx)).mono ?_
    rintro e w3 ⟨hk3, rfl⟩
    exact ⟨rfl, HK2.out.trans hk3, rfl⟩
  · have hao := atomOut_ok HC.out hx
    have HX := hide hx
    clear hx
    refine (atom_any HF.out w2 F pb i g (S ++ [.fork [S.length + 1]]) c (.ok x) HP2.out HC.out hg (by rw [hbl]; omega) hm (by rw [hbl]; exact HX.out)).mono ?_
    obtain ⟨body, null, j, h⟩ := x
    rintro e w3 ⟨hk3, he, hp3⟩
    simp only at he hp3 hao hy2
    subst he
    have HK3 := hide (HK2.out.trans hk3)
    have HP3 : Hid (∀ n, parserAt (w3.drewN n) F pb m j (S ++ .fork [S.length + 1] :: body) h) := by
      rw [List.append_assoc] at hp3
      exact hide fun n => hp3
    have HY2 := hide hy2
    obtain ⟨hij, hjm, hbz⟩ := hao
    clear hk3 hp3 hy2
    go_wp2_with fail
    refine (comes_any w3 F pb m [42, 43] j h _ (HP3.out 0) (by omega) hjm).mono ?_
    rintro e w4 ⟨rfl, n4, rfl⟩
    go_wp2_with fail
    refine (comes_any (w3.drewN n4) F pb m [42, 63] j h _ (HP3.out n4) (by omega) hjm).mono ?_
    rintro e w5 ⟨rfl, n5, rfl⟩
    rw [World.drewN_drewN]
    have HP5 : Hid (parserAt (w3.drewN (n4 + n5)) F pb m j (S ++ .fork [S.length + 1] :: body) h) := hide (HP3.out _)
    have HK5 : Hid (KeptX F pb w (w3.drewN (n4 + n5))) := hide HK3.out.drawN
    obtain ⟨W5, HW5⟩ : ∃ W5, Hid (W5 = w3.drewN (n4 + n5)) := ⟨_, hide rfl⟩
    rw [← HW5.out] at HP5 HK5 ⊢
    clear HP3
    obtain ⟨S2, HS2⟩ : ∃ S2, Hid (S ++ .fork [S.length + 1] :: body = S2) := ⟨_, hide rfl⟩
    have hl2 : S2.length = S.length + 1 + body.length := by rw [← HS2.out]; simp; omega
    rw [HS2.out] at HP5
    have HL2 := hide hl2
    have hl2b : S2.length ≤ 1000000 := by omega
    clear hl2
    have hwr : IntKind.i64.wrap ((j : Int) + 1) = (j : Int) + 1 := wrap_i64_small _ (by omega) (by omega)
    rcases sign_cases m null j with ⟨ha, hpz, hs⟩ | ⟨ha, hpz, hs⟩ | ⟨ha, hpz, hs⟩ | ⟨ha, hpz, hs⟩
    · rw [ha, hpz]
      cases null with
      | true =>
        have HE : Hid (y = .error (4, j)) := by show _ = _; have h := HY2.out; rw [hs] at h; exact (Option.some.inj h).symm
        clear ha hpz hs
        go_wp2_with fail
        refine (giveUp_any W5 F pb m j h _ 4 HP5.out).mono ?_
        rintro e w6 ⟨rfl, rfl⟩
        rw [HE.out]
        exact ⟨rfl, HK5.out, rfl⟩
      | false =>
        have HE : Hid (y = .ok (pieceC S.length 42 body, true, j + 1, h)) := by show _ = _; have h := HY2.out; rw [hs] at h; exact (Option.some.inj h).symm
        have hlt := comesB_lt ha
        clear ha hpz hs
        go_wp2_with fail
        refine (add_any W5 F pb m j h S2 ⟨.fork [], 0, 0, 0, 0, 0, .slice none 0 0⟩ HP5.out rfl (fun w => ⟨World.ownsRow_nil _ _ _ _, trivial⟩) (by have := HL2.out; omega)).mono ?_
        rintro e w6 ⟨rfl, hk6, hp6⟩
        have HK6 := hide (HK5.out.trans hk6)
        have HP6 : Hid (parserAt w6 F pb m j (S2 ++ [.fork []]) h) := hide hp6
        clear hk6 hp6
        go_wp2_with fail
        refine (way_any w6 F pb m j h S2.length (S.length + 1) (S2 ++ [.fork []]) [] HP6.out (get_at S2 _ []) (by simp) (by have := HL2.out; rw [List.length_append]; simp; omega)).mono ?_
        rintro e w7 ⟨rfl, hk7, hp7⟩
        have HK7 := hide (HK6.out.trans hk7)
        have HP7 : Hid (parserAt w7 F pb m j (S2 ++ [.fork [S.length + 1]]) h) := by
          rw [set_at S2] at hp7
          exact hide hp7
        clear hk7 hp7
        obtain ⟨_, _, ao7, cp7, hblk⟩ := HP7.out.cells
        rw [List.length_append] at hblk
        obtain ⟨c0, c1, c2, c3⟩ := four_cells hblk
        clear hblk c0 c1 c3
        go_wp2_with fail
        refine (way_any w7 F pb m j h S2.length (S2.length + 1) (S2 ++ [.fork [S.length + 1]]) [S.length + 1] HP7.out (get_at S2 _ []) (by simp) (by have := HL2.out; rw [List.length_append]; simp; omega)).mono ?_
        rintro e w8 ⟨rfl, hk8, hp8⟩
        have HK8 := hide (HK7.out.trans hk8)
        have HP8 : Hid (parserAt w8 F pb m j (S2 ++ [.fork [S.length + 1, S2.length + 1]]) h) := by
          rw [set_at S2] at hp8
          exact hide hp8
        clear hk8 hp8 c2
        obtain ⟨_, _, ao8, cp8, hblk⟩ := HP8.out.cells
        rw [List.length_append] at hblk
        obtain ⟨c0, c1, c2, c3⟩ := four_cells hblk
        clear hblk c0 c1 c3
        go_wp2_with fail
        have HP8' : Hid (parserAt w8 F pb m j (S ++ .fork [S.length + 1] :: (body ++ [.fork [S.length + 1, S2.length + 1]])) h) := by
          have := HP8.out
          rw [← HS2.out, List.append_assoc, List.cons_append, HS2.out] at this
          exact hide this
        refine (way_any w8 F pb m j h S.length (S2.length + 1) (S ++ .fork [S.length + 1] :: (body ++ [.fork [S.length + 1, S2.length + 1]])) [S.length + 1] HP8'.out (get_at S _ _) (by simp) (by simp; omega)).mono ?_
        rintro e w9 ⟨rfl, hk9, hp9⟩
        have HK9 := hide (HK8.out.trans hk9)
        have HP9 : Hid (parserAt w9 F pb m j (S ++ pieceC S.length 42 body) h) := by
          rw [set_at S] at hp9
          have e : pieceC S.length 42 body = .fork [S.length + 1, S2.length + 1] :: (body ++ [.fork [S.length + 1, S2.length + 1]]) := by
            simp [pieceC, passed, again, HL2.out]; omega
          rw [e]
          exact hide hp9
        clear hk9 hp9 c2
        obtain ⟨_, _, ao9, cp9, hblk⟩ := HP9.out.cells
        obtain ⟨k0, k1, k2, k3⟩ := four_cells hblk
        obtain ⟨z0, z1, z2, z3⟩ := four_free hblk
        clear hblk k0 k2 k3
        go_wp2
        go_ret
        rw [HE.out]
        exact ⟨HK9.out.setAt _ _, rfl, HP9.out.on _ (by simp)⟩
    · rw [ha, hpz]
      cases null with
      | true =>
        have HE : Hid (y = .error (4, j)) := by show _ = _; have h := HY2.out; rw [hs] at h; exact (Option.some.inj h).symm
        clear ha hpz hs
        go_wp2_with fail
        refine (giveUp_any W5 F pb m j h _ 4 HP5.out).mono ?_
        rintro e w6 ⟨rfl, rfl⟩
        rw [HE.out]
        exact ⟨rfl, HK5.out, rfl⟩
      | false =>
        have HE : Hid (y = .ok (pieceC S.length 43 body, false, j + 1, h)) := by show _ = _; have h := HY2.out; rw [hs] at h; exact (Option.some.inj h).symm
        have hlt := comesB_lt ha
        clear ha hpz hs
        go_wp2_with fail
        refine (add_any W5 F pb m j h S2 ⟨.fork [], 0, 0, 0, 0, 0, .slice none 0 0⟩ HP5.out rfl (fun w => ⟨World.ownsRow_nil _ _ _ _, trivial⟩) (by have := HL2.out; omega)).mono ?_
        rintro e w6 ⟨rfl, hk6, hp6⟩
        have HK6 := hide (HK5.out.trans hk6)
        have HP6 : Hid (parserAt w6 F pb m j (S2 ++ [.fork []]) h) := hide hp6
        clear hk6 hp6
        go_wp2_with fail
        refine (way_any w6 F pb m j h S2.length (S.length + 1) (S2 ++ [.fork []]) [] HP6.out (get_at S2 _ []) (by simp) (by have := HL2.out; rw [List.length_append]; simp; omega)).mono ?_
        rintro e w7 ⟨rfl, hk7, hp7⟩
        have HK7 := hide (HK6.out.trans hk7)
        have HP7 : Hid (parserAt w7 F pb m j (S2 ++ [.fork [S.length + 1]]) h) := by
          rw [set_at S2] at hp7
          exact hide hp7
        clear hk7 hp7
        obtain ⟨_, _, ao7, cp7, hblk⟩ := HP7.out.cells
        rw [List.length_append] at hblk
        obtain ⟨c0, c1, c2, c3⟩ := four_cells hblk
        clear hblk c0 c1 c3
        go_wp2_with fail
        refine (way_any w7 F pb m j h S2.length (S2.length + 1) (S2 ++ [.fork [S.length + 1]]) [S.length + 1] HP7.out (get_at S2 _ []) (by simp) (by have := HL2.out; rw [List.length_append]; simp; omega)).mono ?_
        rintro e w8 ⟨rfl, hk8, hp8⟩
        have HK8 := hide (HK7.out.trans hk8)
        have HP8 : Hid (parserAt w8 F pb m j (S2 ++ [.fork [S.length + 1, S2.length + 1]]) h) := by
          rw [set_at S2] at hp8
          exact hide hp8
        clear hk8 hp8 c2
        have HP9 : Hid (parserAt w8 F pb m j (S ++ pieceC S.length 43 body) h) := by
          have := HP8.out
          rw [← HS2.out, List.append_assoc, List.cons_append, HS2.out] at this
          have e : pieceC S.length 43 body = .fork [S.length + 1] :: (body ++ [.fork [S.length + 1, S2.length + 1]]) := by
            simp [pieceC, passed, again, HL2.out]; omega
          rw [e]
          exact hide this
        have HK9 := HK8
        obtain ⟨_, _, ao9, cp9, hblk⟩ := HP9.out.cells
        obtain ⟨k0, k1, k2, k3⟩ := four_cells hblk
        obtain ⟨z0, z1, z2, z3⟩ := four_free hblk
        clear hblk k0 k2 k3
        go_wp2
        go_ret
        rw [HE.out]
        exact ⟨HK9.out.setAt _ _, rfl, HP9.out.on _ (by simp)⟩
    · rw [ha, hpz]
      have HE : Hid (y = .ok (pieceC S.length 63 body, true, j + 1, h)) := by show _ = _; have h := HY2.out; rw [hs] at h; have := (Option.some.inj h).symm; simpa [passed] using this
      have hlt := comesB_lt hpz
      clear ha hpz hs
      obtain ⟨_, _, ao8, cp8, hblk⟩ := HP5.out.cells
      obtain ⟨c0, c1, c2, c3⟩ := four_cells hblk
      clear hblk c0 c1 c3
      go_wp2_with fail
      have HP8' : Hid (parserAt W5 F pb m j (S ++ .fork [S.length + 1] :: body) h) := by
        have := HP5.out
        rw [← HS2.out] at this
        exact hide this
      refine (way_any W5 F pb m j h S.length S2.length (S ++ .fork [S.length + 1] :: body) [S.length + 1] HP8'.out (get_at S _ _) (by simp) (by simp; omega)).mono ?_
      rintro e w9 ⟨rfl, hk9, hp9⟩
      have HK9 := hide (HK5.out.trans hk9)
      have HP9 : Hid (parserAt w9 F pb m j (S ++ pieceC S.length 63 body) h) := by
        rw [set_at S] at hp9
        have e : pieceC S.length 63 body = .fork [S.length + 1, S2.length] :: body := by
          simp [pieceC, passed, again, HL2.out]
        rw [e]
        exact hide hp9
      clear hk9 hp9 c2
      cases null with
      | true =>
        obtain ⟨_, _, ao9, cp9, hblk⟩ := HP9.out.cells
        obtain ⟨k0, k1, k2, k3⟩ := four_cells hblk
        obtain ⟨z0, z1, z2, z3⟩ := four_free hblk
        clear hblk k0 k2 k3
        go_wp2
        go_ret
        rw [HE.out]
        exact ⟨HK9.out.setAt _ _, rfl, HP9.out.on _ (by simp)⟩
      | false =>
        obtain ⟨_, _, ao9, cp9, hblk⟩ := HP9.out.cells
        obtain ⟨k0, k1, k2, k3⟩ := four_cells hblk
        obtain ⟨z0, z1, z2, z3⟩ := four_free hblk
        clear hblk k0 k2 k3
        go_wp2
        go_ret
        rw [HE.out]
        exact ⟨HK9.out.setAt _ _, rfl, HP9.out.on _ (by simp)⟩
    · rw [ha, hpz]
      have HE : Hid (y = .ok (pieceC S.length 0 body, null, j, h)) := by show _ = _; have h := HY2.out; rw [hs] at h; have := (Option.some.inj h).symm; simpa [passed] using this
      have HP9 : Hid (parserAt W5 F pb m j (S ++ pieceC S.length 0 body) h) := by
        have := HP5.out
        rw [← HS2.out] at this
        have e : pieceC S.length 0 body = .fork [S.length + 1] :: body := by
          simp [pieceC, passed, again]
        rw [e]
        exact hide this
      clear ha hpz hs
      cases null with
      | true =>
        go_wp2
        go_ret
        rw [HE.out]
        exact ⟨HK5.out, rfl, HP9.out⟩
      | false =>
        go_wp2
        go_ret
        rw [HE.out]
        exact ⟨HK5.out, rfl, HP9.out⟩
theorem bindO_assoc {α β γ : Type} (a : Out α) (k : α → Out β) (l : β → Out γ) : bindO (bindO a k) l = bindO a fun x => bindO (k x) l := by
  match a with
  | none => rfl
  | some (.error e) => rfl
  | some (.ok x) => rfl
/-- A row's first piece, and the rest. -/
theorem pM_piece {m : List UInt8} {f i g b : Nat} {c : UInt8} (hc : m[i]? = some c) (h1 : c.toNat ≠ 124) (h2 : c.toNat ≠ 41) {y} (hy : pM m (f + 1) false i g = some y) :
    (∃ e, pieceOut m f i g b c = some (.error e) ∧ y = .error e) ∨
    ∃ P null j h, ∃ K : Tr → Tr, pieceOut m f i g b c = some (.ok (P, null, j, h)) ∧ pM m (f + 1) false i g = (bindO (pM m f false j h) fun z => some (.ok (K z.1, z.2))) ∧
      (∀ T, comp (K T) b 0 = P ++ comp T (b + P.length) 0 ∧ nothing (K T) = (null && nothing T)) ∧ i < j ∧ j ≤ m.length ∧ (g ≤ 9 → h ≤ 9) ∧ P.length ≤ 8 * (j - i) := by
  have li := get_lt hc
  rw [pM] at hy
  simp only [hc] at hy
  rw [if_neg (by simp [h1, h2])] at hy
  by_cases h40 : c.toNat = 40
  · rw [if_pos h40] at hy
    by_cases h9 : g = 9
    · rw [if_pos h9] at hy
      cases hy
      left
      refine ⟨(2, i), ?_, rfl⟩
      unfold pieceOut atomOut
      rw [if_pos h40, if_pos h9]
      rfl
    · rw [if_neg h9] at hy
      rcases bindO_eq hy with ⟨e, he, rfl⟩ | ⟨x, hx, hy⟩
      · left
        refine ⟨e, ?_, rfl⟩
        unfold pieceOut atomOut
        rw [if_pos h40, if_neg h9, he]
        rfl
      · have k1 := pM_ok hx (by omega)
        have k2 := pM_sz hx (by omega)
        have k3 := (pM_is hx).2.2.2.1
        split at hy
        · rename_i hd
          have hdl := isAt_lt hd
          rcases bindO_eq hy with ⟨e, he, rfl⟩ | ⟨s, hs, hy⟩
          · left
            refine ⟨e, ?_, rfl⟩
            unfold pieceOut atomOut
            rw [if_pos h40, if_neg h9, hx]
            simp only [bindO]
            rw [if_pos hd]
            simp only
            rw [he]
          · right
            have k4 := pSign_ok hs (by omega)
            refine ⟨pieceC b s.1 (.mark (2 * g) :: .fork (starts x.1 (b + 3)) :: (comp x.1 (b + 3) (b + 3 + sz x.1) ++ [.mark (2 * g + 1)])), nothing x.1 || passed s.1, s.2, x.2.2, fun T => .grp g x.1 s.1 T, ?_, ?_, ?_, by omega, k4.2, fun hg => k3 (by omega), ?_⟩
            · unfold pieceOut atomOut
              rw [if_pos h40, if_neg h9, hx]
              simp only [bindO]
              rw [if_pos hd]
              simp only
              rw [hs]
            · rw [pM]
              simp only [hc]
              rw [if_neg (by simp [h1, h2]), if_pos h40, if_neg h9, hx]
              simp only [bindO]
              rw [if_pos hd, hs]
            · intro T
              refine ⟨?_, ?_⟩
              · rw [comp, pieceC_length]
                simp only [List.length_cons, List.length_append, comp_length, List.length_nil]
                rw [show b + 4 + again s.1 + sz x.1 = b + (1 + (sz x.1 + (0 + 1) + 1 + 1) + again s.1) from by omega]
              · simp only [nothing, passed]
                cases nothing x.1 <;> simp
            · have := again_le s.1
              rw [pieceC_length]
              simp only [List.length_cons, List.length_append, comp_length, List.length_nil]
              simp at k2
              omega
        · rename_i hd
          cases hy
          left
          refine ⟨(1, x.2.1), ?_, rfl⟩
          unfold pieceOut atomOut
          rw [if_pos h40, if_neg h9, hx]
          simp only [bindO]
          rw [if_neg hd]
  · rw [if_neg h40] at hy
    rcases bindO_eq hy with ⟨e, he, rfl⟩ | ⟨x, hx, hy⟩
    · left
      refine ⟨e, ?_, rfl⟩
      unfold pieceOut atomOut
      rw [if_neg h40, he]
      rfl
    · have k1 := pSet_ok hc hx
      rcases bindO_eq hy with ⟨e, he, rfl⟩ | ⟨s, hs, hy⟩
      · left
        refine ⟨e, ?_, rfl⟩
        unfold pieceOut atomOut
        rw [if_neg h40, hx]
        simp only [bindO]
        rw [he]
      · right
        have k4 := pSign_ok hs (by omega)
        refine ⟨pieceC b s.1 [.take x.1], passed s.1, s.2, g, fun T => .set x.1 s.1 T, ?_, ?_, ?_, by omega, k4.2, fun hg => hg, ?_⟩
        · unfold pieceOut atomOut
          rw [if_neg h40, hx]
          simp only [bindO]
          rw [hs]
          simp
        · rw [pM]
          simp only [hc]
          rw [if_neg (by simp [h1, h2]), if_neg h40, hx]
          simp only [bindO]
          rw [hs]
        · intro T
          refine ⟨?_, ?_⟩
          · rw [comp, pieceC_length]
            simp only [List.length_cons, List.length_nil]
            rw [show b + 2 + again s.1 = b + (1 + (0 + 1) + again s.1) from by omega]
          · simp only [nothing, passed]
        · have := again_le s.1
          rw [pieceC_length]
          simp only [List.length_cons, List.length_nil]
          omega
/-- What a row does. -/
def rowPost (F : Nat → Prop) (pb : Nat) (m : List UInt8) (S : List St) (y : Except (Nat × Nat) (Tr × Nat × Nat)) (w : World) (e : Ending) (w' : World) : Prop :=
  KeptX F pb w w' ∧ match y with
    | .error x => e = faulted x.1 x.2
    | .ok x => e = .returned (.bool (nothing x.1)) ∧ parserAt w' F pb m x.2.1 (S ++ comp x.1 S.length 0) x.2.2
/-- A row that is under way. -/
def goes (m : List UInt8) (f i g : Nat) (S : List St) (f' i' g' : Nat) (S' : List St) (null : Bool) : Prop :=
  ∃ K : Tr → Tr, pM m f false i g = (bindO (pM m f' false i' g') fun z => some (.ok (K z.1, z.2))) ∧ ∀ T, S ++ comp (K T) S.length 0 = S' ++ comp T S'.length 0 ∧ nothing (K T) = (null && nothing T)
theorem comes_row {m : List UInt8} {i : Nat} {c : UInt8} (h : m[i]? = some c) : comesB [124, 41] m i = (decide (c.toNat = 124) || decide (c.toNat = 41)) := by
  unfold comesB
  rw [h]
  simp only [contains_nat, List.any_cons, List.any_nil, Bool.or_false]
  rfl
set_option maxRecDepth 20000 in
set_option maxHeartbeats 4000000 in
theorem row_any {m : List UInt8} {f : Nat} (hf : ∀ f', f' < f → RowsOK m f') (w : World) (F : Nat → Prop) (pb i g : Nat) (S : List St) (y : Except (Nat × Nat) (Tr × Nat × Nat)) (hp : parserAt w F pb m i S g) (hi : i ≤ m.length) (hg : g ≤ 9) (hS : S.length + 8 * (m.length - i) ≤ 100001) (hm : m.length ≤ 10000)
    (hy : pM m f false i g = some y) : Calls Tryz.prog 141 #[.pointer (some ⟨pb, 0, none⟩)] w (rowPost F pb m S y w) := by
  have HF := hide hf
  have HY := hide hy
  have HP := hide hp
  clear hf hy hp
  go_enter Tryz.func141, Tryz.ntmps141
  go_wp2_with fail
  go_loopw [3] (fun v wr => ∃ f' i' g' S' null, v = .bool null ∧ f' ≤ f ∧ i' ≤ m.length ∧ g' ≤ 9 ∧ S'.length + 8 * (m.length - i') ≤ 100001 ∧ Hid (parserAt wr F pb m i' S' g') ∧ Hid (KeptX F pb w wr) ∧ Hid (goes m f i g S f' i' g' S' null)) (fun _ wr => m.length - placeOf wr pb)
  case atStart => exact ⟨f, i, g, S, true, rfl, Nat.le_refl _, hi, hg, hS, HP, hide (.refl _ _ _), hide ⟨fun T => T, by
    rw [HY.out]
    match y with
    | .error e => rfl
    | .ok x => rfl, fun T => ⟨rfl, by simp⟩⟩⟩
  case round =>
    obtain ⟨f', i', g', S', null, rfl, hf', hi', hg', hS', HPr, HKr, HG⟩ := hrel
    rename World => wr
    have hpl := HPr.out.place
    obtain ⟨_, _, ao, cp, hblk⟩ := HPr.out.cells
    obtain ⟨c0, c1, c2, c3⟩ := four_cells hblk
    have HBL : Hid (∀ n, parserAt (wr.drewN n) F pb m i' S' g') := hide fun n => HPr.out
    clear hblk c2 c3
    -- where it ends
    have hend : (i' = m.length ∨ ∃ c, m[i']? = some c ∧ (c.toNat = 124 ∨ c.toNat = 41)) → ∃ T, y = .ok (T, i', g') ∧ nothing T = null ∧ S ++ comp T S.length 0 = S' := by
      intro h
      obtain ⟨K, hK, hT⟩ := HG.out
      rw [HY.out] at hK
      have hnil : ∀ k, pM m (k + 1) false i' g' = some (.ok (.nil, i', g')) := by
        intro k
        rw [pM]
        rcases h with h | ⟨c, h1, h2⟩
        · rw [List.getElem?_eq_none_iff.2 (by omega)]
        · rw [h1]
          simp only
          rw [if_pos (by rcases h2 with h | h <;> simp [h])]
      cases f' with
      | zero => rw [pM] at hK; cases hK
      | succ k =>
        rw [hnil] at hK
        have := Option.some.inj hK
        refine ⟨K .nil, this, ?_, ?_⟩
        · rw [(hT .nil).2]; simp [nothing]
        · rw [(hT .nil).1]; simp [comp]
    by_cases hlt : i' < m.length
    · obtain ⟨c, hc⟩ : ∃ c, m[i']? = some c := ⟨_, List.getElem?_eq_getElem hlt⟩
      have hd : decide ((i' : Int) < m.length) = true := by simpa using hlt
      have HCM : Hid (∀ n, Calls Tryz.prog 154 #[.pointer (some ⟨pb, 0, none⟩), .string { data := #[124, 41] }] (wr.drewN n) fun e w' => e = .returned (.bool (decide (c.toNat = 124) || decide (c.toNat = 41))) ∧ ∃ k, w' = (wr.drewN n).drewN k) := by
        intro n
        have h := comes_any (wr.drewN n) F pb m [124, 41] i' g' S' (HBL.out n) (by omega) hi'
        rw [comes_row hc] at h
        exact h
      by_cases hs : c.toNat = 124 ∨ c.toNat = 41
      · have hb : (decide (c.toNat = 124) || decide (c.toNat = 41)) = true := by rcases hs with h | h <;> simp [h]
        rw [hb] at HCM
        obtain ⟨T, hyT, hnT, hsT⟩ := hend (.inr ⟨c, hc, hs⟩)
        have HYT := hide hyT
        have HNT := hide hnT
        have HST := hide hsT
        clear hb hs hc hend hyT hnT hsT
        go_wp2
        go_quiet ((go_at_call 154; exact Calls.quiet_of (HCM.out _)))
        go_wp2
        go_ret
        rw [HYT.out]
        exact ⟨HKr.out.drawN, by rw [HNT.out]; rfl, by rw [HST.out]; exact HBL.out _⟩
      · have hb : (decide (c.toNat = 124) || decide (c.toNat = 41)) = false := by
          simp only [not_or] at hs
          simp [hs.1, hs.2]
        rw [hb] at HCM
        simp only [not_or] at hs
        have HS := hide hs
        have HC := hide hc
        clear hb hs hc hend
        obtain ⟨K, hK, hT⟩ := HG.out
        rw [HY.out] at hK
        obtain ⟨f', rfl⟩ : ∃ k, f' = k + 1 := by
          cases f' with
          | zero => rw [pM] at hK; cases hK
          | succ k => exact ⟨k, rfl⟩
        obtain ⟨y', hy'⟩ : ∃ y', pM m (f' + 1) false i' g' = some y' := by
          cases h : pM m (f' + 1) false i' g' with
          | none => rw [h] at hK; cases hK
          | some y' => exact ⟨y', rfl⟩
        have HT := hide hT
        have HK := hide hK
        clear hT hK
        go_wp2
        go_quiet ((go_at_call 154; exact Calls.quiet_of (HCM.out _)))
        go_wp2_with fail
        rcases pM_piece (b := S'.length) HC.out HS.out.1 HS.out.2 hy' with ⟨er, ho, rfl⟩ | ⟨P, nul, j, h, K2, ho, hk2, hT2, hij, hjm, h9, hPl⟩
        · have HE : Hid (y = .error er) := by show _ = _; have h := HK.out; rw [hy'] at h; exact Option.some.inj h
          refine (piece_any (HF.out f' (by omega)) (wr.drewN nq) F pb i' g' S' c (.error er) (HBL.out nq) HC.out hg' hS' hm ho).mono ?_
          rintro e w1 ⟨hk1, rfl⟩
          exact ⟨rfl, HKr.out.trans ⟨hk1.os, hk1.tape, hk1.output, hk1.size, hk1.block⟩, by rw [HE.out]⟩
        · have HT2 := hide hT2
          have HK2 := hide hk2
          have HO := hide ho
          clear hT2 hk2 ho
          refine (piece_any (HF.out f' (by omega)) (wr.drewN nq) F pb i' g' S' c (.ok (P, nul, j, h)) (HBL.out nq) HC.out hg' hS' hm HO.out).mono ?_
          rintro e w1 ⟨hk1, rfl, hp1⟩
          have HP1 : Hid (parserAt w1 F pb m j (S' ++ P) h) := hide hp1
          have HK1 : Hid (KeptX F pb w w1) := hide (HKr.out.trans ⟨hk1.os, hk1.tape, hk1.output, hk1.size, hk1.block⟩)
          have hpl1 : placeOf w1 pb = j := hp1.place
          have HG1 : Hid (goes m f i g S f' j h (S' ++ P) (null && nul)) := by
            refine hide ⟨fun T => K (K2 T), ?_, fun T => ?_⟩
            · rw [HY.out, HK.out, HK2.out, bindO_assoc]
              match pM m f' false j h with
              | none => rfl
              | some (.error e) => rfl
              | some (.ok x) => rfl
            · refine ⟨?_, ?_⟩
              · rw [(HT.out (K2 T)).1, (HT2.out T).1, List.append_assoc, List.length_append]
              · rw [(HT.out (K2 T)).2, (HT2.out T).2, Bool.and_assoc]
          clear hk1 hp1
          simp only
          cases nul with
          | true =>
            go_wp2
            go_roundw
            case rel => exact ⟨f', j, h, S' ++ P, null, rfl, by omega, hjm, h9 hg', by rw [List.length_append]; omega, HP1, HK1, by have := HG1.out; rw [Bool.and_true] at this; exact hide this⟩
            case measure => rw [hpl1, hpl]; omega
          | false =>
            go_wp2
            go_roundw
            case rel => exact ⟨f', j, h, S' ++ P, false, rfl, by omega, hjm, h9 hg', by rw [List.length_append]; omega, HP1, HK1, by have := HG1.out; rw [Bool.and_false] at this; exact hide this⟩
            case measure => rw [hpl1, hpl]; omega
    · have hd : decide ((i' : Int) < m.length) = false := by simpa using hlt
      obtain ⟨T, hyT, hnT, hsT⟩ := hend (.inl (by omega))
      have HYT := hide hyT
      have HNT := hide hnT
      have HST := hide hsT
      clear hend hyT hnT hsT
      go_wp2
      go_quiet (fail)
      go_wp2
      go_ret
      rw [HYT.out]
      exact ⟨HKr.out.drawN, by rw [HNT.out]; rfl, by rw [HST.out]; exact HBL.out _⟩
/-! ### rows, one behind the other -/
def rowsOf (rs : List Tr) (T : Tr) : Tr := rs.foldr Tr.row T
def szL : List Tr → Nat
  | [] => 0
  | r :: rs => sz r + 1 + szL rs
def startsL : List Tr → Nat → List Nat
  | [], _ => []
  | r :: rs, b => b :: startsL rs (b + sz r + 1)
def endsL : List Tr → Nat → List Nat
  | [], _ => []
  | r :: rs, b => (b + sz r) :: endsL rs (b + sz r + 1)
/-- Rows with what their ends go on at. -/
def compW (q : Nat → List Nat) : List Tr → Nat → Nat → List St
  | [], _, _ => []
  | r :: rs, k, b => comp r b 0 ++ .fork (q k) :: compW q rs (k + 1) (b + sz r + 1)
theorem szL_snoc (rs : List Tr) (r : Tr) : szL (rs ++ [r]) = szL rs + sz r + 1 := by
  induction rs with
  | nil => simp [szL]
  | cons x rs ih => simp [szL, ih]; omega
theorem compW_length (q) : ∀ rs k b, (compW q rs k b).length = szL rs
  | [], _, _ => rfl
  | r :: rs, k, b => by simp [compW, comp_length, compW_length q rs, szL]; omega
theorem startsL_snoc : ∀ (rs : List Tr) (r : Tr) (b : Nat), startsL (rs ++ [r]) b = startsL rs b ++ [b + szL rs]
  | [], r, b => by simp [startsL, szL]
  | x :: rs, r, b => by simp [startsL, szL, startsL_snoc rs]; omega
theorem startsL_length : ∀ (rs : List Tr) (b : Nat), (startsL rs b).length = rs.length
  | [], _ => rfl
  | x :: rs, b => by simp [startsL, startsL_length rs]
theorem endsL_snoc : ∀ (rs : List Tr) (r : Tr) (b : Nat), endsL (rs ++ [r]) b = endsL rs b ++ [b + szL rs + sz r]
  | [], r, b => by simp [endsL, szL]
  | x :: rs, r, b => by simp [endsL, szL, endsL_snoc rs]; omega
theorem endsL_length : ∀ (rs : List Tr) (b : Nat), (endsL rs b).length = rs.length
  | [], _ => rfl
  | x :: rs, b => by simp [endsL, endsL_length rs]
theorem compW_snoc (q) : ∀ (rs : List Tr) (r : Tr) (k b : Nat), compW q (rs ++ [r]) k b = compW q rs k b ++ (comp r (b + szL rs) 0 ++ [.fork (q (k + rs.length))])
  | [], r, k, b => by simp [compW, szL]
  | x :: rs, r, k, b => by
    simp only [List.cons_append, compW, compW_snoc q rs, szL, List.append_assoc, List.length_cons]
    rw [show b + sz x + 1 + szL rs = b + (sz x + 1 + szL rs) from by omega, show k + 1 + rs.length = k + (rs.length + 1) from by omega]
theorem compW_congr {q q' : Nat → List Nat} : ∀ (rs : List Tr) (k b : Nat), (∀ j, k ≤ j → j < k + rs.length → q j = q' j) → compW q rs k b = compW q' rs k b
  | [], _, _, _ => rfl
  | r :: rs, k, b, h => by
    rw [compW, compW, h k (by omega) (by simp), compW_congr rs (k + 1) _ (fun j h1 h2 => h j (by omega) (by simp; omega))]
theorem compW_comp (e : Nat) : ∀ (rs : List Tr) (k b : Nat), compW (fun _ => [e]) rs k b = comp (rowsOf rs .nil) b e
  | [], _, _ => rfl
  | r :: rs, k, b => by
    rw [compW, compW_comp e rs]
    rfl
theorem startsL_starts : ∀ (rs : List Tr) (b : Nat), startsL rs b = starts (rowsOf rs .nil) b
  | [], _ => rfl
  | r :: rs, b => by
    rw [startsL, startsL_starts rs]
    rfl
theorem szL_sz : ∀ rs : List Tr, szL rs = sz (rowsOf rs .nil)
  | [] => rfl
  | r :: rs => by
    rw [szL, szL_sz rs]
    rfl
theorem endsL_ge : ∀ (rs : List Tr) (b n : Nat) (x : Nat), (endsL rs b)[n]? = some x → b ≤ x
  | [], b, n, x, h => by simp [endsL] at h
  | r :: rs, b, 0, x, h => by simp [endsL] at h; omega
  | r :: rs, b, n + 1, x, h => by
    have := endsL_ge rs (b + sz r + 1) n x (by simpa [endsL] using h)
    omega
theorem compW_get (q) : ∀ (rs : List Tr) (k b n : Nat) (x : Nat), (endsL rs b)[n]? = some x → (compW q rs k b)[x - b]? = some (.fork (q (k + n)))
  | [], k, b, n, x, h => by simp [endsL] at h
  | r :: rs, k, b, 0, x, h => by
    simp [endsL] at h
    subst h
    rw [compW, show b + sz r - b = (comp r b 0).length from by rw [comp_length]; omega, List.getElem?_append_right (Nat.le_refl _)]
    simp
  | r :: rs, k, b, n + 1, x, h => by
    have h' : (endsL rs (b + sz r + 1))[n]? = some x := by simpa [endsL] using h
    have hge := endsL_ge rs _ _ _ h'
    rw [compW, show x - b = (comp r b 0).length + (1 + (x - (b + sz r + 1))) from by rw [comp_length]; omega, List.getElem?_append_right (by omega), Nat.add_sub_cancel_left, Nat.add_comm 1, List.getElem?_cons_succ, compW_get q rs _ _ _ _ h']
    rw [show k + 1 + n = k + (n + 1) from by omega]
theorem compW_set (q : Nat → List Nat) (u : List Nat) : ∀ (rs : List Tr) (k b n : Nat) (x : Nat), (endsL rs b)[n]? = some x → (compW q rs k b).set (x - b) (.fork u) = compW (fun j => if j = k + n then u else q j) rs k b
  | [], k, b, n, x, h => by simp [endsL] at h
  | r :: rs, k, b, 0, x, h => by
    simp [endsL] at h
    subst h
    rw [compW, compW, show b + sz r - b = (comp r b 0).length from by rw [comp_length]; omega, List.set_append_right _ _ (Nat.le_refl _), Nat.sub_self, List.set_cons_zero]
    rw [if_pos (by omega)]
    congr 2
    exact compW_congr rs _ _ (fun j h1 h2 => by rw [if_neg (by omega)])
  | r :: rs, k, b, n + 1, x, h => by
    have h' : (endsL rs (b + sz r + 1))[n]? = some x := by simpa [endsL] using h
    have hge := endsL_ge rs _ _ _ h'
    rw [compW, compW, show x - b = (comp r b 0).length + (1 + (x - (b + sz r + 1))) from by rw [comp_length]; omega, List.set_append_right _ _ (by omega), Nat.add_sub_cancel_left, Nat.add_comm 1, List.set_cons_succ, compW_set q u rs _ _ _ _ h']
    rw [if_neg (by omega)]
    congr 2
    exact compW_congr rs _ _ (fun j h1 h2 => by
      by_cases e : j = k + 1 + n
      · rw [if_pos e, if_pos (by omega)]
      · rw [if_neg e, if_neg (by omega)])
theorem nothing_rows : ∀ rs : List Tr, rs ≠ [] → nothing (rowsOf rs .nil) = rs.any nothing
  | [], h => absurd rfl h
  | [r], _ => by simp [rowsOf, nothing]
  | r :: x :: rs, _ => by
    have ih := nothing_rows (x :: rs) (by simp)
    have : nothing (rowsOf (r :: x :: rs) .nil) = (nothing r || nothing (rowsOf (x :: rs) .nil)) := rfl
    rw [this, ih]
    rfl
/-! ### memory -/
theorem parserAt.grown {w w' : World} {F F' : Nat → Prop} {pb : Nat} {m : List UInt8} {i g : Nat} {S : List St} {row : Option Nat} (h : parserAt w F pb m i S g) (hg : w.grownBy w' row) (hr : ∀ k, row = some k → F k) (hpb : row ≠ some pb) (hF : ∀ k, F' k → k < w'.heap.size ∧ (F k ∨ w.heap.size ≤ k)) : parserAt w' F' pb m i S g := by
  obtain ⟨sv, rs, ⟨h1, h2, h3, h4, h5, h6, h7⟩, e⟩ := h
  refine ⟨sv, rs, ⟨fun k hk => (hF k hk).1, grown_block hg h2 hpb, ?_, fun j r hj => (h4 j r hj).keep fun b hb => ?_, h5, fun b hb hf => ?_, fun j r b hj hb hf => ?_⟩, e⟩
  · refine World.ownsRow.kept h3 hg ?_
    cases hv : sv.ownBlock with
    | none => exact .inl rfl
    | some b => exact .inr (fun e => h6 b hv (hr b e.symm))
  · exact hg.block b ((h4 j r hj).1.lt b hb).2 (fun e => h7 j r b hj hb (hr b e.symm))
  · rcases (hF b hf).2 with k | k
    · exact h6 b hb k
    · have := (h3.lt b hb).2; omega
  · rcases (hF b hf).2 with k | k
    · exact h7 j r b hj hb k
    · have := ((h4 j r hj).1.lt b hb).2; omega
theorem wpList_append_new {P : Program} {w : World} {ops : Array Oper} {rest : List Oper} {o : Oper} {a : Act} {Q : Exit → Act → World → Prop} (hgd : o.guard = none) (s x : Operand) (t : TypeId)
    (ho : o.op = .call { callee := .builtin .append, args := #[s, x], argTypes := #[t, t] })
    (base : Nat) (e : TypeId) (i : TypeInfo) (z : Value) (size bytes : Nat) (ht : P.underlying t = some (.slice e)) (hi : P.info? e = some i) (hz : i.zero = some z)
    (hsize : i.size = size) (hby : i.bytes = bytes) (hzs : z.cells.size = size) (hsz : 0 < size)
    (v : Value) (n : Nat) (xs : List Value) (hs : a.eval s = v) (hown : w.ownsRow base e size v n xs)
    (ad : Addr) (m c : Nat) (news : List Value) (hx : a.eval x = .slice (some ad) m c) (hl : news.length = m * size) (hnews : ∀ j u, news[j]? = some u → w.cell? (ad.add j) = some u) (h1 : ∀ u ∈ news, u.oneCell' = true)
    (h63 : n + m ≤ maxLen) (hbytes : (n + m) * bytes ≤ 140737488355328) (hbase : base ≤ w.heap.size)
    (h : ∀ v' w', w'.ownsRow base e size v' (n + m) (xs ++ news) → w.grownBy w' v.ownBlock → (v'.ownBlock = v.ownBlock ∨ ∃ g, v'.ownBlock = some g ∧ w.heap.size ≤ g) → wpList P ops Q rest (a.put o.dst v') w') : wpList P ops Q (o :: rest) a w :=
  wpList_plain hgd fun _ hK => by
    obtain ⟨v', w', hr, h2, h3, h4⟩ := run_append_new (P := P) w base t o.type e i z size bytes ht hi hz hsize hby hzs hsz v n xs hown ad m c news hl hnews h1 h63 hbytes hbase
    unfold Oper.wp execOp
    simp only [ho, resolve, invoke, builtin, Sem.run_bind, Sem.run_pure, Result.andThen_ok, List.map_toArray, List.map_cons, List.map_nil, hs, hx, hr]
    exact hK _ _ (h v' w' h2 h3 h4)
/-- What is to stay, and a row besides. -/
def andRow (F : Nat → Prop) (v : Value) : Nat → Prop := fun k => F k ∨ v.ownBlock = some k
def boolN : Value → Nat
  | .bool true => 1
  | _ => 0
/-- Rows that are under way: more of them, or no more. -/
def goesR (m : List UInt8) (f i g : Nat) (rs : List Tr) (i' g' : Nat) (more : Bool) : Prop :=
  (more = true → ∃ f', f' ≤ f ∧ pM m f true i g = bindO (pM m f' true i' g') fun z => some (.ok (rowsOf rs z.1, z.2))) ∧
  (more = false → rs ≠ [] ∧ pM m f true i g = some (.ok (rowsOf rs .nil, i', g')))
set_option maxRecDepth 20000 in
set_option maxHeartbeats 4000000 in
theorem rows_any {m : List UInt8} {f : Nat} (hm : m.length ≤ 10000) (hf : ∀ f', f' < f → RowsOK m f') : RowsOK m f := by
  intro w F pb i g S y hp hi hg hS hy
  have HF := hide hf
  have HY := hide hy
  have HP := hide hp
  clear hf hy hp
  obtain ⟨i0, hinf, hz0, hz1, hz2⟩ := info_parts Tryz.infoI
  go_enter Tryz.func121, Tryz.ntmps121
  go_wp2_with fail
  refine (add_any w F pb m i g S ⟨.fork [], 0, 0, 0, 0, 0, .slice none 0 0⟩ HP.out rfl (fun w => ⟨World.ownsRow_nil _ _ _ _, trivial⟩) (by omega)).mono ?_
  rintro e w1 ⟨rfl, hk1, hp1⟩
  have HK1 := hide hk1
  have HP1 : Hid (parserAt w1 F pb m i (S ++ [.fork []]) g) := hide hp1
  clear hk1 hp1
  obtain ⟨b, HB⟩ : ∃ b, Hid (S.length = b) := ⟨_, hide rfl⟩
  rw [HB.out] at hS ⊢
  go_wp2_with fail
  go_loopw [4, 5, 6] (fun ve vn vm wr => ∃ rs i' g' nul more, vn = .bool nul ∧ vm = .bool more ∧ i' ≤ m.length ∧ g' ≤ 9 ∧ b + 1 + szL rs + 8 * (m.length - i') ≤ 100002 ∧ (more = true → b + 1 + szL rs + 8 * (m.length - i') ≤ 100001) ∧ rs.length ≤ 10001 ∧ (more = true → rs.length ≤ i') ∧ Hid (wr.ownsRow w.heap.size 3 1 ve rs.length (intsV (endsL rs (b + 1)))) ∧
      Hid (parserAt wr (andRow F ve) pb m i' (S ++ .fork (startsL rs (b + 1)) :: compW (fun _ => []) rs 0 (b + 1)) g') ∧ Hid (KeptX F pb w wr) ∧ Hid (nul = rs.any nothing) ∧ Hid (goesR m f i g rs i' g' more)) (fun _ _ vm wr => m.length - placeOf wr pb + boolN vm)
  case atStart =>
    refine ⟨[], i, g, false, true, rfl, rfl, hi, hg, by simp [szL]; omega, fun _ => by simp [szL]; omega, by simp, fun _ => by simp, hide (World.ownsRow_nil _ _ _ _), hide ?_, HK1, hide rfl, hide ⟨fun _ => ⟨f, Nat.le_refl _, ?_⟩, fun h => by cases h⟩⟩
    · exact HP1.out.less (fun k hk => by rcases hk with h | h; exact h; cases h)
    · rw [HY.out]
      match y with
      | .error e => rfl
      | .ok x => rfl
  case round =>
    obtain ⟨rs, i', g', nul, more, rfl, rfl, hi', hg', hbd, hbm, hrl, hrm, HO, HPr, HKr, HN, HG⟩ := hrel
    rename World => wr
    obtain ⟨ve, rfl⟩ : ∃ ve, ve = u4 := ⟨_, rfl⟩
    have hpl := HPr.out.place
    obtain ⟨vb, vc, hve⟩ := own_shape HO.out
    have HVE := hide hve
    clear hve
    obtain ⟨hpb, hroom, ao, cp, hblk⟩ := HPr.out.cells
    have hvp : ve.ownBlock ≠ some pb := own_apart HO.out hblk (by decide)
    have hFr := HP.out.room
    have hln : (S ++ .fork (startsL rs (b + 1)) :: compW (fun _ => []) rs 0 (b + 1)).length = b + 1 + szL rs := by
      rw [List.length_append, List.length_cons, compW_length, HB.out]; omega
    rw [hln] at hblk
    obtain ⟨p, HPp⟩ : ∃ p, Hid (b + 1 + szL rs = p) := ⟨_, hide rfl⟩
    rw [HPp.out] at hblk hbd hbm hln
    obtain ⟨c0, c1, c2, c3⟩ := four_cells hblk
    have HLN := hide hln
    have HHV := hide hvp
    have HFR := hide hFr
    clear hblk c0 c1 c3 hln hvp hFr hroom hpb
    cases more with
    | true =>
      obtain ⟨f', hff, hG⟩ := HG.out.1 rfl
      have hbm2 := hbm rfl
      have hrm2 := hrm rfl
      clear hbm hrm
      obtain ⟨k, rfl⟩ : ∃ k, f' = k + 1 := by
        cases f' with
        | zero => rw [HY.out, pM] at hG; cases hG
        | succ k => exact ⟨k, rfl⟩
      have HGG := hide hG
      obtain ⟨y0, hy0⟩ : ∃ y0, pM m k false i' g' = some y0 := by
        cases h : pM m k false i' g' with
        | none => rw [HY.out, pM, h] at hG; cases hG
        | some y0 => exact ⟨y0, rfl⟩
      have HY0 := hide hy0
      clear hG hy0
      go_wp2_with fail
      refine (way_any wr (andRow F ve) pb m i' g' b p _ (startsL rs (b + 1)) HPr.out (by rw [← HB.out]; exact get_at S _ _) (by rw [startsL_length]; omega) (by rw [HLN.out]; omega)).mono ?_
      rintro e w2 ⟨rfl, hk2, hp2⟩
      have HK2 := hide hk2
      have HP2 : Hid (parserAt w2 (andRow F ve) pb m i' (S ++ .fork (startsL rs (b + 1) ++ [p]) :: compW (fun _ => []) rs 0 (b + 1)) g') := by
        have := set_at S (.fork (startsL rs (b + 1))) (.fork (startsL rs (b + 1) ++ [p])) (compW (fun _ => []) rs 0 (b + 1))
        rw [HB.out] at this
        rw [this] at hp2
        exact hide hp2
      have hl2 : (S ++ .fork (startsL rs (b + 1) ++ [p]) :: compW (fun _ => []) rs 0 (b + 1)).length = p := by
        rw [← HPp.out, List.length_append, List.length_cons, compW_length, HB.out]; omega
      have HL2 := hide hl2
      clear hk2 hp2 c2 hl2
      go_wp2_with fail
      refine (row_any (f := k) (fun f'' h => HF.out f'' (by omega)) w2 (andRow F ve) pb i' g' _ y0 HP2.out hi' hg' (by rw [HL2.out]; exact hbm2) hm HY0.out).mono ?_
      rintro e w3 ⟨hk3, he⟩
      have HK3 := hide (HK2.out.trans hk3)
      match y0, he, HY0 with
      | .error x, he, HY0 =>
        simp only at he
        subst he
        have HE : Hid (y = .error x) := by
          show _ = _
          have h := HGG.out
          rw [HY.out, pM, HY0.out] at h
          exact Option.some.inj h
        exact ⟨rfl, HKr.out.trans (HK3.out.less fun k hk => .inl hk), by rw [HE.out]⟩
      | .ok (r, j, h), he, HY0 =>
        simp only at he
        obtain ⟨rfl, hp3⟩ := he
        have hjo := pM_ok HY0.out hi'
        have hjs := pM_sz HY0.out hi'
        have hjg := (pM_is HY0.out).2.2.2.1 hg'
        simp at hjo hjs hjg
        rw [HL2.out] at hp3
        have HP3 := hide hp3
        have HPG : Hid (pM m f true i g = if isAt m j 124 then bindO (pM m k true (j + 1) h) fun z => some (.ok (rowsOf (rs ++ [r]) z.1, z.2)) else some (.ok (rowsOf (rs ++ [r]) .nil, j, h))) := by
          show _ = _
          rw [HGG.out, pM, HY0.out]
          by_cases hd : isAt m j 124 = true
          · rw [if_pos hd, bindO_assoc]
            simp only [bindO]
            rw [if_pos hd]
            match pM m k true (j + 1) h with
            | none => rfl
            | some (.error e) => rfl
            | some (.ok z) => simp [rowsOf, List.foldr_append]
          · rw [if_neg hd, bindO_assoc]
            simp only [bindO]
            rw [if_neg hd]
            simp [rowsOf, List.foldr_append]
        have hsz3 : (S ++ .fork (startsL rs (b + 1) ++ [p]) :: compW (fun _ => []) rs 0 (b + 1) ++ comp r p 0).length = p + sz r := by
          rw [List.length_append, comp_length, HL2.out]
        have HS3 := hide hsz3
        clear hk3 hp3 hsz3
        obtain ⟨nr, HNR⟩ : ∃ nr, Hid (nothing r = nr) := ⟨_, hide rfl⟩
        rw [HNR.out]
        -- both ways go on alike
        obtain ⟨S3, HS3e⟩ : ∃ S3, Hid (S ++ .fork (startsL rs (b + 1) ++ [p]) :: compW (fun _ => []) rs 0 (b + 1) ++ comp r p 0 = S3) := ⟨_, hide rfl⟩
        rw [HS3e.out] at HP3 HS3
        have hjp : j ≤ m.length := hjo.2
        obtain ⟨q, HQ⟩ : ∃ q, Hid (p + sz r = q) := ⟨_, hide rfl⟩
        have hql : q ≤ 1000000 := by have := HQ.out; omega
        cases nr with
        | true =>
          go_wp2_with fail
          refine (add_any w3 (andRow F ve) pb m j h S3 ⟨.fork [], 0, 0, 0, 0, 0, .slice none 0 0⟩ HP3.out rfl (fun w => ⟨World.ownsRow_nil _ _ _ _, trivial⟩) (by rw [HS3.out]; omega)).mono ?_
          rintro e w4 ⟨rfl, hk4, hp4⟩
          have HK4 := hide (HK3.out.trans hk4)
          have HP4 : Hid (parserAt w4 (andRow F ve) pb m j (S3 ++ [.fork []]) h) := hide hp4
          clear hk4 hp4
          have ho4 : w4.ownsRow w.heap.size 3 1 ve rs.length (intsV (endsL rs (b + 1))) := own_keep HO.out (fun g hg => HK4.out.block g (.inr hg) (fun e => HHV.out (e ▸ hg)))
          have hs4 : w.heap.size ≤ w4.heap.size := Nat.le_trans HKr.out.size HK4.out.size
          rw [HS3.out, HQ.out]
          obtain ⟨W5, HW5⟩ : ∃ W5, Hid (W5 = w4.alloc (.cells #[.int .i64 (q : Int)] 3)) := ⟨_, hide rfl⟩
          have g5 : Grow w4 W5 := by rw [HW5.out]; exact (Grow.refl _).alloc _
          have ho5 := own_grow ho4 g5
          have hb5 : W5.heap[w4.heap.size]? = some (.cells #[.int .i64 (q : Int)] 3 (0, 0)) := by rw [HW5.out]; exact heap_alloc_new _ _
          have hs5 : W5.heap.size = w4.heap.size + 1 := by rw [HW5.out]; simp
          have HO5 := hide ho5
          have HB5 := hide hb5
          have HP5 := hide (HP4.out.grow g5)
          have G5 := hide g5
          have eW5 := HW5.out.symm
          clear ho4 ho5 hb5 g5
          go_wp2_with (at_builtin; refine wpList_append_new rfl _ _ 46 rfl w.heap.size 3 i0 _ 1 8 Tryz.underlying46 hinf hz0 hz1 hz2 rfl (by omega) ve rs.length (intsV (endsL rs (b + 1))) rfl HO5.out ⟨w4.heap.size, 0, none⟩ 1 1 (intsV [q]) rfl rfl (fun z u hu => by
              match z, hu with
              | 0, hu =>
                simp [intsV] at hu
                subst hu
                rw [Addr.add_lit]
                exact cell_in HB5.out (by simp)) (intsV_oneCell _) (by unfold maxLen; omega) (by omega) (by omega) ?_; intro v' w6 hown' hgrow hnew; clear eW5; rw [← intsV_append] at hown'; have HO6 := hide hown'; have HG6 := hide hgrow; have HN6 := hide hnew; clear hown' hgrow hnew)
          have hp6 : parserAt w6 (andRow F v') pb m j (S3 ++ [.fork []]) h := HP5.out.grown HG6.out (fun k hk => .inr hk) HHV.out (fun k hk => by
            rcases hk with hk | hk
            · have := HFR.out k hk
              have := HG6.out.size
              exact ⟨by omega, .inl (.inl hk)⟩
            · refine ⟨(HO6.out.lt k hk).2, ?_⟩
              rcases HN6.out with h | ⟨z, h, h2⟩
              · exact .inl (.inr (h ▸ hk))
              · rw [h] at hk; cases hk; exact .inr h2)
          have HP6 := hide hp6
          have HK6 : Hid (KeptX F pb w w6) := hide (HKr.out.trans ((HK4.out.less fun k hk => .inl hk).trans ⟨HG6.out.os.trans G5.out.os, HG6.out.tape.trans G5.out.tape, HG6.out.output.trans G5.out.output, Nat.le_trans G5.out.size HG6.out.size, fun k hk hn => (HG6.out.block k (by have := HFR.out k hk; omega) (fun e => by have := (HO5.out.lt k e.symm).1; have := HFR.out k hk; omega)).trans (G5.out.block k (by have := HFR.out k hk; omega))⟩))
          clear hp6
          go_wp2_with fail
          refine (skip_any w6 (andRow F v') pb m [124] j h _ HP6.out (by omega) hjp).mono ?_
          rintro e w7 ⟨rfl, hk7, hp7⟩
          rw [comesB_nat _ _ 124 124 rfl] at hp7 ⊢
          have hv6 : v'.ownBlock ≠ some pb := by
            obtain ⟨_, _, _, _, hb⟩ := HP6.out.cells
            exact own_apart HO6.out hb (by decide)
          have ho7 : w7.ownsRow w.heap.size 3 1 v' (rs ++ [r]).length (intsV (endsL (rs ++ [r]) (b + 1))) := by
            rw [endsL_snoc, HPp.out, HQ.out, List.length_append]
            exact own_keep HO6.out (fun z hz => hk7.block z (HO6.out.lt z hz).2 (fun e => hv6 (e ▸ hz)) (fun e => hv6 (e ▸ hz)))
          have HO7 := hide ho7
          have HK7 := hide (HK6.out.trans (keptX_two hk7 (fun k hk => by have := HFR.out k hk; have := HK6.out.size; omega)))
          have heq : S3 ++ [St.fork []] = S ++ .fork (startsL (rs ++ [r]) (b + 1)) :: compW (fun _ => []) (rs ++ [r]) 0 (b + 1) := by
            rw [← HS3e.out, startsL_snoc, compW_snoc, HPp.out]
            simp
          rw [heq] at hp7
          have HN7 : Hid (true = (rs ++ [r]).any nothing) := by
            show _ = _
            rw [List.any_append, ← HN.out]
            simp [HNR.out]
          clear ho7 hk7 heq
          have hszl : szL (rs ++ [r]) = szL rs + sz r + 1 := szL_snoc rs r
          cases hd : isAt m j 124 with
          | true =>
            have hlt := isAt_lt hd
            rw [hd] at hp7
            have hpl7 : placeOf w7 pb = j + 1 := hp7.place
            have HP7 := hide hp7
            have HGR : Hid (goesR m f i g (rs ++ [r]) (j + 1) h true) := hide ⟨fun _ => ⟨k, by omega, by rw [HPG.out, if_pos hd]⟩, fun h => by cases h⟩
            clear hd hp7
            go_wp2
            go_roundw
            case rel => exact ⟨rs ++ [r], j + 1, h, true, true, rfl, rfl, hlt, hjg, by rw [hszl]; have := HPp.out; omega, fun _ => by rw [hszl]; have := HPp.out; omega, by simp; omega, fun _ => by simp; omega, HO7, HP7, HK7, HN7, HGR⟩
            case measure => rw [hpl7, hpl]; simp [boolN]; omega
          | false =>
            rw [hd] at hp7
            have hpl7 : placeOf w7 pb = j := hp7.place
            have HP7 := hide hp7
            have HGR : Hid (goesR m f i g (rs ++ [r]) j h false) := hide ⟨fun h => (by cases h), fun _ => ⟨by simp, by rw [HPG.out, if_neg (by simp [hd])]⟩⟩
            clear hd hp7
            go_wp2
            go_roundw
            case rel => exact ⟨rs ++ [r], j, h, true, false, rfl, rfl, hjp, hjg, by rw [hszl]; have := HPp.out; omega, fun h => (by cases h), by simp; omega, fun h => (by cases h), HO7, HP7, HK7, HN7, HGR⟩
            case measure => rw [hpl7, hpl]; simp [boolN]; omega
        | false =>
          go_wp2_with fail
          refine (add_any w3 (andRow F ve) pb m j h S3 ⟨.fork [], 0, 0, 0, 0, 0, .slice none 0 0⟩ HP3.out rfl (fun w => ⟨World.ownsRow_nil _ _ _ _, trivial⟩) (by rw [HS3.out]; omega)).mono ?_
          rintro e w4 ⟨rfl, hk4, hp4⟩
          have HK4 := hide (HK3.out.trans hk4)
          have HP4 : Hid (parserAt w4 (andRow F ve) pb m j (S3 ++ [.fork []]) h) := hide hp4
          clear hk4 hp4
          have ho4 : w4.ownsRow w.heap.size 3 1 ve rs.length (intsV (endsL rs (b + 1))) := own_keep HO.out (fun g hg => HK4.out.block g (.inr hg) (fun e => HHV.out (e ▸ hg)))
          have hs4 : w.heap.size ≤ w4.heap.size := Nat.le_trans HKr.out.size HK4.out.size
          rw [HS3.out, HQ.out]
          obtain ⟨W5, HW5⟩ : ∃ W5, Hid (W5 = w4.alloc (.cells #[.int .i64 (q : Int)] 3)) := ⟨_, hide rfl⟩
          have g5 : Grow w4 W5 := by rw [HW5.out]; exact (Grow.refl _).alloc _
          have ho5 := own_grow ho4 g5
          have hb5 : W5.heap[w4.heap.size]? = some (.cells #[.int .i64 (q : Int)] 3 (0, 0)) := by rw [HW5.out]; exact heap_alloc_new _ _
          have hs5 : W5.heap.size = w4.heap.size + 1 := by rw [HW5.out]; simp
          have HO5 := hide ho5
          have HB5 := hide hb5
          have HP5 := hide (HP4.out.grow g5)
          have G5 := hide g5
          have eW5 := HW5.out.symm
          clear ho4 ho5 hb5 g5
          go_wp2_with (at_builtin; refine wpList_append_new rfl _ _ 46 rfl w.heap.size 3 i0 _ 1 8 Tryz.underlying46 hinf hz0 hz1 hz2 rfl (by omega) ve rs.length (intsV (endsL rs (b + 1))) rfl HO5.out ⟨w4.heap.size, 0, none⟩ 1 1 (intsV [q]) rfl rfl (fun z u hu => by
              match z, hu with
              | 0, hu =>
                simp [intsV] at hu
                subst hu
                rw [Addr.add_lit]
                exact cell_in HB5.out (by simp)) (intsV_oneCell _) (by unfold maxLen; omega) (by omega) (by omega) ?_; intro v' w6 hown' hgrow hnew; clear eW5; rw [← intsV_append] at hown'; have HO6 := hide hown'; have HG6 := hide hgrow; have HN6 := hide hnew; clear hown' hgrow hnew)
          have hp6 : parserAt w6 (andRow F v') pb m j (S3 ++ [.fork []]) h := HP5.out.grown HG6.out (fun k hk => .inr hk) HHV.out (fun k hk => by
            rcases hk with hk | hk
            · have := HFR.out k hk
              have := HG6.out.size
              exact ⟨by omega, .inl (.inl hk)⟩
            · refine ⟨(HO6.out.lt k hk).2, ?_⟩
              rcases HN6.out with h | ⟨z, h, h2⟩
              · exact .inl (.inr (h ▸ hk))
              · rw [h] at hk; cases hk; exact .inr h2)
          have HP6 := hide hp6
          have HK6 : Hid (KeptX F pb w w6) := hide (HKr.out.trans ((HK4.out.less fun k hk => .inl hk).trans ⟨HG6.out.os.trans G5.out.os, HG6.out.tape.trans G5.out.tape, HG6.out.output.trans G5.out.output, Nat.le_trans G5.out.size HG6.out.size, fun k hk hn => (HG6.out.block k (by have := HFR.out k hk; omega) (fun e => by have := (HO5.out.lt k e.symm).1; have := HFR.out k hk; omega)).trans (G5.out.block k (by have := HFR.out k hk; omega))⟩))
          clear hp6
          go_wp2_with fail
          refine (skip_any w6 (andRow F v') pb m [124] j h _ HP6.out (by omega) hjp).mono ?_
          rintro e w7 ⟨rfl, hk7, hp7⟩
          rw [comesB_nat _ _ 124 124 rfl] at hp7 ⊢
          have hv6 : v'.ownBlock ≠ some pb := by
            obtain ⟨_, _, _, _, hb⟩ := HP6.out.cells
            exact own_apart HO6.out hb (by decide)
          have ho7 : w7.ownsRow w.heap.size 3 1 v' (rs ++ [r]).length (intsV (endsL (rs ++ [r]) (b + 1))) := by
            rw [endsL_snoc, HPp.out, HQ.out, List.length_append]
            exact own_keep HO6.out (fun z hz => hk7.block z (HO6.out.lt z hz).2 (fun e => hv6 (e ▸ hz)) (fun e => hv6 (e ▸ hz)))
          have HO7 := hide ho7
          have HK7 := hide (HK6.out.trans (keptX_two hk7 (fun k hk => by have := HFR.out k hk; have := HK6.out.size; omega)))
          have heq : S3 ++ [St.fork []] = S ++ .fork (startsL (rs ++ [r]) (b + 1)) :: compW (fun _ => []) (rs ++ [r]) 0 (b + 1) := by
            rw [← HS3e.out, startsL_snoc, compW_snoc, HPp.out]
            simp
          rw [heq] at hp7
          have HN7 : Hid (nul = (rs ++ [r]).any nothing) := by
            show _ = _
            rw [List.any_append, ← HN.out]
            simp [HNR.out]
          clear ho7 hk7 heq
          have hszl : szL (rs ++ [r]) = szL rs + sz r + 1 := szL_snoc rs r
          cases hd : isAt m j 124 with
          | true =>
            have hlt := isAt_lt hd
            rw [hd] at hp7
            have hpl7 : placeOf w7 pb = j + 1 := hp7.place
            have HP7 := hide hp7
            have HGR : Hid (goesR m f i g (rs ++ [r]) (j + 1) h true) := hide ⟨fun _ => ⟨k, by omega, by rw [HPG.out, if_pos hd]⟩, fun h => by cases h⟩
            clear hd hp7
            go_wp2
            go_roundw
            case rel => exact ⟨rs ++ [r], j + 1, h, nul, true, rfl, rfl, hlt, hjg, by rw [hszl]; have := HPp.out; omega, fun _ => by rw [hszl]; have := HPp.out; omega, by simp; omega, fun _ => by simp; omega, HO7, HP7, HK7, HN7, HGR⟩
            case measure => rw [hpl7, hpl]; simp [boolN]; omega
          | false =>
            rw [hd] at hp7
            have hpl7 : placeOf w7 pb = j := hp7.place
            have HP7 := hide hp7
            have HGR : Hid (goesR m f i g (rs ++ [r]) j h false) := hide ⟨fun h => (by cases h), fun _ => ⟨by simp, by rw [HPG.out, if_neg (by simp [hd])]⟩⟩
            clear hd hp7
            go_wp2
            go_roundw
            case rel => exact ⟨rs ++ [r], j, h, nul, false, rfl, rfl, hjp, hjg, by rw [hszl]; have := HPp.out; omega, fun h => (by cases h), by simp; omega, fun h => (by cases h), HO7, HP7, HK7, HN7, HGR⟩
            case measure => rw [hpl7, hpl]; simp [boolN]; omega
    | false =>
      obtain ⟨hne, hG⟩ := HG.out.2 rfl
      have HE : Hid (y = .ok (rowsOf rs .nil, i', g')) := by show _ = _; rw [HY.out] at hG; exact Option.some.inj hG
      have HNE := hide hne
      have hve := HVE.out
      subst hve
      have HKn := hide (nothing_rows rs hne)
      clear hG hne hbm hrm c2
      go_wp2_with fail
      go_loopw [34] (fun vi w2 => ∃ n : Nat, vi = .int .i64 n ∧ n ≤ rs.length ∧ Hid (w2.ownsRow w.heap.size 3 1 (.slice vb rs.length vc) rs.length (intsV (endsL rs (b + 1)))) ∧
          Hid (parserAt w2 (andRow F (.slice vb rs.length vc)) pb m i' (S ++ .fork (startsL rs (b + 1)) :: compW (fun j => if j < n then [p] else []) rs 0 (b + 1)) g') ∧ Hid (KeptX F pb w w2)) (fun vi _ => rs.length - (intOf vi).toNat)
      case atStart => exact ⟨0, rfl, Nat.zero_le _, HO, by simpa using HPr, HKr⟩
      case round =>
        obtain ⟨n, rfl, hn, HO2, HP2, HK2⟩ := hrel
        rename World => wr2
        by_cases hlt : n < rs.length
        · have hnl : (n : Int) < rs.length := by omega
          obtain ⟨x, hx⟩ : ∃ x, (endsL rs (b + 1))[n]? = some x := ⟨_, List.getElem?_eq_getElem (by rw [endsL_length]; exact hlt)⟩
          have hge := endsL_ge rs _ _ _ hx
          obtain ⟨gb, rfl⟩ : ∃ gb, vb = some ⟨gb, 0, none⟩ := by
            rcases HO2.out.2 with ⟨_, h0⟩ | ⟨gb, cp2, cur, h, _⟩
            · omega
            · simp at h; exact ⟨gb, h.1⟩
          have hce : wr2.cell? ⟨gb, n, none⟩ = some (.int .i64 (x : Int)) := own_cell HO2.out (by simp [intsV, hx])
          obtain ⟨_, _, ao2, cp2, hblk⟩ := HP2.out.cells
          have hl2 : (S ++ .fork (startsL rs (b + 1)) :: compW (fun j => if j < n then [p] else []) rs 0 (b + 1)).length = p := by
            rw [← HPp.out, List.length_append, List.length_cons, compW_length, HB.out]; omega
          rw [hl2] at hblk
          obtain ⟨c0, c1, c2, c3⟩ := four_cells hblk
          have hgt : (S ++ St.fork (startsL rs (b + 1)) :: compW (fun j => if j < n then [p] else []) rs 0 (b + 1))[x]? = some (.fork []) := by
            rw [List.getElem?_append_right (by rw [HB.out]; omega), HB.out, show x - b = (x - (b + 1)) + 1 from by omega, List.getElem?_cons_succ, compW_get _ rs 0 _ n x hx]
            simp
          have hst : (S ++ St.fork (startsL rs (b + 1)) :: compW (fun j => if j < n then [p] else []) rs 0 (b + 1)).set x (.fork ([] ++ [p])) = S ++ .fork (startsL rs (b + 1)) :: compW (fun j => if j < n + 1 then [p] else []) rs 0 (b + 1) := by
            rw [List.set_append_right _ _ (by rw [HB.out]; omega), HB.out, show x - b = (x - (b + 1)) + 1 from by omega, List.set_cons_succ, compW_set _ _ rs 0 _ n x hx]
            congr 2
            exact compW_congr rs _ _ (fun j h1 h2 => by
              by_cases e : j = n
              · subst e; simp
              · by_cases h3 : j < n
                · simp [e, h3, show j < n + 1 from by omega]
                · simp [e, h3, show ¬ j < n + 1 from by omega])
          have HST := hide hst
          have HGT := hide hgt
          have HL2 := hide hl2
          have hvp2 : (Value.slice (some ⟨gb, 0, none⟩) rs.length vc).ownBlock ≠ some pb := HHV.out
          clear hblk c0 c1 c3 hst hgt hx hl2
          go_wp2_with fail
          refine (way_any wr2 _ pb m i' g' x p _ [] HP2.out HGT.out (by simp) (by rw [HL2.out]; omega)).mono ?_
          rintro e w3 ⟨rfl, hk3, hp3⟩
          rw [HST.out] at hp3
          have HP3 := hide hp3
          have HK3 := hide (HK2.out.trans (hk3.less fun k hk => .inl hk))
          have HO3 : Hid (w3.ownsRow w.heap.size 3 1 (.slice (some ⟨gb, 0, none⟩) rs.length vc) rs.length (intsV (endsL rs (b + 1)))) := hide (own_keep HO2.out (fun z hz => hk3.block z (.inr hz) (fun e => hvp2 (e ▸ hz))))
          clear hp3 hk3
          go_wp2
          go_roundw
          case rel => exact ⟨n + 1, by go_num, by omega, HO3, HP3, HK3⟩
          case measure => simp [intOf]; omega
        · obtain rfl : n = rs.length := by omega
          have hfin : compW (fun j => if j < rs.length then [p] else []) rs 0 (b + 1) = comp (rowsOf rs .nil) (b + 1) p := by
            rw [← compW_comp]
            exact compW_congr rs _ _ (fun j h1 h2 => by rw [if_pos (by omega)])
          have hall : S ++ St.fork (startsL rs (b + 1)) :: compW (fun j => if j < rs.length then [p] else []) rs 0 (b + 1) = rowsSteps S (rowsOf rs .nil) := by
            rw [hfin, rowsSteps, HB.out, startsL_starts, ← szL_sz, HPp.out]
          have hp3 := HP2.out
          rw [hall] at hp3
          have HP3 := hide (hp3.less (F' := F) (fun k hk => .inl hk))
          clear hp3 hall hfin
          go_wp2
          go_ret
          rw [HE.out]
          exact ⟨HK2.out, by rw [HKn.out, ← HN.out]; rfl, HP3.out⟩
/-- SO ALL ROWS ARE LAID OUT. -/
theorem rows_ok {m : List UInt8} (hm : m.length ≤ 10000) (f : Nat) : RowsOK m f := by
  induction f using Nat.strongRecOn with
  | _ f ih => exact rows_any hm ih
end Go.Proofs.YtndpjdmfkhjiiaaGreatDoor
