/- 5 texts in one. -/
import Derived.Test.YtndpjdmfkhjiiaaGreatDoorProg
import Derived.Test.YtndpjdmfkhjiiaaGreatDoorQ74d152
import Derived.Test.YtndpjdmfkhjiiaaGreatDoorQ3d7cfc
import Derived.Test.YtndpjdmfkhjiiaaGreatDoorQ082284
import Derived.Test.YtndpjdmfkhjiiaaGreatDoorMSetBV
import Derived.Test.YtndpjdmfkhjiiaaGreatDoorMExpV
import Derived.Test.YtndpjdmfkhjiiaaGreatDoorQfa040f
import Derived.BigQuiet
import Derived.Test.YtndpjdmfkhjiiaaGreatDoorMFromV
/- The parser of masks: what is between brackets. -/
set_option linter.unusedVariables false
set_option linter.unusedSimpArgs false
namespace Go.Proofs.YtndpjdmfkhjiiaaGreatDoor
open Go.RowKit
attribute [local go_sem] bs_size bs_toList bs_append bs_get bs_extract

theorem comesB_one (m : List UInt8) (i : Nat) (c : UInt8) : comesB [c] m i = isAt m i c.toNat := by
  unfold comesB isAt
  cases m[i]? with
  | none => rfl
  | some d =>
    simp only [List.contains_cons, List.contains_nil, Bool.or_false]
    rw [Bool.eq_iff_iff]
    simp [← UInt8.toNat_inj]
theorem comesB_nat (m : List UInt8) (i : Nat) (c : UInt8) (n : Nat) (h : c.toNat = n) : comesB [c] m i = isAt m i n := by rw [comesB_one, h]
theorem contains_nat (c : UInt8) (l : List UInt8) : l.contains c = l.any fun d => decide (c.toNat = d.toNat) := by
  induction l with
  | nil => rfl
  | cons b l ih =>
    rw [List.contains_cons, List.any_cons, ih]
    congr 1
    rw [Bool.eq_iff_iff]
    simp [← UInt8.toNat_inj]
theorem comesB_bad {m : List UInt8} {i : Nat} {c : UInt8} (h : m[i]? = some c) : comesB [91, 93, 92, 94, 45] m i = badIn c := by
  unfold comesB
  rw [h]
  simp only [contains_nat, badIn, List.any_cons, List.any_nil, Bool.or_false, Bool.or_assoc]
  rfl

theorem parserAt.draw {w : World} {F : Nat → Prop} {pb n : Nat} {m : List UInt8} {i g : Nat} {S : List St} (h : parserAt w F pb m i S g) : parserAt (w.drewN n) F pb m i S g := h

set_option maxRecDepth 20000 in
set_option maxHeartbeats 1000000 in
theorem bracketed_any (w : World) (F : Nat → Prop) (pb : Nat) (m : List UInt8) (i g : Nat) (S : List St) (hp : parserAt w F pb m i S g) (hm : m.length ≤ 1000000) (hi : i ≤ m.length) :
    Calls Tryz.prog 173 #[.pointer (some ⟨pb, 0, none⟩)] w fun e w' => (∃ n, w' = w.drewN n) ∧ ((∃ c, pBr m i = some (.ok c) ∧ e = .returned (.int .u8 (c.toNat : Int))) ∨ (pBr m i = some (.error (1, i)) ∧ e = faulted 1 i)) := by
  have HP : Hid (∀ n, parserAt (w.drewN n) F pb m i S g) := hide fun n => hp
  have hp2 := hp
  obtain ⟨sv, rs, ⟨h1, h2, h3⟩, _⟩ := hp2
  obtain ⟨c0, c1, c2, c3⟩ := four_cells h2
  have HBL : Hid (∀ n, (w.drewN n).heap[pb]? = some (.cells #[.string (bs m), .int .i64 (i : Int), sv, .int .i64 (g : Int)] 143 (0, 0))) := hide fun n => h2
  clear h2 h3 hp
  go_enter Tryz.func173, Tryz.ntmps173
  by_cases hlt : i < m.length
  · obtain ⟨c, hc⟩ : ∃ c, m[i] = c := ⟨_, rfl⟩
    have hget : m[i]? = some c := by rw [List.getElem?_eq_getElem hlt, hc]
    have hne : ((i : Int) == m.length) = false := by rw [beq_eq_false_iff_ne]; omega
    have hlt2 : (i : Int) < m.length := by omega
    have HC : Hid (comesB [91, 93, 92, 94, 45] m i = badIn c) := hide (comesB_bad hget)
    have HQ : Hid (pBr m i = if badIn c then some (.error (1, i)) else some (.ok c)) := by show _ = _; unfold pBr; rw [hget]
    have HS : Hid (∀ n, Calls Tryz.prog 154 #[.pointer (some ⟨pb, 0, none⟩), .string { data := #[91, 93, 92, 94, 45] }] (w.drewN n) fun e w' => e = .returned (.bool (badIn c)) ∧ ∃ k, w' = (w.drewN n).drewN k) := by
      intro n
      have h := comes_any (w.drewN n) F pb m [91, 93, 92, 94, 45] i g S (HP.out n) hm hi
      rw [HC.out] at h
      exact h
    clear hget
    cases hb : badIn c with
    | true =>
      rw [hb] at HS HQ
      clear hb
      go_wp2
      go_quiet ((go_at_call 154; exact Calls.quiet_of (HS.out _)))
      go_wp2_with fail
      refine (giveUp_any _ F pb m i g S 1 (HP.out _)).mono ?_
      rintro e w' ⟨rfl, rfl⟩
      exact ⟨rfl, ⟨_, rfl⟩, .inr ⟨HQ.out, rfl⟩⟩
    | false =>
      rw [hb] at HS HQ
      clear hb
      go_wp2
      go_quiet ((go_at_call 154; exact Calls.quiet_of (HS.out _)))
      go_wp2
      have c0' := (four_cells (HBL.out nq)).1
      have c1' := (four_cells (HBL.out nq)).2.1
      go_quiet (fail)
      go_wp2
      go_ret
      exact ⟨⟨_, World.drewN_drewN _ _ _⟩, .inl ⟨c, HQ.out, rfl⟩⟩
  · have hne : ((i : Int) == m.length) = true := by rw [beq_iff_eq]; omega
    have HQ : Hid (pBr m i = some (.error (1, i))) := by show _ = _; unfold pBr; rw [List.getElem?_eq_none_iff.2 (by omega)]
    go_wp2
    go_quiet (fail)
    go_wp2_with fail
    refine (giveUp_any _ F pb m i g S 1 (HP.out _)).mono ?_
    rintro e w' ⟨rfl, rfl⟩
    exact ⟨rfl, ⟨_, rfl⟩, .inr ⟨HQ.out, rfl⟩⟩

/-- Two set aside: where a parser lies, its place is put on. -/
theorem parserAt.on {w : World} {F : Nat → Prop} {pb : Nat} {m : List UInt8} {i i' g : Nat} {S : List St} (h : parserAt w F pb m i S g) (u : Value) (hu : u = .int .i64 (i' : Int)) : parserAt (w.setCell ⟨pb, 1, none⟩ u) F pb m i' S g := by
  obtain ⟨sv, rs, h, e⟩ := h
  subst hu
  exact ⟨sv, rs, h.put (by simp), e⟩
theorem parserAt.cells {w : World} {F : Nat → Prop} {pb : Nat} {m : List UInt8} {i g : Nat} {S : List St} (h : parserAt w F pb m i S g) : pb < w.heap.size ∧ (∀ k, F k → k < w.heap.size) ∧ ∃ ao cp, w.heap[pb]? = some (.cells #[.string (bs m), .int .i64 (i : Int), .slice ao S.length cp, .int .i64 (g : Int)] 143 (0, 0)) := by
  obtain ⟨sv, rs, ⟨h1, h2, h3, _⟩, e⟩ := h
  obtain ⟨ao, cp, rfl⟩ := own_shape h3
  exact ⟨lt_of_block h2, h1, ao, cp, by rw [← e, List.length_map]; exact h2⟩

/-- What a set of bytes that is handed back lies in. -/
theorem set_out {w : World} {b : Nat} {x0 x1 x2 x3 : Nat} (h : w.heap[b]? = some (.cells #[.int .u64 (x0 : Nat), .int .u64 (x1 : Nat), .int .u64 (x2 : Nat), .int .u64 (x3 : Nat)] 148 (0, 0))) : wordsAt w b [x0, x1, x2, x3] := h

/-- A cell of another kind is written: a parser stays. -/
theorem parserAt.other {w : World} {F : Nat → Prop} {pb b o : Nat} {m : List UInt8} {i g : Nat} {S : List St} (h : parserAt w F pb m i S g) {c : Array Value} {t : TypeId} {fr : Nat × Nat} (hb : w.heap[b]? = some (.cells c t fr)) (h1 : (143 : Nat) ≠ t) (h2 : (150 : Nat) ≠ t) (h3 : (3 : Nat) ≠ t) (u : Value) : parserAt (w.setCell ⟨b, o, none⟩ u) F pb m i S g := by
  obtain ⟨sv, rs, ⟨k1, k2, k3, k4, k5⟩, e⟩ := h
  have hne : pb ≠ b := by
    rintro rfl
    rw [k2] at hb
    simp at hb
    exact h1 hb.2.1
  refine ⟨sv, rs, ⟨fun k hk => by have := k1 k hk; simpa [World.setCell] using this, ?_, ?_, fun j r hr => (k4 j r hr).keep fun k hk => ?_, k5⟩, e⟩
  · rw [Below.heap_setCell _ _ _ _ hne]; exact k2
  · exact ownsRow_setCell_other (a := ⟨b, o, none⟩) k3 (own_apart k3 hb h2) _
  · exact Below.heap_setCell _ _ _ _ (by rintro rfl; exact (k4 j r hr).apart hb h3 hk)
/-- A set of bytes is put into a block of its own. -/
theorem set_put {w : World} {F : Nat → Prop} {pb b : Nat} {m : List UInt8} {i g : Nat} {S : List St} (h : parserAt w F pb m i S g) {l : List Nat} (hb : wordsAt w b l) (x0 x1 x2 x3 : Nat) (hl : l.length = 4) :
    parserAt ((((w.setCell ⟨b, 0, none⟩ (.int .u64 x0)).setCell ⟨b, 1, none⟩ (.int .u64 x1)).setCell ⟨b, 2, none⟩ (.int .u64 x2)).setCell ⟨b, 3, none⟩ (.int .u64 x3)) F pb m i S g ∧
    wordsAt ((((w.setCell ⟨b, 0, none⟩ (.int .u64 x0)).setCell ⟨b, 1, none⟩ (.int .u64 x1)).setCell ⟨b, 2, none⟩ (.int .u64 x2)).setCell ⟨b, 3, none⟩ (.int .u64 x3)) b [x0, x1, x2, x3] ∧
    (∀ k, k ≠ b → ((((w.setCell ⟨b, 0, none⟩ (.int .u64 x0)).setCell ⟨b, 1, none⟩ (.int .u64 x1)).setCell ⟨b, 2, none⟩ (.int .u64 x2)).setCell ⟨b, 3, none⟩ (.int .u64 x3)).heap[k]? = w.heap[k]?) := by
  have b1 := hb.set 0 x0
  have b2 := b1.set 1 x1
  have b3 := b2.set 2 x2
  have b4 := b3.set 3 x3
  have p1 := h.other (o := 0) hb (by decide) (by decide) (by decide) (.int .u64 x0)
  have p2 := p1.other (o := 1) b1 (by decide) (by decide) (by decide) (.int .u64 x1)
  have p3 := p2.other (o := 2) b2 (by decide) (by decide) (by decide) (.int .u64 x2)
  have p4 := p3.other (o := 3) b3 (by decide) (by decide) (by decide) (.int .u64 x3)
  refine ⟨p4, ?_, fun k hk => ?_⟩
  · match l, hl with
    | [_, _, _, _], _ => exact b4
  · rw [Below.heap_setCell _ _ _ _ hk, Below.heap_setCell _ _ _ _ hk, Below.heap_setCell _ _ _ _ hk, Below.heap_setCell _ _ _ _ hk]
/-- What was laid first, and written last, is no change. -/
theorem kept_out {w W w3 w4 : World} {tb mb : Nat} (gW : Grow w W) (hs : w.heap.size ≤ W.heap.size) (h : Kept2 tb mb W w3) (hsz : w3.heap.size ≤ w4.heap.size) (hk : ∀ k, k ≠ w.heap.size → w4.heap[k]? = w3.heap[k]?) (h1 : w4.os = w3.os) (h2 : w4.tape = w3.tape) (h3 : w4.output = w3.output) : Kept2 tb mb w w4 :=
  ⟨h1.trans (h.os.trans gW.os), h2.trans (h.tape.trans gW.tape), h3.trans (h.output.trans gW.output), Nat.le_trans gW.size (Nat.le_trans h.size hsz), fun k hk1 hn1 hn2 => (hk k (by omega)).trans ((h.block k (by omega) hn1 hn2).trans (gW.block k hk1))⟩
theorem wordsAt.keep {w w' : World} {b : Nat} {l : List Nat} (h : wordsAt w b l) (g : w'.heap[b]? = w.heap[b]?) : wordsAt w' b l := g.trans h

set_option maxRecDepth 20000 in
set_option maxHeartbeats 2000000 in
theorem pspan_any (w : World) (F : Nat → Prop) (pb : Nat) (m : List UInt8) (i g : Nat) (S : List St) (hp : parserAt w F pb m i S g) (hm : m.length ≤ 1000000) (hi : i ≤ m.length) :
    Calls Tryz.prog 169 #[.pointer (some ⟨pb, 0, none⟩)] w fun e w' => Kept2 pb pb w w' ∧ ((∃ s j v, pSpan m i = some (.ok (s, j)) ∧ e = .returned (setV v) ∧ wordsIs v s ∧ parserAt w' F pb m j S g) ∨ (∃ er a : Nat, pSpan m i = some (.error (er, a)) ∧ e = faulted er a)) := by
  obtain ⟨W, HW⟩ : ∃ W, Hid (W = w.alloc (.cells #[.int .u64 0, .int .u64 0, .int .u64 0, .int .u64 0] 148)) := ⟨_, hide rfl⟩
  have gW : Grow w W := by rw [HW.out]; exact (Grow.refl _).alloc _
  have hWb : wordsAt W w.heap.size [0, 0, 0, 0] := by rw [HW.out]; exact heap_alloc_new _ _
  have hWs : W.heap.size = w.heap.size + 1 := by rw [HW.out]; simp
  have hpW := hp.grow gW
  obtain ⟨hpb, hB, _⟩ := hp.cells
  have HWB := hide hWb
  have HPW := hide hpW
  clear hp hWb hpW
  go_enter Tryz.func169, Tryz.ntmps169
  go_wp2_with fail
  rw [← HW.out]
  refine (bracketed_any W F pb m i g S HPW.out hm hi).mono ?_
  rintro e w1 ⟨⟨n, rfl⟩, (⟨a, ha, rfl⟩ | ⟨ha, rfl⟩)⟩
  · have hlt := get_lt (pBr_ok ha).1
    have hab := a.toNat_lt
    have HA := hide ha
    have HP1 : Hid (parserAt (W.drewN n) F pb m i S g) := HPW
    clear ha
    obtain ⟨_, _, ao, cp, hblk⟩ := HP1.out.cells
    obtain ⟨c0, c1, c2, c3⟩ := four_cells hblk
    obtain ⟨z0, z1, z2, z3⟩ := four_free hblk
    clear hblk c0 c2 c3
    obtain ⟨W1, HW1⟩ : ∃ W1, Hid (W1 = (W.drewN n).setCell ⟨pb, 1, none⟩ (.int .i64 ((i : Int) + 1))) := ⟨_, hide rfl⟩
    have HP2 : Hid (parserAt W1 F pb m (i + 1) S g) := by rw [HW1.out]; exact hide (HP1.out.on _ (by simp))
    have HK1 : Hid (Kept2 pb pb W W1) := by rw [HW1.out]; exact hide ((Kept2.drewN (.refl _ _ _)).trans (.setT _ _))
    have hwr : IntKind.i64.wrap ((i : Int) + 1) = (i : Int) + 1 := wrap_i64_small _ (by omega) (by omega)
    go_wp2_with fail
    rw [← HW1.out]
    refine (skip_any W1 F pb m [45] (i + 1) g S HP2.out hm (by omega)).mono ?_
    rintro e w2 ⟨rfl, hk2, hp2⟩
    rw [comesB_nat _ _ 45 45 rfl] at hp2 ⊢
    have HK2 := hide (HK1.out.trans hk2)
    have HP3 := hide hp2
    clear hk2 hp2
    cases hd : isAt m (i + 1) 45 with
    | false =>
      have HQ : Hid (pSpan m i = some (.ok (between a a, i + 1))) := by show _ = _; unfold pSpan; rw [HA.out]; simp only [bindO]; rw [hd]; simp
      rw [hd] at HP3
      clear hd
      go_wp2_with fail
      refine (span_any a a w2 (Nat.le_refl _)).mono ?_
      rintro e w3 ⟨v, rfl, hv, hg3⟩
      obtain ⟨x0, x1, x2, x3, rfl⟩ := words_four hv
      have hw3 : wordsAt w3 w.heap.size [0, 0, 0, 0] := hg3.get (HWB.out.keep (HK2.out.block _ (by omega) (by omega) (by omega)))
      obtain ⟨q0, q1, q2, q3⟩ := hw3.four
      have f0 := not_frozen (k := 0) hw3
      have f1 := not_frozen (k := 1) hw3
      have f2 := not_frozen (k := 2) hw3
      have f3 := not_frozen (k := 3) hw3
      obtain ⟨k1, k2, k3⟩ := set_put (HP3.out.grow hg3) hw3 x0 x1 x2 x3 rfl
      have K1 := hide k1
      have K2 := hide k2
      have K3 := hide k3
      have HV := hide hv
      have HK3 := hide (HK2.out.trans (.grow hg3))
      clear hw3 k1 k2 k3 hv hg3
      rw [show setV [x0, x1, x2, x3] = .agg #[.int .u64 (x0 : Int), .int .u64 (x1 : Int), .int .u64 (x2 : Int), .int .u64 (x3 : Int)] from rfl]
      go_wp2
      refine bodyPost_ret (v := setV [x0, x1, x2, x3]) (results_cell_row (p := 2) (ty := 148) rfl _ _ w.heap.size _ _ _ _ rfl K2.out Tryz.underlying148 rfl info_set) rfl ⟨?_, .inl ⟨_, _, _, HQ.out, rfl, HV.out, K1.out⟩⟩
      exact kept_out gW (by omega) HK3.out (by simp [World.setCell]) K3.out rfl rfl rfl
    | true =>
      rw [hd] at HP3
      have HP4 : Hid (parserAt w2 F pb m (i + 2) S g) := HP3
      have hlt2 := isAt_lt hd
      have HD := hide hd
      clear hd HP3
      go_wp2_with fail
      refine (bracketed_any w2 F pb m (i + 2) g S HP4.out hm (by omega)).mono ?_
      rintro e w4 ⟨⟨n4, rfl⟩, (⟨b, hb, rfl⟩ | ⟨hb, rfl⟩)⟩
      · have HP5 : Hid (parserAt (w2.drewN n4) F pb m (i + 2) S g) := HP4
        have hlt3 := get_lt (pBr_ok hb).1
        have hbb := b.toNat_lt
        have HB := hide hb
        have HK4 : Hid (Kept2 pb pb W (w2.drewN n4)) := hide (HK2.out.trans (Kept2.drewN (.refl _ _ _)))
        clear hb
        by_cases hlt : (b.toNat : Int) < a.toNat
        · have HQ : Hid (pSpan m i = some (.error (3, i + 2))) := by
            show _ = _; unfold pSpan; rw [HA.out]; simp only [bindO]; rw [HD.out, HB.out]; simp only [if_true]; rw [if_pos (by omega)]
          go_wp2_with fail
          refine (giveUp_any _ F pb m (i + 2) g S 3 HP5.out).mono ?_
          rintro e w5 ⟨rfl, rfl⟩
          exact ⟨rfl, ⟨HK4.out.os.trans gW.os, HK4.out.tape.trans gW.tape, HK4.out.output.trans gW.output, Nat.le_trans gW.size HK4.out.size, fun k h1 h2 h3 => (HK4.out.block k (by omega) h2 h3).trans (gW.block k h1)⟩, .inr ⟨3, i + 2, HQ.out, rfl⟩⟩
        · have HQ : Hid (pSpan m i = some (.ok (between a b, i + 3))) := by
            show _ = _; unfold pSpan; rw [HA.out]; simp only [bindO]; rw [HD.out, HB.out]; simp only [if_true]; rw [if_neg (by omega)]
          obtain ⟨_, _, ao5, cp5, hblk⟩ := HP5.out.cells
          obtain ⟨c0, c1, c2, c3⟩ := four_cells hblk
          obtain ⟨y0, y1, y2, y3⟩ := four_free hblk
          clear hblk c0 c2 c3
          obtain ⟨W5, HW5⟩ : ∃ W5, Hid (W5 = (w2.drewN n4).setCell ⟨pb, 1, none⟩ (.int .i64 ((i : Int) + 2 + 1))) := ⟨_, hide rfl⟩
          have HP6 : Hid (parserAt W5 F pb m (i + 3) S g) := by rw [HW5.out]; exact hide (HP5.out.on _ (by simp; omega))
          have HK5 : Hid (Kept2 pb pb W W5) := by rw [HW5.out]; exact hide (HK4.out.trans (.setT _ _))
          have hwr2 : IntKind.i64.wrap ((i : Int) + 2 + 1) = (i : Int) + 2 + 1 := wrap_i64_small _ (by omega) (by omega)
          go_wp2_with fail
          rw [← HW5.out]
          refine (span_any a b W5 (by omega)).mono ?_
          rintro e w6 ⟨v, rfl, hv, hg6⟩
          obtain ⟨x0, x1, x2, x3, rfl⟩ := words_four hv
          have hw6 : wordsAt w6 w.heap.size [0, 0, 0, 0] := hg6.get (HWB.out.keep (HK5.out.block _ (by omega) (by omega) (by omega)))
          obtain ⟨q0, q1, q2, q3⟩ := hw6.four
          have f0 := not_frozen (k := 0) hw6
          have f1 := not_frozen (k := 1) hw6
          have f2 := not_frozen (k := 2) hw6
          have f3 := not_frozen (k := 3) hw6
          obtain ⟨k1, k2, k3⟩ := set_put (HP6.out.grow hg6) hw6 x0 x1 x2 x3 rfl
          have K1 := hide k1
          have K2 := hide k2
          have K3 := hide k3
          have HV := hide hv
          have HK3 := hide (HK5.out.trans (.grow hg6))
          clear hw6 k1 k2 k3 hv hg6
          rw [show setV [x0, x1, x2, x3] = .agg #[.int .u64 (x0 : Int), .int .u64 (x1 : Int), .int .u64 (x2 : Int), .int .u64 (x3 : Int)] from rfl]
          go_wp2
          refine bodyPost_ret (v := setV [x0, x1, x2, x3]) (results_cell_row (p := 2) (ty := 148) rfl _ _ w.heap.size _ _ _ _ rfl K2.out Tryz.underlying148 rfl info_set) rfl ⟨?_, .inl ⟨_, _, _, HQ.out, rfl, HV.out, K1.out⟩⟩
          exact kept_out gW (by omega) HK3.out (by simp [World.setCell]) K3.out rfl rfl rfl
      · have HQ : Hid (pSpan m i = some (.error (1, i + 2))) := by
          show _ = _; unfold pSpan; rw [HA.out]; simp only [bindO]; rw [HD.out, hb]; simp
        have HK4 : Hid (Kept2 pb pb W (w2.drewN n4)) := hide (HK2.out.trans (Kept2.drewN (.refl _ _ _)))
        exact ⟨rfl, ⟨HK4.out.os.trans gW.os, HK4.out.tape.trans gW.tape, HK4.out.output.trans gW.output, Nat.le_trans gW.size HK4.out.size, fun k h1 h2 h3 => (HK4.out.block k (by omega) h2 h3).trans (gW.block k h1)⟩, .inr ⟨1, i + 2, HQ.out, rfl⟩⟩
  · have HQ : Hid (pSpan m i = some (.error (1, i))) := by
      show _ = _; unfold pSpan; rw [ha]; rfl
    exact ⟨rfl, ⟨gW.os, gW.tape, gW.output, gW.size, fun k h1 h2 h3 => gW.block k h1⟩, .inr ⟨1, i, HQ.out, rfl⟩⟩

end Go.Proofs.YtndpjdmfkhjiiaaGreatDoor

/- The parser of masks: a byte behind a backslash, brackets, and a step that takes a byte. -/
set_option linter.unusedVariables false
set_option linter.unusedSimpArgs false
namespace Go.Proofs.YtndpjdmfkhjiiaaGreatDoor
open Go.RowKit
attribute [local go_sem] bs_size bs_toList bs_append bs_get bs_extract

/-- A byte behind a backslash. -/
def pEsc (m : List UInt8) (i : Nat) : Out ((UInt8 → Bool) × Nat) := match m[i]? with
  | none => some (.error (1, i))
  | some d => if isAl d || isNu d then some (.error (1, i)) else some (.ok (between d d, i + 1))

theorem kept_in {w W w' : World} {tb mb : Nat} (gW : Grow w W) (h : Kept2 tb mb W w') : Kept2 tb mb w w' := (Kept2.grow gW).trans h

set_option maxRecDepth 20000 in
set_option maxHeartbeats 4000000 in
theorem escaped_any (w : World) (F : Nat → Prop) (pb : Nat) (m : List UInt8) (i g : Nat) (S : List St) (hp : parserAt w F pb m i S g) (hm : m.length ≤ 1000000) (hi : i ≤ m.length) :
    Calls Tryz.prog 168 #[.pointer (some ⟨pb, 0, none⟩)] w fun e w' => Kept2 pb pb w w' ∧ ((∃ s j v, pEsc m i = some (.ok (s, j)) ∧ e = .returned (setV v) ∧ wordsIs v s ∧ parserAt w' F pb m j S g) ∨ (∃ er a : Nat, pEsc m i = some (.error (er, a)) ∧ e = faulted er a)) := by
  obtain ⟨W, HW⟩ : ∃ W, Hid (W = w.alloc (.cells #[.int .u64 0, .int .u64 0, .int .u64 0, .int .u64 0] 148)) := ⟨_, hide rfl⟩
  have gW : Grow w W := by rw [HW.out]; exact (Grow.refl _).alloc _
  have hWb : wordsAt W w.heap.size [0, 0, 0, 0] := by rw [HW.out]; exact heap_alloc_new _ _
  have hWs : W.heap.size = w.heap.size + 1 := by rw [HW.out]; simp
  have hpW := hp.grow gW
  obtain ⟨hpb, hB, _⟩ := hp.cells
  have HWB := hide hWb
  have HP : Hid (∀ n, parserAt (W.drewN n) F pb m i S g) := hide fun n => hpW
  obtain ⟨_, _, ao, cp, hblk⟩ := hpW.cells
  obtain ⟨c0, c1, c2, c3⟩ := four_cells hblk
  have HBL : Hid (∀ n, (W.drewN n).heap[pb]? = some (.cells #[.string (bs m), .int .i64 (i : Int), .slice ao S.length cp, .int .i64 (g : Int)] 143 (0, 0))) := hide fun n => hblk
  clear hp hWb hpW hblk
  go_enter Tryz.func168, Tryz.ntmps168
  by_cases hlt : i < m.length
  · obtain ⟨c, hc⟩ : ∃ c, m[i] = c := ⟨_, rfl⟩
    have hget : m[i]? = some c := by rw [List.getElem?_eq_getElem hlt, hc]
    have hne : ((i : Int) == m.length) = false := by rw [beq_eq_false_iff_ne]; omega
    have hlt2 : (i : Int) < m.length := by omega
    have hcl := c.toNat_lt
    have HQ : Hid (pEsc m i = if isAl c || isNu c then some (.error (1, i)) else some (.ok (between c c, i + 1))) := by show _ = _; unfold pEsc; rw [hget]
    have HL : Hid (∀ w, Calls Tryz.prog 172 #[.int .u8 (c.toNat : Int)] w fun e w' => e = .returned (.bool (isAl c)) ∧ w' = w) := hide fun w => isLetter_any c w
    have HN : Hid (∀ w, Calls Tryz.prog 115 #[.int .u8 (c.toNat : Int)] w fun e w' => e = .returned (.bool (isNu c)) ∧ w' = w) := hide fun w => isDigit_any c w
    clear hget
    cases ha : isAl c with
    | true =>
      rw [ha] at HL HQ
      clear ha
      go_wp2_with fail
      rw [← HW.out]
      go_quiet ((go_at_call 172; exact Calls.quiet_of_same (HL.out _)))
      go_wp2_with fail
      refine (giveUp_any _ F pb m i g S 1 (HP.out _)).mono ?_
      rintro e w' ⟨rfl, rfl⟩
      exact ⟨rfl, kept_in gW (Kept2.drewN (.refl _ _ _)), .inr ⟨1, i, HQ.out, rfl⟩⟩
    | false =>
      rw [ha] at HL HQ
      clear ha
      cases hn : isNu c with
      | true =>
        rw [hn] at HN HQ
        clear hn
        go_wp2_with fail
        rw [← HW.out]
        go_quiet (first | (go_at_call 172; exact Calls.quiet_of_same (HL.out _)) | (go_at_call 115; exact Calls.quiet_of_same (HN.out _)))
        go_wp2_with fail
        refine (giveUp_any _ F pb m i g S 1 (HP.out _)).mono ?_
        rintro e w' ⟨rfl, rfl⟩
        exact ⟨rfl, kept_in gW (Kept2.drewN (.refl _ _ _)), .inr ⟨1, i, HQ.out, rfl⟩⟩
      | false =>
        rw [hn] at HN HQ
        clear hn
        go_wp2_with fail
        rw [← HW.out]
        go_quiet (first | (go_at_call 172; exact Calls.quiet_of_same (HL.out _)) | (go_at_call 115; exact Calls.quiet_of_same (HN.out _)))
        obtain ⟨W1, HW1⟩ : ∃ W1, Hid (W1 = W.drewN nq) := ⟨_, hide rfl⟩
        rw [← HW1.out]
        have HP1 : Hid (∀ n, parserAt (W1.drewN n) F pb m i S g) := by rw [HW1.out]; exact hide fun n => (HP.out nq).draw
        have hblk1 : W1.heap[pb]? = some (.cells #[.string (bs m), .int .i64 (i : Int), .slice ao S.length cp, .int .i64 (g : Int)] 143 (0, 0)) := by rw [HW1.out]; exact HBL.out nq
        have HK1 : Hid (Kept2 pb pb W W1) := by rw [HW1.out]; exact hide (Kept2.drewN (.refl _ _ _))
        obtain ⟨k0, k1, _, _⟩ := four_cells hblk1
        have HBL1 := hide hblk1
        clear hblk1
        go_wp2_with fail
        go_quiet (fail)
        obtain ⟨W2, HW2⟩ : ∃ W2, Hid (W2 = W1.drewN nq) := ⟨_, hide rfl⟩
        rw [← HW2.out]
        have HP2 : Hid (parserAt W2 F pb m i S g) := by rw [HW2.out]; exact hide (HP1.out nq)
        have hblk2 : W2.heap[pb]? = some (.cells #[.string (bs m), .int .i64 (i : Int), .slice ao S.length cp, .int .i64 (g : Int)] 143 (0, 0)) := by rw [HW2.out]; exact HBL1.out
        have HK2 : Hid (Kept2 pb pb W W2) := by rw [HW2.out]; exact hide (HK1.out.trans (Kept2.drewN (.refl _ _ _)))
        obtain ⟨l0, l1, _, _⟩ := four_cells hblk2
        obtain ⟨y0, y1, _, _⟩ := four_free hblk2
        clear hblk2
        obtain ⟨W3, HW3⟩ : ∃ W3, Hid (W3 = W2.setCell ⟨pb, 1, none⟩ (.int .i64 ((i : Int) + 1))) := ⟨_, hide rfl⟩
        have HP3 : Hid (parserAt W3 F pb m (i + 1) S g) := by rw [HW3.out]; exact hide (HP2.out.on _ (by simp))
        have HK3 : Hid (Kept2 pb pb W W3) := by rw [HW3.out]; exact hide (HK2.out.trans (.setT _ _))
        have hwr : IntKind.i64.wrap ((i : Int) + 1) = (i : Int) + 1 := wrap_i64_small _ (by omega) (by omega)
        go_wp2_with fail
        rw [← HW3.out]
        refine (span_any c c W3 (Nat.le_refl _)).mono ?_
        rintro e w3 ⟨v, rfl, hv, hg3⟩
        obtain ⟨x0, x1, x2, x3, rfl⟩ := words_four hv
        have hw3 : wordsAt w3 w.heap.size [0, 0, 0, 0] := hg3.get (HWB.out.keep (HK3.out.block _ (by omega) (by omega) (by omega)))
        obtain ⟨q0, q1, q2, q3⟩ := hw3.four
        have f0 := not_frozen (k := 0) hw3
        have f1 := not_frozen (k := 1) hw3
        have f2 := not_frozen (k := 2) hw3
        have f3 := not_frozen (k := 3) hw3
        obtain ⟨r1, r2, r3⟩ := set_put (HP3.out.grow hg3) hw3 x0 x1 x2 x3 rfl
        have R1 := hide r1
        have R2 := hide r2
        have R3 := hide r3
        have HV := hide hv
        have HK4 := hide (HK3.out.trans (.grow hg3))
        clear hw3 r1 r2 r3 hv hg3
        rw [show setV [x0, x1, x2, x3] = .agg #[.int .u64 (x0 : Int), .int .u64 (x1 : Int), .int .u64 (x2 : Int), .int .u64 (x3 : Int)] from rfl]
        go_wp2
        refine bodyPost_ret (v := setV [x0, x1, x2, x3]) (results_cell_row (p := 2) (ty := 148) rfl _ _ w.heap.size _ _ _ _ rfl R2.out Tryz.underlying148 rfl info_set) rfl ⟨?_, .inl ⟨_, _, _, HQ.out, rfl, HV.out, R1.out⟩⟩
        exact kept_out gW (by omega) HK4.out (by simp [World.setCell]) R3.out rfl rfl rfl
  · have hne : ((i : Int) == m.length) = true := by rw [beq_iff_eq]; omega
    have HQ : Hid (pEsc m i = some (.error (1, i))) := by show _ = _; unfold pEsc; rw [List.getElem?_eq_none_iff.2 (by omega)]
    go_wp2_with fail
    rw [← HW.out]
    go_quiet (fail)
    go_wp2_with fail
    refine (giveUp_any _ F pb m i g S 1 (HP.out _)).mono ?_
    rintro e w' ⟨rfl, rfl⟩
    exact ⟨rfl, kept_in gW (Kept2.drewN (.refl _ _ _)), .inr ⟨1, i, HQ.out, rfl⟩⟩

set_option maxRecDepth 20000 in
set_option maxHeartbeats 4000000 in
theorem take_any (w : World) (F : Nat → Prop) (pb : Nat) (m : List UInt8) (i g : Nat) (S : List St) (v : List Nat) (s : UInt8 → Bool) (hp : parserAt w F pb m i S g) (hv : wordsIs v s) (hS : S.length ≤ 1000000) :
    Calls Tryz.prog 165 #[.pointer (some ⟨pb, 0, none⟩), setV v] w fun e w' => e = .returned (.tuple #[]) ∧ KeptX F pb w w' ∧ parserAt w' F pb m i (S ++ [.take s]) g := by
  obtain ⟨x0, x1, x2, x3, rfl⟩ := words_four hv
  obtain ⟨W, HW⟩ : ∃ W, Hid (W = w.alloc (.cells #[.int .u64 (x0 : Int), .int .u64 (x1 : Int), .int .u64 (x2 : Int), .int .u64 (x3 : Int)] 148)) := ⟨_, hide rfl⟩
  have gW : Grow w W := by rw [HW.out]; exact (Grow.refl _).alloc _
  have hWb : wordsAt W w.heap.size [x0, x1, x2, x3] := by rw [HW.out]; exact heap_alloc_new _ _
  have HP := hide (hp.grow gW)
  obtain ⟨hpb, hB, _⟩ := hp.cells
  obtain ⟨c0, c1, c2, c3⟩ := hWb.four
  have HV := hide hv
  clear hp hWb hv
  rw [show setV [x0, x1, x2, x3] = .agg #[.int .u64 (x0 : Int), .int .u64 (x1 : Int), .int .u64 (x2 : Int), .int .u64 (x3 : Int)] from rfl]
  go_enter Tryz.func165, Tryz.ntmps165
  go_wp2_with fail
  rw [← HW.out]
  go_wp2_with fail
  refine (add_any W F pb m i g S ⟨.take s, x0, x1, x2, x3, 0, .slice none 0 0⟩ HP.out rfl (fun w => ⟨World.ownsRow_nil _ _ _ _, HV.out⟩) hS).mono ?_
  rintro e w1 ⟨rfl, hk, hp1⟩
  go_wp2
  go_end0
  exact ⟨rfl, (keptX_grow gW hB).trans hk, hp1⟩

end Go.Proofs.YtndpjdmfkhjiiaaGreatDoor

/- The parser of masks: brackets. -/
set_option linter.unusedVariables false
set_option linter.unusedSimpArgs false
namespace Go.Proofs.YtndpjdmfkhjiiaaGreatDoor
open Go.RowKit
attribute [local go_sem] bs_size bs_toList bs_append bs_get bs_extract

theorem Kept2.mono {b c : Nat} {w w' : World} (h : Kept2 b b w w') : Kept2 b c w w' := ⟨h.os, h.tape, h.output, h.size, fun k h1 h2 _ => h.block k h1 h2 h2⟩
theorem Kept2.setM' {tb mb o : Nat} {w w' : World} (h : Kept2 tb mb w w') (v : Value) : Kept2 tb mb w (w'.setCell ⟨mb, o, none⟩ v) := h.trans (.setM _ _)
theorem set_four {w : World} {b : Nat} {l : List Nat} (hb : wordsAt w b l) (x0 x1 x2 x3 : Nat) (hl : l.length = 4) :
    wordsAt ((((w.setCell ⟨b, 0, none⟩ (.int .u64 x0)).setCell ⟨b, 1, none⟩ (.int .u64 x1)).setCell ⟨b, 2, none⟩ (.int .u64 x2)).setCell ⟨b, 3, none⟩ (.int .u64 x3)) b [x0, x1, x2, x3] := by
  have b1 := hb.set 0 x0
  have b2 := b1.set 1 x1
  have b3 := b2.set 2 x2
  have b4 := b3.set 3 x3
  match l, hl with
  | [_, _, _, _], _ => exact b4

theorem brack_kept {w W W4 w6 w7 : World} {pb tb : Nat} (gW : Grow w W) (hs : W.heap.size = w.heap.size + 1) (h4 : Kept2 pb pb W W4) (h4s : W4.heap.size = tb + 1) (h6 : Kept2 pb tb W4 w6) (htb : w.heap.size < tb) (hsz : w6.heap.size ≤ w7.heap.size) (hk : ∀ k, k ≠ w.heap.size → w7.heap[k]? = w6.heap[k]?) (h1 : w7.os = w6.os) (h2 : w7.tape = w6.tape) (h3 : w7.output = w6.output) : Kept2 pb pb w w7 :=
  ⟨h1.trans (h6.os.trans (h4.os.trans gW.os)), h2.trans (h6.tape.trans (h4.tape.trans gW.tape)), h3.trans (h6.output.trans (h4.output.trans gW.output)), Nat.le_trans gW.size (Nat.le_trans h4.size (Nat.le_trans h6.size hsz)), fun k hk1 hn1 hn2 => (hk k (by omega)).trans ((h6.block k (by have := h4.size; omega) hn1 (by omega)).trans ((h4.block k (by omega) hn1 hn2).trans (gW.block k hk1)))⟩

set_option maxRecDepth 20000 in
set_option maxHeartbeats 4000000 in
theorem brackets_any (w : World) (F : Nat → Prop) (pb : Nat) (m : List UInt8) (i g : Nat) (S : List St) (hp : parserAt w F pb m i S g) (hm : m.length ≤ 1000000) (hi : i < m.length) :
    Calls Tryz.prog 166 #[.pointer (some ⟨pb, 0, none⟩)] w fun e w' => Kept2 pb pb w w' ∧ ((∃ s j v, pBrackets m (i + 1) = some (.ok (s, j)) ∧ e = .returned (setV v) ∧ wordsIs v s ∧ parserAt w' F pb m j S g) ∨ (∃ er a : Nat, pBrackets m (i + 1) = some (.error (er, a)) ∧ e = faulted er a)) := by
  obtain ⟨W, HW⟩ : ∃ W, Hid (W = w.alloc (.cells #[.int .u64 0, .int .u64 0, .int .u64 0, .int .u64 0] 148)) := ⟨_, hide rfl⟩
  have gW : Grow w W := by rw [HW.out]; exact (Grow.refl _).alloc _
  have hWb : wordsAt W w.heap.size [0, 0, 0, 0] := by rw [HW.out]; exact heap_alloc_new _ _
  have hWs : W.heap.size = w.heap.size + 1 := by rw [HW.out]; simp
  have hpW := hp.grow gW
  obtain ⟨hpb, hB, _⟩ := hp.cells
  obtain ⟨_, _, ao, cp, hblk⟩ := hpW.cells
  obtain ⟨c0, c1, c2, c3⟩ := four_cells hblk
  obtain ⟨z0, z1, z2, z3⟩ := four_free hblk
  have HWB := hide hWb
  have HPW := hide hpW
  clear hp hWb hpW hblk c0 c2 c3
  obtain ⟨W1, HW1⟩ : ∃ W1, Hid (W1 = W.setCell ⟨pb, 1, none⟩ (.int .i64 ((i : Int) + 1))) := ⟨_, hide rfl⟩
  have HP1 : Hid (parserAt W1 F pb m (i + 1) S g) := by rw [HW1.out]; exact hide (HPW.out.on _ (by simp))
  have HK1 : Hid (Kept2 pb pb W W1) := by rw [HW1.out]; exact hide (.setT _ _)
  have hwr : IntKind.i64.wrap ((i : Int) + 1) = (i : Int) + 1 := wrap_i64_small _ (by omega) (by omega)
  have eW := HW.out.symm
  have eW1 := HW1.out.symm
  go_enter Tryz.func166, Tryz.ntmps166
  go_wp2_with fail
  clear eW eW1
  refine (skip_any W1 F pb m [94] (i + 1) g S HP1.out hm (by omega)).mono ?_
  rintro e w2 ⟨rfl, hk2, hp2⟩
  rw [comesB_nat _ _ 94 94 rfl] at hp2 ⊢
  obtain ⟨nt, HNT⟩ : ∃ nt, Hid (isAt m (i + 1) 94 = nt) := ⟨_, hide rfl⟩
  rw [HNT.out] at hp2 ⊢
  obtain ⟨j0, HJ0⟩ : ∃ j0, Hid (onIf nt (i + 1) = j0) := ⟨_, hide rfl⟩
  rw [HJ0.out] at hp2
  have hj0 : j0 ≤ m.length := by
    rw [← HJ0.out]
    cases nt with
    | true => have := isAt_lt HNT.out; exact this
    | false => exact hi
  have HQ0 : Hid (pBrackets m (i + 1) = bindO (pSpan m j0) fun x => bindO (pSpans m (m.length + 1) x.1 x.2) fun y => some (.ok (if nt then butAll y.1 else y.1, y.2))) := by
    show _ = _
    unfold pBrackets
    simp only [HNT.out]
    rw [← HJ0.out]
    cases nt <;> rfl
  have HK2 := hide (HK1.out.trans hk2)
  have HP2 := hide hp2
  clear hk2 hp2
  go_wp2_with fail
  refine (pspan_any w2 F pb m j0 g S HP2.out hm hj0).mono ?_
  rintro e w3 ⟨hk3, (⟨s0, j1, v, hq, rfl, hv, hp3⟩ | ⟨er, a, hq, rfl⟩)⟩
  · have hj1 := (pSpan_ok hq).2
    simp only at hj1
    have HQ1 : Hid (pBrackets m (i + 1) = bindO (pSpans m (m.length + 1) s0 j1) fun y => some (.ok (if nt then butAll y.1 else y.1, y.2))) := by show _ = _; rw [HQ0.out, hq]; rfl
    obtain ⟨x0, x1, x2, x3, rfl⟩ := words_four hv
    have HK3 := hide (HK2.out.trans hk3)
    have HP3 := hide hp3
    have HV := hide hv
    clear hk3 hp3 hv hq
    have hs3 : w.heap.size + 1 ≤ w3.heap.size := by rw [← hWs]; exact HK3.out.size
    obtain ⟨tb, htb⟩ : ∃ tb, w3.heap.size = tb := ⟨_, rfl⟩
    obtain ⟨Z, HZ⟩ : ∃ Z, Hid (Z = w3.alloc (.cells #[.int .u64 0, .int .u64 0, .int .u64 0, .int .u64 0] 148)) := ⟨_, hide rfl⟩
    have gZ : Grow w3 Z := by rw [HZ.out]; exact (Grow.refl _).alloc _
    have hZb : wordsAt Z tb [0, 0, 0, 0] := by rw [HZ.out, ← htb]; exact heap_alloc_new _ _
    have hZs : Z.heap.size = tb + 1 := by rw [HZ.out]; simp [htb]
    have f0 := not_frozen (k := 0) hZb
    have f1 := not_frozen (k := 1) hZb
    have f2 := not_frozen (k := 2) hZb
    have f3 := not_frozen (k := 3) hZb
    obtain ⟨q0, q1, q2, q3⟩ := hZb.four
    obtain ⟨W4, HW4⟩ : ∃ W4, Hid (W4 = (((Z.setCell ⟨tb, 0, none⟩ (.int .u64 x0)).setCell ⟨tb, 1, none⟩ (.int .u64 x1)).setCell ⟨tb, 2, none⟩ (.int .u64 x2)).setCell ⟨tb, 3, none⟩ (.int .u64 x3)) := ⟨_, hide rfl⟩
    obtain ⟨r1, r2, r3⟩ := set_put (HP3.out.grow gZ) hZb x0 x1 x2 x3 rfl
    rw [← HW4.out] at r1 r2 r3
    have HP4 := hide r1
    have HB4 := hide r2
    have hW4s : W4.heap.size = tb + 1 := by rw [HW4.out, ← hZs]; simp [World.setCell]
    have HK4 : Hid (Kept2 pb pb W W4) := hide (HK3.out.trans ⟨by rw [HW4.out]; exact gZ.os, by rw [HW4.out]; exact gZ.tape, by rw [HW4.out]; exact gZ.output, by omega, fun k h1 h2 _ => (r3 k (by omega)).trans (gZ.block k h1)⟩)
    have eZ := HZ.out.symm
    have eW4 := HW4.out.symm
    clear r1 r2 r3 hZb
    rw [show setV [x0, x1, x2, x3] = .agg #[.int .u64 (x0 : Int), .int .u64 (x1 : Int), .int .u64 (x2 : Int), .int .u64 (x3 : Int)] from rfl]
    go_wp2_with fail
    clear eZ eW4 f0 f1 f2 f3 q0 q1 q2 q3
    go_loopw [] (fun wr => ∃ f s' i' l, parserAt wr F pb m i' S g ∧ Kept2 pb tb W4 wr ∧ Hid (wordsAt wr tb l) ∧ Hid (wordsIs l s') ∧ i' ≤ m.length ∧ m.length < f + i' ∧ 0 < f ∧ Hid (pSpans m (m.length + 1) s0 j1 = pSpans m f s' i')) (fun wr => m.length - placeOf wr pb)
    case atStart => exact ⟨m.length + 1, s0, j1, [x0, x1, x2, x3], HP4.out, .refl _ _ _, HB4, HV, hj1, by omega, by omega, hide rfl⟩
    case round =>
      obtain ⟨f, s', i', l, hpr, hkr, HBr, HVr, hir, hfr, hf0, HE⟩ := hrel
      rename World => wr
      have HPR := hide hpr
      have HKR := hide hkr
      have hpl := hpr.place
      clear hpr hkr
      obtain ⟨f, rfl⟩ : ∃ f', f = f' + 1 := ⟨f - 1, by omega⟩
      go_wp2_with fail
      refine (skip_any wr F pb m [93] i' g S HPR.out hm hir).mono ?_
      rintro e w5 ⟨rfl, hk5, hp5⟩
      rw [comesB_nat _ _ 93 93 rfl] at hp5 ⊢
      have HK5 := hide (HKR.out.trans hk5.mono)
      have hB5 : wordsAt w5 tb l := HBr.out.keep (hk5.block tb (by have := HKR.out.size; omega) (by omega) (by omega))
      have HB5 := hide hB5
      clear hk5 hB5
      cases hd : isAt m i' 93 with
      | true =>
        have hlt := isAt_lt hd
        have HQ2 : Hid (pBrackets m (i + 1) = some (.ok (if nt then butAll s' else s', i' + 1))) := by
          show _ = _
          rw [HQ1.out, HE.out, pSpans, if_pos hd]
          rfl
        rw [hd] at hp5
        have HP5 : Hid (parserAt w5 F pb m (i' + 1) S g) := hide hp5
        clear hd hp5
        obtain ⟨y0, y1, y2, y3, rfl⟩ := words_four HVr.out
        obtain ⟨q0, q1, q2, q3⟩ := HB5.out.four
        have hs5 : tb + 1 ≤ w5.heap.size := by rw [← hW4s]; exact HK5.out.size
        have hr5 : w5.heap[w.heap.size]? = W.heap[w.heap.size]? := (HK5.out.block _ (by omega) (by omega) (by omega)).trans (HK4.out.block _ (by omega) (by omega) (by omega))
        cases nt with
        | true =>
          go_wp2_with fail
          refine (allBut_any [y0, y1, y2, y3] s' w5 HVr.out).mono ?_
          rintro e w6 ⟨v, rfl, hv, hg6⟩
          obtain ⟨u0, u1, u2, u3, rfl⟩ := words_four hv
          have hw6 : wordsAt w6 w.heap.size [0, 0, 0, 0] := hg6.get (HWB.out.keep hr5)
          obtain ⟨p0, p1, p2, p3⟩ := hw6.four
          have f0 := not_frozen (k := 0) hw6
          have f1 := not_frozen (k := 1) hw6
          have f2 := not_frozen (k := 2) hw6
          have f3 := not_frozen (k := 3) hw6
          obtain ⟨r1, r2, r3⟩ := set_put (HP5.out.grow hg6) hw6 u0 u1 u2 u3 rfl
          have R1 := hide r1
          have R2 := hide r2
          have R3 := hide r3
          have HV6 := hide hv
          have HK6 := hide (HK5.out.trans (.grow hg6))
          clear hw6 r1 r2 r3 hv hg6
          rw [show setV [u0, u1, u2, u3] = .agg #[.int .u64 (u0 : Int), .int .u64 (u1 : Int), .int .u64 (u2 : Int), .int .u64 (u3 : Int)] from rfl]
          go_wp2
          refine bodyPost_ret (v := setV [u0, u1, u2, u3]) (results_cell_row (p := 2) (ty := 148) rfl _ _ w.heap.size _ _ _ _ rfl R2.out Tryz.underlying148 rfl info_set) rfl ⟨?_, .inl ⟨_, _, _, HQ2.out, rfl, HV6.out, R1.out⟩⟩
          exact brack_kept gW hWs HK4.out hW4s HK6.out (by omega) (by simp [World.setCell]) R3.out rfl rfl rfl
        | false =>
          have hw6 : wordsAt w5 w.heap.size [0, 0, 0, 0] := HWB.out.keep hr5
          obtain ⟨p0, p1, p2, p3⟩ := hw6.four
          have f0 := not_frozen (k := 0) hw6
          have f1 := not_frozen (k := 1) hw6
          have f2 := not_frozen (k := 2) hw6
          have f3 := not_frozen (k := 3) hw6
          obtain ⟨r1, r2, r3⟩ := set_put HP5.out hw6 y0 y1 y2 y3 rfl
          have R1 := hide r1
          have R2 := hide r2
          have R3 := hide r3
          clear hw6 r1 r2 r3
          go_wp2
          refine bodyPost_ret (v := setV [y0, y1, y2, y3]) (results_cell_row (p := 2) (ty := 148) rfl _ _ w.heap.size _ _ _ _ rfl R2.out Tryz.underlying148 rfl info_set) rfl ⟨?_, .inl ⟨_, _, _, HQ2.out, rfl, HVr.out, R1.out⟩⟩
          exact brack_kept gW hWs HK4.out hW4s HK5.out (by omega) (by simp [World.setCell]) R3.out rfl rfl rfl
      | false =>
        have HE2 : Hid (pSpans m (m.length + 1) s0 j1 = bindO (pSpan m i') fun x => pSpans m f (union s' x.1) x.2) := by
          show _ = _
          rw [HE.out, pSpans, if_neg (by simp [hd])]
        rw [hd] at hp5
        have HP5 : Hid (parserAt w5 F pb m i' S g) := hide hp5
        clear hd hp5
        obtain ⟨y0, y1, y2, y3, rfl⟩ := words_four HVr.out
        go_wp2
        obtain ⟨y, hy⟩ := pSpan_some m i'
        match y, hy with
        | .error (er, a), hy =>
          have HY := hide hy
          have HQ3 : Hid (pBrackets m (i + 1) = some (.error (er, a))) := by show _ = _; rw [HQ1.out, HE2.out, hy]; rfl
          clear hy
          refine wp_region_state 4 27 Tryz.mixed2 rfl (by decide +kernel) (fun L vals w' => Kept2 pb pb w5 w' ∧ parserAt w' F pb m i' S g)
            (fun L vals h => ⟨Kept2.drew _, HP5.out⟩)
            (fun k v => match k with
              | 1 => v = .pointer (some ⟨pb, 0, none⟩)
              | 2 => False
              | 3 => False
              | _ => True)
            (fun ch w' => Ending.panicked ch = faulted er a ∧ Kept2 pb pb w5 w') (fun ch a2 w2 hd hq => ?_) (fun k hi o ho a2 w2 L vals hLi hLc hLe hJ hoff hval hdep => ?_) (fun vals w2 L hL hJ hvals => (hvals 2 (by omega)).elim)
          · obtain ⟨hq1, hq2⟩ := hq
            simp only [Ending.panicked.injEq] at hq1
            subst hq1
            exact ⟨hd, kept_in gW (by
              have h6 := HK5.out.trans hq2.mono
              exact ⟨h6.os.trans HK4.out.os, h6.tape.trans HK4.out.tape, h6.output.trans HK4.out.output, Nat.le_trans HK4.out.size h6.size, fun k hk h1 h2 => (h6.block k (Nat.lt_of_lt_of_le hk HK4.out.size) h1 (by omega)).trans (HK4.out.block k hk h1 h2)⟩), .inr ⟨er, a, HQ3.out, rfl⟩⟩
          · obtain ⟨hk, hpp⟩ := id hJ
            have hb6 : wordsAt w2 tb [y0, y1, y2, y3] := HB5.out.keep (hk.block tb (by have := HK5.out.size; omega) (by omega) (by omega))
            obtain ⟨q0, q1, q2, q3⟩ := hb6.four
            match k, hi with
            | 0, _ =>
              obtain rfl := Option.some.inj ho
              have o4 := hoff 4 (by decide +kernel)
              simp at o4
              simp [opYields, go_sem, o4, q0, q1, q2, q3]
              exact hJ
            | 1, _ =>
              obtain rfl := Option.some.inj ho
              have o0 := hoff 0 (by decide +kernel)
              simp at o0
              simp [opYields, go_sem, o0]
              exact hJ
            | 2, _ =>
              obtain rfl := Option.some.inj ho
              have d1 := hdep 1 (by decide +kernel)
              simp [slotOf, dstOf] at d1
              simp [opYields, go_sem, d1]
              refine (pspan_any w2 F pb m i' g S hpp hm hir).mono ?_
              rintro e w3' ⟨hk3, (⟨s2, j2, v2, hq, rfl, _, _⟩|⟨er2, a2', hq, rfl⟩)⟩
              · rw [HY.out] at hq; cases hq
              · rw [HY.out] at hq; cases hq; exact ⟨rfl, hk.trans hk3⟩
            | 3, _ => exact (hdep 2 (by decide +kernel)).elim
            | k + 4, h => exact absurd h (by omega)
        | .ok (s, j), hy =>
          have HY := hide hy
          have hjl := pSpan_ok hy
          simp only at hjl
          have HE3 : Hid (pSpans m (m.length + 1) s0 j1 = pSpans m f (union s' s) j) := by show _ = _; rw [HE2.out, hy]; rfl
          clear hy
          refine wp_region_state 4 27 Tryz.mixed2 rfl (by decide +kernel) (fun L vals w' => Kept2 pb pb w5 w' ∧ parserAt w' F pb m (if L 2 then j else i') S g)
            (fun L vals h => by rw [h 2]; exact ⟨Kept2.drew _, HP5.out⟩)
            (fun k v => match k with
              | 0 => v = .agg #[.int .u64 (y0 : Int), .int .u64 (y1 : Int), .int .u64 (y2 : Int), .int .u64 (y3 : Int)]
              | 1 => v = .pointer (some ⟨pb, 0, none⟩)
              | 2 => ∃ l, v = setV l ∧ wordsIs l s
              | _ => ∃ l, v = setV l ∧ wordsIs l (union s' s))
            (fun _ _ => False) (fun _ _ _ _ h => h.elim) (fun k hi o ho a2 w2 L vals hLi hLc hLe hJ hoff hval hdep => ?_) (fun vals w2 L hL hJ hvals => ?_)
          · obtain ⟨hk, hpp⟩ := id hJ
            have hb6 : wordsAt w2 tb [y0, y1, y2, y3] := HB5.out.keep (hk.block tb (by have := HK5.out.size; omega) (by omega) (by omega))
            obtain ⟨q0, q1, q2, q3⟩ := hb6.four
            match k, hi with
            | 0, _ =>
              obtain rfl := Option.some.inj ho
              have o4 := hoff 4 (by decide +kernel)
              simp at o4
              simp [opYields, go_sem, o4, q0, q1, q2, q3]
              exact hJ
            | 1, _ =>
              obtain rfl := Option.some.inj ho
              have o0 := hoff 0 (by decide +kernel)
              simp at o0
              simp [opYields, go_sem, o0]
              exact hJ
            | 2, _ =>
              obtain rfl := Option.some.inj ho
              have d1 := hdep 1 (by decide +kernel)
              simp [slotOf, dstOf] at d1
              rw [hLi] at hpp
              simp [opYields, go_sem, d1]
              refine (pspan_any w2 F pb m i' g S hpp hm hir).mono ?_
              rintro e w3' ⟨hk3, (⟨s2, j2, v2, hq, rfl, hv2, hp3⟩ | ⟨er2, a2', hq, rfl⟩)⟩
              · rw [HY.out] at hq
                cases hq
                exact ⟨⟨hk.trans hk3, hp3⟩, v2, rfl, hv2⟩
              · rw [HY.out] at hq
                cases hq
            | 3, _ =>
              obtain rfl := Option.some.inj ho
              have d0 := hdep 0 (by decide +kernel)
              obtain ⟨l2, d2, hl2⟩ := hdep 2 (by decide +kernel)
              simp [slotOf, dstOf] at d0 d2
              simp [opYields, go_sem, d0, d2]
              refine (both_any [y0, y1, y2, y3] l2 s' s w2 HVr.out hl2).mono ?_
              rintro e w3' ⟨v3, rfl, hv3, hg3⟩
              exact ⟨⟨hk.trans (.grow hg3), hpp.grow hg3⟩, v3, rfl, hv3⟩
            | k + 4, h => exact absurd h (by omega)
          · have h2 := hL 2 (by omega)
            obtain ⟨hk, hpp⟩ := hJ
            rw [h2] at hpp
            simp only [if_true] at hpp
            have v0 := hvals 0 (by omega)
            obtain ⟨l3, v3, hl3⟩ := hvals 3 (by omega)
            simp only at v0
            obtain ⟨u0, u1, u2, u3, rfl⟩ := words_four hl3
            have hb6 : wordsAt w2 tb [y0, y1, y2, y3] := HB5.out.keep (hk.block tb (by have := HK5.out.size; omega) (by omega) (by omega))
            obtain ⟨q0, q1, q2, q3⟩ := hb6.four
            have f0 := not_frozen (k := 0) hb6
            have f1 := not_frozen (k := 1) hb6
            have f2 := not_frozen (k := 2) hb6
            have f3 := not_frozen (k := 3) hb6
            obtain ⟨r1, r2, r3⟩ := set_put hpp hb6 u0 u1 u2 u3 rfl
            have R1 := hide r1
            have R2 := hide r2
            have R3 := hide r3
            have HL3 := hide hl3
            have HK6 := hide (HK5.out.trans hk.mono)
            clear hvals r1 r2 r3 hl3 hpp hk hb6
            rw [show setV [u0, u1, u2, u3] = .agg #[.int .u64 (u0 : Int), .int .u64 (u1 : Int), .int .u64 (u2 : Int), .int .u64 (u3 : Int)] from rfl] at v3
            simp [over, dstOf, Act.put, v0, v3]
            go_wp2
            go_roundw
            case rel => exact ⟨f, union s' s, j, [u0, u1, u2, u3], R1.out, ⟨HK6.out.os, HK6.out.tape, HK6.out.output, by simpa [World.setCell] using HK6.out.size, fun k h1 h2 h3 => (R3.out k h3).trans (HK6.out.block k h1 h2 h3)⟩, R2, HL3, hjl.2, by omega, by omega, HE3⟩
            case measure =>
              rw [R1.out.place, hpl]
              omega
  · have HQ1 : Hid (pBrackets m (i + 1) = some (.error (er, a))) := by show _ = _; rw [HQ0.out, hq]; rfl
    exact ⟨rfl, kept_in gW (HK2.out.trans hk3), .inr ⟨er, a, HQ1.out, rfl⟩⟩

end Go.Proofs.YtndpjdmfkhjiiaaGreatDoor

/- The parser of masks: groups and atoms, over what rows do. -/
set_option linter.unusedVariables false
set_option linter.unusedSimpArgs false
namespace Go.Proofs.YtndpjdmfkhjiiaaGreatDoor
open Go.RowKit
attribute [local go_sem] bs_size bs_toList bs_append bs_get bs_extract

/-- How many steps are laid out is bounded by how many bytes were read. -/
theorem pM_sz {m : List UInt8} : ∀ {f rows i g x}, pM m f rows i g = some (.ok x) → i ≤ m.length → sz x.1 + 5 * i ≤ 5 * x.2.1 + (if rows then 1 else 0) := by
  intro f
  induction f with
  | zero => intro rows i g x h; cases h
  | succ f ih =>
    intro rows i g x h hi
    cases rows with
    | true =>
      rw [pM] at h
      rcases bindO_eq h with ⟨_, _, e⟩ | ⟨y, hy, h⟩
      · cases e
      have h1 := ih hy hi
      have e1 := pM_ok hy hi
      split at h
      · rename_i e
        have := isAt_lt e
        rcases bindO_eq h with ⟨_, _, e⟩ | ⟨z, hz, h⟩
        · cases e
        have h2 := ih hz (by omega)
        cases h
        simp [sz] at h1 h2 ⊢
        omega
      · cases h
        simp [sz] at h1 ⊢
        omega
    | false =>
      rw [pM] at h
      split at h
      · cases h; simp [sz]
      · rename_i c hc
        have li := get_lt hc
        split at h
        · cases h; simp [sz]
        · split at h
          · split at h
            · cases h
            · rcases bindO_eq h with ⟨_, _, e⟩ | ⟨y, hy, h⟩
              · cases e
              have h1 := ih hy (by omega)
              have e1 := pM_ok hy (by omega)
              split at h
              · rename_i e
                have := isAt_lt e
                rcases bindO_eq h with ⟨_, _, e⟩ | ⟨z, hz, h⟩
                · cases e
                have h2 := pSign_ok hz (by omega)
                rcases bindO_eq h with ⟨_, _, e⟩ | ⟨u, hu, h⟩
                · cases e
                have h3 := ih hu (by omega)
                cases h
                have := again_le z.1
                simp [sz] at h1 h3 ⊢
                omega
              · cases h
          · rcases bindO_eq h with ⟨_, _, e⟩ | ⟨y, hy, h⟩
            · cases e
            have h1 := pSet_ok hc hy
            rcases bindO_eq h with ⟨_, _, e⟩ | ⟨z, hz, h⟩
            · cases e
            have h2 := pSign_ok hz (by omega)
            rcases bindO_eq h with ⟨_, _, e⟩ | ⟨u, hu, h⟩
            · cases e
            have h3 := ih hu (by omega)
            cases h
            have := again_le z.1
            simp [sz] at h3 ⊢
            omega

/-- The steps behind rows. -/
def rowsSteps (S : List St) (T : Tr) : List St := S ++ .fork (starts T (S.length + 1)) :: comp T (S.length + 1) (S.length + 1 + sz T)
theorem rowsSteps_length (S T) : (rowsSteps S T).length = S.length + 1 + sz T := by simp [rowsSteps, comp_length]; omega

/-- What rows do, if this is what they are. -/
def rowsPost (F : Nat → Prop) (pb : Nat) (m : List UInt8) (S : List St) (y : Except (Nat × Nat) (Tr × Nat × Nat)) (w : World) (e : Ending) (w' : World) : Prop :=
  KeptX F pb w w' ∧ match y with
    | .error x => e = faulted x.1 x.2
    | .ok x => e = .returned (.bool (nothing x.1)) ∧ parserAt w' F pb m x.2.1 (rowsSteps S x.1) x.2.2
def RowsOK (m : List UInt8) (f : Nat) : Prop :=
  ∀ (w : World) (F : Nat → Prop) (pb i g : Nat) (S : List St) (y : Except (Nat × Nat) (Tr × Nat × Nat)), parserAt w F pb m i S g → i ≤ m.length → g ≤ 9 → S.length + 8 * (m.length - i) ≤ 100000 → pM m f true i g = some y →
    Calls Tryz.prog 121 #[.pointer (some ⟨pb, 0, none⟩)] w (rowsPost F pb m S y w)

/-- What a group does. -/
def groupPost (F : Nat → Prop) (pb : Nat) (m : List UInt8) (S : List St) (i g : Nat) (y : Except (Nat × Nat) (Tr × Nat × Nat)) (w : World) (e : Ending) (w' : World) : Prop :=
  KeptX F pb w w' ∧ if g = 9 then e = faulted 2 i else match y with
    | .error x => e = faulted x.1 x.2
    | .ok x => if isAt m x.2.1 41 then e = .returned (.bool (nothing x.1)) ∧ parserAt w' F pb m (x.2.1 + 1) (rowsSteps (S ++ [.mark (2 * g)]) x.1 ++ [.mark (2 * g + 1)]) x.2.2 else e = faulted 1 x.2.1

set_option maxRecDepth 20000 in
set_option maxHeartbeats 4000000 in
theorem group_any {m : List UInt8} {f : Nat} (hf : RowsOK m f) (w : World) (F : Nat → Prop) (pb i g : Nat) (S : List St) (y : Except (Nat × Nat) (Tr × Nat × Nat)) (hp : parserAt w F pb m i S g) (hi : i < m.length) (hg : g ≤ 9) (hS : S.length + 8 * (m.length - i) ≤ 100002) (hm : m.length ≤ 10000)
    (hy : g ≠ 9 → pM m f true (i + 1) (g + 1) = some y) : Calls Tryz.prog 164 #[.pointer (some ⟨pb, 0, none⟩)] w (groupPost F pb m S i g y w) := by
  have HF := hide hf
  have HY := hide hy
  obtain ⟨hpb, hB, ao, cp, hblk⟩ := hp.cells
  obtain ⟨c0, c1, c2, c3⟩ := four_cells hblk
  obtain ⟨z0, z1, z2, z3⟩ := four_free hblk
  have HP := hide hp
  have HBK := hide hblk
  clear hf hy hp hblk
  by_cases h9 : g = 9
  · have h9' : ((g : Int) == 9) = true := by rw [beq_iff_eq]; omega
    have H9 := hide h9
    clear h9
    go_enter Tryz.func164, Tryz.ntmps164
    go_wp2_with fail
    refine (giveUp_any w F pb m i g S 2 HP.out).mono ?_
    rintro e w1 ⟨rfl, rfl⟩
    exact ⟨rfl, .refl _ _ _, by rw [if_pos H9.out]⟩
  · have h9' : ((g : Int) == 9) = false := by rw [beq_eq_false_iff_ne]; omega
    have H9 := hide h9
    have hg8 : g ≤ 8 := by omega
    obtain ⟨W1, HW1⟩ : ∃ W1, Hid (W1 = w.setCell ⟨pb, 1, none⟩ (.int .i64 ((i : Int) + 1))) := ⟨_, hide rfl⟩
    have hb1 : W1.heap[pb]? = some (.cells #[.string (bs m), .int .i64 ((i : Int) + 1), .slice ao S.length cp, .int .i64 (g : Int)] 143 (0, 0)) := by rw [HW1.out, set_blk HBK.out]; simp
    have HP1 : Hid (parserAt W1 F pb m (i + 1) S g) := by rw [HW1.out]; exact hide (HP.out.on _ (by simp))
    obtain ⟨d0, d1, d2, d3⟩ := four_cells hb1
    obtain ⟨y0, y1, y2, y3⟩ := four_free hb1
    obtain ⟨W2, HW2⟩ : ∃ W2, Hid (W2 = W1.setCell ⟨pb, 3, none⟩ (.int .i64 ((g : Int) + 1))) := ⟨_, hide rfl⟩
    have HP2 : Hid (parserAt W2 F pb m (i + 1) S (g + 1)) := by
      rw [HW2.out]
      obtain ⟨sv, rs, h, e⟩ := HP1.out
      exact hide ⟨sv, rs, h.put (by simp), e⟩
    have HK2 : Hid (KeptX F pb w W2) := by rw [HW2.out, HW1.out]; exact hide (((KeptX.refl _ _ _).setAt _ _).setAt _ _)
    have hwr : IntKind.i64.wrap ((i : Int) + 1) = (i : Int) + 1 := wrap_i64_small _ (by omega) (by omega)
    have hwr2 : IntKind.i64.wrap ((g : Int) + 1) = (g : Int) + 1 := wrap_i64_small _ (by omega) (by omega)
    have hwr3 : IntKind.i64.wrap (2 * (g : Int)) = 2 * (g : Int) := wrap_i64_small _ (by omega) (by omega)
    have eW1 := HW1.out.symm
    have eW2 := HW2.out.symm
    clear hb1 h9
    go_enter Tryz.func164, Tryz.ntmps164
    go_wp2_with fail
    clear eW1 eW2 c0 c1 c2 c3 d0 d1 d2 d3
    refine (add_any W2 F pb m (i + 1) (g + 1) S ⟨.mark (2 * g), 0, 0, 0, 0, 2 * (g : Int), .slice none 0 0⟩ HP2.out rfl (fun w => ⟨World.ownsRow_nil _ _ _ _, by show 2 * (g : Int) = ((2 * g : Nat) : Int); omega⟩) (by omega)).mono ?_
    rintro e w3 ⟨rfl, hk3, hp3⟩
    have HK3 := hide (HK2.out.trans hk3)
    have HP3 : Hid (parserAt w3 F pb m (i + 1) (S ++ [.mark (2 * g)]) (g + 1)) := hide hp3
    clear hk3 hp3
    go_wp2_with fail
    refine (HF.out w3 F pb (i + 1) (g + 1) _ y HP3.out (by omega) (by omega) (by rw [List.length_append]; simp; omega) (HY.out H9.out)).mono ?_
    rintro e w4 ⟨hk4, hy4⟩
    have HK4 := hide (HK3.out.trans hk4)
    match y, hy4, HY with
    | .error x, hy4, HY =>
      simp only at hy4
      subst hy4
      exact ⟨rfl, HK4.out, by rw [if_neg H9.out]⟩
    | .ok x, hy4, HY =>
      obtain ⟨T, j, h⟩ := x
      simp only at hy4
      obtain ⟨rfl, hp4⟩ := hy4
      have HP4 := hide hp4
      have hj := (pM_ok (HY.out H9.out) (by omega)).2
      have hszT := pM_sz (HY.out H9.out) (by omega)
      simp at hj hszT
      clear hp4 hk4
      go_wp2_with fail
      refine (skip_any w4 F pb m [41] j h _ HP4.out (by omega) hj).mono ?_
      rintro e w5 ⟨rfl, hk5, hp5⟩
      rw [comesB_nat _ _ 41 41 rfl] at hp5 ⊢
      have HK5 := hide (HK4.out.trans (keptX_two hk5 HP4.out.room))
      cases hd : isAt m j 41 with
      | false =>
        rw [hd] at hp5
        have HP5 : Hid (parserAt w5 F pb m j _ h) := hide hp5
        have HD := hide hd
        clear hd hp5 hk5
        go_wp2_with fail
        refine (giveUp_any w5 F pb m j h _ 1 HP5.out).mono ?_
        rintro e w6 ⟨rfl, rfl⟩
        exact ⟨rfl, HK5.out, by rw [if_neg H9.out]; simp only; rw [HD.out]; simp⟩
      | true =>
        rw [hd] at hp5
        have HP5 : Hid (parserAt w5 F pb m (j + 1) _ h) := hide hp5
        have HD := hide hd
        have hwr4 : IntKind.i64.wrap (2 * (g : Int) + 1) = 2 * (g : Int) + 1 := wrap_i64_small _ (by omega) (by omega)
        clear hd hp5 hk5
        go_wp2_with fail
        refine (add_any w5 F pb m (j + 1) h _ ⟨.mark (2 * g + 1), 0, 0, 0, 0, 2 * (g : Int) + 1, .slice none 0 0⟩ HP5.out rfl (fun w => ⟨World.ownsRow_nil _ _ _ _, by show 2 * (g : Int) + 1 = ((2 * g + 1 : Nat) : Int); omega⟩) (by rw [rowsSteps_length, List.length_append]; simp; omega)).mono ?_
        rintro e w6 ⟨rfl, hk6, hp6⟩
        have HP6 := hide hp6
        clear hp6
        go_wp2
        go_ret
        exact ⟨HK5.out.trans hk6, by rw [if_neg H9.out]; simp only; rw [HD.out]; exact ⟨rfl, HP6.out⟩⟩

end Go.Proofs.YtndpjdmfkhjiiaaGreatDoor

/- The parser of masks: atoms. -/
set_option linter.unusedVariables false
set_option linter.unusedSimpArgs false
namespace Go.Proofs.YtndpjdmfkhjiiaaGreatDoor
open Go.RowKit
attribute [local go_sem] bs_size bs_toList bs_append bs_get bs_extract

/-- What an atom that is no group does. -/
def atomPost (F : Nat → Prop) (pb : Nat) (m : List UInt8) (S : List St) (g : Nat) (y : Except (Nat × Nat) ((UInt8 → Bool) × Nat)) (w : World) (e : Ending) (w' : World) : Prop :=
  KeptX F pb w w' ∧ match y with
    | .error x => e = faulted x.1 x.2
    | .ok x => e = .returned (.bool false) ∧ parserAt w' F pb m x.2 (S ++ [.take x.1]) g

theorem beq_no {a : Int} {b : Int} (h : ¬ a = b) : (a == b) = false := by simpa using h
theorem beq_yes {a : Int} {b : Int} (h : a = b) : (a == b) = true := by simpa using h
theorem span_whole : between 0 255 = fun _ => true := by
  funext c
  have := c.toNat_lt
  simp [between]
  omega

set_option maxRecDepth 20000 in
set_option maxHeartbeats 8000000 in
theorem atom_set (w : World) (F : Nat → Prop) (pb i g : Nat) (m : List UInt8) (S : List St) (c : UInt8) (y : Except (Nat × Nat) ((UInt8 → Bool) × Nat)) (hp : parserAt w F pb m i S g) (hc : m[i]? = some c) (hS : S.length ≤ 1000000) (hm : m.length ≤ 10000)
    (h40 : c.toNat ≠ 40) (hy : pSet m i c = some y) : Calls Tryz.prog 161 #[.pointer (some ⟨pb, 0, none⟩)] w (atomPost F pb m S g y w) := by
  have hi := get_lt hc
  have hcl := c.toNat_lt
  have hmi : m[i] = c := by rw [List.getElem?_eq_getElem hi] at hc; exact Option.some.inj hc
  obtain ⟨hpb, hB, ao, cp, hblk⟩ := hp.cells
  obtain ⟨c0, c1, c2, c3⟩ := four_cells hblk
  have hi2 : (i : Int) < m.length := by omega
  have HC := hide hc
  have HBL : Hid (∀ n, (w.drewN n).heap[pb]? = some (.cells #[.string (bs m), .int .i64 (i : Int), .slice ao S.length cp, .int .i64 (g : Int)] 143 (0, 0))) := hide fun n => hblk
  have HP : Hid (∀ n, parserAt (w.drewN n) F pb m i S g) := hide fun n => hp
  have HY := hide hy
  have b40 := beq_no (a := (c.toNat : Int)) (b := 40) (by omega)
  clear hp hblk hc h40 hy
  by_cases h91 : (c.toNat : Int) = 91
  · have b91 := beq_yes (a := (c.toNat : Int)) (b := 91) (by omega)
    have HQ : Hid (pSet m i c = pBrackets m (i + 1)) := by show _ = _; unfold pSet; rw [if_pos (by omega)]
    clear h91
    go_enter Tryz.func161, Tryz.ntmps161
    go_wp2_with fail
    go_quiet (fail)
    obtain ⟨W0, HW0⟩ : ∃ W0, Hid (W0 = w.drewN nq) := ⟨_, hide rfl⟩
    rw [← HW0.out]
    have HP0 : Hid (parserAt W0 F pb m i S g) := by rw [HW0.out]; exact hide (HP.out nq)
    have HK0 : Hid (Kept2 pb pb w W0) := by rw [HW0.out]; exact hide (Kept2.drewN (.refl _ _ _))
    have hblk0 : W0.heap[pb]? = some (.cells #[.string (bs m), .int .i64 (i : Int), .slice ao S.length cp, .int .i64 (g : Int)] 143 (0, 0)) := by rw [HW0.out]; exact HBL.out nq
    obtain ⟨d0, d1, d2, d3⟩ := four_cells hblk0
    obtain ⟨z0, z1, z2, z3⟩ := four_free hblk0
    have HBK := hide hblk0
    clear hblk0
    go_wp2_with fail
    refine (brackets_any W0 F pb m i g S HP0.out (by omega) hi).mono ?_
    rintro e w1 ⟨hk1, (⟨s, j, v, hq, rfl, hv, hp1⟩ | ⟨er, a, hq, rfl⟩)⟩
    · have HE : Hid (y = .ok (s, j)) := by show _ = _; have h := HY.out; rw [HQ.out, hq] at h; exact (Option.some.inj h).symm
      have HK1 := hide (HK0.out.trans hk1)
      have HP1 := hide hp1
      clear hk1 hp1 hq
      go_wp2_with fail
      refine (take_any w1 F pb m j g S v s HP1.out hv hS).mono ?_
      rintro e w2 ⟨rfl, hk2, hp2⟩
      go_wp2
      go_ret
      rw [HE.out]
      exact ⟨(keptX_two HK1.out hB).trans hk2, rfl, hp2⟩
    · have HE : Hid (y = .error (er, a)) := by show _ = _; have h := HY.out; rw [HQ.out, hq] at h; exact (Option.some.inj h).symm
      rw [HE.out]
      exact ⟨rfl, keptX_two (HK0.out.trans hk1) hB, rfl⟩
  · by_cases h46 : (c.toNat : Int) = 46
    · have b91 := beq_no (a := (c.toNat : Int)) (b := 91) (by omega)
      have b46 := beq_yes (a := (c.toNat : Int)) (b := 46) (by omega)
      have HE : Hid (y = .ok (fun _ => true, i + 1)) := by show _ = _; have h := HY.out; unfold pSet at h; rw [if_neg (by omega), if_pos (by omega)] at h; exact (Option.some.inj h).symm
      clear h91 h46
      go_enter Tryz.func161, Tryz.ntmps161
      go_wp2_with fail
      go_quiet (fail)
      obtain ⟨W0, HW0⟩ : ∃ W0, Hid (W0 = w.drewN nq) := ⟨_, hide rfl⟩
      rw [← HW0.out]
      have HP0 : Hid (parserAt W0 F pb m i S g) := by rw [HW0.out]; exact hide (HP.out nq)
      have HK0 : Hid (Kept2 pb pb w W0) := by rw [HW0.out]; exact hide (Kept2.drewN (.refl _ _ _))
      have hblk0 : W0.heap[pb]? = some (.cells #[.string (bs m), .int .i64 (i : Int), .slice ao S.length cp, .int .i64 (g : Int)] 143 (0, 0)) := by rw [HW0.out]; exact HBL.out nq
      obtain ⟨d0, d1, d2, d3⟩ := four_cells hblk0
      obtain ⟨z0, z1, z2, z3⟩ := four_free hblk0
      have HBK := hide hblk0
      clear hblk0
      obtain ⟨W1, HW1⟩ : ∃ W1, Hid (W1 = W0.setCell ⟨pb, 1, none⟩ (.int .i64 ((i : Int) + 1))) := ⟨_, hide rfl⟩
      have HP1 : Hid (parserAt W1 F pb m (i + 1) S g) := by rw [HW1.out]; exact hide (HP0.out.on _ (by simp))
      have HK1 : Hid (Kept2 pb pb w W1) := by rw [HW1.out]; exact hide (HK0.out.trans (.setT _ _))
      have hwr : IntKind.i64.wrap ((i : Int) + 1) = (i : Int) + 1 := wrap_i64_small _ (by omega) (by omega)
      have eW1 := HW1.out.symm
      go_wp2_with fail
      clear eW1
      refine (span_any 0 255 W1 (by decide)).mono ?_
      rintro e w2 ⟨v, rfl, hv, hg2⟩
      rw [span_whole] at hv
      have HP2 := hide (HP1.out.grow hg2)
      have HK2 := hide (HK1.out.trans (.grow hg2))
      clear hg2
      go_wp2_with fail
      refine (take_any w2 F pb m (i + 1) g S v _ HP2.out hv hS).mono ?_
      rintro e w3 ⟨rfl, hk3, hp3⟩
      go_wp2
      go_ret
      rw [HE.out]
      exact ⟨(keptX_two HK2.out hB).trans hk3, rfl, hp3⟩
    · by_cases h92 : (c.toNat : Int) = 92
      · have b91 := beq_no (a := (c.toNat : Int)) (b := 91) (by omega)
        have b46 := beq_no (a := (c.toNat : Int)) (b := 46) (by omega)
        have b92 := beq_yes (a := (c.toNat : Int)) (b := 92) (by omega)
        have HQ : Hid (pSet m i c = pEsc m (i + 1)) := by show _ = _; unfold pSet pEsc; rw [if_neg (by omega), if_neg (by omega), if_pos (by omega)]; rfl
        clear h91 h46 h92
        go_enter Tryz.func161, Tryz.ntmps161
        go_wp2_with fail
        go_quiet (fail)
        obtain ⟨W0, HW0⟩ : ∃ W0, Hid (W0 = w.drewN nq) := ⟨_, hide rfl⟩
        rw [← HW0.out]
        have HP0 : Hid (parserAt W0 F pb m i S g) := by rw [HW0.out]; exact hide (HP.out nq)
        have HK0 : Hid (Kept2 pb pb w W0) := by rw [HW0.out]; exact hide (Kept2.drewN (.refl _ _ _))
        have hblk0 : W0.heap[pb]? = some (.cells #[.string (bs m), .int .i64 (i : Int), .slice ao S.length cp, .int .i64 (g : Int)] 143 (0, 0)) := by rw [HW0.out]; exact HBL.out nq
        obtain ⟨d0, d1, d2, d3⟩ := four_cells hblk0
        obtain ⟨z0, z1, z2, z3⟩ := four_free hblk0
        have HBK := hide hblk0
        clear hblk0
        obtain ⟨W1, HW1⟩ : ∃ W1, Hid (W1 = W0.setCell ⟨pb, 1, none⟩ (.int .i64 ((i : Int) + 1))) := ⟨_, hide rfl⟩
        have HP1 : Hid (parserAt W1 F pb m (i + 1) S g) := by rw [HW1.out]; exact hide (HP0.out.on _ (by simp))
        have HK1 : Hid (Kept2 pb pb w W1) := by rw [HW1.out]; exact hide (HK0.out.trans (.setT _ _))
        have hwr : IntKind.i64.wrap ((i : Int) + 1) = (i : Int) + 1 := wrap_i64_small _ (by omega) (by omega)
        have eW1 := HW1.out.symm
        go_wp2_with fail
        clear eW1
        refine (escaped_any W1 F pb m (i + 1) g S HP1.out (by omega) hi).mono ?_
        rintro e w2 ⟨hk2, (⟨s, j, v, hq, rfl, hv, hp2⟩ | ⟨er, a, hq, rfl⟩)⟩
        · have HE : Hid (y = .ok (s, j)) := by show _ = _; have h := HY.out; rw [HQ.out, hq] at h; exact (Option.some.inj h).symm
          have HK2 := hide (HK1.out.trans hk2)
          have HP2 := hide hp2
          clear hk2 hp2 hq
          go_wp2_with fail
          refine (take_any w2 F pb m j g S v s HP2.out hv hS).mono ?_
          rintro e w3 ⟨rfl, hk3, hp3⟩
          go_wp2
          go_ret
          rw [HE.out]
          exact ⟨(keptX_two HK2.out hB).trans hk3, rfl, hp3⟩
        · have HE : Hid (y = .error (er, a)) := by show _ = _; have h := HY.out; rw [HQ.out, hq] at h; exact (Option.some.inj h).symm
          rw [HE.out]
          exact ⟨rfl, keptX_two (HK1.out.trans hk2) hB, rfl⟩
      · by_cases h42 : (c.toNat : Int) = 42
        · have b91 := beq_no (a := (c.toNat : Int)) (b := 91) (by omega)
          have b46 := beq_no (a := (c.toNat : Int)) (b := 46) (by omega)
          have b92 := beq_no (a := (c.toNat : Int)) (b := 92) (by omega)
          have b42 := beq_yes (a := (c.toNat : Int)) (b := 42) (by omega)
          have HE : Hid (y = .error (1, i)) := by show _ = _; have h := HY.out; unfold pSet at h; rw [if_neg (by omega), if_neg (by omega), if_neg (by omega), if_pos (by unfold isSign; simp; omega)] at h; exact (Option.some.inj h).symm
          clear h91 h46 h92 h42
          go_enter Tryz.func161, Tryz.ntmps161
          go_wp2_with fail
          go_quiet (fail)
          obtain ⟨W0, HW0⟩ : ∃ W0, Hid (W0 = w.drewN nq) := ⟨_, hide rfl⟩
          rw [← HW0.out]
          have HP0 : Hid (parserAt W0 F pb m i S g) := by rw [HW0.out]; exact hide (HP.out nq)
          have HK0 : Hid (Kept2 pb pb w W0) := by rw [HW0.out]; exact hide (Kept2.drewN (.refl _ _ _))
          have hblk0 : W0.heap[pb]? = some (.cells #[.string (bs m), .int .i64 (i : Int), .slice ao S.length cp, .int .i64 (g : Int)] 143 (0, 0)) := by rw [HW0.out]; exact HBL.out nq
          obtain ⟨d0, d1, d2, d3⟩ := four_cells hblk0
          obtain ⟨z0, z1, z2, z3⟩ := four_free hblk0
          have HBK := hide hblk0
          clear hblk0
          go_wp2_with fail
          refine (giveUp_any W0 F pb m i g S 1 HP0.out).mono ?_
          rintro e w1 ⟨rfl, rfl⟩
          rw [HE.out]
          exact ⟨rfl, keptX_two HK0.out hB, rfl⟩
        · by_cases h43 : (c.toNat : Int) = 43
          · have b91 := beq_no (a := (c.toNat : Int)) (b := 91) (by omega)
            have b46 := beq_no (a := (c.toNat : Int)) (b := 46) (by omega)
            have b92 := beq_no (a := (c.toNat : Int)) (b := 92) (by omega)
            have b42 := beq_no (a := (c.toNat : Int)) (b := 42) (by omega)
            have b43 := beq_yes (a := (c.toNat : Int)) (b := 43) (by omega)
            have HE : Hid (y = .error (1, i)) := by show _ = _; have h := HY.out; unfold pSet at h; rw [if_neg (by omega), if_neg (by omega), if_neg (by omega), if_pos (by unfold isSign; simp; omega)] at h; exact (Option.some.inj h).symm
            clear h91 h46 h92 h42 h43
            go_enter Tryz.func161, Tryz.ntmps161
            go_wp2_with fail
            go_quiet (fail)
            obtain ⟨W0, HW0⟩ : ∃ W0, Hid (W0 = w.drewN nq) := ⟨_, hide rfl⟩
            rw [← HW0.out]
            have HP0 : Hid (parserAt W0 F pb m i S g) := by rw [HW0.out]; exact hide (HP.out nq)
            have HK0 : Hid (Kept2 pb pb w W0) := by rw [HW0.out]; exact hide (Kept2.drewN (.refl _ _ _))
            have hblk0 : W0.heap[pb]? = some (.cells #[.string (bs m), .int .i64 (i : Int), .slice ao S.length cp, .int .i64 (g : Int)] 143 (0, 0)) := by rw [HW0.out]; exact HBL.out nq
            obtain ⟨d0, d1, d2, d3⟩ := four_cells hblk0
            obtain ⟨z0, z1, z2, z3⟩ := four_free hblk0
            have HBK := hide hblk0
            clear hblk0
            go_wp2_with fail
            refine (giveUp_any W0 F pb m i g S 1 HP0.out).mono ?_
            rintro e w1 ⟨rfl, rfl⟩
            rw [HE.out]
            exact ⟨rfl, keptX_two HK0.out hB, rfl⟩
          · by_cases h63 : (c.toNat : Int) = 63
            · have b91 := beq_no (a := (c.toNat : Int)) (b := 91) (by omega)
              have b46 := beq_no (a := (c.toNat : Int)) (b := 46) (by omega)
              have b92 := beq_no (a := (c.toNat : Int)) (b := 92) (by omega)
              have b42 := beq_no (a := (c.toNat : Int)) (b := 42) (by omega)
              have b43 := beq_no (a := (c.toNat : Int)) (b := 43) (by omega)
              have b63 := beq_yes (a := (c.toNat : Int)) (b := 63) (by omega)
              have HE : Hid (y = .error (1, i)) := by show _ = _; have h := HY.out; unfold pSet at h; rw [if_neg (by omega), if_neg (by omega), if_neg (by omega), if_pos (by unfold isSign; simp; omega)] at h; exact (Option.some.inj h).symm
              clear h91 h46 h92 h42 h43 h63
              go_enter Tryz.func161, Tryz.ntmps161
              go_wp2_with fail
              go_quiet (fail)
              obtain ⟨W0, HW0⟩ : ∃ W0, Hid (W0 = w.drewN nq) := ⟨_, hide rfl⟩
              rw [← HW0.out]
              have HP0 : Hid (parserAt W0 F pb m i S g) := by rw [HW0.out]; exact hide (HP.out nq)
              have HK0 : Hid (Kept2 pb pb w W0) := by rw [HW0.out]; exact hide (Kept2.drewN (.refl _ _ _))
              have hblk0 : W0.heap[pb]? = some (.cells #[.string (bs m), .int .i64 (i : Int), .slice ao S.length cp, .int .i64 (g : Int)] 143 (0, 0)) := by rw [HW0.out]; exact HBL.out nq
              obtain ⟨d0, d1, d2, d3⟩ := four_cells hblk0
              obtain ⟨z0, z1, z2, z3⟩ := four_free hblk0
              have HBK := hide hblk0
              clear hblk0
              go_wp2_with fail
              refine (giveUp_any W0 F pb m i g S 1 HP0.out).mono ?_
              rintro e w1 ⟨rfl, rfl⟩
              rw [HE.out]
              exact ⟨rfl, keptX_two HK0.out hB, rfl⟩
            · by_cases h93 : (c.toNat : Int) = 93
              · have b91 := beq_no (a := (c.toNat : Int)) (b := 91) (by omega)
                have b46 := beq_no (a := (c.toNat : Int)) (b := 46) (by omega)
                have b92 := beq_no (a := (c.toNat : Int)) (b := 92) (by omega)
                have b42 := beq_no (a := (c.toNat : Int)) (b := 42) (by omega)
                have b43 := beq_no (a := (c.toNat : Int)) (b := 43) (by omega)
                have b63 := beq_no (a := (c.toNat : Int)) (b := 63) (by omega)
                have b93 := beq_yes (a := (c.toNat : Int)) (b := 93) (by omega)
                have HE : Hid (y = .error (1, i)) := by show _ = _; have h := HY.out; unfold pSet at h; rw [if_neg (by omega), if_neg (by omega), if_neg (by omega), if_pos (by unfold isSign; simp; omega)] at h; exact (Option.some.inj h).symm
                clear h91 h46 h92 h42 h43 h63 h93
                go_enter Tryz.func161, Tryz.ntmps161
                go_wp2_with fail
                go_quiet (fail)
                obtain ⟨W0, HW0⟩ : ∃ W0, Hid (W0 = w.drewN nq) := ⟨_, hide rfl⟩
                rw [← HW0.out]
                have HP0 : Hid (parserAt W0 F pb m i S g) := by rw [HW0.out]; exact hide (HP.out nq)
                have HK0 : Hid (Kept2 pb pb w W0) := by rw [HW0.out]; exact hide (Kept2.drewN (.refl _ _ _))
                have hblk0 : W0.heap[pb]? = some (.cells #[.string (bs m), .int .i64 (i : Int), .slice ao S.length cp, .int .i64 (g : Int)] 143 (0, 0)) := by rw [HW0.out]; exact HBL.out nq
                obtain ⟨d0, d1, d2, d3⟩ := four_cells hblk0
                obtain ⟨z0, z1, z2, z3⟩ := four_free hblk0
                have HBK := hide hblk0
                clear hblk0
                go_wp2_with fail
                refine (giveUp_any W0 F pb m i g S 1 HP0.out).mono ?_
                rintro e w1 ⟨rfl, rfl⟩
                rw [HE.out]
                exact ⟨rfl, keptX_two HK0.out hB, rfl⟩
              · have b91 := beq_no (a := (c.toNat : Int)) (b := 91) (by omega)
                have b46 := beq_no (a := (c.toNat : Int)) (b := 46) (by omega)
                have b92 := beq_no (a := (c.toNat : Int)) (b := 92) (by omega)
                have b42 := beq_no (a := (c.toNat : Int)) (b := 42) (by omega)
                have b43 := beq_no (a := (c.toNat : Int)) (b := 43) (by omega)
                have b63 := beq_no (a := (c.toNat : Int)) (b := 63) (by omega)
                have b93 := beq_no (a := (c.toNat : Int)) (b := 93) (by omega)
                have HE : Hid (y = .ok (between c c, i + 1)) := by show _ = _; have h := HY.out; unfold pSet at h; rw [if_neg (by omega), if_neg (by omega), if_neg (by omega), if_neg (by unfold isSign; simp; omega)] at h; exact (Option.some.inj h).symm
                clear h91 h46 h92 h42 h43 h63 h93
                go_enter Tryz.func161, Tryz.ntmps161
                go_wp2_with fail
                go_quiet (fail)
                obtain ⟨W0, HW0⟩ : ∃ W0, Hid (W0 = w.drewN nq) := ⟨_, hide rfl⟩
                rw [← HW0.out]
                have HP0 : Hid (parserAt W0 F pb m i S g) := by rw [HW0.out]; exact hide (HP.out nq)
                have HK0 : Hid (Kept2 pb pb w W0) := by rw [HW0.out]; exact hide (Kept2.drewN (.refl _ _ _))
                have hblk0 : W0.heap[pb]? = some (.cells #[.string (bs m), .int .i64 (i : Int), .slice ao S.length cp, .int .i64 (g : Int)] 143 (0, 0)) := by rw [HW0.out]; exact HBL.out nq
                obtain ⟨d0, d1, d2, d3⟩ := four_cells hblk0
                obtain ⟨z0, z1, z2, z3⟩ := four_free hblk0
                have HBK := hide hblk0
                clear hblk0
                obtain ⟨W1, HW1⟩ : ∃ W1, Hid (W1 = W0.setCell ⟨pb, 1, none⟩ (.int .i64 ((i : Int) + 1))) := ⟨_, hide rfl⟩
                have HP1 : Hid (parserAt W1 F pb m (i + 1) S g) := by rw [HW1.out]; exact hide (HP0.out.on _ (by simp))
                have HK1 : Hid (Kept2 pb pb w W1) := by rw [HW1.out]; exact hide (HK0.out.trans (.setT _ _))
                have hwr : IntKind.i64.wrap ((i : Int) + 1) = (i : Int) + 1 := wrap_i64_small _ (by omega) (by omega)
                have eW1 := HW1.out.symm
                go_wp2_with fail
                clear eW1
                refine (span_any c c W1 (Nat.le_refl _)).mono ?_
                rintro e w2 ⟨v, rfl, hv, hg2⟩
                have HP2 := hide (HP1.out.grow hg2)
                have HK2 := hide (HK1.out.trans (.grow hg2))
                clear hg2
                go_wp2_with fail
                refine (take_any w2 F pb m (i + 1) g S v _ HP2.out hv hS).mono ?_
                rintro e w3 ⟨rfl, hk3, hp3⟩
                go_wp2
                go_ret
                rw [HE.out]
                exact ⟨(keptX_two HK2.out hB).trans hk3, rfl, hp3⟩

set_option maxRecDepth 20000 in
set_option maxHeartbeats 4000000 in
theorem atom_group {m : List UInt8} {f : Nat} (hf : RowsOK m f) (w : World) (F : Nat → Prop) (pb i g : Nat) (S : List St) (c : UInt8) (y : Except (Nat × Nat) (Tr × Nat × Nat)) (hp : parserAt w F pb m i S g) (hc : m[i]? = some c) (h40 : c.toNat = 40) (hg : g ≤ 9) (hS : S.length + 8 * (m.length - i) ≤ 100002) (hm : m.length ≤ 10000)
    (hy : g ≠ 9 → pM m f true (i + 1) (g + 1) = some y) : Calls Tryz.prog 161 #[.pointer (some ⟨pb, 0, none⟩)] w (groupPost F pb m S i g y w) := by
  have hi := get_lt hc
  have hcl := c.toNat_lt
  have hmi : m[i] = c := by rw [List.getElem?_eq_getElem hi] at hc; exact Option.some.inj hc
  obtain ⟨hpb, hB, ao, cp, hblk⟩ := hp.cells
  obtain ⟨c0, c1, c2, c3⟩ := four_cells hblk
  have hi2 : (i : Int) < m.length := by omega
  have HP : Hid (∀ n, parserAt (w.drewN n) F pb m i S g) := hide fun n => hp
  have HY := hide hy
  have HF := hide hf
  have b40 := beq_yes (a := (c.toNat : Int)) (b := 40) (by omega)
  clear hp hblk hc h40 hy hf
  go_enter Tryz.func161, Tryz.ntmps161
  go_wp2_with fail
  go_quiet (fail)
  go_wp2_with fail
  refine (group_any HF.out (w.drewN nq) F pb i g S y (HP.out nq) hi hg hS hm HY.out).mono ?_
  rintro e w1 ⟨hk1, h1⟩
  have hk : KeptX F pb w w1 := ⟨hk1.os, hk1.tape, hk1.output, hk1.size, hk1.block⟩
  have HK := hide hk
  clear hk hk1
  unfold groupPost at *
  by_cases h9 : g = 9
  · rw [if_pos h9] at h1
    subst h1
    exact ⟨rfl, HK.out, by rw [if_pos h9]⟩
  · rw [if_neg h9] at h1
    match y, h1, HY with
    | .error x, h1, HY =>
      simp only at h1
      subst h1
      exact ⟨rfl, HK.out, by rw [if_neg h9]⟩
    | .ok x, h1, HY =>
      simp only at h1
      cases hd : isAt m x.2.1 41 with
      | false =>
        rw [hd] at h1
        simp only [Bool.false_eq_true, if_false] at h1
        subst h1
        exact ⟨rfl, HK.out, by rw [if_neg h9]; simp only; rw [hd]; simp⟩
      | true =>
        rw [hd] at h1
        simp only [if_true] at h1
        obtain ⟨rfl, h2⟩ := h1
        have H2 := hide h2
        have HD := hide hd
        clear h2 hd
        go_wp2
        go_ret
        exact ⟨HK.out, rfl, H2.out⟩

end Go.Proofs.YtndpjdmfkhjiiaaGreatDoor
