/- The parser of masks: what is between brackets. -/
import Derived.Test.YtndpjdmfkhjiiaaGreatDoorProg
import Derived.Test.YtndpjdmfkhjiiaaGreatDoorKit
import Derived.Test.YtndpjdmfkhjiiaaGreatDoorMPar
import Derived.Test.YtndpjdmfkhjiiaaGreatDoorMLay
import Derived.Test.YtndpjdmfkhjiiaaGreatDoorMSet
import Derived.Test.YtndpjdmfkhjiiaaGreatDoorMWlk
import Derived.Test.YtndpjdmfkhjiiaaGreatDoorMSetB
import Derived.Test.YtndpjdmfkhjiiaaGreatDoorMExp
import Derived.Test.YtndpjdmfkhjiiaaGreatDoorMPrA
import Derived.BigQuiet
set_option linter.unusedVariables false
set_option linter.unusedSimpArgs false
namespace Go.Proofs.YtndpjdmfkhjiiaaGreatDoor
open Go.RowKit
attribute [local go_sem] bs_size bs_toList bs_append bs_get bs_extract

theorem comesB_one (m : List UInt8) (i : Nat) (c : UInt8) : comesB [c] m i = isAt m i c.toNat := by
  unfold comesB isAt
  cases m[i]? with
  | none => rfl
  | some d =>
    simp only [List.contains_cons, List.contains_nil, Bool.or_false]
    rw [Bool.eq_iff_iff]
    simp [← UInt8.toNat_inj]
theorem comesB_nat (m : List UInt8) (i : Nat) (c : UInt8) (n : Nat) (h : c.toNat = n) : comesB [c] m i = isAt m i n := by rw [comesB_one, h]
theorem contains_nat (c : UInt8) (l : List UInt8) : l.contains c = l.any fun d => decide (c.toNat = d.toNat) := by
  induction l with
  | nil => rfl
  | cons b l ih =>
    rw [List.contains_cons, List.any_cons, ih]
    congr 1
    rw [Bool.eq_iff_iff]
    simp [← UInt8.toNat_inj]
theorem comesB_bad {m : List UInt8} {i : Nat} {c : UInt8} (h : m[i]? = some c) : comesB [91, 93, 92, 94, 45] m i = badIn c := by
  unfold comesB
  rw [h]
  simp only [contains_nat, badIn, List.any_cons, List.any_nil, Bool.or_false, Bool.or_assoc]
  rfl

theorem parserAt.draw {w : World} {F : Nat → Prop} {pb n : Nat} {m : List UInt8} {i g : Nat} {S : List St} (h : parserAt w F pb m i S g) : parserAt (w.drewN n) F pb m i S g := h

set_option maxRecDepth 20000 in
set_option maxHeartbeats 1000000 in
theorem bracketed_any (w : World) (F : Nat → Prop) (pb : Nat) (m : List UInt8) (i g : Nat) (S : List St) (hp : parserAt w F pb m i S g) (hm : m.length ≤ 1000000) (hi : i ≤ m.length) :
    Calls Tryz.prog 173 #[.pointer (some ⟨pb, 0, none⟩)] w fun e w' => (∃ n, w' = w.drewN n) ∧ ((∃ c, pBr m i = some (.ok c) ∧ e = .returned (.int .u8 (c.toNat : Int))) ∨ (pBr m i = some (.error (1, i)) ∧ e = faulted 1 i)) := by
  have HP : Hid (∀ n, parserAt (w.drewN n) F pb m i S g) := hide fun n => hp
  have hp2 := hp
  obtain ⟨sv, rs, ⟨h1, h2, h3⟩, _⟩ := hp2
  obtain ⟨c0, c1, c2, c3⟩ := four_cells h2
  have HBL : Hid (∀ n, (w.drewN n).heap[pb]? = some (.cells #[.string (bs m), .int .i64 (i : Int), sv, .int .i64 (g : Int)] 143 (0, 0))) := hide fun n => h2
  clear h2 h3 hp
  go_enter Tryz.func173, Tryz.ntmps173
  by_cases hlt : i < m.length
  · obtain ⟨c, hc⟩ : ∃ c, m[i] = c := ⟨_, rfl⟩
    have hget : m[i]? = some c := by rw [List.getElem?_eq_getElem hlt, hc]
    have hne : ((i : Int) == m.length) = false := by rw [beq_eq_false_iff_ne]; omega
    have hlt2 : (i : Int) < m.length := by omega
    have HC : Hid (comesB [91, 93, 92, 94, 45] m i = badIn c) := hide (comesB_bad hget)
    have HQ : Hid (pBr m i = if badIn c then some (.error (1, i)) else some (.ok c)) := by show _ = _; unfold pBr; rw [hget]
    have HS : Hid (∀ n, Calls Tryz.prog 154 #[.pointer (some ⟨pb, 0, none⟩), .string { data := #[91, 93, 92, 94, 45] }] (w.drewN n) fun e w' => e = .returned (.bool (badIn c)) ∧ ∃ k, w' = (w.drewN n).drewN k) := by
      intro n
      have h := comes_any (w.drewN n) F pb m [91, 93, 92, 94, 45] i g S (HP.out n) hm hi
      rw [HC.out] at h
      exact h
    clear hget
    cases hb : badIn c with
    | true =>
      rw [hb] at HS HQ
      clear hb
      go_wp2
      go_quiet ((go_at_call 154; exact Calls.quiet_of (HS.out _)))
      go_wp2_with fail
      refine (giveUp_any _ F pb m i g S 1 (HP.out _)).mono ?_
      rintro e w' ⟨rfl, rfl⟩
      exact ⟨rfl, ⟨_, rfl⟩, .inr ⟨HQ.out, rfl⟩⟩
    | false =>
      rw [hb] at HS HQ
      clear hb
      go_wp2
      go_quiet ((go_at_call 154; exact Calls.quiet_of (HS.out _)))
      go_wp2
      have c0' := (four_cells (HBL.out nq)).1
      have c1' := (four_cells (HBL.out nq)).2.1
      go_quiet (fail)
      go_wp2
      go_ret
      exact ⟨⟨_, World.drewN_drewN _ _ _⟩, .inl ⟨c, HQ.out, rfl⟩⟩
  · have hne : ((i : Int) == m.length) = true := by rw [beq_iff_eq]; omega
    have HQ : Hid (pBr m i = some (.error (1, i))) := by show _ = _; unfold pBr; rw [List.getElem?_eq_none_iff.2 (by omega)]
    go_wp2
    go_quiet (fail)
    go_wp2_with fail
    refine (giveUp_any _ F pb m i g S 1 (HP.out _)).mono ?_
    rintro e w' ⟨rfl, rfl⟩
    exact ⟨rfl, ⟨_, rfl⟩, .inr ⟨HQ.out, rfl⟩⟩

/-- Two set aside: where a parser lies, its place is put on. -/
theorem parserAt.on {w : World} {F : Nat → Prop} {pb : Nat} {m : List UInt8} {i i' g : Nat} {S : List St} (h : parserAt w F pb m i S g) (u : Value) (hu : u = .int .i64 (i' : Int)) : parserAt (w.setCell ⟨pb, 1, none⟩ u) F pb m i' S g := by
  obtain ⟨sv, rs, h, e⟩ := h
  subst hu
  exact ⟨sv, rs, h.put (by simp), e⟩
theorem parserAt.cells {w : World} {F : Nat → Prop} {pb : Nat} {m : List UInt8} {i g : Nat} {S : List St} (h : parserAt w F pb m i S g) : pb < w.heap.size ∧ (∀ k, F k → k < w.heap.size) ∧ ∃ ao cp, w.heap[pb]? = some (.cells #[.string (bs m), .int .i64 (i : Int), .slice ao S.length cp, .int .i64 (g : Int)] 143 (0, 0)) := by
  obtain ⟨sv, rs, ⟨h1, h2, h3, _⟩, e⟩ := h
  obtain ⟨ao, cp, rfl⟩ := own_shape h3
  exact ⟨lt_of_block h2, h1, ao, cp, by rw [← e, List.length_map]; exact h2⟩

/-- What a set of bytes that is handed back lies in. -/
theorem set_out {w : World} {b : Nat} {x0 x1 x2 x3 : Nat} (h : w.heap[b]? = some (.cells #[.int .u64 (x0 : Nat), .int .u64 (x1 : Nat), .int .u64 (x2 : Nat), .int .u64 (x3 : Nat)] 148 (0, 0))) : wordsAt w b [x0, x1, x2, x3] := h

/-- A cell of another kind is written: a parser stays. -/
theorem parserAt.other {w : World} {F : Nat → Prop} {pb b o : Nat} {m : List UInt8} {i g : Nat} {S : List St} (h : parserAt w F pb m i S g) {c : Array Value} {t : TypeId} {fr : Nat × Nat} (hb : w.heap[b]? = some (.cells c t fr)) (h1 : (143 : Nat) ≠ t) (h2 : (150 : Nat) ≠ t) (h3 : (3 : Nat) ≠ t) (u : Value) : parserAt (w.setCell ⟨b, o, none⟩ u) F pb m i S g := by
  obtain ⟨sv, rs, ⟨k1, k2, k3, k4, k5⟩, e⟩ := h
  have hne : pb ≠ b := by
    rintro rfl
    rw [k2] at hb
    simp at hb
    exact h1 hb.2.1
  refine ⟨sv, rs, ⟨fun k hk => by have := k1 k hk; simpa [World.setCell] using this, ?_, ?_, fun j r hr => (k4 j r hr).keep fun k hk => ?_, k5⟩, e⟩
  · rw [Below.heap_setCell _ _ _ _ hne]; exact k2
  · exact ownsRow_setCell_other (a := ⟨b, o, none⟩) k3 (own_apart k3 hb h2) _
  · exact Below.heap_setCell _ _ _ _ (by rintro rfl; exact (k4 j r hr).apart hb h3 hk)
/-- A set of bytes is put into a block of its own. -/
theorem set_put {w : World} {F : Nat → Prop} {pb b : Nat} {m : List UInt8} {i g : Nat} {S : List St} (h : parserAt w F pb m i S g) {l : List Nat} (hb : wordsAt w b l) (x0 x1 x2 x3 : Nat) (hl : l.length = 4) :
    parserAt ((((w.setCell ⟨b, 0, none⟩ (.int .u64 x0)).setCell ⟨b, 1, none⟩ (.int .u64 x1)).setCell ⟨b, 2, none⟩ (.int .u64 x2)).setCell ⟨b, 3, none⟩ (.int .u64 x3)) F pb m i S g ∧
    wordsAt ((((w.setCell ⟨b, 0, none⟩ (.int .u64 x0)).setCell ⟨b, 1, none⟩ (.int .u64 x1)).setCell ⟨b, 2, none⟩ (.int .u64 x2)).setCell ⟨b, 3, none⟩ (.int .u64 x3)) b [x0, x1, x2, x3] ∧
    (∀ k, k ≠ b → ((((w.setCell ⟨b, 0, none⟩ (.int .u64 x0)).setCell ⟨b, 1, none⟩ (.int .u64 x1)).setCell ⟨b, 2, none⟩ (.int .u64 x2)).setCell ⟨b, 3, none⟩ (.int .u64 x3)).heap[k]? = w.heap[k]?) := by
  have b1 := hb.set 0 x0
  have b2 := b1.set 1 x1
  have b3 := b2.set 2 x2
  have b4 := b3.set 3 x3
  have p1 := h.other (o := 0) hb (by decide) (by decide) (by decide) (.int .u64 x0)
  have p2 := p1.other (o := 1) b1 (by decide) (by decide) (by decide) (.int .u64 x1)
  have p3 := p2.other (o := 2) b2 (by decide) (by decide) (by decide) (.int .u64 x2)
  have p4 := p3.other (o := 3) b3 (by decide) (by decide) (by decide) (.int .u64 x3)
  refine ⟨p4, ?_, fun k hk => ?_⟩
  · match l, hl with
    | [_, _, _, _], _ => exact b4
  · rw [Below.heap_setCell _ _ _ _ hk, Below.heap_setCell _ _ _ _ hk, Below.heap_setCell _ _ _ _ hk, Below.heap_setCell _ _ _ _ hk]
/-- What was laid first, and written last, is no change. -/
theorem kept_out {w W w3 w4 : World} {tb mb : Nat} (gW : Grow w W) (hs : w.heap.size ≤ W.heap.size) (h : Kept2 tb mb W w3) (hsz : w3.heap.size ≤ w4.heap.size) (hk : ∀ k, k ≠ w.heap.size → w4.heap[k]? = w3.heap[k]?) (h1 : w4.os = w3.os) (h2 : w4.tape = w3.tape) (h3 : w4.output = w3.output) : Kept2 tb mb w w4 :=
  ⟨h1.trans (h.os.trans gW.os), h2.trans (h.tape.trans gW.tape), h3.trans (h.output.trans gW.output), Nat.le_trans gW.size (Nat.le_trans h.size hsz), fun k hk1 hn1 hn2 => (hk k (by omega)).trans ((h.block k (by omega) hn1 hn2).trans (gW.block k hk1))⟩
theorem wordsAt.keep {w w' : World} {b : Nat} {l : List Nat} (h : wordsAt w b l) (g : w'.heap[b]? = w.heap[b]?) : wordsAt w' b l := g.trans h

set_option maxRecDepth 20000 in
set_option maxHeartbeats 2000000 in
theorem pspan_any (w : World) (F : Nat → Prop) (pb : Nat) (m : List UInt8) (i g : Nat) (S : List St) (hp : parserAt w F pb m i S g) (hm : m.length ≤ 1000000) (hi : i ≤ m.length) :
    Calls Tryz.prog 169 #[.pointer (some ⟨pb, 0, none⟩)] w fun e w' => Kept2 pb pb w w' ∧ ((∃ s j v, pSpan m i = some (.ok (s, j)) ∧ e = .returned (setV v) ∧ wordsIs v s ∧ parserAt w' F pb m j S g) ∨ (∃ er a : Nat, pSpan m i = some (.error (er, a)) ∧ e = faulted er a)) := by
  obtain ⟨W, HW⟩ : ∃ W, Hid (W = w.alloc (.cells #[.int .u64 0, .int .u64 0, .int .u64 0, .int .u64 0] 148)) := ⟨_, hide rfl⟩
  have gW : Grow w W := by rw [HW.out]; exact (Grow.refl _).alloc _
  have hWb : wordsAt W w.heap.size [0, 0, 0, 0] := by rw [HW.out]; exact heap_alloc_new _ _
  have hWs : W.heap.size = w.heap.size + 1 := by rw [HW.out]; simp
  have hpW := hp.grow gW
  obtain ⟨hpb, hB, _⟩ := hp.cells
  have HWB := hide hWb
  have HPW := hide hpW
  clear hp hWb hpW
  go_enter Tryz.func169, Tryz.ntmps169
  go_wp2_with fail
  rw [← HW.out]
  refine (bracketed_any W F pb m i g S HPW.out hm hi).mono ?_
  rintro e w1 ⟨⟨n, rfl⟩, (⟨a, ha, rfl⟩ | ⟨ha, rfl⟩)⟩
  · have hlt := get_lt (pBr_ok ha).1
    have hab := a.toNat_lt
    have HA := hide ha
    have HP1 : Hid (parserAt (W.drewN n) F pb m i S g) := HPW
    clear ha
    obtain ⟨_, _, ao, cp, hblk⟩ := HP1.out.cells
    obtain ⟨c0, c1, c2, c3⟩ := four_cells hblk
    obtain ⟨z0, z1, z2, z3⟩ := four_free hblk
    clear hblk c0 c2 c3
    obtain ⟨W1, HW1⟩ : ∃ W1, Hid (W1 = (W.drewN n).setCell ⟨pb, 1, none⟩ (.int .i64 ((i : Int) + 1))) := ⟨_, hide rfl⟩
    have HP2 : Hid (parserAt W1 F pb m (i + 1) S g) := by rw [HW1.out]; exact hide (HP1.out.on _ (by simp))
    have HK1 : Hid (Kept2 pb pb W W1) := by rw [HW1.out]; exact hide ((Kept2.drewN (.refl _ _ _)).trans (.setT _ _))
    have hwr : IntKind.i64.wrap ((i : Int) + 1) = (i : Int) + 1 := wrap_i64_small _ (by omega) (by omega)
    go_wp2_with fail
    rw [← HW1.out]
    refine (skip_any W1 F pb m [45] (i + 1) g S HP2.out hm (by omega)).mono ?_
    rintro e w2 ⟨rfl, hk2, hp2⟩
    rw [comesB_nat _ _ 45 45 rfl] at hp2 ⊢
    have HK2 := hide (HK1.out.trans hk2)
    have HP3 := hide hp2
    clear hk2 hp2
    cases hd : isAt m (i + 1) 45 with
    | false =>
      have HQ : Hid (pSpan m i = some (.ok (between a a, i + 1))) := by show _ = _; unfold pSpan; rw [HA.out]; simp only [bindO]; rw [hd]; simp
      rw [hd] at HP3
      clear hd
      go_wp2_with fail
      refine (span_any a a w2 (Nat.le_refl _)).mono ?_
      rintro e w3 ⟨v, rfl, hv, hg3⟩
      obtain ⟨x0, x1, x2, x3, rfl⟩ := words_four hv
      have hw3 : wordsAt w3 w.heap.size [0, 0, 0, 0] := hg3.get (HWB.out.keep (HK2.out.block _ (by omega) (by omega) (by omega)))
      obtain ⟨q0, q1, q2, q3⟩ := hw3.four
      have f0 := not_frozen (k := 0) hw3
      have f1 := not_frozen (k := 1) hw3
      have f2 := not_frozen (k := 2) hw3
      have f3 := not_frozen (k := 3) hw3
      obtain ⟨k1, k2, k3⟩ := set_put (HP3.out.grow hg3) hw3 x0 x1 x2 x3 rfl
      have K1 := hide k1
      have K2 := hide k2
      have K3 := hide k3
      have HV := hide hv
      have HK3 := hide (HK2.out.trans (.grow hg3))
      clear hw3 k1 k2 k3 hv hg3
      rw [show setV [x0, x1, x2, x3] = .agg #[.int .u64 (x0 : Int), .int .u64 (x1 : Int), .int .u64 (x2 : Int), .int .u64 (x3 : Int)] from rfl]
      go_wp2
      refine bodyPost_ret (v := setV [x0, x1, x2, x3]) (results_cell_row (p := 2) (ty := 148) rfl _ _ w.heap.size _ _ _ _ rfl K2.out Tryz.underlying148 rfl info_set) rfl ⟨?_, .inl ⟨_, _, _, HQ.out, rfl, HV.out, K1.out⟩⟩
      exact kept_out gW (by omega) HK3.out (by simp [World.setCell]) K3.out rfl rfl rfl
    | true =>
      rw [hd] at HP3
      have HP4 : Hid (parserAt w2 F pb m (i + 2) S g) := HP3
      have hlt2 := isAt_lt hd
      have HD := hide hd
      clear hd HP3
      go_wp2_with fail
      refine (bracketed_any w2 F pb m (i + 2) g S HP4.out hm (by omega)).mono ?_
      rintro e w4 ⟨⟨n4, rfl⟩, (⟨b, hb, rfl⟩ | ⟨hb, rfl⟩)⟩
      · have HP5 : Hid (parserAt (w2.drewN n4) F pb m (i + 2) S g) := HP4
        have hlt3 := get_lt (pBr_ok hb).1
        have hbb := b.toNat_lt
        have HB := hide hb
        have HK4 : Hid (Kept2 pb pb W (w2.drewN n4)) := hide (HK2.out.trans (Kept2.drewN (.refl _ _ _)))
        clear hb
        by_cases hlt : (b.toNat : Int) < a.toNat
        · have HQ : Hid (pSpan m i = some (.error (3, i + 2))) := by
            show _ = _; unfold pSpan; rw [HA.out]; simp only [bindO]; rw [HD.out, HB.out]; simp only [if_true]; rw [if_pos (by omega)]
          go_wp2_with fail
          refine (giveUp_any _ F pb m (i + 2) g S 3 HP5.out).mono ?_
          rintro e w5 ⟨rfl, rfl⟩
          exact ⟨rfl, ⟨HK4.out.os.trans gW.os, HK4.out.tape.trans gW.tape, HK4.out.output.trans gW.output, Nat.le_trans gW.size HK4.out.size, fun k h1 h2 h3 => (HK4.out.block k (by omega) h2 h3).trans (gW.block k h1)⟩, .inr ⟨3, i + 2, HQ.out, rfl⟩⟩
        · have HQ : Hid (pSpan m i = some (.ok (between a b, i + 3))) := by
            show _ = _; unfold pSpan; rw [HA.out]; simp only [bindO]; rw [HD.out, HB.out]; simp only [if_true]; rw [if_neg (by omega)]
          obtain ⟨_, _, ao5, cp5, hblk⟩ := HP5.out.cells
          obtain ⟨c0, c1, c2, c3⟩ := four_cells hblk
          obtain ⟨y0, y1, y2, y3⟩ := four_free hblk
          clear hblk c0 c2 c3
          obtain ⟨W5, HW5⟩ : ∃ W5, Hid (W5 = (w2.drewN n4).setCell ⟨pb, 1, none⟩ (.int .i64 ((i : Int) + 2 + 1))) := ⟨_, hide rfl⟩
          have HP6 : Hid (parserAt W5 F pb m (i + 3) S g) := by rw [HW5.out]; exact hide (HP5.out.on _ (by simp; omega))
          have HK5 : Hid (Kept2 pb pb W W5) := by rw [HW5.out]; exact hide (HK4.out.trans (.setT _ _))
          have hwr2 : IntKind.i64.wrap ((i : Int) + 2 + 1) = (i : Int) + 2 + 1 := wrap_i64_small _ (by omega) (by omega)
          go_wp2_with fail
          rw [← HW5.out]
          refine (span_any a b W5 (by omega)).mono ?_
          rintro e w6 ⟨v, rfl, hv, hg6⟩
          obtain ⟨x0, x1, x2, x3, rfl⟩ := words_four hv
          have hw6 : wordsAt w6 w.heap.size [0, 0, 0, 0] := hg6.get (HWB.out.keep (HK5.out.block _ (by omega) (by omega) (by omega)))
          obtain ⟨q0, q1, q2, q3⟩ := hw6.four
          have f0 := not_frozen (k := 0) hw6
          have f1 := not_frozen (k := 1) hw6
          have f2 := not_frozen (k := 2) hw6
          have f3 := not_frozen (k := 3) hw6
          obtain ⟨k1, k2, k3⟩ := set_put (HP6.out.grow hg6) hw6 x0 x1 x2 x3 rfl
          have K1 := hide k1
          have K2 := hide k2
          have K3 := hide k3
          have HV := hide hv
          have HK3 := hide (HK5.out.trans (.grow hg6))
          clear hw6 k1 k2 k3 hv hg6
          rw [show setV [x0, x1, x2, x3] = .agg #[.int .u64 (x0 : Int), .int .u64 (x1 : Int), .int .u64 (x2 : Int), .int .u64 (x3 : Int)] from rfl]
          go_wp2
          refine bodyPost_ret (v := setV [x0, x1, x2, x3]) (results_cell_row (p := 2) (ty := 148) rfl _ _ w.heap.size _ _ _ _ rfl K2.out Tryz.underlying148 rfl info_set) rfl ⟨?_, .inl ⟨_, _, _, HQ.out, rfl, HV.out, K1.out⟩⟩
          exact kept_out gW (by omega) HK3.out (by simp [World.setCell]) K3.out rfl rfl rfl
      · have HQ : Hid (pSpan m i = some (.error (1, i + 2))) := by
          show _ = _; unfold pSpan; rw [HA.out]; simp only [bindO]; rw [HD.out, hb]; simp
        have HK4 : Hid (Kept2 pb pb W (w2.drewN n4)) := hide (HK2.out.trans (Kept2.drewN (.refl _ _ _)))
        exact ⟨rfl, ⟨HK4.out.os.trans gW.os, HK4.out.tape.trans gW.tape, HK4.out.output.trans gW.output, Nat.le_trans gW.size HK4.out.size, fun k h1 h2 h3 => (HK4.out.block k (by omega) h2 h3).trans (gW.block k h1)⟩, .inr ⟨1, i + 2, HQ.out, rfl⟩⟩
  · have HQ : Hid (pSpan m i = some (.error (1, i))) := by
      show _ = _; unfold pSpan; rw [ha]; rfl
    exact ⟨rfl, ⟨gW.os, gW.tape, gW.output, gW.size, fun k h1 h2 h3 => gW.block k h1⟩, .inr ⟨1, i, HQ.out, rfl⟩⟩

end Go.Proofs.YtndpjdmfkhjiiaaGreatDoor
