/- 2 texts in one. -/
import Derived.Laws.OwnMore
import Derived.Test.YtmdakfmecfcbhaaGreatProg
import Derived.Test.YtmdakfmecfcbhaaGreatK7e06493
import Derived.Test.YtmdakfmecfcbhaaGreatK85cc7d6
import Derived.Test.YtmdakfmecfcbhaaGreatK6ada7ca
import Derived.Test.YtmdakfmecfcbhaaGreatK6271d58
import Derived.Test.YtmdakfmecfcbhaaGreatK3e23582
import Derived.Test.YtmdakfmecfcbhaaGreatK14d8a0b
import Derived.Test.YtmdakfmecfcbhaaGreatKf7a2202
import Derived.Test.YtmdakfmecfcbhaaGreatKc7cc8d4
import Derived.Test.YtmdakfmecfcbhaaGreatKbe49eb6
import Derived.Test.YtmdakfmecfcbhaaGreatK62f8920
import Derived.Test.YtmdakfmecfcbhaaGreatK1440184
import Derived.Test.YtmdakfmecfcbhaaGreatK5273681
import Derived.Test.YtmdakfmecfcbhaaGreatK699e614
import Derived.Test.YtmdakfmecfcbhaaGreatK70bb736
import Derived.BigQuiet
set_option linter.unusedVariables false
set_option linter.unusedSimpArgs false
namespace Go.Proofs.YtmdakfmecfcbhaaGreat.Tk
open Go.RowKit Go.Deep
attribute [local go_sem] bs_size bs_toList bs_append bs_get bs_extract
/-- How a store's row looks. -/
def rowForm (v : Value) (n : Nat) : Prop := v = .slice none 0 0 ∨ ∃ a cp, v = .slice (some a) n cp
theorem serC_of {P : Nat → Value → Prop} {qs : List Pt} (h : ∀ i (hi : i < qs.length), P (i * 2) qs[i].2.1 ∧ P (i * 2 + 1) qs[i].2.2) : ∀ j u, (serC qs)[j]? = some u → P j u := by
  intro j u hu
  have hj : j < (serC qs).length := by
    rcases Nat.lt_or_ge j (serC qs).length with h | h
    · exact h
    · rw [List.getElem?_eq_none h] at hu; cases hu
  rw [serC_length] at hj
  obtain ⟨q0, q1⟩ := serC_at qs (j / 2) (by omega)
  obtain ⟨h0, h1⟩ := h (j / 2) (by omega)
  rcases Nat.mod_two_eq_zero_or_one j with hm | hm
  · have e : j = j / 2 * 2 := by omega
    rw [← e] at q0 h0
    rw [q0] at hu
    obtain rfl := Option.some.inj hu
    exact h0
  · have e : j = j / 2 * 2 + 1 := by omega
    rw [← e] at q1 h1
    rw [q1] at hu
    obtain rfl := Option.some.inj hu
    exact h1
theorem rdS_of {w : World} {B : Nat} {v : Value} {l : List Ser} (h : readsSer w B v l) (hf : rowForm v l.length) : ∃ qs, rdS w B v qs ∧ qs.map (·.1) = l := by
  obtain ⟨ao, cp, hv, hc, h⟩ := h
  rcases hf with hf | ⟨a, cp', hf⟩
  · have h0 : l = [] := by
      rw [hv] at hf
      simp only [Value.slice.injEq] at hf
      exact List.length_eq_zero_iff.1 hf.2.1
    subst h0
    exact ⟨[], ⟨.inl ⟨hf, rfl⟩, fun q hq => by simp at hq⟩, rfl⟩
  · rw [hv] at hf
    simp only [Value.slice.injEq] at hf
    obtain ⟨rfl, _, rfl⟩ := hf
    by_cases h0 : l = []
    · subst h0
      exact ⟨[], ⟨.inr ⟨a, cp, hv, hc, fun h => absurd rfl h, fun j u hj => by simp [serC] at hj⟩, fun q hq => by simp at hq⟩, rfl⟩
    · have hl : 0 < l.length := List.length_pos_iff.2 h0
      obtain ⟨b, o, _, _, e, hb, _⟩ := h 0 hl
      obtain rfl := Option.some.inj e
      let f : Nat → Value × Value := fun i => ((w.cell? ⟨b, o + i * 2, none⟩).getD undef, (w.cell? ⟨b, o + i * 2 + 1, none⟩).getD undef)
      have hcell : ∀ i (hi : i < l.length), w.cell? ⟨b, o + i * 2, none⟩ = some (f i).1 ∧ w.cell? ⟨b, o + i * 2 + 1, none⟩ = some (f i).2 ∧ readsLabels w B (f i).1 l[i].1 ∧ readsSam w B (f i).2 l[i].2 := by
        intro i hi
        obtain ⟨b', o', x, y, e, _, hx, hy, c0, c1⟩ := h i hi
        obtain ⟨rfl, rfl⟩ : b = b' ∧ o = o' := by simpa using e
        have e0 : (f i).1 = x := by show (w.cell? _).getD undef = x; rw [c0]; rfl
        have e1 : (f i).2 = y := by show (w.cell? _).getD undef = y; rw [c1]; rfl
        rw [e0, e1]
        exact ⟨c0, c1, hx, hy⟩
      refine ⟨List.ofFn (n := l.length) fun i => (l[i.1], f i.1), ⟨.inr ⟨⟨b, o, none⟩, cp, by rw [List.length_ofFn]; exact hv, by rw [List.length_ofFn]; exact hc, fun _ => ⟨b, o, rfl, hb⟩, ?_⟩, ?_⟩, ?_⟩
      · refine serC_of (P := fun j u => w.cell? ((⟨b, o, none⟩ : Addr).add j) = some u) fun i hi => ?_
        rw [List.length_ofFn] at hi
        simp only [List.getElem_ofFn, Addr.add_lit]
        exact ⟨(hcell i hi).1, by rw [← Nat.add_assoc]; exact (hcell i hi).2.1⟩
      · intro q hq
        obtain ⟨i, rfl⟩ := (List.mem_ofFn).1 hq
        exact ⟨(hcell i.1 i.2).2.2.1, (hcell i.1 i.2).2.2.2⟩
      · rw [List.map_ofFn]
        exact List.ofFn_getElem
theorem readsSer.wires {w : World} {B : Nat} {v : Value} {l : List Ser} (h : readsSer w B v l) : readsSeries w B v l := by
  obtain ⟨ao, cp, hv, _, h⟩ := h
  refine ⟨ao, cp, hv, fun i hi => ?_⟩
  obtain ⟨b, o, x, y, e, hb, hx, ⟨yo, yc, hy, _, hyc⟩, c0, c1⟩ := h i hi
  exact ⟨b, o, x, y, e, hb, c0, c1, hx, yo, yc, hy, hyc⟩
section
variable {H : Type} {enc : TypeId × Value → H} {P : Program} {w : World} {base : Nat} {spare : Nat → Bool} {held : Bool}
variable {H : Type} {enc : TypeId × Value → H} {w : World} {spare : Nat → Bool} {held : Bool}
theorem open_store2 {fuel : Nat} {v : Value} {x : DataW H × List MemPlace} (h : DataW.trod enc Tryz.prog w 0 spare held fuel 22 [v] = some x) :
    ∃ is, readsSer w w.heap.size v is ∧ okStore is ∧ rowForm v is.length := by
  obtain ⟨is, h1, h2⟩ := open_store h
  refine ⟨is, h1, h2, ?_⟩
  rcases Go.Deep.open_slice Tryz.underlying22 h with ⟨h3, _⟩ | ⟨a, len, cap, m, n, D, Pl, h3, _⟩
  · exact .inl (by simpa using h3)
  · obtain ⟨ao, cp, e, _⟩ := h1
    simp only [List.cons.injEq, and_true] at h3
    rw [h3] at e
    simp only [Value.slice.injEq] at e
    obtain ⟨_, hl, _⟩ := e
    exact .inr ⟨a, cap, by rw [h3, hl]⟩
end
theorem take_bound {l x : List Ser} {s : List UInt8} (h0 : storeErr l = 0) (hs : sentOf s = some x) : (takeAll l x).length ≤ 1000000 ∧ ∀ y ∈ takeAll l x, y.1.length ≤ 1000000 ∧ y.2.length ≤ 1000000 := by
  obtain ⟨x1, x2, _⟩ := sentOf_some hs
  obtain ⟨f1, f2, f3, _⟩ := takeAll_fit x x2 (store_fit h0)
  exact ⟨by omega, fun y hy => ⟨by have := (right_lens (f3 y hy)).1; omega, by have := f2 y hy; omega⟩⟩
theorem store_bound {l : List Ser} (h0 : storeErr l = 0) : l.length ≤ 1000000 ∧ ∀ y ∈ l, y.1.length ≤ 1000000 ∧ y.2.length ≤ 1000000 := by
  obtain ⟨f1, f2, f3, _⟩ := store_fit h0
  exact ⟨by omega, fun y hy => ⟨by have := (right_lens (f3 y hy)).1; omega, by have := f2 y hy; omega⟩⟩
end Go.Proofs.YtmdakfmecfcbhaaGreat.Tk
namespace Go.Proofs.YtmdakfmecfcbhaaGreat.Tk
open Go.RowKit
attribute [local go_sem] bs_size bs_toList bs_append bs_get bs_extract
/-- What Take answers: an error, a code, a store. -/
def tellT (l : List Ser) (s : List UInt8) : Nat × Nat × List Ser :=
  if storeErr l ≠ 0 then (storeErr l, 0, []) else match sentOf s with
  | none => (0, 400, l)
  | some x => if manyB (takeAll l x) = true then (2, 0, []) else (0, 200, takeAll l x)
theorem tell_bad {l : List Ser} {s : List UInt8} (h : storeErr l ≠ 0) : tellT l s = (storeErr l, 0, []) := by unfold tellT; rw [if_pos h]
theorem tell_none {l : List Ser} {s : List UInt8} (h : storeErr l = 0) (hs : sentOf s = none) : tellT l s = (0, 400, l) := by unfold tellT; rw [if_neg (by simpa using h), hs]
theorem tell_many {l x : List Ser} {s : List UInt8} (h : storeErr l = 0) (hs : sentOf s = some x) (hm : manyB (takeAll l x) = true) : tellT l s = (2, 0, []) := by unfold tellT; rw [if_neg (by simpa using h), hs]; simp [hm]
theorem tell_some {l x : List Ser} {s : List UInt8} (h : storeErr l = 0) (hs : sentOf s = some x) (hm : manyB (takeAll l x) = false) : tellT l s = (0, 200, takeAll l x) := by unfold tellT; rw [if_neg (by simpa using h), hs]; simp [hm]
theorem tell_bound (l : List Ser) (s : List UInt8) : (tellT l s).2.2.length ≤ 1000000 ∧ ∀ y ∈ (tellT l s).2.2, y.1.length ≤ 1000000 ∧ y.2.length ≤ 1000000 := by
  by_cases h0 : storeErr l = 0
  · cases hs : sentOf s with
    | none => rw [tell_none h0 hs]; exact store_bound h0
    | some x =>
      cases hm : manyB (takeAll l x) with
      | true => rw [tell_many h0 hs hm]; exact ⟨by simp, fun y hy => by simp at hy⟩
      | false => rw [tell_some h0 hs hm]; exact take_bound h0 hs
  · rw [tell_bad h0]; exact ⟨by simp, fun y hy => by simp at hy⟩
theorem nil_ser (w : World) : readsSer w w.heap.size (.slice none 0 0) [] := ⟨none, 0, rfl, Nat.le_refl _, fun i hi => by simp at hi⟩
theorem take2_any (w : World) (v : Value) (l : List Ser) (s : List UInt8) (hv : readsSer w w.heap.size v l) (hok : okStore l) (hs : s.length ≤ 140737488355328) :
    Calls Tryz.prog 11 #[v, .string (bs s)] w fun e w' => ∃ v', e = .returned (.tuple #[v', .int .i64 ((tellT l s).2.1 : Nat), .int .i64 ((tellT l s).1 : Nat)]) ∧ Grow w w' ∧ readsSer w' w'.heap.size v' (tellT l s).2.2 := by
  refine (take_any w v l s hv hok hs).mono ?_
  rintro e w' ⟨hg, ⟨h0, rfl⟩ | ⟨h0, hn, v', ps, rfl, ho, hp⟩ | ⟨h0, x, hx, ⟨hm, rfl⟩ | ⟨hm, v', ps, rfl, ho, hp⟩⟩⟩
  · rw [tell_bad h0]; exact ⟨_, rfl, hg, nil_ser _⟩
  · rw [tell_none h0 hn]; exact ⟨_, rfl, hg, hp ▸ ho.reads⟩
  · rw [tell_many h0 hx hm]; exact ⟨_, rfl, hg, nil_ser _⟩
  · rw [tell_some h0 hx hm]; exact ⟨_, rfl, hg, hp ▸ ho.reads⟩
theorem rTake2_any (w : World) (v : Value) (qs : List Pt) (l : List Ser) (s : List UInt8) (hv : rdS w w.heap.size v qs) (hl : qs.map (·.1) = l) (h0 : storeErr l = 0) (hs : s.length ≤ 140737488355328) :
    Calls Tryz.prog 12 #[v, .string (bs s)] w fun e w' => ∃ v', e = .returned (.tuple #[v', .int .i64 ((tellT l s).2.1 : Nat), .int .i64 ((tellT l s).1 : Nat)]) ∧ Grow w w' ∧ readsSer w' w'.heap.size v' (tellT l s).2.2 := by
  refine (rTakeOf_any w v qs l s hv hl h0 hs).mono ?_
  rintro e w' ⟨hg, ⟨hn, rfl⟩ | ⟨x, hx, ⟨hm, rfl⟩ | ⟨hm, v', ps, rfl, ho, hp⟩⟩⟩
  · rw [tell_none h0 hn]; exact ⟨_, rfl, hg, hl ▸ ((hv.keep hg).more hg.size).reads⟩
  · rw [tell_many h0 hx hm]; exact ⟨_, rfl, hg, nil_ser _⟩
  · rw [tell_some h0 hx hm]; exact ⟨_, rfl, hg, hp ▸ ho.reads⟩
theorem readsSer.shape {w : World} {B : Nat} {v : Value} {l : List Ser} (h : readsSer w B v l) : ∃ ao cp, v = .slice ao l.length cp := by
  obtain ⟨ao, cp, e, _⟩ := h
  exact ⟨ao, cp, e⟩
set_option maxRecDepth 20000 in
set_option maxHeartbeats 2000000 in
theorem takeTakes_any (w : World) (v : Value) (l : List Ser) (hv : readsSer w w.heap.size v l) (hok : okStore l) (hf : rowForm v l.length) (s : List UInt8) (hs : s.length ≤ 140737488355328) :
    Calls Tryz.prog 4 #[v, .string (bs s)] w fun e w' => e = .returned (.bool true) ∧ Grow w w' := by
  have HT := hide (take2_any w v l s hv hok hs)
  obtain ⟨qs, hq, hql⟩ := rdS_of hv hf
  have HQ := hide hq
  have HQL := hide hql
  have HV := hide hv
  have HOK := hide hok
  obtain ⟨S, HS⟩ : ∃ S, Hid (storeErr l = S) := ⟨_, hide rfl⟩
  have HRS : Hid (∀ W, Grow w W → Calls Tryz.prog 10 #[v] W fun e w' => e = .returned (.int .i64 (S : Nat)) ∧ Grow W w') := hide fun W g => by
    have := rStore_any W v l ((HV.out.keep g).more g.size) HOK.out
    rw [HS.out] at this
    exact this
  obtain ⟨hb1, hb2⟩ := tell_bound l s
  obtain ⟨A, HAE⟩ : ∃ A, Hid ((tellT l s).2.2 = A) := ⟨_, hide rfl⟩
  obtain ⟨C, HCE⟩ : ∃ C, Hid ((tellT l s).2.1 = C) := ⟨_, hide rfl⟩
  obtain ⟨E, HEE⟩ : ∃ E, Hid ((tellT l s).1 = E) := ⟨_, hide rfl⟩
  rw [HAE.out] at hb1 hb2
  have HSS : Hid (∀ W va vb, readsSer W W.heap.size va A → readsSer W W.heap.size vb A → Calls Tryz.prog 13 #[va, vb] W fun e w' => e = .returned (.bool true) ∧ Grow W w') := hide fun W va vb h1 h2 => by
    refine (sameSeries_yes W W.heap.size va vb A h1.wires h2.wires hb1 hb2).mono ?_
    rintro e w' ⟨h, n, rfl⟩
    exact ⟨h, grow_drew _ _⟩
  have HRT : Hid (S = 0 → ∀ W, Grow w W → Calls Tryz.prog 12 #[v, .string (bs s)] W fun e w' => ∃ v', e = .returned (.tuple #[v', .int .i64 (C : Nat), .int .i64 (E : Nat)]) ∧ Grow W w' ∧ readsSer w' w'.heap.size v' A) := hide fun h0 W g => by
    have := rTake2_any W v qs l s ((HQ.out.keep g).more g.size) HQL.out (HS.out.trans h0) hs
    rw [HAE.out, HCE.out, HEE.out] at this
    exact this
  rw [HAE.out, HCE.out, HEE.out] at HT
  have HBAD : Hid (S ≠ 0 → E = S ∧ C = 0 ∧ A = []) := hide fun h => by
    have := tell_bad (l := l) (s := s) (by rw [HS.out]; exact h)
    rw [← HEE.out, ← HCE.out, ← HAE.out, this]
    exact ⟨HS.out, rfl, rfl⟩
  obtain ⟨vo, vc, hvv⟩ := hv.shape
  subst hvv
  clear hv hok hf hs hq hql hb1 hb2
  go_enter Tryz.func4, Tryz.ntmps4
  go_wp2_with fail
  refine HT.out.mono ?_
  rintro e w1 ⟨v1, rfl, hg1, hr1⟩
  obtain ⟨uo, uc, hu⟩ := hr1.shape
  subst hu
  have HG1 : Hid (Grow w w1) := hide hg1
  have HR1 := hide hr1
  have H1 := hide (HRS.out w1 hg1)
  clear hg1 hr1 HT
  go_wp2_with fail
  refine H1.out.mono ?_
  rintro e w2 ⟨rfl, hg2⟩
  have HG12 : Hid (Grow w1 w2) := hide hg2
  have HG2 : Hid (Grow w w2) := hide (HG1.out.trans hg2)
  clear hg2 H1
  by_cases hS : S = 0
  · have hz : ((S : Int) == 0) = true := by simp [hS]
    have H2 := hide (HRT.out hS w2 HG2.out)
    clear hS
    go_wp2_with fail
    refine H2.out.mono ?_
    rintro e w3 ⟨v3, rfl, hg3, hr3⟩
    obtain ⟨to, tc, ht⟩ := hr3.shape
    subst ht
    have HG13 : Hid (Grow w1 w3) := hide (HG12.out.trans hg3)
    have HR3 := hide hr3
    clear hg3 hr3 H2
    go_wp2_with fail
    refine (takeBegun_any w3).mono ?_
    rintro e w4 ⟨rfl, hg4⟩
    have HG14 : Hid (Grow w1 w4) := hide (HG13.out.trans hg4)
    have H4 := hide (HSS.out w4 _ _ ((HR1.out.keep HG14.out).more HG14.out.size) ((HR3.out.keep hg4).more hg4.size))
    have e1 : ((E : Int) == (E : Int)) = true := by simp
    have e2 : ((C : Int) == (C : Int)) = true := by simp
    clear hg4
    go_wp2_with fail
    refine H4.out.mono ?_
    rintro e w5 ⟨rfl, hg5⟩
    have HG5 : Hid (Grow w w5) := hide (HG1.out.trans (HG14.out.trans hg5))
    clear hg5
    go_wp2
    go_ret
    exact ⟨ret_bool (by simp), HG5.out⟩
  · have hz : ((S : Int) == 0) = false := by rw [beq_eq_false_iff_ne]; omega
    obtain ⟨hE, hC, hA⟩ := HBAD.out hS
    clear hS HRT
    subst hE hC hA
    go_wp2_with fail
    refine (takeBegun_any w2).mono ?_
    rintro e w4 ⟨rfl, hg4⟩
    have HG14 : Hid (Grow w1 w4) := hide (HG12.out.trans hg4)
    have H4 := hide (HSS.out w4 _ _ ((HR1.out.keep HG14.out).more HG14.out.size) (nil_ser w4))
    have e1 : ((E : Int) == (E : Int)) = true := by simp
    clear hg4
    go_wp2_with fail
    refine H4.out.mono ?_
    rintro e w5 ⟨rfl, hg5⟩
    have HG5 : Hid (Grow w w5) := hide (HG1.out.trans (HG14.out.trans hg5))
    clear hg5
    go_wp2
    go_ret
    exact ⟨ret_bool (by simp), HG5.out⟩
end Go.Proofs.YtmdakfmecfcbhaaGreat.Tk
