/- 1 texts in one. -/
import Derived.Laws.OwnMore
import Derived.Laws.AppendOwnNone
import Derived.ArgAppend
import Derived.Deep.AppendLies
import Derived.Maps.AppendAt
import Derived.Shelf.RegionOpenPlain
import Derived.Test.YtmdakfmecfcbhaaGreatProg
import Derived.Test.YtmdakfmecfcbhaaGreatK7e06493
import Derived.Test.YtmdakfmecfcbhaaGreatK85cc7d6
import Derived.Test.YtmdakfmecfcbhaaGreatK6ada7ca
import Derived.Test.YtmdakfmecfcbhaaGreatK0d2d33e
import Derived.Test.YtmdakfmecfcbhaaGreatK14d8a0b
import Derived.Test.YtmdakfmecfcbhaaGreatKf7a2202
import Derived.Test.YtmdakfmecfcbhaaGreatKbe49eb6
import Derived.Test.YtmdakfmecfcbhaaGreatK62f8920
import Derived.Test.YtmdakfmecfcbhaaGreatK0be3e27
import Derived.BigQuiet
set_option linter.unusedVariables false
set_option linter.unusedSimpArgs false
namespace Go.Proofs.YtmdakfmecfcbhaaGreat.Tk
open Go.RowKit Go.Shelf Lb
attribute [local go_sem] bs_size bs_toList bs_append bs_get bs_extract
/-- A store that is only read, the values of its cells told. -/
def rdS (w : World) (B : Nat) (v : Value) (qs : List Pt) : Prop :=
  ((v = .slice none 0 0 ∧ qs = []) ∨ ∃ a cp, v = .slice (some a) qs.length cp ∧ qs.length ≤ cp ∧ (qs ≠ [] → ∃ b o, a = ⟨b, o, none⟩ ∧ b < B) ∧ ∀ j u, (serC qs)[j]? = some u → w.cell? (a.add j) = some u) ∧ ∀ q ∈ qs, readsLabels w B q.2.1 q.1.1 ∧ readsSam w B q.2.2 q.1.2
theorem rdS.keep {w w' : World} {B : Nat} {v : Value} {qs : List Pt} (h : rdS w B v qs) (g : Below B w w') : rdS w' B v qs := by
  obtain ⟨h1, h2⟩ := h
  refine ⟨?_, fun q hq => ⟨readsLabels_below (h2 q hq).1 g, (h2 q hq).2.keep g⟩⟩
  rcases h1 with h1 | ⟨a, cp, e, hc, hb, h⟩
  · exact .inl h1
  · refine .inr ⟨a, cp, e, hc, hb, fun j u hj => ?_⟩
    have hne : qs ≠ [] := fun e => by subst e; simp [serC] at hj
    obtain ⟨b, o, rfl, hbb⟩ := hb hne
    rw [Addr.add_lit] at *
    have := h j u hj
    rw [Addr.add_lit] at this
    exact (g.cell (p := ⟨b, o + j, none⟩) hbb).trans this
theorem rdS.more {w : World} {B B' : Nat} {v : Value} {qs : List Pt} (h : rdS w B v qs) (hB : B ≤ B') : rdS w B' v qs := by
  obtain ⟨h1, h2⟩ := h
  refine ⟨?_, fun q hq => ⟨readsLabels_mono (h2 q hq).1 hB, (h2 q hq).2.more hB⟩⟩
  rcases h1 with h1 | ⟨a, cp, e, hc, hb, h⟩
  · exact .inl h1
  · exact .inr ⟨a, cp, e, hc, fun hn => by obtain ⟨b, o, e, h⟩ := hb hn; exact ⟨b, o, e, Nat.lt_of_lt_of_le h hB⟩, h⟩
theorem rdS.reads {w : World} {B : Nat} {v : Value} {qs : List Pt} (h : rdS w B v qs) : readsSer w B v (qs.map (·.1)) := by
  obtain ⟨h1, h2⟩ := h
  rcases h1 with ⟨rfl, rfl⟩ | ⟨a, cp, rfl, hc, hb, h⟩
  · exact ⟨none, 0, rfl, Nat.le_refl _, fun i hi => by simp at hi⟩
  · refine ⟨some a, cp, by rw [List.length_map], by rw [List.length_map]; exact hc, fun i hi => ?_⟩
    rw [List.length_map] at hi
    obtain ⟨b, o, rfl, hbb⟩ := hb (fun e => by subst e; simp at hi)
    obtain ⟨q0, q1⟩ := serC_at qs i hi
    have r0 := h _ _ q0
    have r1 := h _ _ q1
    rw [Addr.add_lit] at r0 r1
    obtain ⟨hl, hs⟩ := h2 qs[i] (List.getElem_mem hi)
    exact ⟨b, o, qs[i].2.1, qs[i].2.2, rfl, hbb, by simpa using hl, by simpa using hs, r0, by rw [← Nat.add_assoc] at r1; exact r1⟩
theorem rdS.one {w : World} {B : Nat} {v : Value} {qs : List Pt} (h : rdS w B v qs) : ∀ u ∈ serC qs, u.oneCell' = true := by
  have key : ∀ l : List Pt, (∀ p ∈ l, p.2.1.oneCell' = true ∧ p.2.2.oneCell' = true) → ∀ u ∈ serC l, u.oneCell' = true := by
    intro l
    induction l with
    | nil => intro _ u hu; simp [serC] at hu
    | cons p l ih =>
      intro hp u hu
      rcases List.mem_cons.1 hu with rfl | hu
      · exact (hp p (by simp)).1
      rcases List.mem_cons.1 hu with rfl | hu
      · exact (hp p (by simp)).2
      exact ih (fun q hq => hp q (List.mem_cons_of_mem _ hq)) u hu
  refine key qs fun p hp => ?_
  obtain ⟨h1, h2⟩ := h.2 p hp
  obtain ⟨_, _, e1⟩ := readsLabels_len h1
  obtain ⟨_, _, e2, _⟩ := readsSam_len h2
  rw [e1, e2]
  exact ⟨rfl, rfl⟩
/-- A row of the call's own, read. -/
theorem rdS_own {w : World} {B B' : Nat} {v : Value} {qs : List Pt} (h : w.ownsRow B 41 2 v qs.length (serC qs)) (hB : w.heap.size ≤ B') (hq : ∀ q ∈ qs, readsLabels w B' q.2.1 q.1.1 ∧ readsSam w B' q.2.2 q.1.2) : rdS w B' v qs := by
  refine ⟨?_, hq⟩
  rcases h.2 with ⟨hv, h0⟩ | ⟨g, cap, cur, hv, h1, h2, h3⟩
  · exact .inl ⟨hv, List.length_eq_zero_iff.1 h0⟩
  · refine .inr ⟨⟨g, 0, none⟩, cap, hv, h3.1, fun _ => ⟨g, 0, rfl, Nat.lt_of_lt_of_le (lt_of_block h2) hB⟩, fun j u hj => ?_⟩
    exact World.ownsRow.cells h (g := g) (by rw [hv]; rfl) j u hj
/-- A row of the call's own, read. -/
theorem rdS_own' {w : World} {B B' g n cap : Nat} {qs : List Pt} (h : w.ownsRow B 41 2 (.slice (some ⟨g, 0, none⟩) n cap) qs.length (serC qs)) (hn : n = qs.length) (hq : ∀ q ∈ qs, readsLabels w B' q.2.1 q.1.1 ∧ readsSam w B' q.2.2 q.1.2) (hB : w.heap.size ≤ B' := by exact Nat.le_refl _) : rdS w B' (.slice (some ⟨g, 0, none⟩) n cap) qs := by
  subst hn
  exact rdS_own h hB hq
theorem step_app_arg {P : Program} {ops : Array Oper} {o : Oper} {a : Act} {w : World} {K : Act → World → Prop} {Q : Exit → Act → World → Prop} {E : Prop}
    (hgd : o.guard = none) (s x : Operand) (t : TypeId) (ho : o.op = Op.call { callee := Callee.builtin Builtin.append, args := #[s, x], argTypes := #[t, t] })
    (e : TypeId) (i : TypeInfo) (z : Value) (size bytes : Nat) (ht : P.underlying t = some (.slice e)) (hi : P.info? e = some i) (hz : i.zero = some z)
    (hsize : i.size = size) (hby : i.bytes = bytes) (hzs : z.cells.size = size) (hsz : 0 < size)
    (b : Addr) (n cap : Nat) (olds : List Value) (hs : a.eval s = .slice (some b) n cap) (hlo : olds.length = n * size) (holds : ∀ j u, olds[j]? = some u → w.cell? (b.add j) = some u)
    (ad : Addr) (m c : Nat) (news : List Value) (hx : a.eval x = .slice (some ad) m c) (hl : news.length = m * size) (hnews : ∀ j u, news[j]? = some u → w.cell? (ad.add j) = some u)
    (hg : cap < n + m) (h63 : n + m ≤ maxLen) (hbytes : (n + m) * bytes ≤ 140737488355328)
    (hK : ∀ v' w', w'.ownsRow w.heap.size e size v' (n + m) (olds ++ news) → w.grownBy w' none → K (a.put o.dst v') w') :
    if Region.wanted o (yielded ops a.tmps) = true then Oper.wp P o a w K Q else E := by
  have hw : Region.wanted o (yielded ops a.tmps) = true := by simp [Region.wanted, hgd]
  rw [if_pos hw]
  obtain ⟨v', w', hr, h2, h3⟩ := run_append_arg_grows (P := P) (w := w) t o.type e i z size bytes ht hi hz hsize hby hzs hsz b n cap olds hlo holds ad m c news hl hnews hg h63 hbytes
  unfold Oper.wp
  simp [execOp, ho, resolve, invoke, builtin, hs, hx, hr, Result.andThen]
  exact hK v' w' h2 h3
theorem grow_none {w w' : World} (h : w.grownBy w' none) : Grow w w' := ⟨h.os, h.tape, h.output, h.size, fun k hk => h.block k hk (by simp)⟩
theorem keepP_at : ∀ {l : List Ser} {x : List Lab} {p : Sam} {i : Nat}, i ≤ l.length → (∀ j (hj : j < l.length), j < i → ordB l[j].1 x < 0) → (∀ h : i < l.length, ¬ ordB l[i].1 x < 0) →
    keepP l x p = if h : i < l.length then (if ordB l[i].1 x = 0 then l.take i ++ (l[i].1, addS l[i].2 p) :: l.drop (i + 1) else l.take i ++ (x, [p]) :: l.drop i) else l.take i ++ (x, [p]) :: l.drop i
  | [], x, p, i, hi, _, _ => by
    have : i = 0 := by simpa using hi
    subst this
    rfl
  | s :: l, x, p, 0, _, _, hn => by
    have h0 := hn (by simp)
    rw [keepP, if_neg (show ¬ ordB s.1 x < 0 from h0), dif_pos (by simp)]
    rfl
  | s :: l, x, p, i + 1, hi, ha, hn => by
    have h0 := ha 0 (by simp) (by omega)
    rw [keepP, if_pos (show ordB s.1 x < 0 from h0)]
    rw [keepP_at (l := l) (i := i) (by simpa using hi) (fun j hj hji => ha (j + 1) (by simpa using hj) (by omega)) (fun h => hn (by simpa using h))]
    by_cases h : i < l.length
    · rw [dif_pos h, dif_pos (show i + 1 < (s :: l).length by simpa using h)]
      show _ = if ordB l[i].1 x = 0 then _ else _
      split <;> rfl
    · rw [dif_neg h, dif_neg (show ¬ i + 1 < (s :: l).length by simpa using h)]
      rfl
theorem ins_fin {w w7 : World} {v vx v7 : Value} {qs : List Pt} {x : List Lab} {t : Int} {b nb i B7 : Nat} (hv : rdS w w.heap.size v qs) (hx : readsLabels w w.heap.size vx x) (g : Grow w w7) (hn : w7.heap[nb]? = some (.cells #[.int .i64 t, .int .u64 (b : Nat)] 48 (0, 0)))
    (h : w7.ownsRow B7 41 2 v7 (i + (1 + (qs.length - i))) ((serC qs).take (i * 2) ++ ([vx, .slice (some ⟨nb, 0, none⟩) 1 1] ++ (serC qs).drop (i * 2)))) (hi : i ≤ qs.length) (ha : ∀ j (hj : j < qs.length), j < i → ordB qs[j].1.1 x < 0) (hn2 : ∀ h : i < qs.length, 0 < ordB qs[i].1.1 x) :
    ∃ qs', rdS w7 w7.heap.size v7 qs' ∧ qs'.map (·.1) = keepP (qs.map (·.1)) x (t, b) := by
  have hold : ∀ q ∈ qs, readsLabels w7 w7.heap.size q.2.1 q.1.1 ∧ readsSam w7 w7.heap.size q.2.2 q.1.2 := fun q hq => ((hv.keep g).more g.size).2 q hq
  refine ⟨qs.take i ++ ((x, [(t, b)]), vx, .slice (some ⟨nb, 0, none⟩) 1 1) :: qs.drop i, rdS_own (B := B7) ?_ (Nat.le_refl _) ?_, ?_⟩
  · have e1 : (qs.take i ++ ((x, [(t, b)]), vx, Value.slice (some ⟨nb, 0, none⟩) 1 1) :: qs.drop i).length = i + (1 + (qs.length - i)) := by simp; omega
    have e2 : serC (qs.take i ++ ((x, [(t, b)]), vx, Value.slice (some ⟨nb, 0, none⟩) 1 1) :: qs.drop i) = (serC qs).take (i * 2) ++ ([vx, .slice (some ⟨nb, 0, none⟩) 1 1] ++ (serC qs).drop (i * 2)) := by
      rw [serC_append, serC_take, serC_drop]; rfl
    rw [e1, e2]
    exact h
  · intro q hq
    rcases List.mem_append.1 hq with hq | hq
    · exact hold q (List.mem_of_mem_take hq)
    rcases List.mem_cons.1 hq with rfl | hq
    · refine ⟨readsLabels_mono (readsLabels_below hx g) g.size, some ⟨nb, 0, none⟩, 1, rfl, Nat.le_refl _, fun j hj => ?_⟩
      obtain rfl : j = 0 := by simpa using hj
      exact ⟨nb, 0, rfl, lt_of_block hn, (two_cells hn).1, (two_cells hn).2⟩
    · exact hold q (List.mem_of_mem_drop hq)
  · rw [keepP_at (i := i) (by simpa using hi) (fun j hj hji => by simpa using ha j (by simpa using hj) hji) (fun h => by have := hn2 (by simpa using h); simp only [List.getElem_map]; omega)]
    have e : ∀ h : i < (qs.map (fun q : Pt => q.1)).length, ¬ ordB ((qs.map (fun q : Pt => q.1))[i]).1 x = 0 := fun h => by have := hn2 (by simpa using h); simp only [List.getElem_map]; omega
    by_cases h : i < (qs.map (·.1)).length
    · rw [dif_pos h, if_neg (e h), List.map_append, List.map_cons, List.map_take, List.map_drop]
    · rw [dif_neg h, List.map_append, List.map_cons, List.map_take, List.map_drop]
theorem out_put {w1 : World} {B g cap i : Nat} {v sv' : Value} {qs : List Pt} (h : w1.ownsRow B 41 2 v qs.length (serC qs)) (hv : v = .slice (some ⟨g, 0, none⟩) qs.length cap) (hi : i < qs.length) (ss : List Sam) :
    (w1.setCell ⟨g, i * 2 + 1, none⟩ sv').ownsRow B 41 2 v (qs.take i ++ ((qs[i].1.1, ss), qs[i].2.1, sv') :: qs.drop (i + 1)).length (serC (qs.take i ++ ((qs[i].1.1, ss), qs[i].2.1, sv') :: qs.drop (i + 1))) := by
  have hl : (qs.take i ++ ((qs[i].1.1, ss), qs[i].2.1, sv') :: qs.drop (i + 1)).length = qs.length := by simp; omega
  rcases h.2 with ⟨_, h0⟩ | ⟨g', cap', cur, r1, r2, r3, r4, r5, r6, r7⟩
  · omega
  · rw [hv] at r1
    obtain ⟨rfl, rfl⟩ : g = g' ∧ cap = cap' := by simpa using r1
    refine ⟨?_, .inr ⟨g, cap, cur.setIfInBounds (i * 2 + 1) sv', ?_, r2, ?_, ?_, r5, by simpa using r6, ?_⟩⟩
    · rw [serC_length]
    · rw [hl]; exact hv
    · show (w1.setCell ⟨g, i * 2 + 1, none⟩ sv').heap[g]? = _
      simp only [World.setCell, Array.getElem?_modify, r3, if_true, Option.map_some]
      rfl
    · rw [hl]; exact r4
    · have e0 : serC qs = serC (qs.take i) ++ qs[i].2.1 :: qs[i].2.2 :: serC (qs.drop (i + 1)) := by
        have : qs = qs.take i ++ qs[i] :: qs.drop (i + 1) := by rw [← List.drop_eq_getElem_cons hi, List.take_append_drop]
        have e := congrArg serC this
        rw [serC_append] at e
        exact e
      rw [hl, Array.toList_setIfInBounds, List.take_set, r7, e0, serC_append]
      have e : (serC (qs.take i)).length = i * 2 := by rw [serC_length, List.length_take]; omega
      rw [List.set_append_right _ _ (by omega), e, show i * 2 + 1 - i * 2 = 1 by omega]
      rfl
theorem one_box {w : World} {nb b : Nat} {t : Int} (h : w.heap[nb]? = some (.cells #[.int .i64 t, .int .u64 (b : Nat)] 48 (0, 0))) : ∀ (j : Nat) (u : Value), (samC [(t, b)])[j]? = some u → w.cell? ((⟨nb, 0, none⟩ : Addr).add j) = some u := by
  intro j u hu
  have e : samC [(t, b)] = [.int .i64 t, .int .u64 (b : Nat)] := rfl
  rw [e] at hu
  rw [Addr.add_lit]
  match j, hu with
  | 0, hu => obtain rfl := Option.some.inj hu; exact (two_cells h).1
  | 1, hu => obtain rfl := Option.some.inj hu; exact (two_cells h).2
  | j + 2, hu => simp at hu
def keepJ (w0 : World) (ss : List Sam) (t : Int) (b : Nat) (d2 : Bool) (v2 : Value) (d4 : Bool) (v4 : Value) (d6 : Bool) (v6 : Value) (d7 : Bool) (v7 : Value) (w' : World) : Prop :=
  Grow w0 w' ∧
  (d2 = true → d4 = false → w'.ownsRow w0.heap.size 48 2 v2 0 []) ∧
  (d4 = true → d7 = false → ownSam w' w0.heap.size v4 ss) ∧
  (d6 = true → d7 = false → ∃ nb, v6 = .slice (some ⟨nb, 0, none⟩) 1 1 ∧ w'.heap[nb]? = some (.cells #[.int .i64 t, .int .u64 (b : Nat)] 48 (0, 0)) ∧ (d2 = true → d4 = false → v2.ownBlock ≠ some nb)) ∧
  (d7 = true → ownSam w' w0.heap.size v7 (ss ++ [(t, b)]))
theorem keepJ_end {w w1 : World} {v v7 : Value} {qs : List Pt} {x : List Lab} {t : Int} {b i gO cO : Nat} (hv : rdS w w.heap.size v qs) (g : Grow w w1) (ho : w1.ownsRow w.heap.size 41 2 (.slice (some ⟨gO, 0, none⟩) qs.length cO) qs.length (serC qs)) (B7 : Nat) (hB7 : w.heap.size ≤ B7)
    (hi : i < qs.length) (h7 : ownSam w1 B7 v7 (qs[i].1.2 ++ [(t, b)])) (hl : laterB qs[i].1.2 t = true) (ha : ∀ j (hj : j < qs.length), j < i → ordB qs[j].1.1 x < 0) (h0 : ordB qs[i].1.1 x = 0) :
    ∃ qs', rdS (w1.setCell ⟨gO, i * 2 + 1, none⟩ v7) (w1.setCell ⟨gO, i * 2 + 1, none⟩ v7).heap.size (.slice (some ⟨gO, 0, none⟩) qs.length cO) qs' ∧ qs'.map (·.1) = keepP (qs.map (·.1)) x (t, b) ∧ Grow w (w1.setCell ⟨gO, i * 2 + 1, none⟩ v7) := by
  have hgO : w.heap.size ≤ gO := (ho.lt gO rfl).1
  have hn7 : v7.ownBlock ≠ some gO := fun e => own_other h7 ho (by decide) gO e rfl
  have g8 : Grow w (w1.setCell ⟨gO, i * 2 + 1, none⟩ v7) := Below.setCell g hgO _
  have h8 : ownSam (w1.setCell ⟨gO, i * 2 + 1, none⟩ v7) B7 v7 (qs[i].1.2 ++ [(t, b)]) := ownsRow_setCell_other h7 hn7 _
  have hold : ∀ q ∈ qs, readsLabels (w1.setCell ⟨gO, i * 2 + 1, none⟩ v7) (w1.setCell ⟨gO, i * 2 + 1, none⟩ v7).heap.size q.2.1 q.1.1 ∧ readsSam (w1.setCell ⟨gO, i * 2 + 1, none⟩ v7) (w1.setCell ⟨gO, i * 2 + 1, none⟩ v7).heap.size q.2.2 q.1.2 := fun q hq => ((hv.keep g8).more g8.size).2 q hq
  refine ⟨qs.take i ++ ((qs[i].1.1, qs[i].1.2 ++ [(t, b)]), qs[i].2.1, v7) :: qs.drop (i + 1), rdS_own' (out_put ho rfl hi _) (by simp; omega) ?_, ?_, g8⟩
  · intro q hq
    rcases List.mem_append.1 hq with hq | hq
    · exact hold q (List.mem_of_mem_take hq)
    rcases List.mem_cons.1 hq with rfl | hq
    · exact ⟨(hold _ (List.getElem_mem hi)).1, h8.reads⟩
    · exact hold q (List.mem_of_mem_drop hq)
  · rw [keepP_at (i := i) (by simpa using Nat.le_of_lt hi) (fun j hj hji => by simpa using ha j (by simpa using hj) hji) (fun h => by simp only [List.getElem_map]; omega)]
    have h : i < (qs.map (fun q : Pt => q.1)).length := by simpa using hi
    have e : ordB ((qs.map (fun q : Pt => q.1))[i]).1 x = 0 := by simpa using h0
    rw [dif_pos h, if_pos e, List.map_append, List.map_cons, List.map_take, List.map_drop]
    simp [addS, hl]
theorem keep_skip {qs : List Pt} {x : List Lab} {t : Int} {b i : Nat} (hi : i < qs.length) (hl : laterB qs[i].1.2 t = false) (ha : ∀ j (hj : j < qs.length), j < i → ordB qs[j].1.1 x < 0) (h0 : ordB qs[i].1.1 x = 0) : qs.map (·.1) = keepP (qs.map (·.1)) x (t, b) := by
  rw [keepP_at (i := i) (by simpa using Nat.le_of_lt hi) (fun j hj hji => by simpa using ha j (by simpa using hj) hji) (fun h => by simp only [List.getElem_map]; omega)]
  have h : i < (qs.map (fun q : Pt => q.1)).length := by simpa using hi
  have e : ordB ((qs.map (fun q : Pt => q.1))[i]).1 x = 0 := by simpa using h0
  rw [dif_pos h, if_pos e]
  have e2 : addS ((qs.map (fun q : Pt => q.1))[i]).2 (t, b) = ((qs.map (fun q : Pt => q.1))[i]).2 := by simp [addS, hl]
  rw [e2]
  conv => lhs; rw [← List.take_append_drop i (qs.map (fun q : Pt => q.1)), List.drop_eq_getElem_cons h]
set_option maxRecDepth 20000 in
set_option maxHeartbeats 2000000 in
theorem rKeep_any (w : World) (v vx : Value) (qs : List Pt) (x : List Lab) (t : Int) (b : Nat) (hv : rdS w w.heap.size v qs) (hx : readsLabels w w.heap.size vx x) (hlen : qs.length ≤ 100000) (hq : ∀ q ∈ qs, checkB q.1.1 = 0 ∧ 0 < q.1.2.length ∧ q.1.2.length ≤ 60000) (hcx : checkB x = 0) :
    Calls Tryz.prog 33 #[v, vx, .agg #[.int .i64 t, .int .u64 (b : Nat)]] w fun e w' => ∃ v' qs', e = .returned v' ∧ rdS w' w'.heap.size v' qs' ∧ qs'.map (·.1) = keepP (qs.map (·.1)) x (t, b) ∧ Grow w w' := by
  obtain ⟨i0, hi0, hz0, hz1, hz2⟩ := info_parts infoSer2
  obtain ⟨j0, hj0, hy0, hy1, hy2⟩ := info_parts infoSam
  obtain ⟨V1, e1, g1, b1⟩ := laid_at w #[.int .i64 t, .int .u64 (b : Nat)] 48
  have HV := hide hv
  have HX := hide hx
  have HQ := hide hq
  have HB1 := hide b1
  have HG1 := hide g1
  obtain ⟨_, _, hvr, hcap, hrc⟩ := hv.reads
  have HR := hide hv.reads
  obtain ⟨ao, cp, hvv⟩ : ∃ ao cp, v = .slice ao qs.length cp := by
    rcases hv.1 with ⟨rfl, rfl⟩ | ⟨a', cp, rfl, _⟩
    · exact ⟨none, 0, rfl⟩
    · exact ⟨_, _, rfl⟩
  obtain ⟨xo, xc, hxv⟩ := readsLabels_len hx
  have HORD : Hid (∀ W' (k : Nat) (hk : k < qs.length) (xa : Value), Grow w W' → readsLabels w w.heap.size xa qs[k].1.1 → Calls Tryz.prog 27 #[xa, vx] W' fun e w' => e = .returned (.int .i64 (ordB qs[k].1.1 x)) ∧ Grow W' w') := hide fun W' k hk xa g ha => by
    refine (rOrder_any W' xa vx qs[k].1.1 x (readsLabels_mono (readsLabels_below ha g) g.size) (readsLabels_mono (readsLabels_below hx g) g.size) (right_lens (hq _ (List.getElem_mem hk)).1).1 (right_lens hcx).1).mono ?_
    rintro e w' ⟨h, n, rfl⟩
    exact ⟨h, grow_drew _ _⟩
  have HCELL : Hid (∀ k (hk : k < qs.length), ∃ b' o, ao = some ⟨b', o, none⟩ ∧ b' < w.heap.size ∧ w.cell? ⟨b', o + k * 2, none⟩ = some qs[k].2.1 ∧ w.cell? ⟨b', o + k * 2 + 1, none⟩ = some qs[k].2.2) := hide fun k hk => by
    rcases hv.1 with ⟨_, rfl⟩ | ⟨a', cp', e, _, hb, h⟩
    · simp at hk
    · rw [hvv] at e
      simp only [Value.slice.injEq] at e
      obtain ⟨rfl, _, _⟩ := e
      obtain ⟨b', o, rfl, hbb⟩ := hb (fun e => by subst e; simp at hk)
      obtain ⟨q0, q1⟩ := serC_at qs k hk
      have r0 := h _ _ q0
      have r1 := h _ _ q1
      rw [Addr.add_lit] at r0 r1
      exact ⟨b', o, rfl, hbb, r0, by rw [← Nat.add_assoc] at r1; exact r1⟩
  subst hvv hxv
  obtain ⟨nx, hnx⟩ : ∃ nx, x.length = nx := ⟨_, rfl⟩
  rw [hnx] at HX HORD ⊢
  clear hv hx hq hcx b1 g1 hvr hcap hrc hnx
  go_enter Tryz.func33, Tryz.ntmps33
  go_wp2
  go_loopw [7] (fun iv wr => ∃ i : Nat, i ≤ qs.length ∧ iv = .int .i64 i ∧ Hid (∀ j (hj : j < qs.length), j < i → ordB qs[j].1.1 x < 0) ∧ Hid (Grow V1 wr)) (fun iv _ => qs.length - (intOf iv).toNat)
  case atStart => exact ⟨0, by omega, rfl, hide (fun j hj h => by omega), hide (Grow.refl _)⟩
  case round =>
    obtain ⟨i, hi, rfl, HA, HGr⟩ := hrel
    have HGw : Hid (Grow w wr) := hide (HG1.out.trans HGr.out)
    by_cases hlt : i < qs.length
    · have hlti : (i : Int) < (qs.length : Int) := by omega
      obtain ⟨rb, rf, rfl, hrB, a0, a1⟩ := HCELL.out i hlt
      have c0 := (HGw.out.cell (p := ⟨rb, rf + i * 2, none⟩) hrB).trans a0
      have HA0 := hide a0
      have HA1 := hide a1
      obtain ⟨ha, hs⟩ := HV.out.2 _ (List.getElem_mem hlt)
      have HS := hide hs
      obtain ⟨O, HO⟩ : ∃ O, Hid (ordB qs[i].1.1 x = O) := ⟨_, hide rfl⟩
      have HOR : Hid (∀ W', Grow w W' → Calls Tryz.prog 27 #[qs[i].2.1, .slice xo nx xc] W' fun e w' => e = .returned (.int .i64 O) ∧ Grow W' w') := hide fun W' g => by
        have := HORD.out W' i hlt _ g ha
        rw [HO.out] at this
        exact this
      obtain ⟨lo, lc, hlv⟩ := readsLabels_len ha
      obtain ⟨la, hla⟩ : ∃ la, qs[i].2.1 = la := ⟨_, rfl⟩
      rw [hla] at c0 HOR hlv
      have H1 := hide (HOR.out wr HGw.out)
      subst hlv
      clear ha hs a0 a1
      go_wp2_with fail
      refine H1.out.mono ?_
      rintro e w3 ⟨rfl, hg3⟩
      have HG3 : Hid (Grow wr w3) := hide hg3
      have HG13 : Hid (Grow V1 w3) := hide (HGr.out.trans hg3)
      have HGw3 : Hid (Grow w w3) := hide (HGw.out.trans hg3)
      clear hg3 H1 c0
      by_cases hO : O < 0
      · have HOL := hide hO
        clear hO
        have hOd : decide (O < 0) = true := decide_eq_true HOL.out
        go_wp2
        go_roundw
        case rel => exact ⟨i + 1, by omega, by go_num, hide (fun j hj hji => by
          by_cases e : j = i
          · subst e; rw [HO.out]; exact HOL.out
          · exact HA.out j hj (by omega)), HG13⟩
        case measure => simp [intOf]; omega
      · have HOL := hide hO
        have hOd : decide (O < 0) = false := decide_eq_false hO
        clear hO
        obtain ⟨W0, eW0, gW0, bW0⟩ := laid_at w3 #[] 41
        have hG0 : Grow w W0 := HGw3.out.trans gW0
        have HE0 : Hid (W0.ownsRow w.heap.size 41 2 (.slice (some ⟨w3.heap.size, 0, none⟩) 0 0) 0 []) := hide ⟨rfl, .inr ⟨w3.heap.size, 0, #[], rfl, HGw3.out.size, bW0, Nat.le_refl _, Nat.zero_le _, rfl, rfl⟩⟩
        have HSRC : Hid (∀ j u, (serC qs)[j]? = some u → W0.cell? ((⟨rb, rf, none⟩ : Addr).add j) = some u) := hide (by
          rcases (HV.out.keep hG0).1 with ⟨h, _⟩ | ⟨a', c', e, _, _, h⟩
          · cases h
          · simp only [Value.slice.injEq, Option.some.injEq] at e
            obtain ⟨rfl, _, _⟩ := e
            exact h)
        have HG0 := hide hG0
        have HGW := hide gW0
        have hs0 : w.heap.size ≤ W0.heap.size := hG0.size
        clear hG0 gW0 bW0
        go_wp2_with (at_builtin; go_loud (refine wpList_append_own_at _ rfl _ _ 22 rfl w.heap.size 41 i0 _ 2 48 Tryz.underlying22 hi0 hz0 hz1 hz2 rfl (by decide) _ 0 [] rfl HE0.out ⟨rb, rf, none⟩ qs.length cp (serC qs) rfl (serC_length qs) HSRC.out (HV.out.one) (by unfold maxLen; omega) (by omega) hs0 ?_))
        intro v4 w4 hown4 hg4 hiff hat4
        obtain ⟨gO, cO, hv4, hcOn⟩ : ∃ g c, v4 = .slice (some ⟨g, 0, none⟩) qs.length c ∧ qs.length ≤ c := by
          rcases hown4.2 with ⟨h, _⟩ | ⟨g, cap, cur, r1, _, _, r4, _⟩
          · exact (hiff h).elim
          · exact ⟨_, _, r1, r4⟩
        subst hv4
        have HOUT0 := hide hown4
        have HB4 : Hid (Below w.heap.size W0 w4) := hide ((Below.refl _ _).grown hg4 hs0 (fun k hk => (HE0.out.lt k hk).1))
        have HGg4 := hide hg4
        clear hown4 hg4 hiff hat4 eW0
        have HG40 : Hid (Grow w w4) := hide (Below.trans HG0.out HB4.out)
        have hsV : V1.heap.size ≤ w3.heap.size := HG13.out.size
        have hV1 : w.heap.size < V1.heap.size := lt_of_block HB1.out
        have HBP0 : Hid (w4.heap[w.heap.size]? = some (.cells #[.int .i64 t, .int .u64 (b : Nat)] 48 (0, 0))) := hide (grown_block HGg4.out (HGW.out.get (HG13.out.get HB1.out)) (fun e => by simp [Value.ownBlock] at e; omega))
        have hie : ((i : Int) == (qs.length : Int)) = false := by rw [beq_eq_false_iff_ne]; omega
        have H5 := hide (HOR.out w4 HG40.out)
        have c5 := (HG40.out.cell (p := ⟨rb, rf + i * 2, none⟩) hrB).trans HA0.out
        rw [hla] at c5
        go_wp2_with fail
        refine H5.out.mono ?_
        rintro e w5 ⟨rfl, hg5⟩
        have HOUT := hide (own_growT HOUT0.out hg5)
        have HG4 : Hid (Grow w w5) := hide (HG40.out.trans hg5)
        have HBP := hide (hg5.get HBP0.out)
        clear hg5 H5 c5
        by_cases hO0 : O = 0
        · have hOe : (O != 0) = false := by simp [hO0]
          obtain ⟨sv, hsv⟩ : ∃ sv, qs[i].2.2 = sv := ⟨_, rfl⟩
          have c6 := (HG4.out.cell (p := ⟨rb, rf + i * 2 + 1, none⟩) hrB).trans HA1.out
          rw [hsv] at c6
          have HO0 := hide hO0
          clear hO0
          obtain ⟨sso, ssc, hsl, hscp⟩ := readsSam_len HS.out
          rw [hsv] at hsl
          obtain ⟨_, hk0, hk1⟩ := HQ.out _ (List.getElem_mem hlt)
          obtain ⟨ls, hls⟩ : ∃ ls, qs[i].1.2.length = ls := ⟨_, rfl⟩
          have HLS := hide hls
          rw [hls] at hsl hk0 hk1 hscp
          obtain ⟨k, rfl⟩ : ∃ k, ls = k + 1 := ⟨ls - 1, by omega⟩
          subst hsl
          obtain ⟨sb, so, hso, hsbB, hkc⟩ : ∃ sb so, sso = some ⟨sb, so, none⟩ ∧ sb < w.heap.size ∧ w.cell? ⟨sb, so + k * 2, none⟩ = some (.int .i64 (qs[i].1.2[k]'(by omega)).1) := by
            obtain ⟨ao, cp2, e, _, h⟩ := HS.out
            rw [hsv] at e
            obtain ⟨b2, o2, e2, hb2, c0, _⟩ := h k (by omega)
            simp only [Value.slice.injEq] at e
            exact ⟨b2, o2, e.1.trans e2, hb2, c0⟩
          subst hso
          obtain ⟨lt0, hlt0⟩ : ∃ z, (qs[i].1.2[k]'(by omega)).1 = z := ⟨_, rfl⟩
          have HLT : Hid (laterB qs[i].1.2 t = decide (lt0 < t)) := hide (by
            rw [laterB_at (by omega), ← hlt0]
            congr 2
            simp [hls])
          rw [hlt0] at hkc
          have HKC := hide hkc
          have HSV := hide hsv
          clear hkc hlt0 hls hsv hscp
          go_wp2
          obtain ⟨p0, p1⟩ := two_cells HBP.out
          have p0' : w5.drew.cell? ⟨w.heap.size, 0, none⟩ = some (.int .i64 t) := p0
          have c8 := (HG4.out.cell (p := ⟨sb, so + k * 2, none⟩) hsbB).trans HKC.out
          have c8' : w5.drew.cell? ⟨sb, so + k * 2, none⟩ = some (.int .i64 lt0) := c8
          have hks : (k : Int) + 1 - 1 = (k : Int) := by omega
          go_quiet (fail)
          by_cases hgt : lt0 < t
          · have hgd : decide (lt0 < t) = true := decide_eq_true hgt
            have hG6 : Grow w5 (w5.drewN nq) := grow_drew _ _
            obtain ⟨w6, hw6⟩ : ∃ W, w5.drewN nq = W := ⟨_, rfl⟩
            rw [hw6] at hG6 ⊢
            have HGT : Hid (laterB qs[i].1.2 t = true) := hide (by rw [HLT.out]; exact hgd)
            have HG6 : Hid (Grow w5 w6) := hide hG6
            have HGW6 : Hid (Grow w w6) := hide (Below.trans HG4.out (Below.mono hG6 HG4.out.size))
            have HOW6 := hide (own_growT HOUT.out hG6)
            have HSS : Hid (readsSam w w.heap.size (.slice (some ⟨sb, so, none⟩) (k + 1) ssc) qs[i].1.2) := hide (by have := HS.out; rw [HSV.out] at this; exact this)
            have mixedR : Tryz.prog.follows .mixedOrders = true := by kernel_rfl
            have hws6 : w.heap.size ≤ w6.heap.size := HGW6.out.size
            clear hG6 hw6 p0 p1 p0' c8 c8' hks hgd
            go_wp2
            refine wp_region_state 8 83 mixedR rfl (by decide +kernel) (fun L vals w' => keepJ w6 qs[i].1.2 t b (L 2) (vals 2) (L 4) (vals 4) (L 6) (vals 6) (L 7) (vals 7) w')
              (fun L vals h => ?_)
              (fun i' v => match i' with
                | 0 => v = .slice (some ⟨gO, 0, none⟩) qs.length cO
                | 1 => v = .int .i64 i
                | 2 => True
                | 3 => v = .slice (some ⟨sb, so, none⟩) (k + 1) ssc
                | 4 => True
                | 5 => v = .agg #[.int .i64 t, .int .u64 (b : Nat)]
                | 6 => True
                | _ => True)
              (fun _ _ => False) (fun _ _ _ _ h => h.elim) (fun i' hi' o ho a w2 L vals hLi hLc hLe hJ hoff hval hdep => ?_) (fun vals w2 L hL hJ hvals => ?_)
            · simp only [h]
              exact ⟨⟨rfl, rfl, rfl, Nat.le_refl _, fun _ _ => rfl⟩, (fun h => by cases h), (fun h => by cases h), (fun h => by cases h), (fun h => by cases h)⟩
            · have hJ0 := hJ
              obtain ⟨hg, j2, j4, j6, j7⟩ := id hJ
              obtain ⟨p0, p1⟩ := two_cells (hg.get (HG6.out.get HBP.out))
              have hsz := hg.size
              match i', hi' with
              | 0, _ =>
                obtain rfl := Option.some.inj ho
                have o8 := hoff 8 (by decide +kernel)
                simp at o8
                simp [opYields, go_sem, o8]
                exact hJ
              | 1, _ =>
                obtain rfl := Option.some.inj ho
                have o7 := hoff 7 (by decide +kernel)
                simp at o7
                simp [opYields, go_sem, o7]
                exact hJ
              | 2, _ =>
                have h4 : L 4 = false := by
                  cases h : L 4 with
                  | false => rfl
                  | true => have := hLc 4 h 2 (by decide +kernel); rw [hLi] at this; cases this
                have h7 : L 7 = false := by
                  cases h : L 7 with
                  | false => rfl
                  | true => have := hLc 7 h 4 (by decide +kernel); rw [h4] at this; cases this
                obtain rfl := Option.some.inj ho
                simp [opYields, go_sem]
                have hga : Grow w2 (w2.alloc (.cells #[] 48)) := (Grow.refl _).alloc _
                refine ⟨hg.trans hga, fun _ _ => ⟨rfl, .inr ⟨w2.heap.size, 0, #[], rfl, hsz, heap_alloc_new _ _, Nat.le_refl _, Nat.zero_le _, rfl, rfl⟩⟩, fun a _ => ?_, fun a c => ?_, fun a => ?_⟩
                · exact absurd a (by simp [h4])
                · obtain ⟨nb, r1, r2, _⟩ := j6 a c
                  refine ⟨nb, r1, hga.get r2, fun _ _ e => ?_⟩
                  have := lt_of_block r2
                  simp [Value.ownBlock] at e
                  omega
                · exact absurd a (by simp [h7])
              | 3, _ =>
                obtain rfl := Option.some.inj ho
                have o9 := hoff 9 (by decide +kernel)
                simp at o9
                simp [opYields, go_sem, o9]
                exact hJ
              | 4, _ =>
                have h7 : L 7 = false := by
                  cases h : L 7 with
                  | false => rfl
                  | true => have := hLc 7 h 4 (by decide +kernel); rw [hLi] at this; cases this
                obtain rfl := Option.some.inj ho
                have h2 := hLe 2 (by decide +kernel)
                have d2 := hval 2 (by decide +kernel)
                have d3 := hdep 3 (by decide +kernel)
                simp [slotOf, dstOf] at d2 d3
                have ho2 := j2 h2 hLi
                have hss := HSS.out.keep (Below.trans HGW6.out (Below.mono hg hws6))
                obtain ⟨v4, w4', hrun, hown4, hgrow4, _⟩ := run_append_own (P := Tryz.prog) w2 w6.heap.size 35 35 48 j0 _ 2 16 Tryz.underlying35 hj0 hy0 hy1 hy2 rfl (by decide) (vals 2) 0 [] ho2 ⟨sb, so, none⟩ (k + 1) ssc (samC qs[i].1.2) (by rw [samC_length, HLS.out]) hss.cells (samC_one _) (by unfold maxLen; omega) (by omega) hsz
                refine yields_append rfl (.tmp 74) (.tmp 75) _ _ rfl (v1 := vals 2) (v2 := .slice (some ⟨sb, so, none⟩) (k + 1) ssc) (by simpa [Act.eval] using d2) (by simpa [Act.eval] using d3) hrun ?_
                have hbel : Grow w6 w4' := Below.trans hg ((Below.refl _ _).grown hgrow4 hsz (fun k hk => (ho2.lt k hk).1))
                refine ⟨⟨hbel, fun _ c => (by cases c), fun _ _ => ?_, fun a c => ?_, fun a => ?_⟩, trivial⟩
                · have hn : 0 + (k + 1) = qs[i].1.2.length := by rw [HLS.out]; omega
                  rw [hn] at hown4
                  show w4'.ownsRow _ _ _ _ _ _
                  simpa using hown4
                · obtain ⟨nb, r1, r2, r3⟩ := j6 a c
                  exact ⟨nb, r1, grown_block hgrow4 r2 (r3 h2 hLi), fun _ c => (by cases c)⟩
                · exact absurd a (by simp [h7])
              | 5, _ =>
                obtain rfl := Option.some.inj ho
                have o5 := hoff 5 (by decide +kernel)
                simp at o5
                simp [opYields, go_sem, o5, p0, p1]
                exact hJ
              | 6, _ =>
                have h7 : L 7 = false := by
                  cases h : L 7 with
                  | false => rfl
                  | true => have := hLc 7 h 6 (by decide +kernel); rw [hLi] at this; cases this
                obtain rfl := Option.some.inj ho
                have d5 := hdep 5 (by decide +kernel)
                simp [slotOf, dstOf] at d5
                simp [opYields, go_sem, d5]
                have hga : Grow w2 (w2.alloc (.cells #[.int .i64 t, .int .u64 (b : Nat)] 48)) := (Grow.refl _).alloc _
                refine ⟨hg.trans hga, fun a c => own_growT (j2 a c) hga, fun a c => own_growT (j4 a c) hga, fun _ _ => ⟨_, rfl, heap_alloc_new _ _, fun a c e => ?_⟩, fun a => ?_⟩
                · have := ((j2 a c).lt _ e).2
                  omega
                · exact absurd a (by simp [h7])
              | 7, _ =>
                obtain rfl := Option.some.inj ho
                have h4 := hLe 4 (by decide +kernel)
                have h6 := hLe 6 (by decide +kernel)
                have d4 := hval 4 (by decide +kernel)
                have d6 := hval 6 (by decide +kernel)
                simp [slotOf, dstOf] at d4 d6
                have ho4 := j4 h4 hLi
                obtain ⟨nb, r1, r2, _⟩ := j6 h6 hLi
                rw [r1] at d6
                obtain ⟨v7, w7', hrun, hown7, hgrow7, _⟩ := run_append_own (P := Tryz.prog) w2 w6.heap.size 35 35 48 j0 _ 2 16 Tryz.underlying35 hj0 hy0 hy1 hy2 rfl (by decide) (vals 4) qs[i].1.2.length (samC qs[i].1.2) ho4 ⟨nb, 0, none⟩ 1 1 (samC [(t, b)]) (by rw [samC_length]; rfl) (one_box r2) (samC_one _) (by rw [HLS.out]; unfold maxLen; omega) (by rw [HLS.out]; omega) hsz
                refine yields_append rfl (.tmp 76) (.tmp 78) _ _ rfl (v1 := vals 4) (v2 := .slice (some ⟨nb, 0, none⟩) 1 1) (by simpa [Act.eval] using d4) (by simpa [Act.eval] using d6) hrun ?_
                have hbel : Grow w6 w7' := Below.trans hg ((Below.refl _ _).grown hgrow7 hsz (fun k hk => (ho4.lt k hk).1))
                refine ⟨⟨hbel, fun _ c => ?_, fun _ c => (by cases c), fun _ c => (by cases c), fun _ => ?_⟩, trivial⟩
                · exact absurd (show L 4 = false from c) (by rw [h4]; simp)
                · show w7'.ownsRow _ _ _ _ (qs[i].1.2 ++ [(t, b)]).length (samC (qs[i].1.2 ++ [(t, b)]))
                  rw [samC_append, List.length_append]
                  exact hown7
              | k' + 8, h => exact absurd h (by omega)
            · obtain ⟨hg, -, -, -, j7⟩ := hJ
              have h7 := j7 (hL 7 (by omega))
              have v0 := hvals 0 (by omega)
              have v1 := hvals 1 (by omega)
              simp only at v0 v1
              obtain ⟨v7, hv7⟩ : ∃ v, vals 7 = v := ⟨_, rfl⟩
              rw [hv7] at h7
              have hOW := own_growT HOW6.out hg
              have hgw : Grow w w2 := Below.trans HGW6.out (Below.mono hg hws6)
              obtain ⟨qs', f1, f2, f3⟩ := keepJ_end HV.out hgw hOW w6.heap.size hws6 hlt h7 HGT.out HA.out (by rw [HO.out]; exact HO0.out)
              have F1 := hide f1
              have F2 := hide f2
              have F3 := hide f3
              obtain ⟨vo, vc, hvv⟩ : ∃ vo vc, v7 = .slice vo (qs[i].1.2.length + 1) vc := by
                have e : (qs[i].1.2 ++ [(t, b)]).length = qs[i].1.2.length + 1 := by simp
                rcases h7.2 with ⟨h, h0⟩ | ⟨g, cap, cur, r1, _⟩
                · rw [e] at h0; omega
                · exact ⟨_, _, by rw [r1, e]⟩
              obtain ⟨_, q1⟩ := serC_at qs i hlt
              have hcell := World.ownsRow.cells hOW (g := gO) rfl _ _ q1
              rw [Addr.add_lit] at hcell
              have hcell' : w2.cell? ⟨gO, i * 2 + 1, none⟩ = some qs[i].2.2 := by simpa using hcell
              have hfr : w2.frozen? ⟨gO, i * 2 + 1, none⟩ = false := by
                rcases hOW.2 with ⟨h, _⟩ | ⟨g', cap', cur, r1, _, r3, _⟩
                · cases h
                · simp only [Value.slice.injEq, Option.some.injEq, Addr.mk.injEq] at r1
                  obtain ⟨⟨rfl, _⟩, _⟩ := r1
                  simp only [World.frozen?, r3]; rfl
              rw [hvv] at hv7 F1 F3
              clear hvals hcell h7 hOW f1 f2 f3 hg hgw q1 j7
              simp [over, dstOf, Act.put, v0, v1, hv7]
              go_wp2
              go_ret
              exact ⟨_, rfl, qs', F1.out, F2.out, F3.out⟩
          · have hgd : decide (lt0 < t) = false := decide_eq_false hgt
            have hG6 : Grow w5 (w5.drewN nq) := grow_drew _ _
            have F1 := hide ((HV.out.keep (Below.trans HG4.out (Below.mono hG6 HG4.out.size))))
            have F2 : Hid (rdS (w5.drewN nq) (w5.drewN nq).heap.size (.slice (some ⟨gO, 0, none⟩) qs.length cO) qs) := hide (rdS_own (own_growT HOUT.out hG6) (Nat.le_refl _) (fun q hq => (F1.out.more (Below.trans HG4.out (Below.mono hG6 HG4.out.size)).size).2 q hq))
            have F3 := hide (keep_skip (t := t) (b := b) hlt (by rw [HLT.out]; exact hgd) HA.out (by rw [HO.out]; exact HO0.out))
            have F4 : Hid (Grow w (w5.drewN nq)) := hide (Below.trans HG4.out (Below.mono hG6 HG4.out.size))
            clear hG6
            go_wp2
            go_ret
            exact ⟨_, rfl, qs, F2.out, F3.out, F4.out⟩
        · have hOe : (O != 0) = true := by simpa using hO0
          have HO0 := hide hO0
          clear hO0
          go_wp2
          have HPOS : Hid (∀ h : i < qs.length, 0 < ordB qs[i].1.1 x) := hide (fun h => by rw [HO.out]; have := HOL.out; have := HO0.out; omega)
          obtain ⟨X1, eX1⟩ : ∃ X, w5.drew.alloc (.cells #[.int .i64 t, .int .u64 (b : Nat)] 48) = X := ⟨_, rfl⟩
          have hGX1 : Grow w5 X1 := Grow.trans (⟨rfl, rfl, rfl, Nat.le_refl _, fun _ _ => rfl⟩ : Grow w5 w5.drew) (by rw [← eX1]; exact (Grow.refl _).alloc _)
          have hbX1 : X1.heap[w5.heap.size]? = some (.cells #[.int .i64 t, .int .u64 (b : Nat)] 48 (0, 0)) := by rw [← eX1]; exact heap_alloc_new _ _
          have hsX1 : X1.heap.size = w5.heap.size + 1 := by rw [← eX1]; simp
          obtain ⟨X2, eX2⟩ : ∃ X, X1.alloc (.cells #[.slice xo nx xc, .slice (some ⟨w5.heap.size, 0, none⟩) 1 1] 41) = X := ⟨_, rfl⟩
          have hGX2 : Grow X1 X2 := by rw [← eX2]; exact (Grow.refl _).alloc _
          have hbX2 : X2.heap[w5.heap.size + 1]? = some (.cells #[.slice xo nx xc, .slice (some ⟨w5.heap.size, 0, none⟩) 1 1] 41 (0, 0)) := by rw [← eX2, ← hsX1]; exact heap_alloc_new _ _
          have hbX12 : X2.heap[w5.heap.size]? = some (.cells #[.int .i64 t, .int .u64 (b : Nat)] 48 (0, 0)) := hGX2.get hbX1
          have hG42 : Grow w5 X2 := hGX1.trans hGX2
          have hws4 : w.heap.size ≤ w5.heap.size := HG4.out.size
          have hO2 : X2.ownsRow w.heap.size 41 2 (.slice (some ⟨w5.heap.size + 1, 0, none⟩) 1 1) 1 [.slice xo nx xc, .slice (some ⟨w5.heap.size, 0, none⟩) 1 1] :=
            ⟨rfl, .inr ⟨w5.heap.size + 1, 1, _, rfl, by omega, hbX2, Nat.le_refl _, by unfold maxLen; omega, rfl, rfl⟩⟩
          have hgOl : gO < w5.heap.size := (HOUT.out.lt gO rfl).2
          have hcO : ∀ (W : World), Grow w5 W → ∀ j u, (serC qs)[j]? = some u → W.cell? ((⟨gO, 0, none⟩ : Addr).add j) = some u := fun W g j u hj => World.ownsRow.cells (own_growT HOUT.out g) (g := gO) rfl j u hj
          have hdrop : ∀ j u, ((serC qs).drop (i * 2))[j]? = some u → X2.cell? ((⟨gO, i * 2, none⟩ : Addr).add j) = some u := fun j u hj => by
            rw [List.getElem?_drop] at hj
            have := hcO X2 hG42 _ _ hj
            rw [Addr.add_lit] at this ⊢
            simpa using this
          have hdl : ((serC qs).drop (i * 2)).length = (qs.length - i) * 2 := by rw [List.length_drop, serC_length]; omega
          have hone2 : ∀ u ∈ (serC qs).drop (i * 2), u.oneCell' = true := fun u hu => HV.out.one u (List.mem_of_mem_drop hu)
          obtain ⟨q0, q1⟩ := two_cells HBP.out
          have q0' : w5.drew.cell? ⟨w.heap.size, 0, none⟩ = some (.int .i64 t) := q0
          have q1' : w5.drew.cell? ⟨w.heap.size, 1, none⟩ = some (.int .u64 (b : Nat)) := q1
          have mixed : Tryz.prog.follows .mixedOrders = true := by kernel_rfl
          have hini : (i : Int) ≤ (qs.length : Int) := by omega
          have hicO : i ≤ cO := by omega
          have hiciO : (i : Int) ≤ (cO : Int) := by omega
          have hw2 : w.heap.size ≤ X2.heap.size := Nat.le_trans hws4 hG42.size
          have HBX := hide hbX12
          have H42 := hide hG42
          by_cases hci : cO = i
          · go_region_law_o (first
              | (refine step_app_at rfl _ _ 22 rfl w.heap.size 41 i0 _ 2 48 Tryz.underlying22 hi0 hz0 hz1 hz2 rfl (by decide) (.slice (some ⟨w5.heap.size + 1, 0, none⟩) 1 1) 1 _ (by simp [Act.eval, Act.put, hsX1]) hO2 ⟨gO, 0, none⟩ (qs.length - i) (cO - i) ((serC qs).drop (i * 2)) (by simp [Act.eval, Act.put, hci]) hdl (fun j u hj => by rw [List.drop_eq_nil_of_le (by rw [serC_length]; omega)] at hj; simp at hj) hone2 (by unfold maxLen; omega) (by omega) hw2 ?_; intro v6 w6 hown6 hg6 hat6; obtain ⟨g6, c6, hv6⟩ : ∃ g c, v6 = .slice (some ⟨g, 0, none⟩) (1 + (qs.length - i)) c := (by rcases hown6.2 with ⟨_, h0⟩ | ⟨g, cap, cur, r1, _⟩; omega; exact ⟨_, _, r1⟩); subst hv6; have hn6 := World.ownsRow.cells hown6 (g := g6) rfl; have hO6 : ∀ j u, ((serC qs).take (i * 2))[j]? = some u → w6.cell? ((⟨gO, 0, none⟩ : Addr).add j) = some u := (fun j u hj => by
                  have hjj : j < i * 2 := by
                    rcases Nat.lt_or_ge j (i * 2) with h | h
                    · exact h
                    · rw [List.getElem?_eq_none (by rw [List.length_take]; omega)] at hj; cases hj
                  rw [List.getElem?_take_of_lt hjj] at hj
                  have := hcO X2 hG42 j u hj
                  rw [Addr.add_lit] at this ⊢
                  exact (World.cell?_of_block (w := X2) (hg6.block gO (by have := hG42.size; omega) (by simp [Value.ownBlock]; omega))).trans this))
              | (refine step_app_arg rfl _ _ 22 rfl 41 i0 _ 2 48 Tryz.underlying22 hi0 hz0 hz1 hz2 rfl (by decide) ⟨gO, 0, none⟩ i i ((serC qs).take (i * 2)) (by simp [Act.eval, Act.put]) (by rw [List.length_take, serC_length]; omega) hO6 ⟨g6, 0, none⟩ (1 + (qs.length - i)) c6 ([.slice xo nx xc, .slice (some ⟨w5.heap.size, 0, none⟩) 1 1] ++ (serC qs).drop (i * 2)) (by simp [Act.eval, Act.put]) (by rw [List.length_append, hdl]; simp; omega) hn6 (by omega) (by unfold maxLen; omega) (by omega) ?_; intro v7 w7 hown7 hg7))
            have g7 : Grow w w7 := Below.trans HG4.out (Below.trans (Below.mono hG42 hws4) (Below.trans ((Below.refl w.heap.size X2).grown hg6 hw2 (fun k hk => (hO2.lt k hk).1)) (Below.mono (grow_none hg7) (Nat.le_trans hw2 hg6.size))))
            have hb7 : w7.heap[w5.heap.size]? = some (.cells #[.int .i64 t, .int .u64 (b : Nat)] 48 (0, 0)) := grown_block hg7 (grown_block hg6 HBX.out (by simp [Value.ownBlock])) (by simp)
            obtain ⟨qs', f1, f2⟩ := ins_fin HV.out HX.out g7 hb7 hown7 hi HA.out HPOS.out
            have F1 := hide f1
            have F2 := hide f2
            have F3 := hide g7
            clear f1 f2 g7 hb7 hown7 hg7 hown6 hg6 hn6 hat6 hO6
            go_wp2
            go_ret
            exact ⟨_, rfl, qs', F1.out, F2.out, F3.out⟩
          · go_region_law_o (first
              | (refine step_app_at rfl _ _ 22 rfl w.heap.size 41 i0 _ 2 48 Tryz.underlying22 hi0 hz0 hz1 hz2 rfl (by decide) (.slice (some ⟨w5.heap.size + 1, 0, none⟩) 1 1) 1 _ (by simp [Act.eval, Act.put, hsX1]) hO2 ⟨gO, i * 2, none⟩ (qs.length - i) (cO - i) ((serC qs).drop (i * 2)) (by simp [Act.eval, Act.put, hci]) hdl hdrop hone2 (by unfold maxLen; omega) (by omega) hw2 ?_; intro v6 w6 hown6 hg6 hat6; obtain ⟨g6, c6, hv6⟩ : ∃ g c, v6 = .slice (some ⟨g, 0, none⟩) (1 + (qs.length - i)) c := (by rcases hown6.2 with ⟨_, h0⟩ | ⟨g, cap, cur, r1, _⟩; omega; exact ⟨_, _, r1⟩); subst hv6; have hn6 := World.ownsRow.cells hown6 (g := g6) rfl; have hO6 : ∀ j u, ((serC qs).take (i * 2))[j]? = some u → w6.cell? ((⟨gO, 0, none⟩ : Addr).add j) = some u := (fun j u hj => by
                  have hjj : j < i * 2 := by
                    rcases Nat.lt_or_ge j (i * 2) with h | h
                    · exact h
                    · rw [List.getElem?_eq_none (by rw [List.length_take]; omega)] at hj; cases hj
                  rw [List.getElem?_take_of_lt hjj] at hj
                  have := hcO X2 hG42 j u hj
                  rw [Addr.add_lit] at this ⊢
                  exact (World.cell?_of_block (w := X2) (hg6.block gO (by have := hG42.size; omega) (by simp [Value.ownBlock]; omega))).trans this))
              | (refine step_app_arg rfl _ _ 22 rfl 41 i0 _ 2 48 Tryz.underlying22 hi0 hz0 hz1 hz2 rfl (by decide) ⟨gO, 0, none⟩ i i ((serC qs).take (i * 2)) (by simp [Act.eval, Act.put]) (by rw [List.length_take, serC_length]; omega) hO6 ⟨g6, 0, none⟩ (1 + (qs.length - i)) c6 ([.slice xo nx xc, .slice (some ⟨w5.heap.size, 0, none⟩) 1 1] ++ (serC qs).drop (i * 2)) (by simp [Act.eval, Act.put]) (by rw [List.length_append, hdl]; simp; omega) hn6 (by omega) (by unfold maxLen; omega) (by omega) ?_; intro v7 w7 hown7 hg7))
            have g7 : Grow w w7 := Below.trans HG4.out (Below.trans (Below.mono hG42 hws4) (Below.trans ((Below.refl w.heap.size X2).grown hg6 hw2 (fun k hk => (hO2.lt k hk).1)) (Below.mono (grow_none hg7) (Nat.le_trans hw2 hg6.size))))
            have hb7 : w7.heap[w5.heap.size]? = some (.cells #[.int .i64 t, .int .u64 (b : Nat)] 48 (0, 0)) := grown_block hg7 (grown_block hg6 HBX.out (by simp [Value.ownBlock])) (by simp)
            obtain ⟨qs', f1, f2⟩ := ins_fin HV.out HX.out g7 hb7 hown7 hi HA.out HPOS.out
            have F1 := hide f1
            have F2 := hide f2
            have F3 := hide g7
            clear f1 f2 g7 hb7 hown7 hg7 hown6 hg6 hn6 hat6 hO6
            go_wp2
            go_ret
            exact ⟨_, rfl, qs', F1.out, F2.out, F3.out⟩
    · have hnl : ¬ ((i : Int) < (qs.length : Int)) := by omega
      have hnd : decide ((i : Int) < (qs.length : Int)) = false := decide_eq_false hnl
      have hie : ((i : Int) == (qs.length : Int)) = true := by rw [beq_iff_eq]; omega
      have HPOS : Hid (∀ h : i < qs.length, 0 < ordB qs[i].1.1 x) := hide (fun h => absurd h hlt)
      obtain ⟨W0, eW0, gW0, bW0⟩ := laid_at wr #[] 41
      have hG0 : Grow w W0 := HGw.out.trans gW0
      have HE0 : Hid (W0.ownsRow w.heap.size 41 2 (.slice (some ⟨wr.heap.size, 0, none⟩) 0 0) 0 []) := hide ⟨rfl, .inr ⟨wr.heap.size, 0, #[], rfl, HGw.out.size, bW0, Nat.le_refl _, Nat.zero_le _, rfl, rfl⟩⟩
      have HG0 := hide hG0
      have HGW := hide gW0
      have hs0 : w.heap.size ≤ W0.heap.size := hG0.size
      have hsV : V1.heap.size ≤ wr.heap.size := HGr.out.size
      have hV1 : w.heap.size < V1.heap.size := lt_of_block HB1.out
      rcases HV.out.1 with ⟨hv0, hqs0⟩ | ⟨ra, cp', hv0, _, _, hsrc⟩
      · obtain ⟨rfl, hq0, rfl⟩ : ao = none ∧ qs.length = 0 ∧ cp = 0 := by simpa using hv0
        obtain ⟨gO, hgO⟩ : ∃ g, wr.heap.size = g := ⟨_, rfl⟩
        obtain ⟨cO, hcO0⟩ : ∃ c, 0 = c := ⟨_, rfl⟩
        have hcOn : qs.length ≤ cO := by omega
        have HOUT : Hid (W0.ownsRow w.heap.size 41 2 (.slice (some ⟨gO, 0, none⟩) qs.length cO) qs.length (serC qs)) := hide (by rw [hqs0, ← hgO, ← hcO0]; exact HE0.out)
        have HBP : Hid (W0.heap[w.heap.size]? = some (.cells #[.int .i64 t, .int .u64 (b : Nat)] 48 (0, 0))) := hide (HGW.out.get (HGr.out.get HB1.out))
        have HG4 : Hid (Grow w W0) := HG0
        have hx0 : Value.slice none qs.length 0 = .slice none 0 0 := by rw [hq0]
        have hx1 : Value.slice (some ⟨wr.heap.size, 0, none⟩) 0 0 = .slice (some ⟨gO, 0, none⟩) qs.length cO := by rw [hq0, ← hgO, ← hcO0]
        have HX0 := hide hx0
        have HX1 := hide hx1
        clear hv0 hqs0 hq0 hx0 hx1 gW0 bW0 hG0 hgO hcO0
        go_wp2_with (at_builtin; go_loud (refine wpList_append_own_none rfl _ _ 22 rfl w.heap.size 41 i0 2 Tryz.underlying22 hi0 (.slice (some ⟨gO, 0, none⟩) qs.length cO) qs.length (serC qs) HX1.out HOUT.out HX0.out ?_))
        clear eW0
        obtain ⟨X1, eX1⟩ : ∃ X, W0.drew.alloc (.cells #[.int .i64 t, .int .u64 (b : Nat)] 48) = X := ⟨_, rfl⟩
        have hGX1 : Grow W0 X1 := Grow.trans (⟨rfl, rfl, rfl, Nat.le_refl _, fun _ _ => rfl⟩ : Grow W0 W0.drew) (by rw [← eX1]; exact (Grow.refl _).alloc _)
        have hbX1 : X1.heap[W0.heap.size]? = some (.cells #[.int .i64 t, .int .u64 (b : Nat)] 48 (0, 0)) := by rw [← eX1]; exact heap_alloc_new _ _
        have hsX1 : X1.heap.size = W0.heap.size + 1 := by rw [← eX1]; simp
        obtain ⟨X2, eX2⟩ : ∃ X, X1.alloc (.cells #[.slice xo nx xc, .slice (some ⟨W0.heap.size, 0, none⟩) 1 1] 41) = X := ⟨_, rfl⟩
        have hGX2 : Grow X1 X2 := by rw [← eX2]; exact (Grow.refl _).alloc _
        have hbX2 : X2.heap[W0.heap.size + 1]? = some (.cells #[.slice xo nx xc, .slice (some ⟨W0.heap.size, 0, none⟩) 1 1] 41 (0, 0)) := by rw [← eX2, ← hsX1]; exact heap_alloc_new _ _
        have hbX12 : X2.heap[W0.heap.size]? = some (.cells #[.int .i64 t, .int .u64 (b : Nat)] 48 (0, 0)) := hGX2.get hbX1
        have hG42 : Grow W0 X2 := hGX1.trans hGX2
        have hws4 : w.heap.size ≤ W0.heap.size := HG4.out.size
        have hO2 : X2.ownsRow w.heap.size 41 2 (.slice (some ⟨W0.heap.size + 1, 0, none⟩) 1 1) 1 [.slice xo nx xc, .slice (some ⟨W0.heap.size, 0, none⟩) 1 1] :=
          ⟨rfl, .inr ⟨W0.heap.size + 1, 1, _, rfl, by omega, hbX2, Nat.le_refl _, by unfold maxLen; omega, rfl, rfl⟩⟩
        have hgOl : gO < W0.heap.size := (HOUT.out.lt gO rfl).2
        have hcO : ∀ (W : World), Grow W0 W → ∀ j u, (serC qs)[j]? = some u → W.cell? ((⟨gO, 0, none⟩ : Addr).add j) = some u := fun W g j u hj => World.ownsRow.cells (own_growT HOUT.out g) (g := gO) rfl j u hj
        have hdrop : ∀ j u, ((serC qs).drop (i * 2))[j]? = some u → X2.cell? ((⟨gO, i * 2, none⟩ : Addr).add j) = some u := fun j u hj => by
          rw [List.getElem?_drop] at hj
          have := hcO X2 hG42 _ _ hj
          rw [Addr.add_lit] at this ⊢
          simpa using this
        have hdl : ((serC qs).drop (i * 2)).length = (qs.length - i) * 2 := by rw [List.length_drop, serC_length]; omega
        have hone2 : ∀ u ∈ (serC qs).drop (i * 2), u.oneCell' = true := fun u hu => HV.out.one u (List.mem_of_mem_drop hu)
        obtain ⟨q0, q1⟩ := two_cells HBP.out
        have q0' : W0.drew.cell? ⟨w.heap.size, 0, none⟩ = some (.int .i64 t) := q0
        have q1' : W0.drew.cell? ⟨w.heap.size, 1, none⟩ = some (.int .u64 (b : Nat)) := q1
        have mixed : Tryz.prog.follows .mixedOrders = true := by kernel_rfl
        have hini : (i : Int) ≤ (qs.length : Int) := by omega
        have hicO : i ≤ cO := by omega
        have hiciO : (i : Int) ≤ (cO : Int) := by omega
        have hw2 : w.heap.size ≤ X2.heap.size := Nat.le_trans hws4 hG42.size
        have HBX := hide hbX12
        have H42 := hide hG42
        by_cases hci : cO = i
        · go_region_law_o (first
            | (refine step_app_at rfl _ _ 22 rfl w.heap.size 41 i0 _ 2 48 Tryz.underlying22 hi0 hz0 hz1 hz2 rfl (by decide) (.slice (some ⟨W0.heap.size + 1, 0, none⟩) 1 1) 1 _ (by simp [Act.eval, Act.put, hsX1]) hO2 ⟨gO, 0, none⟩ (qs.length - i) (cO - i) ((serC qs).drop (i * 2)) (by simp [Act.eval, Act.put, hci]) hdl (fun j u hj => by rw [List.drop_eq_nil_of_le (by rw [serC_length]; omega)] at hj; simp at hj) hone2 (by unfold maxLen; omega) (by omega) hw2 ?_; intro v6 w6 hown6 hg6 hat6; obtain ⟨g6, c6, hv6⟩ : ∃ g c, v6 = .slice (some ⟨g, 0, none⟩) (1 + (qs.length - i)) c := (by rcases hown6.2 with ⟨_, h0⟩ | ⟨g, cap, cur, r1, _⟩; omega; exact ⟨_, _, r1⟩); subst hv6; have hn6 := World.ownsRow.cells hown6 (g := g6) rfl; have hO6 : ∀ j u, ((serC qs).take (i * 2))[j]? = some u → w6.cell? ((⟨gO, 0, none⟩ : Addr).add j) = some u := (fun j u hj => by
                have hjj : j < i * 2 := by
                  rcases Nat.lt_or_ge j (i * 2) with h | h
                  · exact h
                  · rw [List.getElem?_eq_none (by rw [List.length_take]; omega)] at hj; cases hj
                rw [List.getElem?_take_of_lt hjj] at hj
                have := hcO X2 hG42 j u hj
                rw [Addr.add_lit] at this ⊢
                exact (World.cell?_of_block (w := X2) (hg6.block gO (by have := hG42.size; omega) (by simp [Value.ownBlock]; omega))).trans this))
            | (refine step_app_arg rfl _ _ 22 rfl 41 i0 _ 2 48 Tryz.underlying22 hi0 hz0 hz1 hz2 rfl (by decide) ⟨gO, 0, none⟩ i i ((serC qs).take (i * 2)) (by simp [Act.eval, Act.put]) (by rw [List.length_take, serC_length]; omega) hO6 ⟨g6, 0, none⟩ (1 + (qs.length - i)) c6 ([.slice xo nx xc, .slice (some ⟨W0.heap.size, 0, none⟩) 1 1] ++ (serC qs).drop (i * 2)) (by simp [Act.eval, Act.put]) (by rw [List.length_append, hdl]; simp; omega) hn6 (by omega) (by unfold maxLen; omega) (by omega) ?_; intro v7 w7 hown7 hg7))
          have g7 : Grow w w7 := Below.trans HG4.out (Below.trans (Below.mono hG42 hws4) (Below.trans ((Below.refl w.heap.size X2).grown hg6 hw2 (fun k hk => (hO2.lt k hk).1)) (Below.mono (grow_none hg7) (Nat.le_trans hw2 hg6.size))))
          have hb7 : w7.heap[W0.heap.size]? = some (.cells #[.int .i64 t, .int .u64 (b : Nat)] 48 (0, 0)) := grown_block hg7 (grown_block hg6 HBX.out (by simp [Value.ownBlock])) (by simp)
          obtain ⟨qs', f1, f2⟩ := ins_fin HV.out HX.out g7 hb7 hown7 hi HA.out HPOS.out
          have F1 := hide f1
          have F2 := hide f2
          have F3 := hide g7
          clear f1 f2 g7 hb7 hown7 hg7 hown6 hg6 hn6 hat6 hO6
          go_wp2
          go_ret
          exact ⟨_, rfl, qs', F1.out, F2.out, F3.out⟩
        · go_region_law_o (first
            | (refine step_app_at rfl _ _ 22 rfl w.heap.size 41 i0 _ 2 48 Tryz.underlying22 hi0 hz0 hz1 hz2 rfl (by decide) (.slice (some ⟨W0.heap.size + 1, 0, none⟩) 1 1) 1 _ (by simp [Act.eval, Act.put, hsX1]) hO2 ⟨gO, i * 2, none⟩ (qs.length - i) (cO - i) ((serC qs).drop (i * 2)) (by simp [Act.eval, Act.put, hci]) hdl hdrop hone2 (by unfold maxLen; omega) (by omega) hw2 ?_; intro v6 w6 hown6 hg6 hat6; obtain ⟨g6, c6, hv6⟩ : ∃ g c, v6 = .slice (some ⟨g, 0, none⟩) (1 + (qs.length - i)) c := (by rcases hown6.2 with ⟨_, h0⟩ | ⟨g, cap, cur, r1, _⟩; omega; exact ⟨_, _, r1⟩); subst hv6; have hn6 := World.ownsRow.cells hown6 (g := g6) rfl; have hO6 : ∀ j u, ((serC qs).take (i * 2))[j]? = some u → w6.cell? ((⟨gO, 0, none⟩ : Addr).add j) = some u := (fun j u hj => by
                have hjj : j < i * 2 := by
                  rcases Nat.lt_or_ge j (i * 2) with h | h
                  · exact h
                  · rw [List.getElem?_eq_none (by rw [List.length_take]; omega)] at hj; cases hj
                rw [List.getElem?_take_of_lt hjj] at hj
                have := hcO X2 hG42 j u hj
                rw [Addr.add_lit] at this ⊢
                exact (World.cell?_of_block (w := X2) (hg6.block gO (by have := hG42.size; omega) (by simp [Value.ownBlock]; omega))).trans this))
            | (refine step_app_arg rfl _ _ 22 rfl 41 i0 _ 2 48 Tryz.underlying22 hi0 hz0 hz1 hz2 rfl (by decide) ⟨gO, 0, none⟩ i i ((serC qs).take (i * 2)) (by simp [Act.eval, Act.put]) (by rw [List.length_take, serC_length]; omega) hO6 ⟨g6, 0, none⟩ (1 + (qs.length - i)) c6 ([.slice xo nx xc, .slice (some ⟨W0.heap.size, 0, none⟩) 1 1] ++ (serC qs).drop (i * 2)) (by simp [Act.eval, Act.put]) (by rw [List.length_append, hdl]; simp; omega) hn6 (by omega) (by unfold maxLen; omega) (by omega) ?_; intro v7 w7 hown7 hg7))
          have g7 : Grow w w7 := Below.trans HG4.out (Below.trans (Below.mono hG42 hws4) (Below.trans ((Below.refl w.heap.size X2).grown hg6 hw2 (fun k hk => (hO2.lt k hk).1)) (Below.mono (grow_none hg7) (Nat.le_trans hw2 hg6.size))))
          have hb7 : w7.heap[W0.heap.size]? = some (.cells #[.int .i64 t, .int .u64 (b : Nat)] 48 (0, 0)) := grown_block hg7 (grown_block hg6 HBX.out (by simp [Value.ownBlock])) (by simp)
          obtain ⟨qs', f1, f2⟩ := ins_fin HV.out HX.out g7 hb7 hown7 hi HA.out HPOS.out
          have F1 := hide f1
          have F2 := hide f2
          have F3 := hide g7
          clear f1 f2 g7 hb7 hown7 hg7 hown6 hg6 hn6 hat6 hO6
          go_wp2
          go_ret
          exact ⟨_, rfl, qs', F1.out, F2.out, F3.out⟩
      · obtain ⟨rfl, rfl⟩ : ao = some ra ∧ cp = cp' := by simpa using hv0
        have HSRC : Hid (∀ j u, (serC qs)[j]? = some u → W0.cell? (ra.add j) = some u) := hide (by
          rcases (HV.out.keep hG0).1 with ⟨h, _⟩ | ⟨a', c', e, _, _, h⟩
          · cases h
          · simp only [Value.slice.injEq, Option.some.injEq] at e
            obtain ⟨rfl, _, _⟩ := e
            exact h)
        clear hv0 hsrc hG0 gW0 bW0
        go_wp2_with (at_builtin; go_loud (refine wpList_append_own_at _ rfl _ _ 22 rfl w.heap.size 41 i0 _ 2 48 Tryz.underlying22 hi0 hz0 hz1 hz2 rfl (by decide) _ 0 [] rfl HE0.out ra qs.length cp (serC qs) rfl (serC_length qs) HSRC.out (HV.out.one) (by unfold maxLen; omega) (by omega) hs0 ?_))
        intro v4 w4 hown4 hg4 hiff hat4
        obtain ⟨gO, cO, hv4, hcOn⟩ : ∃ g c, v4 = .slice (some ⟨g, 0, none⟩) qs.length c ∧ qs.length ≤ c := by
          rcases hown4.2 with ⟨h, _⟩ | ⟨g, cap, cur, r1, _, _, r4, _⟩
          · exact (hiff h).elim
          · exact ⟨_, _, r1, r4⟩
        subst hv4
        have HOUT := hide hown4
        have HB4 : Hid (Below w.heap.size W0 w4) := hide ((Below.refl _ _).grown hg4 hs0 (fun k hk => (HE0.out.lt k hk).1))
        have HGg4 := hide hg4
        clear hown4 hg4 hiff hat4 eW0
        have HG4 : Hid (Grow w w4) := hide (Below.trans HG0.out HB4.out)
        have HBP : Hid (w4.heap[w.heap.size]? = some (.cells #[.int .i64 t, .int .u64 (b : Nat)] 48 (0, 0))) := hide (grown_block HGg4.out (HGW.out.get (HGr.out.get HB1.out)) (fun e => by simp [Value.ownBlock] at e; omega))
        go_wp2
        obtain ⟨X1, eX1⟩ : ∃ X, w4.drew.alloc (.cells #[.int .i64 t, .int .u64 (b : Nat)] 48) = X := ⟨_, rfl⟩
        have hGX1 : Grow w4 X1 := Grow.trans (⟨rfl, rfl, rfl, Nat.le_refl _, fun _ _ => rfl⟩ : Grow w4 w4.drew) (by rw [← eX1]; exact (Grow.refl _).alloc _)
        have hbX1 : X1.heap[w4.heap.size]? = some (.cells #[.int .i64 t, .int .u64 (b : Nat)] 48 (0, 0)) := by rw [← eX1]; exact heap_alloc_new _ _
        have hsX1 : X1.heap.size = w4.heap.size + 1 := by rw [← eX1]; simp
        obtain ⟨X2, eX2⟩ : ∃ X, X1.alloc (.cells #[.slice xo nx xc, .slice (some ⟨w4.heap.size, 0, none⟩) 1 1] 41) = X := ⟨_, rfl⟩
        have hGX2 : Grow X1 X2 := by rw [← eX2]; exact (Grow.refl _).alloc _
        have hbX2 : X2.heap[w4.heap.size + 1]? = some (.cells #[.slice xo nx xc, .slice (some ⟨w4.heap.size, 0, none⟩) 1 1] 41 (0, 0)) := by rw [← eX2, ← hsX1]; exact heap_alloc_new _ _
        have hbX12 : X2.heap[w4.heap.size]? = some (.cells #[.int .i64 t, .int .u64 (b : Nat)] 48 (0, 0)) := hGX2.get hbX1
        have hG42 : Grow w4 X2 := hGX1.trans hGX2
        have hws4 : w.heap.size ≤ w4.heap.size := HG4.out.size
        have hO2 : X2.ownsRow w.heap.size 41 2 (.slice (some ⟨w4.heap.size + 1, 0, none⟩) 1 1) 1 [.slice xo nx xc, .slice (some ⟨w4.heap.size, 0, none⟩) 1 1] :=
          ⟨rfl, .inr ⟨w4.heap.size + 1, 1, _, rfl, by omega, hbX2, Nat.le_refl _, by unfold maxLen; omega, rfl, rfl⟩⟩
        have hgOl : gO < w4.heap.size := (HOUT.out.lt gO rfl).2
        have hcO : ∀ (W : World), Grow w4 W → ∀ j u, (serC qs)[j]? = some u → W.cell? ((⟨gO, 0, none⟩ : Addr).add j) = some u := fun W g j u hj => World.ownsRow.cells (own_growT HOUT.out g) (g := gO) rfl j u hj
        have hdrop : ∀ j u, ((serC qs).drop (i * 2))[j]? = some u → X2.cell? ((⟨gO, i * 2, none⟩ : Addr).add j) = some u := fun j u hj => by
          rw [List.getElem?_drop] at hj
          have := hcO X2 hG42 _ _ hj
          rw [Addr.add_lit] at this ⊢
          simpa using this
        have hdl : ((serC qs).drop (i * 2)).length = (qs.length - i) * 2 := by rw [List.length_drop, serC_length]; omega
        have hone2 : ∀ u ∈ (serC qs).drop (i * 2), u.oneCell' = true := fun u hu => HV.out.one u (List.mem_of_mem_drop hu)
        obtain ⟨q0, q1⟩ := two_cells HBP.out
        have q0' : w4.drew.cell? ⟨w.heap.size, 0, none⟩ = some (.int .i64 t) := q0
        have q1' : w4.drew.cell? ⟨w.heap.size, 1, none⟩ = some (.int .u64 (b : Nat)) := q1
        have mixed : Tryz.prog.follows .mixedOrders = true := by kernel_rfl
        have hini : (i : Int) ≤ (qs.length : Int) := by omega
        have hicO : i ≤ cO := by omega
        have hiciO : (i : Int) ≤ (cO : Int) := by omega
        have hw2 : w.heap.size ≤ X2.heap.size := Nat.le_trans hws4 hG42.size
        have HBX := hide hbX12
        have H42 := hide hG42
        by_cases hci : cO = i
        · go_region_law_o (first
            | (refine step_app_at rfl _ _ 22 rfl w.heap.size 41 i0 _ 2 48 Tryz.underlying22 hi0 hz0 hz1 hz2 rfl (by decide) (.slice (some ⟨w4.heap.size + 1, 0, none⟩) 1 1) 1 _ (by simp [Act.eval, Act.put, hsX1]) hO2 ⟨gO, 0, none⟩ (qs.length - i) (cO - i) ((serC qs).drop (i * 2)) (by simp [Act.eval, Act.put, hci]) hdl (fun j u hj => by rw [List.drop_eq_nil_of_le (by rw [serC_length]; omega)] at hj; simp at hj) hone2 (by unfold maxLen; omega) (by omega) hw2 ?_; intro v6 w6 hown6 hg6 hat6; obtain ⟨g6, c6, hv6⟩ : ∃ g c, v6 = .slice (some ⟨g, 0, none⟩) (1 + (qs.length - i)) c := (by rcases hown6.2 with ⟨_, h0⟩ | ⟨g, cap, cur, r1, _⟩; omega; exact ⟨_, _, r1⟩); subst hv6; have hn6 := World.ownsRow.cells hown6 (g := g6) rfl; have hO6 : ∀ j u, ((serC qs).take (i * 2))[j]? = some u → w6.cell? ((⟨gO, 0, none⟩ : Addr).add j) = some u := (fun j u hj => by
                have hjj : j < i * 2 := by
                  rcases Nat.lt_or_ge j (i * 2) with h | h
                  · exact h
                  · rw [List.getElem?_eq_none (by rw [List.length_take]; omega)] at hj; cases hj
                rw [List.getElem?_take_of_lt hjj] at hj
                have := hcO X2 hG42 j u hj
                rw [Addr.add_lit] at this ⊢
                exact (World.cell?_of_block (w := X2) (hg6.block gO (by have := hG42.size; omega) (by simp [Value.ownBlock]; omega))).trans this))
            | (refine step_app_arg rfl _ _ 22 rfl 41 i0 _ 2 48 Tryz.underlying22 hi0 hz0 hz1 hz2 rfl (by decide) ⟨gO, 0, none⟩ i i ((serC qs).take (i * 2)) (by simp [Act.eval, Act.put]) (by rw [List.length_take, serC_length]; omega) hO6 ⟨g6, 0, none⟩ (1 + (qs.length - i)) c6 ([.slice xo nx xc, .slice (some ⟨w4.heap.size, 0, none⟩) 1 1] ++ (serC qs).drop (i * 2)) (by simp [Act.eval, Act.put]) (by rw [List.length_append, hdl]; simp; omega) hn6 (by omega) (by unfold maxLen; omega) (by omega) ?_; intro v7 w7 hown7 hg7))
          have g7 : Grow w w7 := Below.trans HG4.out (Below.trans (Below.mono hG42 hws4) (Below.trans ((Below.refl w.heap.size X2).grown hg6 hw2 (fun k hk => (hO2.lt k hk).1)) (Below.mono (grow_none hg7) (Nat.le_trans hw2 hg6.size))))
          have hb7 : w7.heap[w4.heap.size]? = some (.cells #[.int .i64 t, .int .u64 (b : Nat)] 48 (0, 0)) := grown_block hg7 (grown_block hg6 HBX.out (by simp [Value.ownBlock])) (by simp)
          obtain ⟨qs', f1, f2⟩ := ins_fin HV.out HX.out g7 hb7 hown7 hi HA.out HPOS.out
          have F1 := hide f1
          have F2 := hide f2
          have F3 := hide g7
          clear f1 f2 g7 hb7 hown7 hg7 hown6 hg6 hn6 hat6 hO6
          go_wp2
          go_ret
          exact ⟨_, rfl, qs', F1.out, F2.out, F3.out⟩
        · go_region_law_o (first
            | (refine step_app_at rfl _ _ 22 rfl w.heap.size 41 i0 _ 2 48 Tryz.underlying22 hi0 hz0 hz1 hz2 rfl (by decide) (.slice (some ⟨w4.heap.size + 1, 0, none⟩) 1 1) 1 _ (by simp [Act.eval, Act.put, hsX1]) hO2 ⟨gO, i * 2, none⟩ (qs.length - i) (cO - i) ((serC qs).drop (i * 2)) (by simp [Act.eval, Act.put, hci]) hdl hdrop hone2 (by unfold maxLen; omega) (by omega) hw2 ?_; intro v6 w6 hown6 hg6 hat6; obtain ⟨g6, c6, hv6⟩ : ∃ g c, v6 = .slice (some ⟨g, 0, none⟩) (1 + (qs.length - i)) c := (by rcases hown6.2 with ⟨_, h0⟩ | ⟨g, cap, cur, r1, _⟩; omega; exact ⟨_, _, r1⟩); subst hv6; have hn6 := World.ownsRow.cells hown6 (g := g6) rfl; have hO6 : ∀ j u, ((serC qs).take (i * 2))[j]? = some u → w6.cell? ((⟨gO, 0, none⟩ : Addr).add j) = some u := (fun j u hj => by
                have hjj : j < i * 2 := by
                  rcases Nat.lt_or_ge j (i * 2) with h | h
                  · exact h
                  · rw [List.getElem?_eq_none (by rw [List.length_take]; omega)] at hj; cases hj
                rw [List.getElem?_take_of_lt hjj] at hj
                have := hcO X2 hG42 j u hj
                rw [Addr.add_lit] at this ⊢
                exact (World.cell?_of_block (w := X2) (hg6.block gO (by have := hG42.size; omega) (by simp [Value.ownBlock]; omega))).trans this))
            | (refine step_app_arg rfl _ _ 22 rfl 41 i0 _ 2 48 Tryz.underlying22 hi0 hz0 hz1 hz2 rfl (by decide) ⟨gO, 0, none⟩ i i ((serC qs).take (i * 2)) (by simp [Act.eval, Act.put]) (by rw [List.length_take, serC_length]; omega) hO6 ⟨g6, 0, none⟩ (1 + (qs.length - i)) c6 ([.slice xo nx xc, .slice (some ⟨w4.heap.size, 0, none⟩) 1 1] ++ (serC qs).drop (i * 2)) (by simp [Act.eval, Act.put]) (by rw [List.length_append, hdl]; simp; omega) hn6 (by omega) (by unfold maxLen; omega) (by omega) ?_; intro v7 w7 hown7 hg7))
          have g7 : Grow w w7 := Below.trans HG4.out (Below.trans (Below.mono hG42 hws4) (Below.trans ((Below.refl w.heap.size X2).grown hg6 hw2 (fun k hk => (hO2.lt k hk).1)) (Below.mono (grow_none hg7) (Nat.le_trans hw2 hg6.size))))
          have hb7 : w7.heap[w4.heap.size]? = some (.cells #[.int .i64 t, .int .u64 (b : Nat)] 48 (0, 0)) := grown_block hg7 (grown_block hg6 HBX.out (by simp [Value.ownBlock])) (by simp)
          obtain ⟨qs', f1, f2⟩ := ins_fin HV.out HX.out g7 hb7 hown7 hi HA.out HPOS.out
          have F1 := hide f1
          have F2 := hide f2
          have F3 := hide g7
          clear f1 f2 g7 hb7 hown7 hg7 hown6 hg6 hn6 hat6 hO6
          go_wp2
          go_ret
          exact ⟨_, rfl, qs', F1.out, F2.out, F3.out⟩
end Go.Proofs.YtmdakfmecfcbhaaGreat.Tk
