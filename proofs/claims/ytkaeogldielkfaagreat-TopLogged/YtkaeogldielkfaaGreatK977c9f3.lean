/- 1 texts in one. -/
import Derived.Laws.OwnMore
import Derived.Deep.AppendLies
import Derived.Maps.AppendAt
import Derived.Test.YtkaeogldielkfaaGreatProg
import Derived.Test.YtkaeogldielkfaaGreatK5674b3b
import Derived.Test.YtkaeogldielkfaaGreatKe92268d
import Derived.Test.YtkaeogldielkfaaGreatKe6b8975
import Derived.Test.YtkaeogldielkfaaGreatK115dd2e
import Derived.Test.YtkaeogldielkfaaGreatK493c4c1
import Derived.Test.YtkaeogldielkfaaGreatK8f38214
import Derived.Test.YtkaeogldielkfaaGreatK1804501
import Derived.Test.YtkaeogldielkfaaGreatKc98d228
import Derived.Test.YtkaeogldielkfaaGreatK622e646
set_option linter.unusedVariables false
set_option linter.unusedSimpArgs false
namespace Go.Proofs.YtkaeogldielkfaaGreat.Rc
open Go.RowKit Go.Maps Go.Shelf Lb Lg
abbrev V3 := Value × Value × Value
def knC : List V3 → List Value
  | [] => []
  | p :: l => p.1 :: p.2.1 :: p.2.2 :: knC l
theorem knC_append (a b : List V3) : knC (a ++ b) = knC a ++ knC b := by
  induction a with
  | nil => rfl
  | cons x l ih => simp [knC, ih]
theorem knC_at : ∀ (l : List V3) (i : Nat) (h : i < l.length), (knC l)[i * 3]? = some l[i].1 ∧ (knC l)[i * 3 + 1]? = some l[i].2.1 ∧ (knC l)[i * 3 + 2]? = some l[i].2.2
  | [], i, h => by simp at h
  | x :: l, 0, h => by simp [knC]
  | x :: l, i + 1, h => by
    have := knC_at l i (by simpa using h)
    have e0 : (i + 1) * 3 = i * 3 + 3 := by omega
    rw [e0]
    simpa [knC] using this
/-- What is known, beside a row of another's. -/
def besideK (W : World) (v8 : Value) (p : V3) (K : Knw) : Prop := ∃ lo hi, hi ≤ W.heap.size ∧ (∀ g, v8.ownBlock = some g → g < lo ∨ hi ≤ g) ∧ SKw lo hi W p.1 p.2.1 p.2.2 K
theorem besideK.keep {W W' : World} {v8 v8' : Value} {p : V3} {K : Knw} (h : besideK W v8 p K) (hs : W.heap.size ≤ W'.heap.size)
    (hb : ∀ (q : Nat) (c : Array Value) (t : TypeId) (fr : Nat × Nat), W.heap[q]? = some (.cells c t fr) → t ≠ 26 → v8.ownBlock ≠ some q → W'.heap[q]? = some (.cells c t fr))
    (hv : ∀ g, v8'.ownBlock = some g → v8.ownBlock = some g ∨ W.heap.size ≤ g) : besideK W' v8' p K := by
  obtain ⟨lo, hi, h1, h2, h3⟩ := h
  refine ⟨lo, hi, by omega, fun g hg => ?_, h3.keep fun q c t fr hq1 hq2 hq ht => hb q c t fr hq ht fun e => ?_⟩
  · rcases hv g hg with h | h
    · exact h2 g h
    · right; omega
  · rcases h2 q e with h | h <;> omega
theorem besideK.grow {W W' : World} {v8 : Value} {p : V3} {K : Knw} (h : besideK W v8 p K) (g : Grow W W') : besideK W' v8 p K := h.keep g.size (fun q c t fr hq _ _ => g.get hq) fun g hg => .inl hg
theorem besideK.shape {W : World} {v8 : Value} {p : V3} {K : Knw} (h : besideK W v8 p K) : (∃ ao cp, p.1 = .slice ao K.refs.length cp) ∧ (∃ ao cp, p.2.1 = .slice ao K.lasts.length cp) ∧ ∃ ao cp, p.2.2 = .slice ao K.has.length cp := by
  obtain ⟨lo, hi, h1, h2, h3⟩ := h
  exact h3.shape
theorem besideK.reads {W : World} {v8 : Value} {p : V3} {K : Knw} (h : besideK W v8 p K) : readsKnw W W.heap.size p.1 p.2.1 p.2.2 K := by
  obtain ⟨lo, hi, h1, h2, h3⟩ := h
  exact h3.1.reads
def endsV (T : List (List UInt8)) : List Value := intsV ((List.range (T.length + 1)).map fun j => ((logK [] (T.take j)).length : Int))
theorem endsV_snoc (T : List (List UInt8)) (t : List UInt8) : endsV (T ++ [t]) = endsV T ++ [.int .i64 (logK [] (T ++ [t])).length] := by
  unfold endsV intsV
  rw [List.length_append, List.length_singleton, List.range_succ, List.map_append, List.map_append]
  congr 1
  · congr 1
    apply List.map_congr_left
    intro j hj
    rw [List.mem_range] at hj
    rw [List.take_append_of_le_length (by omega)]
  · simp
    rw [List.take_of_length_le (by simp)]
theorem endsV_at (T : List (List UInt8)) (j : Nat) (h : j ≤ T.length) : (endsV T)[j]? = some (.int .i64 (logK [] (T.take j)).length) := by
  unfold endsV intsV
  rw [List.getElem?_map, List.getElem?_map, List.getElem?_range (by omega)]
  rfl
/-- What the law has: the last that is known in its box, all that were known, where each log ended. -/
structure TL (w W : World) (b : Nat) (v7 v8 : Value) (cur : V3) (T : List (List UInt8)) (M : List Kp) : Prop where
  gr : Grow w W
  bw : w.heap.size ≤ b
  at' : W.heap[b]? = some (.cells #[cur.1, cur.2.1, cur.2.2] 26 (0, 0))
  cur : besideK W v8 cur (knwM M)
  row : ∃ ps : List V3, ps.length = T.length + 1 ∧ W.ownsRow (b + 1) 26 3 v7 (T.length + 1) (knC ps) ∧ ∀ (j : Nat) (h : j < ps.length), besideK W v8 ps[j] (knwM (replK [] (T.take j)))
  ends : W.ownsRow (b + 1) 3 1 v8 (T.length + 1) (endsV T)
theorem TL.grow {w W W' : World} {b : Nat} {v7 v8 : Value} {cur : V3} {T : List (List UInt8)} {M : List Kp} (h : TL w W b v7 v8 cur T M) (g : Grow W W') : TL w W' b v7 v8 cur T M := by
  obtain ⟨ps, p1, p2, p3⟩ := h.row
  exact ⟨h.gr.trans g, h.bw, g.get h.at', h.cur.grow g, ⟨ps, p1, own_grow p2 g, fun j hj => (p3 j hj).grow g⟩, own_grow h.ends g⟩
/-- Its box is turned. -/
theorem TL.turn {w W : World} {b : Nat} {v7 v8 : Value} {cur : V3} {T : List (List UInt8)} {M : List Kp} (h : TL w W b v7 v8 cur T M) (p : V3) (K : Knw) (hp : besideK W v8 p K) :
    ∃ W', W' = ((W.setCell ⟨b, 0, none⟩ p.1).setCell ⟨b, 1, none⟩ p.2.1).setCell ⟨b, 2, none⟩ p.2.2 ∧ W'.heap[b]? = some (.cells #[p.1, p.2.1, p.2.2] 26 (0, 0)) ∧ (∀ q, q ≠ b → W'.heap[q]? = W.heap[q]?) ∧ Grow w W' ∧ W'.heap.size = W.heap.size ∧ besideK W' v8 p K ∧
      (∃ ps : List V3, ps.length = T.length + 1 ∧ W'.ownsRow (b + 1) 26 3 v7 (T.length + 1) (knC ps) ∧ ∀ (j : Nat) (h : j < ps.length), besideK W' v8 ps[j] (knwM (replK [] (T.take j)))) ∧ W'.ownsRow (b + 1) 3 1 v8 (T.length + 1) (endsV T) := by
  obtain ⟨ps, p1, p2, p3⟩ := h.row
  refine ⟨_, rfl, set3 (set3 (set3 h.at' 0 p.1) 1 p.2.1) 2 p.2.2, fun q hq => ?_, Below.setCell (Below.setCell (Below.setCell h.gr h.bw _) h.bw _) h.bw _, by simp, ?_, ⟨ps, p1, ?_, fun j hj => ?_⟩, ?_⟩
  · rw [Below.heap_setCell _ _ _ _ hq, Below.heap_setCell _ _ _ _ hq, Below.heap_setCell _ _ _ _ hq]
  all_goals
    have hoth : ∀ q, q ≠ b → (((W.setCell ⟨b, 0, none⟩ p.1).setCell ⟨b, 1, none⟩ p.2.1).setCell ⟨b, 2, none⟩ p.2.2).heap[q]? = W.heap[q]? := fun q hq => by rw [Below.heap_setCell _ _ _ _ hq, Below.heap_setCell _ _ _ _ hq, Below.heap_setCell _ _ _ _ hq]
    have hbs : ∀ (q : Nat) (c : Array Value) (t : TypeId) (fr : Nat × Nat), W.heap[q]? = some (.cells c t fr) → t ≠ 26 → v8.ownBlock ≠ some q → (((W.setCell ⟨b, 0, none⟩ p.1).setCell ⟨b, 1, none⟩ p.2.1).setCell ⟨b, 2, none⟩ p.2.2).heap[q]? = some (.cells c t fr) := fun q c t fr hq ht _ => (hoth q (fun e => by subst e; rw [h.at'] at hq; simp at hq; exact ht hq.2.1.symm)).trans hq
    first
      | exact hp.keep (by simp) hbs fun g hg => .inl hg
      | exact (p3 j hj).keep (by simp) hbs fun g hg => .inl hg
      | exact own_keep p2 fun g hg => hoth g (fun e => by have := (p2.lt g hg).1; omega)
      | exact own_keep h.ends fun g hg => hoth g (fun e => by have := (h.ends.lt g hg).1; omega)
/-- One more is kept. -/
theorem TL.next {w W X Y Z : World} {b : Nat} {v7 v8 v7' v8' : Value} {cur : V3} {T : List (List UInt8)} {M : List Kp} {t : List UInt8}
    (h1 : W.heap[b]? = some (.cells #[cur.1, cur.2.1, cur.2.2] 26 (0, 0))) (hgr : Grow w W) (hbw : w.heap.size ≤ b) (hcur : besideK W v8 cur (knwM M)) (hM : replK [] (T ++ [t]) = M)
    (ps : List V3) (p1 : ps.length = T.length + 1) (p2 : W.ownsRow (b + 1) 26 3 v7 (T.length + 1) (knC ps)) (p3 : ∀ (j : Nat) (h : j < ps.length), besideK W v8 ps[j] (knwM (replK [] (T.take j))))
    (hg7 : W.grownBy X v7.ownBlock) (hx : X.ownsRow (b + 1) 26 3 v7' (T.length + 1 + 1) (knC ps ++ [cur.1, cur.2.1, cur.2.2]))
    (hY : Grow X Y) (he : Y.ownsRow (b + 1) 3 1 v8 (T.length + 1) (endsV T)) (hg8 : Y.grownBy Z v8.ownBlock) (hz : Z.ownsRow (b + 1) 3 1 v8' (T.length + 1 + 1) (endsV T ++ [.int .i64 (logK [] (T ++ [t])).length]))
    (hv8 : v8'.ownBlock = v8.ownBlock ∨ v8'.ownBlock = some Y.heap.size) : TL w Z b v7' v8' cur (T ++ [t]) M := by
  have hs1 := hg7.size
  have hs2 := hY.size
  have hs3 := hg8.size
  have hne7 : v7.ownBlock ≠ some b := fun e => by have := (p2.lt b e).1; omega
  have hne8 : v8.ownBlock ≠ some b := fun e => by have := (he.lt b e).1; omega
  have hall : ∀ (q : Nat) (c : Array Value) (tt : TypeId) (fr : Nat × Nat), W.heap[q]? = some (.cells c tt fr) → v7.ownBlock ≠ some q → v8.ownBlock ≠ some q → Z.heap[q]? = some (.cells c tt fr) := fun q c tt fr hq h7 h8 => grown_block hg8 (hY.get (grown_block hg7 hq h7)) h8
  have hbs : ∀ (q : Nat) (c : Array Value) (tt : TypeId) (fr : Nat × Nat), W.heap[q]? = some (.cells c tt fr) → tt ≠ 26 → v8.ownBlock ≠ some q → Z.heap[q]? = some (.cells c tt fr) := fun q c tt fr hq ht h8 => hall q c tt fr hq (own_apart p2 hq (Ne.symm ht)) h8
  have hvs : ∀ g, v8'.ownBlock = some g → v8.ownBlock = some g ∨ W.heap.size ≤ g := fun g hg => by
    rcases hv8 with h | h
    · left; rw [← h]; exact hg
    · right; rw [h] at hg; have := Option.some.inj hg; omega
  have hk : ∀ {p : V3} {K : Knw}, besideK W v8 p K → besideK Z v8' p K := fun hp => hp.keep (by omega) hbs hvs
  have hlen : (T ++ [t]).length + 1 = T.length + 1 + 1 := by simp
  refine ⟨?_, hbw, hall _ _ _ _ h1 hne7 hne8, hk hcur, ⟨ps ++ [cur], by simp [p1], ?_, fun j hj => ?_⟩, ?_⟩
  · refine Below.trans hgr ((((Below.refl _ _).grown hg7 hgr.size (fun g hgv => by have := (p2.lt g hgv).1; omega)).trans (Below.mono hY (Nat.le_trans hgr.size hs1))).trans (((Below.refl _ _).grown hg8 (by have := hgr.size; omega) (fun g hgv => by have := (he.lt g hgv).1; omega))))
  · rw [hlen, knC_append]
    refine own_keep (w := X) hx fun g hg => ?_
    have h8g : v8.ownBlock ≠ some g := by
      rcases id hx.2 with ⟨hv, _⟩ | ⟨g', cap, cu, r1, r2, r3, _⟩
      · rw [hv] at hg; cases hg
      · rw [r1] at hg
        cases hg
        exact own_apart he (hY.get r3) (by decide)
    rcases id hx.2 with ⟨hv, _⟩ | ⟨g', cap, cu, r1, r2, r3, _⟩
    · rw [hv] at hg; cases hg
    · rw [r1] at hg
      cases hg
      exact (grown_block hg8 (hY.get r3) h8g).trans r3.symm
  · by_cases hjl : j < ps.length
    · rw [List.getElem_append_left hjl, List.take_append_of_le_length (by omega)]
      exact hk (p3 j hjl)
    · have hj2 : j = ps.length := by simp at hj; omega
      subst hj2
      rw [List.getElem_append_right (Nat.le_refl _)]
      simp only [Nat.sub_self, List.getElem_cons_zero]
      rw [List.take_of_length_le (by simp [p1]), hM]
      exact hk hcur
  · rw [hlen, endsV_snoc]
    exact hz
theorem row_cellsN {w : World} {B n : Nat} {v : Value} {ps : List V3} (h : w.ownsRow B 26 3 v n (knC ps)) (hl : ps.length = n) {i : Nat} (hi : i < ps.length) :
    ∃ g cap, v = .slice (some ⟨g, 0, none⟩) n cap ∧ B ≤ g ∧ w.cell? ⟨g, i * 3, none⟩ = some ps[i].1 ∧ w.cell? ⟨g, i * 3 + 1, none⟩ = some ps[i].2.1 ∧ w.cell? ⟨g, i * 3 + 2, none⟩ = some ps[i].2.2 := by
  rcases id h.2 with ⟨_, h0⟩ | ⟨g, cap, cur, r1, r2, r3, r4, r5, r6, r7⟩
  · omega
  · have hc := World.ownsRow.cells h (g := g) (by rw [r1]; rfl)
    obtain ⟨k0, k1, k2⟩ := knC_at ps i hi
    have c0 := hc _ _ k0
    have c1 := hc _ _ k1
    have c2 := hc _ _ k2
    rw [Addr.add_lit] at c0 c1 c2
    exact ⟨g, cap, r1, r2, by simpa using c0, by simpa using c1, by simpa using c2⟩
theorem row_cellsE {w : World} {B n : Nat} {v : Value} {T : List (List UInt8)} (h : w.ownsRow B 3 1 v n (endsV T)) {i : Nat} (hi : i ≤ T.length) (hn : n = T.length + 1) :
    ∃ g cap, v = .slice (some ⟨g, 0, none⟩) n cap ∧ B ≤ g ∧ w.cell? ⟨g, i, none⟩ = some (.int .i64 (logK [] (T.take i)).length) := by
  rcases id h.2 with ⟨_, h0⟩ | ⟨g, cap, cur, r1, r2, r3, r4, r5, r6, r7⟩
  · omega
  · have hc := World.ownsRow.cells h (g := g) (by rw [r1]; rfl)
    have c0 := hc _ _ (endsV_at T i hi)
    rw [Addr.add_lit] at c0
    exact ⟨g, cap, r1, r2, by simpa using c0⟩
theorem knwM_nil : knwM [] = noKnw := by
  have h : sortK [] = [] := List.Perm.eq_nil (sortK_perm [])
  unfold knwM
  rw [h]
  rfl
theorem TL.start {w w2 : World} (h : Grow w w2) : TL w (((w2.alloc (.cells #[.slice none 0 0, .slice none 0 0, .slice none 0 0] 26)).alloc (.cells #[.slice none 0 0, .slice none 0 0, .slice none 0 0] 26)).alloc (.cells #[.int .i64 0] 3)) w2.heap.size (.slice (some ⟨w2.heap.size + 1, 0, none⟩) 1 1) (.slice (some ⟨w2.heap.size + 1 + 1, 0, none⟩) 1 1) (.slice none 0 0, .slice none 0 0, .slice none 0 0) [] [] := by
  obtain ⟨V1, e1, g1, b1⟩ := laid_at w2 #[.slice none 0 0, .slice none 0 0, .slice none 0 0] 26
  obtain ⟨V2, e2, g2, b2⟩ := laid_at V1 #[.slice none 0 0, .slice none 0 0, .slice none 0 0] 26
  obtain ⟨V3, e3, g3, b3⟩ := laid_at V2 #[.int .i64 0] 3
  have s1 : V1.heap.size = w2.heap.size + 1 := by rw [← e1]; simp
  have s2 : V2.heap.size = w2.heap.size + 1 + 1 := by rw [← e2]; simp [s1]
  rw [s1] at b2
  rw [s2] at b3
  rw [e1, e2, e3]
  have hk : besideK V3 (.slice (some ⟨w2.heap.size + 1 + 1, 0, none⟩) 1 1) (.slice none 0 0, .slice none 0 0, .slice none 0 0) (knwM []) := by
    rw [knwM_nil]
    exact ⟨0, 0, Nat.zero_le _, fun g _ => .inr (Nat.zero_le _), SKw.nil _ _ _⟩
  refine ⟨h.trans (g1.trans (g2.trans g3)), h.size, (g2.trans g3).get b1, hk, ⟨[(.slice none 0 0, .slice none 0 0, .slice none 0 0)], rfl, ⟨rfl, .inr ⟨_, 1, _, rfl, Nat.le_refl _, g3.get b2, Nat.le_refl _, by unfold maxLen; omega, rfl, rfl⟩⟩, fun j hj => ?_⟩, ⟨rfl, .inr ⟨_, 1, _, rfl, by omega, b3, Nat.le_refl _, by unfold maxLen; omega, rfl, rfl⟩⟩⟩
  obtain rfl : j = 0 := by simp at hj; omega
  exact hk
theorem own_other {X Y : World} {base base' e f s s' n n' : Nat} {v u : Value} {xs ys : List Value} (hrow : X.ownsRow base e s v n xs) (ho : X.ownsRow base' f s' u n' ys) (hne : e ≠ f) (hg : X.grownBy Y v.ownBlock) : Y.ownsRow base' f s' u n' ys := by
  refine own_keep ho fun g hgb => ?_
  rcases id ho.2 with ⟨hv, _⟩ | ⟨g', cap, cur, r1, r2, r3, _⟩
  · rw [hv] at hgb; cases hgb
  · rw [r1] at hgb
    cases hgb
    exact (grown_block hg r3 (own_apart hrow r3 hne)).trans r3.symm
theorem wpList_append_at {P : Program} {w : World} {ops : Array Oper} {rest : List Oper} {o : Oper} {a : Act} {Q : Exit → Act → World → Prop} (hgd : o.guard = none) (s x : Operand) (t : TypeId)
    (ho : o.op = .call { callee := .builtin .append, args := #[s, x], argTypes := #[t, t] })
    (base : Nat) (e : TypeId) (i : TypeInfo) (z : Value) (size bytes : Nat) (ht : P.underlying t = some (.slice e)) (hi : P.info? e = some i) (hz : i.zero = some z)
    (hsize : i.size = size) (hby : i.bytes = bytes) (hzs : z.cells.size = size) (hsz : 0 < size)
    (v : Value) (n : Nat) (xs : List Value) (hs : a.eval s = v) (hown : w.ownsRow base e size v n xs)
    (ad : Addr) (m c : Nat) (news : List Value) (hx : a.eval x = .slice (some ad) m c) (hl : news.length = m * size) (hnews : ∀ j u, news[j]? = some u → w.cell? (ad.add j) = some u) (h1 : ∀ u ∈ news, u.oneCell' = true)
    (h63 : n + m ≤ maxLen) (hbytes : (n + m) * bytes ≤ 140737488355328) (hbase : base ≤ w.heap.size)
    (h : ∀ v' w', w'.ownsRow base e size v' (n + m) (xs ++ news) → w.grownBy w' v.ownBlock → (v'.ownBlock = v.ownBlock ∨ v'.ownBlock = some w.heap.size) → wpList P ops Q rest (a.put o.dst v') w') : wpList P ops Q (o :: rest) a w :=
  wpList_plain hgd fun K hK => by
    obtain ⟨v', w', hr, h2, h3, _, h5⟩ := run_append_own_at (P := P) w base t o.type e i z size bytes ht hi hz hsize hby hzs hsz v n xs hown ad m c news hl hnews h1 h63 hbytes hbase
    unfold Oper.wp
    simp [execOp, ho, resolve, invoke, builtin, hs, hx, hr, Result.andThen]
    exact hK _ _ (h v' w' h2 h3 h5)
theorem infoKn : (Tryz.prog.info? 26).map (fun i => (i.zero, i.size, i.bytes)) = some (some (.agg #[.slice none 0 0, .slice none 0 0, .slice none 0 0]), 3, 72) := by kernel_rfl
theorem knw_sizes {K : Knw} (h : knwErr K = 0) : K.refs.length ≤ 1000000 ∧ (∀ x ∈ K.refs, x.2.length ≤ 1000000) ∧ K.lasts.length ≤ 1000000 ∧ K.has.length ≤ 1000000 := by
  obtain ⟨hn1, hn2, hn3, hn4, _⟩ := knwErr_zero h
  refine ⟨by omega, fun x hx => ?_, by omega, by omega⟩
  obtain ⟨i, hi, rfl⟩ := List.getElem_of_mem hx
  have := oneErr_ref (hn4 i hi)
  have e : K.refs.getD i (0, []) = K.refs[i] := by simp [hi]
  rw [e] at this
  have := (check_small (refErr_zero this).2.2).1
  omega
end Go.Proofs.YtkaeogldielkfaaGreat.Rc
