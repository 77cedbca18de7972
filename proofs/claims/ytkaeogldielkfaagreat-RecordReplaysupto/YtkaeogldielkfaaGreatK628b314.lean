/- 1 texts in one. -/
import Derived.Laws.OwnMore
import Derived.Deep.AppendLies
import Derived.Maps.AppendAt
import Derived.Test.YtkaeogldielkfaaGreatProg
import Derived.Test.YtkaeogldielkfaaGreatKabe2b5f
import Derived.Test.YtkaeogldielkfaaGreatKa7e3600
import Derived.Test.YtkaeogldielkfaaGreatKfb00f3c
import Derived.Test.YtkaeogldielkfaaGreatK943a67d
import Derived.Test.YtkaeogldielkfaaGreatK6ad0561
import Derived.Test.YtkaeogldielkfaaGreatKe935582
import Derived.Test.YtkaeogldielkfaaGreatKeaad4e1
set_option linter.unusedVariables false
set_option linter.unusedSimpArgs false
namespace Go.Proofs.YtkaeogldielkfaaGreat.Rc
open Go.RowKit Go.Maps Go.Shelf Lb Lg
abbrev V3 := Value × Value × Value
def knC : List V3 → List Value
  | [] => []
  | p :: l => p.1 :: p.2.1 :: p.2.2 :: knC l
/-- What is known, beside a row of another's. -/
def besideK (W : World) (v8 : Value) (p : V3) (K : Knw) : Prop := ∃ lo hi, hi ≤ W.heap.size ∧ (∀ g, v8.ownBlock = some g → g < lo ∨ hi ≤ g) ∧ SKw lo hi W p.1 p.2.1 p.2.2 K
theorem besideK.keep {W W' : World} {v8 v8' : Value} {p : V3} {K : Knw} (h : besideK W v8 p K) (hs : W.heap.size ≤ W'.heap.size)
    (hb : ∀ (q : Nat) (c : Array Value) (t : TypeId) (fr : Nat × Nat), W.heap[q]? = some (.cells c t fr) → t ≠ 26 → v8.ownBlock ≠ some q → W'.heap[q]? = some (.cells c t fr))
    (hv : ∀ g, v8'.ownBlock = some g → v8.ownBlock = some g ∨ W.heap.size ≤ g) : besideK W' v8' p K := by
  obtain ⟨lo, hi, h1, h2, h3⟩ := h
  refine ⟨lo, hi, by omega, fun g hg => ?_, h3.keep fun q c t fr hq1 hq2 hq ht => hb q c t fr hq ht fun e => ?_⟩
  · rcases hv g hg with h | h
    · exact h2 g h
    · right; omega
  · rcases h2 q e with h | h <;> omega
theorem besideK.grow {W W' : World} {v8 : Value} {p : V3} {K : Knw} (h : besideK W v8 p K) (g : Grow W W') : besideK W' v8 p K := h.keep g.size (fun q c t fr hq _ _ => g.get hq) fun g hg => .inl hg
theorem besideK.reads {W : World} {v8 : Value} {p : V3} {K : Knw} (h : besideK W v8 p K) : readsKnw W W.heap.size p.1 p.2.1 p.2.2 K := by
  obtain ⟨lo, hi, h1, h2, h3⟩ := h
  exact h3.1.reads
def endsV (T : List (List UInt8)) : List Value := intsV ((List.range (T.length + 1)).map fun j => ((logK [] (T.take j)).length : Int))
/-- What the law has: the last that is known in its box, all that were known, where each log ended. -/
structure TL (w W : World) (b : Nat) (v7 v8 : Value) (cur : V3) (T : List (List UInt8)) (M : List Kp) : Prop where
  gr : Grow w W
  bw : w.heap.size ≤ b
  at' : W.heap[b]? = some (.cells #[cur.1, cur.2.1, cur.2.2] 26 (0, 0))
  cur : besideK W v8 cur (knwM M)
  row : ∃ ps : List V3, ps.length = T.length + 1 ∧ W.ownsRow (b + 1) 26 3 v7 (T.length + 1) (knC ps) ∧ ∀ (j : Nat) (h : j < ps.length), besideK W v8 ps[j] (knwM (replK [] (T.take j)))
  ends : W.ownsRow (b + 1) 3 1 v8 (T.length + 1) (endsV T)
theorem TL.grow {w W W' : World} {b : Nat} {v7 v8 : Value} {cur : V3} {T : List (List UInt8)} {M : List Kp} (h : TL w W b v7 v8 cur T M) (g : Grow W W') : TL w W' b v7 v8 cur T M := by
  obtain ⟨ps, p1, p2, p3⟩ := h.row
  exact ⟨h.gr.trans g, h.bw, g.get h.at', h.cur.grow g, ⟨ps, p1, own_grow p2 g, fun j hj => (p3 j hj).grow g⟩, own_grow h.ends g⟩
theorem knwM_nil : knwM [] = noKnw := by
  have h : sortK [] = [] := List.Perm.eq_nil (sortK_perm [])
  unfold knwM
  rw [h]
  rfl
theorem TL.start {w w2 : World} (h : Grow w w2) : TL w (((w2.alloc (.cells #[.slice none 0 0, .slice none 0 0, .slice none 0 0] 26)).alloc (.cells #[.slice none 0 0, .slice none 0 0, .slice none 0 0] 26)).alloc (.cells #[.int .i64 0] 3)) w2.heap.size (.slice (some ⟨w2.heap.size + 1, 0, none⟩) 1 1) (.slice (some ⟨w2.heap.size + 1 + 1, 0, none⟩) 1 1) (.slice none 0 0, .slice none 0 0, .slice none 0 0) [] [] := by
  obtain ⟨V1, e1, g1, b1⟩ := laid_at w2 #[.slice none 0 0, .slice none 0 0, .slice none 0 0] 26
  obtain ⟨V2, e2, g2, b2⟩ := laid_at V1 #[.slice none 0 0, .slice none 0 0, .slice none 0 0] 26
  obtain ⟨V3, e3, g3, b3⟩ := laid_at V2 #[.int .i64 0] 3
  have s1 : V1.heap.size = w2.heap.size + 1 := by rw [← e1]; simp
  have s2 : V2.heap.size = w2.heap.size + 1 + 1 := by rw [← e2]; simp [s1]
  rw [s1] at b2
  rw [s2] at b3
  rw [e1, e2, e3]
  have hk : besideK V3 (.slice (some ⟨w2.heap.size + 1 + 1, 0, none⟩) 1 1) (.slice none 0 0, .slice none 0 0, .slice none 0 0) (knwM []) := by
    rw [knwM_nil]
    exact ⟨0, 0, Nat.zero_le _, fun g _ => .inr (Nat.zero_le _), SKw.nil _ _ _⟩
  refine ⟨h.trans (g1.trans (g2.trans g3)), h.size, (g2.trans g3).get b1, hk, ⟨[(.slice none 0 0, .slice none 0 0, .slice none 0 0)], rfl, ⟨rfl, .inr ⟨_, 1, _, rfl, Nat.le_refl _, g3.get b2, Nat.le_refl _, by unfold maxLen; omega, rfl, rfl⟩⟩, fun j hj => ?_⟩, ⟨rfl, .inr ⟨_, 1, _, rfl, by omega, b3, Nat.le_refl _, by unfold maxLen; omega, rfl, rfl⟩⟩⟩
  obtain rfl : j = 0 := by simp at hj; omega
  exact hk
theorem own_other {X Y : World} {base base' e f s s' n n' : Nat} {v u : Value} {xs ys : List Value} (hrow : X.ownsRow base e s v n xs) (ho : X.ownsRow base' f s' u n' ys) (hne : e ≠ f) (hg : X.grownBy Y v.ownBlock) : Y.ownsRow base' f s' u n' ys := by
  refine own_keep ho fun g hgb => ?_
  rcases id ho.2 with ⟨hv, _⟩ | ⟨g', cap, cur, r1, r2, r3, _⟩
  · rw [hv] at hgb; cases hgb
  · rw [r1] at hgb
    cases hgb
    exact (grown_block hg r3 (own_apart hrow r3 hne)).trans r3.symm
theorem wpList_append_at {P : Program} {w : World} {ops : Array Oper} {rest : List Oper} {o : Oper} {a : Act} {Q : Exit → Act → World → Prop} (hgd : o.guard = none) (s x : Operand) (t : TypeId)
    (ho : o.op = .call { callee := .builtin .append, args := #[s, x], argTypes := #[t, t] })
    (base : Nat) (e : TypeId) (i : TypeInfo) (z : Value) (size bytes : Nat) (ht : P.underlying t = some (.slice e)) (hi : P.info? e = some i) (hz : i.zero = some z)
    (hsize : i.size = size) (hby : i.bytes = bytes) (hzs : z.cells.size = size) (hsz : 0 < size)
    (v : Value) (n : Nat) (xs : List Value) (hs : a.eval s = v) (hown : w.ownsRow base e size v n xs)
    (ad : Addr) (m c : Nat) (news : List Value) (hx : a.eval x = .slice (some ad) m c) (hl : news.length = m * size) (hnews : ∀ j u, news[j]? = some u → w.cell? (ad.add j) = some u) (h1 : ∀ u ∈ news, u.oneCell' = true)
    (h63 : n + m ≤ maxLen) (hbytes : (n + m) * bytes ≤ 140737488355328) (hbase : base ≤ w.heap.size)
    (h : ∀ v' w', w'.ownsRow base e size v' (n + m) (xs ++ news) → w.grownBy w' v.ownBlock → (v'.ownBlock = v.ownBlock ∨ v'.ownBlock = some w.heap.size) → wpList P ops Q rest (a.put o.dst v') w') : wpList P ops Q (o :: rest) a w :=
  wpList_plain hgd fun K hK => by
    obtain ⟨v', w', hr, h2, h3, _, h5⟩ := run_append_own_at (P := P) w base t o.type e i z size bytes ht hi hz hsize hby hzs hsz v n xs hown ad m c news hl hnews h1 h63 hbytes hbase
    unfold Oper.wp
    simp [execOp, ho, resolve, invoke, builtin, hs, hx, hr, Result.andThen]
    exact hK _ _ (h v' w' h2 h3 h5)
end Go.Proofs.YtkaeogldielkfaaGreat.Rc
