/- 2 texts in one. -/
import Derived.Laws.OwnMore
import Derived.Maps.AppendAt
import Derived.Deep.AppendLies
import Derived.OwnWalk
import Derived.Test.YtkaeogldielkfaaGreatProg
import Derived.Test.YtkaeogldielkfaaGreatKabe2b5f
import Derived.Test.YtkaeogldielkfaaGreatKa96aaab
import Derived.Test.YtkaeogldielkfaaGreatKa7e3600
import Derived.Test.YtkaeogldielkfaaGreatKd1f2bd3
import Derived.Test.YtkaeogldielkfaaGreatK6683a6f
import Derived.Test.YtkaeogldielkfaaGreatKfb00f3c
import Derived.Test.YtkaeogldielkfaaGreatK943a67d
import Derived.Test.YtkaeogldielkfaaGreatK6ad0561
import Derived.Test.YtkaeogldielkfaaGreatK628b314
import Derived.Test.YtkaeogldielkfaaGreatKe935582
set_option linter.unusedVariables false
set_option linter.unusedSimpArgs false
namespace Go.Proofs.YtkaeogldielkfaaGreat.Rc
open Go.RowKit Go.Maps Go.Shelf Lb Lg
/-- Another row of the same kind, put behind a row of the call's own. -/
theorem run_app_own {P : Program} (w : World) (base : Nat) (t ty e : TypeId) (i : TypeInfo) (z : Value) (size bytes : Nat) (ht : P.underlying t = some (.slice e)) (hi : P.info? e = some i) (hz : i.zero = some z)
    (hsize : i.size = size) (hby : i.bytes = bytes) (hzs : z.cells.size = size) (hsz : 0 < size)
    (v : Value) (n : Nat) (xs : List Value) (hown : w.ownsRow base e size v n xs) (u : Value) (m B : Nat) (ys : List Value) (hu : w.ownsRow B e size u m ys) (h1 : ∀ y ∈ ys, y.oneCell' = true)
    (h63 : n + m ≤ maxLen) (hbytes : (n + m) * bytes ≤ 140737488355328) (hbase : base ≤ w.heap.size) :
    ∃ v' w', (Builtin.append_ #[t, t] ty #[v, u]).run P w = .ok v' w' ∧ w'.ownsRow base e size v' (n + m) (xs ++ ys) ∧ w.grownBy w' v.ownBlock := by
  rcases id hu.2 with ⟨rfl, rfl⟩ | ⟨g, cap, cur, rfl, r2, r3, _⟩
  · have hy : ys = [] := List.eq_nil_of_length_eq_zero (by rw [hu.1]; simp)
    subst hy
    exact ⟨v, w, run_append_owned_none (P := P) (w := w) base t ty e i size ht hi v n xs hown, by simpa using hown, World.grownBy.refl _ _⟩
  · obtain ⟨v', w', q1, q2, q3, _⟩ := run_append_own_at (P := P) w base t ty e i z size bytes ht hi hz hsize hby hzs hsz v n xs hown ⟨g, 0, none⟩ m cap ys hu.1 (fun j y hj => World.ownsRow.cells hu (g := g) rfl j y hj) h1 h63 hbytes hbase
    exact ⟨v', w', q1, q2, q3⟩
/-- A row on its way: made empty (A), then all of it (B). -/
def rowJ (w0 w' : World) (e s : Nat) (lA : Bool) (vA : Value) (lB : Bool) (vB : Value) (n : Nat) (xs : List Value) : Prop :=
  (lA = true → lB = false → w'.ownsRow w0.heap.size e s vA 0 []) ∧ (lB = true → w'.ownsRow w0.heap.size e s vB n xs)
theorem rowJ.grow {w0 w' w'' : World} {e s n : Nat} {lA lB : Bool} {vA vB : Value} {xs : List Value} (h : rowJ w0 w' e s lA vA lB vB n xs) (g : Grow w' w'') : rowJ w0 w'' e s lA vA lB vB n xs :=
  ⟨fun a b => own_grow (h.1 a b) g, fun a => own_grow (h.2 a) g⟩
theorem rowJ.other {w0 w' w'' : World} {e s n f s' k B : Nat} {lA lB : Bool} {vA vB v : Value} {xs ys : List Value} (h : rowJ w0 w' e s lA vA lB vB n xs) (hr : w'.ownsRow B f s' v k ys) (hne : f ≠ e) (g : w'.grownBy w'' v.ownBlock) : rowJ w0 w'' e s lA vA lB vB n xs :=
  ⟨fun a b => own_other hr (h.1 a b) hne g, fun a => own_other hr (h.2 a) hne g⟩
theorem rowJ.app {w0 w'' : World} {e s n : Nat} {lA lB : Bool} {vA v : Value} {xs : List Value} (h : w''.ownsRow w0.heap.size e s v n xs) (hl : lB = true) : rowJ w0 w'' e s lA vA lB v n xs :=
  ⟨fun _ b => absurd b (by rw [hl]; simp), fun _ => h⟩
theorem grown_own {w0 w' w'' : World} {e s n : Nat} {v : Value} {xs : List Value} (hg : Grow w0 w') (hr : w'.ownsRow w0.heap.size e s v n xs) (g : w'.grownBy w'' v.ownBlock) : Grow w0 w'' :=
  Below.trans hg ((Below.refl _ _).grown g hg.size (fun q hq => (hr.lt q hq).1))
/-- What is known, as the document's learning has it: rows that nothing else names. -/
structure LK (S : Value → List Lab → Prop) (w : World) (B : Nat) (W : World) (vr vl vh : Value) (ps : List (Int × Value)) (D : List Kp) : Prop where
  r : W.ownsRow B 59 2 vr D.length (refCells ps)
  l : W.ownsRow B 3 1 vl D.length (intsV (D.map (·.2.1)))
  h : W.ownsRow B 4 1 vh D.length (boolsV (D.map (·.2.2)))
  len : ps.length = D.length
  labs : ∀ (j : Nat) (p : Int × Value) (x : Kp), ps[j]? = some p → D[j]? = some x → p.1 = x.1.1 ∧ readsLabels w w.heap.size p.2 x.1.2 ∧ S p.2 x.1.2
theorem LK.grow {S : Value → List Lab → Prop} {w W W' : World} {B : Nat} {vr vl vh : Value} {ps : List (Int × Value)} {D : List Kp} (h : LK S w B W vr vl vh ps D) (g : Grow W W') : LK S w B W' vr vl vh ps D :=
  ⟨own_grow h.r g, own_grow h.l g, own_grow h.h g, h.len, h.labs⟩
theorem LK.at {S : Value → List Lab → Prop} {w W : World} {B : Nat} {vr vl vh : Value} {ps : List (Int × Value)} {D : List Kp} (h : LK S w B W vr vl vh ps D) {j : Nat} (hj : j < D.length) :
    ∃ gr cr vx gl cl gh ch, vr = .slice (some ⟨gr, 0, none⟩) D.length cr ∧ vl = .slice (some ⟨gl, 0, none⟩) D.length cl ∧ vh = .slice (some ⟨gh, 0, none⟩) D.length ch ∧ B ≤ gr ∧ B ≤ gl ∧ B ≤ gh ∧ gr < W.heap.size ∧ gl < W.heap.size ∧ gh < W.heap.size ∧
      W.cell? ⟨gr, j * 2, none⟩ = some (.int .i64 D[j].1.1) ∧ W.cell? ⟨gr, j * 2 + 1, none⟩ = some vx ∧ readsLabels w w.heap.size vx D[j].1.2 ∧ W.cell? ⟨gl, j, none⟩ = some (.int .i64 D[j].2.1) ∧ W.cell? ⟨gh, j, none⟩ = some (.bool D[j].2.2) := by
  have hjp : j < ps.length := by rw [h.len]; exact hj
  obtain ⟨e1, e2, _⟩ := h.labs j ps[j] D[j] (List.getElem?_eq_getElem hjp) (List.getElem?_eq_getElem hj)
  rcases id h.r.2 with ⟨_, h0⟩ | ⟨gr, cr, cu, q1, q2, q3, _⟩
  · omega
  rcases id h.l.2 with ⟨_, h0⟩ | ⟨gl, cl, cu2, s1, s2, s3, _⟩
  · omega
  rcases id h.h.2 with ⟨_, h0⟩ | ⟨gh, ch, cu3, t1, t2, t3, _⟩
  · omega
  have hr := World.ownsRow.cells h.r (g := gr) (by rw [q1]; rfl)
  have hl := World.ownsRow.cells h.l (g := gl) (by rw [s1]; rfl)
  have hh := World.ownsRow.cells h.h (g := gh) (by rw [t1]; rfl)
  obtain ⟨k0, k1⟩ := refCells_at ps j hjp
  have c0 := hr _ _ k0
  have c1 := hr _ _ k1
  have c2 := hl j (.int .i64 D[j].2.1) (by simp [intsV, hj])
  have c3 := hh j (.bool D[j].2.2) (by simp [boolsV, hj])
  rw [Addr.add_lit] at c0 c1 c2 c3
  rw [e1] at c0
  exact ⟨gr, cr, ps[j].2, gl, cl, gh, ch, q1, s1, t1, q2, s2, t2, lt_of_block q3, lt_of_block s3, lt_of_block t3, by simpa using c0, by simpa using c1, e2, by simpa using c2, by simpa using c3⟩
theorem reads_ownInts0 {w : World} {B n : Nat} {v : Value} {l : List Int} (h : w.ownsRow B 3 1 v n (intsV l)) (hn : n = l.length) : readsInt w w.heap.size v l := by subst hn; exact reads_ownInts h
theorem reads_ownBools0 {w : World} {B n : Nat} {v : Value} {l : List Bool} (h : w.ownsRow B 4 1 v n (boolsV l)) (hn : n = l.length) : readsBool w w.heap.size v l := by subst hn; exact reads_ownBools h
/-- It is read. -/
theorem LK.reads {S : Value → List Lab → Prop} {w W : World} {B : Nat} {vr vl vh : Value} {ps : List (Int × Value)} {D : List Kp} (h : LK S w B W vr vl vh ps D) (g : Grow w W) : readsKnw W W.heap.size vr vl vh (knwOf D) := by
  refine ⟨?_, reads_ownInts0 h.l (by simp [knwOf]), reads_ownBools0 h.h (by simp [knwOf])⟩
  obtain ⟨ao, cp, hv⟩ := own_shape h.r
  refine ⟨ao, cp, by rw [hv]; simp [knwOf], fun i hi => ?_⟩
  have hi' : i < D.length := by simpa [knwOf] using hi
  obtain ⟨gr, cr, vx, _, _, _, _, q1, _, _, _, _, _, q2, _, _, c0, c1, hx, _, _⟩ := h.at hi'
  rw [hv] at q1
  obtain ⟨rfl, rfl⟩ : ao = some ⟨gr, 0, none⟩ ∧ cp = cr := by simpa using q1
  refine ⟨gr, 0, vx, rfl, q2, ?_, ?_, ?_⟩
  · simp only [knwOf, List.getElem_map]
    exact readsLabels_mono (readsLabels_below hx g) g.size
  · simp only [knwOf, List.getElem_map, Nat.zero_add]
    exact c0
  · simp only [Nat.zero_add]
    exact c1
/-- One more in the middle. -/
theorem refCells_mid (ps : List (Int × Value)) (i : Nat) (n : Int) (v : Value) : refCells (ps.take i ++ (n, v) :: ps.drop i) = (refCells ps).take (i * 2) ++ ([.int .i64 n, v] ++ (refCells ps).drop (i * 2)) := by
  have key : ∀ (ps : List (Int × Value)) (i : Nat), refCells (ps.take i) = (refCells ps).take (i * 2) ∧ refCells (ps.drop i) = (refCells ps).drop (i * 2) := by
    intro ps
    induction ps with
    | nil => intro i; simp [refCells]
    | cons p ps ih =>
      intro i
      cases i with
      | zero => simp [refCells]
      | succ i =>
        have e : (i + 1) * 2 = i * 2 + 1 + 1 := by omega
        obtain ⟨h1, h2⟩ := ih i
        exact ⟨by rw [e]; simp [refCells, h1], by rw [e]; simp [refCells, h2]⟩
  have happ : ∀ a b : List (Int × Value), refCells (a ++ b) = refCells a ++ refCells b := by
    intro a
    induction a with
    | nil => intro b; rfl
    | cons x a ih => intro b; simp [refCells, ih]
  rw [happ, (key ps i).1]
  congr 1
  show .int .i64 n :: v :: refCells (ps.drop i) = _
  rw [(key ps i).2]
  rfl
/-- .. in all three rows. -/
theorem LK.ins {S : Value → List Lab → Prop} {w W : World} {B B1 B2 B3 : Nat} {vr vl vh : Value} {ps : List (Int × Value)} {D : List Kp} {x : RefL} {v : Value} (hlen : ps.length = D.length)
    (hlabs : ∀ (j : Nat) (p : Int × Value) (y : Kp), ps[j]? = some p → D[j]? = some y → p.1 = y.1.1 ∧ readsLabels w w.heap.size p.2 y.1.2 ∧ S p.2 y.1.2) (hx : readsLabels w w.heap.size v x.2 ∧ S v x.2)
    (hr : W.ownsRow B 59 2 vr (aheadK D x.1 + (1 + (D.length - aheadK D x.1))) ((refCells ps).take (aheadK D x.1 * 2) ++ ([.int .i64 x.1, v] ++ (refCells ps).drop (aheadK D x.1 * 2))))
    (hl : W.ownsRow B 3 1 vl (aheadK D x.1 + (1 + (D.length - aheadK D x.1))) ((intsV (D.map (·.2.1))).take (aheadK D x.1 * 1) ++ ([.int .i64 0] ++ (intsV (D.map (·.2.1))).drop (aheadK D x.1 * 1))))
    (hh : W.ownsRow B 4 1 vh (aheadK D x.1 + (1 + (D.length - aheadK D x.1))) ((boolsV (D.map (·.2.2))).take (aheadK D x.1 * 1) ++ ([.bool false] ++ (boolsV (D.map (·.2.2))).drop (aheadK D x.1 * 1)))) :
    LK S w B W vr vl vh (ps.take (aheadK D x.1) ++ (x.1, v) :: ps.drop (aheadK D x.1)) (insK (x, 0, false) D) := by
  have ha := aheadK_le D x.1
  have hn : (insK (x, 0, false) D).length = aheadK D x.1 + (1 + (D.length - aheadK D x.1)) := by simp [insK]; omega
  refine ⟨?_, ?_, ?_, by rw [hn]; simp [hlen]; omega, fun j p y hp hy => ?_⟩
  · rw [hn, refCells_mid]; exact hr
  · rw [hn]
    have e : intsV ((insK (x, 0, false) D).map (·.2.1)) = (intsV (D.map (·.2.1))).take (aheadK D x.1 * 1) ++ ([.int .i64 0] ++ (intsV (D.map (·.2.1))).drop (aheadK D x.1 * 1)) := by simp [insK, intsV]
    rw [e]; exact hl
  · rw [hn]
    have e : boolsV ((insK (x, 0, false) D).map (·.2.2)) = (boolsV (D.map (·.2.2))).take (aheadK D x.1 * 1) ++ ([.bool false] ++ (boolsV (D.map (·.2.2))).drop (aheadK D x.1 * 1)) := by simp [insK, boolsV]
    rw [e]; exact hh
  · unfold insK at hy
    simp only at hy
    by_cases h1 : j < aheadK D x.1
    · rw [List.getElem?_append_left (by rw [List.length_take]; omega), List.getElem?_take_of_lt h1] at hp hy
      exact hlabs j p y hp hy
    · rw [List.getElem?_append_right (by rw [List.length_take]; omega)] at hp hy
      rw [List.length_take, Nat.min_eq_left (by omega)] at hp hy
      by_cases h2 : j = aheadK D x.1
      · subst h2
        simp at hp hy
        subst hp hy
        exact ⟨rfl, hx⟩
      · obtain ⟨k, hk⟩ : ∃ k, j - aheadK D x.1 = k + 1 := ⟨j - aheadK D x.1 - 1, by omega⟩
        rw [hk, List.getElem?_cons_succ, List.getElem?_drop] at hp hy
        exact hlabs _ p y hp hy
theorem LK.oneR {S : Value → List Lab → Prop} {w W : World} {B : Nat} {vr vl vh : Value} {ps : List (Int × Value)} {D : List Kp} (h : LK S w B W vr vl vh ps D) : ∀ y ∈ refCells ps, y.oneCell' = true := by
  have hp : ∀ p ∈ ps, p.2.oneCell' = true := fun p hp => by
    obtain ⟨j, hj, rfl⟩ := List.getElem_of_mem hp
    have hjD : j < D.length := by rw [← h.len]; exact hj
    obtain ⟨_, _, e⟩ := readsLabels_len (h.labs j ps[j] D[j] (List.getElem?_eq_getElem hj) (List.getElem?_eq_getElem hjD)).2.1
    rw [e]
    rfl
  have key : ∀ l : List (Int × Value), (∀ p ∈ l, p.2.oneCell' = true) → ∀ y ∈ refCells l, y.oneCell' = true := by
    intro l
    induction l with
    | nil => intro _ y hy; simp [refCells] at hy
    | cons p l ih =>
      intro hq y hy
      rcases List.mem_cons.1 hy with rfl | hy
      · rfl
      rcases List.mem_cons.1 hy with rfl | hy
      · exact hq p (by simp)
      exact ih (fun q h => hq q (List.mem_cons_of_mem _ h)) y hy
  exact key ps hp
/-- The learning, under way: the three rows, and the box that names them. -/
structure LO (S : Value → List Lab → Prop) (w V W : World) (b : Nat) (vr vl vh : Value) (ps : List (Int × Value)) (D : List Kp) : Prop where
  gr : Grow V W
  bV : V.heap.size ≤ b
  at' : W.heap[b]? = some (.cells #[vr, vl, vh] 26 (0, 0))
  k : LK S w V.heap.size W vr vl vh ps D
theorem LO.grow {S : Value → List Lab → Prop} {w V W W' : World} {b : Nat} {vr vl vh : Value} {ps : List (Int × Value)} {D : List Kp} (h : LO S w V W b vr vl vh ps D) (g : Grow W W') : LO S w V W' b vr vl vh ps D :=
  ⟨h.gr.trans g, h.bV, g.get h.at', h.k.grow g⟩
theorem LK.setBox {S : Value → List Lab → Prop} {w W : World} {B b i : Nat} {vr vl vh : Value} {ps : List (Int × Value)} {D : List Kp} {c : Array Value} (h : LK S w B W vr vl vh ps D) (hb : W.heap[b]? = some (.cells c 26 (0, 0))) (u : Value) : LK S w B (W.setCell ⟨b, i, none⟩ u) vr vl vh ps D :=
  ⟨ownsRow_setCell_other (a := ⟨b, i, none⟩) h.r (own_apart h.r hb (by decide)) u, ownsRow_setCell_other (a := ⟨b, i, none⟩) h.l (own_apart h.l hb (by decide)) u, ownsRow_setCell_other (a := ⟨b, i, none⟩) h.h (own_apart h.h hb (by decide)) u, h.len, h.labs⟩
/-- A box is laid out: its three cells are told. -/
theorem LO.start {S : Value → List Lab → Prop} {w V W : World} {b : Nat} {vr vl vh c0 c1 c2 : Value} {ps : List (Int × Value)} {D : List Kp} (g : Grow V W) (hb : V.heap.size ≤ b) (h : LK S w V.heap.size W vr vl vh ps D) (hc : W.heap[b]? = some (.cells #[c0, c1, c2] 26 (0, 0))) :
    LO S w V (((W.setCell ⟨b, 0, none⟩ vr).setCell ⟨b, 1, none⟩ vl).setCell ⟨b, 2, none⟩ vh) b vr vl vh ps D := by
  have h1 := set3 hc 0 vr
  have h2 := set3 h1 1 vl
  exact ⟨Below.setCell (Below.setCell (Below.setCell g hb _) hb _) hb _, hb, set3 h2 2 vh, ((h.setBox hc _).setBox h1 _).setBox h2 _⟩
theorem refAt_know {D : List Kp} (hd : Dist D) (x : RefL) : (∃ a, ∃ ha : a < D.length, D[a].1.1 = x.1 ∧ refAt (knwOf D).refs x.1 = a) ∨ ((∀ y ∈ D, y.1.1 ≠ x.1) ∧ refAt (knwOf D).refs x.1 = -1) := by
  by_cases h : ∃ y ∈ D, y.1.1 = x.1
  · obtain ⟨y, hy, e⟩ := h
    obtain ⟨a, ha, rfl⟩ := List.getElem_of_mem hy
    refine .inl ⟨a, ha, e, refAt_some (by simpa [knwOf] using ha) (by simpa [knwOf] using e) fun j hj hn => ?_⟩
    have hj' : j < D.length := by omega
    simp [knwOf] at hn
    have := hd.numEq hj' ha (hn.trans e.symm)
    omega
  · have hn : ∀ y ∈ D, y.1.1 ≠ x.1 := fun y hy e => h ⟨y, hy, e⟩
    exact .inr ⟨hn, refAt_none fun j hj => by
      have hj' : j < D.length := by simpa [knwOf] using hj
      simp only [knwOf, List.getElem_map]
      exact hn _ (List.getElem_mem hj')⟩
theorem learnOf_none {D F : List Kp} {r : Rcd} {x : RefL} {l : List RefL} (h1 : refsGo D r.refs = refsGo F (x :: l)) (h2 : refStep F x = none) : learnOfR D r = none := by
  unfold learnOfR
  rw [h1]
  show ((refStep F x).bind _).bind _ = none
  rw [h2]
  rfl
theorem refStep_two {F : List Kp} {x : RefL} (h1 : x ∉ F.map (·.1)) (h2 : ∃ y ∈ F, y.1.1 = x.1 ∨ y.1.2 = x.2) : refStep F x = none := by
  have h : knowsR F x = 2 := by unfold knowsR; rw [if_neg h1, if_pos h2]
  unfold refStep
  rw [if_neg (by omega), if_pos h]
theorem not_in_of {F : List Kp} (hd : Dist F) {x : RefL} {a : Nat} (ha : a < F.length) (h1 : F[a].1.1 = x.1) (h2 : F[a].1.2 ≠ x.2) : x ∉ F.map (·.1) := fun h => by
  obtain ⟨y, hy, e⟩ := List.mem_map.1 h
  obtain ⟨k, hk, rfl⟩ := List.getElem_of_mem hy
  have hka : k = a := hd.numEq hk ha (by rw [e, h1])
  subst hka
  exact h2 (by rw [e])
theorem not_in_num {F : List Kp} {x : RefL} (h : ∀ y ∈ F, y.1.1 ≠ x.1) : x ∉ F.map (·.1) := fun hm => by
  obtain ⟨y, hy, e⟩ := List.mem_map.1 hm
  exact h y hy (by rw [e])
/-- A store into a row of the call's own. -/
theorem own_put {w : World} {base e size n g cap i : Nat} {u : Value} {xs : List Value} (h : w.ownsRow base e size (.slice (some ⟨g, 0, none⟩) n cap) n xs) : (w.setCell ⟨g, i, none⟩ u).ownsRow base e size (.slice (some ⟨g, 0, none⟩) n cap) n (xs.set i u) := by
  refine ⟨by rw [List.length_set]; exact h.1, ?_⟩
  rcases h.2 with ⟨hv, _⟩ | ⟨g', cap', cur, hv, h1, h2, h3, h4, h5, h6⟩
  · cases hv
  · cases hv
    refine .inr ⟨g, cap, cur.setIfInBounds i u, rfl, h1, setAt h2 u, h3, h4, by simpa using h5, ?_⟩
    rw [Array.toList_setIfInBounds, List.take_set, h6]
theorem updP_put {F : List Kp} (hd : Dist F) {p : Pnt} {a : Nat} (ha : a < F.length) (e : F[a].1.1 = p.1) (hc : F[a].2.2 = false ∨ F[a].2.1 < p.2.1) : updP F p = F.set a (F[a].1, p.2.1, true) := by
  unfold updP
  refine List.ext_getElem (by simp) fun j h1 h2 => ?_
  have hj : j < F.length := by simpa using h1
  rw [List.getElem_map, List.getElem_set]
  by_cases hja : a = j
  · subst hja
    rw [if_pos rfl, if_pos ⟨e, hc⟩]
  · rw [if_neg hja, if_neg]
    rintro ⟨h, _⟩
    exact hja (hd.numEq ha hj (e.trans h.symm))
theorem updP_no {F : List Kp} (hd : Dist F) {p : Pnt} {a : Nat} (ha : a < F.length) (e : F[a].1.1 = p.1) (hc : ¬ (F[a].2.2 = false ∨ F[a].2.1 < p.2.1)) : updP F p = F := by
  unfold updP
  refine List.ext_getElem (by simp) fun j h1 h2 => ?_
  have hj : j < F.length := by simpa using h1
  rw [List.getElem_map, if_neg]
  rintro ⟨h, hcc⟩
  have hja : a = j := hd.numEq ha hj (e.trans h.symm)
  subst hja
  exact hc hcc
theorem pntStep_at {F : List Kp} {p : Pnt} {a : Nat} (ha : a < F.length) (e : F[a].1.1 = p.1) : pntStep F p = some (updP F p) := by
  unfold pntStep
  rw [if_pos (List.mem_map.2 ⟨F[a], List.getElem_mem ha, e⟩)]
theorem pntStep_no {F : List Kp} {p : Pnt} (h : ∀ y ∈ F, y.1.1 ≠ p.1) : pntStep F p = none := by
  unfold pntStep
  rw [if_neg]
  intro hm
  obtain ⟨y, hy, e⟩ := List.mem_map.1 hm
  exact h y hy e
/-- A point is learnt: both rows are turned, in whatever order. -/
theorem LK.upd {S : Value → List Lab → Prop} {w W : World} {B gl cl gh ch : Nat} {vr : Value} {ps : List (Int × Value)} {F : List Kp} {p : Pnt} {a : Nat} (h : LK S w B W vr (.slice (some ⟨gl, 0, none⟩) F.length cl) (.slice (some ⟨gh, 0, none⟩) F.length ch) ps F) (hd : Dist F) (ha : a < F.length) (e : F[a].1.1 = p.1) (hc : F[a].2.2 = false ∨ F[a].2.1 < p.2.1) :
    LK S w B ((W.setCell ⟨gh, a, none⟩ (.bool true)).setCell ⟨gl, a, none⟩ (.int .i64 p.2.1)) vr (.slice (some ⟨gl, 0, none⟩) F.length cl) (.slice (some ⟨gh, 0, none⟩) F.length ch) ps (updP F p) ∧
    LK S w B ((W.setCell ⟨gl, a, none⟩ (.int .i64 p.2.1)).setCell ⟨gh, a, none⟩ (.bool true)) vr (.slice (some ⟨gl, 0, none⟩) F.length cl) (.slice (some ⟨gh, 0, none⟩) F.length ch) ps (updP F p) := by
  have hu := updP_put hd ha e hc
  have hlen : (updP F p).length = F.length := by rw [hu, List.length_set]
  have hrl : (Value.slice (some ⟨gl, 0, none⟩) F.length cl).ownBlock ≠ (Value.slice (some ⟨gh, 0, none⟩) F.length ch).ownBlock := (own_two h.l h.h (by decide)).resolve_left (by simp [Value.ownBlock])
  have hr1 : vr.ownBlock ≠ some gl := by
    rcases own_two h.r h.l (by decide) with h1 | h1
    · rw [h1]; simp
    · exact h1
  have hr2 : vr.ownBlock ≠ some gh := by
    rcases own_two h.r h.h (by decide) with h1 | h1
    · rw [h1]; simp
    · exact h1
  have el : intsV ((updP F p).map (·.2.1)) = (intsV (F.map (·.2.1))).set a (.int .i64 p.2.1) := by rw [hu]; simp [intsV, List.map_set]
  have eh : boolsV ((updP F p).map (·.2.2)) = (boolsV (F.map (·.2.2))).set a (.bool true) := by rw [hu]; simp [boolsV, List.map_set]
  have hlab : ∀ (j : Nat) (q : Int × Value) (y : Kp), ps[j]? = some q → (updP F p)[j]? = some y → q.1 = y.1.1 ∧ readsLabels w w.heap.size q.2 y.1.2 ∧ S q.2 y.1.2 := fun j q y hq hy => by
    rw [hu, List.getElem?_set] at hy
    split at hy
    · rename_i hja
      subst hja
      have hy2 := Option.some.inj hy
      subst hy2
      exact h.labs a q F[a] hq (List.getElem?_eq_getElem ha)
    · exact h.labs j q y hq hy
  have hlh : some gh ≠ some gl := fun e => hrl (by simpa [Value.ownBlock] using e.symm)
  refine ⟨⟨?_, ?_, ?_, by rw [hlen]; exact h.len, hlab⟩, ⟨?_, ?_, ?_, by rw [hlen]; exact h.len, hlab⟩⟩
  · rw [hlen]; exact ownsRow_setCell_other (ownsRow_setCell_other h.r (a := ⟨gh, a, none⟩) hr2 _) (a := ⟨gl, a, none⟩) hr1 _
  · rw [hlen, el]; exact own_put (ownsRow_setCell_other h.l (a := ⟨gh, a, none⟩) (fun e => hlh (by simpa [Value.ownBlock] using e.symm)) _)
  · rw [hlen, eh]; exact ownsRow_setCell_other (own_put h.h) (a := ⟨gl, a, none⟩) (fun e => hlh (by simpa [Value.ownBlock] using e)) _
  · rw [hlen]; exact ownsRow_setCell_other (ownsRow_setCell_other h.r (a := ⟨gl, a, none⟩) hr1 _) (a := ⟨gh, a, none⟩) hr2 _
  · rw [hlen, el]; exact ownsRow_setCell_other (own_put h.l) (a := ⟨gh, a, none⟩) (fun e => hlh (by simpa [Value.ownBlock] using e.symm)) _
  · rw [hlen, eh]; exact own_put (ownsRow_setCell_other h.h (a := ⟨gl, a, none⟩) (fun e => hlh (by simpa [Value.ownBlock] using e)) _)
theorem own_frozen {w : World} {base e size n g cap i : Nat} {xs : List Value} (h : w.ownsRow base e size (.slice (some ⟨g, 0, none⟩) n cap) n xs) : w.frozen? ⟨g, i, none⟩ = false := by
  rcases h.2 with ⟨hv, _⟩ | ⟨g', cap', cur, hv, h1, h2, _⟩
  · cases hv
  · cases hv
    simp [World.frozen?, h2]
theorem LO.upd {S : Value → List Lab → Prop} {w V W : World} {b gl cl gh ch : Nat} {vr : Value} {ps : List (Int × Value)} {F : List Kp} {p : Pnt} {a : Nat} (h : LO S w V W b vr (.slice (some ⟨gl, 0, none⟩) F.length cl) (.slice (some ⟨gh, 0, none⟩) F.length ch) ps F) (hd : Dist F) (ha : a < F.length) (e : F[a].1.1 = p.1) (hc : F[a].2.2 = false ∨ F[a].2.1 < p.2.1) :
    LO S w V ((W.setCell ⟨gh, a, none⟩ (.bool true)).setCell ⟨gl, a, none⟩ (.int .i64 p.2.1)) b vr (.slice (some ⟨gl, 0, none⟩) (updP F p).length cl) (.slice (some ⟨gh, 0, none⟩) (updP F p).length ch) ps (updP F p) := by
  have hlen : (updP F p).length = F.length := by unfold updP; rw [List.length_map]
  have h1 : gl ≠ b := fun e => own_apart h.k.l h.at' (by decide) (by subst e; rfl)
  have h2 : gh ≠ b := fun e => own_apart h.k.h h.at' (by decide) (by subst e; rfl)
  have hl := (h.k.l.lt gl rfl).1
  have hh := (h.k.h.lt gh rfl).1
  rw [hlen]
  refine ⟨Below.setCell (Below.setCell h.gr hh _) hl _, h.bV, ?_, (h.k.upd hd ha e hc).1⟩
  rw [Below.heap_setCell _ _ _ _ (Ne.symm h1), Below.heap_setCell _ _ _ _ (Ne.symm h2)]
  exact h.at'
theorem updP_len (F : List Kp) (p : Pnt) : (updP F p).length = F.length := by unfold updP; rw [List.length_map]
theorem grow_noneR {w w' : World} (h : w.grownBy w' none) : Grow w w' := ⟨h.os, h.tape, h.output, h.size, fun k hk => h.block k hk (by simp)⟩
/-- Part of a row, put behind a row of the call's own. -/
theorem run_app_part {P : Program} (w : World) (base : Nat) (t ty e : TypeId) (i : TypeInfo) (z : Value) (size bytes : Nat) (ht : P.underlying t = some (.slice e)) (hi : P.info? e = some i) (hz : i.zero = some z)
    (hsize : i.size = size) (hby : i.bytes = bytes) (hzs : z.cells.size = size) (hsz : 0 < size)
    (v : Value) (n : Nat) (xs : List Value) (hown : w.ownsRow base e size v n xs) (so : Option Addr) (m c : Nat) (news : List Value) (hl : news.length = m * size)
    (hnews : ∀ ad, so = some ad → ∀ j u, news[j]? = some u → w.cell? (ad.add j) = some u) (hno : so = none → m = 0 ∧ c = 0) (h1 : ∀ u ∈ news, u.oneCell' = true)
    (h63 : n + m ≤ maxLen) (hbytes : (n + m) * bytes ≤ 140737488355328) (hbase : base ≤ w.heap.size) :
    ∃ v' w', (Builtin.append_ #[t, t] ty #[v, .slice so m c]).run P w = .ok v' w' ∧ w'.ownsRow base e size v' (n + m) (xs ++ news) ∧ w.grownBy w' v.ownBlock := by
  cases so with
  | none =>
    obtain ⟨rfl, rfl⟩ := hno rfl
    have hn0 : news = [] := List.eq_nil_of_length_eq_zero (by rw [hl]; omega)
    subst hn0
    exact ⟨v, w, run_append_owned_none (P := P) (w := w) base t ty e i size ht hi v n xs hown, by simpa using hown, World.grownBy.refl _ _⟩
  | some ad =>
    obtain ⟨v', w', q1, q2, q3, _⟩ := run_append_own_at (P := P) w base t ty e i z size bytes ht hi hz hsize hby hzs hsz v n xs hown ad m c news hl (hnews ad rfl) h1 h63 hbytes hbase
    exact ⟨v', w', q1, q2, q3⟩
/-- A row behind the beginning of another, which has no room of its own: a new one. -/
theorem run_app_full {P : Program} (w : World) (t ty e : TypeId) (i : TypeInfo) (z : Value) (size bytes : Nat) (ht : P.underlying t = some (.slice e)) (hi : P.info? e = some i) (hz : i.zero = some z)
    (hsize : i.size = size) (hby : i.bytes = bytes) (hzs : z.cells.size = size) (hsz : 0 < size)
    (so : Option Addr) (a : Nat) (olds : List Value) (hlo : olds.length = a * size) (holds : ∀ ad, so = some ad → ∀ j u, olds[j]? = some u → w.cell? (ad.add j) = some u) (hno : so = none → a = 0)
    (ad : Addr) (m c : Nat) (news : List Value) (hl : news.length = m * size) (hnews : ∀ j u, news[j]? = some u → w.cell? (ad.add j) = some u) (h1 : ∀ u ∈ news, u.oneCell' = true) (hm : 0 < m)
    (h63 : a + m ≤ maxLen) (hbytes : (a + m) * bytes ≤ 140737488355328) :
    ∃ v' w', (Builtin.append_ #[t, t] ty #[.slice so a a, .slice (some ad) m c]).run P w = .ok v' w' ∧ w'.ownsRow w.heap.size e size v' (a + m) (olds ++ news) ∧ w.grownBy w' none := by
  cases so with
  | none =>
    obtain rfl := hno rfl
    have ho : olds = [] := List.eq_nil_of_length_eq_zero (by rw [hlo]; omega)
    subst ho
    obtain ⟨v', w', q1, q2, q3, _⟩ := run_append_own_at (P := P) w w.heap.size t ty e i z size bytes ht hi hz hsize hby hzs hsz (.slice none 0 0) 0 [] ⟨by simp, .inl ⟨rfl, rfl⟩⟩ ad m c news hl hnews h1 h63 hbytes (Nat.le_refl _)
    exact ⟨v', w', q1, q2, q3⟩
  | some b => exact run_append_arg_grows (P := P) (w := w) t ty e i z size bytes ht hi hz hsize hby hzs hsz b a a olds hlo (holds b rfl) ad m c news hl hnews (by omega) h63 hbytes
/-- One more element in the middle: both appends. -/
theorem ins_row {P : Program} (W : World) (B : Nat) (t ty1 ty2 e : TypeId) (i : TypeInfo) (z : Value) (size bytes : Nat) (ht : P.underlying t = some (.slice e)) (hi : P.info? e = some i) (hz : i.zero = some z)
    (hsize : i.size = size) (hby : i.bytes = bytes) (hzs : z.cells.size = size) (hsz : 0 < size)
    (so : Option Addr) (n cp : Nat) (xs : List Value) (hown : W.ownsRow B e size (.slice so n cp) n xs) (elt : Array Value) (helt : elt.size = size) (h1e : ∀ u ∈ elt.toList, u.oneCell' = true) (h1 : ∀ u ∈ xs, u.oneCell' = true)
    (a : Nat) (ha : a ≤ n) (so1 : Option Addr) (hso1 : (if cp = a then so else so.map fun x => x.add (a * size)) = so1) (h63 : n + 1 ≤ maxLen) (hbytes : (n + 1) * bytes ≤ 140737488355328) :
    ∃ (X w6 w7 : World) (v7 : Value) (g6 c6 : Nat), W.drew.alloc (.cells elt e) = X ∧ Grow W X ∧ Grow W w6 ∧ Grow W w7 ∧
      (Builtin.append_ #[t, t] ty1 #[.slice (some ⟨W.heap.size, 0, none⟩) 1 1, .slice so1 (n - a) (cp - a)]).run P X = .ok (.slice (some ⟨g6, 0, none⟩) (1 + (n - a)) c6) w6 ∧
      (Builtin.append_ #[t, t] ty2 #[.slice so a a, .slice (some ⟨g6, 0, none⟩) (1 + (n - a)) c6]).run P w6 = .ok v7 w7 ∧
      w7.ownsRow W.heap.size e size v7 (a + (1 + (n - a))) (xs.take (a * size) ++ (elt.toList ++ xs.drop (a * size))) := by
  have hG0 : Grow W W.drew := ⟨rfl, rfl, rfl, Nat.le_refl _, fun _ _ => rfl⟩
  obtain ⟨X, eX⟩ : ∃ X, W.drew.alloc (.cells elt e) = X := ⟨_, rfl⟩
  have hGX : Grow W X := hG0.trans (by rw [← eX]; exact (Grow.refl _).alloc _)
  have hbX : X.heap[W.heap.size]? = some (.cells elt e (0, 0)) := by rw [← eX]; exact heap_alloc_new _ _
  have hsX : X.heap.size = W.heap.size + 1 := by rw [← eX]; simp
  have hO : X.ownsRow W.heap.size e size (.slice (some ⟨W.heap.size, 0, none⟩) 1 1) 1 elt.toList :=
    ⟨by rw [Array.length_toList, helt]; omega, .inr ⟨W.heap.size, 1, elt, rfl, Nat.le_refl _, hbX, Nat.le_refl _, by unfold maxLen; omega, by rw [helt]; omega, by rw [List.take_of_length_le (by rw [Array.length_toList, helt]; omega)]⟩⟩
  have hxl := hown.1
  have hshape : (so = none ∧ n = 0 ∧ cp = 0) ∨ ∃ g, so = some ⟨g, 0, none⟩ ∧ n ≤ cp := by
    rcases hown.2 with ⟨hv, h0⟩ | ⟨g, cap, cur, hv, _, _, hnc, _⟩
    · obtain ⟨h1, h2, h3⟩ : so = none ∧ n = 0 ∧ cp = 0 := by simpa using hv
      exact .inl ⟨h1, h2, h3⟩
    · obtain ⟨h1, h2⟩ : so = some ⟨g, 0, none⟩ ∧ cp = cap := by simpa using hv
      exact .inr ⟨g, h1, by omega⟩
  have hcells : ∀ V, Grow W V → ∀ ad, so = some ad → ∀ j u, xs[j]? = some u → V.cell? (ad.add j) = some u := fun V hV ad hs j u hj => by
    rcases hshape with ⟨h1, _⟩ | ⟨g, h1, _⟩
    · rw [h1] at hs; cases hs
    · rw [h1] at hs
      cases hs
      exact World.ownsRow.cells (own_grow hown hV) (g := g) (by rw [h1]; rfl) j u hj
  have hpart : ∀ ad, so1 = some ad → ∀ j u, (xs.drop (a * size))[j]? = some u → X.cell? (ad.add j) = some u := fun ad hs j u hj => by
    rcases hshape with ⟨h1, h2, h3⟩ | ⟨g, h1, h2⟩
    · rw [h1] at hso1
      simp at hso1
      rw [← hso1] at hs; cases hs
    · by_cases hc : cp = a
      · rw [List.drop_eq_nil_of_le (by rw [hxl]; exact Nat.mul_le_mul_right _ (by omega))] at hj
        simp at hj
      · rw [if_neg hc, h1] at hso1
        rw [← hso1] at hs
        cases hs
        rw [List.getElem?_drop] at hj
        have := hcells X hGX _ h1 _ _ hj
        rw [Addr.add_lit] at this
        show X.cell? (((⟨g, 0, none⟩ : Addr).add (a * size)).add j) = some u
        rw [Addr.add_lit, Addr.add_lit, Nat.add_assoc]
        exact this
  have hno1 : so1 = none → n - a = 0 ∧ cp - a = 0 := fun hs => by
    rcases hshape with ⟨h1, h2, h3⟩ | ⟨g, h1, h2⟩
    · omega
    · rw [h1] at hso1
      rw [hs] at hso1
      split at hso1 <;> cases hso1
  have hdl : (xs.drop (a * size)).length = (n - a) * size := by rw [List.length_drop, hxl, Nat.sub_mul]
  have hb2 : (1 + (n - a)) * bytes ≤ 140737488355328 := Nat.le_trans (Nat.mul_le_mul_right _ (by omega)) hbytes
  have hb3 : (a + (1 + (n - a))) * bytes ≤ 140737488355328 := Nat.le_trans (Nat.mul_le_mul_right _ (by omega)) hbytes
  obtain ⟨v6, w6, r6, o6, q6⟩ := run_app_part (P := P) X W.heap.size t ty1 e i z size bytes ht hi hz hsize hby hzs hsz _ 1 _ hO so1 (n - a) (cp - a) _ hdl hpart hno1 (fun u hu => h1 u (List.mem_of_mem_drop hu)) (by omega) hb2 hGX.size
  obtain ⟨g6, c6, rfl⟩ : ∃ g c, v6 = .slice (some ⟨g, 0, none⟩) (1 + (n - a)) c := by
    rcases o6.2 with ⟨_, h0⟩ | ⟨g, cap, cur, r1, _⟩
    · omega
    · exact ⟨_, _, r1⟩
  have hB6 : Below W.heap.size X w6 := (Below.refl W.heap.size X).grown q6 hGX.size (fun k hk => (hO.lt k hk).1)
  have hG6 : Grow W w6 := Below.trans hGX hB6
  obtain ⟨v7, w7, r7, o7, q7⟩ := run_app_full (P := P) w6 t ty2 e i z size bytes ht hi hz hsize hby hzs hsz so a (xs.take (a * size)) (by rw [List.length_take, hxl]; exact Nat.min_eq_left (Nat.mul_le_mul_right _ ha))
    (fun ad hs j u hj => by
      have hj2 : xs[j]? = some u := by
        rw [List.getElem?_take] at hj
        split at hj
        · exact hj
        · cases hj
      exact hcells w6 hG6 ad hs j u hj2)
    (fun hs => by
      rcases hshape with ⟨_, h2, _⟩ | ⟨g, h1, _⟩
      · omega
      · rw [h1] at hs; cases hs)
    ⟨g6, 0, none⟩ (1 + (n - a)) c6 (elt.toList ++ xs.drop (a * size)) o6.1 (World.ownsRow.cells o6 (g := g6) rfl) (fun u hu => by
      rcases List.mem_append.1 hu with hu | hu
      · exact h1e u hu
      · exact h1 u (List.mem_of_mem_drop hu)) (by omega) (by omega) hb3
  exact ⟨X, w6, w7, v7, g6, c6, eX, hGX, hG6, hG6.trans (grow_noneR q7), r6, r7, own_le o7 hG6.size⟩
/-- How far it is: nothing is laid, the new element is, it and what follows, all. -/
def insJ (W X wa wb : World) (b1 b2 b3 : Bool) (w' : World) : Prop := w' = if b3 then wb else if b2 then wa else if b1 then X else W
theorem insJ_grow {V W X wa wb : World} (h0 : Grow V W) (h1 : Grow V X) (h2 : Grow V wa) (h3 : Grow V wb) (b1 b2 b3 : Bool) (w' : World) (h : insJ W X wa wb b1 b2 b3 w') : Grow V w' := by
  unfold insJ at h
  subst h
  split
  · exact h3
  · split
    · exact h2
    · split
      · exact h1
      · exact h0
theorem insJ_one {W X wa wb Y : World} {b2 b3 : Bool} (h2 : b2 = false) (h3 : b3 = false) (h : Y = X) : insJ W X wa wb true b2 b3 Y := by subst h2 h3 h; rfl
theorem insJ_two {W X wa wb : World} {b1 b3 : Bool} (h3 : b3 = false) : insJ W X wa wb b1 true b3 wa := by subst h3; rfl
theorem insJ_three {W X wa wb : World} {b1 b2 : Bool} : insJ W X wa wb b1 b2 true wb := rfl
theorem row_room {w : World} {B e s n cp : Nat} {so : Option Addr} {xs : List Value} (h : w.ownsRow B e s (.slice so n cp) n xs) : n ≤ cp := by
  rcases h.2 with ⟨hv, h0⟩ | ⟨g, cap, cur, hv, _, _, hnc, _⟩
  · omega
  · obtain ⟨_, h2⟩ : so = some ⟨g, 0, none⟩ ∧ cp = cap := by simpa using hv
    omega
theorem ins_facts {F : List Kp} {x : RefL} (hF : Dist F ∧ rightM F ∧ riseK F ∧ F.length ≤ 1000) (hk : knowsR F x = 0) (hx : refErr x = 0) (hl : F.length ≠ 1000) :
    Dist (insK (x, 0, false) F) ∧ rightM (insK (x, 0, false) F) ∧ riseK (insK (x, 0, false) F) ∧ (insK (x, 0, false) F).length ≤ 1000 := by
  have hp := insK_perm (x, 0, false) F
  have hd : Dist (F ++ [(x, 0, false)]) := hF.1.snoc hk
  refine ⟨⟨((hp.map _).nodup_iff).2 hd.num, ((hp.map _).nodup_iff).2 hd.lab⟩, fun y hy => (hF.2.1.snoc (x := (x, 0, false)) hx) y (hp.mem_iff.1 hy), insK_rise hF.2.2.1, ?_⟩
  rw [hp.length_eq, List.length_append, List.length_singleton]
  have := hF.2.2.2
  omega
theorem ins_go {F : List Kp} {x : RefL} {l : List RefL} (hk : knowsR F x = 0) (hl : F.length ≠ 1000) : refsGo F (x :: l) = refsGo (insK (x, 0, false) F) l := by
  show (refStep F x).bind _ = _
  unfold refStep
  rw [if_neg (by omega), if_neg (by omega), if_neg hl]
  rfl
end Go.Proofs.YtkaeogldielkfaaGreat.Rc
