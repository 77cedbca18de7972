/- 3 texts in one. -/
import Derived.Laws.OwnMore
import Derived.Test.YtkaeogldielkfaaGreatProg
import Derived.Test.YtkaeogldielkfaaGreatK5674b3b
import Derived.Test.YtkaeogldielkfaaGreatK7aebb14
import Derived.Test.YtkaeogldielkfaaGreatKe92268d
import Derived.Test.YtkaeogldielkfaaGreatKb13b050
import Derived.Test.YtkaeogldielkfaaGreatK9055bc8
import Derived.Test.YtkaeogldielkfaaGreatKf68bbdb
import Derived.Test.YtkaeogldielkfaaGreatKaaaa94b
import Derived.Test.YtkaeogldielkfaaGreatK10927a6
import Derived.Test.YtkaeogldielkfaaGreatK6cc5fd4
import Derived.BigQuiet
set_option linter.unusedVariables false
set_option linter.unusedSimpArgs false
namespace Go.Proofs.YtkaeogldielkfaaGreat.Rc
open Go.RowKit Lb
attribute [local go_sem] bs_size bs_toList bs_append bs_get bs_extract
/-- What a text tells, with what is left: of refs, of points, of neither. -/
def bodyO (c : UInt8) (s : List UInt8) : Option (Rcd × List UInt8) :=
  if c.toNat = 1 then mapO (fun l => ⟨1, l, []⟩) (eachO stepR 200 (fun st => st.2) (fun st r => (st.1, r)) ([], s))
  else if c.toNat = 2 then mapO (fun l => ⟨2, [], l⟩) (eachO stepP 200 (fun st => st.2) (fun st r => (st.1, r)) ([], s))
  else some (⟨(c.toNat : Int), [], []⟩, s)
/-- The record that a text is. -/
def unpO : List UInt8 → Option Rcd
  | [] => none
  | c :: s => match bodyO c s with
    | none => none
    | some x => if x.2 = [] ∧ recErr x.1 = 0 then some x.1 else none
theorem unpO_none {c : UInt8} {s : List UInt8} (h : bodyO c s = none) : unpO (c :: s) = none := by simp only [unpO, h]
theorem unpO_left {c : UInt8} {s q : List UInt8} {r : Rcd} (h : bodyO c s = some (r, q)) (hq : q ≠ []) : unpO (c :: s) = none := by simp only [unpO, h]; rw [if_neg (fun k => hq k.1)]
theorem unpO_wrong {c : UInt8} {s q : List UInt8} {r : Rcd} (h : bodyO c s = some (r, q)) (hr : recErr r ≠ 0) : unpO (c :: s) = none := by simp only [unpO, h]; rw [if_neg (fun k => hr k.2)]
theorem unpO_ok {c : UInt8} {s : List UInt8} {r : Rcd} (h : bodyO c s = some (r, [])) (hr : recErr r = 0) : unpO (c :: s) = some r := by simp only [unpO, h]; rw [if_pos ⟨trivial, hr⟩]
/-! ### sizes of what is read -/
theorem runN_inv {σ : Type} {step : σ → Option σ} {P : σ → Prop} (hs : ∀ a b, P a → step a = some b → P b) : ∀ (n : Nat) (a b : σ), P a → runN step n a = some b → P b
  | 0, a, b, h, e => by cases e; exact h
  | n + 1, a, b, h, e => by
    cases hc : step a with
    | none => rw [runN_none hc] at e; cases e
    | some c => rw [runN_some hc] at e; exact runN_inv hs n c b (hs _ _ h hc) e
theorem eachO_inv {α : Type} {step : List α × List UInt8 → Option (List α × List UInt8)} {P : List α × List UInt8 → Prop} {M : Nat} (hP : ∀ r, r.length ≤ M → P ([], r)) (hs : ∀ a b, P a → step a = some b → P b) {most : Nat} {s : List UInt8} {st' : List α × List UInt8} (hl : s.length ≤ M)
    (h : eachO step most (fun st => st.2) (fun st r => (st.1, r)) ([], s) = some st') : P st' := by
  unfold eachO at h
  simp only at h
  cases hc : cutN s with
  | none => rw [hc] at h; cases h
  | some x =>
    rw [hc] at h
    simp only at h
    by_cases hm : x.1 ≤ most
    · rw [if_pos hm] at h
      exact runN_inv hs _ _ _ (hP _ (by have := (cutN_lt (s := s) (n := x.1) (r := x.2) hc).2; omega)) h
    · rw [if_neg hm] at h; cases h
/-- Elements of some kind, of a text no longer than M. -/
def allP {α : Type} (M : Nat) (p : α → Prop) (st : List α × List UInt8) : Prop := st.2.length ≤ M ∧ ∀ x ∈ st.1, p x
theorem allP_step {α : Type} {M : Nat} {p : α → Prop} {cut : List UInt8 → Option (α × List UInt8)} (hc : ∀ s x r, s.length ≤ M → cut s = some (x, r) → p x ∧ r.length ≤ s.length) (a b : List α × List UInt8) (h : allP M p a) (e : mapO (fun x => a.1 ++ [x]) (cut a.2) = some b) : allP M p b := by
  obtain ⟨b1, b2⟩ := b
  obtain ⟨x, hx, rfl⟩ := mapO_some e
  obtain ⟨h1, h2⟩ := hc _ _ _ h.1 hx
  refine ⟨Nat.le_trans h2 h.1, fun y hy => ?_⟩
  rcases List.mem_append.1 hy with hy | hy
  · exact h.2 y hy
  · rw [List.mem_singleton] at hy; subst hy; exact h1
theorem numI_int {n : Nat} (h : n < 18446744073709551616) : -9223372036854775808 ≤ numI n ∧ numI n ≤ 9223372036854775807 := by unfold numI; split <;> omega
theorem timeI_int {n : Nat} (h : n < 18446744073709551616) : -9223372036854775808 ≤ timeI n ∧ timeI n ≤ 9223372036854775807 := by unfold timeI; split <;> omega
theorem cutL_all {M : Nat} (s : List UInt8) (x : Lab) (r : List UInt8) (hl : s.length ≤ M) (h : cutL s = some (x, r)) : (x.1.length ≤ M ∧ x.2.length ≤ M) ∧ r.length ≤ s.length := by
  have := cutL_lt h
  exact ⟨⟨by omega, by omega⟩, by omega⟩
theorem runN_count {α : Type} {step : List α × List UInt8 → Option (List α × List UInt8)} (hs : ∀ a b, step a = some b → b.1.length ≤ a.1.length + 1) : ∀ (n : Nat) (a b : List α × List UInt8), runN step n a = some b → b.1.length ≤ a.1.length + n
  | 0, a, b, e => by cases e; exact Nat.le_refl _
  | n + 1, a, b, e => by
    cases hc : step a with
    | none => rw [runN_none hc] at e; cases e
    | some c =>
      rw [runN_some hc] at e
      have h1 := runN_count hs n c b e
      have h2 := hs _ _ hc
      omega
theorem eachO_count {α : Type} {step : List α × List UInt8 → Option (List α × List UInt8)} (hs : ∀ a b, step a = some b → b.1.length ≤ a.1.length + 1) {most : Nat} {s : List UInt8} {st' : List α × List UInt8} (h : eachO step most (fun st => st.2) (fun st r => (st.1, r)) ([], s) = some st') : st'.1.length ≤ most := by
  unfold eachO at h
  simp only at h
  cases hc : cutN s with
  | none => rw [hc] at h; cases h
  | some x =>
    rw [hc] at h
    simp only at h
    by_cases hm : x.1 ≤ most
    · rw [if_pos hm] at h
      have := runN_count hs _ _ _ h
      simp only [List.length_nil] at this
      omega
    · rw [if_neg hm] at h; cases h
theorem step_count {α : Type} {cut : List UInt8 → Option (α × List UInt8)} (a b : List α × List UInt8) (e : mapO (fun x => a.1 ++ [x]) (cut a.2) = some b) : b.1.length ≤ a.1.length + 1 := by
  obtain ⟨b1, b2⟩ := b
  obtain ⟨x, hx, rfl⟩ := mapO_some e
  simp
theorem cutR_all {M : Nat} (hM : M ≤ 140737488355328) (s : List UInt8) (x : RefL) (r : List UInt8) (hl : s.length ≤ M) (h : cutR s = some (x, r)) : okRef x ∧ r.length ≤ s.length := by
  refine ⟨?_, cutR_len h⟩
  unfold cutR at h
  obtain ⟨n, s1, h1, h⟩ := bindO_some h
  obtain ⟨n1, e1, rfl⟩ := mapO_some h1
  obtain ⟨ls, e2, rfl⟩ := mapO_some h
  have hn := (cutN_lt e1).1
  have hs1 := cutN_len e1
  unfold cutLs at e2
  have hc := eachO_count (fun a b => step_count (cut := cutL) a b) e2
  have ha := eachO_inv (P := allP M (fun y : Lab => y.1.length ≤ M ∧ y.2.length ≤ M)) (M := M) (fun r hr => ⟨hr, fun x hx => by simp at hx⟩) (fun a b => allP_step (fun s x r hl h => cutL_all s x r hl h) a b) (by omega) e2
  have hc' : ls.length ≤ 20 := hc
  exact ⟨(numI_int hn).1, (numI_int hn).2, by show ls.length ≤ _; omega, fun y hy => by have := ha.2 y hy; exact ⟨by omega, by omega⟩⟩
theorem cutP_all (s : List UInt8) (x : Pnt) (r : List UInt8) (h : cutP s = some (x, r)) : okPnt x ∧ r.length ≤ s.length := by
  refine ⟨?_, cutP_len h⟩
  unfold cutP at h
  obtain ⟨a, s1, h1, h⟩ := bindO_some h
  obtain ⟨t, s2, h2, h⟩ := bindO_some h
  obtain ⟨n1, e1, rfl⟩ := mapO_some h1
  obtain ⟨n2, e2, rfl⟩ := mapO_some h2
  obtain ⟨n3, e3, rfl⟩ := mapO_some h
  have b3 : n3 < 18446744073709551616 := by
    unfold cut8 at e3
    by_cases h8 : 8 ≤ s2.length
    · rw [if_pos h8] at e3
      cases e3
      have := wordI_lt (s2.take 8)
      rw [List.length_take, Nat.min_eq_left h8] at this
      exact this
    · rw [if_neg h8] at e3; cases e3
  exact ⟨(numI_int (cutN_lt e1).1).1, (numI_int (cutN_lt e1).1).2, (timeI_int (cutN_lt e2).1).1, (timeI_int (cutN_lt e2).1).2, b3⟩
/-- Sizes that any machine has, and no more than a record's. -/
def okRecS (r : Rcd) : Prop := (-9223372036854775808 ≤ r.kind ∧ r.kind ≤ 9223372036854775807) ∧ r.refs.length ≤ 200 ∧ r.points.length ≤ 200 ∧ (∀ x ∈ r.refs, okRef x) ∧ ∀ x ∈ r.points, okPnt x
theorem bodyO_ok {c : UInt8} {s q : List UInt8} {r : Rcd} (hl : s.length ≤ 140737488355328) (h : bodyO c s = some (r, q)) : okRecS r := by
  unfold bodyO at h
  have hc := c.toNat_lt
  by_cases h1 : c.toNat = 1
  · rw [if_pos h1] at h
    obtain ⟨l, e, rfl⟩ := mapO_some h
    have hn := eachO_count (fun a b => step_count (cut := cutR) a b) e
    have ha := eachO_inv (P := allP 140737488355328 okRef) (M := 140737488355328) (fun r hr => ⟨hr, fun x hx => by simp at hx⟩) (fun a b => allP_step (fun s x r hl h => cutR_all (Nat.le_refl _) s x r hl h) a b) hl e
    exact ⟨⟨by show (-9223372036854775808 : Int) ≤ 1; omega, by show (1 : Int) ≤ _; omega⟩, hn, by simp, ha.2, by simp⟩
  · rw [if_neg h1] at h
    by_cases h2 : c.toNat = 2
    · rw [if_pos h2] at h
      obtain ⟨l, e, rfl⟩ := mapO_some h
      have hn := eachO_count (fun a b => step_count (cut := cutP) a b) e
      have ha := eachO_inv (P := allP 140737488355328 okPnt) (M := 140737488355328) (fun r hr => ⟨hr, fun x hx => by simp at hx⟩) (fun a b => allP_step (fun s x r hl h => cutP_all s x r h) a b) hl e
      exact ⟨⟨by show (-9223372036854775808 : Int) ≤ 2; omega, by show (2 : Int) ≤ _; omega⟩, by simp, hn, by simp, ha.2⟩
    · rw [if_neg h2] at h
      cases h
      exact ⟨⟨by show (-9223372036854775808 : Int) ≤ (c.toNat : Int); omega, by show (c.toNat : Int) ≤ _; omega⟩, by simp, by simp, by simp, by simp⟩
/-! ### what a call owns can be read -/
theorem reads_ownRefs {w : World} {Z : Nat} {v : Value} {rs : List RefL} (h : ownRefs w Z v rs) : readsRefs w w.heap.size v rs := by
  obtain ⟨ps, hl, h, hall⟩ := h
  obtain ⟨ao, cp, e⟩ := own_shape h
  refine ⟨ao, cp, e, fun i hi => ?_⟩
  rcases h.2 with ⟨rfl, h0⟩ | ⟨g, cap, cur, rfl, h1, h2, h3⟩
  · omega
  · simp at e
    have hc := World.ownsRow.cells h (g := g) rfl
    have ha := refCells_at ps i (by omega)
    obtain ⟨k1, k2⟩ := hall i ps[i] rs[i] (List.getElem?_eq_getElem (by omega)) (List.getElem?_eq_getElem hi)
    refine ⟨g, 0, ps[i].2, e.1.symm, lt_of_block h2, reads_ownLabels k2, ?_, ?_⟩
    · have := hc _ _ ha.1
      rw [Addr.add_lit] at this
      rw [← k1]
      simpa using this
    · have := hc _ _ ha.2
      rw [Addr.add_lit] at this
      simpa using this
theorem reads_ownPoints {w : World} {Z : Nat} {v : Value} {ps : List Pnt} (h : ownPoints w Z v ps) : readsPoints w w.heap.size v ps := by
  obtain ⟨ao, cp, e⟩ := own_shape h
  refine ⟨ao, cp, e, fun i hi => ?_⟩
  rcases h.2 with ⟨rfl, h0⟩ | ⟨g, cap, cur, rfl, h1, h2, h3⟩
  · omega
  · simp at e
    have hc := World.ownsRow.cells h (g := g) rfl
    have ha := pntCells_at ps i hi
    refine ⟨g, 0, e.1.symm, lt_of_block h2, ?_, ?_, ?_⟩
    · have := hc _ _ ha.1
      rw [Addr.add_lit] at this
      simpa using this
    · have := hc _ _ ha.2.1
      rw [Addr.add_lit] at this
      simpa using this
    · have := hc _ _ ha.2.2
      rw [Addr.add_lit] at this
      simpa using this
/-- What 'unpacked' answers: a record whose rows the call owns. -/
def unpAns (Z : Nat) (o : Option Rcd) (w : World) (e : Ending) (w' : World) : Prop :=
  Grow w w' ∧ match o with
    | some r => ∃ vr vp, e = .returned (.agg #[.int .i64 r.kind, vr, vp]) ∧ ownRefs w' Z vr r.refs ∧ ownPoints w' Z vp r.points
    | none => ∃ E : Nat, E ≠ 0 ∧ e = gaveUp E
theorem infoRec : (Tryz.prog.info? 29).map (·.size) = some 3 := by kernel_rfl
end Go.Proofs.YtkaeogldielkfaaGreat.Rc
namespace Go.Proofs.YtkaeogldielkfaaGreat.Rc
open Go.RowKit Lb
theorem cutN_enc {n : Nat} (h : n < 18446744073709551616) (s : List UInt8) : cutN (numB n ++ s) = some (n, s) := by
  unfold cutN
  rw [numB_read n h s]
  simp only
  rw [List.take_left, if_pos ⟨trivial, rfl⟩, List.drop_left]
theorem cutN_dec {s r : List UInt8} {n : Nat} (h : cutN s = some (n, r)) : s = numB n ++ r := by
  unfold cutN at h
  by_cases hc : (readNum s).2.2 = 0 ∧ s.take (readNum s).2.1 = numB (readNum s).1
  · rw [if_pos hc] at h
    cases h
    rw [← hc.2, List.take_append_drop]
  · rw [if_neg hc] at h; cases h
theorem cutT_enc {t : List UInt8} (h : t.length < 18446744073709551616) (s : List UInt8) : cutT (textB t ++ s) = some (t, s) := by
  unfold cutT textB
  rw [List.append_assoc, cutN_enc h]
  simp only
  rw [if_pos (by rw [List.length_append]; omega), List.take_left, List.drop_left]
theorem cutT_dec {s t r : List UInt8} (h : cutT s = some (t, r)) : s = textB t ++ r := by
  unfold cutT at h
  cases hc : cutN s with
  | none => rw [hc] at h; cases h
  | some x =>
    obtain ⟨n, q⟩ := x
    rw [hc] at h
    simp only at h
    by_cases hl : n ≤ q.length
    · rw [if_pos hl] at h
      cases h
      rw [cutN_dec hc]
      unfold textB
      rw [List.length_take, Nat.min_eq_left hl, List.append_assoc, List.take_append_drop]
    · rw [if_neg hl] at h; cases h
theorem mapO_some' {α β : Type} {f : α → β} {o : Option (α × List UInt8)} {x : α} {r : List UInt8} (h : o = some (x, r)) : mapO f o = some (f x, r) := by rw [h]; rfl
theorem bindO_some' {α β : Type} {o : Option (α × List UInt8)} {f : α → List UInt8 → Option (β × List UInt8)} {x : α} {r : List UInt8} (h : o = some (x, r)) : bindO o f = f x r := by rw [h]; rfl
theorem cutL_enc {y : Lab} (h1 : y.1.length < 18446744073709551616) (h2 : y.2.length < 18446744073709551616) (s : List UInt8) : cutL (labB y ++ s) = some (y, s) := by
  unfold cutL labB
  rw [List.append_assoc, bindO_some' (cutT_enc h1 _), mapO_some' (cutT_enc h2 _)]
theorem cutL_dec {s r : List UInt8} {y : Lab} (h : cutL s = some (y, r)) : s = labB y ++ r := by
  unfold cutL at h
  obtain ⟨n, s1, h1, h⟩ := bindO_some h
  obtain ⟨v, hv, rfl⟩ := mapO_some h
  rw [cutT_dec h1, cutT_dec hv]
  unfold labB
  rw [List.append_assoc]
/-! ### many -/
theorem runN_enc {α : Type} {cut : List UInt8 → Option (α × List UInt8)} {enc : α → List UInt8} {ok : α → Prop} (h : ∀ x s, ok x → cut (enc x ++ s) = some (x, s)) : ∀ (l acc : List α) (s : List UInt8), (∀ x ∈ l, ok x) →
    runN (fun st : List α × List UInt8 => mapO (fun x => st.1 ++ [x]) (cut st.2)) l.length (acc, (l.map enc).flatten ++ s) = some (acc ++ l, s)
  | [], acc, s, _ => by simp [runN]
  | x :: l, acc, s, hok => by
    have h1 := h x ((l.map enc).flatten ++ s) (hok x (by simp))
    rw [List.length_cons, runN_some (st' := (acc ++ [x], (l.map enc).flatten ++ s)) (by
      show mapO (fun y => acc ++ [y]) (cut (((x :: l).map enc).flatten ++ s)) = _
      rw [List.map_cons, List.flatten_cons, List.append_assoc, mapO_some' h1]), runN_enc h l _ s fun y hy => hok y (List.mem_cons_of_mem _ hy)]
    simp
theorem runN_dec {α : Type} {cut : List UInt8 → Option (α × List UInt8)} {enc : α → List UInt8} {ok : α → Prop} (h : ∀ s x r, cut s = some (x, r) → ok x → s = enc x ++ r) : ∀ (n : Nat) (acc : List α) (s : List UInt8) (l' : List α) (r : List UInt8),
    runN (fun st : List α × List UInt8 => mapO (fun x => st.1 ++ [x]) (cut st.2)) n (acc, s) = some (l', r) → (∀ x ∈ l', ok x) → ∃ l, l' = acc ++ l ∧ l.length = n ∧ s = (l.map enc).flatten ++ r
  | 0, acc, s, l', r, e, _ => by cases e; exact ⟨[], by simp, rfl, by simp⟩
  | n + 1, acc, s, l', r, e, hok => by
    cases hc : mapO (fun x => acc ++ [x]) (cut s) with
    | none => rw [runN_none hc] at e; cases e
    | some c =>
      obtain ⟨c1, c2⟩ := c
      obtain ⟨x, hx, rfl⟩ := mapO_some hc
      rw [runN_some hc] at e
      obtain ⟨l, h1, h2, h3⟩ := runN_dec h n _ _ _ _ e hok
      subst h1
      refine ⟨x :: l, by simp, by simp [h2], ?_⟩
      rw [h s x c2 hx (hok x (by simp)), h3]
      simp
theorem eachO_enc {α : Type} {cut : List UInt8 → Option (α × List UInt8)} {enc : α → List UInt8} {ok : α → Prop} (h : ∀ x s, ok x → cut (enc x ++ s) = some (x, s)) {most : Nat} (hm : most ≤ 1000) {l : List α} (hl : l.length ≤ most) (hok : ∀ x ∈ l, ok x) (s : List UInt8) :
    eachO (fun st : List α × List UInt8 => mapO (fun x => st.1 ++ [x]) (cut st.2)) most (fun st => st.2) (fun st r => (st.1, r)) ([], (numB l.length ++ (l.map enc).flatten) ++ s) = some (l, s) := by
  unfold eachO
  simp only
  rw [List.append_assoc, cutN_enc (by omega)]
  simp only
  rw [if_pos hl]
  have := runN_enc h l [] s hok
  simpa using this
theorem eachO_dec {α : Type} {cut : List UInt8 → Option (α × List UInt8)} {enc : α → List UInt8} {ok : α → Prop} (h : ∀ s x r, cut s = some (x, r) → ok x → s = enc x ++ r) {most : Nat} {s r : List UInt8} {l : List α}
    (e : eachO (fun st : List α × List UInt8 => mapO (fun x => st.1 ++ [x]) (cut st.2)) most (fun st => st.2) (fun st r => (st.1, r)) ([], s) = some (l, r)) (hok : ∀ x ∈ l, ok x) : s = (numB l.length ++ (l.map enc).flatten) ++ r := by
  unfold eachO at e
  simp only at e
  cases hc : cutN s with
  | none => rw [hc] at e; cases e
  | some x =>
    rw [hc] at e
    simp only at e
    by_cases hm : x.1 ≤ most
    · rw [if_pos hm] at e
      obtain ⟨l', h1, h2, h3⟩ := runN_dec h _ _ _ _ _ e hok
      simp only [List.nil_append] at h1
      subst h1
      rw [cutN_dec (s := s) (n := x.1) (r := x.2) hc, h3, h2, List.append_assoc]
    · rw [if_neg hm] at e; cases e
/-! ### refs, points -/
theorem numI_nat {n : Nat} (h : n < 9223372036854775808) : numI n = (n : Int) := if_pos h
theorem numI_pos {n : Nat} (h : 0 ≤ numI n) (h1 : n < 18446744073709551616) : (numI n).toNat = n := by
  unfold numI at h ⊢
  split at h
  · rename_i hlt; rw [if_pos hlt]; omega
  · omega
theorem cutR_enc {x : RefL} (h : refErr x = 0) (s : List UInt8) : cutR (refB x ++ s) = some (x, s) := by
  obtain ⟨⟨h1, h2⟩, h3, hc⟩ := refErr_zero h
  obtain ⟨h20, hs⟩ := check_small hc
  unfold cutR refB
  have e1 : mapO numI (cutN (numB x.1.toNat ++ ((numB x.2.length ++ labsB x.2) ++ s))) = some (x.1, (numB x.2.length ++ labsB x.2) ++ s) := by
    rw [mapO_some' (cutN_enc (by omega) _), numI_nat (by omega)]
    congr 2
    omega
  rw [List.append_assoc, bindO_some' e1]
  have e2 : cutLs ((numB x.2.length ++ labsB x.2) ++ s) = some (x.2, s) := eachO_enc (cut := cutL) (enc := labB) (ok := fun y => y.1.length < 18446744073709551616 ∧ y.2.length < 18446744073709551616) (fun y s h => cutL_enc h.1 h.2 s) (by omega) h20 (fun y hy => by have := hs y hy; exact ⟨by omega, by omega⟩) s
  rw [mapO_some' e2]
theorem cutR_dec {s r : List UInt8} {x : RefL} (h : cutR s = some (x, r)) (h0 : refErr x = 0) : s = refB x ++ r := by
  obtain ⟨⟨h1, h2⟩, h3, hc⟩ := refErr_zero h0
  unfold cutR at h
  obtain ⟨n, s1, e1, h⟩ := bindO_some h
  obtain ⟨ls, e2, rfl⟩ := mapO_some h
  obtain ⟨n1, e3, rfl⟩ := mapO_some e1
  simp only at h1 h2
  have hd : s1 = (numB ls.length ++ labsB ls) ++ r := eachO_dec (cut := cutL) (enc := labB) (ok := fun _ => True) (fun s x r h _ => cutL_dec h) e2 (fun _ _ => trivial)
  rw [cutN_dec e3, hd]
  unfold refB
  simp only
  rw [numI_pos (by omega) (cutN_lt e3).1]
  simp
theorem timeI_timeN {t : Int} : timeI (timeN t) = t := by
  unfold timeI timeN
  by_cases h : t < 0
  · rw [if_pos h, if_pos (by omega)]; omega
  · rw [if_neg h, if_neg (by omega)]; omega
theorem timeN_timeI (n : Nat) : timeN (timeI n) = n := by
  unfold timeI
  by_cases h : n % 2 = 1
  · rw [if_pos h]; unfold timeN; rw [if_pos (by omega)]; omega
  · rw [if_neg h]; unfold timeN; rw [if_neg (by omega)]; omega
theorem byteAt_div (n j : Nat) : byteAt n (j + 1) = byteAt (n / 256) j := by
  unfold byteAt
  rw [Nat.pow_succ, Nat.mul_comm, ← Nat.div_div_eq_div_mul]
theorem wordR_cons (n k : Nat) : wordR n (k + 1) = UInt8.ofNat (n % 256) :: wordR (n / 256) k := by
  unfold wordR
  rw [List.range_succ_eq_map, List.map_cons, List.map_map]
  congr 1
  · unfold byteAt; simp
  · apply List.map_congr_left
    intro j _
    exact byteAt_div n j
theorem wordI_wordR : ∀ (k n : Nat), n < 256 ^ k → wordI (wordR n k) = n
  | 0, n, h => by simp at h; subst h; rfl
  | k + 1, n, h => by
    rw [wordR_cons, wordI, wordI_wordR k (n / 256) (by rw [Nat.pow_succ] at h; omega), UInt8.toNat_ofNat']
    omega
theorem wordR_wordI : ∀ (l : List UInt8), wordR (wordI l) l.length = l
  | [] => rfl
  | c :: l => by
    have hc := c.toNat_lt
    rw [List.length_cons, wordR_cons, wordI]
    have e1 : (c.toNat + 256 * wordI l) % 256 = c.toNat := by omega
    have e2 : (c.toNat + 256 * wordI l) / 256 = wordI l := by omega
    rw [e1, e2, wordR_wordI l, UInt8.ofNat_toNat]
theorem cut8_enc {b : Nat} (h : b < 18446744073709551616) (s : List UInt8) : cut8 (wordR b 8 ++ s) = some (b, s) := by
  have hl := wordR_length b 8
  unfold cut8
  rw [if_pos (by rw [List.length_append]; omega)]
  have e1 : (wordR b 8 ++ s).take 8 = wordR b 8 := by
    have := List.take_left (l₁ := wordR b 8) (l₂ := s)
    rwa [hl] at this
  have e2 : (wordR b 8 ++ s).drop 8 = s := by
    have := List.drop_left (l₁ := wordR b 8) (l₂ := s)
    rwa [hl] at this
  rw [e1, e2, wordI_wordR 8 b (by omega)]
theorem cut8_dec {s r : List UInt8} {b : Nat} (h : cut8 s = some (b, r)) : s = wordR b 8 ++ r := by
  unfold cut8 at h
  by_cases h8 : 8 ≤ s.length
  · rw [if_pos h8] at h
    cases h
    have hl : (s.take 8).length = 8 := by rw [List.length_take]; omega
    have := wordR_wordI (s.take 8)
    rw [hl] at this
    rw [this, List.take_append_drop]
  · rw [if_neg h8] at h; cases h
theorem cutP_enc {p : Pnt} (h : pointErr p = 0) (hb : p.2.2 < 18446744073709551616) (s : List UInt8) : cutP (pointB p ++ s) = some (p, s) := by
  obtain ⟨⟨h1, h2⟩, h3, h4⟩ := pointErr_zero' h
  obtain ⟨x, t, b⟩ := p
  simp only at h1 h2 h3 h4 hb
  unfold cutP pointB
  simp only
  rw [List.append_assoc, List.append_assoc]
  have e1 : ∀ s, mapO numI (cutN (numB x.toNat ++ s)) = some (x, s) := fun s => by
    rw [mapO_some' (cutN_enc (by omega) _), numI_nat (by omega)]
    congr 2
    omega
  have e2 : ∀ s, mapO timeI (cutN (numB (timeN t) ++ s)) = some (t, s) := fun s => by
    have ht : timeN t < 18446744073709551616 := by unfold timeN; split <;> omega
    rw [mapO_some' (cutN_enc ht _), timeI_timeN]
  rw [bindO_some' (e1 _), bindO_some' (e2 _), mapO_some' (cut8_enc hb _)]
theorem cutP_dec {s r : List UInt8} {p : Pnt} (h : cutP s = some (p, r)) (h0 : pointErr p = 0) : s = pointB p ++ r := by
  obtain ⟨⟨h1, h2⟩, h3, h4⟩ := pointErr_zero' h0
  unfold cutP at h
  obtain ⟨a, s1, k1, h⟩ := bindO_some h
  obtain ⟨t, s2, k2, h⟩ := bindO_some h
  obtain ⟨n1, e1, rfl⟩ := mapO_some k1
  obtain ⟨n2, e2, rfl⟩ := mapO_some k2
  obtain ⟨n3, e3, rfl⟩ := mapO_some h
  simp only at h1 h2
  rw [cutN_dec e1, cutN_dec e2, cut8_dec e3]
  unfold pointB
  simp only
  rw [numI_pos (by omega) (cutN_lt e1).1, timeN_timeI]
  simp
/-! ### the whole -/
theorem unpO_pack {r : Rcd} (h : recErr r = 0) (hb : ∀ x ∈ r.points, x.2.2 < 18446744073709551616) : unpO (packB r) = some r := by
  obtain ⟨hk, hrl, hpl, hro, hpo⟩ := recErr_zero h
  obtain ⟨kind, rs, ps⟩ := r
  simp only at hk hrl hpl hro hpo hb
  have h' := h
  unfold recErr at h'
  rcases hk with rfl | rfl
  · have hp0 : ps = [] := by
      by_cases hp : 0 < ps.length
      · simp only at h'
        rw [if_neg (by simp), if_pos (.inl ⟨trivial, hp⟩)] at h'; cases h'
      · exact List.length_eq_zero_iff.1 (by omega)
    subst hp0
    have e : eachO stepR 200 (fun st => st.2) (fun st r => (st.1, r)) ([], (numB rs.length ++ refsB rs) ++ []) = some (rs, []) := eachO_enc (cut := cutR) (enc := refB) (ok := fun x => refErr x = 0) (fun x s h => cutR_enc h s) (by omega) hrl hro []
    rw [List.append_nil] at e
    have hb1 : bodyO (UInt8.ofNat 1) (numB rs.length ++ refsB rs) = some (⟨1, rs, []⟩, []) := by
      unfold bodyO
      rw [if_pos (by decide), e]
      rfl
    exact unpO_ok hb1 h
  · have hp0 : rs = [] := by
      by_cases hp : 0 < rs.length
      · simp only at h'
        rw [if_neg (by simp), if_pos (.inr ⟨trivial, hp⟩)] at h'; cases h'
      · exact List.length_eq_zero_iff.1 (by omega)
    subst hp0
    have e : eachO stepP 200 (fun st => st.2) (fun st r => (st.1, r)) ([], (numB ps.length ++ pointsB ps) ++ []) = some (ps, []) := eachO_enc (cut := cutP) (enc := pointB) (ok := fun x => pointErr x = 0 ∧ x.2.2 < 18446744073709551616) (fun x s h => cutP_enc h.1 h.2 s) (by omega) hpl (fun x hx => ⟨hpo x hx, hb x hx⟩) []
    rw [List.append_nil] at e
    have hb1 : bodyO (UInt8.ofNat 2) (numB ps.length ++ pointsB ps) = some (⟨2, [], ps⟩, []) := by
      unfold bodyO
      rw [if_neg (by decide), if_pos (by decide), e]
      rfl
    exact unpO_ok hb1 h
theorem unpO_some {s : List UInt8} {r : Rcd} (h : unpO s = some r) : recErr r = 0 ∧ packB r = s := by
  cases s with
  | nil => cases h
  | cons c s =>
    simp only [unpO] at h
    cases hb : bodyO c s with
    | none => rw [hb] at h; cases h
    | some x =>
      obtain ⟨r0, q⟩ := x
      rw [hb] at h
      simp only at h
      by_cases hc : q = [] ∧ recErr r0 = 0
      · rw [if_pos hc] at h
        cases h
        obtain ⟨rfl, hr⟩ := hc
        refine ⟨hr, ?_⟩
        obtain ⟨hk, hrl, hpl, hro, hpo⟩ := recErr_zero hr
        have hcl := c.toNat_lt
        unfold bodyO at hb
        by_cases h1 : c.toNat = 1
        · rw [if_pos h1] at hb
          obtain ⟨l, e, rfl⟩ := mapO_some hb
          have hd : s = (numB l.length ++ refsB l) ++ [] := eachO_dec (cut := cutR) (enc := refB) (ok := fun x => refErr x = 0) (fun s x r h h0 => cutR_dec h h0) e hro
          rw [hd, List.append_nil]
          have hc1 : c = UInt8.ofNat 1 := by rw [← h1, UInt8.ofNat_toNat]
          rw [hc1]
          rfl
        · rw [if_neg h1] at hb
          by_cases h2 : c.toNat = 2
          · rw [if_pos h2] at hb
            obtain ⟨l, e, rfl⟩ := mapO_some hb
            have hd : s = (numB l.length ++ pointsB l) ++ [] := eachO_dec (cut := cutP) (enc := pointB) (ok := fun x => pointErr x = 0) (fun s x r h h0 => cutP_dec h h0) e hpo
            rw [hd, List.append_nil]
            have hc1 : c = UInt8.ofNat 2 := by rw [← h2, UInt8.ofNat_toNat]
            rw [hc1]
            rfl
          · rw [if_neg h2] at hb
            cases hb
            simp only at hk
            omega
      · rw [if_neg hc] at h; cases h
end Go.Proofs.YtkaeogldielkfaaGreat.Rc
namespace Go.Proofs.YtkaeogldielkfaaGreat.Rc
open Go.RowKit Lb
attribute [local go_sem] bs_size bs_toList bs_append bs_get bs_extract
theorem grow_ki {a b c : World} {x : Nat} (h : Grow a b) (k : KI x b c) (hx : a.heap.size ≤ x) : Grow a c :=
  ⟨k.os.trans h.os, k.tape.trans h.tape, k.output.trans h.output, Nat.le_trans h.size k.size, fun i hi => (k.block i (Nat.lt_of_lt_of_le hi h.size) (by omega)).trans (h.block i hi)⟩
theorem grow_kz {a b c : World} {Z x : Nat} (h : Grow a b) (k : KZ Z x b c) (hZ : a.heap.size ≤ Z) (hx : a.heap.size ≤ x) : Grow a c :=
  ⟨k.1.trans h.os, k.2.1.trans h.tape, k.2.2.1.trans h.output, Nat.le_trans h.size k.2.2.2.1, fun i hi => (k.2.2.2.2 i (by omega) (by omega)).trans (h.block i hi)⟩
set_option maxRecDepth 20000 in
set_option maxHeartbeats 8000000 in
theorem unpacked_any (w : World) (s0 : List UInt8) (hs : s0.length ≤ 140737488355328) :
    Calls Tryz.prog 37 #[.string (bs s0)] w (unpAns w.heap.size (unpO s0) w) := by
  have hcf1 : ∀ (args : Array Value) (w : World), (callFunc 66 args).run Tryz.prog w = .ok (.enter 66 args) w := fun args w => by simp [go_sem]
  have hcf2 : ∀ (args : Array Value) (w : World), (callFunc 68 args).run Tryz.prog w = .ok (.enter 68 args) w := fun args w => by simp [go_sem]
  obtain ⟨UO, HUO⟩ : ∃ UO, Hid (unpO s0 = UO) := ⟨_, hide rfl⟩
  rw [HUO.out]
  obtain ⟨V1, e1, g1, b1⟩ := laid_at w #[.int .i64 0, .slice none 0 0, .slice none 0 0] 29
  obtain ⟨V2, e2, g2, b2⟩ := laid_at V1 #[.string (bs s0)] 113
  have s1 : V1.heap.size = w.heap.size + 1 := by rw [← e1]; simp
  have s2 : V2.heap.size = w.heap.size + 2 := by rw [← e2]; simp [s1]
  rw [s1] at b2
  have h02 : Grow w V2 := g1.trans g2
  have HTK := hide (take_any V2 (w.heap.size + 1) 1 s0 b2 hs (by omega))
  have H02 := hide h02
  have HZ2 := hide (g2.get b1)
  rw [← e2, ← e1] at HTK H02 HZ2
  unfold readAs at HTK
  clear b1 b2 g1 g2 h02
  cases s0 with
  | nil =>
    rw [if_neg (by simp)] at HTK
    simp only at HTK
    have HU : Hid (none = UO) := hide HUO.out
    clear e1 e2
    go_enter Tryz.func37, Tryz.ntmps37
    go_wp2_with fail
    refine HTK.out.mono ?_
    rintro e w1 ⟨hk, E, hE, rfl⟩
    refine ⟨rfl, ?_⟩
    unfold unpAns
    rw [← HU.out]
    exact ⟨grow_ki H02.out hk (by omega), E, hE, rfl⟩
  | cons c s =>
    rw [if_pos (by simp)] at HTK
    simp only at HTK
    simp only [List.length_cons] at hs
    have htk : (c :: s).take 1 = [c] := rfl
    have hdr : (c :: s).drop 1 = s := rfl
    rw [htk, hdr] at HTK
    have hcl := c.toNat_lt
    have hcw : IntKind.i64.wrap ((c.toNat : Nat) : Int) = (c.toNat : Int) := by rw [IntKind.wrap_i64]; omega
    clear e1 e2 htk hdr s1 s2
    by_cases h1 : c.toNat = 1
    · rw [h1] at hcw
      as_aux_lemma =>
        go_enter Tryz.func37, Tryz.ntmps37
        go_wp2_with fail
        refine HTK.out.mono ?_
        rintro e w2 ⟨hk2, rfl, hi2⟩
        have hsw : w.heap.size + 2 ≤ w2.heap.size := by have := hk2.size; simp at this; omega
        have hz2 := hk2.get HZ2.out (by omega)
        have hg2 : Grow w w2 := grow_ki H02.out hk2 (by omega)
        obtain ⟨w3, e3, g3, b3⟩ := laid_at w2 #[.int .i64 1, .slice none 0 0, .slice none 0 0] 29
        have HB3 := hide b3
        have HI3 := hide (hi2.grow g3)
        have HZ3 := hide (g3.get hz2)
        have HG3 := hide (hg2.trans g3)
        have hs3 : w2.heap.size + 1 ≤ w3.heap.size := by rw [← e3]; simp
        clear hk2 hz2 hg2 g3 b3 hi2 HTK HZ2 H02
        have hb2 := HB3.out
        have HE := hide (each_any w3 (w.heap.size + 1) 200 66 #[.pointer (some ⟨w2.heap.size, 0, none⟩), .pointer (some ⟨w.heap.size + 1, 0, none⟩)] (fun st => st.2) (fun st r => (st.1, r)) (fun k st w' => KZ w2.heap.size (w.heap.size + 1) w3 w' ∧ inRec w2.heap.size (w.heap.size + 1) w2.heap.size 1 k st w') (fun w' => KZ w2.heap.size (w.heap.size + 1) w3 w') stepR ([], s) hcf1 (by omega) HI3.out (by show s.length ≤ _; omega) (fun q w' hk hq hql => by
            have hql' : q.length ≤ s.length := hql
            exact ⟨hk.kz (by omega), by have := hk.size; omega, by show q.length ≤ _; omega, Nat.zero_le _, hq, .slice none 0 0, hk.get hb2 (by omega), ownRefs_nil _ _⟩) (fun w' hk => hk.kz (by omega)) (fun k st w' h => h.1) (fun k st W' hk200 hI => by
            refine (unp1_any W' w2.heap.size (w.heap.size + 1) w2.heap.size 1 k st hk200 (by omega) (Nat.le_refl _) hI.2).mono fun e w' ht => ?_
            unfold turned at ht ⊢
            cases hst : stepR st with
            | none => rw [hst] at ht; exact ⟨ht.1, hI.1.trans ht.2⟩
            | some st' => rw [hst] at ht; exact ⟨ht.1, hI.1.trans ht.2.1, ht.2.2⟩))
        rw [← e3] at HE HG3 HZ3
        obtain ⟨EO, HEO⟩ : ∃ EO, Hid (eachO stepR 200 (fun st => st.2) (fun st r => (st.1, r)) ([], s) = EO) := ⟨_, hide rfl⟩
        rw [HEO.out] at HE
        unfold turned at HE
        rw [← e3] at hb2
        obtain ⟨cb0, cb1, cb2⟩ := three_of hb2
        clear hb2 hcf1 hcf2 e3
        cases EO with
        | none =>
          simp only at HE
          go_wp2_with fail
          refine HE.out.mono ?_
          rintro e w5 ⟨⟨E, hE, rfl⟩, hk5⟩
          refine ⟨rfl, ?_⟩
          unfold unpAns
          rw [← HUO.out, unpO_none (by unfold bodyO; rw [if_pos h1]; rw [HEO.out]; rfl)]
          exact ⟨grow_kz (Z := w2.heap.size) (x := w.heap.size + 1) HG3.out hk5 (by omega) (by omega), E, hE, rfl⟩
        | some x =>
          obtain ⟨l, q⟩ := x
          simp only at HE
          go_wp2_with fail
          refine HE.out.mono ?_
          rintro e w5 ⟨rfl, k5, hk55, hk5, hZ5, hq5, hl5, hi5, v5, hx5, ho5⟩
          simp only at hi5 ho5
          have hg5 : Grow w w5 := grow_kz (Z := w2.heap.size) (x := w.heap.size + 1) HG3.out hk5 (by omega) (by omega)
          have hz5 := (hk5.2.2.2.2 w.heap.size (by omega) (by omega)).trans HZ3.out
          obtain ⟨r0, hr0⟩ : ∃ r0 : Rcd, r0 = ⟨1, l, []⟩ := ⟨_, rfl⟩
          have hbo : bodyO c s = some (r0, q) := by unfold bodyO; rw [if_pos h1]; rw [HEO.out, hr0]; rfl
          have HOK := hide (bodyO_ok (by omega) hbo)
          have HBO := hide hbo
          have HG := hide hg5
          have HZ0 := hide hz5
          have HBR := hide hx5
          have HIQ := hide hi5
          have HWR : Hid (ownRefs w5 w.heap.size v5 r0.refs) := hide (by rw [hr0]; exact ownRefs_le ho5 (by omega))
          have HWP : Hid (ownPoints w5 w.heap.size (.slice none 0 0) r0.points) := hide (by rw [hr0]; exact World.ownsRow_nil _ _ _ _)
          have HRK : Hid (r0.kind = 1) := hide (by rw [hr0])
          obtain ⟨ao, cp, hv5⟩ := ownRefs_shape ho5
          subst hv5
          clear hk5 hZ5 hq5 hl5 hi5 hx5 ho5 hg5 hz5 hbo hr0 HE cb0 cb1 cb2 HEO
          by_cases hq : q = []
          · subst hq
            have hqe : (@List.isEmpty UInt8 []) = true := rfl
            have HCR := hide (checkRecord_any w5 (.slice ao l.length cp) (.slice none 0 0) r0 (reads_ownRefs HWR.out) (reads_ownPoints HWP.out) HOK.out.1 (by have := HOK.out.2.1; omega) (by have := HOK.out.2.2.1; omega) HOK.out.2.2.2.1 HOK.out.2.2.2.2)
            rw [HRK.out] at HCR
            have hi0 := cell_of_one (show w5.heap[w.heap.size + 1]? = some (.cells #[.string (bs [])] 113 (0, 0)) from HIQ.out)
            obtain ⟨cx0, cx1, cx2⟩ := three_of HBR.out
            go_wp2_with fail
            refine (refuse_any false 1 w5 (by decide)).mono ?_
            rintro e w7 ⟨rfl, hw7⟩
            subst hw7
            rw [if_neg (by simp), outc_ok]
            go_wp2_with fail
            refine HCR.out.mono ?_
            rintro e w8 ⟨rfl, hg8⟩
            have HG8 := hide hg8
            clear hg8 cx0 cx1 cx2 hi0 HCR
            by_cases hr : recErr r0 = 0
            · have HU := hide (unpO_ok HBO.out hr)
              rw [hr, outc_ok]
              have hbr := HG8.out.get HBR.out
              have hb0 := HG8.out.get HZ0.out
              have HB0 := hide hb0
              have HBR8 := hide hbr
              obtain ⟨cx0, cx1, cx2⟩ := three_of hbr
              obtain ⟨cr0, cr1, cr2⟩ := three_of hb0
              have z0 : w8.frozen? ⟨w.heap.size, 0, none⟩ = false := by simp only [World.frozen?, hb0]; rfl
              have z1 : w8.frozen? ⟨w.heap.size, 1, none⟩ = false := by simp only [World.frozen?, hb0]; rfl
              have z2 : w8.frozen? ⟨w.heap.size, 2, none⟩ = false := by simp only [World.frozen?, hb0]; rfl
              clear hr hbr hb0
              go_wp2
              have HF := set3 (set3 (set3 HB0.out 0 (.int .i64 1)) 1 (.slice ao l.length cp)) 2 (.slice none 0 0)
              refine bodyPost_ret (v := .agg #[.int .i64 1, (.slice ao l.length cp), (.slice none 0 0)]) (results_cell_row (p := 2) (ty := 29) rfl _ _ w.heap.size _ _ _ _ rfl HF Tryz.underlying29 rfl infoRec) rfl ?_
              unfold unpAns
              rw [← HUO.out, HU.out]
              have s8 : w.heap.size ≤ w8.heap.size := by have := (HG.out.trans HG8.out).size; omega
              refine ⟨Below.setCell (Below.setCell (Below.setCell (HG.out.trans HG8.out) (by show w.heap.size ≤ w.heap.size; omega) _) (by show w.heap.size ≤ w.heap.size; omega) _) (by show w.heap.size ≤ w.heap.size; omega) _, (.slice ao l.length cp), (.slice none 0 0), by rw [HRK.out], ?_, ?_⟩
              · have h0 := ownRefs_stay HWR.out (fun g _ hg => HG8.out.block g hg)
                exact ownRefs_set (ownRefs_set (ownRefs_set h0 HB0.out (by decide) (by decide) _) (set3 HB0.out 0 _) (by decide) (by decide) _) (set3 (set3 HB0.out 0 _) 1 _) (by decide) (by decide) _
              · have h0 := own_stay HWP.out (fun g _ hg => HG8.out.block g hg)
                have h1 := ownsRow_setCell_other (a := ⟨w.heap.size, 0, none⟩) h0 (own_apart h0 HB0.out (by decide)) (.int .i64 1)
                have h2 := ownsRow_setCell_other (a := ⟨w.heap.size, 1, none⟩) h1 (own_apart h1 (set3 HB0.out 0 _) (by decide)) (.slice ao l.length cp)
                exact ownsRow_setCell_other (a := ⟨w.heap.size, 2, none⟩) h2 (own_apart h2 (set3 (set3 HB0.out 0 _) 1 _) (by decide)) _
            · have HU := hide (unpO_wrong HBO.out hr)
              rw [outc_no hr]
              refine ⟨rfl, ?_⟩
              unfold unpAns
              rw [← HUO.out, HU.out]
              exact ⟨HG.out.trans HG8.out, recErr r0, hr, rfl⟩
          · have HU := hide (unpO_left HBO.out hq)
            have hqe : q.isEmpty = false := by cases q with | nil => exact absurd rfl hq | cons => rfl
            have hi0 := cell_of_one (show w5.heap[w.heap.size + 1]? = some (.cells #[.string (bs q)] 113 (0, 0)) from HIQ.out)
            clear hq
            go_wp2_with fail
            refine (refuse_any true 1 w5 (by decide)).mono ?_
            rintro e w7 ⟨rfl, hw7⟩
            subst hw7
            rw [if_pos rfl, outc_no (by decide)]
            refine ⟨rfl, ?_⟩
            unfold unpAns
            rw [← HUO.out, HU.out]
            exact ⟨HG.out, 1, by decide, rfl⟩
    · by_cases h2 : c.toNat = 2
      · rw [h2] at hcw
        as_aux_lemma =>
          go_enter Tryz.func37, Tryz.ntmps37
          go_wp2_with fail
          refine HTK.out.mono ?_
          rintro e w2 ⟨hk2, rfl, hi2⟩
          have hsw : w.heap.size + 2 ≤ w2.heap.size := by have := hk2.size; simp at this; omega
          have hz2 := hk2.get HZ2.out (by omega)
          have hg2 : Grow w w2 := grow_ki H02.out hk2 (by omega)
          obtain ⟨w3, e3, g3, b3⟩ := laid_at w2 #[.int .i64 2, .slice none 0 0, .slice none 0 0] 29
          have HB3 := hide b3
          have HI3 := hide (hi2.grow g3)
          have HZ3 := hide (g3.get hz2)
          have HG3 := hide (hg2.trans g3)
          have hs3 : w2.heap.size + 1 ≤ w3.heap.size := by rw [← e3]; simp
          clear hk2 hz2 hg2 g3 b3 hi2 HTK HZ2 H02
          have hb2 := HB3.out
          have HE := hide (each_any w3 (w.heap.size + 1) 200 68 #[.pointer (some ⟨w2.heap.size, 0, none⟩), .pointer (some ⟨w.heap.size + 1, 0, none⟩)] (fun st => st.2) (fun st r => (st.1, r)) (fun k st w' => KZ w2.heap.size (w.heap.size + 1) w3 w' ∧ inRecP w2.heap.size (w.heap.size + 1) w2.heap.size 2 k st w') (fun w' => KZ w2.heap.size (w.heap.size + 1) w3 w') stepP ([], s) hcf2 (by omega) HI3.out (by show s.length ≤ _; omega) (fun q w' hk hq hql => by
              have hql' : q.length ≤ s.length := hql
              exact ⟨hk.kz (by omega), by have := hk.size; omega, by show q.length ≤ _; omega, Nat.zero_le _, hq, .slice none 0 0, hk.get hb2 (by omega), World.ownsRow_nil _ _ _ _⟩) (fun w' hk => hk.kz (by omega)) (fun k st w' h => h.1) (fun k st W' hk200 hI => by
              refine (unp2_any W' w2.heap.size (w.heap.size + 1) w2.heap.size 2 k st hk200 (by omega) (Nat.le_refl _) hI.2).mono fun e w' ht => ?_
              unfold turned at ht ⊢
              cases hst : stepP st with
              | none => rw [hst] at ht; exact ⟨ht.1, hI.1.trans ht.2⟩
              | some st' => rw [hst] at ht; exact ⟨ht.1, hI.1.trans ht.2.1, ht.2.2⟩))
          rw [← e3] at HE HG3 HZ3
          obtain ⟨EO, HEO⟩ : ∃ EO, Hid (eachO stepP 200 (fun st => st.2) (fun st r => (st.1, r)) ([], s) = EO) := ⟨_, hide rfl⟩
          rw [HEO.out] at HE
          unfold turned at HE
          rw [← e3] at hb2
          obtain ⟨cb0, cb1, cb2⟩ := three_of hb2
          clear hb2 hcf1 hcf2 e3
          cases EO with
          | none =>
            simp only at HE
            go_wp2_with fail
            refine HE.out.mono ?_
            rintro e w5 ⟨⟨E, hE, rfl⟩, hk5⟩
            refine ⟨rfl, ?_⟩
            unfold unpAns
            rw [← HUO.out, unpO_none (by unfold bodyO; rw [if_neg h1, if_pos h2]; rw [HEO.out]; rfl)]
            exact ⟨grow_kz (Z := w2.heap.size) (x := w.heap.size + 1) HG3.out hk5 (by omega) (by omega), E, hE, rfl⟩
          | some x =>
            obtain ⟨l, q⟩ := x
            simp only at HE
            go_wp2_with fail
            refine HE.out.mono ?_
            rintro e w5 ⟨rfl, k5, hk55, hk5, hZ5, hq5, hl5, hi5, v5, hx5, ho5⟩
            simp only at hi5 ho5
            have hg5 : Grow w w5 := grow_kz (Z := w2.heap.size) (x := w.heap.size + 1) HG3.out hk5 (by omega) (by omega)
            have hz5 := (hk5.2.2.2.2 w.heap.size (by omega) (by omega)).trans HZ3.out
            obtain ⟨r0, hr0⟩ : ∃ r0 : Rcd, r0 = ⟨2, [], l⟩ := ⟨_, rfl⟩
            have hbo : bodyO c s = some (r0, q) := by unfold bodyO; rw [if_neg h1, if_pos h2]; rw [HEO.out, hr0]; rfl
            have HOK := hide (bodyO_ok (by omega) hbo)
            have HBO := hide hbo
            have HG := hide hg5
            have HZ0 := hide hz5
            have HBR := hide hx5
            have HIQ := hide hi5
            have HWR : Hid (ownRefs w5 w.heap.size (.slice none 0 0) r0.refs) := hide (by rw [hr0]; exact ownRefs_nil _ _)
            have HWP : Hid (ownPoints w5 w.heap.size v5 r0.points) := hide (by rw [hr0]; exact own_le ho5 (by omega))
            have HRK : Hid (r0.kind = 2) := hide (by rw [hr0])
            obtain ⟨ao, cp, hv5⟩ := own_shape ho5
            subst hv5
            clear hk5 hZ5 hq5 hl5 hi5 hx5 ho5 hg5 hz5 hbo hr0 HE cb0 cb1 cb2 HEO
            by_cases hq : q = []
            · subst hq
              have hqe : (@List.isEmpty UInt8 []) = true := rfl
              have HCR := hide (checkRecord_any w5 (.slice none 0 0) (.slice ao l.length cp) r0 (reads_ownRefs HWR.out) (reads_ownPoints HWP.out) HOK.out.1 (by have := HOK.out.2.1; omega) (by have := HOK.out.2.2.1; omega) HOK.out.2.2.2.1 HOK.out.2.2.2.2)
              rw [HRK.out] at HCR
              have hi0 := cell_of_one (show w5.heap[w.heap.size + 1]? = some (.cells #[.string (bs [])] 113 (0, 0)) from HIQ.out)
              obtain ⟨cx0, cx1, cx2⟩ := three_of HBR.out
              go_wp2_with fail
              refine (refuse_any false 1 w5 (by decide)).mono ?_
              rintro e w7 ⟨rfl, hw7⟩
              subst hw7
              rw [if_neg (by simp), outc_ok]
              go_wp2_with fail
              refine HCR.out.mono ?_
              rintro e w8 ⟨rfl, hg8⟩
              have HG8 := hide hg8
              clear hg8 cx0 cx1 cx2 hi0 HCR
              by_cases hr : recErr r0 = 0
              · have HU := hide (unpO_ok HBO.out hr)
                rw [hr, outc_ok]
                have hbr := HG8.out.get HBR.out
                have hb0 := HG8.out.get HZ0.out
                have HB0 := hide hb0
                have HBR8 := hide hbr
                obtain ⟨cx0, cx1, cx2⟩ := three_of hbr
                obtain ⟨cr0, cr1, cr2⟩ := three_of hb0
                have z0 : w8.frozen? ⟨w.heap.size, 0, none⟩ = false := by simp only [World.frozen?, hb0]; rfl
                have z1 : w8.frozen? ⟨w.heap.size, 1, none⟩ = false := by simp only [World.frozen?, hb0]; rfl
                have z2 : w8.frozen? ⟨w.heap.size, 2, none⟩ = false := by simp only [World.frozen?, hb0]; rfl
                clear hr hbr hb0
                go_wp2
                have HF := set3 (set3 (set3 HB0.out 0 (.int .i64 2)) 1 (.slice none 0 0)) 2 (.slice ao l.length cp)
                refine bodyPost_ret (v := .agg #[.int .i64 2, (.slice none 0 0), (.slice ao l.length cp)]) (results_cell_row (p := 2) (ty := 29) rfl _ _ w.heap.size _ _ _ _ rfl HF Tryz.underlying29 rfl infoRec) rfl ?_
                unfold unpAns
                rw [← HUO.out, HU.out]
                have s8 : w.heap.size ≤ w8.heap.size := by have := (HG.out.trans HG8.out).size; omega
                refine ⟨Below.setCell (Below.setCell (Below.setCell (HG.out.trans HG8.out) (by show w.heap.size ≤ w.heap.size; omega) _) (by show w.heap.size ≤ w.heap.size; omega) _) (by show w.heap.size ≤ w.heap.size; omega) _, (.slice none 0 0), (.slice ao l.length cp), by rw [HRK.out], ?_, ?_⟩
                · have h0 := ownRefs_stay HWR.out (fun g _ hg => HG8.out.block g hg)
                  exact ownRefs_set (ownRefs_set (ownRefs_set h0 HB0.out (by decide) (by decide) _) (set3 HB0.out 0 _) (by decide) (by decide) _) (set3 (set3 HB0.out 0 _) 1 _) (by decide) (by decide) _
                · have h0 := own_stay HWP.out (fun g _ hg => HG8.out.block g hg)
                  have h1 := ownsRow_setCell_other (a := ⟨w.heap.size, 0, none⟩) h0 (own_apart h0 HB0.out (by decide)) (.int .i64 2)
                  have h2 := ownsRow_setCell_other (a := ⟨w.heap.size, 1, none⟩) h1 (own_apart h1 (set3 HB0.out 0 _) (by decide)) (.slice none 0 0)
                  exact ownsRow_setCell_other (a := ⟨w.heap.size, 2, none⟩) h2 (own_apart h2 (set3 (set3 HB0.out 0 _) 1 _) (by decide)) _
              · have HU := hide (unpO_wrong HBO.out hr)
                rw [outc_no hr]
                refine ⟨rfl, ?_⟩
                unfold unpAns
                rw [← HUO.out, HU.out]
                exact ⟨HG.out.trans HG8.out, recErr r0, hr, rfl⟩
            · have HU := hide (unpO_left HBO.out hq)
              have hqe : q.isEmpty = false := by cases q with | nil => exact absurd rfl hq | cons => rfl
              have hi0 := cell_of_one (show w5.heap[w.heap.size + 1]? = some (.cells #[.string (bs q)] 113 (0, 0)) from HIQ.out)
              clear hq
              go_wp2_with fail
              refine (refuse_any true 1 w5 (by decide)).mono ?_
              rintro e w7 ⟨rfl, hw7⟩
              subst hw7
              rw [if_pos rfl, outc_no (by decide)]
              refine ⟨rfl, ?_⟩
              unfold unpAns
              rw [← HUO.out, HU.out]
              exact ⟨HG.out, 1, by decide, rfl⟩
      · as_aux_lemma =>
          go_enter Tryz.func37, Tryz.ntmps37
          go_wp2_with fail
          refine HTK.out.mono ?_
          rintro e w2 ⟨hk2, rfl, hi2⟩
          have hsw : w.heap.size + 2 ≤ w2.heap.size := by have := hk2.size; simp at this; omega
          have hz2 := hk2.get HZ2.out (by omega)
          have hg2 : Grow w w2 := grow_ki H02.out hk2 (by omega)
          obtain ⟨w3, e3, g3, b3⟩ := laid_at w2 #[.int .i64 (c.toNat : Int), .slice none 0 0, .slice none 0 0] 29
          have HB3 := hide b3
          have HI3 := hide (hi2.grow g3)
          have HZ3 := hide (g3.get hz2)
          have HG3 := hide (hg2.trans g3)
          have hs3 : w2.heap.size + 1 ≤ w3.heap.size := by rw [← e3]; simp
          clear hk2 hz2 hg2 g3 b3 hi2 HTK HZ2 H02
          have hbo : bodyO c s = some (⟨(c.toNat : Int), [], []⟩, s) := by unfold bodyO; rw [if_neg h1, if_neg h2]
          obtain ⟨r0, hr0⟩ : ∃ r0 : Rcd, r0 = ⟨(c.toNat : Int), [], []⟩ := ⟨_, rfl⟩
          rw [← hr0] at hbo
          obtain ⟨q, hsq⟩ : ∃ q, q = s := ⟨_, rfl⟩
          have HQL : Hid (q.length ≤ 140737488355328) := hide (by rw [hsq]; omega)
          rw [← hsq] at HI3
          have HOK := hide (bodyO_ok (by omega) hbo)
          rw [show (some (r0, s) : Option (Rcd × List UInt8)) = some (r0, q) by rw [hsq]] at hbo
          have HBO := hide hbo
          have HWR : Hid (ownRefs w3 w.heap.size (.slice none 0 0) r0.refs) := hide (by rw [hr0]; exact ownRefs_nil _ _)
          have HWP : Hid (ownPoints w3 w.heap.size (.slice none 0 0) r0.points) := hide (by rw [hr0]; exact World.ownsRow_nil _ _ _ _)
          have HRK : Hid (r0.kind = (c.toNat : Int)) := hide (by rw [hr0])
          have hk1 : ((c.toNat : Int) == 1) = false := by rw [beq_eq_false_iff_ne]; omega
          have hk2 : ((c.toNat : Int) == 2) = false := by rw [beq_eq_false_iff_ne]; omega
          rw [← e3] at HB3 HI3 HZ3 HG3 HWR HWP
          obtain ⟨cb0, cb1, cb2⟩ := three_of HB3.out
          have HBR := HB3
          have HIQ := HI3
          have HG := HG3
          have HZ0 := HZ3
          clear e3 hbo hr0 hsq h1 h2 hcf1 hcf2
          by_cases hq : q = []
          · subst hq
            have hqe : (@List.isEmpty UInt8 []) = true := rfl
            have HCR := hide (checkRecord_any (w2.alloc (.cells #[.int .i64 (c.toNat : Int), .slice none 0 0, .slice none 0 0] 29)) (.slice none 0 0) (.slice none 0 0) r0 (reads_ownRefs HWR.out) (reads_ownPoints HWP.out) HOK.out.1 (by have := HOK.out.2.1; omega) (by have := HOK.out.2.2.1; omega) HOK.out.2.2.2.1 HOK.out.2.2.2.2)
            rw [HRK.out] at HCR
            have hi0 := cell_of_one (show (w2.alloc (.cells #[.int .i64 (c.toNat : Int), .slice none 0 0, .slice none 0 0] 29)).heap[w.heap.size + 1]? = some (.cells #[.string (bs [])] 113 (0, 0)) from HIQ.out)
            obtain ⟨cx0, cx1, cx2⟩ := three_of HBR.out
            go_wp2_with fail
            refine (refuse_any false 1 (w2.alloc (.cells #[.int .i64 (c.toNat : Int), .slice none 0 0, .slice none 0 0] 29)) (by decide)).mono ?_
            rintro e w7 ⟨rfl, hw7⟩
            subst hw7
            rw [if_neg (by simp), outc_ok]
            go_wp2_with fail
            refine HCR.out.mono ?_
            rintro e w8 ⟨rfl, hg8⟩
            have HG8 := hide hg8
            clear hg8 cx0 cx1 cx2 hi0 HCR
            by_cases hr : recErr r0 = 0
            · have HU := hide (unpO_ok HBO.out hr)
              rw [hr, outc_ok]
              have hbr := HG8.out.get HBR.out
              have hb0 := HG8.out.get HZ0.out
              have HB0 := hide hb0
              have HBR8 := hide hbr
              obtain ⟨cx0, cx1, cx2⟩ := three_of hbr
              obtain ⟨cr0, cr1, cr2⟩ := three_of hb0
              have z0 : w8.frozen? ⟨w.heap.size, 0, none⟩ = false := by simp only [World.frozen?, hb0]; rfl
              have z1 : w8.frozen? ⟨w.heap.size, 1, none⟩ = false := by simp only [World.frozen?, hb0]; rfl
              have z2 : w8.frozen? ⟨w.heap.size, 2, none⟩ = false := by simp only [World.frozen?, hb0]; rfl
              clear hr hbr hb0
              go_wp2
              have HF := set3 (set3 (set3 HB0.out 0 (.int .i64 (c.toNat : Int))) 1 (.slice none 0 0)) 2 (.slice none 0 0)
              refine bodyPost_ret (v := .agg #[.int .i64 (c.toNat : Int), (.slice none 0 0), (.slice none 0 0)]) (results_cell_row (p := 2) (ty := 29) rfl _ _ w.heap.size _ _ _ _ rfl HF Tryz.underlying29 rfl infoRec) rfl ?_
              unfold unpAns
              rw [← HUO.out, HU.out]
              have s8 : w.heap.size ≤ w8.heap.size := by have := (HG.out.trans HG8.out).size; omega
              refine ⟨Below.setCell (Below.setCell (Below.setCell (HG.out.trans HG8.out) (by show w.heap.size ≤ w.heap.size; omega) _) (by show w.heap.size ≤ w.heap.size; omega) _) (by show w.heap.size ≤ w.heap.size; omega) _, (.slice none 0 0), (.slice none 0 0), by rw [HRK.out], ?_, ?_⟩
              · have h0 := ownRefs_stay HWR.out (fun g _ hg => HG8.out.block g hg)
                exact ownRefs_set (ownRefs_set (ownRefs_set h0 HB0.out (by decide) (by decide) _) (set3 HB0.out 0 _) (by decide) (by decide) _) (set3 (set3 HB0.out 0 _) 1 _) (by decide) (by decide) _
              · have h0 := own_stay HWP.out (fun g _ hg => HG8.out.block g hg)
                have h1 := ownsRow_setCell_other (a := ⟨w.heap.size, 0, none⟩) h0 (own_apart h0 HB0.out (by decide)) (.int .i64 (c.toNat : Int))
                have h2 := ownsRow_setCell_other (a := ⟨w.heap.size, 1, none⟩) h1 (own_apart h1 (set3 HB0.out 0 _) (by decide)) (.slice none 0 0)
                exact ownsRow_setCell_other (a := ⟨w.heap.size, 2, none⟩) h2 (own_apart h2 (set3 (set3 HB0.out 0 _) 1 _) (by decide)) _
            · have HU := hide (unpO_wrong HBO.out hr)
              rw [outc_no hr]
              refine ⟨rfl, ?_⟩
              unfold unpAns
              rw [← HUO.out, HU.out]
              exact ⟨HG.out.trans HG8.out, recErr r0, hr, rfl⟩
          · have HU := hide (unpO_left HBO.out hq)
            have hqe : q.isEmpty = false := by cases q with | nil => exact absurd rfl hq | cons => rfl
            have hi0 := cell_of_one (show (w2.alloc (.cells #[.int .i64 (c.toNat : Int), .slice none 0 0, .slice none 0 0] 29)).heap[w.heap.size + 1]? = some (.cells #[.string (bs q)] 113 (0, 0)) from HIQ.out)
            clear hq
            go_wp2_with fail
            refine (refuse_any true 1 (w2.alloc (.cells #[.int .i64 (c.toNat : Int), .slice none 0 0, .slice none 0 0] 29)) (by decide)).mono ?_
            rintro e w7 ⟨rfl, hw7⟩
            subst hw7
            rw [if_pos rfl, outc_no (by decide)]
            refine ⟨rfl, ?_⟩
            unfold unpAns
            rw [← HUO.out, HU.out]
            exact ⟨HG.out, 1, by decide, rfl⟩
end Go.Proofs.YtkaeogldielkfaaGreat.Rc
