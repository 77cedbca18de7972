/- record: the reader: the whole record. -/
import Derived.Laws.OwnMore
import Derived.Test.YtnlkfehnmijimaaProg
import Derived.Test.YtnlkfehnmijimaaKit
import Derived.Test.YtnlkfehnmijimaaSpec
import Derived.Test.YtnlkfehnmijimaaReg
import Derived.Test.YtnlkfehnmijimaaReg2
import Derived.Test.YtnlkfehnmijimaaLRow
import Derived.Test.YtnlkfehnmijimaaRcA
import Derived.Test.YtnlkfehnmijimaaRcM
import Derived.Test.YtnlkfehnmijimaaRcN
import Derived.Test.YtnlkfehnmijimaaRcS
import Derived.Test.YtnlkfehnmijimaaRcT
import Derived.Test.YtnlkfehnmijimaaRcU
import Derived.Test.YtnlkfehnmijimaaRcV
import Derived.Test.YtnlkfehnmijimaaRcW
import Derived.Test.YtnlkfehnmijimaaRcY
import Derived.Test.YtnlkfehnmijimaaRfA
import Derived.Test.YtnlkfehnmijimaaRfB
import Derived.Test.YtnlkfehnmijimaaRfD
import Derived.Test.YtnlkfehnmijimaaRfE
import Derived.Test.YtnlkfehnmijimaaRfF
import Derived.Test.YtnlkfehnmijimaaRfG
import Derived.Test.YtnlkfehnmijimaaRcP
import Derived.Test.YtnlkfehnmijimaaRcQ
import Derived.BigQuiet
set_option linter.unusedVariables false
set_option linter.unusedSimpArgs false
namespace Go.Proofs.Ytnlkfehnmijimaa.Rc
open Go.RowKit Lb
attribute [local go_sem] bs_size bs_toList bs_append bs_get bs_extract

/-- What a text tells, with what is left: of refs, of points, of neither. -/
def bodyO (c : UInt8) (s : List UInt8) : Option (Rcd × List UInt8) :=
  if c.toNat = 1 then mapO (fun l => ⟨1, l, []⟩) (eachO stepR 200 (fun st => st.2) (fun st r => (st.1, r)) ([], s))
  else if c.toNat = 2 then mapO (fun l => ⟨2, [], l⟩) (eachO stepP 200 (fun st => st.2) (fun st r => (st.1, r)) ([], s))
  else some (⟨(c.toNat : Int), [], []⟩, s)
/-- The record that a text is. -/
def unpO : List UInt8 → Option Rcd
  | [] => none
  | c :: s => match bodyO c s with
    | none => none
    | some x => if x.2 = [] ∧ recErr x.1 = 0 then some x.1 else none
theorem unpO_none {c : UInt8} {s : List UInt8} (h : bodyO c s = none) : unpO (c :: s) = none := by simp only [unpO, h]
theorem unpO_left {c : UInt8} {s q : List UInt8} {r : Rcd} (h : bodyO c s = some (r, q)) (hq : q ≠ []) : unpO (c :: s) = none := by simp only [unpO, h]; rw [if_neg (fun k => hq k.1)]
theorem unpO_wrong {c : UInt8} {s q : List UInt8} {r : Rcd} (h : bodyO c s = some (r, q)) (hr : recErr r ≠ 0) : unpO (c :: s) = none := by simp only [unpO, h]; rw [if_neg (fun k => hr k.2)]
theorem unpO_ok {c : UInt8} {s : List UInt8} {r : Rcd} (h : bodyO c s = some (r, [])) (hr : recErr r = 0) : unpO (c :: s) = some r := by simp only [unpO, h]; rw [if_pos ⟨trivial, hr⟩]

/-! ### sizes of what is read -/
theorem runN_inv {σ : Type} {step : σ → Option σ} {P : σ → Prop} (hs : ∀ a b, P a → step a = some b → P b) : ∀ (n : Nat) (a b : σ), P a → runN step n a = some b → P b
  | 0, a, b, h, e => by cases e; exact h
  | n + 1, a, b, h, e => by
    cases hc : step a with
    | none => rw [runN_none hc] at e; cases e
    | some c => rw [runN_some hc] at e; exact runN_inv hs n c b (hs _ _ h hc) e
theorem eachO_inv {α : Type} {step : List α × List UInt8 → Option (List α × List UInt8)} {P : List α × List UInt8 → Prop} {M : Nat} (hP : ∀ r, r.length ≤ M → P ([], r)) (hs : ∀ a b, P a → step a = some b → P b) {most : Nat} {s : List UInt8} {st' : List α × List UInt8} (hl : s.length ≤ M)
    (h : eachO step most (fun st => st.2) (fun st r => (st.1, r)) ([], s) = some st') : P st' := by
  unfold eachO at h
  simp only at h
  cases hc : cutN s with
  | none => rw [hc] at h; cases h
  | some x =>
    rw [hc] at h
    simp only at h
    by_cases hm : x.1 ≤ most
    · rw [if_pos hm] at h
      exact runN_inv hs _ _ _ (hP _ (by have := (cutN_lt (s := s) (n := x.1) (r := x.2) hc).2; omega)) h
    · rw [if_neg hm] at h; cases h
/-- Elements of some kind, of a text no longer than M. -/
def allP {α : Type} (M : Nat) (p : α → Prop) (st : List α × List UInt8) : Prop := st.2.length ≤ M ∧ ∀ x ∈ st.1, p x
theorem allP_step {α : Type} {M : Nat} {p : α → Prop} {cut : List UInt8 → Option (α × List UInt8)} (hc : ∀ s x r, s.length ≤ M → cut s = some (x, r) → p x ∧ r.length ≤ s.length) (a b : List α × List UInt8) (h : allP M p a) (e : mapO (fun x => a.1 ++ [x]) (cut a.2) = some b) : allP M p b := by
  obtain ⟨b1, b2⟩ := b
  obtain ⟨x, hx, rfl⟩ := mapO_some e
  obtain ⟨h1, h2⟩ := hc _ _ _ h.1 hx
  refine ⟨Nat.le_trans h2 h.1, fun y hy => ?_⟩
  rcases List.mem_append.1 hy with hy | hy
  · exact h.2 y hy
  · rw [List.mem_singleton] at hy; subst hy; exact h1
theorem numI_int {n : Nat} (h : n < 18446744073709551616) : -9223372036854775808 ≤ numI n ∧ numI n ≤ 9223372036854775807 := by unfold numI; split <;> omega
theorem timeI_int {n : Nat} (h : n < 18446744073709551616) : -9223372036854775808 ≤ timeI n ∧ timeI n ≤ 9223372036854775807 := by unfold timeI; split <;> omega
theorem cutL_all {M : Nat} (s : List UInt8) (x : Lab) (r : List UInt8) (hl : s.length ≤ M) (h : cutL s = some (x, r)) : (x.1.length ≤ M ∧ x.2.length ≤ M) ∧ r.length ≤ s.length := by
  have := cutL_lt h
  exact ⟨⟨by omega, by omega⟩, by omega⟩
theorem runN_count {α : Type} {step : List α × List UInt8 → Option (List α × List UInt8)} (hs : ∀ a b, step a = some b → b.1.length ≤ a.1.length + 1) : ∀ (n : Nat) (a b : List α × List UInt8), runN step n a = some b → b.1.length ≤ a.1.length + n
  | 0, a, b, e => by cases e; exact Nat.le_refl _
  | n + 1, a, b, e => by
    cases hc : step a with
    | none => rw [runN_none hc] at e; cases e
    | some c =>
      rw [runN_some hc] at e
      have h1 := runN_count hs n c b e
      have h2 := hs _ _ hc
      omega
theorem eachO_count {α : Type} {step : List α × List UInt8 → Option (List α × List UInt8)} (hs : ∀ a b, step a = some b → b.1.length ≤ a.1.length + 1) {most : Nat} {s : List UInt8} {st' : List α × List UInt8} (h : eachO step most (fun st => st.2) (fun st r => (st.1, r)) ([], s) = some st') : st'.1.length ≤ most := by
  unfold eachO at h
  simp only at h
  cases hc : cutN s with
  | none => rw [hc] at h; cases h
  | some x =>
    rw [hc] at h
    simp only at h
    by_cases hm : x.1 ≤ most
    · rw [if_pos hm] at h
      have := runN_count hs _ _ _ h
      simp only [List.length_nil] at this
      omega
    · rw [if_neg hm] at h; cases h
theorem step_count {α : Type} {cut : List UInt8 → Option (α × List UInt8)} (a b : List α × List UInt8) (e : mapO (fun x => a.1 ++ [x]) (cut a.2) = some b) : b.1.length ≤ a.1.length + 1 := by
  obtain ⟨b1, b2⟩ := b
  obtain ⟨x, hx, rfl⟩ := mapO_some e
  simp
theorem cutR_all {M : Nat} (hM : M ≤ 140737488355328) (s : List UInt8) (x : RefL) (r : List UInt8) (hl : s.length ≤ M) (h : cutR s = some (x, r)) : okRef x ∧ r.length ≤ s.length := by
  refine ⟨?_, cutR_len h⟩
  unfold cutR at h
  obtain ⟨n, s1, h1, h⟩ := bindO_some h
  obtain ⟨n1, e1, rfl⟩ := mapO_some h1
  obtain ⟨ls, e2, rfl⟩ := mapO_some h
  have hn := (cutN_lt e1).1
  have hs1 := cutN_len e1
  unfold cutLs at e2
  have hc := eachO_count (fun a b => step_count (cut := cutL) a b) e2
  have ha := eachO_inv (P := allP M (fun y : Lab => y.1.length ≤ M ∧ y.2.length ≤ M)) (M := M) (fun r hr => ⟨hr, fun x hx => by simp at hx⟩) (fun a b => allP_step (fun s x r hl h => cutL_all s x r hl h) a b) (by omega) e2
  have hc' : ls.length ≤ 20 := hc
  exact ⟨(numI_int hn).1, (numI_int hn).2, by show ls.length ≤ _; omega, fun y hy => by have := ha.2 y hy; exact ⟨by omega, by omega⟩⟩
theorem cutP_all (s : List UInt8) (x : Pnt) (r : List UInt8) (h : cutP s = some (x, r)) : okPnt x ∧ r.length ≤ s.length := by
  refine ⟨?_, cutP_len h⟩
  unfold cutP at h
  obtain ⟨a, s1, h1, h⟩ := bindO_some h
  obtain ⟨t, s2, h2, h⟩ := bindO_some h
  obtain ⟨n1, e1, rfl⟩ := mapO_some h1
  obtain ⟨n2, e2, rfl⟩ := mapO_some h2
  obtain ⟨n3, e3, rfl⟩ := mapO_some h
  have b3 : n3 < 18446744073709551616 := by
    unfold cut8 at e3
    by_cases h8 : 8 ≤ s2.length
    · rw [if_pos h8] at e3
      cases e3
      have := wordI_lt (s2.take 8)
      rw [List.length_take, Nat.min_eq_left h8] at this
      exact this
    · rw [if_neg h8] at e3; cases e3
  exact ⟨(numI_int (cutN_lt e1).1).1, (numI_int (cutN_lt e1).1).2, (timeI_int (cutN_lt e2).1).1, (timeI_int (cutN_lt e2).1).2, b3⟩
/-- Sizes that any machine has, and no more than a record's. -/
def okRecS (r : Rcd) : Prop := (-9223372036854775808 ≤ r.kind ∧ r.kind ≤ 9223372036854775807) ∧ r.refs.length ≤ 200 ∧ r.points.length ≤ 200 ∧ (∀ x ∈ r.refs, okRef x) ∧ ∀ x ∈ r.points, okPnt x
theorem bodyO_ok {c : UInt8} {s q : List UInt8} {r : Rcd} (hl : s.length ≤ 140737488355328) (h : bodyO c s = some (r, q)) : okRecS r := by
  unfold bodyO at h
  have hc := c.toNat_lt
  by_cases h1 : c.toNat = 1
  · rw [if_pos h1] at h
    obtain ⟨l, e, rfl⟩ := mapO_some h
    have hn := eachO_count (fun a b => step_count (cut := cutR) a b) e
    have ha := eachO_inv (P := allP 140737488355328 okRef) (M := 140737488355328) (fun r hr => ⟨hr, fun x hx => by simp at hx⟩) (fun a b => allP_step (fun s x r hl h => cutR_all (Nat.le_refl _) s x r hl h) a b) hl e
    exact ⟨⟨by show (-9223372036854775808 : Int) ≤ 1; omega, by show (1 : Int) ≤ _; omega⟩, hn, by simp, ha.2, by simp⟩
  · rw [if_neg h1] at h
    by_cases h2 : c.toNat = 2
    · rw [if_pos h2] at h
      obtain ⟨l, e, rfl⟩ := mapO_some h
      have hn := eachO_count (fun a b => step_count (cut := cutP) a b) e
      have ha := eachO_inv (P := allP 140737488355328 okPnt) (M := 140737488355328) (fun r hr => ⟨hr, fun x hx => by simp at hx⟩) (fun a b => allP_step (fun s x r hl h => cutP_all s x r h) a b) hl e
      exact ⟨⟨by show (-9223372036854775808 : Int) ≤ 2; omega, by show (2 : Int) ≤ _; omega⟩, by simp, hn, by simp, ha.2⟩
    · rw [if_neg h2] at h
      cases h
      exact ⟨⟨by show (-9223372036854775808 : Int) ≤ (c.toNat : Int); omega, by show (c.toNat : Int) ≤ _; omega⟩, by simp, by simp, by simp, by simp⟩

/-! ### what a call owns can be read -/
theorem reads_ownRefs {w : World} {Z : Nat} {v : Value} {rs : List RefL} (h : ownRefs w Z v rs) : readsRefs w w.heap.size v rs := by
  obtain ⟨ps, hl, h, hall⟩ := h
  obtain ⟨ao, cp, e⟩ := own_shape h
  refine ⟨ao, cp, e, fun i hi => ?_⟩
  rcases h.2 with ⟨rfl, h0⟩ | ⟨g, cap, cur, rfl, h1, h2, h3⟩
  · omega
  · simp at e
    have hc := World.ownsRow.cells h (g := g) rfl
    have ha := refCells_at ps i (by omega)
    obtain ⟨k1, k2⟩ := hall i ps[i] rs[i] (List.getElem?_eq_getElem (by omega)) (List.getElem?_eq_getElem hi)
    refine ⟨g, 0, ps[i].2, e.1.symm, lt_of_block h2, reads_ownLabels k2, ?_, ?_⟩
    · have := hc _ _ ha.1
      rw [Addr.add_lit] at this
      rw [← k1]
      simpa using this
    · have := hc _ _ ha.2
      rw [Addr.add_lit] at this
      simpa using this
theorem reads_ownPoints {w : World} {Z : Nat} {v : Value} {ps : List Pnt} (h : ownPoints w Z v ps) : readsPoints w w.heap.size v ps := by
  obtain ⟨ao, cp, e⟩ := own_shape h
  refine ⟨ao, cp, e, fun i hi => ?_⟩
  rcases h.2 with ⟨rfl, h0⟩ | ⟨g, cap, cur, rfl, h1, h2, h3⟩
  · omega
  · simp at e
    have hc := World.ownsRow.cells h (g := g) rfl
    have ha := pntCells_at ps i hi
    refine ⟨g, 0, e.1.symm, lt_of_block h2, ?_, ?_, ?_⟩
    · have := hc _ _ ha.1
      rw [Addr.add_lit] at this
      simpa using this
    · have := hc _ _ ha.2.1
      rw [Addr.add_lit] at this
      simpa using this
    · have := hc _ _ ha.2.2
      rw [Addr.add_lit] at this
      simpa using this
/-- What 'unpacked' answers: a record whose rows the call owns. -/
def unpAns (Z : Nat) (o : Option Rcd) (w : World) (e : Ending) (w' : World) : Prop :=
  Grow w w' ∧ match o with
    | some r => ∃ vr vp, e = .returned (.agg #[.int .i64 r.kind, vr, vp]) ∧ ownRefs w' Z vr r.refs ∧ ownPoints w' Z vp r.points
    | none => ∃ E : Nat, E ≠ 0 ∧ e = gaveUp E
theorem infoRec : (Try.prog.info? 25).map (·.size) = some 3 := by kernel_rfl
end Go.Proofs.Ytnlkfehnmijimaa.Rc
