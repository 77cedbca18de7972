/- record: what records are, and what is written of them. -/
import Derived.Test.YtnlkfehnmijimaaProg
import Derived.Test.YtnlkfehnmijimaaKit
import Derived.Test.YtnlkfehnmijimaaSpec
import Derived.Test.YtnlkfehnmijimaaLSpec
import Derived.Test.YtnlkfehnmijimaaLRow
import Derived.Test.YtnlkfehnmijimaaLChk
import Derived.Test.YtnlkfehnmijimaaRcA
import Derived.Test.YtnlkfehnmijimaaRcX
import Derived.Test.YtnlkfehnmijimaaRcE
set_option linter.unusedVariables false
set_option linter.unusedSimpArgs false
namespace Go.Proofs.Ytnlkfehnmijimaa.Rc
open Go.RowKit Lb

/-- A ref: its number, its labels. A point: its ref, its time, its bits. -/
abbrev RefL := Int × List Lab
abbrev Pnt := Int × Int × Nat
structure Rcd where
  kind : Int
  refs : List RefL
  points : List Pnt

def readsRefs (w : World) (B : Nat) (v : Value) (l : List RefL) : Prop :=
  ∃ ao cp, v = .slice ao l.length cp ∧ ∀ i (h : i < l.length), ∃ b o vl, ao = some ⟨b, o, none⟩ ∧ b < B ∧ readsLabels w B vl l[i].2 ∧ w.cell? ⟨b, o + i * 2, none⟩ = some (.int .i64 l[i].1) ∧ w.cell? ⟨b, o + i * 2 + 1, none⟩ = some vl
theorem readsRefs.keep {w w' : World} {B : Nat} {v : Value} {l : List RefL} (h : readsRefs w B v l) (g : Below B w w') : readsRefs w' B v l := by
  obtain ⟨ao, cp, hv, h⟩ := h
  refine ⟨ao, cp, hv, fun i hi => ?_⟩
  obtain ⟨b, o, vl, e, hb, hl, c0, c1⟩ := h i hi
  exact ⟨b, o, vl, e, hb, readsLabels_below hl g, (g.cell (p := ⟨b, _, none⟩) hb).trans c0, (g.cell (p := ⟨b, _, none⟩) hb).trans c1⟩
theorem readsRefs.more {w : World} {B B' : Nat} {v : Value} {l : List RefL} (h : readsRefs w B v l) (hB : B ≤ B') : readsRefs w B' v l := by
  obtain ⟨ao, cp, hv, h⟩ := h
  refine ⟨ao, cp, hv, fun i hi => ?_⟩
  obtain ⟨b, o, vl, e, hb, hl, c0, c1⟩ := h i hi
  exact ⟨b, o, vl, e, by omega, readsLabels_mono hl hB, c0, c1⟩
def readsPoints (w : World) (B : Nat) (v : Value) (l : List Pnt) : Prop :=
  ∃ ao cp, v = .slice ao l.length cp ∧ ∀ i (h : i < l.length), ∃ b o, ao = some ⟨b, o, none⟩ ∧ b < B ∧ w.cell? ⟨b, o + i * 3, none⟩ = some (.int .i64 l[i].1) ∧ w.cell? ⟨b, o + i * 3 + 1, none⟩ = some (.int .i64 l[i].2.1) ∧ w.cell? ⟨b, o + i * 3 + 2, none⟩ = some (.int .u64 l[i].2.2)
theorem readsPoints.keep {w w' : World} {B : Nat} {v : Value} {l : List Pnt} (h : readsPoints w B v l) (g : Below B w w') : readsPoints w' B v l := by
  obtain ⟨ao, cp, hv, h⟩ := h
  refine ⟨ao, cp, hv, fun i hi => ?_⟩
  obtain ⟨b, o, e, hb, c0, c1, c2⟩ := h i hi
  exact ⟨b, o, e, hb, (g.cell (p := ⟨b, _, none⟩) hb).trans c0, (g.cell (p := ⟨b, _, none⟩) hb).trans c1, (g.cell (p := ⟨b, _, none⟩) hb).trans c2⟩
theorem readsPoints.more {w : World} {B B' : Nat} {v : Value} {l : List Pnt} (h : readsPoints w B v l) (hB : B ≤ B') : readsPoints w B' v l := by
  obtain ⟨ao, cp, hv, h⟩ := h
  refine ⟨ao, cp, hv, fun i hi => ?_⟩
  obtain ⟨b, o, e, hb, c0, c1, c2⟩ := h i hi
  exact ⟨b, o, e, by omega, c0, c1, c2⟩

/-! ### what is wrong with a record -/
def refErr (x : RefL) : Nat := if numErr x.1 ≠ 0 then numErr x.1 else if x.2.length = 0 then 1 else checkB x.2
def refsErr : List RefL → Nat
  | [] => 0
  | x :: l => if refErr x ≠ 0 then refErr x else refsErr l
def pointErr (p : Pnt) : Nat := if numErr p.1 ≠ 0 then numErr p.1 else timeErr p.2.1
def pointsErr : List Pnt → Nat
  | [] => 0
  | x :: l => if pointErr x ≠ 0 then pointErr x else pointsErr l
def recErr (r : Rcd) : Nat :=
  if r.kind ≠ 1 ∧ r.kind ≠ 2 then 7
  else if (r.kind = 1 ∧ 0 < r.points.length) ∨ (r.kind = 2 ∧ 0 < r.refs.length) then 1
  else if 200 < r.refs.length ∨ 200 < r.points.length then 2
  else if refsErr r.refs ≠ 0 then refsErr r.refs else pointsErr r.points
/-- Sizes and numbers that a machine has. -/
def okRef (x : RefL) : Prop := -9223372036854775808 ≤ x.1 ∧ x.1 ≤ 9223372036854775807 ∧ x.2.length ≤ 9223372036854775807 ∧ lensOk x.2
def okPnt (p : Pnt) : Prop := -9223372036854775808 ≤ p.1 ∧ p.1 ≤ 9223372036854775807 ∧ -9223372036854775808 ≤ p.2.1 ∧ p.2.1 ≤ 9223372036854775807 ∧ p.2.2 < 18446744073709551616

/-! ### what is written -/
def labB (y : Lab) : List UInt8 := textB y.1 ++ textB y.2
def labsB (l : List Lab) : List UInt8 := (l.map labB).flatten
def refB (x : RefL) : List UInt8 := numB x.1.toNat ++ (numB x.2.length ++ labsB x.2)
def refsB (l : List RefL) : List UInt8 := (l.map refB).flatten
def pointB (p : Pnt) : List UInt8 := numB p.1.toNat ++ (numB (timeN p.2.1) ++ wordR p.2.2 8)
def pointsB (l : List Pnt) : List UInt8 := (l.map pointB).flatten
def packB (r : Rcd) : List UInt8 := UInt8.ofNat r.kind.toNat :: (if r.kind = 1 then numB r.refs.length ++ refsB r.refs else numB r.points.length ++ pointsB r.points)

theorem labsB_take {l : List Lab} {k : Nat} (h : k < l.length) : labsB (l.take (k + 1)) = labsB (l.take k) ++ labB l[k] := by
  unfold labsB
  rw [List.take_succ_eq_append_getElem h, List.map_append, List.flatten_append]
  simp
theorem refsB_take {l : List RefL} {k : Nat} (h : k < l.length) : refsB (l.take (k + 1)) = refsB (l.take k) ++ refB l[k] := by
  unfold refsB
  rw [List.take_succ_eq_append_getElem h, List.map_append, List.flatten_append]
  simp
theorem pointsB_take {l : List Pnt} {k : Nat} (h : k < l.length) : pointsB (l.take (k + 1)) = pointsB (l.take k) ++ pointB l[k] := by
  unfold pointsB
  rw [List.take_succ_eq_append_getElem h, List.map_append, List.flatten_append]
  simp
theorem textB_len {s : List UInt8} : (textB s).length ≤ 10 + s.length := by
  have := numB_length s.length
  unfold textB
  rw [List.length_append]
  omega
theorem labsB_len {l : List Lab} (h : ∀ y ∈ l, y.1.length ≤ 40 ∧ y.2.length ≤ 100) : (labsB l).length ≤ 160 * l.length := by
  induction l with
  | nil => simp [labsB]
  | cons y l ih =>
    have h1 := h y (by simp)
    have h2 := ih fun z hz => h z (List.mem_cons_of_mem _ hz)
    have h3 := textB_len (s := y.1)
    have h4 := textB_len (s := y.2)
    have e : labsB (y :: l) = (textB y.1 ++ textB y.2) ++ labsB l := rfl
    rw [e, List.length_append, List.length_append, List.length_cons]
    omega
theorem check_small {l : List Lab} (h : checkB l = 0) : l.length ≤ 20 ∧ ∀ y ∈ l, y.1.length ≤ 40 ∧ y.2.length ≤ 100 := eachErr_names (checkB_zero.1 h).1
theorem refErr_zero {x : RefL} (h : refErr x = 0) : (1 ≤ x.1 ∧ x.1 ≤ 1000000) ∧ 0 < x.2.length ∧ checkB x.2 = 0 := by
  unfold refErr at h
  by_cases h1 : numErr x.1 = 0
  · rw [if_neg (by omega)] at h
    by_cases h2 : x.2.length = 0
    · rw [if_pos h2] at h; cases h
    · rw [if_neg h2] at h
      refine ⟨?_, by omega, h⟩
      unfold numErr at h1
      by_cases h3 : 1 ≤ x.1 ∧ x.1 ≤ 1000000
      · exact h3
      · rw [if_neg h3] at h1; cases h1
  · rw [if_pos h1] at h
    exact absurd h h1
theorem refB_len {x : RefL} (h : refErr x = 0) : (refB x).length ≤ 3300 := by
  obtain ⟨_, _, hc⟩ := refErr_zero h
  obtain ⟨h1, h2⟩ := check_small hc
  have h3 := labsB_len h2
  have h4 := numB_length x.1.toNat
  have h5 := numB_length x.2.length
  unfold refB
  rw [List.length_append, List.length_append]
  omega
theorem refsB_len {l : List RefL} (h : ∀ x ∈ l, refErr x = 0) : (refsB l).length ≤ 3300 * l.length := by
  induction l with
  | nil => simp [refsB]
  | cons x l ih =>
    have h1 := refB_len (h x (by simp))
    have h2 := ih fun z hz => h z (List.mem_cons_of_mem _ hz)
    have e : refsB (x :: l) = refB x ++ refsB l := rfl
    rw [e, List.length_append, List.length_cons]
    omega
theorem pointB_len (p : Pnt) : (pointB p).length ≤ 28 := by
  have h4 := numB_length p.1.toNat
  have h5 := numB_length (timeN p.2.1)
  unfold pointB
  rw [List.length_append, List.length_append, wordR_length]
  omega
theorem pointsB_len (l : List Pnt) : (pointsB l).length ≤ 28 * l.length := by
  induction l with
  | nil => simp [pointsB]
  | cons x l ih =>
    have h1 := pointB_len x
    have e : pointsB (x :: l) = pointB x ++ pointsB l := rfl
    rw [e, List.length_append, List.length_cons]
    omega
theorem refsErr_zero {l : List RefL} : refsErr l = 0 → ∀ x ∈ l, refErr x = 0 := by
  induction l with
  | nil => intro _ x hx; simp at hx
  | cons y l ih =>
    intro h x hx
    have h' : (if refErr y ≠ 0 then refErr y else refsErr l) = 0 := h
    by_cases hy : refErr y = 0
    · rw [if_neg (by omega)] at h'
      rcases List.mem_cons.1 hx with rfl | hx
      · exact hy
      · exact ih h' x hx
    · rw [if_pos hy] at h'
      exact absurd h' hy
theorem pointsErr_zero {l : List Pnt} : pointsErr l = 0 → ∀ x ∈ l, pointErr x = 0 := by
  induction l with
  | nil => intro _ x hx; simp at hx
  | cons y l ih =>
    intro h x hx
    have h' : (if pointErr y ≠ 0 then pointErr y else pointsErr l) = 0 := h
    by_cases hy : pointErr y = 0
    · rw [if_neg (by omega)] at h'
      rcases List.mem_cons.1 hx with rfl | hx
      · exact hy
      · exact ih h' x hx
    · rw [if_pos hy] at h'
      exact absurd h' hy
theorem recErr_zero {r : Rcd} (h : recErr r = 0) : (r.kind = 1 ∨ r.kind = 2) ∧ r.refs.length ≤ 200 ∧ r.points.length ≤ 200 ∧ (∀ x ∈ r.refs, refErr x = 0) ∧ ∀ x ∈ r.points, pointErr x = 0 := by
  unfold recErr at h
  by_cases h1 : r.kind ≠ 1 ∧ r.kind ≠ 2
  · rw [if_pos h1] at h; cases h
  · rw [if_neg h1] at h
    by_cases h2 : (r.kind = 1 ∧ 0 < r.points.length) ∨ (r.kind = 2 ∧ 0 < r.refs.length)
    · rw [if_pos h2] at h; cases h
    · rw [if_neg h2] at h
      by_cases h3 : 200 < r.refs.length ∨ 200 < r.points.length
      · rw [if_pos h3] at h; cases h
      · rw [if_neg h3] at h
        by_cases h4 : refsErr r.refs = 0
        · rw [if_neg (by omega)] at h
          exact ⟨by omega, by omega, by omega, refsErr_zero h4, pointsErr_zero h⟩
        · rw [if_pos h4] at h
          exact absurd h h4
end Go.Proofs.Ytnlkfehnmijimaa.Rc
