/- record: the reader: a ref more, a point more. -/
import Derived.Laws.OwnMore
import Derived.Test.YtnlkfehnmijimaaProg
import Derived.Test.YtnlkfehnmijimaaKit
import Derived.Test.YtnlkfehnmijimaaSpec
import Derived.Test.YtnlkfehnmijimaaReg
import Derived.Test.YtnlkfehnmijimaaReg2
import Derived.Test.YtnlkfehnmijimaaLRow
import Derived.Test.YtnlkfehnmijimaaRcA
import Derived.Test.YtnlkfehnmijimaaRcM
import Derived.Test.YtnlkfehnmijimaaRcN
import Derived.Test.YtnlkfehnmijimaaRcS
import Derived.Test.YtnlkfehnmijimaaRcT
import Derived.Test.YtnlkfehnmijimaaRcU
import Derived.Test.YtnlkfehnmijimaaRcW
import Derived.Test.YtnlkfehnmijimaaRcY
import Derived.Test.YtnlkfehnmijimaaRfA
import Derived.Test.YtnlkfehnmijimaaRfB
import Derived.Test.YtnlkfehnmijimaaRfD
import Derived.BigQuiet
set_option linter.unusedVariables false
set_option linter.unusedSimpArgs false
namespace Go.Proofs.Ytnlkfehnmijimaa.Rc
open Go.RowKit Lb
attribute [local go_sem] bs_size bs_toList bs_append bs_get bs_extract

def refCells : List (Int × Value) → List Value
  | [] => []
  | x :: l => .int .i64 x.1 :: x.2 :: refCells l
theorem refCells_snoc (l : List (Int × Value)) (x : Int × Value) : refCells (l ++ [x]) = refCells l ++ [.int .i64 x.1, x.2] := by
  induction l with
  | nil => rfl
  | cons y l ih => simp [refCells, ih]
theorem refCells_at : ∀ (l : List (Int × Value)) (i : Nat) (h : i < l.length), (refCells l)[i * 2]? = some (.int .i64 l[i].1) ∧ (refCells l)[i * 2 + 1]? = some l[i].2
  | [], i, h => by simp at h
  | x :: l, 0, h => ⟨rfl, rfl⟩
  | x :: l, i + 1, h => by
    have e : (i + 1) * 2 = i * 2 + 1 + 1 := by omega
    have := refCells_at l i (by simpa using h)
    rw [e]
    simpa [refCells] using this
def pntCells : List Pnt → List Value
  | [] => []
  | x :: l => .int .i64 x.1 :: .int .i64 x.2.1 :: .int .u64 (x.2.2 : Nat) :: pntCells l
theorem pntCells_snoc (l : List Pnt) (x : Pnt) : pntCells (l ++ [x]) = pntCells l ++ [.int .i64 x.1, .int .i64 x.2.1, .int .u64 (x.2.2 : Nat)] := by
  induction l with
  | nil => rfl
  | cons y l ih => simp [pntCells, ih]
theorem pntCells_at : ∀ (l : List Pnt) (i : Nat) (h : i < l.length), (pntCells l)[i * 3]? = some (.int .i64 l[i].1) ∧ (pntCells l)[i * 3 + 1]? = some (.int .i64 l[i].2.1) ∧ (pntCells l)[i * 3 + 2]? = some (.int .u64 (l[i].2.2 : Nat))
  | [], i, h => by simp at h
  | x :: l, 0, h => ⟨rfl, rfl, rfl⟩
  | x :: l, i + 1, h => by
    have e : (i + 1) * 3 = i * 3 + 1 + 1 + 1 := by omega
    have := pntCells_at l i (by simpa using h)
    rw [e]
    simpa [pntCells] using this
/-- A row of refs that a call owns, with the labels of each; a row of points. -/
def ownRefs (w : World) (Z : Nat) (v : Value) (rs : List RefL) : Prop :=
  ∃ ps : List (Int × Value), ps.length = rs.length ∧ w.ownsRow Z 53 2 v rs.length (refCells ps) ∧ ∀ (i : Nat) (p : Int × Value) (x : RefL), ps[i]? = some p → rs[i]? = some x → p.1 = x.1 ∧ ownLabels w Z p.2 x.2
def ownPoints (w : World) (Z : Nat) (v : Value) (ps : List Pnt) : Prop := w.ownsRow Z 57 3 v ps.length (pntCells ps)
theorem ownRefs_nil (w : World) (Z : Nat) : ownRefs w Z (.slice none 0 0) [] := ⟨[], rfl, World.ownsRow_nil _ _ _ _, fun i p x h => by simp at h⟩
theorem own_stay {w w' : World} {B f s n : Nat} {v : Value} {xs : List Value} (ho : w.ownsRow B f s v n xs) (h : ∀ g, B ≤ g → g < w.heap.size → w'.heap[g]? = w.heap[g]?) : w'.ownsRow B f s v n xs :=
  own_keep ho fun g hg => h g (ho.lt g hg).1 (ho.lt g hg).2
theorem ownRefs_stay {w w' : World} {Z : Nat} {v : Value} {rs : List RefL} (ho : ownRefs w Z v rs) (h : ∀ g, Z ≤ g → g < w.heap.size → w'.heap[g]? = w.heap[g]?) : ownRefs w' Z v rs := by
  obtain ⟨ps, h1, h2, h3⟩ := ho
  exact ⟨ps, h1, own_stay h2 h, fun i p x hp hx => ⟨(h3 i p x hp hx).1, own_stay (h3 i p x hp hx).2 h⟩⟩
theorem ownRefs_le {w : World} {Z Z' : Nat} {v : Value} {rs : List RefL} (ho : ownRefs w Z v rs) (h : Z' ≤ Z) : ownRefs w Z' v rs := by
  obtain ⟨ps, h1, h2, h3⟩ := ho
  exact ⟨ps, h1, own_le h2 h, fun i p x hp hx => ⟨(h3 i p x hp hx).1, own_le (h3 i p x hp hx).2 h⟩⟩
theorem KI.stay {b : Nat} {w w' : World} (h : KI b w w') {Z : Nat} (hb : b < Z) : ∀ g, Z ≤ g → g < w.heap.size → w'.heap[g]? = w.heap[g]? := fun g hg hl => h.block g hl (by omega)
theorem ownRefs_shape {w : World} {Z : Nat} {v : Value} {rs : List RefL} (h : ownRefs w Z v rs) : ∃ ao cp, v = .slice ao rs.length cp := by
  obtain ⟨ps, h1, h2, h3⟩ := h
  exact own_shape h2
/-- A store into a block of another kind. -/
theorem ownRefs_set {w : World} {Z : Nat} {v : Value} {rs : List RefL} (ho : ownRefs w Z v rs) {g i : Nat} {c : Array Value} {t : TypeId} {fr : Nat × Nat} (hg : w.heap[g]? = some (.cells c t fr)) (h1 : 53 ≠ t) (h2 : 60 ≠ t) (u : Value) : ownRefs (w.setCell ⟨g, i, none⟩ u) Z v rs := by
  obtain ⟨ps, e1, e2, e3⟩ := ho
  exact ⟨ps, e1, ownsRow_setCell_other (a := ⟨g, i, none⟩) e2 (own_apart e2 hg h1) u, fun j p x hp hx => ⟨(e3 j p x hp hx).1, ownsRow_setCell_other (a := ⟨g, i, none⟩) (e3 j p x hp hx).2 (own_apart (e3 j p x hp hx).2 hg h2) u⟩⟩
theorem infoRefT : (Try.prog.info? 53).map (fun i => (i.zero, i.size, i.bytes)) = some (some (.agg #[.int .i64 0, .slice none 0 0]), 2, 32) := by kernel_rfl
theorem infoPntT : (Try.prog.info? 57).map (fun i => (i.zero, i.size, i.bytes)) = some (some (.agg #[.int .i64 0, .int .i64 0, .int .u64 0]), 3, 24) := by kernel_rfl
theorem Try.underRefs : Try.prog.underlying 22 = some (.slice 53) := by kernel_rfl
theorem Try.underPnts : Try.prog.underlying 23 = some (.slice 57) := by kernel_rfl

/-- What holds while a ref is read: ahead of it, behind it, when it is laid, and behind the append. -/
def refJ (w : World) (Z b rb : Nat) (kind : Int) (rs : List RefL) (s s1 : List UInt8) (x : RefL) (v : Value) (q2 : Bool) (y2 : Value) (qn : Bool) (yn : Value) (qa : Bool) (ya : Value) (w' : World) : Prop :=
  KZ Z b w w' ∧ Z ≤ w'.heap.size ∧ w'.heap[rb]? = some (.cells #[.int .i64 kind, v, .slice none 0 0] 25 (0, 0)) ∧ InAt w' b (if q2 = true then s1 else s) ∧ (qa = false → ownRefs w' Z v rs) ∧
    (q2 = true → qn = false → ∃ lv, y2 = .agg #[.int .i64 x.1, lv] ∧ ownLabels w' Z lv x.2) ∧
    (qn = true → qa = false → ∃ nb lv, yn = .slice (some ⟨nb, 0, none⟩) 1 1 ∧ w'.heap[nb]? = some (.cells #[.int .i64 x.1, lv] 53 (0, 0)) ∧ ownLabels w' Z lv x.2) ∧
    (qa = true → ownRefs w' Z ya (rs ++ [x]))
theorem refJ.lay {w : World} {Z b rb : Nat} {kind : Int} {rs : List RefL} {s s1 : List UInt8} {x : RefL} {v y2 yn ya lv : Value} {w' : World} (h : refJ w Z b rb kind rs s s1 x v true y2 false yn false ya w') (h2 : y2 = .agg #[.int .i64 x.1, lv]) (za : Value) :
    refJ w Z b rb kind rs s s1 x v true y2 true (.slice (some ⟨w'.heap.size, 0, none⟩) 1 1) false za (w'.alloc (.cells #[.int .i64 x.1, lv] 53)) := by
  obtain ⟨hk, hZ, hr, hi, ho, h2', _, _⟩ := h
  obtain ⟨lv', e2, hl⟩ := h2' rfl rfl
  rw [h2] at e2
  obtain rfl : lv = lv' := by simpa using e2
  have hg : Grow w' (w'.alloc (.cells #[.int .i64 x.1, lv] 53)) := (Grow.refl _).alloc _
  have hs : ∀ g, Z ≤ g → g < w'.heap.size → (w'.alloc (.cells #[.int .i64 x.1, lv] 53)).heap[g]? = w'.heap[g]? := fun g _ hgl => hg.block g hgl
  exact ⟨hk.trans (belowKZ (Below.mono hg hZ) b), by have := hg.size; omega, hg.get hr, hi.grow hg, fun _ => ownRefs_stay (ho rfl) hs, (fun _ h => by cases h), fun _ _ => ⟨_, lv, rfl, heap_alloc_new _ _, own_stay hl hs⟩, fun h => by cases h⟩
set_option maxRecDepth 20000 in
theorem refJ.append {w : World} {Z b rb : Nat} {kind : Int} {rs : List RefL} {s s1 : List UInt8} {x : RefL} {ao : Option Addr} {cp : Nat} {y2 yn ya : Value} {w' : World} (h : refJ w Z b rb kind rs s s1 x (.slice ao rs.length cp) true y2 true yn false ya w') (hl : rs.length ≤ 1000) (ty : TypeId) :
    ∃ ao' cp' w3, (Builtin.append_ #[22, 22] ty #[.slice ao rs.length cp, yn]).run Try.prog w' = .ok (.slice ao' (rs.length + 1) cp') w3 ∧ ∀ zn, refJ w Z b rb kind rs s s1 x (.slice ao rs.length cp) true y2 true zn true (.slice ao' (rs.length + 1) cp') w3 := by
  obtain ⟨i0, hi0, hz0, hz1, hz2⟩ := info_parts infoRefT
  obtain ⟨hk, hZ, hr, hi, ho, _, hn, _⟩ := h
  obtain ⟨ps, hpl, hrow, hall⟩ := ho rfl
  obtain ⟨nb, lv, rfl, hnb, hlv⟩ := hn rfl rfl
  obtain ⟨ao', cp', w3, hrun, hown3, hbel, hty⟩ := app_one (ty := ty) (news := [.int .i64 x.1, lv]) Try.underRefs hi0 hz0 hz1 hz2 rfl (by omega) hrow hnb rfl (by
    obtain ⟨vo, vc, hv⟩ := own_shape hlv
    subst hv
    simp [Value.oneCell']) (by omega) (by omega) hZ
  refine ⟨ao', cp', w3, hrun, fun zn => ⟨hk.trans (belowKZ hbel b), by have := hbel.size; omega, hty _ _ _ _ hr (by decide), hty _ _ _ _ hi (by decide), (fun h => by cases h), (fun _ h => by cases h), (fun _ h => by cases h), fun _ => ?_⟩⟩
  refine ⟨ps ++ [(x.1, lv)], by simp [hpl], ?_, fun i p y hp hy => ?_⟩
  · rw [refCells_snoc, List.length_append]
    exact hown3
  · rcases Nat.lt_or_ge i ps.length with hlt | hge
    · rw [List.getElem?_append_left hlt] at hp
      rw [List.getElem?_append_left (by omega)] at hy
      exact ⟨(hall i p y hp hy).1, hty.own (hall i p y hp hy).2 (by decide)⟩
    · rw [List.getElem?_append_right hge] at hp
      rw [List.getElem?_append_right (by omega)] at hy
      have hi0 : i - ps.length = 0 := by
        rcases Nat.eq_zero_or_pos (i - ps.length) with h | h
        · exact h
        · rw [List.getElem?_eq_none (by simp; omega)] at hp; cases hp
      rw [hi0] at hp
      rw [show i - rs.length = 0 by omega] at hy
      simp at hp hy
      subst hp hy
      exact ⟨rfl, hty.own hlv (by decide)⟩

/-- A record that is being read: its refs so far, and what is not read yet. -/
def inRec (Z b rb : Nat) (kind : Int) (k : Nat) (st : List RefL × List UInt8) (w : World) : Prop :=
  Z ≤ w.heap.size ∧ st.2.length ≤ 140737488355328 ∧ st.1.length ≤ k ∧ InAt w b st.2 ∧ ∃ v, w.heap[rb]? = some (.cells #[.int .i64 kind, v, .slice none 0 0] 25 (0, 0)) ∧ ownRefs w Z v st.1
def stepR (st : List RefL × List UInt8) : Option (List RefL × List UInt8) := mapO (fun x => st.1 ++ [x]) (cutR st.2)
theorem refJ.put {w : World} {Z b rb : Nat} {kind : Int} {rs : List RefL} {s s1 : List UInt8} {x : RefL} {v y2 yn ya : Value} {w' : World} {k : Nat} (h : refJ w Z b rb kind rs s s1 x v true y2 true yn true ya w') (hs : s1.length ≤ 140737488355328) (hl : rs.length ≤ k) (hx : Z ≤ rb) (hbx : b ≠ rb) :
    KZ Z b w (w'.setCell ⟨rb, 1, none⟩ ya) ∧ inRec Z b rb kind (k + 1) (rs ++ [x], s1) (w'.setCell ⟨rb, 1, none⟩ ya) := by
  obtain ⟨hk, hZ, hr, hi, _, _, _, ho⟩ := h
  refine ⟨hk.setNew hx _ _, by simpa [World.setCell] using hZ, hs, by rw [List.length_append]; simp; omega, hi.other (Ne.symm hbx) _ _, ya, ?_, ownRefs_set (ho rfl) hr (by decide) (by decide) _⟩
  have := set3 hr 1 ya
  simpa using this
end Go.Proofs.Ytnlkfehnmijimaa.Rc
