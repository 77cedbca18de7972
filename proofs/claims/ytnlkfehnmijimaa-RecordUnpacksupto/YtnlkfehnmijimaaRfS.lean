/- record: the document's own reading: what its walk keeps. -/
import Derived.Laws.OwnMore
import Derived.Test.YtnlkfehnmijimaaProg
import Derived.Test.YtnlkfehnmijimaaKit
import Derived.Test.YtnlkfehnmijimaaSpec
import Derived.Test.YtnlkfehnmijimaaReg
import Derived.Test.YtnlkfehnmijimaaLRow
import Derived.Test.YtnlkfehnmijimaaRcA
import Derived.Test.YtnlkfehnmijimaaRcM
import Derived.Test.YtnlkfehnmijimaaRcN
import Derived.Test.YtnlkfehnmijimaaRcS
import Derived.Test.YtnlkfehnmijimaaRcT
import Derived.Test.YtnlkfehnmijimaaRcU
import Derived.Test.YtnlkfehnmijimaaRcV
import Derived.Test.YtnlkfehnmijimaaRcY
import Derived.Test.YtnlkfehnmijimaaRcR
import Derived.Test.YtnlkfehnmijimaaRfB
import Derived.Test.YtnlkfehnmijimaaRfE
import Derived.Test.YtnlkfehnmijimaaRfH
import Derived.Test.YtnlkfehnmijimaaRfQ
import Derived.Test.YtnlkfehnmijimaaRfR
set_option linter.unusedVariables false
set_option linter.unusedSimpArgs false
namespace Go.Proofs.Ytnlkfehnmijimaa.Rc
open Go.RowKit Lb

theorem newC (w : World) (cs : Array Value) (t : TypeId) : ∀ j u, cs.toList[j]? = some u → (w.alloc (.cells cs t)).cell? ((⟨w.heap.size, 0, none⟩ : Addr).add j) = some u := by
  intro j u h
  rw [Addr.add_lit]
  have := heap_alloc_new w (.cells cs t)
  simp only [World.cell?, this, Nat.zero_add]
  simpa using h
theorem lab_one (a b : List UInt8) : ∀ u ∈ ([.string (bs a), .string (bs b)] : List Value), u.oneCell' = true := by
  intro u hu
  simp at hu
  rcases hu with rfl | rfl <;> rfl
theorem ref_one {w : World} {Z : Nat} {lv : Value} {ls : List Lab} (n : Int) (h : ownLabels w Z lv ls) : ∀ u ∈ ([.int .i64 n, lv] : List Value), u.oneCell' = true := by
  obtain ⟨ao, cp, rfl⟩ := own_shape h
  intro u hu
  simp at hu
  rcases hu with rfl | rfl <;> rfl
theorem pnt_one (a b c : Int) : ∀ u ∈ ([.int .i64 a, .int .i64 b, .int .u64 c] : List Value), u.oneCell' = true := by
  intro u hu
  simp at hu
  rcases hu with rfl | rfl | rfl <;> rfl

/-! ### how much is read -/
def lessT {α : Type} (one : Cur → α × Cur) : Prop := ∀ c, (one c).2.1.length ≤ c.1.length ∧ ((one c).2.2 = false → (one c).2.1.length < c.1.length)
theorem numT_less : lessT numT := fun c => by
  unfold numT
  split
  · exact ⟨Nat.le_refl _, fun h => by cases h⟩
  · cases hc : cutN c.1 with
    | none => exact ⟨Nat.le_refl _, fun h => by cases h⟩
    | some x =>
      simp only
      have := (cutN_lt (s := c.1) (n := x.1) (r := x.2) hc).2
      split
      · exact ⟨Nat.le_of_lt this, fun _ => this⟩
      · exact ⟨Nat.le_refl _, fun h => by cases h⟩
theorem bytT_less (n : Nat) (c : Cur) : (bytT n c).2.1.length ≤ c.1.length := by
  unfold bytT
  split
  · exact Nat.le_refl _
  · rw [List.length_drop]; omega
theorem textT_less : lessT textT := fun c => by
  have h1 := numT_less c
  have h2 := bytT_less (numT c).1 (numT c).2
  refine ⟨Nat.le_trans h2 h1.1, fun h => ?_⟩
  have := h1.2 (bytT_mono h)
  show (bytT _ _).2.1.length < _
  omega
theorem labT_less : lessT labT := fun c => by
  have h1 := textT_less c
  have h2 := textT_less (textT c).2
  refine ⟨Nat.le_trans h2.1 h1.1, fun h => ?_⟩
  have h3 := h2.2 h
  have h4 : (labT c).2.1.length < (textT c).2.1.length := h3
  omega
theorem loopT_less {α : Type} {one : Cur → α × Cur} (h : lessT one) : ∀ (n : Nat) (x : List α × Cur), (loopT one n x).2.1.length ≤ x.2.1.length
  | 0, x => Nat.le_refl _
  | n + 1, x => by
    by_cases hb : x.2.2 = true
    · rw [loopT_bad _ _ hb]; exact Nat.le_refl _
    · rw [loopT_step (by simpa using hb)]
      exact Nat.le_trans (loopT_less h n _) (h x.2).1
theorem labsT_less (c : Cur) : (labsT c).2.1.length ≤ (numT c).2.1.length := loopT_less labT_less _ _
theorem refT_less : lessT refT := fun c => by
  have h1 := numT_less c
  have h2 := labsT_less (numT c).2
  have h3 := (numT_less (numT c).2).1
  refine ⟨by show (labsT (numT c).2).2.1.length ≤ _; omega, fun h => ?_⟩
  have := h1.2 (labsT_mono h)
  show (labsT (numT c).2).2.1.length < _
  omega
theorem pntT_less : lessT pntT := fun c => by
  have h1 := numT_less c
  have h2 := (numT_less (numT c).2).1
  have h3 := bytT_less 8 (numT (numT c).2).2
  refine ⟨by show (bytT 8 (numT (numT c).2).2).2.1.length ≤ _; omega, fun h => ?_⟩
  have := h1.2 (numT_mono (bytT_mono h))
  show (bytT 8 (numT (numT c).2).2).2.1.length < _
  omega
/-- No more elements than bytes, but for one that was bad. -/
def fits {α : Type} (L : Nat) (x : List α × Cur) : Prop := x.1.length + x.2.1.length ≤ L + (if x.2.2 = true then 1 else 0)
theorem fits_step {α : Type} {one : Cur → α × Cur} (h : lessT one) {L : Nat} {x : List α × Cur} (hx : fits L x) (hb : x.2.2 = false) : fits L (x.1 ++ [(one x.2).1], (one x.2).2) := by
  unfold fits at hx ⊢
  rw [if_neg (by rw [hb]; simp)] at hx
  have h1 := h x.2
  simp only [List.length_append, List.length_cons, List.length_nil]
  by_cases hg : (one x.2).2.2 = true
  · rw [if_pos hg]; omega
  · rw [if_neg hg]
    have := h1.2 (by simpa using hg)
    omega
theorem fits_le {α : Type} {L : Nat} {x : List α × Cur} (h : fits L x) : x.1.length ≤ L + 1 := by
  unfold fits at h
  split at h <;> omega
theorem fits_nil {α : Type} {L : Nat} {c : Cur} (h : c.1.length ≤ L) : fits L (([] : List α), c) := by
  unfold fits
  simp only [List.length_nil]
  split <;> omega

/-! ### sizes of numbers -/
theorem timeI_nat (n : Nat) (h : n ≤ 4611686018427387904) : -9223372036854775808 ≤ timeI n ∧ timeI n ≤ 9223372036854775807 := by unfold timeI; split <;> omega
theorem loopT_count {α : Type} {one : Cur → α × Cur} : ∀ (n : Nat) (x : List α × Cur), (loopT one n x).1.length ≤ x.1.length + n
  | 0, x => Nat.le_refl _
  | n + 1, x => by
    by_cases hb : x.2.2 = true
    · rw [loopT_bad _ _ hb]; omega
    · rw [loopT_step (by simpa using hb)]
      have := loopT_count (one := one) n (x.1 ++ [(one x.2).1], (one x.2).2)
      simp only [List.length_append, List.length_cons, List.length_nil] at this
      omega
theorem textT_len (c : Cur) : (textT c).1.length ≤ 4611686018427387904 := Nat.le_trans (bytT_len _ _) (numT_le c)
theorem refT_ok (c : Cur) : okRef (refT c).1 := by
  have h1 := numT_le c
  have h2 := loopT_count (one := labT) (numT (numT c).2).1 ([], (numT (numT c).2).2)
  have h3 := numT_le (numT c).2
  refine ⟨by show (-9223372036854775808 : Int) ≤ ((numT c).1 : Nat); omega, by show (((numT c).1 : Nat) : Int) ≤ _; omega, ?_, ?_⟩
  · show (labsT (numT c).2).1.length ≤ _
    unfold labsT
    simp only [List.length_nil] at h2
    omega
  · have := loopT_all (one := labT) (p := fun y : Lab => y.1.length ≤ 9223372036854775807 ∧ y.2.length ≤ 9223372036854775807) (fun c => ⟨by have := textT_len c; show (textT c).1.length ≤ _; omega, by have := textT_len (textT c).2; show (textT (textT c).2).1.length ≤ _; omega⟩) (numT (numT c).2).1 ([], (numT (numT c).2).2) (by simp)
    exact this
theorem pntT_ok (c : Cur) : okPnt (pntT c).1 := by
  have h1 := numT_le c
  have h2 := timeI_nat _ (numT_le (numT c).2)
  have h8 := wordI_lt (bytT 8 (numT (numT c).2).2).1
  have h9 := bytT_len 8 (numT (numT c).2).2
  have h10 : 256 ^ (bytT 8 (numT (numT c).2).2).1.length ≤ 256 ^ 8 := Nat.pow_le_pow_right (by omega) h9
  exact ⟨by show (-9223372036854775808 : Int) ≤ ((numT c).1 : Nat); omega, by show (((numT c).1 : Nat) : Int) ≤ _; omega, h2.1, h2.2, by show wordI _ < _; omega⟩
theorem bodyT_ok (k : UInt8) (c : Cur) : okRec (bodyT k c).1 := by
  have hk := k.toNat_lt
  have hn := numT_le c
  unfold bodyT
  by_cases h1 : k.toNat = 1
  · rw [if_pos h1]
    have h2 := loopT_count (one := refT) (numT c).1 ([], (numT c).2)
    simp only [List.length_nil] at h2
    exact ⟨⟨by show (-9223372036854775808 : Int) ≤ 1; omega, by show (1 : Int) ≤ _; omega⟩, by simp only; omega, by simp, loopT_all (one := refT) (p := okRef) refT_ok _ _ (by simp), by simp⟩
  · rw [if_neg h1]
    by_cases h2 : k.toNat = 2
    · rw [if_pos h2]
      have h2 := loopT_count (one := pntT) (numT c).1 ([], (numT c).2)
      simp only [List.length_nil] at h2
      exact ⟨⟨by show (-9223372036854775808 : Int) ≤ 2; omega, by show (2 : Int) ≤ _; omega⟩, by simp, by simp only; omega, by simp, loopT_all (one := pntT) (p := okPnt) pntT_ok _ _ (by simp)⟩
    · rw [if_neg h2]
      exact ⟨⟨by show (-9223372036854775808 : Int) ≤ (k.toNat : Int); omega, by show (k.toNat : Int) ≤ _; omega⟩, by simp, by simp, by simp, by simp⟩

/-! ### rows that grow -/
/-- A record with refs that is being read. -/
def RecI (Z cb rb : Nat) (rs : List RefL) (w0 w : World) : Prop :=
  KZ Z cb w0 w ∧ Z ≤ w.heap.size ∧ ∃ v, w.heap[rb]? = some (.cells #[.int .i64 1, v, .slice none 0 0] 25 (0, 0)) ∧ ownRefs w Z v rs
/-- A ref whose labels are being read. -/
def RefI (Z xb : Nat) (n : Int) (ls : List Lab) (w : World) : Prop :=
  ∃ lv, w.heap[xb]? = some (.cells #[.int .i64 n, lv] 53 (0, 0)) ∧ ownLabels w Z lv ls
theorem RecI.ki {Z cb rb : Nat} {rs : List RefL} {w0 w w' : World} (h : RecI Z cb rb rs w0 w) (k : KI cb w w') (hc : cb < Z) (hr : cb ≠ rb) : RecI Z cb rb rs w0 w' := by
  obtain ⟨h1, h2, v, h3, h4⟩ := h
  exact ⟨h1.trans (k.kz h2), Nat.le_trans h2 k.size, v, k.get h3 (Ne.symm hr), ownRefs_stay h4 (k.stay hc)⟩
theorem RefI.ki {Z cb xb : Nat} {n : Int} {ls : List Lab} {w w' : World} (h : RefI Z xb n ls w) (k : KI cb w w') (hc : cb < Z) (hx : cb ≠ xb) : RefI Z xb n ls w' := by
  obtain ⟨lv, h3, h4⟩ := h
  exact ⟨lv, k.get h3 (Ne.symm hx), own_stay h4 (k.stay hc)⟩
theorem grown_typed {w w' : World} {B e s n : Nat} {v : Value} {xs : List Value} (ho : w.ownsRow B e s v n xs) (hg : w.grownBy w' v.ownBlock) : typedKept e w w' := fun k c t fr h ht => grown_block hg h (own_apart ho h ht)
theorem grow_kzZ {Z cb : Nat} {w w' : World} (h : Grow w w') (hZ : Z ≤ w.heap.size) : KZ Z cb w w' := belowKZ (Below.mono h hZ) cb
theorem RecI.grow {Z cb rb : Nat} {rs : List RefL} {w0 w w' : World} (h : RecI Z cb rb rs w0 w) (g : Grow w w') : RecI Z cb rb rs w0 w' := by
  obtain ⟨h1, h2, v, h3, h4⟩ := h
  exact ⟨h1.trans (grow_kzZ g h2), Nat.le_trans h2 g.size, v, g.get h3, ownRefs_stay h4 (fun k _ hk => g.block k hk)⟩
theorem RefI.grow {Z xb : Nat} {n : Int} {ls : List Lab} {w w' : World} (h : RefI Z xb n ls w) (g : Grow w w') : RefI Z xb n ls w' := by
  obtain ⟨lv, h3, h4⟩ := h
  exact ⟨lv, g.get h3, Lb.own_grow h4 g⟩
theorem RefI.put {Z xb : Nat} {n : Int} {ls : List Lab} {x : Lab} {w W1 W2 : World} {lv v' : Value} (h : w.heap[xb]? = some (.cells #[.int .i64 n, lv] 53 (0, 0))) (ho : ownLabels w Z lv ls) (g : Grow w W1) (hZ : Z ≤ w.heap.size)
    (hown : W2.ownsRow Z 60 2 v' (ls.length + 1) (labCells ls ++ [.string (bs x.1), .string (bs x.2)])) (hgrow : W1.grownBy W2 lv.ownBlock) :
    RefI Z xb n (ls ++ [x]) (W2.setCell ⟨xb, 1, none⟩ v') ∧ Below Z w W2 ∧ typedKept 60 w W2 := by
  have ho1 : W1.ownsRow Z 60 2 lv ls.length (labCells ls) := Lb.own_grow ho g
  have ht := grown_typed ho1 hgrow
  have hb : Below Z W1 W2 := (Below.refl Z W1).grown hgrow (by have := g.size; omega) (fun k hk => (ho1.lt k hk).1)
  have hx := ht _ _ _ _ (g.get h) (by decide)
  refine ⟨⟨v', by have := set3 hx 1 v'; simpa using this, ?_⟩, (Below.mono g hZ).trans hb, fun k c t fr hk hne => ht k c t fr (g.get hk) hne⟩
  unfold ownLabels
  rw [List.length_append, labCells_snoc]
  exact ownsRow_setCell_other (a := ⟨xb, 1, none⟩) hown (own_apart hown hx (by decide)) _
theorem RecI.put {Z cb rb : Nat} {rs : List RefL} {n : Int} {ls : List Lab} {w0 w W1 W2 : World} {v lv v' : Value} {ps : List (Int × Value)} (h1 : KZ Z cb w0 w) (hZ : Z ≤ w.heap.size) (h : w.heap[rb]? = some (.cells #[.int .i64 1, v, .slice none 0 0] 25 (0, 0)))
    (hpl : ps.length = rs.length) (hrow : w.ownsRow Z 53 2 v rs.length (refCells ps)) (hall : ∀ (i : Nat) (p : Int × Value) (x : RefL), ps[i]? = some p → rs[i]? = some x → p.1 = x.1 ∧ ownLabels w Z p.2 x.2) (hlv : ownLabels w Z lv ls) (g : Grow w W1)
    (hown : W2.ownsRow Z 53 2 v' (rs.length + 1) (refCells ps ++ [.int .i64 n, lv])) (hgrow : W1.grownBy W2 v.ownBlock) (hr : Z ≤ rb) :
    RecI Z cb rb (rs ++ [(n, ls)]) w0 (W2.setCell ⟨rb, 1, none⟩ v') ∧ typedKept 53 w W2 := by
  have ho1 := Lb.own_grow hrow g
  have ht1 := grown_typed ho1 hgrow
  have ht : typedKept 53 w W2 := fun k c t fr hk hne => ht1 k c t fr (g.get hk) hne
  have hb : Below Z W1 W2 := (Below.refl Z W1).grown hgrow (by have := g.size; omega) (fun k hk => (ho1.lt k hk).1)
  have hx := ht _ _ _ _ h (by decide)
  refine ⟨⟨(h1.trans ((grow_kzZ g hZ).trans (belowKZ hb cb))).setNew hr _ _, ?_, v', by have := set3 hx 1 v'; simpa using this, ?_⟩, ht⟩
  · have := hb.size
    have := g.size
    simp [World.setCell]
    omega
  · refine ownRefs_set (c := #[.int .i64 1, v, .slice none 0 0]) (t := 25) (fr := (0, 0)) ?_ hx (by decide) (by decide) _
    refine ⟨ps ++ [(n, lv)], by simp [hpl], ?_, fun i p y hp hy => ?_⟩
    · rw [refCells_snoc, List.length_append]
      exact hown
    · rcases Nat.lt_or_ge i ps.length with hlt | hge
      · rw [List.getElem?_append_left hlt] at hp
        rw [List.getElem?_append_left (by omega)] at hy
        exact ⟨(hall i p y hp hy).1, ht.own (hall i p y hp hy).2 (by decide)⟩
      · rw [List.getElem?_append_right hge] at hp
        rw [List.getElem?_append_right (by omega)] at hy
        have hi0 : i - ps.length = 0 := by
          rcases Nat.eq_zero_or_pos (i - ps.length) with h | h
          · exact h
          · rw [List.getElem?_eq_none (by simp; omega)] at hp; cases hp
        rw [hi0] at hp
        rw [show i - rs.length = 0 by omega] at hy
        simp at hp hy
        subst hp hy
        exact ⟨rfl, ht.own hlv (by decide)⟩
/-- A record with points that is being read. -/
def RecP (Z cb rb : Nat) (ps : List Pnt) (w0 w : World) : Prop :=
  KZ Z cb w0 w ∧ Z ≤ w.heap.size ∧ ∃ v, w.heap[rb]? = some (.cells #[.int .i64 2, .slice none 0 0, v] 25 (0, 0)) ∧ ownPoints w Z v ps
theorem RecP.ki {Z cb rb : Nat} {rs : List Pnt} {w0 w w' : World} (h : RecP Z cb rb rs w0 w) (k : KI cb w w') (hc : cb < Z) (hr : cb ≠ rb) : RecP Z cb rb rs w0 w' := by
  obtain ⟨h1, h2, v, h3, h4⟩ := h
  exact ⟨h1.trans (k.kz h2), Nat.le_trans h2 k.size, v, k.get h3 (Ne.symm hr), own_stay h4 (k.stay hc)⟩
theorem RecP.put {Z cb rb : Nat} {rs : List Pnt} {x : Pnt} {w0 w W1 W2 : World} {v v' : Value} (h1 : KZ Z cb w0 w) (hZ : Z ≤ w.heap.size) (h : w.heap[rb]? = some (.cells #[.int .i64 2, .slice none 0 0, v] 25 (0, 0)))
    (hrow : ownPoints w Z v rs) (g : Grow w W1)
    (hown : W2.ownsRow Z 57 3 v' (rs.length + 1) (pntCells rs ++ [.int .i64 x.1, .int .i64 x.2.1, .int .u64 (x.2.2 : Nat)])) (hgrow : W1.grownBy W2 v.ownBlock) (hr : Z ≤ rb) :
    RecP Z cb rb (rs ++ [x]) w0 (W2.setCell ⟨rb, 2, none⟩ v') ∧ typedKept 57 w W2 := by
  have ho1 : W1.ownsRow Z 57 3 v rs.length (pntCells rs) := Lb.own_grow hrow g
  have ht1 := grown_typed ho1 hgrow
  have ht : typedKept 57 w W2 := fun k c t fr hk hne => ht1 k c t fr (g.get hk) hne
  have hb : Below Z W1 W2 := (Below.refl Z W1).grown hgrow (by have := g.size; omega) (fun k hk => (ho1.lt k hk).1)
  have hx := ht _ _ _ _ h (by decide)
  refine ⟨⟨(h1.trans ((grow_kzZ g hZ).trans (belowKZ hb cb))).setNew hr _ _, ?_, v', by have := set3 hx 2 v'; simpa using this, ?_⟩, ht⟩
  · have := hb.size
    have := g.size
    simp [World.setCell]
    omega
  · unfold ownPoints
    rw [pntCells_snoc, List.length_append]
    exact ownsRow_setCell_other (a := ⟨rb, 2, none⟩) hown (own_apart hown hx (by decide)) _
end Go.Proofs.Ytnlkfehnmijimaa.Rc
