/- 2 texts in one. -/
import Derived.Test.YtndpjdmfkhjiiaaGreatDoorProg
import Derived.Test.YtndpjdmfkhjiiaaGreatDoorQ74d152
import Derived.Test.YtndpjdmfkhjiiaaGreatDoorQ3d7cfc
import Derived.Test.YtndpjdmfkhjiiaaGreatDoorQ06840a
import Derived.Test.YtndpjdmfkhjiiaaGreatDoorQ082284
import Derived.Test.YtndpjdmfkhjiiaaGreatDoorMFromV
import Derived.Test.YtndpjdmfkhjiiaaGreatDoorMExpV
import Derived.Test.YtndpjdmfkhjiiaaGreatDoorQfa040f
import Derived.Test.YtndpjdmfkhjiiaaGreatDoorQa261f9
import Derived.Test.YtndpjdmfkhjiiaaGreatDoorQ0e584d
import Derived.Test.YtndpjdmfkhjiiaaGreatDoorMNewV
import Derived.Test.YtndpjdmfkhjiiaaGreatDoorQ665f60
import Derived.Test.YtndpjdmfkhjiiaaGreatDoorMRdAV
import Derived.Test.YtndpjdmfkhjiiaaGreatDoorQ6cc641
import Derived.Test.YtndpjdmfkhjiiaaGreatDoorQ7dd50d
import Derived.Laws.OwnMore
/- The document's own reader of masks: all pieces; rows that grow. -/
set_option linter.unusedVariables false
set_option linter.unusedSimpArgs false
namespace Go.Proofs.YtndpjdmfkhjiiaaGreatDoor
open Go.RowKit

theorem pSet_dot {m i c} (h : c.toNat = 46) : pSet m i c = some (.ok (fun _ => true, i + 1)) := by
  unfold pSet
  rw [if_neg (by omega), if_pos h]
theorem pSet_wrong {m i c} (h : c.toNat = 42 ∨ c.toNat = 43 ∨ c.toNat = 63 ∨ c.toNat = 93) : pSet m i c = some (.error (1, i)) := by
  unfold pSet
  rw [if_neg (by omega), if_neg (by omega), if_neg (by omega), if_pos (by simp [isSign]; omega)]
theorem pSet_plain {m i c} (h : c.toNat ≠ 42 ∧ c.toNat ≠ 43 ∧ c.toNat ≠ 63 ∧ c.toNat ≠ 93 ∧ c.toNat ≠ 46 ∧ c.toNat ≠ 92 ∧ c.toNat ≠ 91) : pSet m i c = some (.ok (between c c, i + 1)) := by
  unfold pSet
  rw [if_neg (by omega), if_neg (by omega), if_neg (by omega), if_neg (by simp [isSign]; omega)]

/-- Any piece, without its sign. -/
theorem ratom_any (w : World) (rb : Nat) (m : List UInt8) (i g : Nat) (c : UInt8) (hr : readerAt w rb m i g 0 0) (hc : m[i]? = some c) (hm : m.length ≤ 1000) (hq : ¬ (c.toNat = 124 ∨ c.toNat = 41)) {f : Nat} (hf : RRowsOK m f) (hg : g ≤ 9) (y : Except (Nat × Nat) (Item × Nat × Nat)) (hy : aOut m f i g c = some y) :
    Calls Tryz.prog 106 #[.pointer (some ⟨rb, 0, none⟩)] w (apost rb m y w) := by
  by_cases h40 : c.toNat = 40
  · exact ratom_group w rb m i g c hr hc hm h40 hf hg y hy
  · obtain ⟨z, hz⟩ := pSet_some m i c
    have hyz : y = match z with | .error x => .error x | .ok x => .ok (.set x.1 0, x.2, g) := by
      unfold aOut at hy
      rw [if_neg h40, hz] at hy
      cases z with
      | error e => exact (Option.some.inj hy).symm
      | ok x => exact (Option.some.inj hy).symm
    rw [hyz]
    have key : Calls Tryz.prog 106 #[.pointer (some ⟨rb, 0, none⟩)] w (ratomPost rb m g z w) := by
      by_cases h91 : c.toNat = 91
      · exact ratom_brackets w rb m i g c hr hc hm h91 z hz
      · by_cases h92 : c.toNat = 92
        · exact ratom_esc w rb m i g c hr hc hm h92 z hz
        · by_cases h46 : c.toNat = 46
          · rw [pSet_dot h46] at hz
            cases hz
            exact ratom_dot w rb m i g c hr hc hm h46
          · by_cases hw : c.toNat = 42 ∨ c.toNat = 43 ∨ c.toNat = 63 ∨ c.toNat = 93
            · rw [pSet_wrong hw] at hz
              cases hz
              exact ratom_wrong w rb m i g c hr hc hm hw
            · rw [pSet_plain (by omega)] at hz
              cases hz
              exact ratom_plain w rb m i g c hr hc hm (by omega)
    cases z with
    | error x => exact key.mono fun e w' h => apost_of h
    | ok x => exact key.mono fun e w' h => apost_of h

/-! ### a row, piece by piece -/
def Item.nul : Item → Bool
  | .set _ _ => false
  | .grp _ rows _ => Go.Proofs.YtndpjdmfkhjiiaaGreatDoor.nothing rows
def Item.sgn : Item → Nat → Item
  | .set s _, k => .set s k
  | .grp n rows _, k => .grp n rows k
def Item.sig : Item → Nat
  | .set _ k => k
  | .grp _ _ k => k
theorem bindO_bindO {α β γ : Type} (a : Out α) (k : α → Out β) (l : β → Out γ) : bindO (bindO a k) l = bindO a fun x => bindO (k x) l := by
  match a with
  | none => rfl
  | some (.error e) => rfl
  | some (.ok x) => rfl
theorem bindO_congr {α β : Type} (a : Out α) {k k' : α → Out β} (h : ∀ x, a = some (.ok x) → k x = k' x) : bindO a k = bindO a k' := by
  match a, h with
  | none, _ => rfl
  | some (.error e), _ => rfl
  | some (.ok x), h => exact h x rfl

theorem rpM_piece {m : List UInt8} {f i g : Nat} {c : UInt8} (hc : m[i]? = some c) (hq : ¬ (c.toNat = 124 ∨ c.toNat = 41)) : pM m (f + 1) false i g =
    bindO (aOut m f i g c) fun a => bindO (pSign m a.1.nul a.2.1) fun s => bindO (pM m f false s.2 a.2.2) fun y => some (.ok ((a.1.sgn s.1).on y.1, y.2)) := by
  rw [pM]
  simp only [hc]
  rw [if_neg (by simpa using hq)]
  unfold aOut
  by_cases h40 : c.toNat = 40
  · rw [if_pos h40, if_pos h40]
    by_cases h9 : g = 9
    · rw [if_pos h9, if_pos h9]
      rfl
    · rw [if_neg h9, if_neg h9, bindO_bindO]
      refine bindO_congr _ fun x hx => ?_
      by_cases h41 : isAt m x.2.1 41 = true
      · rw [if_pos h41, if_pos h41]
        rfl
      · rw [if_neg h41, if_neg h41]
        rfl
  · rw [if_neg h40, if_neg h40, bindO_bindO]
    rfl
theorem pM_row_end {m : List UInt8} {f i g : Nat} (h : m[i]? = none ∨ isAt m i 124 = true ∨ isAt m i 41 = true) {y} (hy : pM m f false i g = some y) : y = .ok (.nil, i, g) := by
  cases f with
  | zero => cases hy
  | succ f =>
    rw [pM] at hy
    cases hc : m[i]? with
    | none => rw [hc] at hy; exact (Option.some.inj hy).symm
    | some c =>
      rw [hc] at hy
      have hcc : c.toNat = 124 ∨ c.toNat = 41 := by
        rcases h with h | h | h
        · rw [hc] at h; cases h
        · left; simpa [isAt, hc] using h
        · right; simpa [isAt, hc] using h
      simp only at hy
      rw [if_pos (by simpa using hcc)] at hy
      exact (Option.some.inj hy).symm
/-- What is read behind a row. -/
def contR (m : List UInt8) (F : Nat) (rs : List Tr) (x : Tr × Nat × Nat) : Out (Tr × Nat × Nat) :=
  if isAt m x.2.1 124 then bindO (pM m F true (x.2.1 + 1) x.2.2) fun y => some (.ok (rowsOf rs (.row x.1 y.1), y.2)) else some (.ok (rowsOf rs (.row x.1 .nil), x.2))
theorem rowsOf_snoc (rs : List Tr) (r T : Tr) : rowsOf (rs ++ [r]) T = rowsOf rs (.row r T) := by simp [rowsOf]
theorem rowT_snoc (l : List Item) (it : Item) (T : Tr) : rowT (l ++ [it]) T = rowT l (it.on T) := by simp [rowT]
theorem rows_open {m : List UInt8} {F i g : Nat} {rs : List Tr} : (bindO (pM m (F + 1) true i g) fun x => some (.ok (rowsOf rs x.1, x.2))) = bindO (pM m F false i g) (contR m F rs) := by
  rw [pM, bindO_bindO]
  refine bindO_congr _ fun x hx => ?_
  unfold contR
  by_cases h : isAt m x.2.1 124 = true
  · rw [if_pos h, if_pos h, bindO_bindO]
    rfl
  · rw [if_neg h, if_neg h]
    rfl
theorem bindO_id {α : Type} (a : Out α) : (bindO a fun x => some (.ok x)) = a := by
  match a with
  | none => rfl
  | some (.error e) => rfl
  | some (.ok x) => rfl
/-- Of a row so far, from a byte on. -/
def inRow (m : List UInt8) (F : Nat) (rs : List Tr) (y : Except (Nat × Nat) (Tr × Nat × Nat)) (l : List Item) (f i g : Nat) : Prop := f ≤ F ∧ bindO (pM m f false i g) (fun x => contR m F rs (rowT l x.1, x.2)) = some y
theorem inRow_end {m F rs y l f i g} (h : inRow m F rs y l f i g) (he : m[i]? = none ∨ isAt m i 124 = true ∨ isAt m i 41 = true) : contR m F rs (rowT l .nil, i, g) = some y := by
  obtain ⟨_, h⟩ := h
  cases hx : pM m f false i g with
  | none => rw [hx] at h; cases h
  | some x => rw [hx, pM_row_end he hx] at h; exact h
theorem inRow_piece {m F rs y l f i g} {c : UInt8} (h : inRow m F rs y l f i g) (hc : m[i]? = some c) (hq : ¬ (c.toNat = 124 ∨ c.toNat = 41)) :
    ∃ f' z, f = f' + 1 ∧ aOut m f' i g c = some z ∧ match z with
      | .error x => y = .error x
      | .ok a => ∃ s, pSign m a.1.nul a.2.1 = some s ∧ match s with
        | .error x => y = .error x
        | .ok s => inRow m F rs y (l ++ [a.1.sgn s.1]) f' s.2 a.2.2 := by
  obtain ⟨hF, h⟩ := h
  cases f with
  | zero => cases h
  | succ f =>
    rw [rpM_piece hc hq, bindO_bindO] at h
    cases ha : aOut m f i g c with
    | none => rw [ha] at h; cases h
    | some z =>
      refine ⟨f, z, rfl, ha, ?_⟩
      rw [ha] at h
      cases z with
      | error x => exact (Option.some.inj h).symm
      | ok a =>
        simp only [bindO] at h
        obtain ⟨s, hs⟩ := pSign_some m a.1.nul a.2.1
        refine ⟨s, hs, ?_⟩
        rw [hs] at h
        cases s with
        | error x => exact (Option.some.inj h).symm
        | ok s =>
          refine ⟨by omega, ?_⟩
          rw [← h]
          show bindO _ _ = bindO (bindO _ _) _
          rw [bindO_bindO]
          refine bindO_congr _ fun x hx => ?_
          rw [rowT_snoc]
          rfl
theorem aOut_ok {m f i g c} {a : Item × Nat × Nat} (hc : m[i]? = some c) (hg : g ≤ 9) (h : aOut m f i g c = some (.ok a)) : i < a.2.1 ∧ a.2.1 ≤ m.length ∧ a.2.2 ≤ 9 ∧ a.1.sig = 0 ∧ (∀ n rows k, a.1 = .grp n rows k → wf true rows ∧ pM m f true (i + 1) (g + 1) = some (.ok (rows, a.2.1 - 1, a.2.2))) := by
  have hi := get_lt hc
  unfold aOut at h
  split at h
  · split at h
    · cases h
    · rcases bindO_eq h with ⟨_, _, e⟩ | ⟨x, hx, h⟩
      · cases e
      have h1 := pM_ok hx (by omega)
      have h2 := pM_is hx
      split at h
      · rename_i h41
        have := isAt_lt h41
        cases h
        refine ⟨by simp only; omega, by simp only; omega, h2.2.2.2.1 (by omega), rfl, fun n rows k e => ?_⟩
        cases e
        exact ⟨h2.1, hx⟩
      · cases h
  · rcases bindO_eq h with ⟨_, _, e⟩ | ⟨x, hx, h⟩
    · cases e
    have h1 := pSet_ok hc hx
    cases h
    exact ⟨h1.1, h1.2, hg, rfl, fun n rows k e => by cases e⟩
theorem aOut_err {m f i g c} {x : Nat × Nat} (h : aOut m f i g c = some (.error x)) : x.1 ≠ 0 := by
  unfold aOut at h
  split at h
  · split at h
    · cases h; simp
    · rcases bindO_eq h with ⟨e', h1, h2⟩ | ⟨y, hy, h⟩
      · cases h2; exact eM h1
      · split at h
        · cases h
        · cases h; simp
  · rcases bindO_eq h with ⟨e', h1, h2⟩ | ⟨y, hy, h⟩
    · cases h2; exact eSet h1
    · cases h

end Go.Proofs.YtndpjdmfkhjiiaaGreatDoor

/- The document's own reader of masks: rows that grow, in memory. -/
set_option linter.unusedVariables false
set_option linter.unusedSimpArgs false
namespace Go.Proofs.YtndpjdmfkhjiiaaGreatDoor
open Go.RowKit

theorem Tryz.infoPc : (Tryz.prog.info? 155).any (fun i => i.size == 5 && i.bytes == 72 && (match i.zero with | some z => z.cells.size == 5 | none => false)) = true := by kernel_rfl
theorem Tryz.infoPcs : (Tryz.prog.info? 153).any (fun i => i.size == 1 && i.bytes == 24 && (match i.zero with | some z => z.cells.size == 1 | none => false)) = true := by kernel_rfl

/-- While rows are read: a row, and the rows ahead of it. -/
structure RowSt (w : World) (rb : Nat) (outv : Value) (k : Nat) (oys : List Value) (rv : Value) (n : Nat) (xs : List Value) (W : World) : Prop where
  kept : Kept2 rb rb w W
  row : W.ownsRow w.heap.size 155 5 rv n xs
  out : W.ownsRow w.heap.size 153 1 outv k oys
def rowA (w : World) (outv rv : Value) : Nat → Prop := fun b => w.heap.size ≤ b ∧ outv.ownBlock ≠ some b ∧ rv.ownBlock ≠ some b
def outA (w : World) (outv : Value) : Nat → Prop := fun b => w.heap.size ≤ b ∧ outv.ownBlock ≠ some b
theorem own_ge {w : World} {B e size n : Nat} {v : Value} {xs : List Value} (h : w.ownsRow B e size v n xs) {b : Nat} (hb : v.ownBlock = some b) : B ≤ b ∧ b < w.heap.size := h.lt b hb

section
variable {w : World} {rb : Nat} {outv : Value} {k : Nat} {oys : List Value} {rv : Value} {n : Nat} {xs : List Value} {W : World}
theorem RowSt.keepW (h : RowSt w rb outv k oys rv n xs W) {W' : World} (hk : Kept2 rb rb w W') (hb : ∀ b, w.heap.size ≤ b → b < W.heap.size → W'.heap[b]? = W.heap[b]?) : RowSt w rb outv k oys rv n xs W' :=
  ⟨hk, own_keep h.row fun b e => hb b (own_ge h.row e).1 (own_ge h.row e).2, own_keep h.out fun b e => hb b (own_ge h.out e).1 (own_ge h.out e).2⟩
theorem keepA {A : Nat → Prop} {W W' : World} (hA : ∀ b, A b → w.heap.size ≤ b) (hb : ∀ b, w.heap.size ≤ b → b < W.heap.size → W'.heap[b]? = W.heap[b]?) : ∀ k, k < W.heap.size → A k → A k ∧ W'.heap[k]? = W.heap[k]? := fun k h1 h2 => ⟨h2, hb k (hA k h2) h1⟩
theorem kept2_grown {w W W2 : World} {rb : Nat} {row : Option Nat} (hk : Kept2 rb rb w W) (hg : W.grownBy W2 row) (hr : ∀ b, row = some b → w.heap.size ≤ b) : Kept2 rb rb w W2 :=
  ⟨hg.os.trans hk.os, hg.tape.trans hk.tape, hg.output.trans hk.output, Nat.le_trans hk.size hg.size, fun b h1 h2 h3 => (hg.block b (Nat.lt_of_lt_of_le h1 hk.size) (fun e => by have := hr b e.symm; omega)).trans (hk.block b h1 h2 h3)⟩

theorem RowSt.push (h : RowSt w rb outv k oys rv n xs W) (hrb : rb < w.heap.size) (hn : n ≤ 100000) (cs : List Value) (hcs : cs.length = 5) (h1 : ∀ u ∈ cs, u.oneCell' = true) (t : TypeId) :
    ∃ ro rc W2, (Builtin.append_ #[153, 153] t #[rv, .slice (some ⟨W.heap.size, 0, none⟩) 1 1]).run Tryz.prog (W.alloc (.cells cs.toArray 155)) = .ok (.slice ro (n + 1) rc) W2 ∧
      RowSt w rb outv k oys (.slice ro (n + 1) rc) (n + 1) (xs ++ cs) W2 ∧
      (∀ T ys, cellsAt W (rowA w outv rv) T ys → cellsAt W2 (rowA w outv (.slice ro (n + 1) rc)) T ys) ∧
      (∀ it ys, itemAt W (rowA w outv rv) it ys → itemAt W2 (rowA w outv (.slice ro (n + 1) rc)) it ys) ∧
      (∀ m i g e a, readerAt W rb m i g e a → readerAt W2 rb m i g e a) := by
  obtain ⟨i0, z0, hinf, hz0, hz1, hz2, hz3⟩ := info_some Tryz.infoPc
  have g : Grow W (W.alloc (.cells cs.toArray 155)) := (Grow.refl _).alloc _
  have hsz : (W.alloc (.cells cs.toArray 155)).heap.size = W.heap.size + 1 := by simp
  have hnb : (W.alloc (.cells cs.toArray 155)).heap[W.heap.size]? = some (.cells cs.toArray 155 (0, 0)) := heap_alloc_new _ _
  have hW := h.kept.size
  have hrow := own_grow h.row g
  have hout := own_grow h.out g
  obtain ⟨v', w3, hrun, hown3, hgrow, hnew⟩ := run_append_new (P := Tryz.prog) _ w.heap.size 153 t 155 i0 z0 5 72 Tryz.underlying153 hinf hz0 hz1 hz2 hz3 (by omega) rv n xs hrow ⟨W.heap.size, 0, none⟩ 1 1 cs (by omega) (fun q u hu => by
    rw [Addr.add_lit]
    exact cell_in hnb (by simpa using hu)) h1 (by unfold maxLen; omega) (by omega) (by omega)
  obtain ⟨ro, rc, rfl⟩ := own_shape hown3
  have hkb : ∀ b, b < W.heap.size → rv.ownBlock ≠ some b → w3.heap[b]? = W.heap[b]? := fun b h1 h2 => (hgrow.block b (by omega) (fun e => h2 e.symm)).trans (g.block b h1)
  have hA : ∀ b, b < W.heap.size → rowA w outv rv b → rowA w outv (.slice ro (n + 1) rc) b ∧ w3.heap[b]? = W.heap[b]? := fun b h1 ⟨h2, h3, h4⟩ => by
    refine ⟨⟨h2, h3, ?_⟩, hkb b h1 h4⟩
    rcases hnew with e | ⟨q, e, hq⟩
    · rw [e]; exact h4
    · rw [e]
      intro e2
      cases e2
      omega
  refine ⟨ro, rc, w3, hrun, ⟨kept2_grown (h.kept.trans (.grow g)) hgrow fun b e => (own_ge h.row e).1, hown3, own_kept_apart hout hrow (by decide) hgrow⟩, fun T ys hc => hc.keep hA, fun it ys hc => hc.keep hA, fun m i g' e a hr => ?_⟩
  have h2 : rv.ownBlock ≠ some rb := fun e => by have := (own_ge h.row e).1; omega
  exact (hkb rb (by omega) h2).trans hr

theorem RowSt.pushOut (h : RowSt w rb outv k oys rv n xs W) (hrb : rb < w.heap.size) (hk : k ≤ 100000) (t : TypeId) :
    ∃ ro rc W2, (Builtin.append_ #[63, 63] t #[outv, .slice (some ⟨W.heap.size, 0, none⟩) 1 1]).run Tryz.prog (W.alloc (.cells #[rv] 153)) = .ok (.slice ro (k + 1) rc) W2 ∧
      Kept2 rb rb w W2 ∧ W2.ownsRow w.heap.size 153 1 (.slice ro (k + 1) rc) (k + 1) (oys ++ [rv]) ∧
      (∀ T ys, cellsAt W (rowA w outv rv) T ys → cellsAt W2 (outA w (.slice ro (k + 1) rc)) T ys) ∧
      (∀ r, cellsAt W (rowA w outv rv) r xs → rowAt W2 (outA w (.slice ro (k + 1) rc)) r rv) ∧
      (∀ m i g e a, readerAt W rb m i g e a → readerAt W2 rb m i g e a) := by
  obtain ⟨i0, z0, hinf, hz0, hz1, hz2, hz3⟩ := info_some Tryz.infoPcs
  have g : Grow W (W.alloc (.cells #[rv] 153)) := (Grow.refl _).alloc _
  have hsz : (W.alloc (.cells #[rv] 153)).heap.size = W.heap.size + 1 := by simp
  have hnb : (W.alloc (.cells #[rv] 153)).heap[W.heap.size]? = some (.cells #[rv] 153 (0, 0)) := heap_alloc_new _ _
  have hW := h.kept.size
  have hrow := own_grow h.row g
  have hout := own_grow h.out g
  have hone : ∀ u ∈ [rv], u.oneCell' = true := fun u hu => by
    obtain ⟨ao, cp, rfl⟩ := own_shape h.row
    simp at hu
    subst hu
    rfl
  obtain ⟨v', w3, hrun, hown3, hgrow, hnew⟩ := run_append_new (P := Tryz.prog) _ w.heap.size 63 t 153 i0 z0 1 24 Tryz.underlying63 hinf hz0 hz1 hz2 hz3 (by omega) outv k oys hout ⟨W.heap.size, 0, none⟩ 1 1 [rv] (by simp) (fun q u hu => by
    rw [Addr.add_lit]
    exact cell_in hnb (by simpa using hu)) hone (by unfold maxLen; omega) (by omega) (by omega)
  obtain ⟨ro, rc, rfl⟩ := own_shape hown3
  have hkb : ∀ b, b < W.heap.size → outv.ownBlock ≠ some b → w3.heap[b]? = W.heap[b]? := fun b h1 h2 => (hgrow.block b (by omega) (fun e => h2 e.symm)).trans (g.block b h1)
  have hnew2 : ∀ b, b < W.heap.size → outv.ownBlock ≠ some b → (Value.slice ro (k + 1) rc).ownBlock ≠ some b := fun b h1 h2 => by
    rcases hnew with e | ⟨q, e, hq⟩
    · rw [e]; exact h2
    · rw [e]
      intro e2
      cases e2
      omega
  have hA : ∀ b, b < W.heap.size → rowA w outv rv b → outA w (.slice ro (k + 1) rc) b ∧ w3.heap[b]? = W.heap[b]? := fun b h1 ⟨h2, h3, h4⟩ => ⟨⟨h2, hnew2 b h1 h3⟩, hkb b h1 h3⟩
  have hro : ∀ b, rv.ownBlock = some b → outv.ownBlock ≠ some b := fun b e1 e2 => by
    rcases h.row.2 with ⟨rfl, _⟩ | ⟨q, cap, cur, rfl, _, hq, _⟩
    · cases e1
    · simp [Value.ownBlock] at e1
      subst e1
      exact own_apart h.out hq (by decide) e2
  refine ⟨ro, rc, w3, hrun, kept2_grown (h.kept.trans (.grow g)) hgrow fun b e => (own_ge h.out e).1, hown3, fun T ys hc => hc.keep hA, fun r hc => ⟨n, xs, ?_, fun b e => ?_, hc.keep hA⟩, fun m i g' e a hr => ?_⟩
  · exact own_le (own_kept_apart hrow hout (by decide) hgrow) (by omega)
  · have hb := own_ge h.row e
    exact ⟨hb.1, hnew2 b hb.2 (hro b e)⟩
  · have h2 : outv.ownBlock ≠ some rb := fun e => by have := (own_ge h.out e).1; omega
    exact (hkb rb (by omega) h2).trans hr
end

/-! ### a piece in its block -/
/-- Behind a piece that was read: what has stayed. -/
structure Mid (w : World) (rb : Nat) (W1 Q : World) : Prop where
  kept : Kept2 rb rb w Q
  same : ∀ b, w.heap.size ≤ b → b < W1.heap.size → Q.heap[b]? = W1.heap[b]?
  size : W1.heap.size < Q.heap.size
section
variable {w : World} {rb : Nat} {W1 Q Q' : World}
theorem Mid.first (hk : Kept2 rb rb w W1) (g : Grow W1 Q) (hs : W1.heap.size < Q.heap.size) : Mid w rb W1 Q := ⟨hk.trans (.grow g), fun b _ h => g.block b h, hs⟩
theorem Mid.on (h : Mid w rb W1 Q) (hrb : rb < w.heap.size) (k : Kept2 rb rb Q Q') : Mid w rb W1 Q' :=
  ⟨h.kept.trans k, fun b h1 h2 => (k.block b (Nat.lt_trans h2 h.size) (by omega) (by omega)).trans (h.same b h1 h2), Nat.lt_of_lt_of_le h.size k.size⟩
theorem Mid.setP (h : Mid w rb W1 Q) {o : Nat} (u : Value) (hw : w.heap.size ≤ W1.heap.size) : Mid w rb W1 (Q.setCell ⟨W1.heap.size, o, none⟩ u) :=
  ⟨⟨h.kept.os, h.kept.tape, h.kept.output, by simpa [World.setCell] using h.kept.size, fun k h1 h2 h3 => (set_apart _ (by omega)).trans (h.kept.block k h1 h2 h3)⟩, fun b h1 h2 => (set_apart _ (by omega)).trans (h.same b h1 h2), by simpa [World.setCell] using h.size⟩
end
theorem item_sign {w : World} {A : Nat → Prop} {it : Item} {gr : Bool} {sv rv : Value} {nm : Int} (k : Nat) (h : itemAt w A it (pieceC5 gr sv nm rv 0)) : itemAt w A (it.sgn k) (pieceC5 gr sv nm rv k) := by
  cases it with
  | set s sg =>
    obtain ⟨b, h1, h2, h3⟩ := h
    simp only [pieceC5, List.cons.injEq] at h1
    obtain ⟨e1, e2, e3, e4, _⟩ := h1
    exact ⟨b, by simp only [pieceC5]; rw [e1, e2, e3, e4], h2, h3⟩
  | grp n rows sg =>
    obtain ⟨rv', kk, ys, h1, h2, h3, h4⟩ := h
    simp only [pieceC5, List.cons.injEq] at h1
    obtain ⟨e1, e2, e3, e4, _⟩ := h1
    exact ⟨rv', kk, ys, by simp only [pieceC5]; rw [e1, e2, e3, e4], h2, h3, h4⟩
theorem item_set {w : World} {A : Nat → Prop} {s : UInt8 → Bool} {sg : Nat} {gr : Bool} {sv rv : Value} {nm z : Int} (h : itemAt w A (.set s sg) (pieceC5 gr sv nm rv z)) : gr = false := by
  obtain ⟨b, h1, h2, h3⟩ := h
  simp only [pieceC5, List.cons.injEq, Value.bool.injEq] at h1
  exact h1.1
theorem item_grp {w : World} {A : Nat → Prop} {rows : Tr} {n sg : Nat} {gr : Bool} {sv rv : Value} {nm z : Int} (h : itemAt w A (.grp n rows sg) (pieceC5 gr sv nm rv z)) : gr = true ∧ ∃ k ys, w.ownsRow 0 153 1 rv k ys ∧ (∀ b, rv.ownBlock = some b → A b) ∧ cellsAt w A rows ys := by
  obtain ⟨rv', kk, ys, h1, h2, h3, h4⟩ := h
  simp only [pieceC5, List.cons.injEq, Value.bool.injEq] at h1
  obtain ⟨e1, e2, e3, e4, _⟩ := h1
  subst e4
  exact ⟨e1, kk, ys, h2, h3, h4⟩
theorem sgn_zero {it : Item} (h : it.sig = 0) : it.sgn 0 = it := by
  cases it with
  | set s sg => simp [Item.sig] at h; subst h; rfl
  | grp n rows sg => simp [Item.sig] at h; subst h; rfl
theorem piece_oneCell (gr : Bool) (so : Option Addr) (sn sc : Nat) (nm : Int) (ro : Option Addr) (rn rc : Nat) (sg : Int) : ∀ u ∈ pieceC5 gr (.slice so sn sc) nm (.slice ro rn rc) sg, u.oneCell' = true := by
  intro u hu
  simp [pieceC5] at hu
  rcases hu with rfl | rfl | rfl | rfl | rfl <;> rfl
theorem comes_sign {m : List UInt8} {i : Nat} {c : UInt8} (h : m[i]? = some c) : comesB [42, 43, 63] m i = isSign c := by
  unfold comesB
  rw [h]
  simp only [contains_nat, isSign, List.any_cons, List.any_nil, Bool.or_false, Bool.or_assoc]
  rfl
end Go.Proofs.YtndpjdmfkhjiiaaGreatDoor
