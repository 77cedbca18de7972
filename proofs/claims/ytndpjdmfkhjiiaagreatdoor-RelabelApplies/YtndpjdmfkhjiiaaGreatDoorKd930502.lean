/- 7 texts in one. -/
import Derived.Test.YtndpjdmfkhjiiaaGreatDoorProg
import Derived.Test.YtndpjdmfkhjiiaaGreatDoorK06d19db
import Derived.Test.YtndpjdmfkhjiiaaGreatDoorKb583056
import Derived.Test.YtndpjdmfkhjiiaaGreatDoorKa585d5f
import Derived.Test.YtndpjdmfkhjiiaaGreatDoorKf25e925
import Derived.Test.YtndpjdmfkhjiiaaGreatDoorKbcd5023
import Derived.Test.YtndpjdmfkhjiiaaGreatDoorKb639f27
import Derived.Test.YtndpjdmfkhjiiaaGreatDoorKab9fbe2
import Derived.Test.YtndpjdmfkhjiiaaGreatDoorK98fb42d
import Derived.Test.YtndpjdmfkhjiiaaGreatDoorKf8fa243
import Derived.Test.YtndpjdmfkhjiiaaGreatDoorK09f7390
import Derived.Test.YtndpjdmfkhjiiaaGreatDoorK0690efd
import Derived.Test.YtndpjdmfkhjiiaaGreatDoorKfdb3b36
import Derived.Laws.OwnMore
import Derived.Lib.AppendZeros
import Derived.BigQuiet
import Derived.Test.YtndpjdmfkhjiiaaGreatDoorK777559e
import Derived.Test.YtndpjdmfkhjiiaaGreatDoorK2fdbf70
import Derived.Test.YtndpjdmfkhjiiaaGreatDoorK34decd3
set_option linter.unusedVariables false
set_option linter.unusedSimpArgs false
namespace Go.Proofs.YtndpjdmfkhjiiaaGreatDoor
open Go.RowKit
theorem pSet_dot {m i c} (h : c.toNat = 46) : pSet m i c = some (.ok (fun _ => true, i + 1)) := by
 unfold pSet
 rw [if_neg (by omega), if_pos h]
theorem pSet_wrong {m i c} (h : c.toNat = 42 ∨ c.toNat = 43 ∨ c.toNat = 63 ∨ c.toNat = 93) : pSet m i c = some (.error (1, i)) := by
 unfold pSet
 rw [if_neg (by omega), if_neg (by omega), if_neg (by omega), if_pos (by simp [isSign]; omega)]
theorem pSet_plain {m i c} (h : c.toNat ≠ 42 ∧ c.toNat ≠ 43 ∧ c.toNat ≠ 63 ∧ c.toNat ≠ 93 ∧ c.toNat ≠ 46 ∧ c.toNat ≠ 92 ∧ c.toNat ≠ 91) : pSet m i c = some (.ok (between c c, i + 1)) := by
 unfold pSet
 rw [if_neg (by omega), if_neg (by omega), if_neg (by omega), if_neg (by simp [isSign]; omega)]
theorem ratom_any (w : World) (rb : Nat) (m : List UInt8) (i g : Nat) (c : UInt8) (hr : readerAt w rb m i g 0 0) (hc : m[i]? = some c) (hm : m.length ≤ 1000) (hq : ¬ (c.toNat = 124 ∨ c.toNat = 41)) {f : Nat} (hf : RRowsOK m f) (hg : g ≤ 9) (y : Except (Nat × Nat) (Item × Nat × Nat)) (hy : aOut m f i g c = some y) :
  Calls Tryz.prog 106 #[.pointer (some ⟨rb, 0, none⟩)] w (apost rb m y w) := by
 by_cases h40 : c.toNat = 40
 ·
  exact ratom_group w rb m i g c hr hc hm h40 hf hg y hy
 ·
  obtain ⟨z, hz⟩ := pSet_some m i c
  have hyz : y = match z with | .error x => .error x | .ok x => .ok (.set x.1 0, x.2, g) := by
   unfold aOut at hy
   rw [if_neg h40, hz] at hy
   cases z with
   | error e => exact (Option.some.inj hy).symm
   | ok x => exact (Option.some.inj hy).symm
  rw [hyz]
  have key : Calls Tryz.prog 106 #[.pointer (some ⟨rb, 0, none⟩)] w (ratomPost rb m g z w) := by
   by_cases h91 : c.toNat = 91
   ·
    exact ratom_brackets w rb m i g c hr hc hm h91 z hz
   ·
    by_cases h92 : c.toNat = 92
    ·
     exact ratom_esc w rb m i g c hr hc hm h92 z hz
    ·
     by_cases h46 : c.toNat = 46
     ·
      rw [pSet_dot h46] at hz
      cases hz
      exact ratom_dot w rb m i g c hr hc hm h46
     ·
      by_cases hw : c.toNat = 42 ∨ c.toNat = 43 ∨ c.toNat = 63 ∨ c.toNat = 93
      ·
       rw [pSet_wrong hw] at hz
       cases hz
       exact ratom_wrong w rb m i g c hr hc hm hw
      ·
       rw [pSet_plain (by omega)] at hz
       cases hz
       exact ratom_plain w rb m i g c hr hc hm (by omega)
  cases z with
  | error x => exact key.mono fun e w' h => apost_of h
  | ok x => exact key.mono fun e w' h => apost_of h
/-! ### a row, piece by piece -/
def Item.nul : Item → Bool
 | .set _ _ => false
 | .grp _ rows _ => Go.Proofs.YtndpjdmfkhjiiaaGreatDoor.nothing rows
def Item.sgn : Item → Nat → Item
 | .set s _, k => .set s k
 | .grp n rows _, k => .grp n rows k
def Item.sig : Item → Nat
 | .set _ k => k
 | .grp _ _ k => k
theorem bindO_bindO {α β γ : Type} (a : Out α) (k : α → Out β) (l : β → Out γ) : bindO (bindO a k) l = bindO a fun x => bindO (k x) l := by
 match a with
 | none => rfl
 | some (.error e) => rfl
 | some (.ok x) => rfl
theorem bindO_congr {α β : Type} (a : Out α) {k k' : α → Out β} (h : ∀ x, a = some (.ok x) → k x = k' x) : bindO a k = bindO a k' := by
 match a, h with
 | none, _ => rfl
 | some (.error e), _ => rfl
 | some (.ok x), h => exact h x rfl
theorem rpM_piece {m : List UInt8} {f i g : Nat} {c : UInt8} (hc : m[i]? = some c) (hq : ¬ (c.toNat = 124 ∨ c.toNat = 41)) : pM m (f + 1) false i g =
  bindO (aOut m f i g c) fun a => bindO (pSign m a.1.nul a.2.1) fun s => bindO (pM m f false s.2 a.2.2) fun y => some (.ok ((a.1.sgn s.1).on y.1, y.2)) := by
 rw [pM]
 simp only [hc]
 rw [if_neg (by simpa using hq)]
 unfold aOut
 by_cases h40 : c.toNat = 40
 ·
  rw [if_pos h40, if_pos h40]
  by_cases h9 : g = 9
  ·
   rw [if_pos h9, if_pos h9]
   rfl
  ·
   rw [if_neg h9, if_neg h9, bindO_bindO]
   refine bindO_congr _ fun x hx => ?_
   by_cases h41 : isAt m x.2.1 41 = true
   ·
    rw [if_pos h41, if_pos h41]
    rfl
   ·
    rw [if_neg h41, if_neg h41]
    rfl
 ·
  rw [if_neg h40, if_neg h40, bindO_bindO]
  rfl
theorem pM_row_end {m : List UInt8} {f i g : Nat} (h : m[i]? = none ∨ isAt m i 124 = true ∨ isAt m i 41 = true) {y} (hy : pM m f false i g = some y) : y = .ok (.nil, i, g) := by
 cases f with
 | zero => cases hy
 | succ f =>
  rw [pM] at hy
  cases hc : m[i]? with
  | none => rw [hc] at hy; exact (Option.some.inj hy).symm
  | some c =>
   rw [hc] at hy
   have hcc : c.toNat = 124 ∨ c.toNat = 41 := by
    rcases h with h | h | h
    ·
     rw [hc] at h; cases h
    ·
     left; simpa [isAt, hc] using h
    ·
     right; simpa [isAt, hc] using h
   simp only at hy
   rw [if_pos (by simpa using hcc)] at hy
   exact (Option.some.inj hy).symm
def contR (m : List UInt8) (F : Nat) (rs : List Tr) (x : Tr × Nat × Nat) : Out (Tr × Nat × Nat) :=
 if isAt m x.2.1 124 then bindO (pM m F true (x.2.1 + 1) x.2.2) fun y => some (.ok (rowsOf rs (.row x.1 y.1), y.2)) else some (.ok (rowsOf rs (.row x.1 .nil), x.2))
theorem rowsOf_snoc (rs : List Tr) (r T : Tr) : rowsOf (rs ++ [r]) T = rowsOf rs (.row r T) := by simp [rowsOf]
theorem rowT_snoc (l : List Item) (it : Item) (T : Tr) : rowT (l ++ [it]) T = rowT l (it.on T) := by simp [rowT]
theorem rows_open {m : List UInt8} {F i g : Nat} {rs : List Tr} : (bindO (pM m (F + 1) true i g) fun x => some (.ok (rowsOf rs x.1, x.2))) = bindO (pM m F false i g) (contR m F rs) := by
 rw [pM, bindO_bindO]
 refine bindO_congr _ fun x hx => ?_
 unfold contR
 by_cases h : isAt m x.2.1 124 = true
 ·
  rw [if_pos h, if_pos h, bindO_bindO]
  rfl
 ·
  rw [if_neg h, if_neg h]
  rfl
def inRow (m : List UInt8) (F : Nat) (rs : List Tr) (y : Except (Nat × Nat) (Tr × Nat × Nat)) (l : List Item) (f i g : Nat) : Prop := f ≤ F ∧ bindO (pM m f false i g) (fun x => contR m F rs (rowT l x.1, x.2)) = some y
theorem inRow_end {m F rs y l f i g} (h : inRow m F rs y l f i g) (he : m[i]? = none ∨ isAt m i 124 = true ∨ isAt m i 41 = true) : contR m F rs (rowT l .nil, i, g) = some y := by
 obtain ⟨_, h⟩ := h
 cases hx : pM m f false i g with
 | none => rw [hx] at h; cases h
 | some x => rw [hx, pM_row_end he hx] at h; exact h
theorem inRow_piece {m F rs y l f i g} {c : UInt8} (h : inRow m F rs y l f i g) (hc : m[i]? = some c) (hq : ¬ (c.toNat = 124 ∨ c.toNat = 41)) :
  ∃ f' z, f = f' + 1 ∧ aOut m f' i g c = some z ∧ match z with
   | .error x => y = .error x
   | .ok a => ∃ s, pSign m a.1.nul a.2.1 = some s ∧ match s with
    | .error x => y = .error x
    | .ok s => inRow m F rs y (l ++ [a.1.sgn s.1]) f' s.2 a.2.2 := by
 obtain ⟨hF, h⟩ := h
 cases f with
 | zero => cases h
 | succ f =>
  rw [rpM_piece hc hq, bindO_bindO] at h
  cases ha : aOut m f i g c with
  | none => rw [ha] at h; cases h
  | some z =>
   refine ⟨f, z, rfl, ha, ?_⟩
   rw [ha] at h
   cases z with
   | error x => exact (Option.some.inj h).symm
   | ok a =>
    simp only [bindO] at h
    obtain ⟨s, hs⟩ := pSign_some m a.1.nul a.2.1
    refine ⟨s, hs, ?_⟩
    rw [hs] at h
    cases s with
    | error x => exact (Option.some.inj h).symm
    | ok s =>
     refine ⟨by omega, ?_⟩
     rw [← h]
     show bindO _ _ = bindO (bindO _ _) _
     rw [bindO_bindO]
     refine bindO_congr _ fun x hx => ?_
     rw [rowT_snoc]
     rfl
theorem aOut_ok {m f i g c} {a : Item × Nat × Nat} (hc : m[i]? = some c) (hg : g ≤ 9) (h : aOut m f i g c = some (.ok a)) : i < a.2.1 ∧ a.2.1 ≤ m.length ∧ a.2.2 ≤ 9 ∧ a.1.sig = 0 ∧ (∀ n rows k, a.1 = .grp n rows k → wf true rows ∧ pM m f true (i + 1) (g + 1) = some (.ok (rows, a.2.1 - 1, a.2.2))) := by
 have hi := get_lt hc
 unfold aOut at h
 split at h
 ·
  split at h
  ·
   cases h
  ·
   rcases bindO_eq h with ⟨_, _, e⟩ | ⟨x, hx, h⟩
   ·
    cases e
   have h1 := pM_ok hx (by omega)
   have h2 := pM_is hx
   split at h
   ·
    rename_i h41
    have := isAt_lt h41
    cases h
    refine ⟨by simp only; omega, by simp only; omega, h2.2.2.2.1 (by omega), rfl, fun n rows k e => ?_⟩
    cases e
    exact ⟨h2.1, hx⟩
   ·
    cases h
 ·
  rcases bindO_eq h with ⟨_, _, e⟩ | ⟨x, hx, h⟩
  ·
   cases e
  have h1 := pSet_ok hc hx
  cases h
  exact ⟨h1.1, h1.2, hg, rfl, fun n rows k e => by cases e⟩
theorem aOut_err {m f i g c} {x : Nat × Nat} (h : aOut m f i g c = some (.error x)) : x.1 ≠ 0 := by
 unfold aOut at h
 split at h
 ·
  split at h
  ·
   cases h; simp
  ·
   rcases bindO_eq h with ⟨e', h1, h2⟩ | ⟨y, hy, h⟩
   ·
    cases h2; exact eM h1
   ·
    split at h
    ·
     cases h
    ·
     cases h; simp
 ·
  rcases bindO_eq h with ⟨e', h1, h2⟩ | ⟨y, hy, h⟩
  ·
   cases h2; exact eSet h1
  ·
   cases h
theorem Tryz.infoPc : (Tryz.prog.info? 155).any (fun i => i.size == 5 && i.bytes == 72 && (match i.zero with | some z => z.cells.size == 5 | none => false)) = true := by kernel_rfl
theorem Tryz.infoPcs : (Tryz.prog.info? 153).any (fun i => i.size == 1 && i.bytes == 24 && (match i.zero with | some z => z.cells.size == 1 | none => false)) = true := by kernel_rfl
structure RowSt (w : World) (rb : Nat) (outv : Value) (k : Nat) (oys : List Value) (rv : Value) (n : Nat) (xs : List Value) (W : World) : Prop where
 kept : Kept2 rb rb w W
 row : W.ownsRow w.heap.size 155 5 rv n xs
 out : W.ownsRow w.heap.size 153 1 outv k oys
def rowA (w : World) (outv rv : Value) : Nat → Prop := fun b => w.heap.size ≤ b ∧ outv.ownBlock ≠ some b ∧ rv.ownBlock ≠ some b
def outA (w : World) (outv : Value) : Nat → Prop := fun b => w.heap.size ≤ b ∧ outv.ownBlock ≠ some b
theorem own_ge {w : World} {B e size n : Nat} {v : Value} {xs : List Value} (h : w.ownsRow B e size v n xs) {b : Nat} (hb : v.ownBlock = some b) : B ≤ b ∧ b < w.heap.size := h.lt b hb
section
variable {w : World} {rb : Nat} {outv : Value} {k : Nat} {oys : List Value} {rv : Value} {n : Nat} {xs : List Value} {W : World}
theorem RowSt.keepW (h : RowSt w rb outv k oys rv n xs W) {W' : World} (hk : Kept2 rb rb w W') (hb : ∀ b, w.heap.size ≤ b → b < W.heap.size → W'.heap[b]? = W.heap[b]?) : RowSt w rb outv k oys rv n xs W' :=
 ⟨hk, own_keep h.row fun b e => hb b (own_ge h.row e).1 (own_ge h.row e).2, own_keep h.out fun b e => hb b (own_ge h.out e).1 (own_ge h.out e).2⟩
theorem kept2_grown {w W W2 : World} {rb : Nat} {row : Option Nat} (hk : Kept2 rb rb w W) (hg : W.grownBy W2 row) (hr : ∀ b, row = some b → w.heap.size ≤ b) : Kept2 rb rb w W2 :=
 ⟨hg.os.trans hk.os, hg.tape.trans hk.tape, hg.output.trans hk.output, Nat.le_trans hk.size hg.size, fun b h1 h2 h3 => (hg.block b (Nat.lt_of_lt_of_le h1 hk.size) (fun e => by have := hr b e.symm; omega)).trans (hk.block b h1 h2 h3)⟩
theorem RowSt.push (h : RowSt w rb outv k oys rv n xs W) (hrb : rb < w.heap.size) (hn : n ≤ 100000) (cs : List Value) (hcs : cs.length = 5) (h1 : ∀ u ∈ cs, u.oneCell' = true) (t : TypeId) :
  ∃ ro rc W2, (Builtin.append_ #[153, 153] t #[rv, .slice (some ⟨W.heap.size, 0, none⟩) 1 1]).run Tryz.prog (W.alloc (.cells cs.toArray 155)) = .ok (.slice ro (n + 1) rc) W2 ∧
   RowSt w rb outv k oys (.slice ro (n + 1) rc) (n + 1) (xs ++ cs) W2 ∧
   (∀ T ys, cellsAt W (rowA w outv rv) T ys → cellsAt W2 (rowA w outv (.slice ro (n + 1) rc)) T ys) ∧
   (∀ it ys, itemAt W (rowA w outv rv) it ys → itemAt W2 (rowA w outv (.slice ro (n + 1) rc)) it ys) ∧
   (∀ m i g e a, readerAt W rb m i g e a → readerAt W2 rb m i g e a) := by
 obtain ⟨i0, z0, hinf, hz0, hz1, hz2, hz3⟩ := info_some Tryz.infoPc
 have g : Grow W (W.alloc (.cells cs.toArray 155)) := (Grow.refl _).alloc _
 have hsz : (W.alloc (.cells cs.toArray 155)).heap.size = W.heap.size + 1 := by simp
 have hnb : (W.alloc (.cells cs.toArray 155)).heap[W.heap.size]? = some (.cells cs.toArray 155 (0, 0)) := heap_alloc_new _ _
 have hW := h.kept.size
 have hrow := own_grow h.row g
 have hout := own_grow h.out g
 obtain ⟨v', w3, hrun, hown3, hgrow, hnew⟩ := run_append_new (P := Tryz.prog) _ w.heap.size 153 t 155 i0 z0 5 72 Tryz.underlying153 hinf hz0 hz1 hz2 hz3 (by omega) rv n xs hrow ⟨W.heap.size, 0, none⟩ 1 1 cs (by omega) (fun q u hu => by
  rw [Addr.add_lit]
  exact cell_in hnb (by simpa using hu)) h1 (by unfold maxLen; omega) (by omega) (by omega)
 obtain ⟨ro, rc, rfl⟩ := own_shape hown3
 have hkb : ∀ b, b < W.heap.size → rv.ownBlock ≠ some b → w3.heap[b]? = W.heap[b]? := fun b h1 h2 => (hgrow.block b (by omega) (fun e => h2 e.symm)).trans (g.block b h1)
 have hA : ∀ b, b < W.heap.size → rowA w outv rv b → rowA w outv (.slice ro (n + 1) rc) b ∧ w3.heap[b]? = W.heap[b]? := fun b h1 ⟨h2, h3, h4⟩ => by
  refine ⟨⟨h2, h3, ?_⟩, hkb b h1 h4⟩
  rcases hnew with e | ⟨q, e, hq⟩
  ·
   rw [e]; exact h4
  ·
   rw [e]
   intro e2
   cases e2
   omega
 refine ⟨ro, rc, w3, hrun, ⟨kept2_grown (h.kept.trans (.grow g)) hgrow fun b e => (own_ge h.row e).1, hown3, own_kept_apart hout hrow (by decide) hgrow⟩, fun T ys hc => hc.keep hA, fun it ys hc => hc.keep hA, fun m i g' e a hr => ?_⟩
 have h2 : rv.ownBlock ≠ some rb := fun e => by have := (own_ge h.row e).1; omega
 exact (hkb rb (by omega) h2).trans hr
theorem RowSt.pushOut (h : RowSt w rb outv k oys rv n xs W) (hrb : rb < w.heap.size) (hk : k ≤ 100000) (t : TypeId) :
  ∃ ro rc W2, (Builtin.append_ #[63, 63] t #[outv, .slice (some ⟨W.heap.size, 0, none⟩) 1 1]).run Tryz.prog (W.alloc (.cells #[rv] 153)) = .ok (.slice ro (k + 1) rc) W2 ∧
   Kept2 rb rb w W2 ∧ W2.ownsRow w.heap.size 153 1 (.slice ro (k + 1) rc) (k + 1) (oys ++ [rv]) ∧
   (∀ T ys, cellsAt W (rowA w outv rv) T ys → cellsAt W2 (outA w (.slice ro (k + 1) rc)) T ys) ∧
   (∀ r, cellsAt W (rowA w outv rv) r xs → rowAt W2 (outA w (.slice ro (k + 1) rc)) r rv) ∧
   (∀ m i g e a, readerAt W rb m i g e a → readerAt W2 rb m i g e a) := by
 obtain ⟨i0, z0, hinf, hz0, hz1, hz2, hz3⟩ := info_some Tryz.infoPcs
 have g : Grow W (W.alloc (.cells #[rv] 153)) := (Grow.refl _).alloc _
 have hsz : (W.alloc (.cells #[rv] 153)).heap.size = W.heap.size + 1 := by simp
 have hnb : (W.alloc (.cells #[rv] 153)).heap[W.heap.size]? = some (.cells #[rv] 153 (0, 0)) := heap_alloc_new _ _
 have hW := h.kept.size
 have hrow := own_grow h.row g
 have hout := own_grow h.out g
 have hone : ∀ u ∈ [rv], u.oneCell' = true := fun u hu => by
  obtain ⟨ao, cp, rfl⟩ := own_shape h.row
  simp at hu
  subst hu
  rfl
 obtain ⟨v', w3, hrun, hown3, hgrow, hnew⟩ := run_append_new (P := Tryz.prog) _ w.heap.size 63 t 153 i0 z0 1 24 Tryz.underlying63 hinf hz0 hz1 hz2 hz3 (by omega) outv k oys hout ⟨W.heap.size, 0, none⟩ 1 1 [rv] (by simp) (fun q u hu => by
  rw [Addr.add_lit]
  exact cell_in hnb (by simpa using hu)) hone (by unfold maxLen; omega) (by omega) (by omega)
 obtain ⟨ro, rc, rfl⟩ := own_shape hown3
 have hkb : ∀ b, b < W.heap.size → outv.ownBlock ≠ some b → w3.heap[b]? = W.heap[b]? := fun b h1 h2 => (hgrow.block b (by omega) (fun e => h2 e.symm)).trans (g.block b h1)
 have hnew2 : ∀ b, b < W.heap.size → outv.ownBlock ≠ some b → (Value.slice ro (k + 1) rc).ownBlock ≠ some b := fun b h1 h2 => by
  rcases hnew with e | ⟨q, e, hq⟩
  ·
   rw [e]; exact h2
  ·
   rw [e]
   intro e2
   cases e2
   omega
 have hA : ∀ b, b < W.heap.size → rowA w outv rv b → outA w (.slice ro (k + 1) rc) b ∧ w3.heap[b]? = W.heap[b]? := fun b h1 ⟨h2, h3, h4⟩ => ⟨⟨h2, hnew2 b h1 h3⟩, hkb b h1 h3⟩
 have hro : ∀ b, rv.ownBlock = some b → outv.ownBlock ≠ some b := fun b e1 e2 => by
  rcases h.row.2 with ⟨rfl, _⟩ | ⟨q, cap, cur, rfl, _, hq, _⟩
  ·
   cases e1
  ·
   simp [Value.ownBlock] at e1
   subst e1
   exact own_apart h.out hq (by decide) e2
 refine ⟨ro, rc, w3, hrun, kept2_grown (h.kept.trans (.grow g)) hgrow fun b e => (own_ge h.out e).1, hown3, fun T ys hc => hc.keep hA, fun r hc => ⟨n, xs, ?_, fun b e => ?_, hc.keep hA⟩, fun m i g' e a hr => ?_⟩
 ·
  exact own_le (own_kept_apart hrow hout (by decide) hgrow) (by omega)
 ·
  have hb := own_ge h.row e
  exact ⟨hb.1, hnew2 b hb.2 (hro b e)⟩
 ·
  have h2 : outv.ownBlock ≠ some rb := fun e => by have := (own_ge h.out e).1; omega
  exact (hkb rb (by omega) h2).trans hr
end
/-! ### a piece in its block -/
structure Mid (w : World) (rb : Nat) (W1 Q : World) : Prop where
 kept : Kept2 rb rb w Q
 same : ∀ b, w.heap.size ≤ b → b < W1.heap.size → Q.heap[b]? = W1.heap[b]?
 size : W1.heap.size < Q.heap.size
section
variable {w : World} {rb : Nat} {W1 Q Q' : World}
theorem Mid.first (hk : Kept2 rb rb w W1) (g : Grow W1 Q) (hs : W1.heap.size < Q.heap.size) : Mid w rb W1 Q := ⟨hk.trans (.grow g), fun b _ h => g.block b h, hs⟩
theorem Mid.on (h : Mid w rb W1 Q) (hrb : rb < w.heap.size) (k : Kept2 rb rb Q Q') : Mid w rb W1 Q' :=
 ⟨h.kept.trans k, fun b h1 h2 => (k.block b (Nat.lt_trans h2 h.size) (by omega) (by omega)).trans (h.same b h1 h2), Nat.lt_of_lt_of_le h.size k.size⟩
theorem Mid.setP (h : Mid w rb W1 Q) {o : Nat} (u : Value) (hw : w.heap.size ≤ W1.heap.size) : Mid w rb W1 (Q.setCell ⟨W1.heap.size, o, none⟩ u) :=
 ⟨⟨h.kept.os, h.kept.tape, h.kept.output, by simpa [World.setCell] using h.kept.size, fun k h1 h2 h3 => (set_apart _ (by omega)).trans (h.kept.block k h1 h2 h3)⟩, fun b h1 h2 => (set_apart _ (by omega)).trans (h.same b h1 h2), by simpa [World.setCell] using h.size⟩
end
theorem item_sign {w : World} {A : Nat → Prop} {it : Item} {gr : Bool} {sv rv : Value} {nm : Int} (k : Nat) (h : itemAt w A it (pieceC5 gr sv nm rv 0)) : itemAt w A (it.sgn k) (pieceC5 gr sv nm rv k) := by
 cases it with
 | set s sg =>
  obtain ⟨b, h1, h2, h3⟩ := h
  simp only [pieceC5, List.cons.injEq] at h1
  obtain ⟨e1, e2, e3, e4, _⟩ := h1
  exact ⟨b, by simp only [pieceC5]; rw [e1, e2, e3, e4], h2, h3⟩
 | grp n rows sg =>
  obtain ⟨rv', kk, ys, h1, h2, h3, h4⟩ := h
  simp only [pieceC5, List.cons.injEq] at h1
  obtain ⟨e1, e2, e3, e4, _⟩ := h1
  exact ⟨rv', kk, ys, by simp only [pieceC5]; rw [e1, e2, e3, e4], h2, h3, h4⟩
theorem item_set {w : World} {A : Nat → Prop} {s : UInt8 → Bool} {sg : Nat} {gr : Bool} {sv rv : Value} {nm z : Int} (h : itemAt w A (.set s sg) (pieceC5 gr sv nm rv z)) : gr = false := by
 obtain ⟨b, h1, h2, h3⟩ := h
 simp only [pieceC5, List.cons.injEq, Value.bool.injEq] at h1
 exact h1.1
theorem item_grp {w : World} {A : Nat → Prop} {rows : Tr} {n sg : Nat} {gr : Bool} {sv rv : Value} {nm z : Int} (h : itemAt w A (.grp n rows sg) (pieceC5 gr sv nm rv z)) : gr = true ∧ ∃ k ys, w.ownsRow 0 153 1 rv k ys ∧ (∀ b, rv.ownBlock = some b → A b) ∧ cellsAt w A rows ys := by
 obtain ⟨rv', kk, ys, h1, h2, h3, h4⟩ := h
 simp only [pieceC5, List.cons.injEq, Value.bool.injEq] at h1
 obtain ⟨e1, e2, e3, e4, _⟩ := h1
 subst e4
 exact ⟨e1, kk, ys, h2, h3, h4⟩
theorem sgn_zero {it : Item} (h : it.sig = 0) : it.sgn 0 = it := by
 cases it with
 | set s sg => simp [Item.sig] at h; subst h; rfl
 | grp n rows sg => simp [Item.sig] at h; subst h; rfl
theorem piece_oneCell (gr : Bool) (so : Option Addr) (sn sc : Nat) (nm : Int) (ro : Option Addr) (rn rc : Nat) (sg : Int) : ∀ u ∈ pieceC5 gr (.slice so sn sc) nm (.slice ro rn rc) sg, u.oneCell' = true := by
 intro u hu
 simp [pieceC5] at hu
 rcases hu with rfl | rfl | rfl | rfl | rfl <;> rfl
theorem comes_sign {m : List UInt8} {i : Nat} {c : UInt8} (h : m[i]? = some c) : comesB [42, 43, 63] m i = isSign c := by
 unfold comesB
 rw [h]
 simp only [contains_nat, isSign, List.any_cons, List.any_nil, Bool.or_false, Bool.or_assoc]
 rfl
end Go.Proofs.YtndpjdmfkhjiiaaGreatDoor
namespace Go.Proofs.YtndpjdmfkhjiiaaGreatDoor
open Go.RowKit
attribute [local go_sem] bs_size bs_toList bs_append bs_get bs_extract
def errR (w : World) (rb : Nat) : Nat := match w.heap[rb]? with | some (.cells c _ _) => (intOf (c.getD 3 undef)).toNat | _ => 0
theorem readerAt.err {w : World} {rb : Nat} {m : List UInt8} {i g e a : Nat} (h : readerAt w rb m i g e a) : errR w rb = e := by
 unfold readerAt at h
 simp [errR, h, intOf]
def leftR (w : World) (rb n : Nat) : Nat := if errR w rb = 0 then n + 2 - placeR w rb else 0
theorem leftR_ok {w : World} {rb : Nat} {m : List UInt8} {i g n : Nat} (h : readerAt w rb m i g 0 0) : leftR w rb n = n + 2 - i := by
 unfold leftR
 rw [h.err, h.place, if_pos rfl]
theorem leftR_err {w : World} {rb : Nat} {m : List UInt8} {i g e a n : Nat} (h : readerAt w rb m i g e a) (he : e ≠ 0) : leftR w rb n = 0 := by
 unfold leftR
 rw [h.err, if_neg he]
def outSt (w : World) (rb : Nat) (m : List UInt8) (f : Nat) (y : Except (Nat × Nat) (Tr × Nat × Nat)) (ov : Value) (k : Nat) (oys : List Value) (W : World) : Prop :=
 (∃ rs i g F, rs.length = k ∧ k ≤ i ∧ i ≤ m.length ∧ g ≤ 9 ∧ readerAt W rb m i g 0 0 ∧ cellsAt W (outA w ov) (rowsOf rs .nil) oys ∧ F < f ∧ bindO (pM m F false i g) (contR m F rs) = some y) ∨
  (∃ x j h, y = .error x ∧ x.1 ≠ 0 ∧ readerAt W rb m j h x.1 x.2 ∧ k ≤ m.length + 1)
def inSt (w : World) (rb : Nat) (m : List UInt8) (F : Nat) (rs : List Tr) (y : Except (Nat × Nat) (Tr × Nat × Nat)) (ov : Value) (oys : List Value) (i0 : Nat) (rv : Value) (n : Nat) (xs : List Value) (W : World) : Prop :=
 (∃ l f i g, cellsAt W (rowA w ov rv) (rowT l .nil) xs ∧ cellsAt W (rowA w ov rv) (rowsOf rs .nil) oys ∧ readerAt W rb m i g 0 0 ∧ i ≤ m.length ∧ g ≤ 9 ∧ i0 + n ≤ i ∧ inRow m F rs y l f i g) ∨
  (∃ x j h, y = .error x ∧ x.1 ≠ 0 ∧ readerAt W rb m j h x.1 x.2 ∧ n ≤ m.length + 1)
set_option maxRecDepth 20000 in
set_option maxHeartbeats 8000000 in
theorem rrows_any {m : List UInt8} {f : Nat} (hm : m.length ≤ 1000) (hf : ∀ f', f' < f → RRowsOK m f') : RRowsOK m f := by
 intro w rb i g y hr hi hg hy
 have hrb := lt_of_block hr
 have HF := hide hf
 have HR := hide hr
 have HY := hide hy
 clear hf hr hy
 go_enter Tryz.func74, Tryz.ntmps74
 go_wp2
 go_loopw [3] (fun ov W => ∃ k oys, Hid (Kept2 rb rb w W) ∧ Hid (W.ownsRow w.heap.size 153 1 ov k oys) ∧ Hid (outSt w rb m f y ov k oys W)) (fun _ W => leftR W rb m.length)
 case atStart =>
  refine ⟨0, [], hide (.refl _ _ _), hide (World.ownsRow_nil _ _ _ _), hide (.inl ?_)⟩
  obtain ⟨F, rfl⟩ : ∃ F, f = F + 1 := by
   cases f with
   | zero => have h := HY.out; cases h
   | succ F => exact ⟨F, rfl⟩
  refine ⟨[], i, g, F, rfl, by omega, hi, hg, HR.out, rfl, by omega, ?_⟩
  rw [← rows_open, HY.out]
  cases y with
  | error e => rfl
  | ok x => rfl
 case round =>
  obtain ⟨k, oys, HK, HO, HS⟩ := hrel
  rename World => W0
  obtain ⟨oo, oc, rfl⟩ := own_shape HO.out
  rcases HS.out with ⟨rs, i0, g0, F, hrs, hki, hi0, hg0, hr0, hc0, hF, hrel0⟩ | ⟨x, j, h, hyx, hx0, hrx, hkm⟩
  ·
   have HR0 := hide hr0
   have HC0 := hide hc0
   have HREL := hide hrel0
   have hl0 : leftR W0 rb m.length = m.length + 2 - i0 := leftR_ok hr0
   obtain ⟨c0, c1, c2, c3, c4⟩ := five_cells hr0
   clear hr0 hc0 hrel0 HS c0 c1 c2
   go_wp2
   go_loopw [4] (fun rv W => ∃ n xs, Hid (RowSt w rb (.slice oo k oc) k oys rv n xs W) ∧ Hid (inSt w rb m F rs y (.slice oo k oc) oys i0 rv n xs W)) (fun _ W => leftR W rb m.length)
   case atStart =>
    refine ⟨0, [], hide ⟨HK.out, World.ownsRow_nil _ _ _ _, HO.out⟩, hide (.inl ⟨[], F, i0, g0, rfl, HC0.out.keep fun b _ h => ⟨⟨h.1, h.2, by simp [Value.ownBlock]⟩, rfl⟩, HR0.out, hi0, hg0, by omega, by omega, HREL.out⟩)⟩
   case round =>
    obtain ⟨n, xs, HRS, HS⟩ := hrel
    rename World => W
    obtain ⟨ro, rc, rfl⟩ := own_shape HRS.out.row
    rcases HS.out with ⟨l, f1, i1, g1, hci, hco, hr1, hi1, hg1, hn1, hin⟩ | ⟨x, j, h, hyx, hx0, hrx, hnm⟩
    ·
     have HCI := hide hci
     have HCO := hide hco
     have HIN := hide hin
     have HRX := hide hr1
     have hl1 : leftR W rb m.length = m.length + 2 - i1 := leftR_ok hr1
     obtain ⟨c0, c1, c2, c3, c4⟩ := five_cells hr1
     clear hci hco hin hr1 HS c2 c4
     by_cases hlt : i1 < m.length
     ·
      obtain ⟨c, hc⟩ : ∃ c, m[i1]? = some c := ⟨_, List.getElem?_eq_getElem hlt⟩
      have hd : decide ((i1 : Int) < m.length) = true := by simpa using hlt
      have H124 : Hid (∀ n, Calls Tryz.prog 105 #[.pointer (some ⟨rb, 0, none⟩), .int .u8 124] (W.drewN n) fun e w' => e = .returned (.bool (isAt m i1 124)) ∧ ∃ k, w' = (W.drewN n).drewN k) := hide fun n => ris_any _ rb m i1 g1 0 0 124 124 rfl (by decide) HRX.out.draw
      have H41 : Hid (∀ n, Calls Tryz.prog 105 #[.pointer (some ⟨rb, 0, none⟩), .int .u8 41] (W.drewN n) fun e w' => e = .returned (.bool (isAt m i1 41)) ∧ ∃ k, w' = (W.drewN n).drewN k) := hide fun n => ris_any _ rb m i1 g1 0 0 41 41 rfl (by decide) HRX.out.draw
      cases h1 : isAt m i1 124 with
      | true =>
       have HEND : Hid (m[i1]? = none ∨ isAt m i1 124 = true ∨ isAt m i1 41 = true) := hide (.inr (.inl h1))
       rw [h1] at H124
       clear h1 hc H41
       go_wp2
       go_quiet ((go_at_call 105; exact Calls.quiet_of (H124.out _)))
       obtain ⟨X1, HW2⟩ : ∃ X1, Hid (X1 = World.drewN W nq) := ⟨_, hide rfl⟩
       rw [← HW2.out]
       have HRS : Hid (RowSt w rb (.slice oo k oc) k oys (.slice ro n rc) n xs X1) := by rw [HW2.out]; exact hide (HRS.out.keepW HRS.out.kept.drewN fun _ _ _ => rfl)
       have HCI : Hid (cellsAt X1 (rowA w (.slice oo k oc) (.slice ro n rc)) (rowT l .nil) xs) := by rw [HW2.out]; exact hide (HCI.out.grow ⟨rfl, rfl, rfl, Nat.le_refl _, fun _ _ => rfl⟩)
       have HCO : Hid (cellsAt X1 (rowA w (.slice oo k oc) (.slice ro n rc)) (rowsOf rs .nil) oys) := by rw [HW2.out]; exact hide (HCO.out.grow ⟨rfl, rfl, rfl, Nat.le_refl _, fun _ _ => rfl⟩)
       have HRX : Hid (readerAt X1 rb m i1 g1 0 0) := by rw [HW2.out]; exact hide HRX.out.draw
       clear HW2
       obtain ⟨po, pc, W2, hrun, hk2, ho2, hc2, hrow2, hrd2⟩ := HRS.out.pushOut hrb (by omega) 63
       have HRUN := hide hrun
       have HK2 := hide hk2
       have HO2 := hide ho2
       have HR2 := hide (hrd2 _ _ _ _ _ HRX.out)
       have HC2 : Hid (cellsAt W2 (outA w (.slice po (k + 1) pc)) (rowsOf (rs ++ [rowT l .nil]) .nil) (oys ++ [.slice ro n rc])) := hide (cellsAt_rows_snoc (hrow2 _ HCI.out) (hc2 _ _ HCO.out))
       have HCT := hide (inRow_end HIN.out HEND.out)
       clear hrun hk2 ho2 hrd2 hc2 hrow2
       go_wp2_with (at_builtin; refine Lib.wpList_append_run _ rfl _ _ _ _ rfl _ _ rfl rfl _ _ HRUN.out ?_)
       refine (rmay_any W2 rb m i1 g1 0 0 124 124 rfl (by decide) (by omega) HR2.out).mono ?_
       rintro en W3 ⟨rfl, hk3, hr3⟩
       have HK3 : Hid (Kept2 rb rb w W3) := hide (HK2.out.trans hk3)
       have HR3 := hide hr3
       have hkb : ∀ b, w.heap.size ≤ b → b < W2.heap.size → W3.heap[b]? = W2.heap[b]? := fun b h1 h2 => hk3.block b h2 (by omega) (by omega)
       have HO3 : Hid (W3.ownsRow w.heap.size 153 1 (.slice po (k + 1) pc) (k + 1) (oys ++ [.slice ro n rc])) := hide (own_keep HO2.out fun b hb => hkb b (own_ge HO2.out hb).1 (own_ge HO2.out hb).2)
       have HC3 : Hid (cellsAt W3 (outA w (.slice po (k + 1) pc)) (rowsOf (rs ++ [rowT l .nil]) .nil) (oys ++ [.slice ro n rc])) := hide (HC2.out.keep fun b h1 h2 => ⟨h2, hkb b h2.1 h1⟩)
       clear hk3 hr3 hkb
       obtain ⟨bo, HBO⟩ : ∃ bo, Hid (isAt m i1 124 = bo) := ⟨_, hide rfl⟩
       rw [HBO.out]
       have HR4 := HR3
       rw [HBO.out] at HR4
       have HCT2 := HCT.out
       unfold contR at HCT2
       simp only at HCT2
       rw [HBO.out] at HCT2
       have HCT3 := hide HCT2
       clear HCT2
       cases bo with
       | true =>
        have hi1lt := isAt_lt HBO.out
        have hl3 : leftR W3 rb m.length = m.length + 2 - (i1 + 1) := leftR_ok HR4.out
        obtain ⟨F', rfl⟩ : ∃ F', F = F' + 1 := by
         cases F with
         | zero => have h := HCT3.out; cases h
         | succ F => exact ⟨F, rfl⟩
        have HREL2 : Hid (bindO (pM m F' false (i1 + 1) g1) (contR m F' (rs ++ [rowT l .nil])) = some y) := by
         have h := HCT3.out
         rw [if_pos rfl] at h
         show _ = _
         rw [← rows_open, ← h]
         refine bindO_congr _ fun x _ => ?_
         rw [rowsOf_snoc]
        go_wp2
        go_roundw
        case rel => exact ⟨k + 1, _, HK3, HO3, hide (.inl ⟨rs ++ [rowT l .nil], i1 + 1, g1, F', by simp [hrs], by omega, by omega, hg1, HR4.out, HC3.out, by omega, HREL2.out⟩)⟩
        case measure => rw [hl3, hl0]; omega
       | false =>
        have HYE : Hid (y = .ok (rowsOf (rs ++ [rowT l .nil]) .nil, i1, g1)) := by
         have h := HCT3.out
         rw [if_neg (by decide)] at h
         rw [rowsOf_snoc]
         exact hide (Option.some.inj h).symm
        go_wp2
        go_ret
        refine ⟨HK3.out, _, _, _, rfl, HO3.out, ?_⟩
        rw [HYE.out]
        exact ⟨HC3.out, HR4.out⟩
      | false =>
       rw [h1] at H124
       cases h2 : isAt m i1 41 with
       | true =>
        have HEND : Hid (m[i1]? = none ∨ isAt m i1 124 = true ∨ isAt m i1 41 = true) := hide (.inr (.inr h2))
        rw [h2] at H41
        clear h1 h2 hc
        go_wp2
        go_quiet (first | (go_at_call_of 105 (Value.int IntKind.u8 124); exact Calls.quiet_of (H124.out _)) | (go_at_call_of 105 (Value.int IntKind.u8 41); exact Calls.quiet_of (H41.out _)))
        obtain ⟨X1, HW2⟩ : ∃ X1, Hid (X1 = World.drewN W nq) := ⟨_, hide rfl⟩
        rw [← HW2.out]
        have HRS : Hid (RowSt w rb (.slice oo k oc) k oys (.slice ro n rc) n xs X1) := by rw [HW2.out]; exact hide (HRS.out.keepW HRS.out.kept.drewN fun _ _ _ => rfl)
        have HCI : Hid (cellsAt X1 (rowA w (.slice oo k oc) (.slice ro n rc)) (rowT l .nil) xs) := by rw [HW2.out]; exact hide (HCI.out.grow ⟨rfl, rfl, rfl, Nat.le_refl _, fun _ _ => rfl⟩)
        have HCO : Hid (cellsAt X1 (rowA w (.slice oo k oc) (.slice ro n rc)) (rowsOf rs .nil) oys) := by rw [HW2.out]; exact hide (HCO.out.grow ⟨rfl, rfl, rfl, Nat.le_refl _, fun _ _ => rfl⟩)
        have HRX : Hid (readerAt X1 rb m i1 g1 0 0) := by rw [HW2.out]; exact hide HRX.out.draw
        clear HW2
        obtain ⟨po, pc, W2, hrun, hk2, ho2, hc2, hrow2, hrd2⟩ := HRS.out.pushOut hrb (by omega) 63
        have HRUN := hide hrun
        have HK2 := hide hk2
        have HO2 := hide ho2
        have HR2 := hide (hrd2 _ _ _ _ _ HRX.out)
        have HC2 : Hid (cellsAt W2 (outA w (.slice po (k + 1) pc)) (rowsOf (rs ++ [rowT l .nil]) .nil) (oys ++ [.slice ro n rc])) := hide (cellsAt_rows_snoc (hrow2 _ HCI.out) (hc2 _ _ HCO.out))
        have HCT := hide (inRow_end HIN.out HEND.out)
        clear hrun hk2 ho2 hrd2 hc2 hrow2
        go_wp2_with (at_builtin; refine Lib.wpList_append_run _ rfl _ _ _ _ rfl _ _ rfl rfl _ _ HRUN.out ?_)
        refine (rmay_any W2 rb m i1 g1 0 0 124 124 rfl (by decide) (by omega) HR2.out).mono ?_
        rintro en W3 ⟨rfl, hk3, hr3⟩
        have HK3 : Hid (Kept2 rb rb w W3) := hide (HK2.out.trans hk3)
        have HR3 := hide hr3
        have hkb : ∀ b, w.heap.size ≤ b → b < W2.heap.size → W3.heap[b]? = W2.heap[b]? := fun b h1 h2 => hk3.block b h2 (by omega) (by omega)
        have HO3 : Hid (W3.ownsRow w.heap.size 153 1 (.slice po (k + 1) pc) (k + 1) (oys ++ [.slice ro n rc])) := hide (own_keep HO2.out fun b hb => hkb b (own_ge HO2.out hb).1 (own_ge HO2.out hb).2)
        have HC3 : Hid (cellsAt W3 (outA w (.slice po (k + 1) pc)) (rowsOf (rs ++ [rowT l .nil]) .nil) (oys ++ [.slice ro n rc])) := hide (HC2.out.keep fun b h1 h2 => ⟨h2, hkb b h2.1 h1⟩)
        clear hk3 hr3 hkb
        obtain ⟨bo, HBO⟩ : ∃ bo, Hid (isAt m i1 124 = bo) := ⟨_, hide rfl⟩
        rw [HBO.out]
        have HR4 := HR3
        rw [HBO.out] at HR4
        have HCT2 := HCT.out
        unfold contR at HCT2
        simp only at HCT2
        rw [HBO.out] at HCT2
        have HCT3 := hide HCT2
        clear HCT2
        cases bo with
        | true =>
         have hi1lt := isAt_lt HBO.out
         have hl3 : leftR W3 rb m.length = m.length + 2 - (i1 + 1) := leftR_ok HR4.out
         obtain ⟨F', rfl⟩ : ∃ F', F = F' + 1 := by
          cases F with
          | zero => have h := HCT3.out; cases h
          | succ F => exact ⟨F, rfl⟩
         have HREL2 : Hid (bindO (pM m F' false (i1 + 1) g1) (contR m F' (rs ++ [rowT l .nil])) = some y) := by
          have h := HCT3.out
          rw [if_pos rfl] at h
          show _ = _
          rw [← rows_open, ← h]
          refine bindO_congr _ fun x _ => ?_
          rw [rowsOf_snoc]
         go_wp2
         go_roundw
         case rel => exact ⟨k + 1, _, HK3, HO3, hide (.inl ⟨rs ++ [rowT l .nil], i1 + 1, g1, F', by simp [hrs], by omega, by omega, hg1, HR4.out, HC3.out, by omega, HREL2.out⟩)⟩
         case measure => rw [hl3, hl0]; omega
        | false =>
         have HYE : Hid (y = .ok (rowsOf (rs ++ [rowT l .nil]) .nil, i1, g1)) := by
          have h := HCT3.out
          rw [if_neg (by decide)] at h
          rw [rowsOf_snoc]
          exact hide (Option.some.inj h).symm
         go_wp2
         go_ret
         refine ⟨HK3.out, _, _, _, rfl, HO3.out, ?_⟩
         rw [HYE.out]
         exact ⟨HC3.out, HR4.out⟩
       | false =>
        rw [h2] at H41
        have hq : ¬ (c.toNat = 124 ∨ c.toNat = 41) := by
         simp [isAt, hc] at h1 h2
         rintro (h | h)
         ·
          exact h1 h
         ·
          exact h2 h
        obtain ⟨f2, z, rfl, hz, hzz⟩ := inRow_piece HIN.out hc hq
        have HC := hide hc
        have HQ := hide hq
        have HZ := hide hz
        have HZZ := hide hzz
        have hfF : f2 + 1 ≤ F := HIN.out.1
        clear h1 h2 hc hq hz hzz HIN
        go_wp2
        go_quiet (first | (go_at_call_of 105 (Value.int IntKind.u8 124); exact Calls.quiet_of (H124.out _)) | (go_at_call_of 105 (Value.int IntKind.u8 41); exact Calls.quiet_of (H41.out _)))
        obtain ⟨X1, HW2⟩ : ∃ X1, Hid (X1 = World.drewN W nq) := ⟨_, hide rfl⟩
        rw [← HW2.out]
        have HRS : Hid (RowSt w rb (.slice oo k oc) k oys (.slice ro n rc) n xs X1) := by rw [HW2.out]; exact hide (HRS.out.keepW HRS.out.kept.drewN fun _ _ _ => rfl)
        have HCI : Hid (cellsAt X1 (rowA w (.slice oo k oc) (.slice ro n rc)) (rowT l .nil) xs) := by rw [HW2.out]; exact hide (HCI.out.grow ⟨rfl, rfl, rfl, Nat.le_refl _, fun _ _ => rfl⟩)
        have HCO : Hid (cellsAt X1 (rowA w (.slice oo k oc) (.slice ro n rc)) (rowsOf rs .nil) oys) := by rw [HW2.out]; exact hide (HCO.out.grow ⟨rfl, rfl, rfl, Nat.le_refl _, fun _ _ => rfl⟩)
        have HRX : Hid (readerAt X1 rb m i1 g1 0 0) := by rw [HW2.out]; exact hide HRX.out.draw
        clear HW2 H124 H41 c0 c1 c3
        go_wp2_with fail
        refine (ratom_any X1 rb m i1 g1 c HRX.out HC.out (by omega) HQ.out (HF.out f2 (by omega)) hg1 z HZ.out).mono ?_
        rintro en W1 ⟨hk1, gr, so, sn, sc, nm, po, pn, pc, rfl, hpost⟩
        have HPO := hide hpost
        have hkb : ∀ b, w.heap.size ≤ b → b < X1.heap.size → W1.heap[b]? = X1.heap[b]? := fun b h1 h2 => hk1.block b h2 (by omega) (by omega)
        have HKB := hide hkb
        have HRS1 : Hid (RowSt w rb (.slice oo k oc) k oys (.slice ro n rc) n xs W1) := hide (HRS.out.keepW (HRS.out.kept.trans hk1) hkb)
        have hs1 := hk1.size
        clear hpost hk1 hkb
        unfold pieceV
        cases z with
        | error x =>
         obtain ⟨j, h, hrx⟩ := HPO.out
         have HX0 := hide (aOut_err HZ.out)
         have HYX : Hid (y = .error x) := HZZ
         have hxn : ((x.1 : Int) == 0) = false := by have := HX0.out; simp; omega
         obtain ⟨P0, e0⟩ : ∃ P0, W1.alloc (.cells #[.bool false, .slice none 0 0, .int .i64 0, .slice none 0 0, .int .u8 0] 155) = P0 := ⟨_, rfl⟩
         have hP0 : P0.heap[W1.heap.size]? = some (.cells #[.bool false, .slice none 0 0, .int .i64 0, .slice none 0 0, .int .u8 0] 155 (0, 0)) := by rw [← e0]; exact heap_alloc_new _ _
         have gP0 : Grow W1 P0 := by rw [← e0]; exact (Grow.refl _).alloc _
         obtain ⟨x0, x1, x2, x3, x4⟩ := five_cells hP0
         have z0 := not_frozen (k := 0) hP0
         have z1 := not_frozen (k := 1) hP0
         have z2 := not_frozen (k := 2) hP0
         have z3 := not_frozen (k := 3) hP0
         have z4 := not_frozen (k := 4) hP0
         have hP := set_five hP0 (.bool gr) (.slice so sn sc) (.int .i64 nm) (.slice po pn pc) (.int .u8 0)
         have gP : Grow W1 _ := grow_five gP0 (Nat.le_refl _) (.bool gr) (.slice so sn sc) (.int .i64 nm) (.slice po pn pc) (.int .u8 0)
         obtain ⟨P1, eP⟩ : ∃ P1, (((((P0.setCell ⟨W1.heap.size, 0, none⟩ (.bool gr)).setCell ⟨W1.heap.size, 1, none⟩ (.slice so sn sc)).setCell ⟨W1.heap.size, 2, none⟩ (.int .i64 nm)).setCell ⟨W1.heap.size, 3, none⟩ (.slice po pn pc)).setCell ⟨W1.heap.size, 4, none⟩ (.int .u8 0)) = P1 := ⟨_, rfl⟩
         rw [eP] at hP gP
         have hsP : W1.heap.size < P1.heap.size := lt_of_block hP
         have HM : Hid (Mid w rb W1 P1) := hide (Mid.first HRS1.out.kept gP hsP)
         have HPB := hide hP
         obtain ⟨p0, p1, p2, p3, p4⟩ := five_cells hP
         clear hP0 gP0
         have HRQ := hide (hrx.grow gP)
         obtain ⟨r0, r1, r2, r3, r4⟩ := five_cells HRQ.out
         have HRSQ : Hid (RowSt w rb (.slice oo k oc) k oys (.slice ro n rc) n xs P1) := hide (HRS1.out.keepW HM.out.kept HM.out.same)
         clear hrx gP hP r0 r1 r2 r4 HZZ HPO
         obtain ⟨qo, qc, W9, hrun, hrs9, _, _, hrd9⟩ := HRSQ.out.push hrb (by omega) (pieceC5 gr (.slice so sn sc) nm (.slice po pn pc) 0) rfl (piece_oneCell _ _ _ _ _ _ _ _ _) 153
         have HRUN := hide hrun
         have HRS9 := hide hrs9
         have HR9 := hide (hrd9 _ _ _ _ _ HRQ.out)
         clear hrun hrs9 hrd9
         have hl9 : leftR W9 rb m.length = 0 := leftR_err HR9.out HX0.out
         go_wp2_with (at_builtin; refine Lib.wpList_append_run _ rfl _ _ _ _ rfl _ _ rfl rfl _ _ HRUN.out ?_)
         go_roundw
         case rel => exact ⟨n + 1, _, HRS9, hide (.inr ⟨x, _, h, HYX.out, HX0.out, HR9.out, by omega⟩)⟩
         case measure => rw [hl9, hl1]; omega
        | ok a =>
         obtain ⟨it, j, h⟩ := a
         obtain ⟨hij, hjm, h9, hsig, hgrp⟩ := aOut_ok HC.out hg1 HZ.out
         obtain ⟨hit, hrx⟩ := HPO.out
         simp only at hij hjm h9 hsig hgrp hit hrx
         have HIT := hide hit
         have HGRP := hide hgrp
         have hwX := HRS.out.kept.size
         obtain ⟨P0, e0⟩ : ∃ P0, W1.alloc (.cells #[.bool false, .slice none 0 0, .int .i64 0, .slice none 0 0, .int .u8 0] 155) = P0 := ⟨_, rfl⟩
         have hP0 : P0.heap[W1.heap.size]? = some (.cells #[.bool false, .slice none 0 0, .int .i64 0, .slice none 0 0, .int .u8 0] 155 (0, 0)) := by rw [← e0]; exact heap_alloc_new _ _
         have gP0 : Grow W1 P0 := by rw [← e0]; exact (Grow.refl _).alloc _
         obtain ⟨x0, x1, x2, x3, x4⟩ := five_cells hP0
         have z0 := not_frozen (k := 0) hP0
         have z1 := not_frozen (k := 1) hP0
         have z2 := not_frozen (k := 2) hP0
         have z3 := not_frozen (k := 3) hP0
         have z4 := not_frozen (k := 4) hP0
         have hP := set_five hP0 (.bool gr) (.slice so sn sc) (.int .i64 nm) (.slice po pn pc) (.int .u8 0)
         have gP : Grow W1 _ := grow_five gP0 (Nat.le_refl _) (.bool gr) (.slice so sn sc) (.int .i64 nm) (.slice po pn pc) (.int .u8 0)
         obtain ⟨P1, eP⟩ : ∃ P1, (((((P0.setCell ⟨W1.heap.size, 0, none⟩ (.bool gr)).setCell ⟨W1.heap.size, 1, none⟩ (.slice so sn sc)).setCell ⟨W1.heap.size, 2, none⟩ (.int .i64 nm)).setCell ⟨W1.heap.size, 3, none⟩ (.slice po pn pc)).setCell ⟨W1.heap.size, 4, none⟩ (.int .u8 0)) = P1 := ⟨_, rfl⟩
         rw [eP] at hP gP
         have hsP : W1.heap.size < P1.heap.size := lt_of_block hP
         have HM : Hid (Mid w rb W1 P1) := hide (Mid.first HRS1.out.kept gP hsP)
         have HPB := hide hP
         obtain ⟨p0, p1, p2, p3, p4⟩ := five_cells hP
         clear hP0 gP0
         have HRP := hide (hrx.grow gP)
         have HCI1 : Hid (cellsAt W1 (rowA w (.slice oo k oc) (.slice ro n rc)) (rowT l .nil) xs) := hide (HCI.out.keep fun b h1 h2 => ⟨h2, HKB.out b h2.1 h1⟩)
         have HCO1 : Hid (cellsAt W1 (rowA w (.slice oo k oc) (.slice ro n rc)) (rowsOf rs .nil) oys) := hide (HCO.out.keep fun b h1 h2 => ⟨h2, HKB.out b h2.1 h1⟩)
         have HITQ : Hid (∀ Q it ys, Mid w rb W1 Q → itemAt W1 (fun b => X1.heap.size ≤ b) it ys → itemAt Q (rowA w (.slice oo k oc) (.slice ro n rc)) it ys) := hide fun Q it ys hM hi => hi.keep fun b h1 h2 => ⟨⟨by omega, fun e => by have := own_ge HRS.out.out e; omega, fun e => by have := own_ge HRS.out.row e; omega⟩, hM.same b (by omega) h1⟩
         have HCQ : Hid (∀ Q T ys, Mid w rb W1 Q → cellsAt W1 (rowA w (.slice oo k oc) (.slice ro n rc)) T ys → cellsAt Q (rowA w (.slice oo k oc) (.slice ro n rc)) T ys) := hide fun Q T ys hM hc => hc.keep fun b h1 h2 => ⟨h2, hM.same b h2.1 h1⟩
         obtain ⟨r0, r1, r2, r3, r4⟩ := five_cells HRP.out
         clear hit hrx hgrp hP r2 r4 HPO HCI HCO
         go_wp2_with fail
         refine (ramong_any P1 rb m [42, 43, 63] j h 0 0 (by decide) HRP.out).mono ?_
         rintro en w6 ⟨rfl, nd, rfl⟩
         obtain ⟨bo, HBO⟩ : ∃ bo, Hid (comesB [42, 43, 63] m j = bo) := ⟨_, hide rfl⟩
         rw [HBO.out]
         clear r0 r1 r3 e0 eP x0 x1 x2 x3 x4 z0 z1 z2 z3 z4
         obtain ⟨Q1, HQ1⟩ : ∃ Q1, Hid (Q1 = World.drewN P1 nd) := ⟨_, hide rfl⟩
         rw [← HQ1.out]
         have gQ : Grow P1 Q1 := by rw [HQ1.out]; exact ⟨rfl, rfl, rfl, Nat.le_refl _, fun _ _ => rfl⟩
         have HM := hide (HM.out.on hrb (.grow gQ))
         have HPB := hide (Grow.get gQ HPB.out)
         have HRQ := hide (HRP.out.grow gQ)
         obtain ⟨p0, p1, p2, p3, p4⟩ := five_cells HPB.out
         obtain ⟨r0, r1, r2, r3, r4⟩ := five_cells HRQ.out
         clear HRP HQ1 gQ r2 r4
         cases bo with
         | false =>
          have HIN2 : Hid (inRow m F rs y (l ++ [it]) f2 j h) := by
           obtain ⟨s, hs, hss⟩ := HZZ.out
           have hso : s = .ok (0, j) := by
            unfold pSign at hs
            cases hcj : m[j]? with
            | none => rw [hcj] at hs; exact (Option.some.inj hs).symm
            | some cj =>
             rw [hcj] at hs
             try simp only at hs
             have h2 := HBO.out
             rw [comes_sign hcj] at h2
             rw [h2] at hs
             exact (Option.some.inj hs).symm
           rw [hso] at hss
           simp only [sgn_zero hsig] at hss
           exact hide hss
          obtain ⟨jj, hjj⟩ : ∃ jj, j = jj := ⟨_, rfl⟩
          have HRSQ : Hid (RowSt w rb (.slice oo k oc) k oys (.slice ro n rc) n xs Q1) := hide (HRS1.out.keepW HM.out.kept HM.out.same)
          have HIQ := hide (HITQ.out _ _ _ HM.out HIT.out)
          have HCIQ := hide (HCQ.out _ _ _ HM.out HCI1.out)
          have HCOQ := hide (HCQ.out _ _ _ HM.out HCO1.out)
          subst hjj
          obtain ⟨qo, qc, W9, hrun, hrs9, hc9, hi9, hrd9⟩ := HRSQ.out.push hrb (by omega) (pieceC5 gr (.slice so sn sc) nm (.slice po pn pc) 0) rfl (piece_oneCell _ _ _ _ _ _ _ _ _) 153
          have HRUN := hide hrun
          have HRS9 := hide hrs9
          have HR9 := hide (hrd9 _ _ _ _ _ HRQ.out)
          have HC9 := hide (cellsAt_snoc (hi9 _ _ HIQ.out) (hc9 _ _ HCIQ.out))
          have HCO9 := hide (hc9 _ _ HCOQ.out)
          clear hrun hrs9 hrd9 hc9 hi9
          have hl9 : leftR W9 rb m.length = m.length + 2 - j := leftR_ok HR9.out
          go_wp2_with (at_builtin; refine Lib.wpList_append_run _ rfl _ _ _ _ rfl _ _ rfl rfl _ _ HRUN.out ?_)
          go_roundw
          case rel => exact ⟨n + 1, _, HRS9, hide (.inl ⟨_, f2, j, h, HC9.out, HCO9.out, HR9.out, by omega, h9, by omega, HIN2.out⟩)⟩
          case measure => rw [hl9, hl1]; omega
         | true =>
          obtain ⟨c2, hc2⟩ : ∃ c2, m[j]? = some c2 := ⟨_, List.getElem?_eq_getElem (comesB_lt HBO.out)⟩
          have hs2 : isSign c2 = true := by rw [← comes_sign hc2]; exact HBO.out
          have hsg : pSign m it.nul j = if it.nul && !decide (c2.toNat = 63) then some (.error (4, j)) else some (.ok (c2.toNat, j + 1)) := by
           unfold pSign
           rw [hc2]
           simp only [hs2, if_true]
          have HC2 := hide hc2
          have HSG := hide hsg
          clear hc2 hs2 hsg
          cases it with
          | set s sg =>
           have hgr := item_set HIT.out
           subst hgr
           have HIN1 : Hid (inRow m F rs y (l ++ [(Item.set s sg).sgn c2.toNat]) f2 (j + 1) h) := by
            obtain ⟨s', hs, hss⟩ := HZZ.out
            try simp only at hs
            rw [HSG.out] at hs
            cases hs
            exact hide hss
           clear HZZ
           have hjlt : j < m.length := get_lt HC2.out
           have hjc : m[j] = c2 := by have h := HC2.out; rw [List.getElem?_eq_getElem hjlt] at h; exact Option.some.inj h
           go_wp2
           refine wp_region_free 10 99 Tryz.mixed2 rfl (by decide +kernel) Grow (fun _ _ _ => Grow.trans) (Grow.refl _)
            (fun i v w' => match i with
             | 0 => v = .pointer (some ⟨rb, 0, none⟩)
             | 1 => v = .pointer (some ⟨rb, 0, none⟩)
             | 2 => v = .pointer (some ⟨rb, 0, none⟩)
             | 3 => v = .string (bs m)
             | 4 => v = .pointer (some ⟨rb, 0, none⟩)
             | 5 => v = .pointer (some ⟨rb, 0, none⟩)
             | 6 => v = .pointer (some ⟨rb, 1, none⟩)
             | 7 => v = .int .i64 j
             | 8 => v = .int .u8 (c2.toNat : Int)
             | _ => v = .pointer (some ⟨W1.heap.size, 4, none⟩))
            (fun i v w1 w2 h hg => h) (fun _ _ => False) (fun _ _ _ _ h => h.elim) (fun i hi o ho a2 w2 hG hoff hdep => ?_) (fun vals w2 hG hvals => ?_)
           ·
            have hrd := HRQ.out.grow (hG.undrew)
            obtain ⟨k0, k1, _, _, _⟩ := five_cells hrd
            clear hrd
            match i, hi with
            | 0, _ =>
             obtain rfl := Option.some.inj ho
             have o0 := hoff 0 (by decide +kernel)
             simp at o0
             simp [opYields, go_sem, o0]
             exact Grow.refl _
            | 1, _ =>
             obtain rfl := Option.some.inj ho
             have d0 := hdep 0 (by decide +kernel)
             simp [slotOf, dstOf] at d0
             simp [opYields, go_sem, d0]
             exact Grow.refl _
            | 2, _ =>
             obtain rfl := Option.some.inj ho
             have d1 := hdep 1 (by decide +kernel)
             simp [slotOf, dstOf] at d1
             simp [opYields, go_sem, d1]
             exact Grow.refl _
            | 3, _ =>
             obtain rfl := Option.some.inj ho
             have d2 := hdep 2 (by decide +kernel)
             simp [slotOf, dstOf] at d2
             simp [opYields, go_sem, d2, k0]
             exact Grow.refl _
            | 4, _ =>
             obtain rfl := Option.some.inj ho
             have o0 := hoff 0 (by decide +kernel)
             simp at o0
             simp [opYields, go_sem, o0]
             exact Grow.refl _
            | 5, _ =>
             obtain rfl := Option.some.inj ho
             have d4 := hdep 4 (by decide +kernel)
             simp [slotOf, dstOf] at d4
             simp [opYields, go_sem, d4]
             exact Grow.refl _
            | 6, _ =>
             obtain rfl := Option.some.inj ho
             have d5 := hdep 5 (by decide +kernel)
             simp [slotOf, dstOf] at d5
             simp [opYields, go_sem, d5]
             exact Grow.refl _
            | 7, _ =>
             obtain rfl := Option.some.inj ho
             have d6 := hdep 6 (by decide +kernel)
             simp [slotOf, dstOf] at d6
             simp [opYields, go_sem, d6, k1]
             exact Grow.refl _
            | 8, _ =>
             obtain rfl := Option.some.inj ho
             have d3 := hdep 3 (by decide +kernel)
             simp [slotOf, dstOf] at d3
             have d7 := hdep 7 (by decide +kernel)
             simp [slotOf, dstOf] at d7
             simp [opYields, go_sem, d3, d7, hjlt, hjc]
             exact Grow.refl _
            | 9, _ =>
             obtain rfl := Option.some.inj ho
             have o5 := hoff 5 (by decide +kernel)
             simp at o5
             simp [opYields, go_sem, o5]
             exact Grow.refl _
            | k + 10, h => exact absurd h (by omega)
           ·
            have v8 := hvals 8 (by omega)
            have v9 := hvals 9 (by omega)
            simp only at v8 v9
            have gw := hG.undrew
            have HG2 := hide gw
            have hPw := Grow.get gw HPB.out
            obtain ⟨y0, y1, y2, y3, y4⟩ := five_cells hPw
            have yf := not_frozen (k := 4) hPw
            obtain ⟨Q2, eQ2⟩ : ∃ Q2, w2.setCell ⟨W1.heap.size, 4, none⟩ (.int .u8 (c2.toNat : Int)) = Q2 := ⟨_, rfl⟩
            have HM2 : Hid (Mid w rb W1 Q2) := by rw [← eQ2]; exact hide ((HM.out.on hrb (.grow gw)).setP _ (by omega))
            have hP2 : Q2.heap[W1.heap.size]? = some (.cells #[.bool false, .slice so sn sc, .int .i64 nm, .slice po pn pc, .int .u8 (c2.toNat : Int)] 155 (0, 0)) := by
             rw [← eQ2, set_blk hPw]
             rfl
            have hR2 : readerAt Q2 rb m j h 0 0 := by rw [← eQ2]; exact (set_apart _ (by omega)).trans (HRQ.out.grow gw)
            obtain ⟨s0, s1, s2, s3, s4⟩ := five_cells hR2
            have sf := not_frozen (k := 1) hR2
            obtain ⟨Q3, eQ3⟩ : ∃ Q3, Q2.setCell ⟨rb, 1, none⟩ (.int .i64 ((j : Int) + 1)) = Q3 := ⟨_, rfl⟩
            have hwr : IntKind.i64.wrap ((j : Int) + 1) = (j : Int) + 1 := wrap_i64_small _ (by omega) (by omega)
            have HM3 : Hid (Mid w rb W1 Q3) := by rw [← eQ3]; exact hide (HM2.out.on hrb (Kept2.setT _ _))
            have hP3 : Q3.heap[W1.heap.size]? = some (.cells #[.bool false, .slice so sn sc, .int .i64 nm, .slice po pn pc, .int .u8 (c2.toNat : Int)] 155 (0, 0)) := by
             rw [← eQ3]
             exact (set_apart _ (by omega)).trans hP2
            have HR3 : Hid (readerAt Q3 rb m (j + 1) h 0 0) := by rw [← eQ3]; exact hide (hR2.on _ rfl)
            obtain ⟨t0, t1, t2, t3, t4⟩ := five_cells hP3
            have HRSQ : Hid (RowSt w rb (.slice oo k oc) k oys (.slice ro n rc) n xs Q3) := hide (HRS1.out.keepW HM3.out.kept HM3.out.same)
            obtain ⟨jj, hjj⟩ : ∃ jj, j + 1 = jj := ⟨_, rfl⟩
            have HRQ := HR3
            rw [hjj] at HRQ
            clear hG hvals gw hPw hP2 hR2 hP3 HPB p0 p1 p2 p3 p4
            simp [over, dstOf, Act.put, v8, v9]
            have HIQ := hide (HITQ.out _ _ _ HM3.out (item_sign c2.toNat HIT.out))
            have HCIQ := hide (HCQ.out _ _ _ HM3.out HCI1.out)
            have HCOQ := hide (HCQ.out _ _ _ HM3.out HCO1.out)
            have HIN2 : Hid (inRow m F rs y (l ++ [(Item.set s sg).sgn c2.toNat]) f2 jj h) := by rw [← hjj]; exact HIN1
            obtain ⟨qo, qc, W9, hrun, hrs9, hc9, hi9, hrd9⟩ := HRSQ.out.push hrb (by omega) (pieceC5 false (.slice so sn sc) nm (.slice po pn pc) (c2.toNat : Int)) rfl (piece_oneCell _ _ _ _ _ _ _ _ _) 153
            have HRUN := hide hrun
            have HRS9 := hide hrs9
            have HR9 := hide (hrd9 _ _ _ _ _ HRQ.out)
            have HC9 := hide (cellsAt_snoc (hi9 _ _ HIQ.out) (hc9 _ _ HCIQ.out))
            have HCO9 := hide (hc9 _ _ HCOQ.out)
            clear hrun hrs9 hrd9 hc9 hi9
            have hl9 : leftR W9 rb m.length = m.length + 2 - jj := leftR_ok HR9.out
            go_wp2_with (at_builtin; refine Lib.wpList_append_run _ rfl _ _ _ _ rfl _ _ rfl rfl _ _ HRUN.out ?_)
            go_roundw
            case rel => exact ⟨n + 1, _, HRS9, hide (.inl ⟨_, f2, jj, h, HC9.out, HCO9.out, HR9.out, by omega, h9, by omega, HIN2.out⟩)⟩
            case measure => rw [hl9, hl1]; omega
          | grp n' rows sg =>
           obtain ⟨hgr, kq, yq, hown, hownA, hcq⟩ := item_grp HIT.out
           subst hgr
           obtain ⟨hwf, hpm⟩ := HGRP.out n' rows sg rfl
           have hsz : sz rows ≤ 5 * m.length + 1 := by
            have h := pM_sz hpm (by omega)
            simp at h
            omega
           have HOWN : Hid (∀ Q, Mid w rb W1 Q → Q.ownsRow 0 153 1 (.slice po pn pc) kq yq) := hide fun Q hM => own_keep hown fun b e => hM.same b (by have := hownA b e; omega) (hown.lt b e).2
           have HCQQ : Hid (∀ Q, Mid w rb W1 Q → cellsAt Q (fun b => X1.heap.size ≤ b) rows yq) := hide fun Q hM => hcq.keep fun b h1 h2 => ⟨h2, hM.same b (by omega) h1⟩
           have hkq : kq ≤ 1000000 := by
            obtain ⟨rs2, _, rfl, _⟩ := (wf_parts rows).2 hwf
            have h1 := (cellsAt_rows hcq).1
            have h2 := own_len hown
            have h3 := rowsOf_len rs2
            omega
           have HWF := hide hwf
           clear hown hownA hcq hpm hwf
           go_wp2_with fail
           refine (ris_any Q1 rb m j h 0 0 63 63 rfl (by decide) HRQ.out).mono ?_
           rintro en w7 ⟨rfl, nd2, rfl⟩
           obtain ⟨bq, HBQ⟩ : ∃ bq, Hid (isAt m j 63 = bq) := ⟨_, hide rfl⟩
           rw [HBQ.out]
           obtain ⟨Q1b, HQ1b⟩ : ∃ Q1b, Hid (Q1b = World.drewN Q1 nd2) := ⟨_, hide rfl⟩
           rw [← HQ1b.out]
           have gQ : Grow Q1 Q1b := by rw [HQ1b.out]; exact ⟨rfl, rfl, rfl, Nat.le_refl _, fun _ _ => rfl⟩
           have HM := hide (HM.out.on hrb (.grow gQ))
           have HPB := hide (Grow.get gQ HPB.out)
           have HRQ := hide (HRQ.out.grow gQ)
           obtain ⟨p0, p1, p2, p3, p4⟩ := five_cells HPB.out
           obtain ⟨r0, r1, r2, r3, r4⟩ := five_cells HRQ.out
           clear HQ1b gQ r2 r3 r4
           have h63 : decide (c2.toNat = 63) = bq := by
            have h := HBQ.out
            simp only [isAt, HC2.out] at h
            exact h
           cases bq with
           | true =>
            have HIN1 : Hid (inRow m F rs y (l ++ [(Item.grp n' rows sg).sgn c2.toNat]) f2 (j + 1) h) := by
             obtain ⟨s', hs, hss⟩ := HZZ.out
             try simp only at hs
             rw [HSG.out, h63] at hs
             simp at hs
             subst hs
             exact hide hss
            clear HZZ h63
            have hjlt : j < m.length := get_lt HC2.out
            have hjc : m[j] = c2 := by have h := HC2.out; rw [List.getElem?_eq_getElem hjlt] at h; exact Option.some.inj h
            go_wp2
            refine wp_region_free 10 99 Tryz.mixed2 rfl (by decide +kernel) Grow (fun _ _ _ => Grow.trans) (Grow.refl _)
             (fun i v w' => match i with
              | 0 => v = .pointer (some ⟨rb, 0, none⟩)
              | 1 => v = .pointer (some ⟨rb, 0, none⟩)
              | 2 => v = .pointer (some ⟨rb, 0, none⟩)
              | 3 => v = .string (bs m)
              | 4 => v = .pointer (some ⟨rb, 0, none⟩)
              | 5 => v = .pointer (some ⟨rb, 0, none⟩)
              | 6 => v = .pointer (some ⟨rb, 1, none⟩)
              | 7 => v = .int .i64 j
              | 8 => v = .int .u8 (c2.toNat : Int)
              | _ => v = .pointer (some ⟨W1.heap.size, 4, none⟩))
             (fun i v w1 w2 h hg => h) (fun _ _ => False) (fun _ _ _ _ h => h.elim) (fun i hi o ho a2 w2 hG hoff hdep => ?_) (fun vals w2 hG hvals => ?_)
            ·
             have hrd := HRQ.out.grow (hG.undrew)
             obtain ⟨k0, k1, _, _, _⟩ := five_cells hrd
             clear hrd
             match i, hi with
             | 0, _ =>
              obtain rfl := Option.some.inj ho
              have o0 := hoff 0 (by decide +kernel)
              simp at o0
              simp [opYields, go_sem, o0]
              exact Grow.refl _
             | 1, _ =>
              obtain rfl := Option.some.inj ho
              have d0 := hdep 0 (by decide +kernel)
              simp [slotOf, dstOf] at d0
              simp [opYields, go_sem, d0]
              exact Grow.refl _
             | 2, _ =>
              obtain rfl := Option.some.inj ho
              have d1 := hdep 1 (by decide +kernel)
              simp [slotOf, dstOf] at d1
              simp [opYields, go_sem, d1]
              exact Grow.refl _
             | 3, _ =>
              obtain rfl := Option.some.inj ho
              have d2 := hdep 2 (by decide +kernel)
              simp [slotOf, dstOf] at d2
              simp [opYields, go_sem, d2, k0]
              exact Grow.refl _
             | 4, _ =>
              obtain rfl := Option.some.inj ho
              have o0 := hoff 0 (by decide +kernel)
              simp at o0
              simp [opYields, go_sem, o0]
              exact Grow.refl _
             | 5, _ =>
              obtain rfl := Option.some.inj ho
              have d4 := hdep 4 (by decide +kernel)
              simp [slotOf, dstOf] at d4
              simp [opYields, go_sem, d4]
              exact Grow.refl _
             | 6, _ =>
              obtain rfl := Option.some.inj ho
              have d5 := hdep 5 (by decide +kernel)
              simp [slotOf, dstOf] at d5
              simp [opYields, go_sem, d5]
              exact Grow.refl _
             | 7, _ =>
              obtain rfl := Option.some.inj ho
              have d6 := hdep 6 (by decide +kernel)
              simp [slotOf, dstOf] at d6
              simp [opYields, go_sem, d6, k1]
              exact Grow.refl _
             | 8, _ =>
              obtain rfl := Option.some.inj ho
              have d3 := hdep 3 (by decide +kernel)
              simp [slotOf, dstOf] at d3
              have d7 := hdep 7 (by decide +kernel)
              simp [slotOf, dstOf] at d7
              simp [opYields, go_sem, d3, d7, hjlt, hjc]
              exact Grow.refl _
             | 9, _ =>
              obtain rfl := Option.some.inj ho
              have o5 := hoff 5 (by decide +kernel)
              simp at o5
              simp [opYields, go_sem, o5]
              exact Grow.refl _
             | k + 10, h => exact absurd h (by omega)
            ·
             have v8 := hvals 8 (by omega)
             have v9 := hvals 9 (by omega)
             simp only at v8 v9
             have gw := hG.undrew
             have HG2 := hide gw
             have hPw := Grow.get gw HPB.out
             obtain ⟨y0, y1, y2, y3, y4⟩ := five_cells hPw
             have yf := not_frozen (k := 4) hPw
             obtain ⟨Q2, eQ2⟩ : ∃ Q2, w2.setCell ⟨W1.heap.size, 4, none⟩ (.int .u8 (c2.toNat : Int)) = Q2 := ⟨_, rfl⟩
             have HM2 : Hid (Mid w rb W1 Q2) := by rw [← eQ2]; exact hide ((HM.out.on hrb (.grow gw)).setP _ (by omega))
             have hP2 : Q2.heap[W1.heap.size]? = some (.cells #[.bool true, .slice so sn sc, .int .i64 nm, .slice po pn pc, .int .u8 (c2.toNat : Int)] 155 (0, 0)) := by
              rw [← eQ2, set_blk hPw]
              rfl
             have hR2 : readerAt Q2 rb m j h 0 0 := by rw [← eQ2]; exact (set_apart _ (by omega)).trans (HRQ.out.grow gw)
             obtain ⟨s0, s1, s2, s3, s4⟩ := five_cells hR2
             have sf := not_frozen (k := 1) hR2
             obtain ⟨Q3, eQ3⟩ : ∃ Q3, Q2.setCell ⟨rb, 1, none⟩ (.int .i64 ((j : Int) + 1)) = Q3 := ⟨_, rfl⟩
             have hwr : IntKind.i64.wrap ((j : Int) + 1) = (j : Int) + 1 := wrap_i64_small _ (by omega) (by omega)
             have HM3 : Hid (Mid w rb W1 Q3) := by rw [← eQ3]; exact hide (HM2.out.on hrb (Kept2.setT _ _))
             have hP3 : Q3.heap[W1.heap.size]? = some (.cells #[.bool true, .slice so sn sc, .int .i64 nm, .slice po pn pc, .int .u8 (c2.toNat : Int)] 155 (0, 0)) := by
              rw [← eQ3]
              exact (set_apart _ (by omega)).trans hP2
             have HR3 : Hid (readerAt Q3 rb m (j + 1) h 0 0) := by rw [← eQ3]; exact hide (hR2.on _ rfl)
             obtain ⟨t0, t1, t2, t3, t4⟩ := five_cells hP3
             have HRSQ : Hid (RowSt w rb (.slice oo k oc) k oys (.slice ro n rc) n xs Q3) := hide (HRS1.out.keepW HM3.out.kept HM3.out.same)
             obtain ⟨jj, hjj⟩ : ∃ jj, j + 1 = jj := ⟨_, rfl⟩
             have HRQ := HR3
             rw [hjj] at HRQ
             clear hG hvals gw hPw hP2 hR2 hP3 HPB p0 p1 p2 p3 p4
             simp [over, dstOf, Act.put, v8, v9]
             have HIQ := hide (HITQ.out _ _ _ HM3.out (item_sign c2.toNat HIT.out))
             have HCIQ := hide (HCQ.out _ _ _ HM3.out HCI1.out)
             have HCOQ := hide (HCQ.out _ _ _ HM3.out HCO1.out)
             have HIN2 : Hid (inRow m F rs y (l ++ [(Item.grp n' rows sg).sgn c2.toNat]) f2 jj h) := by rw [← hjj]; exact HIN1
             obtain ⟨qo, qc, W9, hrun, hrs9, hc9, hi9, hrd9⟩ := HRSQ.out.push hrb (by omega) (pieceC5 true (.slice so sn sc) nm (.slice po pn pc) (c2.toNat : Int)) rfl (piece_oneCell _ _ _ _ _ _ _ _ _) 153
             have HRUN := hide hrun
             have HRS9 := hide hrs9
             have HR9 := hide (hrd9 _ _ _ _ _ HRQ.out)
             have HC9 := hide (cellsAt_snoc (hi9 _ _ HIQ.out) (hc9 _ _ HCIQ.out))
             have HCO9 := hide (hc9 _ _ HCOQ.out)
             clear hrun hrs9 hrd9 hc9 hi9
             have hl9 : leftR W9 rb m.length = m.length + 2 - jj := leftR_ok HR9.out
             go_wp2_with (at_builtin; refine Lib.wpList_append_run _ rfl _ _ _ _ rfl _ _ rfl rfl _ _ HRUN.out ?_)
             go_roundw
             case rel => exact ⟨n + 1, _, HRS9, hide (.inl ⟨_, f2, jj, h, HC9.out, HCO9.out, HR9.out, by omega, h9, by omega, HIN2.out⟩)⟩
             case measure => rw [hl9, hl1]; omega
           | false =>
            go_wp2_with fail
            refine (mayNothing_any (sz rows) rows (Nat.le_refl _) HWF.out Q1b _ _ kq yq (HOWN.out _ HM.out) (HCQQ.out _ HM.out) hkq (fun r hr => by simp at hr; subst hr; omega)).mono ?_
            rintro en Q1c ⟨rfl, gQ⟩
            obtain ⟨nb, HNB⟩ : ∃ nb, Hid (nothing rows = nb) := ⟨_, hide rfl⟩
            rw [HNB.out]
            have HM := hide (HM.out.on hrb (.grow gQ))
            have HPB := hide (Grow.get gQ HPB.out)
            have HRQ := hide (HRQ.out.grow gQ)
            obtain ⟨p0, p1, p2, p3, p4⟩ := five_cells HPB.out
            obtain ⟨r0, r1, r2, r3, r4⟩ := five_cells HRQ.out
            clear gQ r2 r3 r4
            cases nb with
            | false =>
             have HIN1 : Hid (inRow m F rs y (l ++ [(Item.grp n' rows sg).sgn c2.toNat]) f2 (j + 1) h) := by
              obtain ⟨s', hs, hss⟩ := HZZ.out
              try simp only at hs
              rw [HSG.out, show (Item.grp n' rows sg).nul = false from HNB.out] at hs
              simp at hs
              subst hs
              exact hide hss
             clear HZZ h63
             have hjlt : j < m.length := get_lt HC2.out
             have hjc : m[j] = c2 := by have h := HC2.out; rw [List.getElem?_eq_getElem hjlt] at h; exact Option.some.inj h
             go_wp2
             refine wp_region_free 10 99 Tryz.mixed2 rfl (by decide +kernel) Grow (fun _ _ _ => Grow.trans) (Grow.refl _)
              (fun i v w' => match i with
               | 0 => v = .pointer (some ⟨rb, 0, none⟩)
               | 1 => v = .pointer (some ⟨rb, 0, none⟩)
               | 2 => v = .pointer (some ⟨rb, 0, none⟩)
               | 3 => v = .string (bs m)
               | 4 => v = .pointer (some ⟨rb, 0, none⟩)
               | 5 => v = .pointer (some ⟨rb, 0, none⟩)
               | 6 => v = .pointer (some ⟨rb, 1, none⟩)
               | 7 => v = .int .i64 j
               | 8 => v = .int .u8 (c2.toNat : Int)
               | _ => v = .pointer (some ⟨W1.heap.size, 4, none⟩))
              (fun i v w1 w2 h hg => h) (fun _ _ => False) (fun _ _ _ _ h => h.elim) (fun i hi o ho a2 w2 hG hoff hdep => ?_) (fun vals w2 hG hvals => ?_)
             ·
              have hrd := HRQ.out.grow (hG.undrew)
              obtain ⟨k0, k1, _, _, _⟩ := five_cells hrd
              clear hrd
              match i, hi with
              | 0, _ =>
               obtain rfl := Option.some.inj ho
               have o0 := hoff 0 (by decide +kernel)
               simp at o0
               simp [opYields, go_sem, o0]
               exact Grow.refl _
              | 1, _ =>
               obtain rfl := Option.some.inj ho
               have d0 := hdep 0 (by decide +kernel)
               simp [slotOf, dstOf] at d0
               simp [opYields, go_sem, d0]
               exact Grow.refl _
              | 2, _ =>
               obtain rfl := Option.some.inj ho
               have d1 := hdep 1 (by decide +kernel)
               simp [slotOf, dstOf] at d1
               simp [opYields, go_sem, d1]
               exact Grow.refl _
              | 3, _ =>
               obtain rfl := Option.some.inj ho
               have d2 := hdep 2 (by decide +kernel)
               simp [slotOf, dstOf] at d2
               simp [opYields, go_sem, d2, k0]
               exact Grow.refl _
              | 4, _ =>
               obtain rfl := Option.some.inj ho
               have o0 := hoff 0 (by decide +kernel)
               simp at o0
               simp [opYields, go_sem, o0]
               exact Grow.refl _
              | 5, _ =>
               obtain rfl := Option.some.inj ho
               have d4 := hdep 4 (by decide +kernel)
               simp [slotOf, dstOf] at d4
               simp [opYields, go_sem, d4]
               exact Grow.refl _
              | 6, _ =>
               obtain rfl := Option.some.inj ho
               have d5 := hdep 5 (by decide +kernel)
               simp [slotOf, dstOf] at d5
               simp [opYields, go_sem, d5]
               exact Grow.refl _
              | 7, _ =>
               obtain rfl := Option.some.inj ho
               have d6 := hdep 6 (by decide +kernel)
               simp [slotOf, dstOf] at d6
               simp [opYields, go_sem, d6, k1]
               exact Grow.refl _
              | 8, _ =>
               obtain rfl := Option.some.inj ho
               have d3 := hdep 3 (by decide +kernel)
               simp [slotOf, dstOf] at d3
               have d7 := hdep 7 (by decide +kernel)
               simp [slotOf, dstOf] at d7
               simp [opYields, go_sem, d3, d7, hjlt, hjc]
               exact Grow.refl _
              | 9, _ =>
               obtain rfl := Option.some.inj ho
               have o5 := hoff 5 (by decide +kernel)
               simp at o5
               simp [opYields, go_sem, o5]
               exact Grow.refl _
              | k + 10, h => exact absurd h (by omega)
             ·
              have v8 := hvals 8 (by omega)
              have v9 := hvals 9 (by omega)
              simp only at v8 v9
              have gw := hG.undrew
              have HG2 := hide gw
              have hPw := Grow.get gw HPB.out
              obtain ⟨y0, y1, y2, y3, y4⟩ := five_cells hPw
              have yf := not_frozen (k := 4) hPw
              obtain ⟨Q2, eQ2⟩ : ∃ Q2, w2.setCell ⟨W1.heap.size, 4, none⟩ (.int .u8 (c2.toNat : Int)) = Q2 := ⟨_, rfl⟩
              have HM2 : Hid (Mid w rb W1 Q2) := by rw [← eQ2]; exact hide ((HM.out.on hrb (.grow gw)).setP _ (by omega))
              have hP2 : Q2.heap[W1.heap.size]? = some (.cells #[.bool true, .slice so sn sc, .int .i64 nm, .slice po pn pc, .int .u8 (c2.toNat : Int)] 155 (0, 0)) := by
               rw [← eQ2, set_blk hPw]
               rfl
              have hR2 : readerAt Q2 rb m j h 0 0 := by rw [← eQ2]; exact (set_apart _ (by omega)).trans (HRQ.out.grow gw)
              obtain ⟨s0, s1, s2, s3, s4⟩ := five_cells hR2
              have sf := not_frozen (k := 1) hR2
              obtain ⟨Q3, eQ3⟩ : ∃ Q3, Q2.setCell ⟨rb, 1, none⟩ (.int .i64 ((j : Int) + 1)) = Q3 := ⟨_, rfl⟩
              have hwr : IntKind.i64.wrap ((j : Int) + 1) = (j : Int) + 1 := wrap_i64_small _ (by omega) (by omega)
              have HM3 : Hid (Mid w rb W1 Q3) := by rw [← eQ3]; exact hide (HM2.out.on hrb (Kept2.setT _ _))
              have hP3 : Q3.heap[W1.heap.size]? = some (.cells #[.bool true, .slice so sn sc, .int .i64 nm, .slice po pn pc, .int .u8 (c2.toNat : Int)] 155 (0, 0)) := by
               rw [← eQ3]
               exact (set_apart _ (by omega)).trans hP2
              have HR3 : Hid (readerAt Q3 rb m (j + 1) h 0 0) := by rw [← eQ3]; exact hide (hR2.on _ rfl)
              obtain ⟨t0, t1, t2, t3, t4⟩ := five_cells hP3
              have HRSQ : Hid (RowSt w rb (.slice oo k oc) k oys (.slice ro n rc) n xs Q3) := hide (HRS1.out.keepW HM3.out.kept HM3.out.same)
              obtain ⟨jj, hjj⟩ : ∃ jj, j + 1 = jj := ⟨_, rfl⟩
              have HRQ := HR3
              rw [hjj] at HRQ
              clear hG hvals gw hPw hP2 hR2 hP3 HPB p0 p1 p2 p3 p4
              simp [over, dstOf, Act.put, v8, v9]
              have HIQ := hide (HITQ.out _ _ _ HM3.out (item_sign c2.toNat HIT.out))
              have HCIQ := hide (HCQ.out _ _ _ HM3.out HCI1.out)
              have HCOQ := hide (HCQ.out _ _ _ HM3.out HCO1.out)
              have HIN2 : Hid (inRow m F rs y (l ++ [(Item.grp n' rows sg).sgn c2.toNat]) f2 jj h) := by rw [← hjj]; exact HIN1
              obtain ⟨qo, qc, W9, hrun, hrs9, hc9, hi9, hrd9⟩ := HRSQ.out.push hrb (by omega) (pieceC5 true (.slice so sn sc) nm (.slice po pn pc) (c2.toNat : Int)) rfl (piece_oneCell _ _ _ _ _ _ _ _ _) 153
              have HRUN := hide hrun
              have HRS9 := hide hrs9
              have HR9 := hide (hrd9 _ _ _ _ _ HRQ.out)
              have HC9 := hide (cellsAt_snoc (hi9 _ _ HIQ.out) (hc9 _ _ HCIQ.out))
              have HCO9 := hide (hc9 _ _ HCOQ.out)
              clear hrun hrs9 hrd9 hc9 hi9
              have hl9 : leftR W9 rb m.length = m.length + 2 - jj := leftR_ok HR9.out
              go_wp2_with (at_builtin; refine Lib.wpList_append_run _ rfl _ _ _ _ rfl _ _ rfl rfl _ _ HRUN.out ?_)
              go_roundw
              case rel => exact ⟨n + 1, _, HRS9, hide (.inl ⟨_, f2, jj, h, HC9.out, HCO9.out, HR9.out, by omega, h9, by omega, HIN2.out⟩)⟩
              case measure => rw [hl9, hl1]; omega
            | true =>
             have HYX : Hid (y = .error (4, j)) := by
              obtain ⟨s', hs, hss⟩ := HZZ.out
              try simp only at hs
              rw [HSG.out, show (Item.grp n' rows sg).nul = true from HNB.out, h63] at hs
              simp at hs
              subst hs
              exact hide hss
             obtain ⟨x, hx⟩ : ∃ x : Nat × Nat, (4, j) = x := ⟨_, rfl⟩
             rw [hx] at HYX
             have HX0 : Hid (x.1 ≠ 0) := by rw [← hx]; exact hide (show (4 : Nat) ≠ 0 by decide)
             have hx1 : x.1 = 4 := by rw [← hx]
             have hx2 : x.2 = j := by rw [← hx]
             clear HZZ h63 hx
             go_wp2_with fail
             refine (wrong_any Q1c rb m j h 4 (j : Int) x.1 x.2 (by rw [hx1]; rfl) (by rw [hx2]) HRQ.out).mono ?_
             rintro en Q1d ⟨rfl, hk8, hr8⟩
             have HM := hide (HM.out.on hrb hk8)
             have HPB : Hid (Q1d.heap[W1.heap.size]? = _) := hide ((hk8.block _ (lt_of_block HPB.out) (by omega) (by omega)).trans HPB.out)
             have HRQ := hide hr8
             obtain ⟨p0, p1, p2, p3, p4⟩ := five_cells HPB.out
             obtain ⟨r0, r1, r2, r3, r4⟩ := five_cells HRQ.out
             clear hk8 hr8 r2 r3 r4
             have hjlt : j < m.length := get_lt HC2.out
             have hjc : m[j] = c2 := by have h := HC2.out; rw [List.getElem?_eq_getElem hjlt] at h; exact Option.some.inj h
             go_wp2
             refine wp_region_free 10 99 Tryz.mixed2 rfl (by decide +kernel) Grow (fun _ _ _ => Grow.trans) (Grow.refl _)
              (fun i v w' => match i with
               | 0 => v = .pointer (some ⟨rb, 0, none⟩)
               | 1 => v = .pointer (some ⟨rb, 0, none⟩)
               | 2 => v = .pointer (some ⟨rb, 0, none⟩)
               | 3 => v = .string (bs m)
               | 4 => v = .pointer (some ⟨rb, 0, none⟩)
               | 5 => v = .pointer (some ⟨rb, 0, none⟩)
               | 6 => v = .pointer (some ⟨rb, 1, none⟩)
               | 7 => v = .int .i64 j
               | 8 => v = .int .u8 (c2.toNat : Int)
               | _ => v = .pointer (some ⟨W1.heap.size, 4, none⟩))
              (fun i v w1 w2 h hg => h) (fun _ _ => False) (fun _ _ _ _ h => h.elim) (fun i hi o ho a2 w2 hG hoff hdep => ?_) (fun vals w2 hG hvals => ?_)
             ·
              have hrd := HRQ.out.grow (hG.undrew)
              obtain ⟨k0, k1, _, _, _⟩ := five_cells hrd
              clear hrd
              match i, hi with
              | 0, _ =>
               obtain rfl := Option.some.inj ho
               have o0 := hoff 0 (by decide +kernel)
               simp at o0
               simp [opYields, go_sem, o0]
               exact Grow.refl _
              | 1, _ =>
               obtain rfl := Option.some.inj ho
               have d0 := hdep 0 (by decide +kernel)
               simp [slotOf, dstOf] at d0
               simp [opYields, go_sem, d0]
               exact Grow.refl _
              | 2, _ =>
               obtain rfl := Option.some.inj ho
               have d1 := hdep 1 (by decide +kernel)
               simp [slotOf, dstOf] at d1
               simp [opYields, go_sem, d1]
               exact Grow.refl _
              | 3, _ =>
               obtain rfl := Option.some.inj ho
               have d2 := hdep 2 (by decide +kernel)
               simp [slotOf, dstOf] at d2
               simp [opYields, go_sem, d2, k0]
               exact Grow.refl _
              | 4, _ =>
               obtain rfl := Option.some.inj ho
               have o0 := hoff 0 (by decide +kernel)
               simp at o0
               simp [opYields, go_sem, o0]
               exact Grow.refl _
              | 5, _ =>
               obtain rfl := Option.some.inj ho
               have d4 := hdep 4 (by decide +kernel)
               simp [slotOf, dstOf] at d4
               simp [opYields, go_sem, d4]
               exact Grow.refl _
              | 6, _ =>
               obtain rfl := Option.some.inj ho
               have d5 := hdep 5 (by decide +kernel)
               simp [slotOf, dstOf] at d5
               simp [opYields, go_sem, d5]
               exact Grow.refl _
              | 7, _ =>
               obtain rfl := Option.some.inj ho
               have d6 := hdep 6 (by decide +kernel)
               simp [slotOf, dstOf] at d6
               simp [opYields, go_sem, d6, k1]
               exact Grow.refl _
              | 8, _ =>
               obtain rfl := Option.some.inj ho
               have d3 := hdep 3 (by decide +kernel)
               simp [slotOf, dstOf] at d3
               have d7 := hdep 7 (by decide +kernel)
               simp [slotOf, dstOf] at d7
               simp [opYields, go_sem, d3, d7, hjlt, hjc]
               exact Grow.refl _
              | 9, _ =>
               obtain rfl := Option.some.inj ho
               have o5 := hoff 5 (by decide +kernel)
               simp at o5
               simp [opYields, go_sem, o5]
               exact Grow.refl _
              | k + 10, h => exact absurd h (by omega)
             ·
              have v8 := hvals 8 (by omega)
              have v9 := hvals 9 (by omega)
              simp only at v8 v9
              have gw := hG.undrew
              have HG2 := hide gw
              have hPw := Grow.get gw HPB.out
              obtain ⟨y0, y1, y2, y3, y4⟩ := five_cells hPw
              have yf := not_frozen (k := 4) hPw
              obtain ⟨Q2, eQ2⟩ : ∃ Q2, w2.setCell ⟨W1.heap.size, 4, none⟩ (.int .u8 (c2.toNat : Int)) = Q2 := ⟨_, rfl⟩
              have HM2 : Hid (Mid w rb W1 Q2) := by rw [← eQ2]; exact hide ((HM.out.on hrb (.grow gw)).setP _ (by omega))
              have hP2 : Q2.heap[W1.heap.size]? = some (.cells #[.bool true, .slice so sn sc, .int .i64 nm, .slice po pn pc, .int .u8 (c2.toNat : Int)] 155 (0, 0)) := by
               rw [← eQ2, set_blk hPw]
               rfl
              have hR2 : readerAt Q2 rb m j h x.1 x.2 := by rw [← eQ2]; exact (set_apart _ (by omega)).trans (HRQ.out.grow gw)
              obtain ⟨s0, s1, s2, s3, s4⟩ := five_cells hR2
              have sf := not_frozen (k := 1) hR2
              obtain ⟨Q3, eQ3⟩ : ∃ Q3, Q2.setCell ⟨rb, 1, none⟩ (.int .i64 ((j : Int) + 1)) = Q3 := ⟨_, rfl⟩
              have hwr : IntKind.i64.wrap ((j : Int) + 1) = (j : Int) + 1 := wrap_i64_small _ (by omega) (by omega)
              have HM3 : Hid (Mid w rb W1 Q3) := by rw [← eQ3]; exact hide (HM2.out.on hrb (Kept2.setT _ _))
              have hP3 : Q3.heap[W1.heap.size]? = some (.cells #[.bool true, .slice so sn sc, .int .i64 nm, .slice po pn pc, .int .u8 (c2.toNat : Int)] 155 (0, 0)) := by
               rw [← eQ3]
               exact (set_apart _ (by omega)).trans hP2
              have HR3 : Hid (readerAt Q3 rb m (j + 1) h x.1 x.2) := by rw [← eQ3]; exact hide (hR2.on _ rfl)
              obtain ⟨t0, t1, t2, t3, t4⟩ := five_cells hP3
              have HRSQ : Hid (RowSt w rb (.slice oo k oc) k oys (.slice ro n rc) n xs Q3) := hide (HRS1.out.keepW HM3.out.kept HM3.out.same)
              obtain ⟨jj, hjj⟩ : ∃ jj, j + 1 = jj := ⟨_, rfl⟩
              have HRQ := HR3
              rw [hjj] at HRQ
              clear hG hvals gw hPw hP2 hR2 hP3 HPB p0 p1 p2 p3 p4
              simp [over, dstOf, Act.put, v8, v9]
              obtain ⟨qo, qc, W9, hrun, hrs9, _, _, hrd9⟩ := HRSQ.out.push hrb (by omega) (pieceC5 true (.slice so sn sc) nm (.slice po pn pc) (c2.toNat : Int)) rfl (piece_oneCell _ _ _ _ _ _ _ _ _) 153
              have HRUN := hide hrun
              have HRS9 := hide hrs9
              have HR9 := hide (hrd9 _ _ _ _ _ HRQ.out)
              clear hrun hrs9 hrd9
              have hl9 : leftR W9 rb m.length = 0 := leftR_err HR9.out HX0.out
              go_wp2_with (at_builtin; refine Lib.wpList_append_run _ rfl _ _ _ _ rfl _ _ rfl rfl _ _ HRUN.out ?_)
              go_roundw
              case rel => exact ⟨n + 1, _, HRS9, hide (.inr ⟨x, _, h, HYX.out, HX0.out, HR9.out, by omega⟩)⟩
              case measure => rw [hl9, hl1]; omega
     ·
      have hd : decide ((i1 : Int) < m.length) = false := by simpa using hlt
      have HEND : Hid (m[i1]? = none ∨ isAt m i1 124 = true ∨ isAt m i1 41 = true) := hide (.inl (List.getElem?_eq_none_iff.2 (by omega)))
      go_wp2
      go_quiet (fail)
      obtain ⟨X1, HW2⟩ : ∃ X1, Hid (X1 = World.drewN W nq) := ⟨_, hide rfl⟩
      rw [← HW2.out]
      have HRS : Hid (RowSt w rb (.slice oo k oc) k oys (.slice ro n rc) n xs X1) := by rw [HW2.out]; exact hide (HRS.out.keepW HRS.out.kept.drewN fun _ _ _ => rfl)
      have HCI : Hid (cellsAt X1 (rowA w (.slice oo k oc) (.slice ro n rc)) (rowT l .nil) xs) := by rw [HW2.out]; exact hide (HCI.out.grow ⟨rfl, rfl, rfl, Nat.le_refl _, fun _ _ => rfl⟩)
      have HCO : Hid (cellsAt X1 (rowA w (.slice oo k oc) (.slice ro n rc)) (rowsOf rs .nil) oys) := by rw [HW2.out]; exact hide (HCO.out.grow ⟨rfl, rfl, rfl, Nat.le_refl _, fun _ _ => rfl⟩)
      have HRX : Hid (readerAt X1 rb m i1 g1 0 0) := by rw [HW2.out]; exact hide HRX.out.draw
      clear HW2
      obtain ⟨po, pc, W2, hrun, hk2, ho2, hc2, hrow2, hrd2⟩ := HRS.out.pushOut hrb (by omega) 63
      have HRUN := hide hrun
      have HK2 := hide hk2
      have HO2 := hide ho2
      have HR2 := hide (hrd2 _ _ _ _ _ HRX.out)
      have HC2 : Hid (cellsAt W2 (outA w (.slice po (k + 1) pc)) (rowsOf (rs ++ [rowT l .nil]) .nil) (oys ++ [.slice ro n rc])) := hide (cellsAt_rows_snoc (hrow2 _ HCI.out) (hc2 _ _ HCO.out))
      have HCT := hide (inRow_end HIN.out HEND.out)
      clear hrun hk2 ho2 hrd2 hc2 hrow2
      go_wp2_with (at_builtin; refine Lib.wpList_append_run _ rfl _ _ _ _ rfl _ _ rfl rfl _ _ HRUN.out ?_)
      refine (rmay_any W2 rb m i1 g1 0 0 124 124 rfl (by decide) (by omega) HR2.out).mono ?_
      rintro en W3 ⟨rfl, hk3, hr3⟩
      have HK3 : Hid (Kept2 rb rb w W3) := hide (HK2.out.trans hk3)
      have HR3 := hide hr3
      have hkb : ∀ b, w.heap.size ≤ b → b < W2.heap.size → W3.heap[b]? = W2.heap[b]? := fun b h1 h2 => hk3.block b h2 (by omega) (by omega)
      have HO3 : Hid (W3.ownsRow w.heap.size 153 1 (.slice po (k + 1) pc) (k + 1) (oys ++ [.slice ro n rc])) := hide (own_keep HO2.out fun b hb => hkb b (own_ge HO2.out hb).1 (own_ge HO2.out hb).2)
      have HC3 : Hid (cellsAt W3 (outA w (.slice po (k + 1) pc)) (rowsOf (rs ++ [rowT l .nil]) .nil) (oys ++ [.slice ro n rc])) := hide (HC2.out.keep fun b h1 h2 => ⟨h2, hkb b h2.1 h1⟩)
      clear hk3 hr3 hkb
      obtain ⟨bo, HBO⟩ : ∃ bo, Hid (isAt m i1 124 = bo) := ⟨_, hide rfl⟩
      rw [HBO.out]
      have HR4 := HR3
      rw [HBO.out] at HR4
      have HCT2 := HCT.out
      unfold contR at HCT2
      simp only at HCT2
      rw [HBO.out] at HCT2
      have HCT3 := hide HCT2
      clear HCT2
      cases bo with
      | true =>
       have hi1lt := isAt_lt HBO.out
       have hl3 : leftR W3 rb m.length = m.length + 2 - (i1 + 1) := leftR_ok HR4.out
       obtain ⟨F', rfl⟩ : ∃ F', F = F' + 1 := by
        cases F with
        | zero => have h := HCT3.out; cases h
        | succ F => exact ⟨F, rfl⟩
       have HREL2 : Hid (bindO (pM m F' false (i1 + 1) g1) (contR m F' (rs ++ [rowT l .nil])) = some y) := by
        have h := HCT3.out
        rw [if_pos rfl] at h
        show _ = _
        rw [← rows_open, ← h]
        refine bindO_congr _ fun x _ => ?_
        rw [rowsOf_snoc]
       go_wp2
       go_roundw
       case rel => exact ⟨k + 1, _, HK3, HO3, hide (.inl ⟨rs ++ [rowT l .nil], i1 + 1, g1, F', by simp [hrs], by omega, by omega, hg1, HR4.out, HC3.out, by omega, HREL2.out⟩)⟩
       case measure => rw [hl3, hl0]; omega
      | false =>
       have HYE : Hid (y = .ok (rowsOf (rs ++ [rowT l .nil]) .nil, i1, g1)) := by
        have h := HCT3.out
        rw [if_neg (by decide)] at h
        rw [rowsOf_snoc]
        exact hide (Option.some.inj h).symm
       go_wp2
       go_ret
       refine ⟨HK3.out, _, _, _, rfl, HO3.out, ?_⟩
       rw [HYE.out]
       exact ⟨HC3.out, HR4.out⟩
    ·
     have HRX := hide hrx
     have HYX := hide hyx
     have HX0 := hide hx0
     obtain ⟨c0, c1, c2, c3, c4⟩ := five_cells hrx
     have hxn : ((x.1 : Int) == 0) = false := by simp; omega
     clear hrx hyx HS c0 c1 c2 c4
     go_wp2
     go_quiet (fail)
     obtain ⟨X1, HW2⟩ : ∃ X1, Hid (X1 = World.drewN W nq) := ⟨_, hide rfl⟩
     rw [← HW2.out]
     have HRS : Hid (RowSt w rb (.slice oo k oc) k oys (.slice ro n rc) n xs X1) := by rw [HW2.out]; exact hide (HRS.out.keepW HRS.out.kept.drewN fun _ _ _ => rfl)
     have HRX : Hid (readerAt X1 rb m j h x.1 x.2) := by rw [HW2.out]; exact hide HRX.out.draw
     clear HW2
     obtain ⟨po, pc, W2, hrun, hk2, ho2, _, _, hrd2⟩ := HRS.out.pushOut hrb (by omega) 63
     have HRUN := hide hrun
     have HK2 := hide hk2
     have HO2 := hide ho2
     have HR2 := hide (hrd2 _ _ _ _ _ HRX.out)
     clear hrun hk2 ho2 hrd2
     go_wp2_with (at_builtin; refine Lib.wpList_append_run _ rfl _ _ _ _ rfl _ _ rfl rfl _ _ HRUN.out ?_)
     refine (rmay_any W2 rb m j h x.1 x.2 124 124 rfl (by decide) (by omega) HR2.out).mono ?_
     rintro en W3 ⟨rfl, hk3, hr3⟩
     have HK3 : Hid (Kept2 rb rb w W3) := hide (HK2.out.trans hk3)
     have HR3 := hide hr3
     have HO3 : Hid (W3.ownsRow w.heap.size 153 1 (.slice po (k + 1) pc) (k + 1) (oys ++ [.slice ro n rc])) := hide (own_keep HO2.out fun b hb => hk3.block b (own_ge HO2.out hb).2 (by have := (own_ge HO2.out hb).1; omega) (by have := (own_ge HO2.out hb).1; omega))
     clear hk3 hr3
     obtain ⟨bo, HBO⟩ : ∃ bo, Hid (isAt m j 124 = bo) := ⟨_, hide rfl⟩
     rw [HBO.out]
     cases bo with
     | true =>
      have hl3 : leftR W3 rb m.length = 0 := leftR_err HR3.out HX0.out
      go_wp2
      go_roundw
      case rel => exact ⟨k + 1, _, HK3, HO3, hide (.inr ⟨x, _, h, HYX.out, HX0.out, HR3.out, by omega⟩)⟩
      case measure => rw [hl3, hl0]; omega
     | false =>
      go_wp2
      go_ret
      refine ⟨HK3.out, _, _, _, rfl, HO3.out, ?_⟩
      rw [HYX.out]
      exact ⟨_, h, HR3.out⟩
  ·
   have HRX := hide hrx
   have HYX := hide hyx
   obtain ⟨c0, c1, c2, c3, c4⟩ := five_cells hrx
   have hxn : ((x.1 : Int) == 0) = false := by simp; omega
   clear hrx HS c0 c1 c2 c4
   go_wp2
   go_ret
   refine ⟨HK.out, _, _, _, rfl, HO.out, ?_⟩
   rw [HYX.out]
   exact ⟨j, h, HRX.out⟩
theorem rrows_ok {m : List UInt8} (hm : m.length ≤ 1000) (f : Nat) : RRowsOK m f := by
 induction f using Nat.strongRecOn with
 | _ f ih => exact rrows_any hm ih
def maskPost (w : World) (m : List UInt8) (e : Ending) (w' : World) : Prop :=
 Grow w w' ∧ match maskIs m with
  | .error x => e = .returned (.tuple #[.slice none 0 0, .int .i64 0, .agg #[.int .i64 x.1, .int .i64 x.2]])
  | .ok x => ∃ v k ys, e = .returned (.tuple #[v, .int .i64 x.2, .agg #[.int .i64 0, .int .i64 0]]) ∧ w'.ownsRow w.heap.size 153 1 v k ys ∧ cellsAt w' (fun b => w.heap.size ≤ b) x.1 ys
theorem fault_set {w : World} {b : Nat} {y0 y1 : Value} {t : TypeId} (h : w.heap[b]? = some (.cells #[y0, y1] t (0, 0))) (x0 x1 : Value) : ((w.setCell ⟨b, 0, none⟩ x0).setCell ⟨b, 1, none⟩ x1).heap[b]? = some (.cells #[x0, x1] t (0, 0)) := by
 rw [set_blk (set_blk h _)]
 simp
set_option maxRecDepth 20000 in
set_option maxHeartbeats 4000000 in
theorem maskOf_any (w : World) (m : List UInt8) (hml : m.length ≤ 9223372036854775807) : Calls Tryz.prog 33 #[.string (bs m)] w (maskPost w m) := by
 have HEQ := hide (maskIs_eq m)
 obtain ⟨A, HA⟩ : ∃ A, Hid (A = w.alloc (.cells #[.int .i64 0, .int .i64 0] 65)) := ⟨_, hide rfl⟩
 have gA : Grow w A := by rw [HA.out]; exact (Grow.refl _).alloc _
 have hA0 : A.heap[w.heap.size]? = some (.cells #[.int .i64 0, .int .i64 0] 65 (0, 0)) := by rw [HA.out]; exact heap_alloc_new _ _
 have hAs : A.heap.size = w.heap.size + 1 := by rw [HA.out]; simp
 have GA := hide gA
 have HA0 := hide hA0
 have eA := HA.out.symm
 clear gA hA0 HA
 by_cases h60 : 60 < m.length
 ·
  have HE : Hid (maskIs m = .error (2, 0)) := by
   have h := HEQ.out
   unfold pMask at h
   rw [if_pos h60] at h
   exact hide (Option.some.inj h).symm
  have h602 : (60 : Int) < (m.length : Int) := by omega
  obtain ⟨r0, r1⟩ := cells_two HA0.out
  have z0 := not_frozen (k := 0) HA0.out
  have z1 := not_frozen (k := 1) HA0.out
  have hZ := fault_set HA0.out (.int .i64 2) (.int .i64 0)
  have hGZ : Grow w _ := (GA.out.setCell (p := ⟨w.heap.size, 0, none⟩) (Nat.le_refl _) (.int .i64 2)).setCell (p := ⟨w.heap.size, 1, none⟩) (Nat.le_refl _) (.int .i64 0)
  obtain ⟨Z, eZ⟩ : ∃ Z, (A.setCell ⟨w.heap.size, 0, none⟩ (.int .i64 2)).setCell ⟨w.heap.size, 1, none⟩ (.int .i64 0) = Z := ⟨_, rfl⟩
  rw [eZ] at hZ hGZ
  obtain ⟨t0, t1⟩ := cells_two hZ
  have HGZ := hide hGZ
  clear hZ hGZ h60 HEQ
  go_enter Tryz.func33, Tryz.ntmps33
  go_wp2
  simp [bodyPost, results, Tryz.results33, go_sem, t0, t1]
  refine ⟨HGZ.out, ?_⟩
  rw [HE.out]
  rfl
 ·
  have h602 : ¬ (60 : Int) < (m.length : Int) := by omega
  obtain ⟨y, hy⟩ : ∃ y, pM m (2 * m.length + 2) true 0 0 = some y := pM_some (m := m) (2 * m.length + 2) true 0 0 (by omega) (by simp)
  have HY := hide hy
  have HME : Hid ((bindO (some y) fun x => if x.2.1 < m.length then some (.error (1, x.2.1)) else some (.ok (x.1, x.2.2))) = some (maskIs m)) := by
   have h := HEQ.out
   unfold pMask at h
   rw [if_neg h60, hy] at h
   exact hide h
  obtain ⟨B, eB⟩ : ∃ B, A.alloc (.cells #[.string (bs m), .int .i64 0, .int .i64 0, .int .i64 0, .int .i64 0] 109) = B := ⟨_, rfl⟩
  have gB : Grow A B := by rw [← eB]; exact (Grow.refl _).alloc _
  have hB : readerAt B A.heap.size m 0 0 0 0 := by rw [← eB]; exact heap_alloc_new _ _
  have hBs : B.heap.size = w.heap.size + 2 := by rw [← eB]; simp [hAs]
  have HB := hide hB
  have HFB := hide (gB.get HA0.out)
  have HGB : Hid (Grow w B) := hide (GA.out.trans gB)
  have hm60 : m.length ≤ 1000 := by omega
  rw [hAs] at HB
  have HROWS := hide (rrows_ok (m := m) hm60 (2 * m.length + 2) B (w.heap.size + 1) 0 0 y HB.out (by omega) (by omega) HY.out)
  clear hy hB gB h60 HEQ
  go_enter Tryz.func33, Tryz.ntmps33
  go_wp2_with fail
  refine HROWS.out.mono ?_
  rintro en w1 ⟨hk1, v, k, ys, rfl, ho, hpost⟩
  obtain ⟨ao, cp, rfl⟩ := own_shape ho
  have hfb : w1.heap[w.heap.size]? = some (.cells #[.int .i64 0, .int .i64 0] 65 (0, 0)) := (hk1.block _ (by omega) (by omega) (by omega)).trans HFB.out
  have hgw : Grow w w1 := ⟨hk1.os.trans HGB.out.os, hk1.tape.trans HGB.out.tape, hk1.output.trans HGB.out.output, Nat.le_trans HGB.out.size hk1.size, fun b hb => (hk1.block b (by have := HGB.out.size; omega) (by omega) (by omega)).trans (HGB.out.block b hb)⟩
  have HPO := hide hpost
  have HO := hide ho
  have HFQ1 := hide hfb
  have HGQ1 := hide hgw
  have hs1 := hk1.size
  clear hpost ho hfb hgw hk1 HROWS eA eB
  cases y with
  | error x =>
   obtain ⟨j, h, hr⟩ := HPO.out
   have HE : Hid (maskIs m = .error x) := hide (Option.some.inj HME.out).symm
   have hx0 := eM HY.out
   have hxn : ((x.1 : Int) == 0) = false := by simp; omega
   have hxn2 : ((x.1 : Int) != 0) = true := by simp; omega
   obtain ⟨Q, HQQ⟩ : ∃ Q, Hid (Q = w1) := ⟨_, hide rfl⟩
   rw [← HQQ.out] at HFQ1 HGQ1 hr ⊢
   have HRQ := hide hr
   have HFQ := HFQ1
   have HGQ := HGQ1
   obtain ⟨r0, r1, r2, r3, r4⟩ := five_cells hr
   clear hr HPO HO HME hx0 HQQ
   go_wp2
   refine wp_region_free 6 53 Tryz.mixed2 rfl (by decide +kernel) Grow (fun _ _ _ => Grow.trans) (Grow.refl _)
    (fun i v w' => match i with
     | 0 => v = .pointer (some ⟨w.heap.size + 1, 0, none⟩)
     | 1 => v = .pointer (some ⟨w.heap.size + 1, 0, none⟩)
     | 2 => v = .pointer (some ⟨w.heap.size + 1, 3, none⟩)
     | 3 => v = .agg #[.int .i64 (x.1 : Nat), .int .i64 (x.2 : Nat)]
     | 4 => v = .slice none 0 0
     | _ => v = .int .i64 0)
    (fun i v w1 w2 h hg => h) (fun _ _ => False) (fun _ _ _ _ h => h.elim) (fun i hi o ho a2 w2 hG hoff hdep => ?_) (fun vals w2 hG hvals => ?_)
   ·
    have hrd := HRQ.out.grow (hG.undrew)
    obtain ⟨_, _, _, k3, k4⟩ := five_cells hrd
    clear hrd
    match i, hi with
    | 0, _ =>
     obtain rfl := Option.some.inj ho
     have o5 := hoff 5 (by decide +kernel)
     simp at o5
     simp [opYields, go_sem, o5]
     exact Grow.refl _
    | 1, _ =>
     obtain rfl := Option.some.inj ho
     have d0 := hdep 0 (by decide +kernel)
     simp [slotOf, dstOf] at d0
     simp [opYields, go_sem, d0]
     exact Grow.refl _
    | 2, _ =>
     obtain rfl := Option.some.inj ho
     have d1 := hdep 1 (by decide +kernel)
     simp [slotOf, dstOf] at d1
     simp [opYields, go_sem, d1]
     exact Grow.refl _
    | 3, _ =>
     obtain rfl := Option.some.inj ho
     have d2 := hdep 2 (by decide +kernel)
     simp [slotOf, dstOf] at d2
     simp [opYields, go_sem, d2, k3, k4]
     exact Grow.refl _
    | 4, _ =>
     obtain rfl := Option.some.inj ho
     simp [opYields, go_sem]
     exact Grow.refl _
    | 5, _ =>
     obtain rfl := Option.some.inj ho
     simp [opYields, go_sem]
     exact Grow.refl _
    | k + 6, h => exact absurd h (by omega)
   ·
    have v3 := hvals 3 (by omega)
    have v4 := hvals 4 (by omega)
    have v5 := hvals 5 (by omega)
    simp only at v3 v4 v5
    have hg2 : Grow Q w2 := hG.undrew
    have hr2 := hg2.get HFQ.out
    have y0 := not_frozen (k := 0) hr2
    have y1 := not_frozen (k := 1) hr2
    obtain ⟨s0, s1⟩ := cells_two hr2
    obtain ⟨Z, HZ⟩ : ∃ Z, Hid (Z = (w2.setCell ⟨w.heap.size, 0, none⟩ (.int .i64 x.1)).setCell ⟨w.heap.size, 1, none⟩ (.int .i64 x.2)) := ⟨_, hide rfl⟩
    have hZ : Z.heap[w.heap.size]? = some (.cells #[.int .i64 x.1, .int .i64 x.2] 65 (0, 0)) := by
     rw [HZ.out]; exact fault_set hr2 _ _
    have hGZ : Grow w Z := by
     rw [HZ.out]
     exact ((HGQ.out.trans hg2).setCell (Nat.le_refl _) _).setCell (Nat.le_refl _) _
    have eZ := HZ.out.symm
    obtain ⟨t0, t1⟩ := cells_two hZ
    have HGZ := hide hGZ
    clear hG hg2 hr2 hGZ hZ HZ hvals
    simp [over, dstOf, Act.put, v3, v4, v5]
    go_wp2
    clear eZ
    simp [bodyPost, results, Tryz.results33, go_sem, t0, t1]
    refine ⟨HGZ.out, ?_⟩
    rw [HE.out]
  | ok x =>
   obtain ⟨T, j, g⟩ := x
   obtain ⟨hc, hr⟩ := HPO.out
   simp only at hc hr
   obtain ⟨r0, r1, r2, r3, r4⟩ := five_cells hr
   have HR1 := hide hr
   by_cases hj : j < m.length
   ·
    have HE : Hid (maskIs m = .error (1, j)) := by
     have h := HME.out
     simp only [bindO, if_pos hj] at h
     exact hide (Option.some.inj h).symm
    have hjd : decide ((j : Int) < m.length) = true := by simpa using hj
    clear hc hr HPO HO HME
    go_wp2_with fail
    refine (wrong_any w1 (w.heap.size + 1) m j g 1 (j : Int) 1 j rfl rfl HR1.out).mono ?_
    rintro en Q ⟨rfl, hk2, hr2⟩
    obtain ⟨x, hx⟩ : ∃ x : Nat × Nat, (1, j) = x := ⟨_, rfl⟩
    have hx1 : x.1 = 1 := by rw [← hx]
    have hx2 : x.2 = j := by rw [← hx]
    have HRQ : Hid (readerAt Q (w.heap.size + 1) m j g x.1 x.2) := by rw [hx1, hx2]; exact hide hr2
    have HFQ : Hid (Q.heap[w.heap.size]? = some (.cells #[.int .i64 0, .int .i64 0] 65 (0, 0))) := hide ((hk2.block _ (lt_of_block HFQ1.out) (by omega) (by omega)).trans HFQ1.out)
    have HGQ : Hid (Grow w Q) := hide ⟨hk2.os.trans HGQ1.out.os, hk2.tape.trans HGQ1.out.tape, hk2.output.trans HGQ1.out.output, Nat.le_trans HGQ1.out.size hk2.size, fun b hb => (hk2.block b (Nat.lt_of_lt_of_le hb HGQ1.out.size) (by omega) (by omega)).trans (HGQ1.out.block b hb)⟩
    rw [hx] at HE
    have hxn : ((x.1 : Int) == 0) = false := by rw [hx1]; rfl
    have hxn2 : ((x.1 : Int) != 0) = true := by rw [hx1]; rfl
    obtain ⟨q0, q1, q2, q3, q4⟩ := five_cells HRQ.out
    clear hk2 hr2 hx hx1 hx2 r0 r1 r2 r3 r4
    go_wp2
    refine wp_region_free 6 53 Tryz.mixed2 rfl (by decide +kernel) Grow (fun _ _ _ => Grow.trans) (Grow.refl _)
     (fun i v w' => match i with
      | 0 => v = .pointer (some ⟨w.heap.size + 1, 0, none⟩)
      | 1 => v = .pointer (some ⟨w.heap.size + 1, 0, none⟩)
      | 2 => v = .pointer (some ⟨w.heap.size + 1, 3, none⟩)
      | 3 => v = .agg #[.int .i64 (x.1 : Nat), .int .i64 (x.2 : Nat)]
      | 4 => v = .slice none 0 0
      | _ => v = .int .i64 0)
     (fun i v w1 w2 h hg => h) (fun _ _ => False) (fun _ _ _ _ h => h.elim) (fun i hi o ho a2 w2 hG hoff hdep => ?_) (fun vals w2 hG hvals => ?_)
    ·
     have hrd := HRQ.out.grow (hG.undrew)
     obtain ⟨_, _, _, k3, k4⟩ := five_cells hrd
     clear hrd
     match i, hi with
     | 0, _ =>
      obtain rfl := Option.some.inj ho
      have o5 := hoff 5 (by decide +kernel)
      simp at o5
      simp [opYields, go_sem, o5]
      exact Grow.refl _
     | 1, _ =>
      obtain rfl := Option.some.inj ho
      have d0 := hdep 0 (by decide +kernel)
      simp [slotOf, dstOf] at d0
      simp [opYields, go_sem, d0]
      exact Grow.refl _
     | 2, _ =>
      obtain rfl := Option.some.inj ho
      have d1 := hdep 1 (by decide +kernel)
      simp [slotOf, dstOf] at d1
      simp [opYields, go_sem, d1]
      exact Grow.refl _
     | 3, _ =>
      obtain rfl := Option.some.inj ho
      have d2 := hdep 2 (by decide +kernel)
      simp [slotOf, dstOf] at d2
      simp [opYields, go_sem, d2, k3, k4]
      exact Grow.refl _
     | 4, _ =>
      obtain rfl := Option.some.inj ho
      simp [opYields, go_sem]
      exact Grow.refl _
     | 5, _ =>
      obtain rfl := Option.some.inj ho
      simp [opYields, go_sem]
      exact Grow.refl _
     | k + 6, h => exact absurd h (by omega)
    ·
     have v3 := hvals 3 (by omega)
     have v4 := hvals 4 (by omega)
     have v5 := hvals 5 (by omega)
     simp only at v3 v4 v5
     have hg2 : Grow Q w2 := hG.undrew
     have hr2 := hg2.get HFQ.out
     have y0 := not_frozen (k := 0) hr2
     have y1 := not_frozen (k := 1) hr2
     obtain ⟨s0, s1⟩ := cells_two hr2
     obtain ⟨Z, HZ⟩ : ∃ Z, Hid (Z = (w2.setCell ⟨w.heap.size, 0, none⟩ (.int .i64 x.1)).setCell ⟨w.heap.size, 1, none⟩ (.int .i64 x.2)) := ⟨_, hide rfl⟩
     have hZ : Z.heap[w.heap.size]? = some (.cells #[.int .i64 x.1, .int .i64 x.2] 65 (0, 0)) := by
      rw [HZ.out]; exact fault_set hr2 _ _
     have hGZ : Grow w Z := by
      rw [HZ.out]
      exact ((HGQ.out.trans hg2).setCell (Nat.le_refl _) _).setCell (Nat.le_refl _) _
     have eZ := HZ.out.symm
     obtain ⟨t0, t1⟩ := cells_two hZ
     have HGZ := hide hGZ
     clear hG hg2 hr2 hGZ hZ HZ hvals
     simp [over, dstOf, Act.put, v3, v4, v5]
     go_wp2
     clear eZ
     simp [bodyPost, results, Tryz.results33, go_sem, t0, t1]
     refine ⟨HGZ.out, ?_⟩
     rw [HE.out]
   ·
    have HE : Hid (maskIs m = .ok (T, g)) := by
     have h := HME.out
     simp only [bindO, if_neg hj] at h
     exact hide (Option.some.inj h).symm
    have hjd : decide ((j : Int) < m.length) = false := by simpa using hj
    obtain ⟨Q, HQQ⟩ : ∃ Q, Hid (Q = w1) := ⟨_, hide rfl⟩
    have HC : Hid (cellsAt Q (fun b => w.heap.size + 2 ≤ b) T ys) := by rw [HQQ.out]; exact hide (hc.keep fun b _ h2 => ⟨by have := h2.1; omega, rfl⟩)
    have HO : Hid (Q.ownsRow (w.heap.size + 2) 153 1 (.slice ao k cp) k ys) := by rw [HQQ.out]; exact hide (own_le HO.out (by omega))
    rw [← HQQ.out] at HFQ1 HGQ1 HR1 ⊢
    have HRQ := HR1
    have HFQ := HFQ1
    have HGQ := HGQ1
    clear hc hr HPO HME HQQ r0 r1 r2 r3 r4
    obtain ⟨r0, r1, r2, r3, r4⟩ := five_cells HRQ.out
    go_wp2
    refine wp_region_free 8 53 Tryz.mixed2 rfl (by decide +kernel) Grow (fun _ _ _ => Grow.trans) (Grow.refl _)
     (fun i v w' => match i with
      | 0 => v = .slice ao k cp
      | 1 => v = .pointer (some ⟨w.heap.size + 1, 0, none⟩)
      | 2 => v = .pointer (some ⟨w.heap.size + 1, 0, none⟩)
      | 3 => v = .pointer (some ⟨w.heap.size + 1, 2, none⟩)
      | 4 => v = .int .i64 (g : Nat)
      | 5 => v = .agg #[.int .i64 0, .int .i64 0]
      | 6 => v = .slice ao k cp
      | _ => v = .int .i64 (g : Nat))
     (fun i v w1 w2 h hg => h) (fun _ _ => False) (fun _ _ _ _ h => h.elim) (fun i hi o ho a2 w2 hG hoff hdep => ?_) (fun vals w2 hG hvals => ?_)
    ·
     have hrd := HRQ.out.grow (hG.undrew)
     obtain ⟨_, _, k2, _, _⟩ := five_cells hrd
     clear hrd
     match i, hi with
     | 0, _ =>
      obtain rfl := Option.some.inj ho
      have o6 := hoff 6 (by decide +kernel)
      simp at o6
      simp [opYields, go_sem, o6]
      exact Grow.refl _
     | 1, _ =>
      obtain rfl := Option.some.inj ho
      have o5 := hoff 5 (by decide +kernel)
      simp at o5
      simp [opYields, go_sem, o5]
      exact Grow.refl _
     | 2, _ =>
      obtain rfl := Option.some.inj ho
      have d1 := hdep 1 (by decide +kernel)
      simp [slotOf, dstOf] at d1
      simp [opYields, go_sem, d1]
      exact Grow.refl _
     | 3, _ =>
      obtain rfl := Option.some.inj ho
      have d2 := hdep 2 (by decide +kernel)
      simp [slotOf, dstOf] at d2
      simp [opYields, go_sem, d2]
      exact Grow.refl _
     | 4, _ =>
      obtain rfl := Option.some.inj ho
      have d3 := hdep 3 (by decide +kernel)
      simp [slotOf, dstOf] at d3
      simp [opYields, go_sem, d3, k2]
      exact Grow.refl _
     | 5, _ =>
      obtain rfl := Option.some.inj ho
      simp [opYields, go_sem]
      exact Grow.refl _
     | 6, _ =>
      obtain rfl := Option.some.inj ho
      have d0 := hdep 0 (by decide +kernel)
      simp [slotOf, dstOf] at d0
      simp [opYields, go_sem, d0]
      exact Grow.refl _
     | 7, _ =>
      obtain rfl := Option.some.inj ho
      have d4 := hdep 4 (by decide +kernel)
      simp [slotOf, dstOf] at d4
      simp [opYields, go_sem, d4]
      exact Grow.refl _
     | k + 8, h => exact absurd h (by omega)
    ·
     have v5 := hvals 5 (by omega)
     have v6 := hvals 6 (by omega)
     have v7 := hvals 7 (by omega)
     simp only at v5 v6 v7
     have hg2 : Grow Q w2 := hG.undrew
     have hr2 := hg2.get HFQ.out
     have y0 := not_frozen (k := 0) hr2
     have y1 := not_frozen (k := 1) hr2
     obtain ⟨s0, s1⟩ := cells_two hr2
     obtain ⟨Z, HZ⟩ : ∃ Z, Hid (Z = (w2.setCell ⟨w.heap.size, 0, none⟩ (.int .i64 0)).setCell ⟨w.heap.size, 1, none⟩ (.int .i64 0)) := ⟨_, hide rfl⟩
     have hZ : Z.heap[w.heap.size]? = some (.cells #[.int .i64 0, .int .i64 0] 65 (0, 0)) := by
      rw [HZ.out]; exact fault_set hr2 _ _
     have hGZ : Grow w Z := by
      rw [HZ.out]
      exact ((HGQ.out.trans hg2).setCell (Nat.le_refl _) _).setCell (Nat.le_refl _) _
     have hkZ : ∀ b, w.heap.size + 2 ≤ b → b < Q.heap.size → Z.heap[b]? = Q.heap[b]? := fun b h1 h2 => by
      rw [HZ.out]
      exact (set_apart _ (by omega)).trans ((set_apart _ (by omega)).trans (hg2.block b h2))
     have HOZ : Hid (Z.ownsRow w.heap.size 153 1 (.slice ao k cp) k ys) := hide (own_le (own_keep HO.out fun b e => hkZ b (by have := (own_ge HO.out e).1; omega) (own_ge HO.out e).2) (by omega))
     have HCZ : Hid (cellsAt Z (fun b => w.heap.size ≤ b) T ys) := hide (HC.out.keep fun b h1 h2 => ⟨by omega, hkZ b (by omega) h1⟩)
     have eZ := HZ.out.symm
     obtain ⟨t0, t1⟩ := cells_two hZ
     have HGZ := hide hGZ
     clear hG hg2 hr2 hGZ hZ HZ hvals hkZ
     simp [over, dstOf, Act.put, v5, v6, v7]
     go_wp2
     clear eZ
     simp [bodyPost, results, Tryz.results33, go_sem, t0, t1]
     refine ⟨HGZ.out, ?_⟩
     rw [HE.out]
     exact ⟨_, k, ys, rfl, HOZ.out, HCZ.out⟩
theorem own_first {w : World} {B e size n : Nat} {v : Value} {xs : List Value} (h : w.ownsRow B e size v n xs) (hn : 0 < n) : ∃ b cp, v = .slice (some ⟨b, 0, none⟩) n cp ∧ b < w.heap.size ∧ ∀ i u, xs[i]? = some u → w.cell? ⟨b, i, none⟩ = some u := by
 rcases h.2 with ⟨_, h0⟩ | ⟨g, cap, cur, rfl, _, h2, _⟩
 ·
  omega
 ·
  exact ⟨g, cap, rfl, lt_of_block h2, fun i u hu => own_cell h hu⟩
theorem valsT_snoc (whole : List UInt8) (gs : List (List UInt8)) (l : List (List UInt8 × Int)) (x : List UInt8 × Int) : valsT whole gs (l ++ [x]) = valsT whole gs l ++ valT whole gs x := by simp [valsT]
theorem take_more {q v x : List UInt8} {most : Nat} (h : q.take most = v.take most) (hq : most ≤ q.length) : q.take most = (v ++ x).take most := by
 have hv : most ≤ v.length := by
  have h1 := congrArg List.length h
  rw [List.length_take, List.length_take] at h1
  omega
 rw [h, List.take_append_of_le_length hv]
set_option maxRecDepth 20000 in
set_option maxHeartbeats 8000000 in
theorem expandOf_any (t whole : List UInt8) (gs : List (List UInt8)) (v : Value) (w : World) (most : Nat) (l : List (List UInt8 × Int)) (ht : t.length ≤ 2000000) (hN : tmAt t 0 = some l) (hwl : whole.length ≤ 2000000) (hgl : gs.length ≤ 2000000)
  (hgs : ∀ s ∈ gs, s.length ≤ 2000000) (hmost : most ≤ 2000000) (hv : readsStrs w w.heap.size v gs) (hlen : l.length ≤ 2000000) (hxl : ∀ x ∈ l, (valT whole gs x).length ≤ 2000000) (htot : ∀ k, (valsT whole gs (l.take k)).length ≤ 2000000 * k) :
  Calls Tryz.prog 40 #[.string (bs t), .string (bs whole), v, .int .i64 most] w fun e w' => e = .returned (.tuple #[.string (bs ((valsT whole gs l).take most)), .int .i64 ((valsT whole gs l).length : Nat)]) ∧ Grow w w' := by
 have hT := template_any t w ht
 rw [hN] at hT
 have HTM := hide hT
 obtain ⟨ao, cp, hvv, hcell⟩ := hv
 have HC := hide hcell
 have HXL := hide hxl
 have HTOT := hide htot
 have hgl2 : (gs.length : Int) ≤ 2000000 := by omega
 subst hvv
 clear hT hcell hxl htot hgs hN
 go_enter Tryz.func40, Tryz.ntmps40
 go_wp2_with fail
 refine HTM.out.mono ?_
 rintro e w1 ⟨v1, v2, b, rfl, hg, rfl, h1, h2⟩
 have HG := hide hg
 have H1 := hide h1
 have H2 := hide h2
 obtain ⟨o1, c1, rfl⟩ := own_shape h1
 obtain ⟨o2, c2, rfl⟩ := own_shape h2
 clear hg h1 h2 HTM
 obtain ⟨n, hn⟩ : ∃ n, l.length = n := ⟨_, rfl⟩
 have hm1 : (l.map (·.1)).length = n := by simp [hn]
 have hm2 : (l.map (·.2)).length = n := by simp [hn]
 go_wp2
 go_loopw [13, 14, 15] (fun sv mv iv wr => ∃ (k : Nat) (q V : List UInt8), k ≤ n ∧ iv = .int .i64 k ∧ sv = .string (bs q) ∧ mv = .int .i64 V.length ∧ wr = w1 ∧ Hid (V = valsT whole gs (l.take k)) ∧ Hid (q.take most = V.take most) ∧ Hid (q.length < most → q = V) ∧ q.length ≤ 4000000 ∧ V.length ≤ 2000000 * k) (fun _ _ iv _ => n - (intOf iv).toNat)
 case atStart => exact ⟨0, [], [], by omega, rfl, rfl, rfl, rfl, hide (by simp [valsT]), hide rfl, hide fun _ => rfl, by simp, by simp⟩
 case round =>
  obtain ⟨k, q, V, hk, rfl, rfl, rfl, rfl, HV, HQ, HQE, hql, hVl⟩ := hrel
  by_cases hlt : k < n
  ·
   have hlt2 : (k : Int) < (n : Int) := by omega
   obtain ⟨⟨x, g⟩, hx⟩ : ∃ x, l[k]? = some x := ⟨_, List.getElem?_eq_getElem (by omega)⟩
   obtain ⟨b1, cp1, e1, _, cc1⟩ := own_first H1.out (by rw [hm1]; omega)
   obtain ⟨b2, cp2, e2, _, cc2⟩ := own_first H2.out (by rw [hm2]; omega)
   simp at e1 e2
   obtain ⟨rfl, rfl⟩ := e1
   obtain ⟨rfl, rfl⟩ := e2
   have d1 := cc1 k (.string (bs x)) (by simp [strsV, hx])
   have d2 := cc2 k (.int .i64 g) (by simp [numsV, hx])
   have HY : Hid (valsT whole gs (l.take (k + 1)) = V ++ valT whole gs (x, g)) := by
    show _ = _
    rw [List.take_add_one, hx, HV.out]
    exact valsT_snoc _ _ _ _
   have hyl := HXL.out _ (List.mem_of_getElem? hx)
   have htk := HTOT.out (k + 1)
   have HX := hide hx
   clear hx cc1 cc2
   -- what it stands for
   obtain ⟨y, hy⟩ : ∃ y, valT whole gs (x, g) = y := ⟨_, rfl⟩
   rw [hy] at hyl HY
   rw [HY.out, List.length_append] at htk
   have HYY := hide hy
   have hsum : ∀ W : World, q.length < most → (Op.stringOp .add (bs q) (bs y)).run Tryz.prog W = .ok (.string (bs (q ++ y))) W := fun W hq => by
    rw [run_string_add_sum W _ _ (by rw [bs_size, bs_size]; omega), bs_append]
   have HSUM := hide hsum
   clear hy hsum
   have hwm : IntKind.i64.wrap ((V.length : Int) + (y.length : Int)) = (V.length : Int) + (y.length : Int) := wrap_i64_small _ (by omega) (by omega)
   by_cases h0 : g = 0
   ·
    subst h0
    have hy : y = whole := by rw [← HYY.out]; simp [valT]
    subst hy
    by_cases hq : q.length < most
    ·
     have hq2 : (q.length : Int) < (most : Int) := by omega
     have hs1 := fun W => HSUM.out W hq
     have HQ3 : Hid ((q ++ y).take most = (V ++ y).take most) := hide (by rw [HQE.out hq])
     have HQ4 : Hid ((q ++ y).length < most → q ++ y = V ++ y) := hide (fun _ => by rw [HQE.out hq])
     clear HQ HQE
     go_wp2
     refine ⟨⟨k + 1, q ++ y, V ++ y, by omega, by go_num, by first | rfl | trivial, by first | rfl | simp, by first | rfl | trivial, hide HY.out.symm, HQ3, HQ4, by simp; omega, by simp; omega⟩, ?_⟩
     simp [intOf]; omega
    ·
     have hq2 : ¬ (q.length : Int) < (most : Int) := by omega
     have HQ3 : Hid (q.take most = (V ++ y).take most) := hide (take_more HQ.out (by omega))
     have HQ4 : Hid (q.length < most → q = V ++ y) := hide (fun h => absurd h hq)
     clear HQ HQE
     go_wp2
     refine ⟨⟨k + 1, q, V ++ y, by omega, by go_num, by first | rfl | trivial, by first | rfl | simp, by first | rfl | trivial, hide HY.out.symm, HQ3, HQ4, by omega, by simp; omega⟩, ?_⟩
     simp [intOf]; omega
   ·
    have h0b : (g == 0) = false := by simpa using h0
    by_cases hgp : 0 < g ∧ g ≤ gs.length
    ·
     obtain ⟨j, rfl⟩ : ∃ j : Nat, g = (j : Int) + 1 := ⟨(g - 1).toNat, by omega⟩
     have hj : j < gs.length := by omega
     obtain ⟨bb, oo, rfl, hbb, hcg⟩ := HC.out j hj
     have hcg2 := (cell_keep (sp := none) (o := oo + j) (HG.out.block bb hbb)).trans hcg
     have hy : y = gs[j] := by
      rw [← HYY.out]
      unfold valT
      simp only
      rw [if_neg h0, if_pos hgp, show ((j : Int) + 1).toNat - 1 = j by omega]
      simp [List.getD, hj]
     rw [← hy] at hcg2
     have hg1 : (0 : Int) < (j : Int) + 1 := by omega
     have hg2 : (j : Int) + 1 ≤ (gs.length : Int) := by omega
     have hgd : decide ((0 : Int) < (j : Int) + 1) = true := by simp
     have hj1 : (j : Int) + 1 - 1 = (j : Int) := by omega
     have hwj : IntKind.i64.wrap ((j : Int) + 1 - 1) = (j : Int) := by rw [wrap_i64_small _ (by omega) (by omega)]; omega
     have hji : (j : Int) < (gs.length : Int) := by omega
     clear hy hgp hcg
     by_cases hq : q.length < most
     ·
      have hq2 : (q.length : Int) < (most : Int) := by omega
      have hs1 := fun W => HSUM.out W hq
      have HQ3 : Hid ((q ++ y).take most = (V ++ y).take most) := hide (by rw [HQE.out hq])
      have HQ4 : Hid ((q ++ y).length < most → q ++ y = V ++ y) := hide (fun _ => by rw [HQE.out hq])
      clear HQ HQE
      go_wp2
      refine ⟨⟨k + 1, q ++ y, V ++ y, by omega, by go_num, by first | rfl | trivial, by first | rfl | simp, by first | rfl | trivial, hide HY.out.symm, HQ3, HQ4, by simp; omega, by simp; omega⟩, ?_⟩
      simp [intOf]; omega
     ·
      have hq2 : ¬ (q.length : Int) < (most : Int) := by omega
      have HQ3 : Hid (q.take most = (V ++ y).take most) := hide (take_more HQ.out (by omega))
      have HQ4 : Hid (q.length < most → q = V ++ y) := hide (fun h => absurd h hq)
      clear HQ HQE
      go_wp2
      refine ⟨⟨k + 1, q, V ++ y, by omega, by go_num, by first | rfl | trivial, by first | rfl | simp, by first | rfl | trivial, hide HY.out.symm, HQ3, HQ4, by omega, by simp; omega⟩, ?_⟩
      simp [intOf]; omega
    ·
     have hy : y = x := by
      rw [← HYY.out]
      unfold valT
      rw [if_neg h0, if_neg hgp]
     subst hy
     by_cases hg1 : 0 < g
     ·
      have hg2 : ¬ g ≤ (gs.length : Int) := fun h => hgp ⟨hg1, h⟩
      clear hgp
      by_cases hq : q.length < most
      ·
       have hq2 : (q.length : Int) < (most : Int) := by omega
       have hs1 := fun W => HSUM.out W hq
       have HQ3 : Hid ((q ++ y).take most = (V ++ y).take most) := hide (by rw [HQE.out hq])
       have HQ4 : Hid ((q ++ y).length < most → q ++ y = V ++ y) := hide (fun _ => by rw [HQE.out hq])
       clear HQ HQE
       go_wp2
       refine ⟨⟨k + 1, q ++ y, V ++ y, by omega, by go_num, by first | rfl | trivial, by first | rfl | simp, by first | rfl | trivial, hide HY.out.symm, HQ3, HQ4, by simp; omega, by simp; omega⟩, ?_⟩
       simp [intOf]; omega
      ·
       have hq2 : ¬ (q.length : Int) < (most : Int) := by omega
       have HQ3 : Hid (q.take most = (V ++ y).take most) := hide (take_more HQ.out (by omega))
       have HQ4 : Hid (q.length < most → q = V ++ y) := hide (fun h => absurd h hq)
       clear HQ HQE
       go_wp2
       refine ⟨⟨k + 1, q, V ++ y, by omega, by go_num, by first | rfl | trivial, by first | rfl | simp, by first | rfl | trivial, hide HY.out.symm, HQ3, HQ4, by omega, by simp; omega⟩, ?_⟩
       simp [intOf]; omega
     ·
      clear hgp
      by_cases hq : q.length < most
      ·
       have hq2 : (q.length : Int) < (most : Int) := by omega
       have hs1 := fun W => HSUM.out W hq
       have HQ3 : Hid ((q ++ y).take most = (V ++ y).take most) := hide (by rw [HQE.out hq])
       have HQ4 : Hid ((q ++ y).length < most → q ++ y = V ++ y) := hide (fun _ => by rw [HQE.out hq])
       clear HQ HQE
       go_wp2
       refine ⟨⟨k + 1, q ++ y, V ++ y, by omega, by go_num, by first | rfl | trivial, by first | rfl | simp, by first | rfl | trivial, hide HY.out.symm, HQ3, HQ4, by simp; omega, by simp; omega⟩, ?_⟩
       simp [intOf]; omega
      ·
       have hq2 : ¬ (q.length : Int) < (most : Int) := by omega
       have HQ3 : Hid (q.take most = (V ++ y).take most) := hide (take_more HQ.out (by omega))
       have HQ4 : Hid (q.length < most → q = V ++ y) := hide (fun h => absurd h hq)
       clear HQ HQE
       go_wp2
       refine ⟨⟨k + 1, q, V ++ y, by omega, by go_num, by first | rfl | trivial, by first | rfl | simp, by first | rfl | trivial, hide HY.out.symm, HQ3, HQ4, by omega, by simp; omega⟩, ?_⟩
       simp [intOf]; omega
  ·
   obtain rfl : k = n := by omega
   have hlt2 : ¬ (k : Int) < (k : Int) := by omega
   have hV : V = valsT whole gs l := by rw [HV.out, List.take_of_length_le (by omega)]
   by_cases hq : most < q.length
   ·
    have hq2 : (most : Int) < (q.length : Int) := by omega
    have HEQ : Hid (q.take most = (valsT whole gs l).take most) := hide (by rw [HQ.out, hV])
    have HVV := hide hV
    clear hV
    go_wp2
    go_ret2
    exact ⟨by rw [← HEQ.out, ← HVV.out]; rfl, HG.out⟩
   ·
    have hq2 : ¬ (most : Int) < (q.length : Int) := by omega
    have HEQ : Hid (q = (valsT whole gs l).take most) := hide (by rw [← hV, ← HQ.out, List.take_of_length_le (by omega)])
    have HVV := hide hV
    clear hV
    go_wp2
    go_ret2
    exact ⟨by rw [← HEQ.out, ← HVV.out]; rfl, HG.out⟩
/-! ### how many spots -/
theorem layPiece_len {sg room : Nat} {once : Nat → Nat → List Kind × Nat} (h : ∀ b nx, (once b nx).1.length ≤ room) (b nx : Nat) : (layPiece sg once b nx).1.length ≤ room + 1 := by
 have h1 := h b nx
 have h2 := h (b + 1) b
 unfold layPiece
 split
 ·
  simp; omega
 ·
  split
  ·
   simp; omega
  ·
   split
   ·
    simp; omega
   ·
    omega
theorem layK_len : ∀ (T : Tr) (b nx : Nat), (layK T b nx).1.length ≤ szK T
 | .nil, b, nx => by simp [layK]
 | .set s sg rest, b, nx => by
  have h1 := layK_len rest b nx
  have h2 := layPiece_len (sg := sg) (room := 1) (once := fun b nx => ([.take s nx], b)) (fun _ _ => by simp) (b + (layK rest b nx).1.length) (layK rest b nx).2
  simp only [layK, szK, List.length_append]
  omega
 | .grp n rows sg rest, b, nx => by
  have h1 := layK_len rest b nx
  have h2 := layPiece_len (sg := sg) (room := szK rows + 2) (once := layGroup n (layK rows)) (fun b nx => by
   have := layK_len rows (b + 1) b
   simp [layGroup]
   omega) (b + (layK rest b nx).1.length) (layK rest b nx).2
  simp only [layK, szK, List.length_append]
  omega
 | .row r .nil, b, nx => by
  have := layK_len r b nx
  simp only [layK, szK]
  omega
 | .row r (.set s sg rest), b, nx => by
  have h1 := layK_len (.set s sg rest) b nx
  have h2 := layK_len r (b + (layK (.set s sg rest) b nx).1.length) nx
  rw [layK]
  ·
   simp only [szK, List.length_append, List.length_cons, List.length_nil] at h1 h2 ⊢
   omega
  ·
   intro h
   cases h
 | .row r (.grp n rows sg rest), b, nx => by
  have h1 := layK_len (.grp n rows sg rest) b nx
  have h2 := layK_len r (b + (layK (.grp n rows sg rest) b nx).1.length) nx
  rw [layK]
  ·
   simp only [szK, List.length_append, List.length_cons, List.length_nil] at h1 h2 ⊢
   omega
  ·
   intro h
   cases h
 | .row r (.row a c), b, nx => by
  have h1 := layK_len (.row a c) b nx
  have h2 := layK_len r (b + (layK (.row a c) b nx).1.length) nx
  rw [layK]
  ·
   simp only [szK, List.length_append, List.length_cons, List.length_nil] at h1 h2 ⊢
   omega
  ·
   intro h
   cases h
def onceF : Item → Nat → Nat → List Kind × Nat
 | .set s _ => fun b nx => ([.take s nx], b)
 | .grp n rows _ => layGroup n (layK rows)
def szI : Item → Nat
 | .set _ _ => 2
 | .grp _ rows _ => 3 + szK rows
theorem onceF_len : ∀ (it : Item) (b nx : Nat), (onceF it b nx).1.length + 1 ≤ szI it
 | .set s sg, b, nx => by simp [onceF, szI]
 | .grp n rows sg, b, nx => by
  have := layK_len rows (b + 1) b
  simp [onceF, layGroup, szI]
  omega
theorem layK_on (it : Item) (T : Tr) (b nx : Nat) : layK (it.on T) b nx = ((layK T b nx).1 ++ (layPiece it.sig (onceF it) (b + (layK T b nx).1.length) (layK T b nx).2).1, (layPiece it.sig (onceF it) (b + (layK T b nx).1.length) (layK T b nx).2).2) := by
 cases it <;> rfl
theorem szK_on (it : Item) (T : Tr) : szK (it.on T) = szI it + szK T := by cases it <;> simp [Item.on, szK, szI]
theorem itemAt.frame {B : Nat} {w w' : World} (k : LFrame B w w') {it : Item} {xs : List Value} (h : itemAt w (fun _ => True) it xs) : itemAt w' (fun _ => True) it xs := by
 cases it with
 | set s sg =>
  obtain ⟨b, h1, h2, h3⟩ := h
  exact ⟨b, h1, h2, h3.frame k⟩
 | grp n rows sg =>
  obtain ⟨rv, kk, ys, h1, h2, h3, h4⟩ := h
  exact ⟨rv, kk, ys, h1, own_frame h2 k (by decide) (by decide), h3, h4.frame k⟩
def RLay (T : Tr) : Prop :=
 ∀ (w : World) (B lb : Nat) (L : List Kind) (v : Value) (k : Nat) (ys : List Value) (nx : Nat), layAt w B lb L → w.ownsRow 0 153 1 v k ys → cellsAt w (fun _ => True) T ys → L.length + szK T ≤ 100000 →
  Calls Tryz.prog 78 #[.pointer (some ⟨lb, 0, none⟩), v, .int .i64 nx] w fun e w' => e = .returned (.int .i64 ((layK T L.length nx).2 : Nat)) ∧ LFrame B w w' ∧ layAt w' B lb (L ++ (layK T L.length nx).1)
def lpost (w : World) (B lb : Nat) (L : List Kind) (y : List Kind × Nat) (e : Ending) (w' : World) : Prop := e = .returned (.int .i64 (y.2 : Nat)) ∧ LFrame B w w' ∧ layAt w' B lb (L ++ y.1)
def onceJ (B lb : Nat) (w2 : World) (L1 L2 L3 : List Kind) (b7 b9 : Bool) (w' : World) : Prop :=
 LFrame B w2 w' ∧ (b7 = false → layAt w' B lb L1) ∧ (b7 = true → b9 = false → layAt w' B lb L2) ∧ (b9 = true → layAt w' B lb L3)
theorem laid_piece (w : World) (x0 x1 x2 x3 x4 : Value) (t : TypeId) : ∃ W : World, w.alloc (.cells #[x0, x1, x2, x3, x4] t) = W ∧ Grow w W ∧ W.heap[w.heap.size]? = some (.cells #[x0, x1, x2, x3, x4] t (0, 0)) := ⟨_, rfl, (Grow.refl _).alloc _, heap_alloc_new _ _⟩
set_option maxRecDepth 20000 in
set_option maxHeartbeats 4000000 in
theorem once_any (w : World) (B lb : Nat) (L : List Kind) (it : Item) (gr : Bool) (so : Option Addr) (sn sc : Nat) (nm : Int) (ro : Option Addr) (rn rc : Nat) (sg : Int) (nx : Nat) (hl : layAt w B lb L)
  (hi : itemAt w (fun _ => True) it (pieceC5 gr (.slice so sn sc) nm (.slice ro rn rc) sg)) (hR : ∀ n rows k, it = .grp n rows k → RLay rows) (hL : L.length + szI it ≤ 100001) :
  Calls Tryz.prog 127 #[.pointer (some ⟨lb, 0, none⟩), .agg #[.bool gr, .slice so sn sc, .int .i64 nm, .slice ro rn rc, .int .u8 sg], .int .i64 nx] w (lpost w B lb L (onceF it L.length nx)) := by
 obtain ⟨W, eW, gW, hW⟩ := laid_piece w (.bool gr) (.slice so sn sc) (.int .i64 nm) (.slice ro rn rc) (.int .u8 sg) 155
 have hlW := hl.grow gW
 have hiW := hi.frame (.grow (B := B) gW)
 obtain ⟨c0, c1, c2, c3, c4⟩ := five_cells hW
 have HL := hide hlW
 have HGW := hide gW
 have HW := hide hW
 cases it with
 | set s sg' =>
  have hgr := item_set hiW
  subst hgr
  obtain ⟨b, hb1, -, hb2⟩ := hiW
  simp only [pieceC5, List.cons.injEq] at hb1
  obtain ⟨-, e1, -⟩ := hb1
  cases e1
  have HP := hide (put_any W B lb L (.take s nx) 1 nx 0 0 (some ⟨b, 0, none⟩) 256 256 hlW ⟨b, rfl, hb2⟩ (by simp [szI] at hL; omega))
  clear hl hi hlW hb2 hW gW hR
  go_enter Tryz.func127, Tryz.ntmps127
  go_wp2_with fail
  refine HP.out.mono ?_
  rintro e w2 ⟨rfl, hf, hl2⟩
  have HF := hide hf
  have HL2 := hide hl2
  clear hf hl2
  go_wp2
  go_ret
  exact ⟨rfl, (LFrame.grow HGW.out).trans HF.out, HL2.out⟩
 | grp n rows sg' =>
  obtain ⟨hgr, kq, yq, hown, _, hcq⟩ := item_grp hiW
  subst hgr
  obtain ⟨rv', kk, yy, hb1, -⟩ := hiW
  simp only [pieceC5, List.cons.injEq, Value.int.injEq, true_and] at hb1
  obtain ⟨-, enm, -⟩ := hb1
  subst enm
  obtain ⟨n1, hn1⟩ : ∃ n1 : Nat, n + 1 = n1 := ⟨_, rfl⟩
  rw [hn1] at eW c2 HW ⊢
  have HR := hide (hR n rows sg' rfl)
  simp only [szI] at hL
  have HP := hide (put_any W B lb L (.mark (2 * n + 1) nx) 4 nx 0 (n1 : Nat) none 0 0 hlW (by show _ = _; rw [if_neg (by omega), show (2 * n + 1) / 2 + 1 = n1 by omega]) (by omega))
  have HO := hide hown
  have HC := hide hcq
  clear hl hi hlW hW gW hR hown hcq
  go_enter Tryz.func127, Tryz.ntmps127
  go_wp2_with fail
  refine HP.out.mono ?_
  rintro e w2 ⟨rfl, hf, hl2⟩
  have HF := hide hf
  have HL2 := hide hl2
  have HW2 := hide (hf.kind _ _ _ _ HW.out (by decide) (by decide))
  clear hf hl2 c0 c1 c2 c3 c4 eW
  obtain ⟨X, HX⟩ : ∃ X, Hid (layK rows (L.length + 1) L.length = X) := ⟨_, hide rfl⟩
  have hXl : X.1.length ≤ szK rows := by rw [← HX.out]; exact layK_len _ _ _
  obtain ⟨L1, hL1⟩ : ∃ L1, L ++ [.mark (2 * n + 1) nx] = L1 := ⟨_, rfl⟩
  have hL1n : L1.length = L.length + 1 := by rw [← hL1]; simp
  rw [hL1] at HL2
  have HRC : Hid (∀ W3, LFrame B w2 W3 → layAt W3 B lb L1 → Calls Tryz.prog 78 #[.pointer (some ⟨lb, 0, none⟩), .slice ro rn rc, .int .i64 L.length] W3 fun e w' => e = .returned (.int .i64 (X.2 : Nat)) ∧ LFrame B W3 w' ∧ layAt w' B lb (L1 ++ X.1)) := hide fun W3 hf3 hl3 => by
   have h := HR.out W3 B lb _ (.slice ro rn rc) kq yq L.length hl3 (own_frame (own_frame HO.out HF.out (by decide) (by decide)) hf3 (by decide) (by decide)) ((HC.out.frame HF.out).frame hf3) (by omega)
   rw [hL1n, HX.out] at h
   exact h
  obtain ⟨L2, hL2⟩ : ∃ L2, L1 ++ X.1 = L2 := ⟨_, rfl⟩
  have hL2n : L2.length = L.length + 1 + X.1.length := by rw [← hL2, List.length_append, hL1n]
  rw [hL2] at HRC
  obtain ⟨L3, hL3⟩ : ∃ L3, L2 ++ [.mark (2 * n) X.2] = L3 := ⟨_, rfl⟩
  have HPC : Hid (∀ W3, layAt W3 B lb L2 → Calls Tryz.prog 79 #[.pointer (some ⟨lb, 0, none⟩), .agg #[.int .i64 3, .int .i64 (X.2 : Nat), .int .i64 0, .int .i64 (n1 : Nat), .slice none 0 0]] W3 fun e w' => e = .returned (.int .i64 (L2.length : Nat)) ∧ LFrame B W3 w' ∧ layAt w' B lb L3) := hide fun W3 hl3 => by
   have h := put_any W3 B lb _ (.mark (2 * n) X.2) 3 X.2 0 (n1 : Nat) none 0 0 hl3 (by show _ = _; rw [if_pos (by omega), show 2 * n / 2 + 1 = n1 by omega]) (by omega)
   rw [hL3] at h
   exact h
  have HLL : Hid (L3 = L ++ (layGroup n (layK rows) L.length nx).1 ∧ L2.length = (layGroup n (layK rows) L.length nx).2) := by
   refine hide ⟨?_, ?_⟩
   ·
    rw [← hL3, ← hL2, ← hL1]
    unfold layGroup
    rw [HX.out]
    simp
   ·
    rw [hL2n]
    unfold layGroup
    rw [HX.out]
  clear hL1 hL2 hL3
  go_wp2_with fail
  refine wp_region_state 10 33 Tryz.mixed2 rfl (by decide +kernel) (fun Ls vals w' => onceJ B lb w2 L1 L2 L3 (Ls 7) (Ls 9) w')
   (fun Ls vals h => ?_)
   (fun i v => match i with
    | 0 => v = .pointer (some ⟨lb, 0, none⟩)
    | 1 => v = .pointer (some ⟨w.heap.size, 2, none⟩)
    | 2 => v = .int .i64 (n1 : Nat)
    | 3 => v = .pointer (some ⟨lb, 0, none⟩)
    | 4 => v = .pointer (some ⟨w.heap.size, 3, none⟩)
    | 5 => v = .slice ro rn rc
    | 6 => v = .int .i64 L.length
    | 7 => v = .int .i64 (X.2 : Nat)
    | 8 => v = .agg #[.int .i64 3, .int .i64 (X.2 : Nat), .int .i64 0, .int .i64 (n1 : Nat), .slice none 0 0]
    | _ => v = .int .i64 (L2.length : Nat))
   (fun _ _ => False) (fun _ _ _ _ h => h.elim) (fun i hi o ho a w3 Ls vals hLi hLc hLe hJ hoff hval hdep => ?_) (fun vals w3 Ls hLs hJ hvals => ?_)
  ·
   simp only [h]
   exact ⟨⟨rfl, rfl, rfl, Nat.le_refl _, fun _ _ _ => rfl, fun _ _ _ _ h _ _ => h⟩, fun _ => HL2.out.grow ⟨rfl, rfl, rfl, Nat.le_refl _, fun _ _ => rfl⟩, fun h => (nomatch h), fun h => (nomatch h)⟩
  ·
   obtain ⟨b0, b1, b2, b3, b4⟩ := five_cells (hJ.1.kind _ _ _ _ HW2.out (by decide) (by decide))
   match i, hi with
   | 0, _ =>
    obtain rfl := Option.some.inj ho
    have o0 := hoff 0 (by decide +kernel)
    simp at o0
    simp [opYields, go_sem, o0]
    exact hJ
   | 1, _ =>
    obtain rfl := Option.some.inj ho
    have o4 := hoff 4 (by decide +kernel)
    simp at o4
    simp [opYields, go_sem, o4]
    exact hJ
   | 2, _ =>
    obtain rfl := Option.some.inj ho
    have d1 := hdep 1 (by decide +kernel)
    simp [slotOf, dstOf] at d1
    simp [opYields, go_sem, d1, b2]
    exact hJ
   | 3, _ =>
    obtain rfl := Option.some.inj ho
    have o0 := hoff 0 (by decide +kernel)
    simp at o0
    simp [opYields, go_sem, o0]
    exact hJ
   | 4, _ =>
    obtain rfl := Option.some.inj ho
    have o4 := hoff 4 (by decide +kernel)
    simp at o4
    simp [opYields, go_sem, o4]
    exact hJ
   | 5, _ =>
    obtain rfl := Option.some.inj ho
    have d4 := hdep 4 (by decide +kernel)
    simp [slotOf, dstOf] at d4
    simp [opYields, go_sem, d4, b3]
    exact hJ
   | 6, _ =>
    obtain rfl := Option.some.inj ho
    have o7 := hoff 7 (by decide +kernel)
    simp at o7
    simp [opYields, go_sem, o7]
    exact hJ
   | 7, _ =>
    have h9 : Ls 9 = false := by
     cases h9 : Ls 9 with
     | false => rfl
     | true =>
      have h8 := hLc 9 h9 8 (by decide +kernel)
      have := hLc 8 h8 7 (by decide +kernel)
      rw [hLi] at this
      cases this
    obtain rfl := Option.some.inj ho
    have d3 := hdep 3 (by decide +kernel)
    have d5 := hdep 5 (by decide +kernel)
    have d6 := hdep 6 (by decide +kernel)
    simp [slotOf, dstOf] at d3 d5 d6
    simp [opYields, go_sem, d3, d5, d6]
    refine (HRC.out w3 hJ.1 (hJ.2.1 hLi)).mono ?_
    rintro e w4 ⟨rfl, hf4, hl4⟩
    rw [h9]
    refine ⟨⟨hJ.1.trans hf4, fun h => (nomatch h), fun _ _ => hl4, fun h => (nomatch h)⟩, ?_⟩
    rfl
   | 8, _ =>
    obtain rfl := Option.some.inj ho
    have d2 := hdep 2 (by decide +kernel)
    simp [slotOf, dstOf] at d2
    have d7 := hdep 7 (by decide +kernel)
    simp [slotOf, dstOf] at d7
    simp [opYields, go_sem, d2, d7]
    exact hJ
   | 9, _ =>
    have h7 : Ls 7 = true := by
     have h8 := hLe 8 (by decide +kernel)
     exact hLc 8 h8 7 (by decide +kernel)
    obtain rfl := Option.some.inj ho
    have d0 := hdep 0 (by decide +kernel)
    have d8 := hdep 8 (by decide +kernel)
    simp [slotOf, dstOf] at d0 d8
    simp [opYields, go_sem, d0, d8]
    refine (HPC.out w3 (hJ.2.2.1 h7 hLi)).mono ?_
    rintro e w4 ⟨rfl, hf4, hl4⟩
    rw [h7]
    refine ⟨⟨hJ.1.trans hf4, fun h => (nomatch h), fun _ h => (nomatch h), fun _ => hl4⟩, ?_⟩
    rfl
   | q + 10, h => exact absurd h (by omega)
  ·
   have h9 := hJ.2.2.2 (hLs 9 (by omega))
   have v9 := hvals 9 (by omega)
   simp only at v9
   have HF3 := hide hJ.1
   have HL3 := hide h9
   clear hvals hJ h9
   simp [over, dstOf, Act.put, v9]
   go_wp2
   go_ret
   refine ⟨?_, ((LFrame.grow HGW.out).trans HF.out).trans HF3.out, ?_⟩
   ·
    rw [HLL.out.2]; rfl
   ·
    rw [HLL.out.1] at HL3; exact HL3.out
theorem layAt_fork {w : World} {B lb : Nat} {M : List Kind} {k a y : Nat} (h : layAt w B lb M) (hk : M[k]? = some (.fork [a, y])) :
  ∃ sb cp, w.heap[lb]? = some (.cells #[.slice (some ⟨sb, 0, none⟩) M.length cp] 117 (0, 0)) ∧ w.cell? ⟨sb, k * 5 + 1, none⟩ = some (.int .i64 a) ∧ w.frozen? ⟨sb, k * 5 + 1, none⟩ = false ∧
   ∀ x : Nat, layAt (w.setCell ⟨sb, k * 5 + 1, none⟩ (.int .i64 x)) B lb (M.set k (.fork [x, y])) ∧ LFrame B w (w.setCell ⟨sb, k * 5 + 1, none⟩ (.int .i64 x)) := by
 obtain ⟨sv, xs, h1, h2, h3, h4⟩ := h
 have hlt := (List.getElem?_eq_some_iff.1 hk).1
 obtain ⟨sb, cp, rfl, hsb, hcell⟩ := own_first h3 (by omega)
 obtain ⟨hl, hg⟩ := spotsAt_get h4
 obtain ⟨ys, h5, h6⟩ := hg k _ hk
 obtain rfl : ys = _ := h5
 have hge := (h3.lt sb rfl).1
 have hne : sb ≠ lb := by
  rintro rfl
  exact own_apart h3 h1 (by decide) rfl
 have hfr : ∀ x : Nat, LFrame B w (w.setCell ⟨sb, k * 5 + 1, none⟩ (.int .i64 x)) := fun x => by
  refine ⟨rfl, rfl, rfl, by simp [World.setCell], fun q h7 h8 => set_apart _ (by omega), fun q c t fr h7 h8 h9 => ?_⟩
  refine (set_apart _ ?_).trans h7
  rintro rfl
  exact own_apart h3 h7 (fun e => h9 e.symm) rfl
 refine ⟨sb, cp, h1, hcell _ _ ((h6 1 (by omega)).trans rfl), own_free h3, fun x => ⟨⟨_, xs.set (k * 5 + 1) (.int .i64 x), (set_apart _ (fun e => hne e.symm)).trans h1, h2, ?_, (spotsAt_fork h4 hk).frame (hfr x)⟩, hfr x⟩⟩
 rw [List.length_set]
 exact own_set h3 _ (by rw [hl]; omega)
set_option maxRecDepth 20000 in
set_option maxHeartbeats 4000000 in
theorem lpiece_any (w : World) (B lb : Nat) (L : List Kind) (it : Item) (gr : Bool) (so : Option Addr) (sn sc : Nat) (nm : Int) (ro : Option Addr) (rn rc : Nat) (sg nx : Nat) (hsg : it.sig = sg) (hl : layAt w B lb L)
  (hi : itemAt w (fun _ => True) it (pieceC5 gr (.slice so sn sc) nm (.slice ro rn rc) sg)) (hR : ∀ n rows k, it = .grp n rows k → RLay rows) (hL : L.length + szI it ≤ 100000) :
  Calls Tryz.prog 113 #[.pointer (some ⟨lb, 0, none⟩), .agg #[.bool gr, .slice so sn sc, .int .i64 nm, .slice ro rn rc, .int .u8 sg], .int .i64 nx] w (lpost w B lb L (layPiece sg (onceF it) L.length nx)) := by
 obtain ⟨W, eW, gW, hW⟩ := laid_piece w (.bool gr) (.slice so sn sc) (.int .i64 nm) (.slice ro rn rc) (.int .u8 sg) 155
 have hlW := hl.grow gW
 have hiW := hi.frame (.grow (B := B) gW)
 obtain ⟨c0, c1, c2, c3, c4⟩ := five_cells hW
 have HL := hide hlW
 have HGW : Hid (LFrame B w W) := hide (.grow gW)
 have HW := hide hW
 have HI := hide hiW
 have HR := hide hR
 have hol := onceF_len it
 clear hl hi hlW hiW hW gW hR
 by_cases h63 : sg = 63
 ·
  have e63 : ((sg : Int) == 63) = true := by simp [h63]
  obtain ⟨X, HX⟩ : ∃ X, Hid (onceF it L.length nx = X) := ⟨_, hide rfl⟩
  have hXl : X.1.length + 1 ≤ szI it := by rw [← HX.out]; exact hol _ _
  have HE : Hid (layPiece sg (onceF it) L.length nx = (X.1 ++ [.fork [X.2, nx]], L.length + X.1.length)) := by
   show _ = _
   unfold layPiece
   rw [if_pos h63, HX.out]
  have HO := hide (once_any W B lb L it gr so sn sc nm ro rn rc sg nx HL.out HI.out HR.out (by omega))
  rw [HX.out] at HO
  clear h63 hol
  go_enter Tryz.func113, Tryz.ntmps113
  go_wp2_with fail
  refine HO.out.mono ?_
  rintro e w2 ⟨rfl, hf, hl2⟩
  have HF := hide hf
  have HP := hide (put_any w2 B lb (L ++ X.1) (.fork [X.2, nx]) 2 X.2 nx 0 none 0 0 hl2 rfl (by rw [List.length_append]; omega))
  clear hf hl2 eW
  go_wp2_with fail
  refine HP.out.mono ?_
  rintro e w3 ⟨rfl, hf, hl3⟩
  have HF3 := hide hf
  have HL3 := hide hl3
  clear hf hl3
  go_wp2
  go_ret
  refine ⟨?_, (HGW.out.trans HF.out).trans HF3.out, ?_⟩
  ·
   rw [HE.out]; exact ret_int (by simp)
  ·
   rw [HE.out]
   have h := HL3.out
   rw [List.append_assoc] at h
   exact h
 ·
  have e63 : ((sg : Int) == 63) = false := by simp; omega
  by_cases hst : sg = 42 ∨ sg = 43
  ·
   obtain ⟨X, HX⟩ : ∃ X, Hid (onceF it (L.length + 1) L.length = X) := ⟨_, hide rfl⟩
   have hXl : X.1.length + 1 ≤ szI it := by rw [← HX.out]; exact hol _ _
   obtain ⟨bg, hbg⟩ : ∃ bg, decide (sg = 43) = bg := ⟨_, rfl⟩
   have HE : Hid (layPiece sg (onceF it) L.length nx = (.fork [X.2, nx] :: X.1, if bg then X.2 else L.length)) := by
    show _ = _
    unfold layPiece
    rw [if_neg h63, HX.out, ← hbg]
    rcases hst with rfl | rfl
    ·
     simp
    ·
     simp
   have HP := hide (put_any W B lb L (.fork [0, nx]) 2 0 nx 0 none 0 0 HL.out rfl (by omega))
   obtain ⟨L1, hL1⟩ : ∃ L1, L ++ [Kind.fork [0, nx]] = L1 := ⟨_, rfl⟩
   have hL1n : L1.length = L.length + 1 := by rw [← hL1]; simp
   rw [hL1] at HP
   have HONCE : Hid (∀ w2, LFrame B W w2 → layAt w2 B lb L1 → Calls Tryz.prog 127 #[.pointer (some ⟨lb, 0, none⟩), .agg #[.bool gr, .slice so sn sc, .int .i64 nm, .slice ro rn rc, .int .u8 sg], .int .i64 L.length] w2 (lpost w2 B lb L1 X)) := hide fun w2 hf hl2 => by
    have h := once_any w2 B lb L1 it gr so sn sc nm ro rn rc sg L.length hl2 (HI.out.frame hf) HR.out (by omega)
    rw [hL1n, HX.out] at h
    exact h
   have hget : (L1 ++ X.1)[L.length]? = some (.fork [0, nx]) := by rw [← hL1]; simp
   have hset : (L1 ++ X.1).set L.length (.fork [X.2, nx]) = L ++ (.fork [X.2, nx] :: X.1) := by rw [← hL1]; simp
   have HGET := hide hget
   have HSET := hide hset
   have hlen1 : (L1 ++ X.1).length = L.length + 1 + X.1.length := by rw [List.length_append, hL1n]
   have e42 : ((sg : Int) == 42) = !bg := by
    rw [← hbg]
    rcases hst with rfl | rfl <;> rfl
   have e43 : ((sg : Int) == 43) = bg := by
    rw [← hbg]
    rcases hst with rfl | rfl <;> rfl
   clear h63 hol hget hset hbg hst hL1
   cases bg
   all_goals
    simp only [Bool.not_false, Bool.not_true] at e42
    go_enter Tryz.func113, Tryz.ntmps113
    go_wp2_with fail
    refine HP.out.mono ?_
    rintro e w2 ⟨rfl, hf, hl2⟩
    have HF2 := hide hf
    have HL2 := hide hl2
    obtain ⟨b0, b1, b2, b3, b4⟩ := five_cells (hf.kind _ _ _ _ HW.out (by decide) (by decide))
    clear hf hl2 eW
    go_wp2_with fail
    refine (HONCE.out w2 HF2.out HL2.out).mono ?_
    rintro e w3 ⟨rfl, hf, hl3⟩
    have HF3 := hide hf
    obtain ⟨sb, scp, hlb, hcc, hfz, hset3⟩ := layAt_fork hl3 HGET.out
    rw [hlen1] at hlb
    have k0 := cell_of_one hlb
    obtain ⟨hl4, hf4⟩ := hset3 X.2
    rw [HSET.out] at hl4
    obtain ⟨Q, eQ⟩ : ∃ Q, w3.setCell ⟨sb, L.length * 5 + 1, none⟩ (.int .i64 (X.2 : Nat)) = Q := ⟨_, rfl⟩
    rw [eQ] at hl4 hf4
    have HL4 := hide hl4
    have HF4 := hide hf4
    obtain ⟨q0, q1, q2, q3, q4⟩ := five_cells (hf4.kind _ _ _ _ (hf.kind _ _ _ _ (HF2.out.kind _ _ _ _ HW.out (by decide) (by decide)) (by decide) (by decide)) (by decide) (by decide))
    have hlti : (L.length : Int) < ((L.length + 1 + X.1.length : Nat) : Int) := by omega
    have hltn : L.length < L.length + 1 + X.1.length := by omega
    clear hf hl3 hlb hset3 hl4 hf4 b0 b1 b2 b3 b4 c0 c1 c2 c3 c4
    go_wp2
    go_ret
    refine ⟨?_, ((HGW.out.trans HF2.out).trans HF3.out).trans HF4.out, ?_⟩
    ·
     rw [HE.out]; rfl
    ·
     rw [HE.out]; exact HL4.out
  ·
   have e42 : ((sg : Int) == 42) = false := by simp; omega
   have e43 : ((sg : Int) == 43) = false := by simp; omega
   obtain ⟨X, HX⟩ : ∃ X, Hid (onceF it L.length nx = X) := ⟨_, hide rfl⟩
   have HE : Hid (layPiece sg (onceF it) L.length nx = X) := by
    show _ = _
    unfold layPiece
    rw [if_neg h63, if_neg (fun h => hst (.inl h)), if_neg (fun h => hst (.inr h)), HX.out]
   have HO := hide (once_any W B lb L it gr so sn sc nm ro rn rc sg nx HL.out HI.out HR.out (by omega))
   rw [HX.out] at HO
   clear h63 hol hst
   go_enter Tryz.func113, Tryz.ntmps113
   go_wp2_with fail
   refine HO.out.mono ?_
   rintro e w2 ⟨rfl, hf, hl2⟩
   have HF := hide hf
   have HL2 := hide hl2
   clear hf hl2 eW
   go_wp2
   go_ret
   refine ⟨?_, HGW.out.trans HF.out, ?_⟩
   ·
    rw [HE.out]; rfl
   ·
    rw [HE.out]; exact HL2.out
end Go.Proofs.YtndpjdmfkhjiiaaGreatDoor
