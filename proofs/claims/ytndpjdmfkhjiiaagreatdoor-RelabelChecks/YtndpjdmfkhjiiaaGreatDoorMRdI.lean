/- The document's own reader of masks: all pieces; rows that grow. -/
import Derived.Test.YtndpjdmfkhjiiaaGreatDoorProg
import Derived.Test.YtndpjdmfkhjiiaaGreatDoorKit
import Derived.Test.YtndpjdmfkhjiiaaGreatDoorMPar
import Derived.Test.YtndpjdmfkhjiiaaGreatDoorMErr
import Derived.Test.YtndpjdmfkhjiiaaGreatDoorMLay
import Derived.Test.YtndpjdmfkhjiiaaGreatDoorMWlk
import Derived.Test.YtndpjdmfkhjiiaaGreatDoorMFrom
import Derived.Test.YtndpjdmfkhjiiaaGreatDoorMExp
import Derived.Test.YtndpjdmfkhjiiaaGreatDoorMPrA
import Derived.Test.YtndpjdmfkhjiiaaGreatDoorMPrB
import Derived.Test.YtndpjdmfkhjiiaaGreatDoorMPrD
import Derived.Test.YtndpjdmfkhjiiaaGreatDoorMPrK
import Derived.Test.YtndpjdmfkhjiiaaGreatDoorMNew
import Derived.Test.YtndpjdmfkhjiiaaGreatDoorMTeR
import Derived.Test.YtndpjdmfkhjiiaaGreatDoorMRdA
import Derived.Test.YtndpjdmfkhjiiaaGreatDoorMRdB
import Derived.Test.YtndpjdmfkhjiiaaGreatDoorMRdC
import Derived.Test.YtndpjdmfkhjiiaaGreatDoorMRdD
import Derived.Test.YtndpjdmfkhjiiaaGreatDoorMRdE
import Derived.Test.YtndpjdmfkhjiiaaGreatDoorMRdF
import Derived.Test.YtndpjdmfkhjiiaaGreatDoorMRdG
import Derived.Test.YtndpjdmfkhjiiaaGreatDoorMRdH
set_option linter.unusedVariables false
set_option linter.unusedSimpArgs false
namespace Go.Proofs.YtndpjdmfkhjiiaaGreatDoor
open Go.RowKit

theorem pSet_dot {m i c} (h : c.toNat = 46) : pSet m i c = some (.ok (fun _ => true, i + 1)) := by
  unfold pSet
  rw [if_neg (by omega), if_pos h]
theorem pSet_wrong {m i c} (h : c.toNat = 42 ∨ c.toNat = 43 ∨ c.toNat = 63 ∨ c.toNat = 93) : pSet m i c = some (.error (1, i)) := by
  unfold pSet
  rw [if_neg (by omega), if_neg (by omega), if_neg (by omega), if_pos (by simp [isSign]; omega)]
theorem pSet_plain {m i c} (h : c.toNat ≠ 42 ∧ c.toNat ≠ 43 ∧ c.toNat ≠ 63 ∧ c.toNat ≠ 93 ∧ c.toNat ≠ 46 ∧ c.toNat ≠ 92 ∧ c.toNat ≠ 91) : pSet m i c = some (.ok (between c c, i + 1)) := by
  unfold pSet
  rw [if_neg (by omega), if_neg (by omega), if_neg (by omega), if_neg (by simp [isSign]; omega)]

/-- Any piece, without its sign. -/
theorem ratom_any (w : World) (rb : Nat) (m : List UInt8) (i g : Nat) (c : UInt8) (hr : readerAt w rb m i g 0 0) (hc : m[i]? = some c) (hm : m.length ≤ 1000) (hq : ¬ (c.toNat = 124 ∨ c.toNat = 41)) {f : Nat} (hf : RRowsOK m f) (hg : g ≤ 9) (y : Except (Nat × Nat) (Item × Nat × Nat)) (hy : aOut m f i g c = some y) :
    Calls Tryz.prog 106 #[.pointer (some ⟨rb, 0, none⟩)] w (apost rb m y w) := by
  by_cases h40 : c.toNat = 40
  · exact ratom_group w rb m i g c hr hc hm h40 hf hg y hy
  · obtain ⟨z, hz⟩ := pSet_some m i c
    have hyz : y = match z with | .error x => .error x | .ok x => .ok (.set x.1 0, x.2, g) := by
      unfold aOut at hy
      rw [if_neg h40, hz] at hy
      cases z with
      | error e => exact (Option.some.inj hy).symm
      | ok x => exact (Option.some.inj hy).symm
    rw [hyz]
    have key : Calls Tryz.prog 106 #[.pointer (some ⟨rb, 0, none⟩)] w (ratomPost rb m g z w) := by
      by_cases h91 : c.toNat = 91
      · exact ratom_brackets w rb m i g c hr hc hm h91 z hz
      · by_cases h92 : c.toNat = 92
        · exact ratom_esc w rb m i g c hr hc hm h92 z hz
        · by_cases h46 : c.toNat = 46
          · rw [pSet_dot h46] at hz
            cases hz
            exact ratom_dot w rb m i g c hr hc hm h46
          · by_cases hw : c.toNat = 42 ∨ c.toNat = 43 ∨ c.toNat = 63 ∨ c.toNat = 93
            · rw [pSet_wrong hw] at hz
              cases hz
              exact ratom_wrong w rb m i g c hr hc hm hw
            · rw [pSet_plain (by omega)] at hz
              cases hz
              exact ratom_plain w rb m i g c hr hc hm (by omega)
    cases z with
    | error x => exact key.mono fun e w' h => apost_of h
    | ok x => exact key.mono fun e w' h => apost_of h

/-! ### a row, piece by piece -/
def Item.nul : Item → Bool
  | .set _ _ => false
  | .grp _ rows _ => Go.Proofs.YtndpjdmfkhjiiaaGreatDoor.nothing rows
def Item.sgn : Item → Nat → Item
  | .set s _, k => .set s k
  | .grp n rows _, k => .grp n rows k
def Item.sig : Item → Nat
  | .set _ k => k
  | .grp _ _ k => k
theorem bindO_bindO {α β γ : Type} (a : Out α) (k : α → Out β) (l : β → Out γ) : bindO (bindO a k) l = bindO a fun x => bindO (k x) l := by
  match a with
  | none => rfl
  | some (.error e) => rfl
  | some (.ok x) => rfl
theorem bindO_congr {α β : Type} (a : Out α) {k k' : α → Out β} (h : ∀ x, a = some (.ok x) → k x = k' x) : bindO a k = bindO a k' := by
  match a, h with
  | none, _ => rfl
  | some (.error e), _ => rfl
  | some (.ok x), h => exact h x rfl

theorem rpM_piece {m : List UInt8} {f i g : Nat} {c : UInt8} (hc : m[i]? = some c) (hq : ¬ (c.toNat = 124 ∨ c.toNat = 41)) : pM m (f + 1) false i g =
    bindO (aOut m f i g c) fun a => bindO (pSign m a.1.nul a.2.1) fun s => bindO (pM m f false s.2 a.2.2) fun y => some (.ok ((a.1.sgn s.1).on y.1, y.2)) := by
  rw [pM]
  simp only [hc]
  rw [if_neg (by simpa using hq)]
  unfold aOut
  by_cases h40 : c.toNat = 40
  · rw [if_pos h40, if_pos h40]
    by_cases h9 : g = 9
    · rw [if_pos h9, if_pos h9]
      rfl
    · rw [if_neg h9, if_neg h9, bindO_bindO]
      refine bindO_congr _ fun x hx => ?_
      by_cases h41 : isAt m x.2.1 41 = true
      · rw [if_pos h41, if_pos h41]
        rfl
      · rw [if_neg h41, if_neg h41]
        rfl
  · rw [if_neg h40, if_neg h40, bindO_bindO]
    rfl
theorem pM_row_end {m : List UInt8} {f i g : Nat} (h : m[i]? = none ∨ isAt m i 124 = true ∨ isAt m i 41 = true) {y} (hy : pM m f false i g = some y) : y = .ok (.nil, i, g) := by
  cases f with
  | zero => cases hy
  | succ f =>
    rw [pM] at hy
    cases hc : m[i]? with
    | none => rw [hc] at hy; exact (Option.some.inj hy).symm
    | some c =>
      rw [hc] at hy
      have hcc : c.toNat = 124 ∨ c.toNat = 41 := by
        rcases h with h | h | h
        · rw [hc] at h; cases h
        · left; simpa [isAt, hc] using h
        · right; simpa [isAt, hc] using h
      simp only at hy
      rw [if_pos (by simpa using hcc)] at hy
      exact (Option.some.inj hy).symm
/-- What is read behind a row. -/
def contR (m : List UInt8) (F : Nat) (rs : List Tr) (x : Tr × Nat × Nat) : Out (Tr × Nat × Nat) :=
  if isAt m x.2.1 124 then bindO (pM m F true (x.2.1 + 1) x.2.2) fun y => some (.ok (rowsOf rs (.row x.1 y.1), y.2)) else some (.ok (rowsOf rs (.row x.1 .nil), x.2))
theorem rowsOf_snoc (rs : List Tr) (r T : Tr) : rowsOf (rs ++ [r]) T = rowsOf rs (.row r T) := by simp [rowsOf]
theorem rowT_snoc (l : List Item) (it : Item) (T : Tr) : rowT (l ++ [it]) T = rowT l (it.on T) := by simp [rowT]
theorem rows_open {m : List UInt8} {F i g : Nat} {rs : List Tr} : (bindO (pM m (F + 1) true i g) fun x => some (.ok (rowsOf rs x.1, x.2))) = bindO (pM m F false i g) (contR m F rs) := by
  rw [pM, bindO_bindO]
  refine bindO_congr _ fun x hx => ?_
  unfold contR
  by_cases h : isAt m x.2.1 124 = true
  · rw [if_pos h, if_pos h, bindO_bindO]
    rfl
  · rw [if_neg h, if_neg h]
    rfl
theorem bindO_id {α : Type} (a : Out α) : (bindO a fun x => some (.ok x)) = a := by
  match a with
  | none => rfl
  | some (.error e) => rfl
  | some (.ok x) => rfl
/-- Of a row so far, from a byte on. -/
def inRow (m : List UInt8) (F : Nat) (rs : List Tr) (y : Except (Nat × Nat) (Tr × Nat × Nat)) (l : List Item) (f i g : Nat) : Prop := f ≤ F ∧ bindO (pM m f false i g) (fun x => contR m F rs (rowT l x.1, x.2)) = some y
theorem inRow_end {m F rs y l f i g} (h : inRow m F rs y l f i g) (he : m[i]? = none ∨ isAt m i 124 = true ∨ isAt m i 41 = true) : contR m F rs (rowT l .nil, i, g) = some y := by
  obtain ⟨_, h⟩ := h
  cases hx : pM m f false i g with
  | none => rw [hx] at h; cases h
  | some x => rw [hx, pM_row_end he hx] at h; exact h
theorem inRow_piece {m F rs y l f i g} {c : UInt8} (h : inRow m F rs y l f i g) (hc : m[i]? = some c) (hq : ¬ (c.toNat = 124 ∨ c.toNat = 41)) :
    ∃ f' z, f = f' + 1 ∧ aOut m f' i g c = some z ∧ match z with
      | .error x => y = .error x
      | .ok a => ∃ s, pSign m a.1.nul a.2.1 = some s ∧ match s with
        | .error x => y = .error x
        | .ok s => inRow m F rs y (l ++ [a.1.sgn s.1]) f' s.2 a.2.2 := by
  obtain ⟨hF, h⟩ := h
  cases f with
  | zero => cases h
  | succ f =>
    rw [rpM_piece hc hq, bindO_bindO] at h
    cases ha : aOut m f i g c with
    | none => rw [ha] at h; cases h
    | some z =>
      refine ⟨f, z, rfl, ha, ?_⟩
      rw [ha] at h
      cases z with
      | error x => exact (Option.some.inj h).symm
      | ok a =>
        simp only [bindO] at h
        obtain ⟨s, hs⟩ := pSign_some m a.1.nul a.2.1
        refine ⟨s, hs, ?_⟩
        rw [hs] at h
        cases s with
        | error x => exact (Option.some.inj h).symm
        | ok s =>
          refine ⟨by omega, ?_⟩
          rw [← h]
          show bindO _ _ = bindO (bindO _ _) _
          rw [bindO_bindO]
          refine bindO_congr _ fun x hx => ?_
          rw [rowT_snoc]
          rfl
theorem aOut_ok {m f i g c} {a : Item × Nat × Nat} (hc : m[i]? = some c) (hg : g ≤ 9) (h : aOut m f i g c = some (.ok a)) : i < a.2.1 ∧ a.2.1 ≤ m.length ∧ a.2.2 ≤ 9 ∧ a.1.sig = 0 ∧ (∀ n rows k, a.1 = .grp n rows k → wf true rows ∧ pM m f true (i + 1) (g + 1) = some (.ok (rows, a.2.1 - 1, a.2.2))) := by
  have hi := get_lt hc
  unfold aOut at h
  split at h
  · split at h
    · cases h
    · rcases bindO_eq h with ⟨_, _, e⟩ | ⟨x, hx, h⟩
      · cases e
      have h1 := pM_ok hx (by omega)
      have h2 := pM_is hx
      split at h
      · rename_i h41
        have := isAt_lt h41
        cases h
        refine ⟨by simp only; omega, by simp only; omega, h2.2.2.2.1 (by omega), rfl, fun n rows k e => ?_⟩
        cases e
        exact ⟨h2.1, hx⟩
      · cases h
  · rcases bindO_eq h with ⟨_, _, e⟩ | ⟨x, hx, h⟩
    · cases e
    have h1 := pSet_ok hc hx
    cases h
    exact ⟨h1.1, h1.2, hg, rfl, fun n rows k e => by cases e⟩
theorem aOut_err {m f i g c} {x : Nat × Nat} (h : aOut m f i g c = some (.error x)) : x.1 ≠ 0 := by
  unfold aOut at h
  split at h
  · split at h
    · cases h; simp
    · rcases bindO_eq h with ⟨e', h1, h2⟩ | ⟨y, hy, h⟩
      · cases h2; exact eM h1
      · split at h
        · cases h
        · cases h; simp
  · rcases bindO_eq h with ⟨e', h1, h2⟩ | ⟨y, hy, h⟩
    · cases h2; exact eSet h1
    · cases h

end Go.Proofs.YtndpjdmfkhjiiaaGreatDoor
