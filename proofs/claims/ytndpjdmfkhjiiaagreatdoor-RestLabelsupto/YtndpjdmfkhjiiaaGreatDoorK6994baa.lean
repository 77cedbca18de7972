/- 1 texts in one. -/
import Derived.Laws.OwnMore
import Derived.Deep.AppendLies
import Derived.Test.YtndpjdmfkhjiiaaGreatDoorProg
import Derived.Test.YtndpjdmfkhjiiaaGreatDoorK97fdc06
import Derived.Test.YtndpjdmfkhjiiaaGreatDoorKbff346a
import Derived.Test.YtndpjdmfkhjiiaaGreatDoorK395e834
import Derived.Test.YtndpjdmfkhjiiaaGreatDoorKac5e9b6
import Derived.Test.YtndpjdmfkhjiiaaGreatDoorKbd7ef7d
import Derived.Test.YtndpjdmfkhjiiaaGreatDoorKa2d19b0
import Derived.Test.YtndpjdmfkhjiiaaGreatDoorKb8b36ab
import Derived.Test.YtndpjdmfkhjiiaaGreatDoorK36433a5
import Derived.Lib.AppendZeros
import Derived.BigQuiet
set_option linter.unusedVariables false
set_option linter.unusedSimpArgs false
namespace Go.Proofs.YtndpjdmfkhjiiaaGreatDoor
open Go.RowKit
attribute [local go_sem] bs_size bs_toList bs_append bs_get bs_extract
/-- A row of numbers. -/
def numsV (L : List Int) : List Value := L.map fun x => .int .i64 x
abbrev ownNums (w : World) (B : Nat) (v : Value) (L : List Int) : Prop := w.ownsRow B 3 1 v L.length (numsV L)
/-- A row of one kind of elements grows: one of another kind stays. -/
theorem own_kept_apart {w w' : World} {B1 e1 s1 n1 B2 e2 s2 n2 : Nat} {v1 v2 : Value} {xs1 xs2 : List Value} (h2 : w.ownsRow B2 e2 s2 v2 n2 xs2) (h1 : w.ownsRow B1 e1 s1 v1 n1 xs1) (he : e2 ≠ e1) (g : w.grownBy w' v1.ownBlock) : w'.ownsRow B2 e2 s2 v2 n2 xs2 := by
  refine World.ownsRow.kept h2 g ?_
  rcases h1.2 with ⟨rfl, _⟩ | ⟨b, cap, cur, rfl, _, hb, _⟩
  · cases hv : v2.ownBlock with
    | none => exact .inl rfl
    | some k => exact .inr (by simp [Value.ownBlock])
  · exact .inr (own_apart h2 hb he)
/-- While both rows grow by one: which has. -/
structure TwoJ (w W : World) (v1 v2 : Value) (L1 : List (List UInt8)) (L2 : List Int) (s : List UInt8) (x : Int) (n1 b1 n2 b2 : Bool) (u1 y1 u2 y2 : Value) (w' : World) : Prop where
  grow : Grow w w'
  size : W.heap.size ≤ w'.heap.size
  first : b1 = false → ownStrs w' w.heap.size v1 L1
  firstD : b1 = true → ownStrs w' w.heap.size y1 (L1 ++ [s])
  second : b2 = false → ownNums w' w.heap.size v2 L2
  secondD : b2 = true → ownNums w' w.heap.size y2 (L2 ++ [x])
  new1 : newJ W 9 #[.string (bs s)] n1 u1 w'
  new2 : newJ W 3 #[.int .i64 x] n2 u2 w'
theorem TwoJ.more {w W : World} {v1 v2 : Value} {L1 : List (List UInt8)} {L2 : List Int} {s : List UInt8} {x : Int} {n1 b1 n2 b2 : Bool} {u1 y1 u2 y2 : Value} {w' w'' : World} (h : TwoJ w W v1 v2 L1 L2 s x n1 b1 n2 b2 u1 y1 u2 y2 w') (g : Grow w' w'') : TwoJ w W v1 v2 L1 L2 s x n1 b1 n2 b2 u1 y1 u2 y2 w'' :=
  ⟨h.grow.trans g, Nat.le_trans h.size g.size, fun e => own_grow (h.first e) g, fun e => own_grow (h.firstD e) g, fun e => own_grow (h.second e) g, fun e => own_grow (h.secondD e) g, h.new1.grow g, h.new2.grow g⟩
section
variable {w W : World} {v1 v2 : Value} {L1 : List (List UInt8)} {L2 : List Int} {s : List UInt8} {x : Int} {n1 b1 n2 b2 : Bool} {u1 y1 u2 y2 : Value} {w' : World}
end
theorem TwoJ.drew {w W : World} {v1 v2 : Value} {L1 : List (List UInt8)} {L2 : List Int} {s : List UInt8} {x : Int} {n1 b1 n2 b2 : Bool} {u1 y1 u2 y2 : Value} {w' : World} (h : TwoJ w W v1 v2 L1 L2 s x n1 b1 n2 b2 u1 y1 u2 y2 w') : TwoJ w W v1 v2 L1 L2 s x n1 b1 n2 b2 u1 y1 u2 y2 w'.drew := h.more ⟨rfl, rfl, rfl, Nat.le_refl _, fun _ _ => rfl⟩
end Go.Proofs.YtndpjdmfkhjiiaaGreatDoor
