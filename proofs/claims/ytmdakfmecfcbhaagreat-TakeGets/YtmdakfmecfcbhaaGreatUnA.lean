/- The unpacker's smallest parts: room, take. -/
import Derived.Test.YtmdakfmecfcbhaaGreatProg
import Derived.Test.YtmdakfmecfcbhaaGreatKit
import Derived.Test.YtmdakfmecfcbhaaGreatSpec
import Derived.Test.YtmdakfmecfcbhaaGreatSpec2
import Derived.Test.YtmdakfmecfcbhaaGreatReg
import Derived.Test.YtmdakfmecfcbhaaGreatWWri
import Derived.Test.YtmdakfmecfcbhaaGreatRdA
import Derived.Test.YtmdakfmecfcbhaaGreatRdB
import Derived.Test.YtmdakfmecfcbhaaGreatRdC
import Derived.BigQuiet
set_option linter.unusedVariables false
set_option linter.unusedSimpArgs false
namespace Go.Proofs.YtmdakfmecfcbhaaGreat
open Go.RowKit
attribute [local go_sem] bs_size bs_toList bs_append bs_get bs_extract

/-- An unpacker in a block: what is left, what it is to make, what it made. -/
def unpAt (w : World) (B ub : Nat) (r : List UInt8) (told : Int) (made : List UInt8) : Prop :=
  B ≤ w.heap.size ∧ ∃ v, w.heap[ub]? = some (.cells #[.string (bs r), .int .i64 told, v] 92 (0, 0)) ∧ w.ownsRow B 5 1 v made.length (bytesV made)

set_option maxRecDepth 20000 in
set_option maxHeartbeats 1000000 in
theorem room_any (w : World) (B ub n : Nat) (r made : List UInt8) (told : Int) (hu : unpAt w B ub r told made) (hm : made.length ≤ 1000000) (ht : 0 ≤ told ∧ told ≤ 1000000) :
    Calls Tryz.prog 131 #[.pointer (some ⟨ub, 0, none⟩), .int .i64 n] w fun e w' => (∃ k, w' = w.drewN k) ∧ (((n : Int) + made.length ≤ told ∧ e = .returned (.tuple #[])) ∨ (told < (n : Int) + made.length ∧ e = gaveUp 1)) := by
  obtain ⟨hB, v, hb, ho⟩ := hu
  obtain ⟨ao, cp, rfl⟩ := own_shape ho
  obtain ⟨c0, c1, c2, _⟩ := three_cells hb
  go_enter Tryz.func131, Tryz.ntmps131
  by_cases h : (n : Int) + made.length ≤ told
  · have h' : ¬ (told - (made.length : Int) < n) := by omega
    go_wp2
    go_quiet (fail)
    go_wp2
    go_end0
    exact ⟨⟨_, rfl⟩, .inl ⟨h, rfl⟩⟩
  · have h' : told - (made.length : Int) < n := by omega
    go_wp2
    go_quiet (fail)
    go_wp2
    exact ⟨rfl, ⟨_, rfl⟩, .inr ⟨by omega, rfl⟩⟩

/-- The same, with the row's value. -/
def unpIs (w : World) (B ub : Nat) (r : List UInt8) (told : Int) (v : Value) (made : List UInt8) : Prop :=
  B ≤ w.heap.size ∧ w.heap[ub]? = some (.cells #[.string (bs r), .int .i64 told, v] 92 (0, 0)) ∧ w.ownsRow B 5 1 v made.length (bytesV made)
theorem unpIs_set {w : World} {B ub : Nat} {r r' made : List UInt8} {told : Int} {v : Value} (h : unpIs w B ub r told v made) : unpIs (w.setCell ⟨ub, 0, none⟩ (.string (bs r'))) B ub r' told v made := by
  obtain ⟨hB, hb, ho⟩ := h
  exact ⟨by simpa [World.setCell] using hB, set_block hb _, ownsRow_setCell_other (a := ⟨ub, 0, none⟩) ho (own_apart ho hb (by decide)) _⟩

set_option maxRecDepth 20000 in
set_option maxHeartbeats 1000000 in
theorem take_is (w : World) (B ub n : Nat) (r made : List UInt8) (told : Int) (v : Value) (hu : unpIs w B ub r told v made) (hr : r.length ≤ 9223372036854775807) :
    Calls Tryz.prog 130 #[.pointer (some ⟨ub, 0, none⟩), .int .i64 n] w fun e w' => KeptX B ub w w' ∧
      ((n ≤ r.length ∧ e = .returned (.string (bs (r.take n))) ∧ unpIs w' B ub (r.drop n) told v made) ∨ (r.length < n ∧ e = gaveUp 1)) := by
  obtain ⟨hB, hb, ho⟩ := hu
  obtain ⟨ao, cp, rfl⟩ := own_shape ho
  obtain ⟨c0, c1, c2, z0, z1, z2⟩ := three_cells hb
  go_enter Tryz.func130, Tryz.ntmps130
  by_cases h : n ≤ r.length
  · have h' : ¬ (r.length : Int) < n := by omega
    go_wp2
    go_ret
    rw [take_self (l := r.drop n) (by rw [List.length_drop]; exact Nat.le_refl _)]
    exact ⟨(KeptX.refl _ _ _).setAt _ _, .inl ⟨rfl, unpIs_set ⟨hB, hb, ho⟩⟩⟩
  · have h' : (r.length : Int) < n := by omega
    go_wp2
    exact ⟨rfl, KeptX.refl _ _ _, .inr ⟨by omega, rfl⟩⟩
theorem take_any (w : World) (B ub n : Nat) (r made : List UInt8) (told : Int) (hu : unpAt w B ub r told made) (hr : r.length ≤ 9223372036854775807) :
    Calls Tryz.prog 130 #[.pointer (some ⟨ub, 0, none⟩), .int .i64 n] w fun e w' => KeptX B ub w w' ∧
      ((n ≤ r.length ∧ e = .returned (.string (bs (r.take n))) ∧ unpAt w' B ub (r.drop n) told made) ∨ (r.length < n ∧ e = gaveUp 1)) := by
  obtain ⟨hB, v, hb, ho⟩ := hu
  refine (take_is w B ub n r made told v ⟨hB, hb, ho⟩ hr).mono fun e w' ⟨hk, h⟩ => ⟨hk, ?_⟩
  rcases h with ⟨h1, h2, h3, h4, h5⟩ | h
  · exact .inl ⟨h1, h2, h3, v, h4, h5⟩
  · exact .inr h

end Go.Proofs.YtmdakfmecfcbhaaGreat
