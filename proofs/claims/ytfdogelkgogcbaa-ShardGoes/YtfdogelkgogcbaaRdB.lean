/- eachField: each field of a text is handed to a function value. -/
import Derived.Test.YtfdogelkgogcbaaProg
import Derived.Test.YtfdogelkgogcbaaKit
import Derived.Test.YtfdogelkgogcbaaSpec
import Derived.Test.YtfdogelkgogcbaaSpec2
import Derived.Test.YtfdogelkgogcbaaWNum
import Derived.Test.YtfdogelkgogcbaaWWri
import Derived.Test.YtfdogelkgogcbaaRdA
import Derived.Test.YtfdogelkgogcbaaReg
set_option linter.unusedVariables false
set_option linter.unusedSimpArgs false
namespace Go.Proofs.Ytfdogelkgogcbaa
open Go.RowKit
attribute [local go_sem] bs_size bs_toList bs_append bs_get bs_extract

theorem oneField_hd (l : List UInt8) : oneField l =
    match cutHd l with
    | none => none
    | some (h, r) =>
      if h % 8 = 0 then
        match cutNum r with
        | none => none
        | some (n, r') => some ((h, n, []), r')
      else if h % 8 = 1 then (if 8 ≤ r.length then some ((h, lowB (r.take 8), []), r.drop 8) else none)
      else if h % 8 = 2 then
        match cutNum r with
        | none => none
        | some (n, r') => if n ≤ r'.length then some ((h, 0, r'.take n), r'.drop n) else none
      else if h % 8 = 5 then (if 4 ≤ r.length then some ((h, 0, []), r.drop 4) else none)
      else none := by
  unfold oneField cutHd
  cases cutNum l with
  | none => rfl
  | some x =>
    obtain ⟨h, r⟩ := x
    simp only
    split <;> rfl

/-- A field as a value. -/
def fldV (f : Fld) : Value := .agg #[.int .u64 f.1, .int .u64 f.2.1, .string (bs f.2.2)]
def strLen : Value → Nat
  | .string s => s.size
  | _ => 0
def fieldsOk (okF : Fld → Bool) (s : List UInt8) : Bool := (fields s).2 && (fields s).1.all okF

theorem set_block {w : World} {b i : Nat} {c : Array Value} {t : TypeId} {fr : Nat × Nat} (h : w.heap[b]? = some (.cells c t fr)) (u : Value) : (w.setCell ⟨b, i, none⟩ u).heap[b]? = some (.cells (c.setIfInBounds i u) t fr) := by
  have hlt := lt_of_block h
  have h' : w.heap[b] = .cells c t fr := by simpa [Array.getElem?_eq_getElem hlt] using h
  show (w.heap.modify b _)[b]? = _
  rw [Array.getElem?_eq_getElem (by simpa using hlt), Array.getElem_modify_self, h']
  rfl
theorem three_cells {w : World} {b : Nat} {x y z : Value} {t : TypeId} (h : w.heap[b]? = some (.cells #[x, y, z] t (0, 0))) : w.cell? ⟨b, 0, none⟩ = some x ∧ w.cell? ⟨b, 1, none⟩ = some y ∧ w.cell? ⟨b, 2, none⟩ = some z ∧ w.frozen? ⟨b, 0, none⟩ = false ∧ w.frozen? ⟨b, 1, none⟩ = false ∧ w.frozen? ⟨b, 2, none⟩ = false := by simp [World.cell?, World.frozen?, h]

end Go.Proofs.Ytfdogelkgogcbaa
