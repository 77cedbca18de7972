/- record: the reader: bytes, numbers, texts, times, words. -/
import Derived.Laws.OwnMore
import Derived.Test.YtnlkfehnmijimaaProg
import Derived.Test.YtnlkfehnmijimaaKit
import Derived.Test.YtnlkfehnmijimaaSpec
import Derived.Test.YtnlkfehnmijimaaSpec2
import Derived.Test.YtnlkfehnmijimaaReg
import Derived.Test.YtnlkfehnmijimaaWNum
import Derived.Test.YtnlkfehnmijimaaRcA
import Derived.Test.YtnlkfehnmijimaaRcN
import Derived.BigQuiet
set_option linter.unusedVariables false
set_option linter.unusedSimpArgs false
namespace Go.Proofs.Ytnlkfehnmijimaa.Rc
open Go.RowKit
attribute [local go_sem] bs_size bs_toList bs_append bs_get bs_extract

/-- Nothing has turned but block b. -/
structure KI (b : Nat) (w w' : World) : Prop where
  os : w'.os = w.os
  tape : w'.tape = w.tape
  output : w'.output = w.output
  size : w.heap.size ≤ w'.heap.size
  block : ∀ k, k < w.heap.size → k ≠ b → w'.heap[k]? = w.heap[k]?
theorem KI.refl (b : Nat) (w : World) : KI b w w := ⟨rfl, rfl, rfl, Nat.le_refl _, fun _ _ _ => rfl⟩
theorem KI.trans {b : Nat} {a c d : World} (h : KI b a c) (k : KI b c d) : KI b a d :=
  ⟨k.os.trans h.os, k.tape.trans h.tape, k.output.trans h.output, Nat.le_trans h.size k.size, fun i hi hn => (k.block i (Nat.lt_of_lt_of_le hi h.size) hn).trans (h.block i hi hn)⟩
theorem KI.grow {b : Nat} {w w' : World} (h : Grow w w') : KI b w w' := ⟨h.os, h.tape, h.output, h.size, fun k hk _ => h.block k hk⟩
theorem KI.set (b : Nat) (w : World) (i : Nat) (u : Value) : KI b w (w.setCell ⟨b, i, none⟩ u) := ⟨rfl, rfl, rfl, by simp [World.setCell], fun k _ hn => Below.heap_setCell _ _ _ _ hn⟩
theorem KI.get {b : Nat} {w w' : World} (h : KI b w w') {k : Nat} {o : Obj} (hk : w.heap[k]? = some o) (hn : k ≠ b) : w'.heap[k]? = some o := (h.block k (lt_of_block hk) hn).trans hk
/-- Block b is a reader, with what is not read yet. -/
def InAt (w : World) (b : Nat) (s : List UInt8) : Prop := w.heap[b]? = some (.cells #[.string (bs s)] 79 (0, 0))
theorem InAt.set {w : World} {b : Nat} {s : List UInt8} (h : InAt w b s) (r : List UInt8) : InAt (w.setCell ⟨b, 0, none⟩ (.string (bs r))) b r := one_setCell h
theorem InAt.grow {w w' : World} {b : Nat} {s : List UInt8} (h : InAt w b s) (g : Grow w w') : InAt w' b s := g.get h
/-- What a reader's method does: it answers what is read, and what is left; or gives up. -/
def readAs {α : Type} (b : Nat) (V : α → Value) (o : Option (α × List UInt8)) (w : World) (e : Ending) (w' : World) : Prop :=
  KI b w w' ∧ match o with
    | some x => e = .returned (V x.1) ∧ InAt w' b x.2
    | none => ∃ E : Nat, E ≠ 0 ∧ e = gaveUp E

set_option maxRecDepth 20000 in
set_option maxHeartbeats 2000000 in
theorem take_any (w : World) (b n : Nat) (s : List UInt8) (h : InAt w b s) (hs : s.length ≤ 140737488355328) (hn : n < 18446744073709551616) :
    Calls Try.prog 43 #[.pointer (some ⟨b, 0, none⟩), .int .u64 n] w (readAs b (fun t => .string (bs t)) (if n ≤ s.length then some (s.take n, s.drop n) else none) w) := by
  have hc := cell_of_one h
  have hz := free_of_one h
  have hwl : IntKind.u64.wrap (s.length : Int) = s.length := by rw [IntKind.wrap_u64]; omega
  by_cases hle : n ≤ s.length
  · rw [if_pos hle]
    have hli : ¬ (s.length : Int) < (n : Int) := by omega
    have hld : decide ((s.length : Int) < (n : Int)) = false := decide_eq_false hli
    have hl2 : (n : Int) ≤ (s.length : Int) := by omega
    have hq : (s.drop n).take (s.length - n) = s.drop n := List.take_of_length_le (by rw [List.length_drop]; exact Nat.le_refl _)
    clear hle
    go_enter Try.func43, Try.ntmps43
    go_wp2_with fail
    refine (refuse_any false 1 w (by decide)).mono ?_
    rintro e w1 ⟨rfl, hw1⟩
    subst hw1
    rw [if_neg (by simp), outc_ok]
    go_wp2
    go_ret
    exact ⟨KI.set b w1 0 _, rfl, h.set _⟩
  · rw [if_neg hle]
    have hli : (s.length : Int) < (n : Int) := by omega
    have hld : decide ((s.length : Int) < (n : Int)) = true := decide_eq_true hli
    clear hle
    go_enter Try.func43, Try.ntmps43
    go_wp2_with fail
    refine (refuse_any true 1 w (by decide)).mono ?_
    rintro e w1 ⟨rfl, hw1⟩
    subst hw1
    rw [if_pos rfl, outc_no (by decide)]
    exact ⟨rfl, KI.refl _ _, 1, by decide, rfl⟩
end Go.Proofs.Ytnlkfehnmijimaa.Rc
