/- The document's own walk along a mask's graph: what is known of it, and what it marks. -/
import Derived.Laws.OwnMore
import Derived.Test.YtaijakomgkageaaProg
import Derived.Test.YtaijakomgkageaaKit
import Derived.Test.YtaijakomgkageaaMPar
import Derived.Test.YtaijakomgkageaaMLay
import Derived.Test.YtaijakomgkageaaMWlk
import Derived.Test.YtaijakomgkageaaReg
import Derived.Test.YtaijakomgkageaaMFrom
import Derived.Test.YtaijakomgkageaaMPrA
import Derived.Test.YtaijakomgkageaaMGra
import Derived.Test.YtaijakomgkageaaMRdA
import Derived.Test.YtaijakomgkageaaMRdB
import Derived.Test.YtaijakomgkageaaMRdF
import Derived.Test.YtaijakomgkageaaMLyA
set_option linter.unusedVariables false
set_option linter.unusedSimpArgs false
namespace Go.Proofs.Ytaijakomgkageaa
open Go.RowKit

/-! ### what was tried -/
def spentG (K : Nat → Kind) (t : List UInt8) (tr : List Bool) (f : Nat) : Prop :=
  ∀ n p, p ≤ t.length → tr[n * (t.length + 1) + p]? = some true → den K t f n p = none ∨ ∃ f', den K t f' n p = some none
def vainG (K : Nat → Kind) (t : List UInt8) (tr tr' : List Bool) : Prop :=
  ∀ n p, p ≤ t.length → tr'[n * (t.length + 1) + p]? = some true → tr[n * (t.length + 1) + p]? = some true ∨ ∃ f', den K t f' n p = some none
theorem spentG.down {K : Nat → Kind} {t : List UInt8} {tr : List Bool} {f : Nat} (h : spentG K t tr (f + 1)) : spentG K t tr f := by
  intro n p hp hk
  rcases h n p hp hk with h | h
  · left
    cases hc : den K t f n p with
    | none => rfl
    | some z => rw [den_succ _ _ _ _ _ _ hc] at h; cases h
  · exact .inr h
theorem spentG.put {K : Nat → Kind} {t : List UInt8} {tr : List Bool} {f n p : Nat} (h : spentG K t tr (f + 1)) (hp : p ≤ t.length) (hd : den K t f n p = none) : spentG K t (tr.set (n * (t.length + 1) + p) true) f := by
  intro n' p' hp' hk
  by_cases e : n * (t.length + 1) + p = n' * (t.length + 1) + p'
  · obtain ⟨rfl, rfl⟩ := idx_inj e hp hp'
    exact .inl hd
  · rw [List.getElem?_set_ne e] at hk
    exact h.down n' p' hp' hk
theorem vainG.refl (K : Nat → Kind) (t : List UInt8) (tr : List Bool) : vainG K t tr tr := fun n p _ h => .inl h
theorem vainG.trans {K : Nat → Kind} {t : List UInt8} {a b c : List Bool} (h : vainG K t a b) (k : vainG K t b c) : vainG K t a c := by
  intro n p hp hc
  rcases k n p hp hc with k | k
  · exact h n p hp k
  · exact .inr k
theorem spentG.vain {K : Nat → Kind} {t : List UInt8} {tr tr' : List Bool} {f : Nat} (h : spentG K t tr f) (k : vainG K t tr tr') : spentG K t tr' f := by
  intro n p hp hc
  rcases k n p hp hc with k | k
  · exact h n p hp k
  · exact .inr k
/-- What leads to nothing is noted. -/
theorem vainG.note {K : Nat → Kind} {t : List UInt8} {tr tr' : List Bool} {f n p : Nat} (h : vainG K t tr tr') (hp : p ≤ t.length) (hd : den K t f n p = some none) : vainG K t tr (tr'.set (n * (t.length + 1) + p) true) := by
  intro n' p' hp' hk
  by_cases e : n * (t.length + 1) + p = n' * (t.length + 1) + p'
  · obtain ⟨rfl, rfl⟩ := idx_inj e hp hp'
    exact .inr ⟨f, hd⟩
  · rw [List.getElem?_set_ne e] at hk
    exact h n' p' hp' hk
theorem vainG.noted {K : Nat → Kind} {t : List UInt8} {tr tr' : List Bool} {f n p : Nat} (h : vainG K t (tr.set (n * (t.length + 1) + p) true) tr') (hp : p ≤ t.length) (hd : den K t f n p = some none) : vainG K t tr tr' := by
  intro n' p' hp' hk
  rcases h n' p' hp' hk with h | h
  · by_cases e : n * (t.length + 1) + p = n' * (t.length + 1) + p'
    · obtain ⟨rfl, rfl⟩ := idx_inj e hp hp'
      exact .inr ⟨f, hd⟩
    · rw [List.getElem?_set_ne e] at h
      exact .inl h
  · exact .inr h

/-! ### what is marked: the last place of each group's begin (0), or end (1) -/
def putE (odd : Nat) (F : List Int) : Evs → List Int
  | [] => F
  | (sl, p) :: l => putE odd (if sl % 2 = odd then F.set (sl / 2 + 1) p else F) l
theorem putE_length (odd : Nat) : ∀ (l : Evs) (F : List Int), (putE odd F l).length = F.length
  | [], F => rfl
  | (sl, p) :: l, F => by
    rw [putE, putE_length odd l]
    split <;> simp
theorem putE_get (odd : Nat) (ho : odd < 2) : ∀ (l : Evs) (F : List Int) (k : Nat), k + 1 < F.length → (putE odd F l)[k + 1]? = some (lastOf ((F[k + 1]?).getD 0) (2 * k + odd) l)
  | [], F, k, hk => by simp [putE, lastOf, hk]
  | (sl, p) :: l, F, k, hk => by
    rw [putE, putE_get odd ho l _ k (by split <;> simpa using hk), lastOf]
    congr 2
    by_cases h : sl % 2 = odd
    · rw [if_pos h]
      by_cases e : sl = 2 * k + odd
      · have : sl / 2 + 1 = k + 1 := by omega
        rw [if_pos e, this, List.getElem?_set_self hk]
        rfl
      · rw [if_neg e, List.getElem?_set_ne (by omega)]
    · rw [if_neg h, if_neg (by omega)]

/-! ### memory -/
structure KB (X : Nat → Prop) (w w' : World) : Prop where
  os : w'.os = w.os
  tape : w'.tape = w.tape
  output : w'.output = w.output
  size : w.heap.size ≤ w'.heap.size
  block : ∀ k, k < w.heap.size → ¬ X k → w'.heap[k]? = w.heap[k]?
theorem KB.refl (X : Nat → Prop) (w : World) : KB X w w := ⟨rfl, rfl, rfl, Nat.le_refl _, fun _ _ _ => rfl⟩
theorem KB.trans {X : Nat → Prop} {a b c : World} (h : KB X a b) (k : KB X b c) : KB X a c :=
  ⟨k.os.trans h.os, k.tape.trans h.tape, k.output.trans h.output, Nat.le_trans h.size k.size, fun i h1 h2 => (k.block i (Nat.lt_of_lt_of_le h1 h.size) h2).trans (h.block i h1 h2)⟩
theorem KB.grow {X : Nat → Prop} {a b : World} (h : Grow a b) : KB X a b := ⟨h.os, h.tape, h.output, h.size, fun k h1 _ => h.block k h1⟩
theorem KB.set {X : Nat → Prop} {w : World} {b o : Nat} (h : X b) (v : Value) : KB X w (w.setCell ⟨b, o, none⟩ v) :=
  ⟨rfl, rfl, rfl, by simp [World.setCell], fun k _ hk => set_apart _ (fun e => hk (e ▸ h))⟩
theorem KB.get {X : Nat → Prop} {w w' : World} (h : KB X w w') {b : Nat} {o : Obj} (hb : w.heap[b]? = some o) (hx : ¬ X b) : w'.heap[b]? = some o := (h.block b (lt_of_block hb) hx).trans hb
theorem KB.cell {X : Nat → Prop} {w w' : World} (h : KB X w w') {b o : Nat} {v : Value} (hc : w.cell? ⟨b, o, none⟩ = some v) (hx : ¬ X b) : w'.cell? ⟨b, o, none⟩ = some v := (cell_keep (h.block b (cell_has hc) hx)).trans hc

/-- The rows that a walk writes: what was tried, where groups begin, where they end. -/
def own3 (bb fb tb : Nat) : Nat → Prop := fun k => k = bb ∨ k = fb ∨ k = tb
/-- A spot that a walk reads. -/
def spotOf (w : World) (X : Nat → Prop) : Kind → List Value → Prop
  | .take s nx, xs => ∃ b, xs = spotC 1 nx 0 0 (.slice (some ⟨b, 0, none⟩) 256 256) ∧ ¬ X b ∧ boolsAt w b (boolRow s)
  | .fin, xs => xs = spotC 0 0 0 0 (.slice none 0 0)
  | .fork [x, y], xs => xs = spotC 2 x y 0 (.slice none 0 0)
  | .fork _, xs => False
  | .mark sl nx, xs => xs = spotC (if sl % 2 = 0 then 3 else 4) nx 0 (sl / 2 + 1 : Nat) (.slice none 0 0)
theorem spotOf.keep {w w' : World} {X : Nat → Prop} (k : KB X w w') : ∀ {kd : Kind} {xs : List Value}, spotOf w X kd xs → spotOf w' X kd xs
  | .take s nx, xs, ⟨b, h1, h2, h3⟩ => ⟨b, h1, h2, k.get h3 h2⟩
  | .fin, xs, h => h
  | .fork [], xs, h => h
  | .fork [x], xs, h => h
  | .fork [x, y], xs, h => h
  | .fork (x :: y :: z :: l), xs, h => h
  | .mark sl nx, xs, h => h
theorem spotOf_of {w : World} {X : Nat → Prop} (hX : ∀ b l, boolsAt w b l → l.length = 256 → ¬ X b) : ∀ {kd : Kind} {xs : List Value}, spotAt w kd xs → spotOf w X kd xs
  | .take s nx, xs, ⟨b, h1, h2⟩ => ⟨b, h1, hX b _ h2 (boolRow_length s), h2⟩
  | .fin, xs, h => h
  | .fork [], xs, h => h
  | .fork [x], xs, h => h
  | .fork [x, y], xs, h => h
  | .fork (x :: y :: z :: l), xs, h => h
  | .mark sl nx, xs, h => h

/-- What stays while a walk goes on. -/
def wkAt (w : World) (wb lb sb bb fb tb : Nat) (K : List Kind) (t : List UInt8) (bn gn : Nat) : Prop :=
  ∃ scp bcp fcp tcp, w.heap[wb]? = some (.cells #[.pointer (some ⟨lb, 0, none⟩), .string (bs t), .slice (some ⟨bb, 0, none⟩) bn bcp, .slice (some ⟨fb, 0, none⟩) gn fcp, .slice (some ⟨tb, 0, none⟩) gn tcp] 79 (0, 0)) ∧
    w.heap[lb]? = some (.cells #[.slice (some ⟨sb, 0, none⟩) K.length scp] 71 (0, 0)) ∧
    (∀ i k, K[i]? = some k → ∃ ys, spotOf w (own3 bb fb tb) k ys ∧ ∀ j u, j < 5 → ys[j]? = some u → w.cell? ⟨sb, i * 5 + j, none⟩ = some u) ∧
    ¬ own3 bb fb tb wb ∧ ¬ own3 bb fb tb lb ∧ ¬ own3 bb fb tb sb ∧ bb ≠ fb ∧ bb ≠ tb ∧ fb ≠ tb
theorem wkAt.keep {w w' : World} {wb lb sb bb fb tb : Nat} {K : List Kind} {t : List UInt8} {bn gn : Nat} (h : wkAt w wb lb sb bb fb tb K t bn gn) (k : KB (own3 bb fb tb) w w') : wkAt w' wb lb sb bb fb tb K t bn gn := by
  obtain ⟨scp, bcp, fcp, tcp, h1, h2, h3, h4, h5, h6, h7⟩ := h
  refine ⟨scp, bcp, fcp, tcp, k.get h1 h4, k.get h2 h5, fun i kd hi => ?_, h4, h5, h6, h7⟩
  obtain ⟨ys, a, b⟩ := h3 i kd hi
  exact ⟨ys, a.keep k, fun j u hj hu => k.cell (b j u hj hu) h6⟩

/-- What a walk from a spot does. -/
def wpost (K : List Kind) (t : List UInt8) (bb fb tb : Nat) (bad : List Bool) (F G : List Int) (x : Option Evs) (w : World) (e : Ending) (w' : World) : Prop :=
  e = .returned (.bool x.isSome) ∧ KB (own3 bb fb tb) w w' ∧ ∃ bad', bad'.length = bad.length ∧ boolsAt w' bb bad' ∧
    (x = none → marksAt w' fb F ∧ marksAt w' tb G ∧ vainG (spots K) t bad bad') ∧ (∀ l, x = some l → marksAt w' fb (putE 0 F l) ∧ marksAt w' tb (putE 1 G l))
theorem marks_apart {w : World} {fb b o : Nat} {F : List Int} (h : marksAt w fb F) (v : Value) (hne : fb ≠ b) : marksAt (w.setCell ⟨b, o, none⟩ v) fb F := (set_apart _ hne).trans h
theorem bools_apart {w : World} {fb b o : Nat} {l : List Bool} (h : boolsAt w fb l) (v : Value) (hne : fb ≠ b) : boolsAt (w.setCell ⟨b, o, none⟩ v) fb l := (set_apart _ hne).trans h
end Go.Proofs.Ytaijakomgkageaa
