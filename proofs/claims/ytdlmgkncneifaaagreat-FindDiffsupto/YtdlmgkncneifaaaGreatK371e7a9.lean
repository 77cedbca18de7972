/- 1 texts in one. -/
import Derived.Test.YtdlmgkncneifaaaGreatProg
import Derived.Test.YtdlmgkncneifaaaGreatK77c7527
import Derived.Test.YtdlmgkncneifaaaGreatKca6d611
import Derived.Test.YtdlmgkncneifaaaGreatK261a29d
import Derived.Test.YtdlmgkncneifaaaGreatK101b007
import Derived.ProofKit
import Derived.Deep.Slices
import Derived.Deep.Fields
import Derived.Lib.SmallJoins
set_option linter.unusedVariables false
set_option linter.unusedSimpArgs false
namespace Go.Proofs.YtdlmgkncneifaaaGreat.Fd
open Go.RowKit Go.ChangeShapes Go.WideShapes Go.Deep Go.Joins
theorem Tryz.cellsTgt : Tryz.prog.cellsOf 36 = 1 := by kernel_rfl
theorem Tryz.cellsLabF : Tryz.prog.cellsOf 34 = 1 := by kernel_rfl
theorem roadf_at {b o : Nat} {sp : Option Nat} {w : World} {i : Nat} {v : Value} (h : w.cell? ((Addr.add ⟨b, o, sp⟩ i).add 0) = some v) : w.cell? ⟨b, o + i, none⟩ = some v ∧ (i = 0 → sp = none) := by
  unfold Addr.add at h
  by_cases hi : i = 0
  · subst hi
    cases sp with
    | none => simpa using h
    | some k => exfalso; simp [World.cell?] at h; split at h <;> simp at h
  · simp [hi] at h
    exact ⟨by simpa using h, fun e => absurd e hi⟩
section
variable {H : Type} {enc : TypeId × Value → H} {w : World} {spare : Nat → Bool} {held : Bool}
set_option maxRecDepth 20000 in
theorem open_tgtC {fuel : Nat} {cs : List Value} {x : DataW H × List MemPlace} (h : DataW.trod enc Tryz.prog w 0 spare held fuel 36 cs = some x) :
    ∃ (r : Tgt) (p : Value), cs = [p] ∧ Lb.readsLabels w w.heap.size p r ∧ okTgt r := by
  obtain ⟨xs, n, _, rfl, hl, hlen, hf⟩ := DataW.trod_struct Tryz.underlying36 h
  rw [Tryz.cellsTgt] at hl
  match cs, hl with
  | [a], _ =>
    have h0 := hf 0 _ rfl
    have h1 : DataW.trod enc Tryz.prog w 0 spare held n 34 (([a].drop 0).take (Tryz.prog.cellsOf 34)) = xs[0]? := h0
    rw [Tryz.cellsLabF] at h1
    simp only [List.drop_zero, List.take_succ_cons, List.take_zero] at h1
    have h2 : 0 < xs.length := by rw [hlen]; exact Nat.zero_lt_one
    rw [List.getElem?_eq_getElem h2] at h1
    obtain ⟨ls, hr, hn, hi⟩ := Lb.open_labels h1
    exact ⟨ls, a, rfl, hr, hn, hi⟩
set_option maxRecDepth 20000 in
theorem open_tgts {fuel : Nat} {v : Value} {x : DataW H × List MemPlace} (h : DataW.trod enc Tryz.prog w 0 spare held fuel 22 [v] = some x) :
    ∃ is, readsTgts w w.heap.size v is ∧ okTgts is := by
  rcases Go.Deep.open_slice Tryz.underlying22 h with ⟨h1, _⟩ | ⟨a, len, cap, m, n, D, Pl, h1, _, hl, hm, hmm, _, hx⟩
  · simp at h1
    subst h1
    exact ⟨[], ⟨none, 0, rfl, Nat.le_refl _, fun i hi => by simp at hi⟩, by simp, fun r hr => by simp at hr⟩
  · simp at h1
    subst h1
    have hle : len ≤ m := by rw [hmm]; split <;> omega
    obtain ⟨ab, ao, asp⟩ := a
    obtain ⟨is, hlen, hp⟩ := Lb.list_of (n := len) (p := fun i (r : Tgt) => okTgt r ∧ (i = 0 → asp = none) ∧ ∃ p, Lb.readsLabels w w.heap.size p r ∧ w.cell? ⟨ab, ao + i, none⟩ = some p) (fun i hi => by
      obtain ⟨cs', c1, c2⟩ := hx i (by omega)
      rw [Tryz.cellsTgt] at c1
      obtain ⟨r, p, rfl, hr, ho⟩ := open_tgtC c2
      obtain ⟨_, hl3, hc⟩ := World.cells?_some c1
      obtain ⟨e1, e2⟩ := roadf_at (hc 0 (by decide))
      rw [Nat.mul_one] at e1 e2
      exact ⟨r, ho, e2, p, hr, e1⟩)
    refine ⟨is, ⟨some ⟨ab, ao, asp⟩, cap, by rw [hlen], by rw [hlen]; exact hl, fun i hi => ?_⟩, by unfold maxLen at hm; omega, fun r hr => ?_⟩
    · obtain ⟨_, _, p, hr, c0⟩ := hp i hi
      obtain rfl := (hp 0 (by omega)).2.1 rfl
      exact ⟨ab, ao, p, rfl, World.block_lt_of_cell? _ _ c0, hr, c0⟩
    · obtain ⟨i, hi, rfl⟩ := List.getElem_of_mem hr
      exact (hp i hi).1
end
end Go.Proofs.YtdlmgkncneifaaaGreat.Fd
