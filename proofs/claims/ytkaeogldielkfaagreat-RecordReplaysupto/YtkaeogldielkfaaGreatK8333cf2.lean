/- 1 texts in one. -/
import Derived.Test.YtkaeogldielkfaaGreatProg
import Derived.Test.YtkaeogldielkfaaGreatKabe2b5f
import Derived.Deep.QuietTactic
import Derived.BigQuiet
set_option linter.unusedVariables false
set_option linter.unusedSimpArgs false
namespace Go.Proofs.YtkaeogldielkfaaGreat.Lg
open Go.RowKit
attribute [local go_sem] bs_size bs_toList bs_append bs_get bs_extract
theorem Tryz.infoT : (Tryz.prog.info? 9).map (fun i => (i.zero, i.size, i.bytes)) = some (some (.string ByteArray.empty), 1, 16) := by kernel_rfl
def strsV (L : List (List UInt8)) : List Value := L.map fun s => .string (bs s)
theorem strsV_snoc (L : List (List UInt8)) (s : List UInt8) : strsV (L ++ [s]) = strsV L ++ [.string (bs s)] := by simp [strsV]
abbrev ownStrs (w : World) (B : Nat) (v : Value) (L : List (List UInt8)) : Prop := w.ownsRow B 9 1 v L.length (strsV L)
theorem cell_keepL {w w' : World} {b o : Nat} (h : w'.heap[b]? = w.heap[b]?) : w'.cell? ⟨b, o, none⟩ = w.cell? ⟨b, o, none⟩ := by simp [World.cell?, h]
/-- Texts that can be read. -/
def readsStrs (w : World) (B : Nat) (v : Value) (gs : List (List UInt8)) : Prop :=
  ∃ ao cp, v = .slice ao gs.length cp ∧ ∀ i (h : i < gs.length), ∃ b o, ao = some ⟨b, o, none⟩ ∧ b < B ∧ w.cell? ⟨b, o + i, none⟩ = some (.string (bs gs[i]))
theorem readsStrs.keep {w w' : World} {B : Nat} {v : Value} {gs : List (List UInt8)} (h : readsStrs w B v gs) (g : Below B w w') : readsStrs w' B v gs := by
  obtain ⟨ao, cp, hv, h⟩ := h
  refine ⟨ao, cp, hv, fun i hi => ?_⟩
  obtain ⟨b, o, h1, h2, h3⟩ := h i hi
  exact ⟨b, o, h1, h2, (cell_keepL (g.block b h2)).trans h3⟩
theorem readsStrs.more {w : World} {B B' : Nat} {v : Value} {gs : List (List UInt8)} (h : readsStrs w B v gs) (hB : B ≤ B') : readsStrs w B' v gs := by
  obtain ⟨ao, cp, hv, h⟩ := h
  refine ⟨ao, cp, hv, fun i hi => ?_⟩
  obtain ⟨b, o, h1, h2, h3⟩ := h i hi
  exact ⟨b, o, h1, by omega, h3⟩
/-- A text more, in a row that a call owns: as the walk has it. -/
theorem append_strL {W : World} {v : Value} {ops : Array Oper} {rest : List Oper} {o : Oper} {a : Act} {Q : Exit → Act → World → Prop} (hgd : o.guard = none) (s x : Operand)
    (ho : o.op = .call { callee := .builtin .append, args := #[s, x], argTypes := #[69, 69] })
    (base : Nat) (L : List (List UInt8)) (c : List UInt8) (hs : a.eval s = v) (hown : ownStrs W base v L) (hx : a.eval x = .slice (some ⟨W.heap.size, 0, none⟩) 1 1)
    (hlen : L.length ≤ 100000000) (hbase : base ≤ W.heap.size)
    (h : ∀ ao cp n w', Hid (n = (L ++ [c]).length) → n ≤ 100000001 → ownStrs w' base (.slice ao n cp) (L ++ [c]) → W.grownBy w' v.ownBlock → Below base W w' → wpList Tryz.prog ops Q rest (a.put o.dst (.slice ao n cp)) w') :
    wpList Tryz.prog ops Q (o :: rest) a (W.alloc (.cells #[.string (bs c)] 9)) := by
  obtain ⟨i0, hi0, hz0, hz1, hz2⟩ := info_parts Tryz.infoT
  have hb2 : Below base W (W.alloc (.cells #[.string (bs c)] 9)) := (Below.refl _ _).alloc hbase _
  have hg2 : W.grownBy (W.alloc (.cells #[.string (bs c)] 9)) v.ownBlock := ⟨rfl, rfl, rfl, by simp, fun k hk _ => Below.heap_alloc _ _ _ hk⟩
  have hnew := heap_alloc_new W (.cells #[.string (bs c)] 9)
  have hsz := hb2.size
  have hown' := World.ownsRow.alloc hown (.cells #[.string (bs c)] 9)
  generalize (W.alloc (.cells #[.string (bs c)] 9)) = V at *
  refine wpList_append_own _ hgd s x 69 ho base 9 i0 (.string ByteArray.empty) 1 16 Tryz.underlying69 hi0 hz0 hz1 hz2 rfl (by omega) v L.length (strsV L) hs hown' ⟨W.heap.size, 0, none⟩ 1 1 [.string (bs c)] hx rfl (fun j u hu => by
    match j, hu with
    | 0, hu =>
      simp at hu
      subst hu
      rw [Addr.add_lit]
      simp [World.cell?, hnew]) (by simp [Value.oneCell']) (by unfold maxLen; omega) (by omega) (by omega) ?_
  intro v' w' hown2 hgrow _
  rw [← strsV_snoc] at hown2
  have hl : (L ++ [c]).length = L.length + 1 := by simp
  rw [← hl] at hown2
  obtain ⟨ao, cp, rfl⟩ := own_shape hown2
  exact h ao cp _ w' (hide rfl) (by rw [hl]; omega) hown2 ⟨hgrow.os.trans hg2.os, hgrow.tape.trans hg2.tape, hgrow.output.trans hg2.output, Nat.le_trans hg2.size hgrow.size, fun i hi hn => (hgrow.block i (Nat.lt_of_lt_of_le hi hg2.size) hn).trans (hg2.block i hi hn)⟩ (hb2.grown hgrow (by omega) (fun k hk => (World.ownsRow.lt hown' k hk).1))
end Go.Proofs.YtkaeogldielkfaaGreat.Lg
