/- Rows of texts behind rows of texts, guarded or not. -/
import Derived.Test.YtjjjncainakbiaaProg
import Derived.Test.YtjjjncainakbiaaKit
import Derived.Test.YtjjjncainakbiaaLgO
set_option linter.unusedVariables false
set_option linter.unusedSimpArgs false
namespace Go.Proofs.Ytjjjncainakbiaa.Lg
open Go.RowKit
attribute [local go_sem] bs_size bs_toList bs_append bs_get bs_extract

theorem strsV_append (a b : List (List UInt8)) : strsV (a ++ b) = strsV a ++ strsV b := by simp [strsV]
theorem append_textsG {w : World} {ops : Array Oper} {rest : List Oper} {o : Oper} {a : Act} {Q : Exit → Act → World → Prop} (hw : Region.wanted o (yielded ops a.tmps) = true) (s x : Operand)
    (ho : o.op = .call { callee := .builtin .append, args := #[s, x], argTypes := #[32, 32] })
    (base B2 : Nat) (v v2 : Value) (L M : List (List UInt8)) (hs : a.eval s = v) (hx : a.eval x = v2)
    (hown : ownStrs w base v L) (hm : ownStrs w B2 v2 M) (hlen : L.length + M.length ≤ 2000000) (hbase : base ≤ w.heap.size)
    (h : ∀ ao cp n w', Hid (n = (L ++ M).length) → ownStrs w' base (.slice ao n cp) (L ++ M) → w.grownBy w' v.ownBlock → Below base w w' → wpList Try.prog ops Q rest (a.put o.dst (.slice ao n cp)) w') : wpList Try.prog ops Q (o :: rest) a w := by
  obtain ⟨i0, hi0, hz0, hz1, hz2⟩ := info_parts Try.infoT
  refine wpList_step fun K hK => ?_
  rw [if_pos hw]
  obtain ⟨ao, cp, rfl⟩ := own_shape hown
  rcases id hm.2 with ⟨rfl, h0⟩ | ⟨g, cap, cur, rfl, h1, h2, h3⟩
  · have hM : M = [] := List.eq_nil_of_length_eq_zero h0
    subst hM
    have hrun := run_append_owned_none (P := Try.prog) (w := w) base 32 o.type 9 i0 1 Try.underlying32 hi0 _ L.length (strsV L) hown
    unfold Oper.wp
    simp [execOp, ho, resolve, invoke, builtin, hs, hx, hrun, Result.andThen]
    exact hK _ _ (h ao cp _ w (hide (by simp)) (by simpa using hown) ⟨rfl, rfl, rfl, Nat.le_refl _, fun _ _ _ => rfl⟩ (Below.refl _ _))
  · refine wp_append_own w s x 32 ho base 9 i0 _ 1 16 Try.underlying32 hi0 hz0 hz1 hz2 rfl (by omega) _ L.length (strsV L) hs hown ⟨g, 0, none⟩ M.length cap (strsV M) hx (by rw [strsV_length, Nat.mul_one]) (World.ownsRow.cells hm rfl) (strsV_oneCell M) (by unfold maxLen; omega) (by omega) hbase ?_
    intro v' w' hown' hgrow _
    rw [← strsV_append, ← List.length_append] at hown'
    obtain ⟨ao', cp', rfl⟩ := own_shape hown'
    exact hK _ _ (h ao' cp' _ w' (hide rfl) hown' hgrow ((Below.refl base w).grown hgrow hbase (fun k hk => (World.ownsRow.lt hown k hk).1)))
theorem own_none (W : World) : ownStrs (W.alloc (.cells #[] 9)) W.heap.size (.slice (some ⟨W.heap.size, 0, none⟩) 0 0) [] :=
  ⟨rfl, .inr ⟨W.heap.size, 0, #[], rfl, Nat.le_refl _, heap_alloc_new W _, Nat.le_refl _, by decide, rfl, rfl⟩⟩
theorem own_sole (W : World) (r : List UInt8) : ownStrs (W.alloc (.cells #[.string (bs r)] 9)) W.heap.size (.slice (some ⟨W.heap.size, 0, none⟩) 1 1) [r] :=
  ⟨rfl, .inr ⟨W.heap.size, 1, _, rfl, Nat.le_refl _, heap_alloc_new W _, Nat.le_refl _, by decide, rfl, rfl⟩⟩
end Go.Proofs.Ytjjjncainakbiaa.Lg
