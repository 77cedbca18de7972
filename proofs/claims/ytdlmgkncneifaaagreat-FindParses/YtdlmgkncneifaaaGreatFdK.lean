/- find: what Parse keeps, and a line of it. -/
import Derived.Laws.OwnMore
import Derived.Deep.AppendLies
import Derived.Maps.Own
import Derived.Maps.OwnOps
import Derived.Maps.OwnSet
import Derived.Maps.Views
import Derived.Test.YtdlmgkncneifaaaGreatProg
import Derived.Test.YtdlmgkncneifaaaGreatKit
import Derived.Test.YtdlmgkncneifaaaGreatReg
import Derived.Test.YtdlmgkncneifaaaGreatLSpec
import Derived.Test.YtdlmgkncneifaaaGreatLRow
import Derived.Test.YtdlmgkncneifaaaGreatLTwi
import Derived.Test.YtdlmgkncneifaaaGreatLTxt
import Derived.Test.YtdlmgkncneifaaaGreatLMak
import Derived.Test.YtdlmgkncneifaaaGreatLTin
import Derived.Test.YtdlmgkncneifaaaGreatLnA
import Derived.Test.YtdlmgkncneifaaaGreatLnB
import Derived.Test.YtdlmgkncneifaaaGreatLnE
import Derived.Test.YtdlmgkncneifaaaGreatLnF
import Derived.Test.YtdlmgkncneifaaaGreatFdA
import Derived.Test.YtdlmgkncneifaaaGreatFdF
import Derived.Test.YtdlmgkncneifaaaGreatFdE
import Derived.Test.YtdlmgkncneifaaaGreatFdJ
import Derived.BigQuiet
set_option linter.unusedVariables false
set_option linter.unusedSimpArgs false
namespace Go.Proofs.YtdlmgkncneifaaaGreat.Fd
open Go.RowKit Go.Maps Lb Ln
open Go.WideMaps (keyOf_string_mk)
attribute [local go_sem] bs_size bs_toList bs_append bs_get bs_extract

theorem nodup_len {α : Type} [DecidableEq α] : ∀ (a b : List α), a.Nodup → (∀ x ∈ a, x ∈ b) → a.length ≤ b.length
  | [], b, _, _ => Nat.zero_le _
  | x :: a, b, hn, h => by
    rw [List.nodup_cons] at hn
    have hx := h x (by simp)
    have := nodup_len a (b.erase x) hn.2 fun y hy => (List.mem_erase_of_ne (fun e => by subst e; exact hn.1 hy)).2 (h y (List.mem_cons_of_mem _ hy))
    rw [List.length_erase_of_mem hx] at this
    have := List.length_pos_of_mem hx
    rw [List.length_cons]
    omega
/-- What Make makes is right. -/
theorem make_rightF {l : List Lab} (h : makeErr l = 0) : checkB (makeAns l) = 0 := by
  rw [makeAns_ok h]
  have h2 : eachErr 0 l = 0 ∧ twiceB l = false := by
    unfold makeErr at h
    split at h
    · rename_i h1
      split at h
      · rename_i h2; exact ⟨h1, h2⟩
      · cases h
    · rename_i h1; exact absurd h h1
  obtain ⟨h3, h4⟩ := eachErr_zero.1 h2.1
  have hm := makeL_mem h2.2
  have hr := makeL_rise l
  have hnd : (makeL l).Nodup := by
    refine List.Pairwise.imp (fun {a b} hab => ?_) hr
    rintro rfl
    rw [bl_irrefl] at hab
    cases hab
  refine checkB_zero.2 ⟨eachErr_zero.2 ⟨?_, fun x hx => ?_⟩, rise_iff.1 hr⟩
  · have := nodup_len _ l hnd fun x hx => ((hm x).1 hx).1
    omega
  · obtain ⟨h5, h6⟩ := (hm x).1 hx
    have := h4 x h5
    have h7 : x.2.length ≠ 0 := fun e => h6 (List.eq_nil_of_length_eq_zero e)
    exact ⟨this.1, by omega, this.2.2⟩
theorem read_right {t : List UInt8} {f : Nat} {r : List UInt8} {ls : List Lab} (h : readE t f r = .ok ls) : checkB ls = 0 ∧ ls ≠ [] := by
  unfold readE at h
  split at h
  · cases h
  · split at h
    · split at h
      · rename_i h0
        split at h
        · cases h
        · rename_i hn; cases h; exact ⟨make_rightF h0, hn⟩
      · cases h
    · cases h
/-- A line, behind some targets. -/
def stepT (t : List UInt8) (f : Nat) (st : List Tgt) : Except (Nat × Nat) (List Tgt) :=
  if blR (t.drop f) = [] ∨ skipB 35 (blR (t.drop f)) = true then .ok st else match readE t f (blR (t.drop f)) with
    | .error x => .error x
    | .ok ls => if ls ∈ st then .error (6, f) else if st.length = 100 then .error (2, f) else .ok (st ++ [ls])
def textsT (st : List Tgt) : List Lit := st.map fun x => .string (textAns x)
theorem textsT_snoc (st : List Tgt) (x : Tgt) : textsT (st ++ [x]) = textsT st ++ [.string (textAns x)] := by simp [textsT]
theorem textsT_key (st : List Tgt) : ∀ x ∈ textsT st, WideAt.IsKeyLit x := by
  intro x hx
  obtain ⟨y, _, rfl⟩ := List.mem_map.1 hx
  simp [WideAt.IsKeyLit]
theorem textsT_has {st : List Tgt} (hok : ∀ x ∈ st, checkB x = 0 ∧ x ≠ []) {ls : Tgt} (h0 : checkB ls = 0) (hn : ls ≠ []) : Maps.has (setOf (H := Unit) (.agg []) (textsT st)) (.string (textAns ls)) = decide (ls ∈ st) := by
  rw [Bool.eq_iff_iff, has_setOf _ _ _ (textsT_key st), List.any_eq_true, decide_eq_true_eq]
  constructor
  · rintro ⟨x, hx, he⟩
    obtain ⟨y, hy, rfl⟩ := List.mem_map.1 hx
    have he : textAns y = textAns ls := by simpa [Lit.sameKey] using he
    have := textAns_inj h0 (hok y hy).1 (List.length_pos_iff.2 hn) (List.length_pos_iff.2 (hok y hy).2) he.symm
    rw [this]; exact hy
  · intro hm
    exact ⟨.string (textAns ls), List.mem_map.2 ⟨ls, hm, rfl⟩, by simp [Lit.sameKey]⟩
abbrev zeroF : Obj := .cells #[.int .i64 0, .int .i64 0] 25 (0, 0)
/-- What Parse keeps between the lines; w: the world in which it began. -/
structure PJ (w : World) (st : List Tgt) (W : World) : Prop where
  gr : Below w.heap.size w W
  sz : w.heap.size + 4 ≤ W.heap.size
  fz : W.heap[w.heap.size]? = some zeroF
  ct : W.heap[w.heap.size + 3]? = some (.cells #[.map (some (w.heap.size + 2))] 41 (0, 0))
  mp : W.ownsMap Tryz.prog 9 unitElem (w.heap.size + 2) st.length (setOf (H := Unit) (.agg []) (textsT st))
  tg : ∃ v ps, W.heap[w.heap.size + 1]? = some (.cells #[v] 22 (0, 0)) ∧ ownTgts W (w.heap.size + 5) v ps ∧ tgts ps = st
  ok : ∀ x ∈ st, checkB x = 0 ∧ x ≠ []
  ln : st.length ≤ 100
/-- What is left of it when a line gives up. -/
def PF (w W : World) : Prop := Below w.heap.size w W ∧ w.heap.size + 4 ≤ W.heap.size ∧ W.heap[w.heap.size]? = some zeroF
theorem PJ.fails {w W : World} {st : List Tgt} (h : PJ w st W) : PF w W := ⟨h.gr, h.sz, h.fz⟩
theorem own_far {w w' : World} {base e size n : Nat} {v : Value} {xs : List Value} {row : Option Nat} (h : w.ownsRow base e size v n xs) (hg : w.grownBy w' row) (hr : ∀ g, row = some g → v.ownBlock ≠ some g) : w'.ownsRow base e size v n xs := own_keep h fun b hb => hg.block b (h.lt b hb).2 (fun e => hr b e.symm hb)
/-- A change of another block: Each's own, or the line. -/
theorem PJ.stay {w W W' : World} {st : List Tgt} {row : Option Nat} (h : PJ w st W) (hg : W.grownBy W' row) (hr : ∀ g, row = some g → g = w.heap.size + 4 ∨ (w.heap.size + 5 ≤ g ∧ ∃ c fr, W.heap[g]? = some (.cells c 74 fr))) : PJ w st W' := by
  have hs := h.sz
  have low : ∀ k, k < w.heap.size + 4 → W'.heap[k]? = W.heap[k]? := fun k hk => hg.block k (by omega) (fun e => by rcases hr k e.symm with h1 | h1 <;> omega)
  have far : ∀ {e size n : Nat} {v : Value} {xs : List Value}, W.ownsRow (w.heap.size + 5) e size v n xs → e ≠ 74 → W'.ownsRow (w.heap.size + 5) e size v n xs := fun {e size n v xs} q hne => own_far q hg fun g hgr hb => by
    rcases hr g hgr with h1 | ⟨_, c, fr, h2⟩
    · have := (q.lt g hb).1; omega
    · rcases q.2 with ⟨rfl, _⟩ | ⟨g', cap, cur, rfl, _, h3, _⟩
      · cases hb
      · obtain rfl : g' = g := by simpa [Value.ownBlock] using hb
        rw [h2] at h3
        simp at h3
        exact hne h3.2.1.symm
  obtain ⟨v, ps, h1, h2, h3⟩ := h.tg
  refine ⟨⟨hg.os.trans h.gr.os, hg.tape.trans h.gr.tape, hg.output.trans h.gr.output, Nat.le_trans h.gr.size hg.size, fun k hk => (low k (by omega)).trans (h.gr.block k hk)⟩, Nat.le_trans h.sz hg.size, (low _ (by omega)).trans h.fz, (low _ (by omega)).trans h.ct, h.mp.kept hg (fun e => by rcases hr _ e.symm with h1 | h1 <;> omega), ⟨v, ps, (low _ (by omega)).trans h1, ⟨far h2.1 (by decide), fun p hp => far (h2.2 p hp) (by decide)⟩, h3⟩, h.ok, h.ln⟩
theorem grownG {w w' : World} (h : Grow w w') : w.grownBy w' none := ⟨h.os, h.tape, h.output, h.size, fun i hi _ => h.block i hi⟩
theorem grownK {b : Nat} {w w' : World} (h : KI b w w') : w.grownBy w' (some b) := ⟨h.os, h.tape, h.output, h.size, fun i hi hn => h.block i hi (fun e => hn (by rw [e]))⟩
theorem grownS (w : World) (g i : Nat) (u : Value) : w.grownBy (w.setCell ⟨g, i, none⟩ u) (some g) := ⟨rfl, rfl, rfl, by simp [World.setCell], fun k _ hn => Below.heap_setCell _ _ _ _ (fun e => hn (by rw [e]))⟩
theorem PJ.grow {w W W' : World} {st : List Tgt} (h : PJ w st W) (hg : Grow W W') : PJ w st W' := h.stay (grownG hg) (fun g e => by cases e)
theorem PJ.ki {w W W' : World} {st : List Tgt} {b f : Nat} {t r : List UInt8} (h : PJ w st W) (hi : InL W b t f r) (hb : w.heap.size + 4 < b) (hk : KI b W W') : PJ w st W' := h.stay (grownK hk) (fun g e => by cases e; exact .inr ⟨by omega, _, _, hi.cell⟩)
theorem PF.ki {w W W' : World} {b : Nat} (h : PF w W) (hb : w.heap.size + 4 < b) (hk : KI b W W') : PF w W' := by
  obtain ⟨h1, h2, h3⟩ := h
  exact ⟨h1.trans (hk.below (by omega) (by omega)), Nat.le_trans h2 hk.size, (hk.block _ (by omega) (by omega)).trans h3⟩
end Go.Proofs.YtdlmgkncneifaaaGreat.Fd
