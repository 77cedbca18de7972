/- shard: Push, where nothing is wrong. -/
import Derived.Laws.OwnMore
import Derived.Deep.AppendLies
import Derived.Test.YtfdogelkgogcbaaProg
import Derived.Test.YtfdogelkgogcbaaKit
import Derived.Test.YtfdogelkgogcbaaReg
import Derived.Test.YtfdogelkgogcbaaReg2
import Derived.Test.YtfdogelkgogcbaaLRow
import Derived.Test.YtfdogelkgogcbaaLMak
import Derived.Test.YtfdogelkgogcbaaShA
import Derived.Test.YtfdogelkgogcbaaShB
import Derived.Test.YtfdogelkgogcbaaShC
import Derived.Test.YtfdogelkgogcbaaShD
import Derived.Test.YtfdogelkgogcbaaShE
import Derived.Test.YtfdogelkgogcbaaShG
import Derived.BigQuiet
set_option linter.unusedVariables false
set_option linter.unusedSimpArgs false
namespace Go.Proofs.Ytfdogelkgogcbaa.Sh
open Go.RowKit
attribute [local go_sem] bs_size bs_toList bs_append bs_get bs_extract

def itmV (vl : Value) (x : Itm) : Value := .agg #[.int .i64 x.1, vl, .int .i64 x.2.2.1, .int .u64 (x.2.2.2 : Nat)]
def pushJ (w0 : World) (is : List Itm) (x : Itm) (xl : Value) (d2 : Bool) (v2 : Value) (d4 : Bool) (v4 : Value) (d5 : Bool) (v5 : Value) (d6 : Bool) (v6 : Value) (w' : World) : Prop :=
  Grow w0 w' ∧
  (d2 = true → d6 = false → ∃ ps, ownItems w' w0.heap.size v2 ps ∧ ps.map (·.1) = is.map copyI) ∧
  (d4 = true → d5 = false → ∃ nb, v4 = .slice (some ⟨nb, 0, none⟩) 1 1 ∧ w'.heap[nb]? = some (.cells #[.int .i64 x.1, xl, .int .i64 x.2.2.1, .int .u64 (x.2.2.2 : Nat)] 39 (0, 0))) ∧
  (d5 = true → d6 = false → ∃ qs, ownItems w' w0.heap.size v5 qs ∧ qs.map (·.1) = [copyI x]) ∧
  (d6 = true → ∃ rs, ownItems w' w0.heap.size v6 rs ∧ rs.map (·.1) = is.map copyI ++ [copyI x])
theorem pushJ.grow {w0 w' w'' : World} {is : List Itm} {x : Itm} {xl v2 v4 v5 v6 : Value} {d2 d4 d5 d6 : Bool} (h : pushJ w0 is x xl d2 v2 d4 v4 d5 v5 d6 v6 w') (g : Grow w' w'') : pushJ w0 is x xl d2 v2 d4 v4 d5 v5 d6 v6 w'' := by
  obtain ⟨h1, h2, h3, h4, h5⟩ := h
  refine ⟨h1.trans g, fun a b => ?_, fun a b => ?_, fun a b => ?_, fun a => ?_⟩
  · obtain ⟨ps, p1, p2⟩ := h2 a b; exact ⟨ps, p1.grow g, p2⟩
  · obtain ⟨nb, p1, p2⟩ := h3 a b; exact ⟨nb, p1, g.get p2⟩
  · obtain ⟨ps, p1, p2⟩ := h4 a b; exact ⟨ps, p1.grow g, p2⟩
  · obtain ⟨ps, p1, p2⟩ := h5 a; exact ⟨ps, p1.grow g, p2⟩
theorem itCells_one {ps : List (Itm × Value)} {w : World} {B : Nat} (h : ∀ p ∈ ps, Lb.ownLabels w B p.2 p.1.2.1) : ∀ u ∈ itCells ps, u.oneCell' = true := by
  induction ps with
  | nil => intro u hu; simp [itCells] at hu
  | cons p l ih =>
    intro u hu
    obtain ⟨ao, cp, e⟩ := own_shape (h p (by simp))
    rcases List.mem_cons.1 hu with rfl | hu
    · rfl
    rcases List.mem_cons.1 hu with rfl | hu
    · rw [e]; rfl
    rcases List.mem_cons.1 hu with rfl | hu
    · rfl
    rcases List.mem_cons.1 hu with rfl | hu
    · rfl
    exact ih (fun q hq => h q (List.mem_cons_of_mem _ hq)) u hu
/-- One item more: both rows are the call's own. -/
theorem app_items {w : World} {B : Nat} {v v5 : Value} {ps qs : List (Itm × Value)} {ty : TypeId} (h : ownItems w B v ps) (h5 : ownItems w B v5 qs) (hq : qs.length = 1) (hp : ps.length ≤ 1000) (hB : B ≤ w.heap.size) :
    ∃ v6 w3, (Builtin.append_ #[22, 22] ty #[v, v5]).run Try.prog w = .ok v6 w3 ∧ ownItems w3 B v6 (ps ++ qs) ∧ Below B w w3 := by
  obtain ⟨i0, hi0, hz0, hz1, hz2⟩ := info_parts infoItm
  obtain ⟨ao, cp, hv5⟩ := own_shape h5.1
  rcases h5.1.2 with ⟨rfl, h0⟩ | ⟨g, cap, cur, rfl, k1, k2, k3⟩
  · omega
  · obtain ⟨v', w3, hrun, hown3, hgrow, _⟩ := run_append_own (P := Try.prog) w B 22 ty 39 i0 _ 4 48 Try.underlying22 hi0 hz0 hz1 hz2 rfl (by decide) v ps.length (itCells ps) h.1 ⟨g, 0, none⟩ 1 cap (itCells qs) (by rw [itCells_length, hq]) (fun j u hj => World.ownsRow.cells h5.1 (g := g) rfl j u hj) (itCells_one h5.2) (by unfold maxLen; omega) (by omega) hB
    refine ⟨v', w3, by rw [hq]; exact hrun, ⟨by rw [List.length_append, hq, itCells_append]; exact hown3, fun p hp => ?_⟩, (Below.refl B w).grown hgrow hB (fun k hk => (h.1.lt k hk).1)⟩
    rcases List.mem_append.1 hp with hp | hp
    · exact ownRow_grown (h.2 p hp) h.1 hgrow (by decide)
    · exact ownRow_grown (h5.2 p hp) h.1 hgrow (by decide)
theorem ownItems.set {w : World} {B b i : Nat} {v u : Value} {ps : List (Itm × Value)} {c : Array Value} {t : TypeId} {fr : Nat × Nat} (h : ownItems w B v ps) (hb : w.heap[b]? = some (.cells c t fr)) (h1 : 39 ≠ t) (h2 : 52 ≠ t) : ownItems (w.setCell ⟨b, i, none⟩ u) B v ps :=
  ⟨ownsRow_setCell_other (a := ⟨b, i, none⟩) h.1 (own_apart h.1 hb h1) _, fun p hp => ownsRow_setCell_other (a := ⟨b, i, none⟩) (h.2 p hp) (own_apart (h.2 p hp) hb h2) _⟩
end Go.Proofs.Ytfdogelkgogcbaa.Sh
