/- shard: items and shards; the small checks. -/
import Derived.Laws.OwnMore
import Derived.Test.YtfdogelkgogcbaaProg
import Derived.Test.YtfdogelkgogcbaaKit
import Derived.Test.YtfdogelkgogcbaaReg
import Derived.Test.YtfdogelkgogcbaaLSpec
import Derived.Test.YtfdogelkgogcbaaLRow
import Derived.Test.YtfdogelkgogcbaaLChk
import Derived.Test.YtfdogelkgogcbaaLTwi
import Derived.BigQuiet
set_option linter.unusedVariables false
set_option linter.unusedSimpArgs false
namespace Go.Proofs.Ytfdogelkgogcbaa.Sh
open Go.RowKit Lb
attribute [local go_sem] bs_size bs_toList bs_append bs_get bs_extract

/-- An item: its number, its labels, its sample's time and bits. -/
abbrev Itm := Int × List Lab × Int × Nat
structure Shd where
  items : List Itm
  batch : Int
  room : Int
  first : Int
  most : Int
  waits : Int
  till : Int
def readsItems (w : World) (B : Nat) (v : Value) (l : List Itm) : Prop :=
  ∃ ao cp, v = .slice ao l.length cp ∧ l.length ≤ cp ∧ ∀ i (h : i < l.length), ∃ b o vl, ao = some ⟨b, o, none⟩ ∧ b < B ∧ readsLabels w B vl l[i].2.1 ∧ w.cell? ⟨b, o + i * 4, none⟩ = some (.int .i64 l[i].1) ∧ w.cell? ⟨b, o + i * 4 + 1, none⟩ = some vl ∧ w.cell? ⟨b, o + i * 4 + 2, none⟩ = some (.int .i64 l[i].2.2.1) ∧ w.cell? ⟨b, o + i * 4 + 3, none⟩ = some (.int .u64 (l[i].2.2.2 : Nat))
theorem readsItems.keep {w w' : World} {B : Nat} {v : Value} {l : List Itm} (h : readsItems w B v l) (g : Below B w w') : readsItems w' B v l := by
  obtain ⟨ao, cp, hv, hc, h⟩ := h
  refine ⟨ao, cp, hv, hc, fun i hi => ?_⟩
  obtain ⟨b, o, vl, e, hb, hl, c0, c1, c2, c3⟩ := h i hi
  exact ⟨b, o, vl, e, hb, readsLabels_below hl g, (g.cell (p := ⟨b, _, none⟩) hb).trans c0, (g.cell (p := ⟨b, _, none⟩) hb).trans c1, (g.cell (p := ⟨b, _, none⟩) hb).trans c2, (g.cell (p := ⟨b, _, none⟩) hb).trans c3⟩
theorem readsItems.more {w : World} {B B' : Nat} {v : Value} {l : List Itm} (h : readsItems w B v l) (hB : B ≤ B') : readsItems w B' v l := by
  obtain ⟨ao, cp, hv, hc, h⟩ := h
  refine ⟨ao, cp, hv, hc, fun i hi => ?_⟩
  obtain ⟨b, o, vl, e, hb, hl, c⟩ := h i hi
  exact ⟨b, o, vl, e, by omega, readsLabels_mono hl hB, c⟩
theorem readsItems.take {w : World} {B : Nat} {ao : Option Addr} {n cp : Nat} {l : List Itm} (h : readsItems w B (.slice ao n cp) l) {k : Nat} (hk : k ≤ l.length) : readsItems w B (.slice ao k cp) (l.take k) := by
  obtain ⟨ao', cp', hv, hc, h⟩ := h
  cases hv
  have e : (l.take k).length = k := by rw [List.length_take]; omega
  refine ⟨ao, cp, by rw [e], by omega, fun i hi => ?_⟩
  rw [e] at hi
  have := h i (by omega)
  simpa [List.getElem_take] using this
def timeB (n : Int) : Bool := decide (-9007199254740991 ≤ n) && decide (n ≤ 9007199254740991)
def itemErr (x : Itm) : Nat := if x.1 < 0 ∨ timeB x.2.2.1 = false then 3 else checkB x.2.1
def inB (s : Shd) : Bool := decide (1 ≤ s.batch) && (decide (s.batch ≤ 200) && (decide (1 ≤ s.room) && (decide (s.room ≤ 100) && (decide (1 ≤ s.first) && (decide (s.first ≤ s.most) && (decide (s.most ≤ 100000) && ((s.waits == 0 || (decide (s.first ≤ s.waits) && decide (s.waits ≤ s.most))) && timeB s.till)))))))
def okItm (x : Itm) : Prop := (-9223372036854775808 ≤ x.1 ∧ x.1 ≤ 9223372036854775807) ∧ (-9223372036854775808 ≤ x.2.2.1 ∧ x.2.2.1 ≤ 9223372036854775807) ∧ x.2.2.2 < 18446744073709551616 ∧ x.2.1.length ≤ 9223372036854775807 ∧ lensOk x.2.1
def okShd (s : Shd) : Prop := s.items.length ≤ 9223372036854775807 ∧ (∀ x ∈ s.items, okItm x) ∧ (-9223372036854775808 ≤ s.batch ∧ s.batch ≤ 9223372036854775807) ∧ (-9223372036854775808 ≤ s.room ∧ s.room ≤ 9223372036854775807) ∧ (-9223372036854775808 ≤ s.first ∧ s.first ≤ 9223372036854775807) ∧ (-9223372036854775808 ≤ s.most ∧ s.most ≤ 9223372036854775807) ∧ (-9223372036854775808 ≤ s.waits ∧ s.waits ≤ 9223372036854775807) ∧ (-9223372036854775808 ≤ s.till ∧ s.till ≤ 9223372036854775807)
theorem mixedR : Try.prog.follows .mixedOrders = true := by kernel_rfl
theorem laid_at (w : World) (c : Array Value) (t : TypeId) : ∃ W : World, w.alloc (.cells c t) = W ∧ Grow w W ∧ W.heap[w.heap.size]? = some (.cells c t (0, 0)) := ⟨_, rfl, (Grow.refl _).alloc _, heap_alloc_new _ _⟩
theorem four_of {w : World} {b : Nat} {x0 x1 x2 x3 : Value} {t : TypeId} (h : w.heap[b]? = some (.cells #[x0, x1, x2, x3] t (0, 0))) : w.cell? ⟨b, 0, none⟩ = some x0 ∧ w.cell? ⟨b, 1, none⟩ = some x1 ∧ w.cell? ⟨b, 2, none⟩ = some x2 ∧ w.cell? ⟨b, 3, none⟩ = some x3 := by simp [World.cell?, h]
theorem seven_of {w : World} {b : Nat} {x0 x1 x2 x3 x4 x5 x6 : Value} {t : TypeId} (h : w.heap[b]? = some (.cells #[x0, x1, x2, x3, x4, x5, x6] t (0, 0))) : w.cell? ⟨b, 0, none⟩ = some x0 ∧ w.cell? ⟨b, 1, none⟩ = some x1 ∧ w.cell? ⟨b, 2, none⟩ = some x2 ∧ w.cell? ⟨b, 3, none⟩ = some x3 ∧ w.cell? ⟨b, 4, none⟩ = some x4 ∧ w.cell? ⟨b, 5, none⟩ = some x5 ∧ w.cell? ⟨b, 6, none⟩ = some x6 := by simp [World.cell?, h]
theorem grow_drew (w : World) (n : Nat) : Grow w (w.drewN n) := ⟨rfl, rfl, rfl, Nat.le_refl _, fun _ _ => rfl⟩

set_option maxHeartbeats 1000000 in
theorem isTime_any (n : Int) (w : World) : Calls Try.prog 39 #[.int .i64 n] w fun e w' => e = .returned (.bool (timeB n)) ∧ w' = w := by
  unfold timeB
  by_cases h1 : -9007199254740991 ≤ n
  · rw [decide_eq_true h1]
    go_enter Try.func39, Try.ntmps39
    go_wp2
    go_ret
    exact ⟨ret_bool (by simp), rfl⟩
  · rw [decide_eq_false h1]
    have h2 := decide_eq_false h1
    go_enter Try.func39, Try.ntmps39
    go_wp2
    go_ret
    exact ⟨ret_bool (by simp), rfl⟩
set_option maxRecDepth 20000 in
set_option maxHeartbeats 4000000 in
theorem inBounds_any (w : World) (vi : Value) (s : Shd) (hvi : ∃ ao n cp, vi = .slice ao n cp) :
    Calls Try.prog 22 #[.agg #[vi, .int .i64 s.batch, .int .i64 s.room, .int .i64 s.first, .int .i64 s.most, .int .i64 s.waits, .int .i64 s.till]] w fun e w' => e = .returned (.bool (inB s)) ∧ Grow w w' := by
  obtain ⟨io, n, ic, rfl⟩ := hvi
  obtain ⟨its, batch, room, first, most, waits, till⟩ := s
  obtain ⟨B, HB⟩ : ∃ B, Hid (inB ⟨its, batch, room, first, most, waits, till⟩ = B) := ⟨_, hide rfl⟩
  rw [HB.out]
  have HB1 : Hid ((decide (1 ≤ batch) && (decide (batch ≤ 200) && (decide (1 ≤ room) && (decide (room ≤ 100) && (decide (1 ≤ first) && (decide (first ≤ most) && (decide (most ≤ 100000) && ((waits == 0 || (decide (first ≤ waits) && decide (waits ≤ most))) && timeB till)))))))) = B) := HB
  clear HB
  simp only
  obtain ⟨W, eW, gW, hW⟩ := laid_at w #[.slice io n ic, .int .i64 batch, .int .i64 room, .int .i64 first, .int .i64 most, .int .i64 waits, .int .i64 till] 24
  obtain ⟨c0, c1, c2, c3, c4, c5, c6⟩ := seven_of hW
  have HG := hide gW
  clear gW hW
  cases h0 : decide (1 ≤ batch) with
  | false =>
    rw [h0] at HB1
    go_enter Try.func22, Try.ntmps22
    go_wp2
    go_ret
    exact ⟨ret_bool (by rw [← HB1.out]; rfl), HG.out⟩
  | true =>
    rw [h0] at HB1
    cases h1 : decide (batch ≤ 200) with
    | false =>
      rw [h1] at HB1
      go_enter Try.func22, Try.ntmps22
      go_wp2
      go_ret
      exact ⟨ret_bool (by rw [← HB1.out]; rfl), HG.out⟩
    | true =>
      rw [h1] at HB1
      cases h2 : decide (1 ≤ room) with
      | false =>
        rw [h2] at HB1
        go_enter Try.func22, Try.ntmps22
        go_wp2
        go_ret
        exact ⟨ret_bool (by rw [← HB1.out]; rfl), HG.out⟩
      | true =>
        rw [h2] at HB1
        cases h3 : decide (room ≤ 100) with
        | false =>
          rw [h3] at HB1
          go_enter Try.func22, Try.ntmps22
          go_wp2
          go_ret
          exact ⟨ret_bool (by rw [← HB1.out]; rfl), HG.out⟩
        | true =>
          rw [h3] at HB1
          cases h4 : decide (1 ≤ first) with
          | false =>
            rw [h4] at HB1
            go_enter Try.func22, Try.ntmps22
            go_wp2
            go_ret
            exact ⟨ret_bool (by rw [← HB1.out]; rfl), HG.out⟩
          | true =>
            rw [h4] at HB1
            cases h5 : decide (first ≤ most) with
            | false =>
              rw [h5] at HB1
              go_enter Try.func22, Try.ntmps22
              go_wp2
              go_ret
              exact ⟨ret_bool (by rw [← HB1.out]; rfl), HG.out⟩
            | true =>
              rw [h5] at HB1
              cases h6 : decide (most ≤ 100000) with
              | false =>
                rw [h6] at HB1
                go_enter Try.func22, Try.ntmps22
                go_wp2
                go_ret
                exact ⟨ret_bool (by rw [← HB1.out]; rfl), HG.out⟩
              | true =>
                rw [h6] at HB1
                cases g0 : (waits == 0) with
                | true =>
                  rw [g0] at HB1
                  have HT := hide (isTime_any till)
                  obtain ⟨TB, HTB⟩ : ∃ TB, Hid (timeB till = TB) := ⟨_, hide rfl⟩
                  rw [HTB.out] at HT HB1
                  go_enter Try.func22, Try.ntmps22
                  go_wp2_with fail
                  refine (HT.out _).mono ?_
                  rintro e w2 ⟨rfl, rfl⟩
                  go_wp2
                  go_ret
                  exact ⟨ret_bool (by rw [← HB1.out]; rfl), HG.out⟩
                | false =>
                  rw [g0] at HB1
                  cases g1 : decide (first ≤ waits) with
                  | false =>
                    rw [g1] at HB1
                    go_enter Try.func22, Try.ntmps22
                    go_wp2
                    go_ret
                    exact ⟨ret_bool (by rw [← HB1.out]; rfl), HG.out⟩
                  | true =>
                    rw [g1] at HB1
                    cases g2 : decide (waits ≤ most) with
                    | false =>
                      rw [g2] at HB1
                      go_enter Try.func22, Try.ntmps22
                      go_wp2
                      go_ret
                      exact ⟨ret_bool (by rw [← HB1.out]; rfl), HG.out⟩
                    | true =>
                      rw [g2] at HB1
                      have HT := hide (isTime_any till)
                      obtain ⟨TB, HTB⟩ : ∃ TB, Hid (timeB till = TB) := ⟨_, hide rfl⟩
                      rw [HTB.out] at HT HB1
                      go_enter Try.func22, Try.ntmps22
                      go_wp2_with fail
                      refine (HT.out _).mono ?_
                      rintro e w2 ⟨rfl, rfl⟩
                      go_wp2
                      go_ret
                      exact ⟨ret_bool (by rw [← HB1.out]; rfl), HG.out⟩
end Go.Proofs.Ytfdogelkgogcbaa.Sh
