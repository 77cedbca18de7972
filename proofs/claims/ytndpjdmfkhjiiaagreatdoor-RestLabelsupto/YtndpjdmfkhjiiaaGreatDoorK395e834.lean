/- 2 texts in one. -/
import Derived.Test.YtndpjdmfkhjiiaaGreatDoorProg
import Derived.Test.YtndpjdmfkhjiiaaGreatDoorK97fdc06
import Derived.Test.YtndpjdmfkhjiiaaGreatDoorKbff346a
import Derived.Laws.BitsAll
import Derived.Laws.ShiftsVar
set_option linter.unusedVariables false
set_option linter.unusedSimpArgs false
namespace Go.Proofs.YtndpjdmfkhjiiaaGreatDoor
open Go.RowKit
attribute [local go_sem] bs_size bs_toList bs_append bs_get bs_extract
/-- One of the four: its bits are the set's. -/
def wordIs (v : Nat) (s : UInt8 → Bool) (i : Nat) : Prop := v < 18446744073709551616 ∧ ∀ j, j < 64 → v.testBit j = s (UInt8.ofNat (64 * i + j))
def wordsIs (v : List Nat) (s : UInt8 → Bool) : Prop := v.length = 4 ∧ ∀ i (h : i < v.length), wordIs v[i] s i
def setV (v : List Nat) : Value := .agg (v.map (fun n : Nat => Value.int .u64 (n : Int))).toArray
theorem words_four {v : List Nat} {s} (h : wordsIs v s) : ∃ a b c d, v = [a, b, c, d] := by
  match v, h.1 with
  | [a, b, c, d], _ => exact ⟨a, b, c, d, rfl⟩
theorem bit_of (v j : Nat) : ((v / 2 ^ j) % 2 == 1) = v.testBit j := by
  rw [Nat.testBit_eq_decide_div_mod_eq]
  rfl
set_option maxRecDepth 20000 in
set_option maxHeartbeats 1000000 in
theorem has_any (v : List Nat) (s : UInt8 → Bool) (c : UInt8) (w : World) (hv : wordsIs v s) : Calls Tryz.prog 101 #[setV v, .int .u8 c.toNat] w fun e w' => e = .returned (.bool (s c)) ∧ Grow w w' := by
  obtain ⟨a, b, x, d, rfl⟩ := words_four hv
  have hc : c.toNat < 256 := c.toNat_lt
  obtain ⟨m, hm⟩ : ∃ m, [a, b, x, d][c.toNat / 64]? = some m := by
    rw [List.getElem?_eq_getElem (by simp; omega)]; exact ⟨_, rfl⟩
  have hw : wordIs m s (c.toNat / 64) := by
    have h := hv.2 (c.toNat / 64) (by simp; omega)
    have e := hm
    rw [List.getElem?_eq_getElem (by simp; omega)] at e
    rw [Option.some.inj e] at h
    exact h
  have hbit := hw.2 (c.toNat % 64) (by omega)
  rw [show 64 * (c.toNat / 64) + c.toNat % 64 = c.toNat from by omega, show UInt8.ofNat c.toNat = c from by simp] at hbit
  have hlt := hw.1
  obtain ⟨q, hq⟩ : ∃ q, c.toNat / 64 = q := ⟨_, rfl⟩
  obtain ⟨r, hr⟩ : ∃ r, c.toNat % 64 = r := ⟨_, rfl⟩
  rw [hq] at hm
  rw [hr] at hbit
  have hq4 : q < 4 := by omega
  have hr6 : r < 64 := by omega
  have e1 : Int.tdiv (c.toNat : Int) 64 = q := by rw [Int.tdiv_eq_ediv_of_nonneg (by omega)]; omega
  have e2 : Int.tmod (c.toNat : Int) 64 = r := by rw [Int.tmod_eq_emod_of_nonneg (by omega)]; omega
  go_enter Tryz.func101, Tryz.ntmps101
  rw [show setV [a, b, x, d] = .agg #[.int .u64 (a : Int), .int .u64 (b : Int), .int .u64 (x : Int), .int .u64 (d : Int)] from rfl]
  have hval : ∀ h, [Value.int .u64 (a : Int), .int .u64 (b : Int), .int .u64 (x : Int), .int .u64 (d : Int)][q]'h = .int .u64 (m : Int) := by
    intro h
    match q, hq4, hm with
    | 0, _, hm => simp at hm; subst hm; rfl
    | 1, _, hm => simp at hm; subst hm; rfl
    | 2, _, hm => simp at hm; subst hm; rfl
    | 3, _, hm => simp at hm; subst hm; rfl
  clear hm hv
  have hand : bits .and .u64 ((m : Int) / 2 ^ r) 1 = (((m / 2 ^ r) % 2 : Nat) : Int) := by
    have h := u64_and_nat (m / 2 ^ r) 1 (Nat.lt_of_le_of_lt (Nat.div_le_self _ _) hlt) (by omega)
    rw [Nat.and_one_is_mod] at h
    simpa using h
  have hfin : ((((m / 2 ^ r) % 2 : Nat) : Int) == 1) = s c := by
    rw [← hbit, ← bit_of]
    rcases Nat.mod_two_eq_zero_or_one (m / 2 ^ r) with h | h <;> rw [h] <;> rfl
  have HF := hide hfin
  have HA := hide hand
  clear hfin hand hbit
  go_wp2
  go_ret
  exact ⟨ret_bool (by rw [HA.out, HF.out]), (Grow.refl _).alloc _⟩
/-- Nothing has changed but two blocks, and new ones have come. -/
structure Kept2 (tb mb : Nat) (w w' : World) : Prop where
  os : w'.os = w.os
  tape : w'.tape = w.tape
  output : w'.output = w.output
  size : w.heap.size ≤ w'.heap.size
  block : ∀ k, k < w.heap.size → k ≠ tb → k ≠ mb → w'.heap[k]? = w.heap[k]?
theorem Kept2.refl (tb mb : Nat) (w : World) : Kept2 tb mb w w := ⟨rfl, rfl, rfl, Nat.le_refl _, fun _ _ _ _ => rfl⟩
theorem Kept2.trans {tb mb : Nat} {a b c : World} (h : Kept2 tb mb a b) (k : Kept2 tb mb b c) : Kept2 tb mb a c :=
  ⟨k.os.trans h.os, k.tape.trans h.tape, k.output.trans h.output, Nat.le_trans h.size k.size, fun i hi h1 h2 => (k.block i (Nat.lt_of_lt_of_le hi h.size) h1 h2).trans (h.block i hi h1 h2)⟩
theorem Kept2.grow {tb mb : Nat} {w w' : World} (h : Grow w w') : Kept2 tb mb w w' := ⟨h.os, h.tape, h.output, h.size, fun k hk _ _ => h.block k hk⟩
theorem Kept2.drew {tb mb : Nat} (w : World) : Kept2 tb mb w w.drew := ⟨rfl, rfl, rfl, Nat.le_refl _, fun _ _ _ _ => rfl⟩
theorem Kept2.drewN {tb mb n : Nat} {w w' : World} (h : Kept2 tb mb w w') : Kept2 tb mb w (w'.drewN n) := ⟨h.os, h.tape, h.output, h.size, h.block⟩
theorem wrap_i64_small (x : Int) (h0 : -9223372036854775808 ≤ x) (h : x < 9223372036854775808) : IntKind.i64.wrap x = x := by
  rw [IntKind.wrap_i64]; omega
theorem Kept2.setT {tb mb o : Nat} (w : World) (v : Value) : Kept2 tb mb w (w.setCell ⟨tb, o, none⟩ v) :=
  ⟨rfl, rfl, rfl, by simp [World.setCell], fun k _ h _ => Below.heap_setCell _ _ _ _ h⟩
theorem Kept2.setM {tb mb o : Nat} (w : World) (v : Value) : Kept2 tb mb w (w.setCell ⟨mb, o, none⟩ v) :=
  ⟨rfl, rfl, rfl, by simp [World.setCell], fun k _ _ h => Below.heap_setCell _ _ _ _ h⟩
theorem set_blk {w : World} {b i : Nat} {c : Array Value} {t : TypeId} {fr : Nat × Nat} (h : w.heap[b]? = some (.cells c t fr)) (u : Value) : (w.setCell ⟨b, i, none⟩ u).heap[b]? = some (.cells (c.setIfInBounds i u) t fr) := by
  have hlt := lt_of_block h
  have h' : w.heap[b] = .cells c t fr := by simpa [Array.getElem?_eq_getElem hlt] using h
  show (w.heap.modify b _)[b]? = _
  rw [Array.getElem?_eq_getElem (by simpa using hlt), Array.getElem_modify_self, h']
  rfl
theorem cell_in {w : World} {b k : Nat} {cur : Array Value} {t : TypeId} {v : Value} (h : w.heap[b]? = some (.cells cur t (0, 0))) (hc : cur[k]? = some v) : w.cell? ⟨b, k, none⟩ = some v := by simp [World.cell?, h, hc]
theorem not_frozen {w : World} {b k : Nat} {cur : Array Value} {t : TypeId} (h : w.heap[b]? = some (.cells cur t (0, 0))) : w.frozen? ⟨b, k, none⟩ = false := by simp [World.frozen?, h]
theorem cell_keep {w w' : World} {b : Nat} (h : w'.heap[b]? = w.heap[b]?) {o : Nat} {sp : Option Nat} : w'.cell? ⟨b, o, sp⟩ = w.cell? ⟨b, o, sp⟩ := by simp [World.cell?, h]
theorem cell_has {w : World} {b o : Nat} {v : Value} (h : w.cell? ⟨b, o, none⟩ = some v) : b < w.heap.size := by
  rcases Nat.lt_or_ge b w.heap.size with hl | hl
  · exact hl
  · simp [World.cell?, Array.getElem?_eq_none_iff.2 hl] at h
theorem Kept2.cell {tb mb : Nat} {w w' : World} (h : Kept2 tb mb w w') {b o : Nat} {v : Value} (hc : w.cell? ⟨b, o, none⟩ = some v) (h1 : b ≠ tb) (h2 : b ≠ mb) : w'.cell? ⟨b, o, none⟩ = some v :=
  (cell_keep (h.block b (cell_has hc) h1 h2)).trans hc
/-- A row of numbers that stays. -/
def waysAt (w : World) (tb mb : Nat) (v : Value) (ws : List Nat) : Prop :=
  ∃ ao cp, v = .slice ao ws.length cp ∧ ∀ i (h : i < ws.length), ∃ b o, ao = some ⟨b, o, none⟩ ∧ b ≠ tb ∧ b ≠ mb ∧ w.cell? ⟨b, o + i, none⟩ = some (.int .i64 (ws[i] : Nat))
theorem waysAt.keep {w w' : World} {tb mb : Nat} {v : Value} {ws : List Nat} (h : waysAt w tb mb v ws) (k : Kept2 tb mb w w') : waysAt w' tb mb v ws := by
  obtain ⟨ao, cp, hv, h⟩ := h
  refine ⟨ao, cp, hv, fun i hi => ?_⟩
  obtain ⟨b, o, h1, h2, h3, h4⟩ := h i hi
  exact ⟨b, o, h1, h2, h3, k.cell h4 h2 h3⟩
def kindNo : St → Int
  | .take _ => 1
  | .mark _ => 2
  | .fork _ => 3
  | .fin => 4
/-- What a step's cells hold. -/
def stepIs (w : World) (tb mb : Nat) (vs : List Nat) (sl : Int) (wv : Value) : St → Prop
  | .take s => wordsIs vs s
  | .mark n => sl = n
  | .fork ws => waysAt w tb mb wv ws
  | .fin => True
/-- A step, from a cell on. -/
def stepAt (w : World) (tb mb sb o : Nat) (st : St) : Prop :=
  ∃ a b c d : Nat, ∃ sl : Int, ∃ wv : Value,
    w.cell? ⟨sb, o, none⟩ = some (.int .i64 (kindNo st)) ∧ w.cell? ⟨sb, o + 1, none⟩ = some (.int .u64 a) ∧ w.cell? ⟨sb, o + 2, none⟩ = some (.int .u64 b) ∧ w.cell? ⟨sb, o + 3, none⟩ = some (.int .u64 c) ∧
    w.cell? ⟨sb, o + 4, none⟩ = some (.int .u64 d) ∧ w.cell? ⟨sb, o + 5, none⟩ = some (.int .i64 sl) ∧ w.cell? ⟨sb, o + 6, none⟩ = some wv ∧ stepIs w tb mb [a, b, c, d] sl wv st
theorem stepAt.keep {w w' : World} {tb mb sb o : Nat} {st : St} (h : stepAt w tb mb sb o st) (k : Kept2 tb mb w w') (h1 : sb ≠ tb) (h2 : sb ≠ mb) : stepAt w' tb mb sb o st := by
  obtain ⟨a, b, c, d, sl, wv, c0, c1, c2, c3, c4, c5, c6, hs⟩ := h
  refine ⟨a, b, c, d, sl, wv, k.cell c0 h1 h2, k.cell c1 h1 h2, k.cell c2 h1 h2, k.cell c3 h1 h2, k.cell c4 h1 h2, k.cell c5 h1 h2, k.cell c6 h1 h2, ?_⟩
  cases st with
  | fork ws => exact waysAt.keep hs k
  | take s => exact hs
  | mark n => exact hs
  | fin => trivial
/-- What stays while a walk goes on: the walk itself, its steps. -/
def walkOf (w : World) (wb sb tb mb : Nat) (S : List St) (t : List UInt8) (tn : Nat) (mn : Nat) : Prop :=
  ∃ sc tc mc ma, w.heap[wb]? = some (.cells #[.slice (some ⟨sb, 0, none⟩) S.length sc, .string (bs t), .slice (some ⟨tb, 0, none⟩) tn tc, .slice ma mn mc] 145 (0, 0)) ∧ (0 < mn → ma = some ⟨mb, 0, none⟩) ∧
    (∀ i st, S[i]? = some st → stepAt w tb mb sb (i * 7) st) ∧ wb ≠ tb ∧ wb ≠ mb ∧ sb ≠ tb ∧ sb ≠ mb ∧ tb ≠ mb
theorem walkOf.keep {w w' : World} {wb sb tb mb : Nat} {S : List St} {t : List UInt8} {tn mn : Nat} (h : walkOf w wb sb tb mb S t tn mn) (k : Kept2 tb mb w w') : walkOf w' wb sb tb mb S t tn mn := by
  obtain ⟨sc, tc, mc, ma, hb, hm, hs, h1, h2, h3, h4, h5⟩ := h
  exact ⟨sc, tc, mc, ma, (k.block wb (lt_of_block hb) h1 h2).trans hb, hm, fun i st hi => (hs i st hi).keep k h3 h4, h1, h2, h3, h4, h5⟩
/-- What was tried, what is marked. -/
def triedAt (w : World) (tb : Nat) (tr : List Bool) : Prop := w.heap[tb]? = some (.cells (tr.map Value.bool).toArray 4 (0, 0))
def marksAt (w : World) (mb : Nat) (mk : List Int) : Prop := w.heap[mb]? = some (.cells (mk.map (fun n => Value.int .i64 n)).toArray 3 (0, 0))
theorem triedAt.keep {w w' : World} {tb : Nat} {tr : List Bool} (h : triedAt w tb tr) (g : Grow w w') : triedAt w' tb tr := g.get h
theorem marksAt.keep {w w' : World} {mb : Nat} {mk : List Int} (h : marksAt w mb mk) (g : Grow w w') : marksAt w' mb mk := g.get h
theorem triedAt.cell {w : World} {tb k : Nat} {tr : List Bool} (h : triedAt w tb tr) {x} (hk : tr[k]? = some x) : w.cell? ⟨tb, k, none⟩ = some (.bool x) := cell_in h (by simp [hk])
theorem marksAt.cell {w : World} {mb k : Nat} {mk : List Int} (h : marksAt w mb mk) {x} (hk : mk[k]? = some x) : w.cell? ⟨mb, k, none⟩ = some (.int .i64 x) := cell_in h (by simp [hk])
theorem triedAt.set {w : World} {tb : Nat} {tr : List Bool} (h : triedAt w tb tr) (k : Nat) (x : Bool) : triedAt (w.setCell ⟨tb, k, none⟩ (.bool x)) tb (tr.set k x) := by
  have := set_blk h (i := k) (.bool x)
  unfold triedAt
  rw [this]
  congr 1
  simp [List.map_set]
theorem marksAt.set {w : World} {mb : Nat} {mk : List Int} (h : marksAt w mb mk) (k : Nat) (x : Int) : marksAt (w.setCell ⟨mb, k, none⟩ (.int .i64 x)) mb (mk.set k x) := by
  have := set_blk h (i := k) (.int .i64 x)
  unfold marksAt
  rw [this]
  congr 1
  simp [List.map_set]
theorem set_apart {w : World} {b k o : Nat} (v : Value) (h : k ≠ b) : (w.setCell ⟨b, o, none⟩ v).heap[k]? = w.heap[k]? := Below.heap_setCell _ _ _ _ h
theorem four_cells {w : World} {b : Nat} {x y z u : Value} {t : TypeId} (h : w.heap[b]? = some (.cells #[x, y, z, u] t (0, 0))) : w.cell? ⟨b, 0, none⟩ = some x ∧ w.cell? ⟨b, 1, none⟩ = some y ∧ w.cell? ⟨b, 2, none⟩ = some z ∧ w.cell? ⟨b, 3, none⟩ = some u := by simp [World.cell?, h]
/-- A place is marked, if none is yet. -/
def markPut (mk : List Int) (sl : Nat) (p : Nat) : List Int := if mk.getD sl 0 < 0 then mk.set sl p else mk
set_option maxRecDepth 20000 in
set_option maxHeartbeats 1000000 in
theorem mark_any (w : World) (wb sb tb mb : Nat) (S : List St) (t : List UInt8) (tn : Nat) (mk : List Int) (sl p : Nat) (hw : walkOf w wb sb tb mb S t tn mk.length) (hm : marksAt w mb mk) (hsl : sl < mk.length) :
    Calls Tryz.prog 102 #[.pointer (some ⟨wb, 0, none⟩), .int .i64 sl, .int .i64 p] w fun e w' => e = .returned (.tuple #[]) ∧ Kept2 tb mb w w' ∧ w'.heap[tb]? = w.heap[tb]? ∧ marksAt w' mb (markPut mk sl p) := by
  obtain ⟨sc, tc, mc, ma, hb, hma, hs, h1, h2, h3, h4, h5⟩ := hw
  obtain rfl := hma (by omega)
  obtain ⟨c0, c1, c2, c3⟩ := four_cells hb
  have hget : mk[sl]? = some mk[sl] := List.getElem?_eq_getElem hsl
  have cm := hm.cell hget
  have fm := not_frozen (k := sl) hm
  have hD : mk.getD sl 0 = mk[sl] := by simp [List.getD, hget]
  have HM := hide hm
  clear hm hs hma hb
  by_cases hlt : mk[sl] < 0
  · have HP : Hid (markPut mk sl p = mk.set sl p) := by show _ = _; unfold markPut; rw [hD, if_pos hlt]
    clear hD hget
    go_enter Tryz.func102, Tryz.ntmps102
    go_wp2
    go_end0
    exact ⟨rfl, .setM _ _, set_apart _ h5, by rw [HP.out]; exact HM.out.set _ _⟩
  · have HP : Hid (markPut mk sl p = mk) := by show _ = _; unfold markPut; rw [hD, if_neg hlt]
    clear hD hget
    go_enter Tryz.func102, Tryz.ntmps102
    go_wp2
    go_end0
    exact ⟨rfl, .refl _ _ _, rfl, by rw [HP.out]; exact HM.out⟩
end Go.Proofs.YtndpjdmfkhjiiaaGreatDoor
