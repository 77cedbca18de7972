/- The reference's ReadOf. -/
import Derived.Test.YtojljbgopknbcaaProg
import Derived.Test.YtojljbgopknbcaaKit
import Derived.Test.YtojljbgopknbcaaSpec
import Derived.Test.YtojljbgopknbcaaSpec2
import Derived.Test.YtojljbgopknbcaaReg
import Derived.Test.YtojljbgopknbcaaRowK
import Derived.Test.YtojljbgopknbcaaRdE
import Derived.Test.YtojljbgopknbcaaRdF
import Derived.Test.YtojljbgopknbcaaRdG
import Derived.Test.YtojljbgopknbcaaRChk
import Derived.Test.YtojljbgopknbcaaRNum
import Derived.Test.YtojljbgopknbcaaRRaw
import Derived.Test.YtojljbgopknbcaaRFld
set_option linter.unusedVariables false
set_option linter.unusedSimpArgs false
namespace Go.Proofs.Ytojljbgopknbcaa
open Go.RowKit
attribute [local go_sem] bs_size bs_toList bs_append bs_get bs_extract

/-! ### the reference's fields tell what the program's do -/
theorem rawField_in {l r : List UInt8} {f : Fld} (h : rawField l = some (f, r)) : r.length < l.length ∧ 8 ≤ f.1 ∧ f.2.1 < 18446744073709551616 ∧ f.2.2.length ≤ l.length ∧ (f.1 % 8 = 1 → f.2.2.length = 8) := by
  refine ⟨rawField_shorter h, ?_⟩
  unfold rawField at h
  split at h
  · simp at h
  · rename_i hd r0 h0
    have c0 := cutNum_some h0
    split at h
    · simp at h
    · rename_i hb
      split at h
      · split at h
        · simp at h
        · rename_i n r1 h1
          have c1 := cutNum_some h1
          simp at h
          obtain ⟨rfl, rfl⟩ := h
          exact ⟨by show 8 ≤ hd; omega, c1.1, by simp, fun h => by omega⟩
      · split at h
        · split at h
          · rename_i hle
            simp at h
            obtain ⟨rfl, rfl⟩ := h
            exact ⟨by show 8 ≤ hd; omega, by simp, by simp; omega, fun _ => by simp; omega⟩
          · simp at h
        · split at h
          · split at h
            · simp at h
            · rename_i n r1 h1
              have c1 := cutNum_some h1
              split at h
              · simp at h
                obtain ⟨rfl, rfl⟩ := h
                exact ⟨by show 8 ≤ hd; omega, by simp, by simp; omega, fun h => by omega⟩
              · simp at h
          · split at h
            · split at h
              · simp at h
                obtain ⟨rfl, rfl⟩ := h
                exact ⟨by show 8 ≤ hd; omega, by simp, by simp; omega, fun h => by omega⟩
              · simp at h
            · simp at h
def rawIn (n : Nat) (f : Fld) : Prop := 8 ≤ f.1 ∧ f.2.1 < 18446744073709551616 ∧ f.2.2.length ≤ n ∧ (f.1 % 8 = 1 → f.2.2.length = 8)
theorem rawF_in : ∀ (k : Nat) (l : List UInt8), ∀ f ∈ (rawF k l).1, rawIn l.length f
  | 0, l => by simp [rawF]
  | k + 1, l => by
    unfold rawF
    split
    · simp
    · split
      · simp
      · rename_i f r h
        have hs := rawField_in h
        have ih := rawF_in k r
        intro g hg
        rcases List.mem_cons.1 hg with rfl | hg
        · exact hs.2
        · have := ih g hg
          exact ⟨this.1, this.2.1, by have := this.2.2.1; omega, this.2.2.2⟩
theorem raws_in (l : List UInt8) : ∀ f ∈ (raws l).1, rawIn l.length f := rawF_in _ _
theorem raws_len (l : List UInt8) : (raws l).1.length ≤ l.length := by
  have h := (fields_in l).1
  rw [fields_raw] at h
  simpa using h

theorem labRead_raw (b : List UInt8) : labRead b = if (raws b).2 = true then some (labOf ((raws b).1.map asFld)) else none := by
  unfold labRead; rw [fields_raw]
theorem samRead_raw (b : List UInt8) : samRead b = if (raws b).2 = true then some (samOf ((raws b).1.map asFld)) else none := by
  unfold samRead; rw [fields_raw]
theorem fieldsOk_raw (okF : Fld → Bool) (b : List UInt8) : fieldsOk okF b = true ↔ (raws b).2 = true ∧ ∀ f ∈ (raws b).1, okF (asFld f) = true := by
  unfold fieldsOk
  rw [fields_raw]
  simp
theorem serRead_raw {b : List UInt8} (h2 : (raws b).2 = true) (h : ∀ f ∈ (raws b).1, serOk (asFld f) = true) : serRead b = some (serOf ((raws b).1.map asFld)) := by
  unfold serRead
  rw [if_pos ((fieldsOk_raw serOk b).2 ⟨h2, h⟩), fields_raw]
theorem serRead_bad {b : List UInt8} (h : (raws b).2 = false ∨ ∃ f ∈ (raws b).1, serOk (asFld f) = false) : serRead b = none := by
  unfold serRead
  rw [if_neg]
  intro hc
  have := (fieldsOk_raw serOk b).1 hc
  rcases h with h | ⟨f, hf, h⟩
  · rw [this.1] at h; simp at h
  · rw [this.2 f hf] at h; simp at h
theorem allRead_raw {b : List UInt8} (h2 : (raws b).2 = true) (h : ∀ f ∈ (raws b).1, allOk (asFld f) = true) : allRead b = some (allOf ((raws b).1.map asFld)) := by
  unfold allRead
  rw [if_pos ((fieldsOk_raw allOk b).2 ⟨h2, h⟩), fields_raw]
theorem allRead_bad {b : List UInt8} (h : (raws b).2 = false ∨ ∃ f ∈ (raws b).1, allOk (asFld f) = false) : allRead b = none := by
  unfold allRead
  rw [if_neg]
  intro hc
  have := (fieldsOk_raw allOk b).1 hc
  rcases h with h | ⟨f, hf, h⟩
  · rw [this.1] at h; simp at h
  · rw [this.2 f hf] at h; simp at h
theorem asFld_one (f : Fld) : (asFld f).1 = f.1 := by unfold asFld; split <;> (try split) <;> rfl
theorem asFld_same {f : Fld} (h1 : f.1 % 8 ≠ 1) (h5 : f.1 % 8 ≠ 5) : asFld f = f := by unfold asFld; rw [if_neg h1, if_neg h5]

theorem allOk_ten (n : Nat) (b : List UInt8) : allOk (asFld (10, n, b)) = (serRead b).isSome := by simp [asFld, allOk]
theorem allOk_other {f : Fld} (h : f.1 ≠ 10) : allOk (asFld f) = true := by unfold allOk; rw [asFld_one, if_neg h]
theorem allOf_other {L : List Fld} {f : Fld} (h : f.1 ≠ 10) : allOf ((L ++ [f]).map asFld) = allOf (L.map asFld) := by
  rw [List.map_append, List.map_singleton, allOf_snoc, allStep, asFld_one, if_neg h]
theorem allOf_ten {L : List Fld} {n : Nat} {b : List UInt8} {x : Ser} (h : serRead b = some x) : allOf ((L ++ [(10, n, b)]).map asFld) = allOf (L.map asFld) ++ [x] := by
  rw [List.map_append, List.map_singleton, allOf_snoc]
  simp [asFld, allStep, h]
theorem serOk_ten (n : Nat) (b : List UInt8) : serOk (asFld (10, n, b)) = (labRead b).isSome := by simp [asFld, serOk]
theorem serOk_eighteen (n : Nat) (b : List UInt8) : serOk (asFld (18, n, b)) = (samRead b).isSome := by simp [asFld, serOk]
theorem serOk_other {f : Fld} (h : f.1 ≠ 10) (h2 : f.1 ≠ 18) : serOk (asFld f) = true := by unfold serOk; rw [asFld_one, if_neg h, if_neg h2]
theorem serOf_other {L : List Fld} {f : Fld} (h : f.1 ≠ 10) (h2 : f.1 ≠ 18) : serOf ((L ++ [f]).map asFld) = serOf (L.map asFld) := by
  rw [List.map_append, List.map_singleton, serOf_snoc, serStep, asFld_one, if_neg h, if_neg h2]
theorem serOf_ten {L : List Fld} {n : Nat} {b : List UInt8} {x : Lab} (h : labRead b = some x) : serOf ((L ++ [(10, n, b)]).map asFld) = ((serOf (L.map asFld)).1 ++ [x], (serOf (L.map asFld)).2) := by
  rw [List.map_append, List.map_singleton, serOf_snoc]
  simp [asFld, serStep, h]
theorem serOf_eighteen {L : List Fld} {n : Nat} {b : List UInt8} {x : Sam} (h : samRead b = some x) : serOf ((L ++ [(18, n, b)]).map asFld) = ((serOf (L.map asFld)).1, (serOf (L.map asFld)).2 ++ [x]) := by
  rw [List.map_append, List.map_singleton, serOf_snoc]
  simp [asFld, serStep, h]
theorem labOf_step (L : List Fld) (f : Fld) : labOf ((L ++ [f]).map asFld) = labStep (labOf (L.map asFld)) (asFld f) := by
  rw [List.map_append, List.map_singleton, labOf_snoc]
theorem samOf_step (L : List Fld) (f : Fld) : samOf ((L ++ [f]).map asFld) = samStep (samOf (L.map asFld)) (asFld f) := by
  rw [List.map_append, List.map_singleton, samOf_snoc]
theorem labStep_ten (x : Lab) (n : Nat) (b : List UInt8) : labStep x (asFld (10, n, b)) = (b, x.2) := by simp [asFld, labStep]
theorem labStep_eighteen (x : Lab) (n : Nat) (b : List UInt8) : labStep x (asFld (18, n, b)) = (x.1, b) := by simp [asFld, labStep]
theorem labStep_other (x : Lab) {f : Fld} (h : f.1 ≠ 10) (h2 : f.1 ≠ 18) : labStep x (asFld f) = x := by unfold labStep; rw [asFld_one, if_neg h, if_neg h2]
theorem samStep_nine (x : Sam) (n : Nat) (b : List UInt8) : samStep x (asFld (9, n, b)) = (x.1, lowB b) := by simp [asFld, samStep]
theorem samStep_sixteen (x : Sam) (n : Nat) (b : List UInt8) : samStep x (asFld (16, n, b)) = (sgn n, x.2) := by simp [asFld, samStep]
theorem samStep_other (x : Sam) {f : Fld} (h : f.1 ≠ 9) (h2 : f.1 ≠ 16) : samStep x (asFld f) = x := by unfold samStep; rw [asFld_one, if_neg h, if_neg h2]
theorem rdErr_check {s : List UInt8} {l : List Ser} (h : allRead s = some l) : rdErr s = checkErr l := by
  unfold rdErr checkErr
  rw [h]

theorem all_snoc {p : Fld → Prop} {L L' : List Fld} {f : Fld} (e : L' = L ++ [f]) (h : ∀ g ∈ L, p g) (hf : p f) : ∀ g ∈ L', p g := by
  intro g hg
  rw [e] at hg
  rcases List.mem_append.1 hg with hg | hg
  · exact h g hg
  · simp at hg
    rw [hg]
    exact hf

def readsRaws (w : World) (B : Nat) (v : Value) (ls : List Fld) : Prop :=
  ∃ ao cp, v = .slice ao ls.length cp ∧ ∀ i (h : i < ls.length), ∃ g, ao = some ⟨g, 0, none⟩ ∧ g < B ∧ w.cell? ⟨g, i * 4, none⟩ = some (.int .i64 ((ls[i].1 : Int) / 8)) ∧ w.cell? ⟨g, i * 4 + 1, none⟩ = some (.int .i64 ((ls[i].1 : Int) % 8)) ∧ w.cell? ⟨g, i * 4 + 2, none⟩ = some (.int .u64 ls[i].2.1) ∧ w.cell? ⟨g, i * 4 + 3, none⟩ = some (.string (bs ls[i].2.2))
theorem reads_ownRaws {w : World} {B : Nat} {v : Value} {ls : List Fld} (h : ownRaws w B v ls) : readsRaws w w.heap.size v ls := by
  obtain ⟨ao, cp, e⟩ := own_shape h
  refine ⟨ao, cp, e, fun i hi => ?_⟩
  rcases h.2 with ⟨rfl, h0⟩ | ⟨g, cap, cur, rfl, h1, h2, h3⟩
  · omega
  · simp at e
    have hc := World.ownsRow.cells h (g := g) rfl
    have ha := rawCells_at ls i hi
    refine ⟨g, e.1.symm, lt_of_block h2, ?_, ?_, ?_, ?_⟩
    · have := hc _ _ ha.1
      rw [Addr.add_lit] at this
      simpa using this
    · have := hc _ _ ha.2.1
      rw [Addr.add_lit] at this
      simpa using this
    · have := hc _ _ ha.2.2.1
      rw [Addr.add_lit] at this
      simpa using this
    · have := hc _ _ ha.2.2.2
      rw [Addr.add_lit] at this
      simpa using this

/-- A label more, in the row that a call owns: as the walk has it. -/
theorem append_lab {W : World} {ops : Array Oper} {rest : List Oper} {o : Oper} {a : Act} {Q : Exit → Act → World → Prop} (hgd : o.guard = none) (s x : Operand)
    (ho : o.op = .call { callee := .builtin .append, args := #[s, x], argTypes := #[44, 44] })
    (base : Nat) (v : Value) (d : List Lab) (f : Lab) (hs : a.eval s = v) (hown : ownLabels W base v d) (hx : a.eval x = .slice (some ⟨W.heap.size, 0, none⟩) 1 1)
    (hlen : d.length ≤ 1000000) (hbase : base ≤ W.heap.size)
    (h : ∀ ao cp w', ownLabels w' base (.slice ao (d.length + 1) cp) (d ++ [f]) → Below base W w' → (W.alloc (.cells #[.string (bs f.1), .string (bs f.2)] 43)).grownBy w' v.ownBlock → wpList Try.prog ops Q rest (a.put o.dst (.slice ao (d.length + 1) cp)) w') :
    wpList Try.prog ops Q (o :: rest) a (W.alloc (.cells #[.string (bs f.1), .string (bs f.2)] 43)) := by
  obtain ⟨i0, hi0, hz0, hz1, hz2⟩ := info_parts Try.infoL
  have hb2 : Below base W (W.alloc (.cells #[.string (bs f.1), .string (bs f.2)] 43)) := (Below.refl _ _).alloc hbase _
  have hg2 : Grow W (W.alloc (.cells #[.string (bs f.1), .string (bs f.2)] 43)) := (Grow.refl _).alloc _
  have hnew := heap_alloc_new W (.cells #[.string (bs f.1), .string (bs f.2)] 43)
  have hsz := hb2.size
  generalize (W.alloc (.cells #[.string (bs f.1), .string (bs f.2)] 43)) = V at *
  obtain ⟨c0, c1⟩ := two_cells hnew
  have hown' := own_grow hown hg2
  refine wpList_append_own _ hgd s x 44 ho base 43 i0 _ 2 32 Try.underlying44 hi0 hz0 hz1 hz2 rfl (by omega) v d.length (labCells d) hs hown' ⟨W.heap.size, 0, none⟩ 1 1 [.string (bs f.1), .string (bs f.2)] hx rfl (fun j u hu => by
    rw [Addr.add_lit]
    match j, hu with
    | 0, hu => simp at hu; subst hu; simpa using c0
    | 1, hu => simp at hu; subst hu; simpa using c1) (by simp [Value.oneCell']) (by unfold maxLen; omega) (by omega) (by omega) ?_
  intro v' w' hown2 hgrow _
  obtain ⟨ao, cp, rfl⟩ := own_shape hown2
  refine h ao cp w' ?_ (hb2.grown hgrow (by omega) (fun k hk => (hown'.lt k hk).1)) hgrow
  show w'.ownsRow _ _ _ _ (d ++ [f]).length (labCells (d ++ [f]))
  rw [labCells_snoc, List.length_append]
  exact hown2
theorem append_sam {W : World} {ops : Array Oper} {rest : List Oper} {o : Oper} {a : Act} {Q : Exit → Act → World → Prop} (hgd : o.guard = none) (s x : Operand)
    (ho : o.op = .call { callee := .builtin .append, args := #[s, x], argTypes := #[45, 45] })
    (base : Nat) (v : Value) (d : List Sam) (f : Sam) (hs : a.eval s = v) (hown : ownSamples W base v d) (hx : a.eval x = .slice (some ⟨W.heap.size, 0, none⟩) 1 1)
    (hlen : d.length ≤ 1000000) (hbase : base ≤ W.heap.size)
    (h : ∀ ao cp w', ownSamples w' base (.slice ao (d.length + 1) cp) (d ++ [f]) → Below base W w' → (W.alloc (.cells #[.int .i64 f.1, .int .u64 f.2] 55)).grownBy w' v.ownBlock → wpList Try.prog ops Q rest (a.put o.dst (.slice ao (d.length + 1) cp)) w') :
    wpList Try.prog ops Q (o :: rest) a (W.alloc (.cells #[.int .i64 f.1, .int .u64 f.2] 55)) := by
  obtain ⟨i0, hi0, hz0, hz1, hz2⟩ := info_parts Try.infoS
  have hb2 : Below base W (W.alloc (.cells #[.int .i64 f.1, .int .u64 f.2] 55)) := (Below.refl _ _).alloc hbase _
  have hg2 : Grow W (W.alloc (.cells #[.int .i64 f.1, .int .u64 f.2] 55)) := (Grow.refl _).alloc _
  have hnew := heap_alloc_new W (.cells #[.int .i64 f.1, .int .u64 f.2] 55)
  have hsz := hb2.size
  generalize (W.alloc (.cells #[.int .i64 f.1, .int .u64 f.2] 55)) = V at *
  obtain ⟨c0, c1⟩ := two_cells hnew
  have hown' := own_grow hown hg2
  refine wpList_append_own _ hgd s x 45 ho base 55 i0 _ 2 16 Try.underlying45 hi0 hz0 hz1 hz2 rfl (by omega) v d.length (samCells d) hs hown' ⟨W.heap.size, 0, none⟩ 1 1 [.int .i64 f.1, .int .u64 f.2] hx rfl (fun j u hu => by
    rw [Addr.add_lit]
    match j, hu with
    | 0, hu => simp at hu; subst hu; simpa using c0
    | 1, hu => simp at hu; subst hu; simpa using c1) (by simp [Value.oneCell']) (by unfold maxLen; omega) (by omega) (by omega) ?_
  intro v' w' hown2 hgrow _
  obtain ⟨ao, cp, rfl⟩ := own_shape hown2
  refine h ao cp w' ?_ (hb2.grown hgrow (by omega) (fun k hk => (hown'.lt k hk).1)) hgrow
  show w'.ownsRow _ _ _ _ (d ++ [f]).length (samCells (d ++ [f]))
  rw [samCells_snoc, List.length_append]
  exact hown2
theorem append_ser {W : World} {ops : Array Oper} {rest : List Oper} {o : Oper} {a : Act} {Q : Exit → Act → World → Prop} (hgd : o.guard = none) (s x : Operand)
    (ho : o.op = .call { callee := .builtin .append, args := #[s, x], argTypes := #[30, 30] })
    (base : Nat) (v : Value) (d : List Ser) (f : Ser) (y1 y2 : Value) (hs : a.eval s = v) (hown : ownSeries W base v d) (h1 : ownLabels W base y1 f.1) (h2 : ownSamples W base y2 f.2) (hx : a.eval x = .slice (some ⟨W.heap.size, 0, none⟩) 1 1)
    (hlen : d.length ≤ 1000000) (hbase : base ≤ W.heap.size)
    (h : ∀ ao cp w', ownSeries w' base (.slice ao (d.length + 1) cp) (d ++ [f]) → Below base W w' → wpList Try.prog ops Q rest (a.put o.dst (.slice ao (d.length + 1) cp)) w') :
    wpList Try.prog ops Q (o :: rest) a (W.alloc (.cells #[y1, y2] 47)) := by
  obtain ⟨i0, hi0, hz0, hz1, hz2⟩ := info_parts Try.infoE
  have hb2 : Below base W (W.alloc (.cells #[y1, y2] 47)) := (Below.refl _ _).alloc hbase _
  have hg2 : Grow W (W.alloc (.cells #[y1, y2] 47)) := (Grow.refl _).alloc _
  have hnew := heap_alloc_new W (.cells #[y1, y2] 47)
  have hsz := hb2.size
  generalize (W.alloc (.cells #[y1, y2] 47)) = V at *
  obtain ⟨c0, c1⟩ := two_cells hnew
  obtain ⟨vs, hvl, hrow, hall⟩ := hown
  have hrow' := own_grow hrow hg2
  obtain ⟨ao1, cp1, e1⟩ := own_shape h1
  obtain ⟨ao2, cp2, e2⟩ := own_shape h2
  refine wpList_append_own _ hgd s x 30 ho base 47 i0 _ 2 48 Try.underlying30 hi0 hz0 hz1 hz2 rfl (by omega) v d.length (pairCells vs) hs hrow' ⟨W.heap.size, 0, none⟩ 1 1 [y1, y2] hx rfl (fun j u hu => by
    rw [Addr.add_lit]
    match j, hu with
    | 0, hu => simp at hu; subst hu; simpa using c0
    | 1, hu => simp at hu; subst hu; simpa using c1) (by rw [e1, e2]; simp [Value.oneCell']) (by unfold maxLen; omega) (by omega) (by omega) ?_
  intro v' w' hown2 hgrow _
  obtain ⟨ao, cp, rfl⟩ := own_shape hown2
  exact h ao cp w' (ownSeries_more hvl hrow' (fun i a s h1 h2 => ⟨own_grow (hall i a s h1 h2).1 hg2, own_grow (hall i a s h1 h2).2 hg2⟩) hgrow hown2 (own_grow h1 hg2) (own_grow h2 hg2)) (hb2.grown hgrow (by omega) (fun k hk => (hrow'.lt k hk).1))

end Go.Proofs.Ytojljbgopknbcaa
