/- Rows of bytes that came out of a text: their block bears a mark behind its last cell. -/
import Derived.Test.YtmdakfmecfcbhaaGreatProg
import Derived.Test.YtmdakfmecfcbhaaGreatKit
import Derived.Test.YtmdakfmecfcbhaaGreatReg
import Derived.Test.YtmdakfmecfcbhaaGreatWWri
import Derived.Test.YtmdakfmecfcbhaaGreatRdB
import Derived.Test.YtmdakfmecfcbhaaGreatRdC
import Derived.Laws.IdiomStrings
set_option linter.unusedVariables false
set_option linter.unusedSimpArgs false
namespace Go.Proofs.YtmdakfmecfcbhaaGreat
open Go.RowKit

/-- A row of bytes that the call made. -/
def rowG (w : World) (base : Nat) (v : Value) (d : List UInt8) : Prop :=
  ∃ g cap cur fz, v = .slice (some ⟨g, 0, none⟩) d.length cap ∧ base ≤ g ∧ w.heap[g]? = some (.cells cur 5 fz) ∧ (fz = (0, 0) ∨ cur.size ≤ fz.1) ∧ d.length ≤ cap ∧ cap ≤ maxLen ∧ cur.size = cap ∧ cur.toList.take d.length = bytesV d
theorem rowG_lt {w : World} {base : Nat} {v : Value} {d : List UInt8} (h : rowG w base v d) : ∀ k, v.ownBlock = some k → base ≤ k ∧ k < w.heap.size := by
  obtain ⟨g, cap, cur, fz, rfl, h1, h2, _⟩ := h
  intro k hk
  simp [Value.ownBlock] at hk
  subst hk
  exact ⟨h1, lt_of_block h2⟩
theorem rowG_keep {w w' : World} {base : Nat} {v : Value} {d : List UInt8} (h : rowG w base v d) (hb : ∀ g, v.ownBlock = some g → w'.heap[g]? = w.heap[g]?) : rowG w' base v d := by
  obtain ⟨g, cap, cur, fz, rfl, h1, h2, h3⟩ := h
  exact ⟨g, cap, cur, fz, rfl, h1, (hb g rfl).trans h2, h3⟩
theorem rowG_apart {w : World} {base b : Nat} {v : Value} {d : List UInt8} (h : rowG w base v d) {c : Array Value} {t : TypeId} {fr : Nat × Nat} (hb : w.heap[b]? = some (.cells c t fr)) (ht : 5 ≠ t) : v.ownBlock ≠ some b := by
  obtain ⟨g, cap, cur, fz, rfl, h1, h2, _⟩ := h
  intro e
  simp [Value.ownBlock] at e
  subst e
  rw [h2] at hb
  simp at hb
  exact ht hb.2.1
theorem rowG_setCell {w : World} {base b i : Nat} {v : Value} {d : List UInt8} (h : rowG w base v d) (hne : v.ownBlock ≠ some b) (u : Value) : rowG (w.setCell ⟨b, i, none⟩ u) base v d :=
  rowG_keep h fun g hg => Below.heap_setCell _ _ _ _ (fun e => hne (by rw [hg]; exact congrArg some e))
theorem rowG_shape {w : World} {base : Nat} {v : Value} {d : List UInt8} (h : rowG w base v d) : ∃ ao cp, v = .slice ao d.length cp := by
  obtain ⟨g, cap, cur, fz, rfl, _⟩ := h
  exact ⟨_, _, rfl⟩
theorem rowG_cells {w : World} {base g n cap : Nat} {d : List UInt8} (h : rowG w base (.slice (some ⟨g, 0, none⟩) n cap) d) : ∀ j u, (bytesV d)[j]? = some u → w.cell? ((⟨g, 0, none⟩ : Addr).add j) = some u := by
  obtain ⟨g', cap', cur, fz, e, h1, h2, h3, h4, h5, h6, h7⟩ := h
  simp at e
  obtain ⟨rfl, rfl, rfl⟩ := e
  intro j u hu
  rw [Addr.add_lit]
  simp only [World.cell?, h2]
  rw [← h7] at hu
  rw [List.getElem?_take] at hu
  split at hu
  · simpa using hu
  · simp at hu
theorem run_rowG {P : Program} {w : World} {src dst e : TypeId} {base : Nat} {v : Value} {l : List UInt8} (hs : P.underlying src = some (.slice e)) (he : P.underlying e = some (.int .u8)) (hd : P.underlying dst = some .string)
    (hown : rowG w base v l) : (convert src dst v).run P w = .ok (.string (bs l)) w := by
  obtain ⟨g, cap, cur, fz, rfl, _⟩ := id hown
  have hc := rowG_cells hown
  have h := run_convert_bytes_arg (P := P) w src e hs he g 0 l.length cap (l.map fun b => (b.toNat : Int)) (by simp) (fun i hi => by
    have := hc i (.int .u8 (l[i].toNat : Int)) (by simp [bytesV, hi])
    rw [Addr.add_lit] at this
    rw [this]
    simp [List.getD, hi]) dst hd
  rw [h]
  congr 2
  simp [strOfNums, bs, Function.comp_def]

theorem stores_G {P : Program} (g : Nat) (fz : Nat × Nat) : ∀ (vs : List Value) (o i : Nat) (cur : Array Value) (w : World), w.heap[g]? = some (.cells cur 5 fz) → (fz = (0, 0) ∨ cur.size ≤ fz.1) → o + i + vs.length ≤ cur.size → (∀ v ∈ vs, v.oneCell' = true) →
    ∃ cur', (storeCells ⟨g, o, none⟩ vs i).run P w = .ok () (w.setRow g cur') ∧ cur'.size = cur.size ∧ cur'.toList.take (o + i + vs.length) = cur.toList.take (o + i) ++ vs
  | [], o, i, cur, w, hg, _, _, _ => ⟨cur, by simp only [storeCells]; rw [setRow_self w g cur _ fz hg]; rfl, rfl, by simp⟩
  | v :: rest, o, i, cur, w, hg, hz, hl, h1 => by
    simp only [List.length_cons] at hl
    have hi : o + i < cur.size := by omega
    have hcell : w.cell? ⟨g, o + i, none⟩ = some cur[o + i] := by simp [World.cell?, hg, hi]
    have hfro : w.frozen? ⟨g, o + i, none⟩ = false := by
      obtain ⟨lo, hi2⟩ := fz
      simp only [World.frozen?, hg]
      rcases hz with hz | hz
      · cases hz; simp
      · simp only at hz
        rw [show decide (lo ≤ o + i) = false from by simp; omega]
        rfl
    have hst : (store ((⟨g, o, none⟩ : Addr).add i) v).run P w = .ok () (w.setRow g (cur.setIfInBounds (o + i) v)) := by
      rw [Addr.add_lit, run_store P w _ v _ (h1 v (by simp)), hcell]
      simp [hfro, setCell_eq_setRow w g (o + i) cur _ fz v hg]
    obtain ⟨cur', e1, e2, e3⟩ := stores_G (P := P) g fz rest o (i + 1) (cur.setIfInBounds (o + i) v) (w.setRow g (cur.setIfInBounds (o + i) v)) (setRow_heap w g cur _ _ _ hg) (by simpa using hz) (by simp; omega) (fun x hx => h1 x (by simp [hx]))
    refine ⟨cur', ?_, by rw [e2]; simp, ?_⟩
    · simp only [storeCells, Sem.run_bind, hst, Result.andThen_ok, e1, setRow_setRow]
    · rw [show o + i + (v :: rest).length = o + (i + 1) + rest.length from by simp only [List.length_cons]; omega, e3, ← Nat.add_assoc, List.take_succ_eq_append_getElem (by simpa using hi)]
      simp only [Array.toList_setIfInBounds]
      rw [List.take_set_of_le (Nat.le_refl _), List.getElem_set_self]
      simp

theorem room_G {w : World} {base g cap : Nat} {d c : List UInt8} (h : rowG w base (.slice (some ⟨g, 0, none⟩) d.length cap) d) (hroom : d.length + c.length ≤ cap) :
    ∃ w', (storeCells ⟨g, d.length, none⟩ (bytesV c) 0).run Tryz.prog w = .ok () w' ∧ rowG w' base (.slice (some ⟨g, 0, none⟩) (d ++ c).length cap) (d ++ c) ∧ w.grownBy w' (some g) := by
  obtain ⟨g', cap', cur, fz, e, h1, h2, h3, h4, h5, h6, h7⟩ := h
  simp at e
  obtain ⟨rfl, rfl⟩ := e
  obtain ⟨cur', e1, e2, e3⟩ := stores_G (P := Tryz.prog) g fz (bytesV c) d.length 0 cur w h2 h3 (by rw [bytesV_length]; omega) (bytesV_oneCell c)
  refine ⟨_, e1, ⟨g, cap, cur', fz, rfl, h1, setRow_heap w g cur _ _ _ h2, by rw [e2]; exact h3, by simpa using hroom, h5, by rw [e2]; exact h6, ?_⟩, ⟨rfl, rfl, rfl, by simp, fun k _ hk => setRow_other w g k _ (fun e => hk (by rw [e]))⟩⟩
  rw [bytesV_length] at e3
  simp only [Nat.add_zero] at e3
  rw [List.length_append, e3, h7, bytesV_append]
theorem new_G {w : World} {base : Nat} {row : Option Nat} {d : List UInt8} {cap : Nat} {arr : Array Value} (hb : base ≤ w.heap.size) (hd : d.length ≤ cap) (hc : cap ≤ maxLen) (hs : arr.size = cap) (ht : arr.toList.take d.length = bytesV d) :
    rowG (w.drew.alloc (.cells arr 5)) base (.slice (some ⟨w.heap.size, 0, none⟩) d.length cap) d ∧ w.grownBy (w.drew.alloc (.cells arr 5)) row :=
  ⟨⟨w.heap.size, cap, arr, (0, 0), rfl, hb, heap_alloc_new w.drew _, .inl rfl, hd, hc, hs, ht⟩, ⟨rfl, rfl, rfl, by simp, fun k hk _ => Below.heap_alloc _ _ _ hk⟩⟩

theorem run_append_G {w : World} {base g cap : Nat} {d c : List UInt8} (ty : TypeId) (h : rowG w base (.slice (some ⟨g, 0, none⟩) d.length cap) d) (a : Addr) (hnews : ∀ j u, (bytesV c)[j]? = some u → w.cell? (a.add j) = some u) (hlen : d.length + c.length ≤ 1000000) (hbase : base ≤ w.heap.size) (cc : Nat) :
    ∃ v' w', (Builtin.append_ #[63, 63] ty #[.slice (some ⟨g, 0, none⟩) d.length cap, .slice (some a) c.length cc]).run Tryz.prog w = .ok v' w' ∧ rowG w' base v' (d ++ c) ∧ w.grownBy w' (some g) := by
  obtain ⟨i0, hi0, hz0, hz1, hz2⟩ := info_parts Tryz.info5
  have hl : (bytesV c).length = c.length * i0.size := by rw [bytesV_length, hz1, Nat.mul_one]
  by_cases hroom : d.length + c.length ≤ cap
  · obtain ⟨w', e1, e2, e3⟩ := room_G h hroom
    refine ⟨_, w', ?_, e2, e3⟩
    have hf := run_firstCells_some (P := Tryz.prog) w i0.size c.length a c.length cc (bytesV c) hl hnews
    rw [hz1] at hf
    simp [Builtin.append_, run_underlying Tryz.underlying63, sizeOf, typeInfo, hi0, Builtin.lenOf, hroom, hf, Addr.add_lit, hz1, e1]
  · have hc := rowG_cells h
    have hr := run_append_grow (P := Tryz.prog) w 63 ty 5 i0 (.int .u8 0) Tryz.underlying63 hi0 hz0 ⟨g, 0, none⟩ d.length cap (bytesV d) (by rw [bytesV_length, hz1, Nat.mul_one]) hc a c.length cc (bytesV c) hl hnews (by omega) (by omega) (growslice_fits (by omega) (by rw [hz2]; omega))
    have hge := grownCap_ge w (d.length + c.length) cap 5
    have hmx := grownCap_le_maxLen w (d.length + c.length) cap 5 (by unfold maxLen; omega)
    have hn := new_G (w := w) (base := base) (row := some g) (d := d ++ c) (cap := grownCap w (d.length + c.length) cap 5) (arr := (bytesV d).toArray ++ (bytesV c).toArray ++ Builtin.zeroCells (Value.int .u8 0).cells (grownCap w (d.length + c.length) cap 5 - (d.length + c.length))) hbase (by rw [List.length_append]; exact hge) hmx (by
        simp only [Array.size_append, List.size_toArray, bytesV_length, Builtin.zeroCells]
        simp [Value.cells]
        omega) (by
        simp only [Array.toList_append, List.append_assoc]
        rw [← List.append_assoc, ← bytesV_append, ← bytesV_length (d ++ c)]
        exact List.take_left)
    rw [List.length_append] at hn
    exact ⟨_, _, hr, hn.1, hn.2⟩
theorem run_append_Gs {w : World} {base g cap : Nat} {d c : List UInt8} (ty : TypeId) (h : rowG w base (.slice (some ⟨g, 0, none⟩) d.length cap) d) (hlen : d.length + c.length ≤ 1000000) (hbase : base ≤ w.heap.size) :
    ∃ v' w', (Builtin.append_ #[63, 9] ty #[.slice (some ⟨g, 0, none⟩) d.length cap, .string (bs c)]).run Tryz.prog w = .ok v' w' ∧ rowG w' base v' (d ++ c) ∧ w.grownBy w' (some g) := by
  obtain ⟨i0, hi0, hz0, hz1, hz2⟩ := info_parts Tryz.info5
  by_cases hroom : d.length + c.length ≤ cap
  · obtain ⟨w', e1, e2, e3⟩ := room_G h hroom
    refine ⟨_, w', ?_, e2, e3⟩
    have hf := Lib.run_firstCells_string (P := Tryz.prog) w 1 (bs c)
    rw [bs_size, strCells_bs] at hf
    have hroom' : d.length + (bs c).size ≤ cap := by rw [bs_size]; exact hroom
    simp [Builtin.append_, run_underlying Tryz.underlying63, run_underlying Tryz.underlying9, sizeOf, typeInfo, hi0, Builtin.lenOf, hroom, hf, Addr.add_lit, hz1, e1, bs_size]
  · have hc := rowG_cells h
    have hr := Lib.run_append_grow_string (P := Tryz.prog) w 63 9 ty 5 i0 (.int .u8 0) Tryz.underlying63 Tryz.underlying9 hi0 hz0 ⟨g, 0, none⟩ d.length cap (bytesV d) (by rw [bytesV_length, hz1, Nat.mul_one]) hc (bs c) (by rw [bs_size]; omega) (by rw [bs_size]; omega) (by rw [bs_size]; exact growslice_fits (by omega) (by rw [hz2]; omega))
    rw [bs_size, strCells_bs] at hr
    have hge := grownCap_ge w (d.length + c.length) cap 5
    have hmx := grownCap_le_maxLen w (d.length + c.length) cap 5 (by unfold maxLen; omega)
    have hn := new_G (w := w) (base := base) (row := some g) (d := d ++ c) (cap := grownCap w (d.length + c.length) cap 5) (arr := (bytesV d).toArray ++ (bytesV c).toArray ++ Builtin.zeroCells (Value.int .u8 0).cells (grownCap w (d.length + c.length) cap 5 - (d.length + c.length))) hbase (by rw [List.length_append]; exact hge) hmx (by
        simp only [Array.size_append, List.size_toArray, bytesV_length, Builtin.zeroCells]
        simp [Value.cells]
        omega) (by
        simp only [Array.toList_append, List.append_assoc]
        rw [← List.append_assoc, ← bytesV_append, ← bytesV_length (d ++ c)]
        exact List.take_left)
    rw [List.length_append] at hn
    exact ⟨_, _, hr, hn.1, hn.2⟩

/-- A text's bytes, laid anew. -/
theorem made_G {w : World} {base : Nat} {d : List UInt8} (hb : base ≤ w.heap.size) (hd : d.length ≤ 1000000) :
    ∃ v w', (convert 9 63 (.string (bs d))).run Tryz.prog w = .ok v w' ∧ rowG w' base v d ∧ Grow w w' := by
  have hr := run_bytes_of_string (P := Tryz.prog) w 9 63 5 (bs d) Tryz.underlying9 Tryz.underlying63 Tryz.underlying5
  rw [bs_size] at hr
  have hge := grownCap_ge w d.length 0 5
  have hmx := grownCap_le_maxLen w d.length 0 5 (by unfold maxLen; omega)
  have hsz : (bytesRow (bs d) (grownCap w d.length 0 5)).size = grownCap w d.length 0 5 := by
    have e1 : (bs d).data.size = d.length := by simp [bs]
    have e2 : (bs d).size = d.length := bs_size d
    simp only [bytesRow, Array.size_append, Array.size_map, Array.size_replicate, e1, e2]
    omega
  refine ⟨_, _, hr, ⟨w.heap.size, _, _, _, rfl, hb, heap_alloc_new w.drew _, .inr (Nat.le_refl _), hge, hmx, hsz, ?_⟩, ⟨rfl, rfl, rfl, by simp, fun k hk => Below.heap_alloc _ _ _ hk⟩⟩
  simp only [bytesRow, bs, Array.toList_append]
  rw [List.take_append_of_le_length (by simp)]
  simp only [Array.toList_map]
  rw [List.take_of_length_le (by simp)]
  rfl

end Go.Proofs.YtmdakfmecfcbhaaGreat
