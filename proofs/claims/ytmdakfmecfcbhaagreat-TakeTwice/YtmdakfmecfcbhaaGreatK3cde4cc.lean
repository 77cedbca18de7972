/- 3 texts in one. -/
import Derived.Test.YtmdakfmecfcbhaaGreatProg
import Derived.Test.YtmdakfmecfcbhaaGreatK7e06493
import Derived.Test.YtmdakfmecfcbhaaGreatK6271d58
import Derived.Test.YtmdakfmecfcbhaaGreatK2326a0d
import Derived.Test.YtmdakfmecfcbhaaGreatK3e23582
import Derived.Laws.IdiomStrings
import Derived.Test.YtmdakfmecfcbhaaGreatK85cc7d6
import Derived.Test.YtmdakfmecfcbhaaGreatK658df2a
set_option linter.unusedVariables false
set_option linter.unusedSimpArgs false
namespace Go.Proofs.YtmdakfmecfcbhaaGreat
open Go.RowKit
/-- A row of bytes that the call made. -/
def rowG (w : World) (base : Nat) (v : Value) (d : List UInt8) : Prop :=
  ∃ g cap cur fz, v = .slice (some ⟨g, 0, none⟩) d.length cap ∧ base ≤ g ∧ w.heap[g]? = some (.cells cur 5 fz) ∧ (fz = (0, 0) ∨ cur.size ≤ fz.1) ∧ d.length ≤ cap ∧ cap ≤ maxLen ∧ cur.size = cap ∧ cur.toList.take d.length = bytesV d
theorem rowG_lt {w : World} {base : Nat} {v : Value} {d : List UInt8} (h : rowG w base v d) : ∀ k, v.ownBlock = some k → base ≤ k ∧ k < w.heap.size := by
  obtain ⟨g, cap, cur, fz, rfl, h1, h2, _⟩ := h
  intro k hk
  simp [Value.ownBlock] at hk
  subst hk
  exact ⟨h1, lt_of_block h2⟩
theorem rowG_keep {w w' : World} {base : Nat} {v : Value} {d : List UInt8} (h : rowG w base v d) (hb : ∀ g, v.ownBlock = some g → w'.heap[g]? = w.heap[g]?) : rowG w' base v d := by
  obtain ⟨g, cap, cur, fz, rfl, h1, h2, h3⟩ := h
  exact ⟨g, cap, cur, fz, rfl, h1, (hb g rfl).trans h2, h3⟩
theorem rowG_apart {w : World} {base b : Nat} {v : Value} {d : List UInt8} (h : rowG w base v d) {c : Array Value} {t : TypeId} {fr : Nat × Nat} (hb : w.heap[b]? = some (.cells c t fr)) (ht : 5 ≠ t) : v.ownBlock ≠ some b := by
  obtain ⟨g, cap, cur, fz, rfl, h1, h2, _⟩ := h
  intro e
  simp [Value.ownBlock] at e
  subst e
  rw [h2] at hb
  simp at hb
  exact ht hb.2.1
theorem rowG_setCell {w : World} {base b i : Nat} {v : Value} {d : List UInt8} (h : rowG w base v d) (hne : v.ownBlock ≠ some b) (u : Value) : rowG (w.setCell ⟨b, i, none⟩ u) base v d :=
  rowG_keep h fun g hg => Below.heap_setCell _ _ _ _ (fun e => hne (by rw [hg]; exact congrArg some e))
theorem rowG_shape {w : World} {base : Nat} {v : Value} {d : List UInt8} (h : rowG w base v d) : ∃ ao cp, v = .slice ao d.length cp := by
  obtain ⟨g, cap, cur, fz, rfl, _⟩ := h
  exact ⟨_, _, rfl⟩
theorem rowG_cells {w : World} {base g n cap : Nat} {d : List UInt8} (h : rowG w base (.slice (some ⟨g, 0, none⟩) n cap) d) : ∀ j u, (bytesV d)[j]? = some u → w.cell? ((⟨g, 0, none⟩ : Addr).add j) = some u := by
  obtain ⟨g', cap', cur, fz, e, h1, h2, h3, h4, h5, h6, h7⟩ := h
  simp at e
  obtain ⟨rfl, rfl, rfl⟩ := e
  intro j u hu
  rw [Addr.add_lit]
  simp only [World.cell?, h2]
  rw [← h7] at hu
  rw [List.getElem?_take] at hu
  split at hu
  · simpa using hu
  · simp at hu
theorem run_rowG {P : Program} {w : World} {src dst e : TypeId} {base : Nat} {v : Value} {l : List UInt8} (hs : P.underlying src = some (.slice e)) (he : P.underlying e = some (.int .u8)) (hd : P.underlying dst = some .string)
    (hown : rowG w base v l) : (convert src dst v).run P w = .ok (.string (bs l)) w := by
  obtain ⟨g, cap, cur, fz, rfl, _⟩ := id hown
  have hc := rowG_cells hown
  have h := run_convert_bytes_arg (P := P) w src e hs he g 0 l.length cap (l.map fun b => (b.toNat : Int)) (by simp) (fun i hi => by
    have := hc i (.int .u8 (l[i].toNat : Int)) (by simp [bytesV, hi])
    rw [Addr.add_lit] at this
    rw [this]
    simp [List.getD, hi]) dst hd
  rw [h]
  congr 2
  simp [strOfNums, bs, Function.comp_def]
theorem stores_G {P : Program} (g : Nat) (fz : Nat × Nat) : ∀ (vs : List Value) (o i : Nat) (cur : Array Value) (w : World), w.heap[g]? = some (.cells cur 5 fz) → (fz = (0, 0) ∨ cur.size ≤ fz.1) → o + i + vs.length ≤ cur.size → (∀ v ∈ vs, v.oneCell' = true) →
    ∃ cur', (storeCells ⟨g, o, none⟩ vs i).run P w = .ok () (w.setRow g cur') ∧ cur'.size = cur.size ∧ cur'.toList.take (o + i + vs.length) = cur.toList.take (o + i) ++ vs
  | [], o, i, cur, w, hg, _, _, _ => ⟨cur, by simp only [storeCells]; rw [setRow_self w g cur _ fz hg]; rfl, rfl, by simp⟩
  | v :: rest, o, i, cur, w, hg, hz, hl, h1 => by
    simp only [List.length_cons] at hl
    have hi : o + i < cur.size := by omega
    have hcell : w.cell? ⟨g, o + i, none⟩ = some cur[o + i] := by simp [World.cell?, hg, hi]
    have hfro : w.frozen? ⟨g, o + i, none⟩ = false := by
      obtain ⟨lo, hi2⟩ := fz
      simp only [World.frozen?, hg]
      rcases hz with hz | hz
      · cases hz; simp
      · simp only at hz
        rw [show decide (lo ≤ o + i) = false from by simp; omega]
        rfl
    have hst : (store ((⟨g, o, none⟩ : Addr).add i) v).run P w = .ok () (w.setRow g (cur.setIfInBounds (o + i) v)) := by
      rw [Addr.add_lit, run_store P w _ v _ (h1 v (by simp)), hcell]
      simp [hfro, setCell_eq_setRow w g (o + i) cur _ fz v hg]
    obtain ⟨cur', e1, e2, e3⟩ := stores_G (P := P) g fz rest o (i + 1) (cur.setIfInBounds (o + i) v) (w.setRow g (cur.setIfInBounds (o + i) v)) (setRow_heap w g cur _ _ _ hg) (by simpa using hz) (by simp; omega) (fun x hx => h1 x (by simp [hx]))
    refine ⟨cur', ?_, by rw [e2]; simp, ?_⟩
    · simp only [storeCells, Sem.run_bind, hst, Result.andThen_ok, e1, setRow_setRow]
    · rw [show o + i + (v :: rest).length = o + (i + 1) + rest.length from by simp only [List.length_cons]; omega, e3, ← Nat.add_assoc, List.take_succ_eq_append_getElem (by simpa using hi)]
      simp only [Array.toList_setIfInBounds]
      rw [List.take_set_of_le (Nat.le_refl _), List.getElem_set_self]
      simp
theorem room_G {w : World} {base g cap : Nat} {d c : List UInt8} (h : rowG w base (.slice (some ⟨g, 0, none⟩) d.length cap) d) (hroom : d.length + c.length ≤ cap) :
    ∃ w', (storeCells ⟨g, d.length, none⟩ (bytesV c) 0).run Tryz.prog w = .ok () w' ∧ rowG w' base (.slice (some ⟨g, 0, none⟩) (d ++ c).length cap) (d ++ c) ∧ w.grownBy w' (some g) := by
  obtain ⟨g', cap', cur, fz, e, h1, h2, h3, h4, h5, h6, h7⟩ := h
  simp at e
  obtain ⟨rfl, rfl⟩ := e
  obtain ⟨cur', e1, e2, e3⟩ := stores_G (P := Tryz.prog) g fz (bytesV c) d.length 0 cur w h2 h3 (by rw [bytesV_length]; omega) (bytesV_oneCell c)
  refine ⟨_, e1, ⟨g, cap, cur', fz, rfl, h1, setRow_heap w g cur _ _ _ h2, by rw [e2]; exact h3, by simpa using hroom, h5, by rw [e2]; exact h6, ?_⟩, ⟨rfl, rfl, rfl, by simp, fun k _ hk => setRow_other w g k _ (fun e => hk (by rw [e]))⟩⟩
  rw [bytesV_length] at e3
  simp only [Nat.add_zero] at e3
  rw [List.length_append, e3, h7, bytesV_append]
theorem new_G {w : World} {base : Nat} {row : Option Nat} {d : List UInt8} {cap : Nat} {arr : Array Value} (hb : base ≤ w.heap.size) (hd : d.length ≤ cap) (hc : cap ≤ maxLen) (hs : arr.size = cap) (ht : arr.toList.take d.length = bytesV d) :
    rowG (w.drew.alloc (.cells arr 5)) base (.slice (some ⟨w.heap.size, 0, none⟩) d.length cap) d ∧ w.grownBy (w.drew.alloc (.cells arr 5)) row :=
  ⟨⟨w.heap.size, cap, arr, (0, 0), rfl, hb, heap_alloc_new w.drew _, .inl rfl, hd, hc, hs, ht⟩, ⟨rfl, rfl, rfl, by simp, fun k hk _ => Below.heap_alloc _ _ _ hk⟩⟩
theorem run_append_G {w : World} {base g cap : Nat} {d c : List UInt8} (ty : TypeId) (h : rowG w base (.slice (some ⟨g, 0, none⟩) d.length cap) d) (a : Addr) (hnews : ∀ j u, (bytesV c)[j]? = some u → w.cell? (a.add j) = some u) (hlen : d.length + c.length ≤ 1000000) (hbase : base ≤ w.heap.size) (cc : Nat) :
    ∃ v' w', (Builtin.append_ #[63, 63] ty #[.slice (some ⟨g, 0, none⟩) d.length cap, .slice (some a) c.length cc]).run Tryz.prog w = .ok v' w' ∧ rowG w' base v' (d ++ c) ∧ w.grownBy w' (some g) := by
  obtain ⟨i0, hi0, hz0, hz1, hz2⟩ := info_parts Tryz.info5
  have hl : (bytesV c).length = c.length * i0.size := by rw [bytesV_length, hz1, Nat.mul_one]
  by_cases hroom : d.length + c.length ≤ cap
  · obtain ⟨w', e1, e2, e3⟩ := room_G h hroom
    refine ⟨_, w', ?_, e2, e3⟩
    have hf := run_firstCells_some (P := Tryz.prog) w i0.size c.length a c.length cc (bytesV c) hl hnews
    rw [hz1] at hf
    simp [Builtin.append_, run_underlying Tryz.underlying63, sizeOf, typeInfo, hi0, Builtin.lenOf, hroom, hf, Addr.add_lit, hz1, e1]
  · have hc := rowG_cells h
    have hr := run_append_grow (P := Tryz.prog) w 63 ty 5 i0 (.int .u8 0) Tryz.underlying63 hi0 hz0 ⟨g, 0, none⟩ d.length cap (bytesV d) (by rw [bytesV_length, hz1, Nat.mul_one]) hc a c.length cc (bytesV c) hl hnews (by omega) (by omega) (growslice_fits (by omega) (by rw [hz2]; omega))
    have hge := grownCap_ge w (d.length + c.length) cap 5
    have hmx := grownCap_le_maxLen w (d.length + c.length) cap 5 (by unfold maxLen; omega)
    have hn := new_G (w := w) (base := base) (row := some g) (d := d ++ c) (cap := grownCap w (d.length + c.length) cap 5) (arr := (bytesV d).toArray ++ (bytesV c).toArray ++ Builtin.zeroCells (Value.int .u8 0).cells (grownCap w (d.length + c.length) cap 5 - (d.length + c.length))) hbase (by rw [List.length_append]; exact hge) hmx (by
        simp only [Array.size_append, List.size_toArray, bytesV_length, Builtin.zeroCells]
        simp [Value.cells]
        omega) (by
        simp only [Array.toList_append, List.append_assoc]
        rw [← List.append_assoc, ← bytesV_append, ← bytesV_length (d ++ c)]
        exact List.take_left)
    rw [List.length_append] at hn
    exact ⟨_, _, hr, hn.1, hn.2⟩
theorem run_append_Gs {w : World} {base g cap : Nat} {d c : List UInt8} (ty : TypeId) (h : rowG w base (.slice (some ⟨g, 0, none⟩) d.length cap) d) (hlen : d.length + c.length ≤ 1000000) (hbase : base ≤ w.heap.size) :
    ∃ v' w', (Builtin.append_ #[63, 9] ty #[.slice (some ⟨g, 0, none⟩) d.length cap, .string (bs c)]).run Tryz.prog w = .ok v' w' ∧ rowG w' base v' (d ++ c) ∧ w.grownBy w' (some g) := by
  obtain ⟨i0, hi0, hz0, hz1, hz2⟩ := info_parts Tryz.info5
  by_cases hroom : d.length + c.length ≤ cap
  · obtain ⟨w', e1, e2, e3⟩ := room_G h hroom
    refine ⟨_, w', ?_, e2, e3⟩
    have hf := Lib.run_firstCells_string (P := Tryz.prog) w 1 (bs c)
    rw [bs_size, strCells_bs] at hf
    have hroom' : d.length + (bs c).size ≤ cap := by rw [bs_size]; exact hroom
    simp [Builtin.append_, run_underlying Tryz.underlying63, run_underlying Tryz.underlying9, sizeOf, typeInfo, hi0, Builtin.lenOf, hroom, hf, Addr.add_lit, hz1, e1, bs_size]
  · have hc := rowG_cells h
    have hr := Lib.run_append_grow_string (P := Tryz.prog) w 63 9 ty 5 i0 (.int .u8 0) Tryz.underlying63 Tryz.underlying9 hi0 hz0 ⟨g, 0, none⟩ d.length cap (bytesV d) (by rw [bytesV_length, hz1, Nat.mul_one]) hc (bs c) (by rw [bs_size]; omega) (by rw [bs_size]; omega) (by rw [bs_size]; exact growslice_fits (by omega) (by rw [hz2]; omega))
    rw [bs_size, strCells_bs] at hr
    have hge := grownCap_ge w (d.length + c.length) cap 5
    have hmx := grownCap_le_maxLen w (d.length + c.length) cap 5 (by unfold maxLen; omega)
    have hn := new_G (w := w) (base := base) (row := some g) (d := d ++ c) (cap := grownCap w (d.length + c.length) cap 5) (arr := (bytesV d).toArray ++ (bytesV c).toArray ++ Builtin.zeroCells (Value.int .u8 0).cells (grownCap w (d.length + c.length) cap 5 - (d.length + c.length))) hbase (by rw [List.length_append]; exact hge) hmx (by
        simp only [Array.size_append, List.size_toArray, bytesV_length, Builtin.zeroCells]
        simp [Value.cells]
        omega) (by
        simp only [Array.toList_append, List.append_assoc]
        rw [← List.append_assoc, ← bytesV_append, ← bytesV_length (d ++ c)]
        exact List.take_left)
    rw [List.length_append] at hn
    exact ⟨_, _, hr, hn.1, hn.2⟩
/-- A text's bytes, laid anew. -/
theorem made_G {w : World} {base : Nat} {d : List UInt8} (hb : base ≤ w.heap.size) (hd : d.length ≤ 1000000) :
    ∃ v w', (convert 9 63 (.string (bs d))).run Tryz.prog w = .ok v w' ∧ rowG w' base v d ∧ Grow w w' := by
  have hr := run_bytes_of_string (P := Tryz.prog) w 9 63 5 (bs d) Tryz.underlying9 Tryz.underlying63 Tryz.underlying5
  rw [bs_size] at hr
  have hge := grownCap_ge w d.length 0 5
  have hmx := grownCap_le_maxLen w d.length 0 5 (by unfold maxLen; omega)
  have hsz : (bytesRow (bs d) (grownCap w d.length 0 5)).size = grownCap w d.length 0 5 := by
    have e1 : (bs d).data.size = d.length := by simp [bs]
    have e2 : (bs d).size = d.length := bs_size d
    simp only [bytesRow, Array.size_append, Array.size_map, Array.size_replicate, e1, e2]
    omega
  refine ⟨_, _, hr, ⟨w.heap.size, _, _, _, rfl, hb, heap_alloc_new w.drew _, .inr (Nat.le_refl _), hge, hmx, hsz, ?_⟩, ⟨rfl, rfl, rfl, by simp, fun k hk => Below.heap_alloc _ _ _ hk⟩⟩
  simp only [bytesRow, bs, Array.toList_append]
  rw [List.take_append_of_le_length (by simp)]
  simp only [Array.toList_map]
  rw [List.take_of_length_le (by simp)]
  rfl
end Go.Proofs.YtmdakfmecfcbhaaGreat
namespace Go.Proofs.YtmdakfmecfcbhaaGreat
open Go.RowKit
attribute [local go_sem] bs_size bs_toList bs_append bs_get bs_extract
/-- A packer in a block. -/
def pkRow (w : World) (B pb : Nat) (s : List UInt8) (m : Value) (p : List UInt8) : Prop :=
  B ≤ w.heap.size ∧ ∃ v, w.heap[pb]? = some (.cells #[.string (bs s), m, v] 70 (0, 0)) ∧ rowG w B v p
/-- An element of bytes as they are. -/
def plainE (l : List UInt8) : List UInt8 :=
  if l.length = 0 then [] else if l.length - 1 < 60 then UInt8.ofNat ((l.length - 1) * 4) :: l else if l.length - 1 < 256 then 240 :: UInt8.ofNat (l.length - 1) :: l else 244 :: UInt8.ofNat (l.length - 1) :: UInt8.ofNat ((l.length - 1) / 256) :: l
theorem one_arr (n : Nat) (x : Int) (h : x = ((n % 256 : Nat) : Int)) : (#[Value.int .u8 x] : Array Value).toList = bytesV [UInt8.ofNat n] := by
  subst h
  simp [bytesV]
theorem two_arr (n1 n2 : Nat) (x y : Int) (h1 : x = ((n1 % 256 : Nat) : Int)) (h2 : y = ((n2 % 256 : Nat) : Int)) : (#[Value.int .u8 x, Value.int .u8 y] : Array Value).toList = bytesV [UInt8.ofNat n1, UInt8.ofNat n2] := by
  subst h1; subst h2
  simp [bytesV]
theorem three_arr (n1 n2 n3 : Nat) (x y z : Int) (h1 : x = ((n1 % 256 : Nat) : Int)) (h2 : y = ((n2 % 256 : Nat) : Int)) (h3 : z = ((n3 % 256 : Nat) : Int)) : (#[Value.int .u8 x, Value.int .u8 y, Value.int .u8 z] : Array Value).toList = bytesV [UInt8.ofNat n1, UInt8.ofNat n2, UInt8.ofNat n3] := by
  subst h1; subst h2; subst h3
  simp [bytesV]
/-- Bytes more, in the row that a call owns: as the walk has it. -/
theorem append_bytes {W : World} {v : Value} {ops : Array Oper} {rest : List Oper} {o : Oper} {a : Act} {Q : Exit → Act → World → Prop} (hgd : o.guard = none) (s x : Operand)
    (ho : o.op = .call { callee := .builtin .append, args := #[s, x], argTypes := #[63, 63] })
    (base pb : Nat) (st : ByteArray) (mv : Value) (hpb : W.heap[pb]? = some (.cells #[.string st, mv, v] 70 (0, 0))) (d c : List UInt8) (arr : Array Value) (m : Nat) (hm : m = c.length) (hs : a.eval s = v) (hown : rowG W base v d) (hx : a.eval x = .slice (some ⟨W.heap.size, 0, none⟩) m m)
    (hlen : d.length + c.length ≤ 1000000) (hbase : base ≤ W.heap.size)
    (h : arr.toList = bytesV c ∧ ∀ ao cp n w', Hid (n = (d ++ c).length) → n ≤ 1000000 → w'.heap[pb]? = some (.cells #[.string st, mv, v] 70 (0, 0)) → (w'.setCell ⟨pb, 2, none⟩ (.slice ao n cp)).heap[pb]? = some (.cells #[.string st, mv, .slice ao n cp] 70 (0, 0)) → rowG (w'.setCell ⟨pb, 2, none⟩ (.slice ao n cp)) base (.slice ao n cp) (d ++ c) → KeptX base pb W (w'.setCell ⟨pb, 2, none⟩ (.slice ao n cp)) → base ≤ (w'.setCell ⟨pb, 2, none⟩ (.slice ao n cp)).heap.size → wpList Tryz.prog ops Q rest (a.put o.dst (.slice ao n cp)) w') :
    wpList Tryz.prog ops Q (o :: rest) a (W.alloc (.cells arr 5)) := by
  subst hm
  obtain ⟨harr, h⟩ := h
  have hb2 : Below base W (W.alloc (.cells arr 5)) := (Below.refl _ _).alloc hbase _
  have hnew := heap_alloc_new W (.cells arr 5)
  have hsz := hb2.size
  have hpb2 := Grow.get ((Grow.refl _).alloc (.cells arr 5)) hpb
  have hown' : rowG (W.alloc (.cells arr 5)) base v d := rowG_keep hown fun g hg => Below.heap_alloc _ _ _ (rowG_lt hown g hg).2
  have hcell : ∀ j u, (bytesV c)[j]? = some u → (W.alloc (.cells arr 5)).cell? ((⟨W.heap.size, 0, none⟩ : Addr).add j) = some u := by
    intro j u hu
    rw [← harr] at hu
    rw [Addr.add_lit]
    simp only [World.cell?, hnew]
    simpa using hu
  generalize (W.alloc (.cells arr 5)) = V at *
  obtain ⟨g, cap, cur, fz, hv, _⟩ := id hown'
  subst hv
  obtain ⟨v', w', hrun, hown2, hgrow⟩ := run_append_G (w := V) o.type hown' ⟨W.heap.size, 0, none⟩ hcell hlen (by omega) c.length
  refine wpList_plain hgd fun K hK => ?_
  unfold Oper.wp execOp
  simp only [ho, resolve, invoke, builtin, Sem.run_bind, Sem.run_pure, Result.andThen_ok, List.map_toArray, List.map_cons, List.map_nil, hs, hx, hrun]
  obtain ⟨ao, cp, rfl⟩ := rowG_shape hown2
  have hbel := hb2.grown hgrow (by omega) (fun k hk => by cases hk; exact (rowG_lt hown' g rfl).1)
  have hpb3 := grown_block hgrow hpb2 (rowG_apart hown' hpb2 (by decide))
  exact hK _ _ (h ao cp _ w' (hide rfl) (by rw [List.length_append]; omega) hpb3 (set_block hpb3 _) (rowG_setCell hown2 (rowG_apart hown2 hpb3 (by decide)) _) ((keptX_of hbel).setAt _ _) (by have := hbel.size; simp [World.setCell]; omega))
theorem append_text {W : World} {v : Value} {ops : Array Oper} {rest : List Oper} {o : Oper} {a : Act} {Q : Exit → Act → World → Prop} (hgd : o.guard = none) (s x : Operand)
    (ho : o.op = .call { callee := .builtin .append, args := #[s, x], argTypes := #[63, 9] })
    (base pb : Nat) (st : ByteArray) (mv : Value) (hpb : W.heap[pb]? = some (.cells #[.string st, mv, v] 70 (0, 0))) (d c : List UInt8) (dn : Nat) (hdn : dn = d.length) (hs : a.eval s = v) (hown : rowG W base v d) (hx : a.eval x = .string (bs c))
    (hlen : d.length + c.length ≤ 1000000) (hbase : base ≤ W.heap.size)
    (h : ∀ ao cp n w', Hid (n = (d ++ c).length) → n ≤ 1000000 → w'.heap[pb]? = some (.cells #[.string st, mv, v] 70 (0, 0)) → (w'.setCell ⟨pb, 2, none⟩ (.slice ao n cp)).heap[pb]? = some (.cells #[.string st, mv, .slice ao n cp] 70 (0, 0)) → rowG (w'.setCell ⟨pb, 2, none⟩ (.slice ao n cp)) base (.slice ao n cp) (d ++ c) → KeptX base pb W (w'.setCell ⟨pb, 2, none⟩ (.slice ao n cp)) → base ≤ (w'.setCell ⟨pb, 2, none⟩ (.slice ao n cp)).heap.size → wpList Tryz.prog ops Q rest (a.put o.dst (.slice ao n cp)) w') :
    wpList Tryz.prog ops Q (o :: rest) a W := by
  obtain ⟨g, cap, cur, fz, hv, _⟩ := id hown
  subst hv
  obtain ⟨v', w', hrun, hown2, hgrow⟩ := run_append_Gs (w := W) (c := c) o.type hown hlen hbase
  refine wpList_plain hgd fun K hK => ?_
  unfold Oper.wp execOp
  simp only [ho, resolve, invoke, builtin, Sem.run_bind, Sem.run_pure, Result.andThen_ok, List.map_toArray, List.map_cons, List.map_nil, hs, hx, hrun]
  obtain ⟨ao, cp, rfl⟩ := rowG_shape hown2
  have hbel := (Below.refl base W).grown hgrow hbase (fun k hk => by cases hk; exact (rowG_lt hown g rfl).1)
  have hpb3 := grown_block hgrow hpb (rowG_apart hown hpb (by decide))
  exact hK _ _ (h ao cp _ w' (hide rfl) (by rw [List.length_append]; omega) hpb3 (set_block hpb3 _) (rowG_setCell hown2 (rowG_apart hown2 hpb3 (by decide)) _) ((keptX_of hbel).setAt _ _) (by have := hbel.size; simp [World.setCell]; omega))
set_option maxRecDepth 20000 in
set_option maxHeartbeats 2000000 in
theorem pkplain_any (w : World) (B pb : Nat) (s l p : List UInt8) (m : Value) (hu : pkRow w B pb s m p) (hl : l.length ≤ 20000) (hp : p.length ≤ 100000) :
    Calls Tryz.prog 71 #[.pointer (some ⟨pb, 0, none⟩), .string (bs l)] w fun e w' => e = .returned (.tuple #[]) ∧ KeptX B pb w w' ∧ pkRow w' B pb s m (p ++ plainE l) := by
  obtain ⟨hB, v, hb, ho⟩ := hu
  obtain ⟨ao, cp, rfl⟩ := rowG_shape ho
  obtain ⟨c0, c1, c2, z0, z1, z2⟩ := three_cells hb
  have HB := hide hb
  have HO := hide ho
  clear hb ho
  go_enter Tryz.func71, Tryz.ntmps71
  by_cases h0 : l.length = 0
  · have e : p ++ plainE l = p := by unfold plainE; rw [if_pos h0, List.append_nil]
    obtain rfl : l = [] := List.eq_nil_of_length_eq_zero h0
    have H0 := hide e
    clear h0 e
    go_wp2
    refine bodyPost_ret (v := .tuple #[]) (by simp [results, Tryz.results71, go_sem]) rfl ?_
    exact ⟨rfl, KeptX.refl _ _ _, by rw [H0.out]; exact ⟨hB, _, HB.out, HO.out⟩⟩
  · have h0' : ((l.length : Int) == 0) = false := beq_eq_false_iff_ne.2 (by omega)
    by_cases h60 : l.length - 1 < 60
    · have h60' : (l.length : Int) - 1 < 60 := by omega
      have hbits : bits .or .i64 (((l.length : Int) - 1) * 4) 0 = (((l.length - 1) * 4 : Nat) : Int) := by
        have h6 := bits_or_i64_nat ((l.length - 1) * 4) 0 (by omega) (by omega)
        rw [Nat.or_zero] at h6
        rw [← h6]
        congr 1
        omega
      have HBits := hide hbits
      clear hbits
      have hlc : p.length + ([UInt8.ofNat ((l.length - 1) * 4)]).length ≤ 1000000 := by simp; omega
      have hE : p ++ plainE l = p ++ [UInt8.ofNat ((l.length - 1) * 4)] ++ l := by unfold plainE; rw [if_neg h0, if_pos h60]; simp
      have HE := hide hE
      have hlc2 : (p ++ [UInt8.ofNat ((l.length - 1) * 4)]).length + l.length ≤ 1000000 := by simp; omega
      clear hE h0
      go_wp2_with (first
        | (at_builtin; refine append_bytes rfl (.tmp 32) (.tmp 37) rfl B pb _ _ HB.out p [UInt8.ofNat ((l.length - 1) * 4)] _ 1 rfl rfl HO.out rfl hlc hB ?_; refine And.intro (by exact one_arr _ _ (by rw [HBits.out]; omega)) ?_; intro ao7 cp7 n7 w7 hn7 hn7l hx7 hx8 hown8 hk8 hs8; obtain ⟨k0, k1, k2, y0, y1, y2⟩ := three_cells hx7; obtain ⟨j0, j1, j2, x0, x1, x2⟩ := three_cells hx8; have HX7 := hide hx7; have HX8 := hide hx8; have HO8 := hide hown8; have HK8 := hide hk8; have HS8 := hide hs8; clear hx7 hx8 hown8 hk8 hs8)
        | (at_builtin; refine append_text rfl (.tmp 59) (.tmp 60) rfl B pb _ _ HX8.out (p ++ [UInt8.ofNat ((l.length - 1) * 4)]) l n7 hn7.out rfl HO8.out rfl hlc2 HS8.out ?_; intro ao9 cp9 n9 w9 hn9 hn9l hx9 hxa hown9 hk9 hs9; obtain ⟨g0, g1, g2, u0, u1, u2⟩ := three_cells hx9; have HXA := hide hxa; have HO9 := hide hown9; have HK9 := hide hk9; have HS9 := hide hs9; clear hxa hown9 hk9 hs9))
      go_end0
      refine ⟨rfl, HK8.out.trans HK9.out, ?_⟩
      rw [HE.out]
      exact ⟨HS9.out, .slice ao9 n9 cp9, HXA.out, HO9.out⟩
    · by_cases h256 : l.length - 1 < 256
      · have h60' : ¬ (l.length : Int) - 1 < 60 := by omega
        have h256' : (l.length : Int) - 1 < 256 := by omega
        have hlc : p.length + ([240, UInt8.ofNat (l.length - 1)]).length ≤ 1000000 := by simp; omega
        have hE : p ++ plainE l = p ++ [240, UInt8.ofNat (l.length - 1)] ++ l := by unfold plainE; rw [if_neg h0, if_neg h60, if_pos h256]; simp
        have HE := hide hE
        have hlc2 : (p ++ [240, UInt8.ofNat (l.length - 1)]).length + l.length ≤ 1000000 := by simp; omega
        clear hE h0
        go_wp2_with (first
          | (at_builtin; refine append_bytes rfl (.tmp 48) (.tmp 51) rfl B pb _ _ HB.out p [240, UInt8.ofNat (l.length - 1)] _ 2 rfl rfl HO.out rfl hlc hB ?_; refine And.intro (by exact two_arr 240 _ _ _ rfl (by omega)) ?_; intro ao7 cp7 n7 w7 hn7 hn7l hx7 hx8 hown8 hk8 hs8; obtain ⟨k0, k1, k2, y0, y1, y2⟩ := three_cells hx7; obtain ⟨j0, j1, j2, x0, x1, x2⟩ := three_cells hx8; have HX7 := hide hx7; have HX8 := hide hx8; have HO8 := hide hown8; have HK8 := hide hk8; have HS8 := hide hs8; clear hx7 hx8 hown8 hk8 hs8)
          | (at_builtin; refine append_text rfl (.tmp 59) (.tmp 60) rfl B pb _ _ HX8.out (p ++ [240, UInt8.ofNat (l.length - 1)]) l n7 hn7.out rfl HO8.out rfl hlc2 HS8.out ?_; intro ao9 cp9 n9 w9 hn9 hn9l hx9 hxa hown9 hk9 hs9; obtain ⟨g0, g1, g2, u0, u1, u2⟩ := three_cells hx9; have HXA := hide hxa; have HO9 := hide hown9; have HK9 := hide hk9; have HS9 := hide hs9; clear hxa hown9 hk9 hs9))
        go_end0
        refine ⟨rfl, HK8.out.trans HK9.out, ?_⟩
        rw [HE.out]
        exact ⟨HS9.out, .slice ao9 n9 cp9, HXA.out, HO9.out⟩
      · have h60' : ¬ (l.length : Int) - 1 < 60 := by omega
        have h256' : ¬ (l.length : Int) - 1 < 256 := by omega
        have hlc : p.length + ([244, UInt8.ofNat (l.length - 1), UInt8.ofNat ((l.length - 1) / 256)]).length ≤ 1000000 := by simp; omega
        have hE : p ++ plainE l = p ++ [244, UInt8.ofNat (l.length - 1), UInt8.ofNat ((l.length - 1) / 256)] ++ l := by unfold plainE; rw [if_neg h0, if_neg h60, if_neg h256]; simp
        have HE := hide hE
        have hlc2 : (p ++ [244, UInt8.ofNat (l.length - 1), UInt8.ofNat ((l.length - 1) / 256)]).length + l.length ≤ 1000000 := by simp; omega
        clear hE h0
        go_wp2_with (first
          | (at_builtin; refine append_bytes rfl (.tmp 15) (.tmp 21) rfl B pb _ _ HB.out p [244, UInt8.ofNat (l.length - 1), UInt8.ofNat ((l.length - 1) / 256)] _ 3 rfl rfl HO.out rfl hlc hB ?_; refine And.intro (by exact three_arr 244 _ _ _ _ _ rfl (by omega) (by omega)) ?_; intro ao7 cp7 n7 w7 hn7 hn7l hx7 hx8 hown8 hk8 hs8; obtain ⟨k0, k1, k2, y0, y1, y2⟩ := three_cells hx7; obtain ⟨j0, j1, j2, x0, x1, x2⟩ := three_cells hx8; have HX7 := hide hx7; have HX8 := hide hx8; have HO8 := hide hown8; have HK8 := hide hk8; have HS8 := hide hs8; clear hx7 hx8 hown8 hk8 hs8)
          | (at_builtin; refine append_text rfl (.tmp 59) (.tmp 60) rfl B pb _ _ HX8.out (p ++ [244, UInt8.ofNat (l.length - 1), UInt8.ofNat ((l.length - 1) / 256)]) l n7 hn7.out rfl HO8.out rfl hlc2 HS8.out ?_; intro ao9 cp9 n9 w9 hn9 hn9l hx9 hxa hown9 hk9 hs9; obtain ⟨g0, g1, g2, u0, u1, u2⟩ := three_cells hx9; have HXA := hide hxa; have HO9 := hide hown9; have HK9 := hide hk9; have HS9 := hide hs9; clear hxa hown9 hk9 hs9))
        go_end0
        refine ⟨rfl, HK8.out.trans HK9.out, ?_⟩
        rw [HE.out]
        exact ⟨HS9.out, .slice ao9 n9 cp9, HXA.out, HO9.out⟩
/-- An element of bytes that stood there already. -/
def againOne (k back : Nat) : List UInt8 :=
  if 4 ≤ k ∧ k ≤ 11 ∧ back ≤ 2047 then [UInt8.ofNat (back / 256 * 32 + (k - 4) * 4 + 1), UInt8.ofNat back] else [UInt8.ofNat ((k - 1) * 4 + 2), UInt8.ofNat back, UInt8.ofNat (back / 256)]
/-- Elements of as many as there are. -/
def againE (back : Nat) : Nat → Nat → List UInt8
  | 0, _ => []
  | f + 1, n => if n = 0 then [] else againOne (min n 64) back ++ againE back f (n - min n 64)
theorem againE_any (back : Nat) : ∀ (f f' n : Nat), n ≤ f → n ≤ f' → againE back f n = againE back f' n := by
  intro f
  induction f with
  | zero =>
    intro f' n h _
    have : n = 0 := by omega
    subst this
    cases f' <;> rfl
  | succ f ih =>
    intro f' n h h'
    cases f' with
    | zero =>
      have : n = 0 := by omega
      subst this
      rfl
    | succ f' =>
      simp only [againE]
      split
      · rfl
      · rw [ih f' (n - min n 64) (by omega) (by omega)]
def againB' (back n : Nat) : List UInt8 := againE back n n
theorem againB'_step (back n : Nat) (h : 0 < n) : againB' back n = againOne (min n 64) back ++ againB' back (n - min n 64) := by
  obtain ⟨f, rfl⟩ : ∃ f, n = f + 1 := ⟨n - 1, by omega⟩
  show againE back (f + 1) (f + 1) = _
  rw [againE, if_neg (by omega)]
  exact congrArg _ (againE_any back _ _ _ (by omega) (Nat.le_refl _))
theorem againB'_zero (back : Nat) : againB' back 0 = [] := rfl
set_option maxRecDepth 20000 in
set_option maxHeartbeats 2000000 in
theorem pkagain_any (w : World) (B pb n back : Nat) (s p : List UInt8) (m : Value) (hu : pkRow w B pb s m p) (hn : n ≤ 20000) (hback : back ≤ 20000) (hp : p.length ≤ 100000) :
    Calls Tryz.prog 72 #[.pointer (some ⟨pb, 0, none⟩), .int .i64 n, .int .i64 back] w fun e w' => e = .returned (.tuple #[]) ∧ KeptX B pb w w' ∧ pkRow w' B pb s m (p ++ againB' back n) := by
  have HU := hide hu
  have HP := hide hp
  clear hu hp
  go_enter Tryz.func72, Tryz.ntmps72
  go_wp2
  go_loopw [1] (fun i wr => ∃ (q : Nat) (p' : List UInt8), q ≤ n ∧ i = .int .i64 q ∧ KeptX B pb w wr ∧ Hid (pkRow wr B pb s m p') ∧ Hid (p ++ againB' back n = p' ++ againB' back q) ∧ p'.length ≤ 100000 + 3 * (n - q)) (fun i _ => (intOf i).toNat)
  case atStart => exact ⟨n, p, Nat.le_refl _, rfl, KeptX.refl _ _ _, HU, hide rfl, by have := HP.out; omega⟩
  case round =>
    obtain ⟨q, p', hq, rfl, hk, HR, HE, hpl⟩ := hrel
    rename World => wr
    by_cases h0 : q = 0
    · subst h0
      go_wp2
      go_end0
      exact ⟨rfl, hk, by rw [HE.out, againB'_zero, List.append_nil]; exact HR.out⟩
    · have h0' : (0 : Int) < q := by omega
      obtain ⟨hB, v, hb, ho⟩ := HR.out
      obtain ⟨ao, cp, rfl⟩ := rowG_shape ho
      obtain ⟨c0, c1, c2, z0, z1, z2⟩ := three_cells hb
      have HB := hide hb
      have HO := hide ho
      clear hb ho
      have HStep := hide (againB'_step back q (by omega))
      have hmin : min q 64 ≤ 64 := Nat.min_le_right _ _
      by_cases h64 : q ≤ 64
      · have e64 : min q 64 = q := Nat.min_eq_left h64
        have hmn : min (q : Int) 64 = q := by omega
        have h64' : (q : Int) ≤ 64 := by omega
        by_cases b4 : 4 ≤ q
        · by_cases b11 : q ≤ 11
          · by_cases bb : back ≤ 2047
            · skip
              have h4' : (4 : Int) ≤ q := by omega
              have h11' : (q : Int) ≤ 11 := by omega
              have hb' : (back : Int) ≤ 2047 := by omega
              have hbits : bits .or .i64 (bits .or .i64 ((back : Int) / 256 * 32) (((q : Int) - 4) * 4)) 1 = ((back / 256 * 32 + (q - 4) * 4 + 1 : Nat) : Int) := by
                have g1 := bits_or_i64_nat (back / 256 * 32) ((q - 4) * 4) (by omega) (by omega)
                have g2 := Nat.two_pow_add_eq_or_of_lt (i := 5) (b := (q - 4) * 4) (by omega) (back / 256)
                have e1 : back / 256 * 32 = 2 ^ 5 * (back / 256) := by omega
                rw [e1, ← g2] at g1
                have g3 := bits_or_i64_nat (2 ^ 5 * (back / 256) + (q - 4) * 4) 1 (by omega) (by omega)
                have g4 := Nat.two_pow_add_eq_or_of_lt (i := 1) (b := 1) (by omega) (back / 256 * 16 + (q - 4) * 2)
                rw [show 2 ^ 5 * (back / 256) + (q - 4) * 4 = 2 ^ 1 * (back / 256 * 16 + (q - 4) * 2) from by omega, ← g4] at g3
                rw [show (back : Int) / 256 * 32 = ((2 ^ 5 * (back / 256) : Nat) : Int) from by omega, show ((q : Int) - 4) * 4 = (((q - 4) * 4 : Nat) : Int) from by omega, g1, show 2 ^ 5 * (back / 256) + (q - 4) * 4 = 2 ^ 1 * (back / 256 * 16 + (q - 4) * 2) from by omega]
                refine g3.trans ?_
                omega
              have HBits := hide hbits
              clear hbits
              have hC : againOne (min q 64) back = [UInt8.ofNat (back / 256 * 32 + (q - 4) * 4 + 1), UInt8.ofNat back] := by rw [e64, againOne]; rw [if_pos (by omega)]
              have HC := hide hC
              clear hC
              have hlc : p'.length + ([UInt8.ofNat (back / 256 * 32 + (q - 4) * 4 + 1), UInt8.ofNat back]).length ≤ 1000000 := by simp; omega
              go_wp2_with (at_builtin; refine append_bytes rfl (.tmp 25) (.tmp 37) rfl B pb _ _ HB.out p' [UInt8.ofNat (back / 256 * 32 + (q - 4) * 4 + 1), UInt8.ofNat back] _ 2 rfl rfl HO.out rfl hlc hB ?_; refine And.intro (by exact two_arr _ _ _ _ (by rw [HBits.out]; omega) (by omega)) ?_; intro ao7 cp7 n7 w7 hn7 hn7l hx7 hx8 hown8 hk8 hs8; obtain ⟨k0, k1, k2, y0, y1, y2⟩ := three_cells hx7; have HX8 := hide hx8; have HO8 := hide hown8; have HK8 := hide hk8; have HS8 := hide hs8; clear hx7 hx8 hown8 hk8 hs8)
              go_roundw
              case rel =>
                refine ⟨q - q, p' ++ [UInt8.ofNat (back / 256 * 32 + (q - 4) * 4 + 1), UInt8.ofNat back], by omega, by go_num, hk.trans HK8.out, hide ⟨HS8.out, .slice ao7 n7 cp7, HX8.out, HO8.out⟩, ?_, by simp; omega⟩
                show _ = _
                rw [HE.out, HStep.out, HC.out, e64, List.append_assoc]
              case measure => simp [intOf]; omega
            · have h4' : (4 : Int) ≤ q := by omega
              have h11' : (q : Int) ≤ 11 := by omega
              have hb' : ¬ (back : Int) ≤ 2047 := by omega
              have hbits : bits .or .i64 (((q : Int) - 1) * 4) 2 = (((q - 1) * 4 + 2 : Nat) : Int) := by
                have g1 := bits_or_i64_nat ((q - 1) * 4) 2 (by omega) (by omega)
                have g2 := Nat.two_pow_add_eq_or_of_lt (i := 2) (b := 2) (by omega) (q - 1)
                have e1 : (q - 1) * 4 = 2 ^ 2 * (q - 1) := by omega
                rw [e1, ← g2] at g1
                rw [show ((q : Int) - 1) * 4 = ((2 ^ 2 * (q - 1) : Nat) : Int) from by omega]
                refine g1.trans ?_
                omega
              have HBits := hide hbits
              clear hbits
              have hC : againOne (min q 64) back = [UInt8.ofNat ((q - 1) * 4 + 2), UInt8.ofNat back, UInt8.ofNat (back / 256)] := by rw [e64, againOne]; rw [if_neg (by omega)]
              have HC := hide hC
              clear hC
              have hlc : p'.length + ([UInt8.ofNat ((q - 1) * 4 + 2), UInt8.ofNat back, UInt8.ofNat (back / 256)]).length ≤ 1000000 := by simp; omega
              go_wp2_with (at_builtin; refine append_bytes rfl (.tmp 45) (.tmp 56) rfl B pb _ _ HB.out p' [UInt8.ofNat ((q - 1) * 4 + 2), UInt8.ofNat back, UInt8.ofNat (back / 256)] _ 3 rfl rfl HO.out rfl hlc hB ?_; refine And.intro (by exact three_arr _ _ _ _ _ _ (by rw [HBits.out]; omega) (by omega) (by omega)) ?_; intro ao7 cp7 n7 w7 hn7 hn7l hx7 hx8 hown8 hk8 hs8; obtain ⟨k0, k1, k2, y0, y1, y2⟩ := three_cells hx7; have HX8 := hide hx8; have HO8 := hide hown8; have HK8 := hide hk8; have HS8 := hide hs8; clear hx7 hx8 hown8 hk8 hs8)
              go_roundw
              case rel =>
                refine ⟨q - q, p' ++ [UInt8.ofNat ((q - 1) * 4 + 2), UInt8.ofNat back, UInt8.ofNat (back / 256)], by omega, by go_num, hk.trans HK8.out, hide ⟨HS8.out, .slice ao7 n7 cp7, HX8.out, HO8.out⟩, ?_, by simp; omega⟩
                show _ = _
                rw [HE.out, HStep.out, HC.out, e64, List.append_assoc]
              case measure => simp [intOf]; omega
          · have h4' : (4 : Int) ≤ q := by omega
            have h11' : ¬ (q : Int) ≤ 11 := by omega
            have hbits : bits .or .i64 (((q : Int) - 1) * 4) 2 = (((q - 1) * 4 + 2 : Nat) : Int) := by
              have g1 := bits_or_i64_nat ((q - 1) * 4) 2 (by omega) (by omega)
              have g2 := Nat.two_pow_add_eq_or_of_lt (i := 2) (b := 2) (by omega) (q - 1)
              have e1 : (q - 1) * 4 = 2 ^ 2 * (q - 1) := by omega
              rw [e1, ← g2] at g1
              rw [show ((q : Int) - 1) * 4 = ((2 ^ 2 * (q - 1) : Nat) : Int) from by omega]
              refine g1.trans ?_
              omega
            have HBits := hide hbits
            clear hbits
            have hC : againOne (min q 64) back = [UInt8.ofNat ((q - 1) * 4 + 2), UInt8.ofNat back, UInt8.ofNat (back / 256)] := by rw [e64, againOne]; rw [if_neg (by omega)]
            have HC := hide hC
            clear hC
            have hlc : p'.length + ([UInt8.ofNat ((q - 1) * 4 + 2), UInt8.ofNat back, UInt8.ofNat (back / 256)]).length ≤ 1000000 := by simp; omega
            go_wp2_with (at_builtin; refine append_bytes rfl (.tmp 45) (.tmp 56) rfl B pb _ _ HB.out p' [UInt8.ofNat ((q - 1) * 4 + 2), UInt8.ofNat back, UInt8.ofNat (back / 256)] _ 3 rfl rfl HO.out rfl hlc hB ?_; refine And.intro (by exact three_arr _ _ _ _ _ _ (by rw [HBits.out]; omega) (by omega) (by omega)) ?_; intro ao7 cp7 n7 w7 hn7 hn7l hx7 hx8 hown8 hk8 hs8; obtain ⟨k0, k1, k2, y0, y1, y2⟩ := three_cells hx7; have HX8 := hide hx8; have HO8 := hide hown8; have HK8 := hide hk8; have HS8 := hide hs8; clear hx7 hx8 hown8 hk8 hs8)
            go_roundw
            case rel =>
              refine ⟨q - q, p' ++ [UInt8.ofNat ((q - 1) * 4 + 2), UInt8.ofNat back, UInt8.ofNat (back / 256)], by omega, by go_num, hk.trans HK8.out, hide ⟨HS8.out, .slice ao7 n7 cp7, HX8.out, HO8.out⟩, ?_, by simp; omega⟩
              show _ = _
              rw [HE.out, HStep.out, HC.out, e64, List.append_assoc]
            case measure => simp [intOf]; omega
        · have h4' : ¬ (4 : Int) ≤ q := by omega
          skip
          have hbits : bits .or .i64 (((q : Int) - 1) * 4) 2 = (((q - 1) * 4 + 2 : Nat) : Int) := by
            have g1 := bits_or_i64_nat ((q - 1) * 4) 2 (by omega) (by omega)
            have g2 := Nat.two_pow_add_eq_or_of_lt (i := 2) (b := 2) (by omega) (q - 1)
            have e1 : (q - 1) * 4 = 2 ^ 2 * (q - 1) := by omega
            rw [e1, ← g2] at g1
            rw [show ((q : Int) - 1) * 4 = ((2 ^ 2 * (q - 1) : Nat) : Int) from by omega]
            refine g1.trans ?_
            omega
          have HBits := hide hbits
          clear hbits
          have hC : againOne (min q 64) back = [UInt8.ofNat ((q - 1) * 4 + 2), UInt8.ofNat back, UInt8.ofNat (back / 256)] := by rw [e64, againOne]; rw [if_neg (by omega)]
          have HC := hide hC
          clear hC
          have hlc : p'.length + ([UInt8.ofNat ((q - 1) * 4 + 2), UInt8.ofNat back, UInt8.ofNat (back / 256)]).length ≤ 1000000 := by simp; omega
          go_wp2_with (at_builtin; refine append_bytes rfl (.tmp 45) (.tmp 56) rfl B pb _ _ HB.out p' [UInt8.ofNat ((q - 1) * 4 + 2), UInt8.ofNat back, UInt8.ofNat (back / 256)] _ 3 rfl rfl HO.out rfl hlc hB ?_; refine And.intro (by exact three_arr _ _ _ _ _ _ (by rw [HBits.out]; omega) (by omega) (by omega)) ?_; intro ao7 cp7 n7 w7 hn7 hn7l hx7 hx8 hown8 hk8 hs8; obtain ⟨k0, k1, k2, y0, y1, y2⟩ := three_cells hx7; have HX8 := hide hx8; have HO8 := hide hown8; have HK8 := hide hk8; have HS8 := hide hs8; clear hx7 hx8 hown8 hk8 hs8)
          go_roundw
          case rel =>
            refine ⟨q - q, p' ++ [UInt8.ofNat ((q - 1) * 4 + 2), UInt8.ofNat back, UInt8.ofNat (back / 256)], by omega, by go_num, hk.trans HK8.out, hide ⟨HS8.out, .slice ao7 n7 cp7, HX8.out, HO8.out⟩, ?_, by simp; omega⟩
            show _ = _
            rw [HE.out, HStep.out, HC.out, e64, List.append_assoc]
          case measure => simp [intOf]; omega
      · skip
        have e64 : min q 64 = 64 := Nat.min_eq_right (by omega)
        have hmn : min (q : Int) 64 = 64 := by omega
        have h64' : ¬ (q : Int) ≤ 64 := by omega
        have hbits : bits .or .i64 252 2 = 254 := by decide +kernel
        have hC : againOne (min q 64) back = [UInt8.ofNat ((64 - 1) * 4 + 2), UInt8.ofNat back, UInt8.ofNat (back / 256)] := by rw [e64, againOne]; rw [if_neg (by omega)]
        have HC := hide hC
        clear hC
        have hlc : p'.length + ([UInt8.ofNat ((64 - 1) * 4 + 2), UInt8.ofNat back, UInt8.ofNat (back / 256)]).length ≤ 1000000 := by simp; omega
        go_wp2_with (at_builtin; refine append_bytes rfl (.tmp 45) (.tmp 56) rfl B pb _ _ HB.out p' [UInt8.ofNat ((64 - 1) * 4 + 2), UInt8.ofNat back, UInt8.ofNat (back / 256)] _ 3 rfl rfl HO.out rfl hlc hB ?_; refine And.intro (by exact three_arr 254 _ _ _ _ _ rfl (by omega) (by omega)) ?_; intro ao7 cp7 n7 w7 hn7 hn7l hx7 hx8 hown8 hk8 hs8; obtain ⟨k0, k1, k2, y0, y1, y2⟩ := three_cells hx7; have HX8 := hide hx8; have HO8 := hide hown8; have HK8 := hide hk8; have HS8 := hide hs8; clear hx7 hx8 hown8 hk8 hs8)
        go_roundw
        case rel =>
          refine ⟨q - 64, p' ++ [UInt8.ofNat ((64 - 1) * 4 + 2), UInt8.ofNat back, UInt8.ofNat (back / 256)], by omega, by go_num, hk.trans HK8.out, hide ⟨HS8.out, .slice ao7 n7 cp7, HX8.out, HO8.out⟩, ?_, by simp; omega⟩
          show _ = _
          rw [HE.out, HStep.out, HC.out, e64, List.append_assoc]
        case measure => simp [intOf]; omega
end Go.Proofs.YtmdakfmecfcbhaaGreat
namespace Go.Proofs.YtmdakfmecfcbhaaGreat
/-- Elements that make one text out of another. -/
def Runs (told : Nat) (p m m' : List UInt8) : Prop := ∀ rest, unpB told (p ++ rest) m = unpB told rest m'
theorem runs_nil (told : Nat) (m : List UInt8) : Runs told [] m m := fun _ => rfl
theorem runs_append {told : Nat} {p q a b c : List UInt8} (h : Runs told p a b) (k : Runs told q b c) : Runs told (p ++ q) a c := fun rest => by
  rw [List.append_assoc, h, k]
theorem runs_elem {told : Nat} {p m m' : List UInt8} (hp : p ≠ []) (h : ∀ rest, elemB told (p ++ rest) m = some (rest, m')) : Runs told p m m' := fun rest => unpB_some (by simp [hp]) (h rest)
theorem cut_one (n : Nat) (h : n < 256) (r : List UInt8) : cutLow 1 (UInt8.ofNat n :: r) = some (n, r) := by
  unfold cutLow
  rw [if_pos (by simp)]
  have : (UInt8.ofNat n).toNat = n := by simp; omega
  simp [lowB, this]
theorem cut_two (n : Nat) (h : n < 65536) (r : List UInt8) : cutLow 2 (UInt8.ofNat n :: UInt8.ofNat (n / 256) :: r) = some (n, r) := by
  unfold cutLow
  rw [if_pos (by simp)]
  have e1 : (UInt8.ofNat n).toNat = n % 256 := by simp
  have e2 : (UInt8.ofNat (n / 256)).toNat = n / 256 % 256 := by simp
  simp only [List.take, List.drop, lowB, List.foldr, e1, e2]
  congr 2
  omega
theorem plainB_all (told : Nat) (l rest m : List UInt8) (h : m.length + l.length ≤ told) : plainB told l.length (l ++ rest) m = some (rest, m ++ l) := by
  unfold plainB
  rw [if_pos ⟨by omega, by simp⟩]
  simp
theorem runs_plain (told : Nat) (l m : List UInt8) (hl : l.length ≤ 20000) (h : m.length + l.length ≤ told) : Runs told (plainE l) m (m ++ l) := by
  unfold plainE
  by_cases h0 : l.length = 0
  · have : l = [] := List.eq_nil_of_length_eq_zero h0
    subst this
    rw [if_pos h0, List.append_nil]
    exact runs_nil _ _
  · rw [if_neg h0]
    by_cases h60 : l.length - 1 < 60
    · rw [if_pos h60]
      refine runs_elem (by simp) fun rest => ?_
      unfold elemB
      rw [List.cons_append, cut_one _ (by omega)]
      simp only
      rw [if_pos (by omega), if_neg (by omega), show (l.length - 1) * 4 / 4 + 1 = l.length from by omega]
      exact plainB_all told l rest m h
    · rw [if_neg h60]
      by_cases h256 : l.length - 1 < 256
      · rw [if_pos h256]
        refine runs_elem (by simp) fun rest => ?_
        unfold elemB
        have e : cutLow 1 (240 :: UInt8.ofNat (l.length - 1) :: l ++ rest) = some (240, UInt8.ofNat (l.length - 1) :: (l ++ rest)) := cut_one 240 (by omega) _
        rw [e]
        change (match cutLow 1 (UInt8.ofNat (l.length - 1) :: (l ++ rest)) with | none => none | some (n, r2) => plainB told (n + 1) r2 m) = _
        rw [cut_one _ h256]
        simp only
        rw [show l.length - 1 + 1 = l.length from by omega]
        exact plainB_all told l rest m h
      · rw [if_neg h256]
        refine runs_elem (by simp) fun rest => ?_
        unfold elemB
        have e : cutLow 1 (244 :: UInt8.ofNat (l.length - 1) :: UInt8.ofNat ((l.length - 1) / 256) :: l ++ rest) = some (244, UInt8.ofNat (l.length - 1) :: UInt8.ofNat ((l.length - 1) / 256) :: (l ++ rest)) := cut_one 244 (by omega) _
        rw [e]
        change (match cutLow 2 (UInt8.ofNat (l.length - 1) :: UInt8.ofNat ((l.length - 1) / 256) :: (l ++ rest)) with | none => none | some (n, r2) => plainB told (n + 1) r2 m) = _
        rw [cut_two _ (by omega)]
        simp only
        rw [show l.length - 1 + 1 = l.length from by omega]
        exact plainB_all told l rest m h
theorem plainE_length (l : List UInt8) : (plainE l).length ≤ l.length + 3 ∧ (l.length ≤ 60 → (plainE l).length ≤ l.length + 1) ∧ (l.length ≤ 256 → (plainE l).length ≤ l.length + 2) := by
  unfold plainE
  split
  · simp
  · split
    · simp <;> omega
    · split
      · simp <;> omega
      · simp <;> omega
theorem runs_one (told k back : Nat) (m : List UInt8) (hk1 : 1 ≤ k) (hk : k ≤ 64) (hb1 : 1 ≤ back) (hb : back ≤ m.length) (hb2 : back ≤ 20000) (h : m.length + k ≤ told) : Runs told (againOne k back) m (copyB back k m) := by
  unfold againOne
  split
  · rename_i hc
    refine runs_elem (by simp) fun rest => ?_
    unfold elemB
    rw [List.cons_append, cut_one _ (by omega)]
    simp only
    rw [if_neg (by omega), if_pos (by omega)]
    have e : cutLow 1 ([UInt8.ofNat back] ++ rest) = some (back % 256, rest) := by
      have := cut_one (back % 256) (by omega) rest
      have e2 : UInt8.ofNat (back % 256) = UInt8.ofNat back := by apply UInt8.toNat_inj.1; simp
      rw [e2] at this
      exact this
    rw [e]
    simp only
    rw [show (back / 256 * 32 + (k - 4) * 4 + 1) / 4 % 8 + 4 = k from by omega, show (back / 256 * 32 + (k - 4) * 4 + 1) / 32 * 256 + back % 256 = back from by omega, againB, if_pos ⟨by omega, hb1, hb⟩]
  · rename_i hc
    refine runs_elem (by simp) fun rest => ?_
    unfold elemB
    rw [List.cons_append, cut_one _ (by omega)]
    simp only
    rw [if_neg (by omega), if_neg (by omega), if_pos (by omega)]
    have e : cutLow 2 ([UInt8.ofNat back, UInt8.ofNat (back / 256)] ++ rest) = some (back, rest) := cut_two back (by omega) rest
    rw [e]
    simp only
    rw [show ((k - 1) * 4 + 2) / 4 + 1 = k from by omega, againB, if_pos ⟨by omega, hb1, hb⟩]
theorem copyB_add (back : Nat) : ∀ (a b : Nat) (m : List UInt8), copyB back (a + b) m = copyB back b (copyB back a m)
  | 0, b, m => by simp [copyB]
  | a + 1, b, m => by
    rw [show a + 1 + b = (a + b) + 1 from by omega, copyB, copyB, copyB_add back a b]
theorem runs_again (told back : Nat) : ∀ (n : Nat) (m : List UInt8), 1 ≤ back → back ≤ m.length → back ≤ 20000 → m.length + n ≤ told → Runs told (againB' back n) m (copyB back n m) := by
  intro n
  induction n using Nat.strongRecOn with
  | _ n ih =>
    intro m hb1 hb hb2 h
    by_cases h0 : n = 0
    · subst h0
      exact runs_nil _ _
    · rw [againB'_step back n (by omega)]
      have h1 := runs_one told (min n 64) back m (by omega) (by omega) hb1 hb hb2 (by omega)
      have h2 := ih (n - min n 64) (by omega) (copyB back (min n 64) m) hb1 (by rw [copyB_length]; omega) hb2 (by rw [copyB_length]; omega)
      have h3 := runs_append h1 h2
      rw [← copyB_add, show min n 64 + (n - min n 64) = n from by omega] at h3
      exact h3
theorem againOne_length (k back : Nat) : (againOne k back).length ≤ 3 := by
  unfold againOne
  split <;> simp
theorem againB'_length (back : Nat) : ∀ (n : Nat), (againB' back n).length ≤ 3 * ((n + 63) / 64) := by
  intro n
  induction n using Nat.strongRecOn with
  | _ n ih =>
    by_cases h0 : n = 0
    · subst h0; simp [againB'_zero]
    · rw [againB'_step back n (by omega), List.length_append]
      have := againOne_length (min n 64) back
      have := ih (n - min n 64) (by omega)
      omega
/-- Bytes from back are those that stand there. -/
theorem copyB_text (s : List UInt8) (f t : Nat) (hft : f < t) : ∀ (n : Nat), t + n ≤ s.length → (∀ i, i < n → s.getD (f + i) 0 = s.getD (t + i) 0) → copyB (t - f) n (s.take t) = s.take (t + n)
  | 0, _, _ => rfl
  | n + 1, h, he => by
    have ih := copyB_text s f t hft n (by omega) (fun i hi => he i (by omega))
    rw [copyB_snoc, ih, ← Nat.add_assoc, List.take_succ_eq_append_getElem (by omega)]
    congr 2
    have hl : (s.take (t + n)).length = t + n := by rw [List.length_take]; omega
    rw [hl, show t + n - (t - f) = f + n from by omega, getD_get _ _ (by rw [hl]; omega), List.getElem_take]
    have := he n (by omega)
    rw [getD_get _ _ (by omega), getD_get _ _ (by omega)] at this
    exact this
/-- A text of one byte. -/
def constB (s : List UInt8) : Prop := ∀ i, i < s.length → s.getD i 0 = s.getD 0 0
/-- What Pack's elements come to. -/
def Packs (s E : List UInt8) : Prop := Runs s.length E [] s ∧ 6 * E.length ≤ 7 * s.length + 18 ∧ (constB s → 64 ≤ s.length → E.length ≤ 2 + 3 * ((s.length + 62) / 64))
theorem packs_unpack {s E : List UInt8} (h : Packs s E) (hs : s.length ≤ 20000) (most : Int) (h0 : (s.length : Int) ≤ most) (h1 : most ≤ 20000) : unpackB (numB s.length ++ E) most = (0, s) := by
  unfold unpackB
  rw [if_neg (by omega)]
  have hc : cutNum (numB s.length ++ E) = some (s.length, E) := by
    unfold cutNum
    rw [numB_read s.length (by omega) E, if_pos rfl]
    simp
  rw [hc]
  simp only
  rw [if_neg (by omega)]
  have := h.1 []
  rw [List.append_nil] at this
  rw [this, unpB_nil, if_neg (by omega)]
end Go.Proofs.YtmdakfmecfcbhaaGreat
