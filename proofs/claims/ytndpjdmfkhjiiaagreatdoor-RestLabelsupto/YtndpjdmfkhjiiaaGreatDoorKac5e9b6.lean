/- 1 texts in one. -/
import Derived.Test.YtndpjdmfkhjiiaaGreatDoorProg
import Derived.Test.YtndpjdmfkhjiiaaGreatDoorK97fdc06
import Derived.Test.YtndpjdmfkhjiiaaGreatDoorKbff346a
import Derived.Test.YtndpjdmfkhjiiaaGreatDoorK395e834
import Derived.Test.YtndpjdmfkhjiiaaGreatDoorKd9d6983
import Derived.BigQuiet
set_option linter.unusedVariables false
set_option linter.unusedSimpArgs false
namespace Go.Proofs.YtndpjdmfkhjiiaaGreatDoor
open Go.RowKit
attribute [local go_sem] bs_size bs_toList bs_append bs_get bs_extract
/-- Giving up with a fault. -/
abbrev faulted (e a : Int) : Ending := .panicked [{ v := .iface 65 (.agg #[.int .i64 e, .int .i64 a]), recovered := false }]
/-- What is to stay has stayed, but for block b. -/
structure KeptX (F : Nat → Prop) (b : Nat) (w w' : World) : Prop where
  os : w'.os = w.os
  tape : w'.tape = w.tape
  output : w'.output = w.output
  size : w.heap.size ≤ w'.heap.size
  block : ∀ k, F k → k ≠ b → w'.heap[k]? = w.heap[k]?
theorem KeptX.refl (F : Nat → Prop) (b : Nat) (w : World) : KeptX F b w w := ⟨rfl, rfl, rfl, Nat.le_refl _, fun _ _ _ => rfl⟩
theorem KeptX.trans {F : Nat → Prop} {b : Nat} {a c d : World} (h : KeptX F b a c) (k : KeptX F b c d) : KeptX F b a d :=
  ⟨k.os.trans h.os, k.tape.trans h.tape, k.output.trans h.output, Nat.le_trans h.size k.size, fun i hi hn => (k.block i hi hn).trans (h.block i hi hn)⟩
theorem keptX_grow {F : Nat → Prop} {b : Nat} {w w' : World} (h : Grow w w') (hF : ∀ k, F k → k < w.heap.size) : KeptX F b w w' := ⟨h.os, h.tape, h.output, h.size, fun k hk _ => h.block k (hF k hk)⟩
theorem KeptX.setAt {F : Nat → Prop} {b : Nat} {w w' : World} (h : KeptX F b w w') (o : Nat) (v : Value) : KeptX F b w (w'.setCell ⟨b, o, none⟩ v) :=
  ⟨h.os, h.tape, h.output, by simpa [World.setCell] using h.size, fun k hk hn => (Below.heap_setCell _ _ _ _ hn).trans (h.block k hk hn)⟩
theorem keptX_two {F : Nat → Prop} {b : Nat} {w w' : World} (h : Kept2 b b w w') (hF : ∀ k, F k → k < w.heap.size) : KeptX F b w w' := ⟨h.os, h.tape, h.output, h.size, fun k hk hn => h.block k (hF k hk) hn hn⟩
theorem KeptX.drawN {F : Nat → Prop} {b n : Nat} {w w' : World} (h : KeptX F b w w') : KeptX F b w (w'.drewN n) := ⟨h.os, h.tape, h.output, h.size, h.block⟩
theorem KeptX.less {F F' : Nat → Prop} {b : Nat} {w w' : World} (h : KeptX F b w w') (hF : ∀ k, F' k → F k) : KeptX F' b w w' := ⟨h.os, h.tape, h.output, h.size, fun k hk hn => h.block k (hF k hk) hn⟩
theorem own_keep {w w' : World} {base e size n : Nat} {v : Value} {xs : List Value} (h : w.ownsRow base e size v n xs) (hb : ∀ g, v.ownBlock = some g → w'.heap[g]? = w.heap[g]?) : w'.ownsRow base e size v n xs := by
  refine ⟨h.1, ?_⟩
  rcases h.2 with ⟨h1, h2⟩ | ⟨g, cap, cur, rfl, h1, h2, h3⟩
  · exact .inl ⟨h1, h2⟩
  · exact .inr ⟨g, cap, cur, rfl, h1, (hb g rfl).trans h2, h3⟩
theorem own_grow {w w' : World} {base e size n : Nat} {v : Value} {xs : List Value} (h : w.ownsRow base e size v n xs) (hg : Grow w w') : w'.ownsRow base e size v n xs :=
  own_keep h fun g hgb => hg.block g (h.lt g hgb).2
theorem own_le {w : World} {B B' e size n : Nat} {v : Value} {xs : List Value} (h : w.ownsRow B e size v n xs) (hb : B' ≤ B) : w.ownsRow B' e size v n xs := by
  refine ⟨h.1, ?_⟩
  rcases h.2 with h1 | ⟨g, cap, cur, h0, h1, h2⟩
  · exact .inl h1
  · exact .inr ⟨g, cap, cur, h0, by omega, h2⟩
/-- Rows of different kinds lie apart. -/
theorem own_two {w : World} {B1 B2 e1 e2 s1 s2 n1 n2 : Nat} {v1 v2 : Value} {x1 x2 : List Value} (h1 : w.ownsRow B1 e1 s1 v1 n1 x1) (h2 : w.ownsRow B2 e2 s2 v2 n2 x2) (he : e1 ≠ e2) : v1.ownBlock = none ∨ v1.ownBlock ≠ v2.ownBlock := by
  rcases h2.2 with ⟨rfl, _⟩ | ⟨g, cap, cur, rfl, _, hg, _⟩
  · cases hv : v1.ownBlock with
    | none => exact .inl rfl
    | some k => exact .inr (by simp [Value.ownBlock])
  · exact .inr (own_apart h1 hg he)
/-- A cell of a row of the call's own is written. -/
theorem own_set {w : World} {B e size n g cap i : Nat} {xs : List Value} (h : w.ownsRow B e size (.slice (some ⟨g, 0, none⟩) n cap) n xs) (u : Value) (hi : i < xs.length) : (w.setCell ⟨g, i, none⟩ u).ownsRow B e size (.slice (some ⟨g, 0, none⟩) n cap) n (xs.set i u) := by
  refine ⟨by simpa using h.1, ?_⟩
  rcases h.2 with ⟨h1, h2⟩ | ⟨g', cap', cur, hv, h1, h2, h3, h4, h5, h6⟩
  · cases h1
  · simp at hv
    obtain ⟨rfl, rfl⟩ := hv
    refine .inr ⟨g, cap, cur.setIfInBounds i u, rfl, h1, set_blk h2 u, h3, h4, by simpa using h5, ?_⟩
    rw [← h6, Array.toList_setIfInBounds, List.take_set]
theorem own_free {w : World} {B e size n g cap i : Nat} {xs : List Value} (h : w.ownsRow B e size (.slice (some ⟨g, 0, none⟩) n cap) n xs) : w.frozen? ⟨g, i, none⟩ = false := by
  rcases h.2 with ⟨h1, h2⟩ | ⟨g', cap', cur, hv, h1, h2, h3⟩
  · cases h1
  · simp at hv
    obtain ⟨rfl, rfl⟩ := hv
    exact not_frozen h2
theorem own_cell {w : World} {B e size n g cap i : Nat} {xs : List Value} {u : Value} (h : w.ownsRow B e size (.slice (some ⟨g, 0, none⟩) n cap) n xs) (hi : xs[i]? = some u) : w.cell? ⟨g, i, none⟩ = some u := by
  have := World.ownsRow.cells h (g := g) rfl i u hi
  rw [Addr.add_lit] at this
  simpa using this
def intsV (ws : List Nat) : List Value := ws.map fun n : Nat => Value.int .i64 (n : Int)
/-- A step's cells, and the row of its ways. -/
structure Raw where
  st : St
  a : Nat
  b : Nat
  c : Nat
  d : Nat
  sl : Int
  wv : Value
def rawV (r : Raw) : Value := .agg #[.int .i64 (kindNo r.st), .int .u64 (r.a : Nat), .int .u64 (r.b : Nat), .int .u64 (r.c : Nat), .int .u64 (r.d : Nat), .int .i64 r.sl, r.wv]
def rawC (r : Raw) : List Value := [.int .i64 (kindNo r.st), .int .u64 (r.a : Nat), .int .u64 (r.b : Nat), .int .u64 (r.c : Nat), .int .u64 (r.d : Nat), .int .i64 r.sl, r.wv]
def rawCells : List Raw → List Value
  | [] => []
  | r :: l => rawC r ++ rawCells l
theorem rawCells_length : ∀ l, (rawCells l).length = l.length * 7
  | [] => rfl
  | r :: l => by simp [rawCells, rawC, rawCells_length l]; omega
theorem rawCells_append : ∀ l l', rawCells (l ++ l') = rawCells l ++ rawCells l'
  | [], l' => rfl
  | r :: l, l' => by simp [rawCells, rawCells_append l l']
theorem rawCells_at : ∀ (l : List Raw) (i : Nat) (r : Raw), l[i]? = some r → ∀ j, j < 7 → (rawCells l)[i * 7 + j]? = (rawC r)[j]?
  | [], i, r, h, j, hj => by simp at h
  | x :: l, 0, r, h, j, hj => by
    simp at h
    subst h
    rw [rawCells, List.getElem?_append_left (by simp [rawC]; omega)]
    simp
  | x :: l, i + 1, r, h, j, hj => by
    have e : (i + 1) * 7 + j = (rawC x).length + (i * 7 + j) := by simp [rawC]; omega
    rw [rawCells, e, List.getElem?_append_right (by omega), Nat.add_sub_cancel_left]
    exact rawCells_at l i r (by simpa using h) j hj
theorem rawCells_set : ∀ (l : List Raw) (i : Nat) (r r' : Raw), l[i]? = some r → r' = { r with st := r'.st, wv := r'.wv } → kindNo r'.st = kindNo r.st → (rawCells l).set (i * 7 + 6) r'.wv = rawCells (l.set i r')
  | [], i, r, r', h, h1, h2 => by simp at h
  | x :: l, 0, r, r', h, h1, h2 => by
    simp at h
    subst h
    rw [h1]
    simp [rawCells, rawC]
    rw [h1] at h2
    exact h2.symm
  | x :: l, i + 1, r, r', h, h1, h2 => by
    have e : (i + 1) * 7 + 6 = (rawC x).length + (i * 7 + 6) := by simp [rawC]; omega
    rw [rawCells, e, List.set_append_right _ _ (by omega), Nat.add_sub_cancel_left, rawCells_set l i r r' (by simpa using h) h1 h2]
    rfl
def waysOf : St → List Nat
  | .fork ws => ws
  | _ => []
/-- What a step's cells hold, and its ways' row is the call's own. -/
def rawOk (w : World) (B : Nat) (r : Raw) : Prop :=
  w.ownsRow B 3 1 r.wv (waysOf r.st).length (intsV (waysOf r.st)) ∧ (match r.st with | .take s => wordsIs [r.a, r.b, r.c, r.d] s | .mark n => r.sl = n | _ => True)
/-- A parser in a block: its mask, how far it has come, its steps, how many groups there are. What is to stay (F) is none of its rows. -/
def parserIs (w : World) (F : Nat → Prop) (pb : Nat) (m : List UInt8) (i : Nat) (sv : Value) (rs : List Raw) (g : Nat) : Prop :=
  (∀ k, F k → k < w.heap.size) ∧ w.heap[pb]? = some (.cells #[.string (bs m), .int .i64 i, sv, .int .i64 g] 143 (0, 0)) ∧ w.ownsRow 0 150 7 sv rs.length (rawCells rs) ∧
    (∀ (j : Nat) (r : Raw), rs[j]? = some r → rawOk w 0 r) ∧ (∀ (j k : Nat) (r r' : Raw), j ≠ k → rs[j]? = some r → rs[k]? = some r' → ∀ b, r.wv.ownBlock = some b → r'.wv.ownBlock ≠ some b) ∧
    (∀ b, sv.ownBlock = some b → ¬ F b) ∧ (∀ (j : Nat) (r : Raw) (b : Nat), rs[j]? = some r → r.wv.ownBlock = some b → ¬ F b)
def parserAt (w : World) (F : Nat → Prop) (pb : Nat) (m : List UInt8) (i : Nat) (S : List St) (g : Nat) : Prop :=
  ∃ sv rs, parserIs w F pb m i sv rs g ∧ rs.map (·.st) = S
theorem four_free {w : World} {b : Nat} {x y z u : Value} {t : TypeId} (h : w.heap[b]? = some (.cells #[x, y, z, u] t (0, 0))) : w.frozen? ⟨b, 0, none⟩ = false ∧ w.frozen? ⟨b, 1, none⟩ = false ∧ w.frozen? ⟨b, 2, none⟩ = false ∧ w.frozen? ⟨b, 3, none⟩ = false := by simp [World.frozen?, h]
theorem rawOk.keep {w w' : World} {B : Nat} {r : Raw} (h : rawOk w B r) (hb : ∀ g, r.wv.ownBlock = some g → w'.heap[g]? = w.heap[g]?) : rawOk w' B r := ⟨own_keep h.1 hb, h.2⟩
theorem rawOk.apart {w : World} {B b : Nat} {r : Raw} (h : rawOk w B r) {c : Array Value} {t : TypeId} {fr : Nat × Nat} (hb : w.heap[b]? = some (.cells c t fr)) (ht : (3 : Nat) ≠ t) : r.wv.ownBlock ≠ some b := own_apart h.1 hb ht
/-- Who writes into the parser's block alone. -/
theorem parserIs.put {w : World} {F : Nat → Prop} {pb o : Nat} {m : List UInt8} {i i' g g' : Nat} {sv u : Value} {rs : List Raw} (h : parserIs w F pb m i sv rs g) (hu : (#[.string (bs m), .int .i64 (i : Int), sv, .int .i64 (g : Int)] : Array Value).setIfInBounds o u = #[.string (bs m), .int .i64 (i' : Int), sv, .int .i64 (g' : Int)]) : parserIs (w.setCell ⟨pb, o, none⟩ u) F pb m i' sv rs g' := by
  obtain ⟨h1, h2, h3, h4, h5⟩ := h
  refine ⟨fun k hk => by have := h1 k hk; simpa [World.setCell] using this, by rw [set_blk h2, hu], ownsRow_setCell_other (a := ⟨pb, o, none⟩) h3 (own_apart h3 h2 (by decide)) _, fun j r hr => (h4 j r hr).keep fun k hk => ?_, h5⟩
  exact Below.heap_setCell _ _ _ _ (by rintro rfl; exact (h4 j r hr).apart h2 (by decide) hk)
theorem parserIs.draw {w : World} {F : Nat → Prop} {pb n : Nat} {m : List UInt8} {i g : Nat} {sv : Value} {rs : List Raw} (h : parserIs w F pb m i sv rs g) : parserIs (w.drewN n) F pb m i sv rs g := h
theorem parserIs.grow {w w' : World} {F : Nat → Prop} {pb : Nat} {m : List UInt8} {i g : Nat} {sv : Value} {rs : List Raw} (h : parserIs w F pb m i sv rs g) (k : Grow w w') : parserIs w' F pb m i sv rs g := by
  obtain ⟨h1, h2, h3, h4, h5⟩ := h
  exact ⟨fun b hb => Nat.lt_of_lt_of_le (h1 b hb) k.size, k.get h2, own_grow h3 k, fun j r hr => (h4 j r hr).keep fun b hb => k.block b ((h4 j r hr).1.lt b hb).2, h5⟩
theorem parserAt.grow {w w' : World} {F : Nat → Prop} {pb : Nat} {m : List UInt8} {i g : Nat} {S : List St} (h : parserAt w F pb m i S g) (k : Grow w w') : parserAt w' F pb m i S g := by
  obtain ⟨sv, rs, h, e⟩ := h
  exact ⟨sv, rs, h.grow k, e⟩
/-- Less is to stay. -/
theorem parserAt.less {w : World} {F F' : Nat → Prop} {pb : Nat} {m : List UInt8} {i g : Nat} {S : List St} (h : parserAt w F pb m i S g) (hF : ∀ k, F' k → F k) : parserAt w F' pb m i S g := by
  obtain ⟨sv, rs, ⟨h1, h2, h3, h4, h5, h6, h7⟩, e⟩ := h
  exact ⟨sv, rs, ⟨fun k hk => h1 k (hF k hk), h2, h3, h4, h5, fun b hb hf => h6 b hb (hF b hf), fun j r b hr hb hf => h7 j r b hr hb (hF b hf)⟩, e⟩
theorem parserAt.room {w : World} {F : Nat → Prop} {pb : Nat} {m : List UInt8} {i g : Nat} {S : List St} (h : parserAt w F pb m i S g) : ∀ k, F k → k < w.heap.size := by
  obtain ⟨sv, rs, h, e⟩ := h
  exact h.1
/-- Where a parser is. -/
def placeOf (w : World) (pb : Nat) : Nat := match w.heap[pb]? with | some (.cells c _ _) => (intOf (c.getD 1 undef)).toNat | _ => 0
theorem parserAt.place {w : World} {F : Nat → Prop} {pb : Nat} {m : List UInt8} {i g : Nat} {S : List St} (h : parserAt w F pb m i S g) : placeOf w pb = i := by
  obtain ⟨sv, rs, ⟨_, h2, _⟩, _⟩ := h
  simp [placeOf, h2, intOf]
set_option maxRecDepth 20000 in
theorem giveUp_any (w : World) (F : Nat → Prop) (pb : Nat) (m : List UInt8) (i g : Nat) (S : List St) (er : Int) (hp : parserAt w F pb m i S g) :
    Calls Tryz.prog 120 #[.pointer (some ⟨pb, 0, none⟩), .int .i64 er] w fun e w' => e = faulted er i ∧ w' = w := by
  obtain ⟨sv, rs, ⟨h1, h2, h3⟩, _⟩ := hp
  obtain ⟨c0, c1, c2, c3⟩ := four_cells h2
  clear h2 h3
  go_enter Tryz.func120, Tryz.ntmps120
  go_wp2
  exact ⟨rfl, rfl, rfl⟩
/-- Is the byte that comes one of these? -/
def comesB (these m : List UInt8) (i : Nat) : Bool := match m[i]? with | some c => these.contains c | none => false
theorem indexByte_has (l : List UInt8) (c : UInt8) : (0 ≤ Lib.indexByte l c) ↔ l.contains c = true := by
  induction l with
  | nil => simp [Lib.indexByte]
  | cons b l ih =>
    unfold Lib.indexByte
    have hge := Lib.indexByte_ge l c
    by_cases hb : b = c
    · subst hb; simp
    · have hb' : (b == c) = false := by simpa using hb
      have hb2 : (c == b) = false := by simpa using fun h => hb h.symm
      rw [hb', List.contains_cons, hb2]
      simp only [Bool.false_eq_true, if_false, Bool.false_or, ← ih]
      split
      · rename_i e
        have e : Lib.indexByte l c = -1 := by simpa using e
        omega
      · rename_i e
        have e : ¬ Lib.indexByte l c = -1 := by simpa using e
        omega
set_option maxRecDepth 20000 in
set_option maxHeartbeats 1000000 in
theorem comes_any (w : World) (F : Nat → Prop) (pb : Nat) (m these : List UInt8) (i g : Nat) (S : List St) (hp : parserAt w F pb m i S g) (hm : m.length ≤ 1000000) (hi : i ≤ m.length) :
    Calls Tryz.prog 154 #[.pointer (some ⟨pb, 0, none⟩), .string (bs these)] w fun e w' => e = .returned (.bool (comesB these m i)) ∧ ∃ n, w' = w.drewN n := by
  obtain ⟨sv, rs, ⟨h1, h2, h3⟩, _⟩ := hp
  obtain ⟨c0, c1, c2, c3⟩ := four_cells h2
  clear h2 h3
  go_enter Tryz.func154, Tryz.ntmps154
  by_cases hlt : i < m.length
  · obtain ⟨c, hc⟩ : ∃ c, m[i] = c := ⟨_, rfl⟩
    have hget : m[i]? = some c := by rw [List.getElem?_eq_getElem hlt, hc]
    have hd : decide ((i : Int) < m.length) = true := by simpa using hlt
    have hcl := c.toNat_lt
    have HS : Hid (∀ w, Calls Tryz.prog 114 #[.string (bs these), .int .u8 (c.toNat : Int)] w fun e w' => e = .returned (.int .i64 (Lib.indexByte these c)) ∧ w' = w) := by
      intro w
      refine (Tryz.strings_IndexByte (bs these) (c.toNat : Int) w).mono ?_
      rintro e w' ⟨rfl, rfl⟩
      refine ⟨?_, rfl⟩
      rw [bs_data]
      simp
    have HB : Hid (comesB these m i = decide (0 ≤ Lib.indexByte these c)) := by
      show _ = _
      unfold comesB
      rw [hget]
      simp only
      rw [Bool.eq_iff_iff, decide_eq_true_eq]
      exact (indexByte_has these c).symm
    have hX := Lib.indexByte_ge these c
    generalize Lib.indexByte these c = X at HS HB hX
    clear hget
    by_cases hx : 0 ≤ X
    · go_wp2
      go_quiet ((go_at_call 114; exact Calls.quiet_of_same (HS.out _)))
      go_wp2
      go_ret
      exact ⟨ret_bool (by (rw [HB.out]) <;> simpa using hx), _, rfl⟩
    · go_wp2
      go_quiet ((go_at_call 114; exact Calls.quiet_of_same (HS.out _)))
      go_wp2
      go_ret
      exact ⟨ret_bool (by (rw [HB.out]) <;> simpa using hx), _, rfl⟩
  · have hd : decide ((i : Int) < m.length) = false := by simpa using hlt
    have HB : Hid (comesB these m i = false) := by
      show _ = _
      unfold comesB
      rw [List.getElem?_eq_none_iff.2 (by omega)]
    go_wp2
    go_quiet (fail)
    go_wp2
    go_ret
    exact ⟨ret_bool HB.out.symm, _, rfl⟩
/-- One on, if so. -/
def onIf : Bool → Nat → Nat
  | true, i => i + 1
  | false, i => i
theorem comesB_lt {these m : List UInt8} {i : Nat} (h : comesB these m i = true) : i < m.length := by
  unfold comesB at h
  split at h
  · rename_i e; exact get_lt e
  · cases h
set_option maxRecDepth 20000 in
set_option maxHeartbeats 1000000 in
theorem skip_any (w : World) (F : Nat → Prop) (pb : Nat) (m these : List UInt8) (i g : Nat) (S : List St) (hp : parserAt w F pb m i S g) (hm : m.length ≤ 1000000) (hi : i ≤ m.length) :
    Calls Tryz.prog 139 #[.pointer (some ⟨pb, 0, none⟩), .string (bs these)] w fun e w' => e = .returned (.bool (comesB these m i)) ∧ Kept2 pb pb w w' ∧ parserAt w' F pb m (onIf (comesB these m i) i) S g := by
  go_enter Tryz.func139, Tryz.ntmps139
  go_wp2_with fail
  refine (comes_any w F pb m these i g S hp hm hi).mono ?_
  rintro e w1 ⟨rfl, n, rfl⟩
  obtain ⟨sv, rs, h, hS⟩ := hp
  obtain ⟨c0, c1, c2, c3⟩ := four_cells (show (w.drewN n).heap[pb]? = _ from h.2.1)
  obtain ⟨z0, z1, z2, z3⟩ := four_free (show (w.drewN n).heap[pb]? = _ from h.2.1)
  have H := hide h
  clear h
  cases hb : comesB these m i with
  | true =>
    have HB := hide hb
    have hlt := comesB_lt hb
    clear hb
    go_wp2
    go_ret
    refine ⟨by rw [HB.out]; rfl, (Kept2.drewN (.refl _ _ _)).trans (.setT _ _), sv, rs, ?_, hS⟩
    rw [HB.out]
    exact H.out.draw.put (i' := i + 1) (g' := g) (by simp)
  | false =>
    have HB := hide hb
    clear hb
    go_wp2
    go_ret
    exact ⟨by rw [HB.out]; rfl, (Kept2.drewN (.refl _ _ _)), sv, rs, by rw [HB.out]; exact H.out.draw, hS⟩
end Go.Proofs.YtndpjdmfkhjiiaaGreatDoor
