/- 3 texts in one. -/
import Derived.Test.YtndpjdmfkhjiiaaGreatDoorProg
import Derived.Test.YtndpjdmfkhjiiaaGreatDoorQ74d152
import Derived.Test.YtndpjdmfkhjiiaaGreatDoorQ3d7cfc
import Derived.Test.YtndpjdmfkhjiiaaGreatDoorQ082284
import Derived.Test.YtndpjdmfkhjiiaaGreatDoorShelf
import Derived.BigQuiet
import Derived.Test.YtndpjdmfkhjiiaaGreatDoorMFromV
/- The parser of masks: what it holds, and its smallest parts: giveUp, comes, skip. -/
set_option linter.unusedVariables false
set_option linter.unusedSimpArgs false
namespace Go.Proofs.YtndpjdmfkhjiiaaGreatDoor
open Go.RowKit
attribute [local go_sem] bs_size bs_toList bs_append bs_get bs_extract

/-- Giving up with a fault. -/
abbrev faulted (e a : Int) : Ending := .panicked [{ v := .iface 65 (.agg #[.int .i64 e, .int .i64 a]), recovered := false }]

/-- What is to stay has stayed, but for block b. -/
structure KeptX (F : Nat → Prop) (b : Nat) (w w' : World) : Prop where
  os : w'.os = w.os
  tape : w'.tape = w.tape
  output : w'.output = w.output
  size : w.heap.size ≤ w'.heap.size
  block : ∀ k, F k → k ≠ b → w'.heap[k]? = w.heap[k]?
theorem KeptX.refl (F : Nat → Prop) (b : Nat) (w : World) : KeptX F b w w := ⟨rfl, rfl, rfl, Nat.le_refl _, fun _ _ _ => rfl⟩
theorem KeptX.trans {F : Nat → Prop} {b : Nat} {a c d : World} (h : KeptX F b a c) (k : KeptX F b c d) : KeptX F b a d :=
  ⟨k.os.trans h.os, k.tape.trans h.tape, k.output.trans h.output, Nat.le_trans h.size k.size, fun i hi hn => (k.block i hi hn).trans (h.block i hi hn)⟩
theorem keptX_grow {F : Nat → Prop} {b : Nat} {w w' : World} (h : Grow w w') (hF : ∀ k, F k → k < w.heap.size) : KeptX F b w w' := ⟨h.os, h.tape, h.output, h.size, fun k hk _ => h.block k (hF k hk)⟩
theorem KeptX.setAt {F : Nat → Prop} {b : Nat} {w w' : World} (h : KeptX F b w w') (o : Nat) (v : Value) : KeptX F b w (w'.setCell ⟨b, o, none⟩ v) :=
  ⟨h.os, h.tape, h.output, by simpa [World.setCell] using h.size, fun k hk hn => (Below.heap_setCell _ _ _ _ hn).trans (h.block k hk hn)⟩
theorem keptX_two {F : Nat → Prop} {b : Nat} {w w' : World} (h : Kept2 b b w w') (hF : ∀ k, F k → k < w.heap.size) : KeptX F b w w' := ⟨h.os, h.tape, h.output, h.size, fun k hk hn => h.block k (hF k hk) hn hn⟩
theorem KeptX.drawN {F : Nat → Prop} {b n : Nat} {w w' : World} (h : KeptX F b w w') : KeptX F b w (w'.drewN n) := ⟨h.os, h.tape, h.output, h.size, h.block⟩
theorem KeptX.less {F F' : Nat → Prop} {b : Nat} {w w' : World} (h : KeptX F b w w') (hF : ∀ k, F' k → F k) : KeptX F' b w w' := ⟨h.os, h.tape, h.output, h.size, fun k hk hn => h.block k (hF k hk) hn⟩

theorem own_keep {w w' : World} {base e size n : Nat} {v : Value} {xs : List Value} (h : w.ownsRow base e size v n xs) (hb : ∀ g, v.ownBlock = some g → w'.heap[g]? = w.heap[g]?) : w'.ownsRow base e size v n xs := by
  refine ⟨h.1, ?_⟩
  rcases h.2 with ⟨h1, h2⟩ | ⟨g, cap, cur, rfl, h1, h2, h3⟩
  · exact .inl ⟨h1, h2⟩
  · exact .inr ⟨g, cap, cur, rfl, h1, (hb g rfl).trans h2, h3⟩
theorem own_grow {w w' : World} {base e size n : Nat} {v : Value} {xs : List Value} (h : w.ownsRow base e size v n xs) (hg : Grow w w') : w'.ownsRow base e size v n xs :=
  own_keep h fun g hgb => hg.block g (h.lt g hgb).2
theorem own_le {w : World} {B B' e size n : Nat} {v : Value} {xs : List Value} (h : w.ownsRow B e size v n xs) (hb : B' ≤ B) : w.ownsRow B' e size v n xs := by
  refine ⟨h.1, ?_⟩
  rcases h.2 with h1 | ⟨g, cap, cur, h0, h1, h2⟩
  · exact .inl h1
  · exact .inr ⟨g, cap, cur, h0, by omega, h2⟩
/-- Rows of different kinds lie apart. -/
theorem own_two {w : World} {B1 B2 e1 e2 s1 s2 n1 n2 : Nat} {v1 v2 : Value} {x1 x2 : List Value} (h1 : w.ownsRow B1 e1 s1 v1 n1 x1) (h2 : w.ownsRow B2 e2 s2 v2 n2 x2) (he : e1 ≠ e2) : v1.ownBlock = none ∨ v1.ownBlock ≠ v2.ownBlock := by
  rcases h2.2 with ⟨rfl, _⟩ | ⟨g, cap, cur, rfl, _, hg, _⟩
  · cases hv : v1.ownBlock with
    | none => exact .inl rfl
    | some k => exact .inr (by simp [Value.ownBlock])
  · exact .inr (own_apart h1 hg he)
/-- A cell of a row of the call's own is written. -/
theorem own_set {w : World} {B e size n g cap i : Nat} {xs : List Value} (h : w.ownsRow B e size (.slice (some ⟨g, 0, none⟩) n cap) n xs) (u : Value) (hi : i < xs.length) : (w.setCell ⟨g, i, none⟩ u).ownsRow B e size (.slice (some ⟨g, 0, none⟩) n cap) n (xs.set i u) := by
  refine ⟨by simpa using h.1, ?_⟩
  rcases h.2 with ⟨h1, h2⟩ | ⟨g', cap', cur, hv, h1, h2, h3, h4, h5, h6⟩
  · cases h1
  · simp at hv
    obtain ⟨rfl, rfl⟩ := hv
    refine .inr ⟨g, cap, cur.setIfInBounds i u, rfl, h1, set_blk h2 u, h3, h4, by simpa using h5, ?_⟩
    rw [← h6, Array.toList_setIfInBounds, List.take_set]
theorem own_free {w : World} {B e size n g cap i : Nat} {xs : List Value} (h : w.ownsRow B e size (.slice (some ⟨g, 0, none⟩) n cap) n xs) : w.frozen? ⟨g, i, none⟩ = false := by
  rcases h.2 with ⟨h1, h2⟩ | ⟨g', cap', cur, hv, h1, h2, h3⟩
  · cases h1
  · simp at hv
    obtain ⟨rfl, rfl⟩ := hv
    exact not_frozen h2
theorem own_cell {w : World} {B e size n g cap i : Nat} {xs : List Value} {u : Value} (h : w.ownsRow B e size (.slice (some ⟨g, 0, none⟩) n cap) n xs) (hi : xs[i]? = some u) : w.cell? ⟨g, i, none⟩ = some u := by
  have := World.ownsRow.cells h (g := g) rfl i u hi
  rw [Addr.add_lit] at this
  simpa using this

def intsV (ws : List Nat) : List Value := ws.map fun n : Nat => Value.int .i64 (n : Int)
/-- A step's cells, and the row of its ways. -/
structure Raw where
  st : St
  a : Nat
  b : Nat
  c : Nat
  d : Nat
  sl : Int
  wv : Value
def rawV (r : Raw) : Value := .agg #[.int .i64 (kindNo r.st), .int .u64 (r.a : Nat), .int .u64 (r.b : Nat), .int .u64 (r.c : Nat), .int .u64 (r.d : Nat), .int .i64 r.sl, r.wv]
def rawC (r : Raw) : List Value := [.int .i64 (kindNo r.st), .int .u64 (r.a : Nat), .int .u64 (r.b : Nat), .int .u64 (r.c : Nat), .int .u64 (r.d : Nat), .int .i64 r.sl, r.wv]
def rawCells : List Raw → List Value
  | [] => []
  | r :: l => rawC r ++ rawCells l
theorem rawCells_length : ∀ l, (rawCells l).length = l.length * 7
  | [] => rfl
  | r :: l => by simp [rawCells, rawC, rawCells_length l]; omega
theorem rawCells_append : ∀ l l', rawCells (l ++ l') = rawCells l ++ rawCells l'
  | [], l' => rfl
  | r :: l, l' => by simp [rawCells, rawCells_append l l']
theorem rawCells_at : ∀ (l : List Raw) (i : Nat) (r : Raw), l[i]? = some r → ∀ j, j < 7 → (rawCells l)[i * 7 + j]? = (rawC r)[j]?
  | [], i, r, h, j, hj => by simp at h
  | x :: l, 0, r, h, j, hj => by
    simp at h
    subst h
    rw [rawCells, List.getElem?_append_left (by simp [rawC]; omega)]
    simp
  | x :: l, i + 1, r, h, j, hj => by
    have e : (i + 1) * 7 + j = (rawC x).length + (i * 7 + j) := by simp [rawC]; omega
    rw [rawCells, e, List.getElem?_append_right (by omega), Nat.add_sub_cancel_left]
    exact rawCells_at l i r (by simpa using h) j hj
theorem rawCells_set : ∀ (l : List Raw) (i : Nat) (r r' : Raw), l[i]? = some r → r' = { r with st := r'.st, wv := r'.wv } → kindNo r'.st = kindNo r.st → (rawCells l).set (i * 7 + 6) r'.wv = rawCells (l.set i r')
  | [], i, r, r', h, h1, h2 => by simp at h
  | x :: l, 0, r, r', h, h1, h2 => by
    simp at h
    subst h
    rw [h1]
    simp [rawCells, rawC]
    rw [h1] at h2
    exact h2.symm
  | x :: l, i + 1, r, r', h, h1, h2 => by
    have e : (i + 1) * 7 + 6 = (rawC x).length + (i * 7 + 6) := by simp [rawC]; omega
    rw [rawCells, e, List.set_append_right _ _ (by omega), Nat.add_sub_cancel_left, rawCells_set l i r r' (by simpa using h) h1 h2]
    rfl

def waysOf : St → List Nat
  | .fork ws => ws
  | _ => []
/-- What a step's cells hold, and its ways' row is the call's own. -/
def rawOk (w : World) (B : Nat) (r : Raw) : Prop :=
  w.ownsRow B 3 1 r.wv (waysOf r.st).length (intsV (waysOf r.st)) ∧ (match r.st with | .take s => wordsIs [r.a, r.b, r.c, r.d] s | .mark n => r.sl = n | _ => True)

/-- A parser in a block: its mask, how far it has come, its steps, how many groups there are. What is to stay (F) is none of its rows. -/
def parserIs (w : World) (F : Nat → Prop) (pb : Nat) (m : List UInt8) (i : Nat) (sv : Value) (rs : List Raw) (g : Nat) : Prop :=
  (∀ k, F k → k < w.heap.size) ∧ w.heap[pb]? = some (.cells #[.string (bs m), .int .i64 i, sv, .int .i64 g] 143 (0, 0)) ∧ w.ownsRow 0 150 7 sv rs.length (rawCells rs) ∧
    (∀ (j : Nat) (r : Raw), rs[j]? = some r → rawOk w 0 r) ∧ (∀ (j k : Nat) (r r' : Raw), j ≠ k → rs[j]? = some r → rs[k]? = some r' → ∀ b, r.wv.ownBlock = some b → r'.wv.ownBlock ≠ some b) ∧
    (∀ b, sv.ownBlock = some b → ¬ F b) ∧ (∀ (j : Nat) (r : Raw) (b : Nat), rs[j]? = some r → r.wv.ownBlock = some b → ¬ F b)
def parserAt (w : World) (F : Nat → Prop) (pb : Nat) (m : List UInt8) (i : Nat) (S : List St) (g : Nat) : Prop :=
  ∃ sv rs, parserIs w F pb m i sv rs g ∧ rs.map (·.st) = S

theorem four_free {w : World} {b : Nat} {x y z u : Value} {t : TypeId} (h : w.heap[b]? = some (.cells #[x, y, z, u] t (0, 0))) : w.frozen? ⟨b, 0, none⟩ = false ∧ w.frozen? ⟨b, 1, none⟩ = false ∧ w.frozen? ⟨b, 2, none⟩ = false ∧ w.frozen? ⟨b, 3, none⟩ = false := by simp [World.frozen?, h]
theorem rawOk.keep {w w' : World} {B : Nat} {r : Raw} (h : rawOk w B r) (hb : ∀ g, r.wv.ownBlock = some g → w'.heap[g]? = w.heap[g]?) : rawOk w' B r := ⟨own_keep h.1 hb, h.2⟩
theorem rawOk.apart {w : World} {B b : Nat} {r : Raw} (h : rawOk w B r) {c : Array Value} {t : TypeId} {fr : Nat × Nat} (hb : w.heap[b]? = some (.cells c t fr)) (ht : (3 : Nat) ≠ t) : r.wv.ownBlock ≠ some b := own_apart h.1 hb ht
/-- Who writes into the parser's block alone. -/
theorem parserIs.put {w : World} {F : Nat → Prop} {pb o : Nat} {m : List UInt8} {i i' g g' : Nat} {sv u : Value} {rs : List Raw} (h : parserIs w F pb m i sv rs g) (hu : (#[.string (bs m), .int .i64 (i : Int), sv, .int .i64 (g : Int)] : Array Value).setIfInBounds o u = #[.string (bs m), .int .i64 (i' : Int), sv, .int .i64 (g' : Int)]) : parserIs (w.setCell ⟨pb, o, none⟩ u) F pb m i' sv rs g' := by
  obtain ⟨h1, h2, h3, h4, h5⟩ := h
  refine ⟨fun k hk => by have := h1 k hk; simpa [World.setCell] using this, by rw [set_blk h2, hu], ownsRow_setCell_other (a := ⟨pb, o, none⟩) h3 (own_apart h3 h2 (by decide)) _, fun j r hr => (h4 j r hr).keep fun k hk => ?_, h5⟩
  exact Below.heap_setCell _ _ _ _ (by rintro rfl; exact (h4 j r hr).apart h2 (by decide) hk)
theorem parserIs.draw {w : World} {F : Nat → Prop} {pb n : Nat} {m : List UInt8} {i g : Nat} {sv : Value} {rs : List Raw} (h : parserIs w F pb m i sv rs g) : parserIs (w.drewN n) F pb m i sv rs g := h
theorem parserIs.grow {w w' : World} {F : Nat → Prop} {pb : Nat} {m : List UInt8} {i g : Nat} {sv : Value} {rs : List Raw} (h : parserIs w F pb m i sv rs g) (k : Grow w w') : parserIs w' F pb m i sv rs g := by
  obtain ⟨h1, h2, h3, h4, h5⟩ := h
  exact ⟨fun b hb => Nat.lt_of_lt_of_le (h1 b hb) k.size, k.get h2, own_grow h3 k, fun j r hr => (h4 j r hr).keep fun b hb => k.block b ((h4 j r hr).1.lt b hb).2, h5⟩
theorem parserAt.grow {w w' : World} {F : Nat → Prop} {pb : Nat} {m : List UInt8} {i g : Nat} {S : List St} (h : parserAt w F pb m i S g) (k : Grow w w') : parserAt w' F pb m i S g := by
  obtain ⟨sv, rs, h, e⟩ := h
  exact ⟨sv, rs, h.grow k, e⟩
/-- Less is to stay. -/
theorem parserAt.less {w : World} {F F' : Nat → Prop} {pb : Nat} {m : List UInt8} {i g : Nat} {S : List St} (h : parserAt w F pb m i S g) (hF : ∀ k, F' k → F k) : parserAt w F' pb m i S g := by
  obtain ⟨sv, rs, ⟨h1, h2, h3, h4, h5, h6, h7⟩, e⟩ := h
  exact ⟨sv, rs, ⟨fun k hk => h1 k (hF k hk), h2, h3, h4, h5, fun b hb hf => h6 b hb (hF b hf), fun j r b hr hb hf => h7 j r b hr hb (hF b hf)⟩, e⟩
theorem parserAt.room {w : World} {F : Nat → Prop} {pb : Nat} {m : List UInt8} {i g : Nat} {S : List St} (h : parserAt w F pb m i S g) : ∀ k, F k → k < w.heap.size := by
  obtain ⟨sv, rs, h, e⟩ := h
  exact h.1

/-- Where a parser is. -/
def placeOf (w : World) (pb : Nat) : Nat := match w.heap[pb]? with | some (.cells c _ _) => (intOf (c.getD 1 undef)).toNat | _ => 0
theorem parserAt.place {w : World} {F : Nat → Prop} {pb : Nat} {m : List UInt8} {i g : Nat} {S : List St} (h : parserAt w F pb m i S g) : placeOf w pb = i := by
  obtain ⟨sv, rs, ⟨_, h2, _⟩, _⟩ := h
  simp [placeOf, h2, intOf]

set_option maxRecDepth 20000 in
theorem giveUp_any (w : World) (F : Nat → Prop) (pb : Nat) (m : List UInt8) (i g : Nat) (S : List St) (er : Int) (hp : parserAt w F pb m i S g) :
    Calls Tryz.prog 120 #[.pointer (some ⟨pb, 0, none⟩), .int .i64 er] w fun e w' => e = faulted er i ∧ w' = w := by
  obtain ⟨sv, rs, ⟨h1, h2, h3⟩, _⟩ := hp
  obtain ⟨c0, c1, c2, c3⟩ := four_cells h2
  clear h2 h3
  go_enter Tryz.func120, Tryz.ntmps120
  go_wp2
  exact ⟨rfl, rfl, rfl⟩

/-- Is the byte that comes one of these? -/
def comesB (these m : List UInt8) (i : Nat) : Bool := match m[i]? with | some c => these.contains c | none => false
theorem indexByte_has (l : List UInt8) (c : UInt8) : (0 ≤ Lib.indexByte l c) ↔ l.contains c = true := by
  induction l with
  | nil => simp [Lib.indexByte]
  | cons b l ih =>
    unfold Lib.indexByte
    have hge := Lib.indexByte_ge l c
    by_cases hb : b = c
    · subst hb; simp
    · have hb' : (b == c) = false := by simpa using hb
      have hb2 : (c == b) = false := by simpa using fun h => hb h.symm
      rw [hb', List.contains_cons, hb2]
      simp only [Bool.false_eq_true, if_false, Bool.false_or, ← ih]
      split
      · rename_i e
        have e : Lib.indexByte l c = -1 := by simpa using e
        omega
      · rename_i e
        have e : ¬ Lib.indexByte l c = -1 := by simpa using e
        omega

set_option maxRecDepth 20000 in
set_option maxHeartbeats 1000000 in
theorem comes_any (w : World) (F : Nat → Prop) (pb : Nat) (m these : List UInt8) (i g : Nat) (S : List St) (hp : parserAt w F pb m i S g) (hm : m.length ≤ 1000000) (hi : i ≤ m.length) :
    Calls Tryz.prog 154 #[.pointer (some ⟨pb, 0, none⟩), .string (bs these)] w fun e w' => e = .returned (.bool (comesB these m i)) ∧ ∃ n, w' = w.drewN n := by
  obtain ⟨sv, rs, ⟨h1, h2, h3⟩, _⟩ := hp
  obtain ⟨c0, c1, c2, c3⟩ := four_cells h2
  clear h2 h3
  go_enter Tryz.func154, Tryz.ntmps154
  by_cases hlt : i < m.length
  · obtain ⟨c, hc⟩ : ∃ c, m[i] = c := ⟨_, rfl⟩
    have hget : m[i]? = some c := by rw [List.getElem?_eq_getElem hlt, hc]
    have hd : decide ((i : Int) < m.length) = true := by simpa using hlt
    have hcl := c.toNat_lt
    have HS : Hid (∀ w, Calls Tryz.prog 114 #[.string (bs these), .int .u8 (c.toNat : Int)] w fun e w' => e = .returned (.int .i64 (Lib.indexByte these c)) ∧ w' = w) := by
      intro w
      refine (Tryz.strings_IndexByte (bs these) (c.toNat : Int) w).mono ?_
      rintro e w' ⟨rfl, rfl⟩
      refine ⟨?_, rfl⟩
      rw [bs_data]
      simp
    have HB : Hid (comesB these m i = decide (0 ≤ Lib.indexByte these c)) := by
      show _ = _
      unfold comesB
      rw [hget]
      simp only
      rw [Bool.eq_iff_iff, decide_eq_true_eq]
      exact (indexByte_has these c).symm
    have hX := Lib.indexByte_ge these c
    generalize Lib.indexByte these c = X at HS HB hX
    clear hget
    by_cases hx : 0 ≤ X
    · go_wp2
      go_quiet ((go_at_call 114; exact Calls.quiet_of_same (HS.out _)))
      go_wp2
      go_ret
      exact ⟨ret_bool (by (rw [HB.out]) <;> simpa using hx), _, rfl⟩
    · go_wp2
      go_quiet ((go_at_call 114; exact Calls.quiet_of_same (HS.out _)))
      go_wp2
      go_ret
      exact ⟨ret_bool (by (rw [HB.out]) <;> simpa using hx), _, rfl⟩
  · have hd : decide ((i : Int) < m.length) = false := by simpa using hlt
    have HB : Hid (comesB these m i = false) := by
      show _ = _
      unfold comesB
      rw [List.getElem?_eq_none_iff.2 (by omega)]
    go_wp2
    go_quiet (fail)
    go_wp2
    go_ret
    exact ⟨ret_bool HB.out.symm, _, rfl⟩

/-- One on, if so. -/
def onIf : Bool → Nat → Nat
  | true, i => i + 1
  | false, i => i
theorem comesB_lt {these m : List UInt8} {i : Nat} (h : comesB these m i = true) : i < m.length := by
  unfold comesB at h
  split at h
  · rename_i e; exact get_lt e
  · cases h

set_option maxRecDepth 20000 in
set_option maxHeartbeats 1000000 in
theorem skip_any (w : World) (F : Nat → Prop) (pb : Nat) (m these : List UInt8) (i g : Nat) (S : List St) (hp : parserAt w F pb m i S g) (hm : m.length ≤ 1000000) (hi : i ≤ m.length) :
    Calls Tryz.prog 139 #[.pointer (some ⟨pb, 0, none⟩), .string (bs these)] w fun e w' => e = .returned (.bool (comesB these m i)) ∧ Kept2 pb pb w w' ∧ parserAt w' F pb m (onIf (comesB these m i) i) S g := by
  go_enter Tryz.func139, Tryz.ntmps139
  go_wp2_with fail
  refine (comes_any w F pb m these i g S hp hm hi).mono ?_
  rintro e w1 ⟨rfl, n, rfl⟩
  obtain ⟨sv, rs, h, hS⟩ := hp
  obtain ⟨c0, c1, c2, c3⟩ := four_cells (show (w.drewN n).heap[pb]? = _ from h.2.1)
  obtain ⟨z0, z1, z2, z3⟩ := four_free (show (w.drewN n).heap[pb]? = _ from h.2.1)
  have H := hide h
  clear h
  cases hb : comesB these m i with
  | true =>
    have HB := hide hb
    have hlt := comesB_lt hb
    clear hb
    go_wp2
    go_ret
    refine ⟨by rw [HB.out]; rfl, (Kept2.drewN (.refl _ _ _)).trans (.setT _ _), sv, rs, ?_, hS⟩
    rw [HB.out]
    exact H.out.draw.put (i' := i + 1) (g' := g) (by simp)
  | false =>
    have HB := hide hb
    clear hb
    go_wp2
    go_ret
    exact ⟨by rw [HB.out]; rfl, (Kept2.drewN (.refl _ _ _)), sv, rs, by rw [HB.out]; exact H.out.draw, hS⟩

end Go.Proofs.YtndpjdmfkhjiiaaGreatDoor

/- The parser of masks: a step is added, a fork gets a way. -/
set_option linter.unusedVariables false
set_option linter.unusedSimpArgs false
namespace Go.Proofs.YtndpjdmfkhjiiaaGreatDoor
open Go.RowKit
attribute [local go_sem] bs_size bs_toList bs_append bs_get bs_extract

theorem run_append_new {P : Program} (w : World) (base : Nat) (t ty e : TypeId) (i : TypeInfo) (z : Value) (size bytes : Nat) (ht : P.underlying t = some (.slice e)) (hi : P.info? e = some i) (hz : i.zero = some z)
    (hsize : i.size = size) (hby : i.bytes = bytes) (hzs : z.cells.size = size) (hsz : 0 < size)
    (v : Value) (n : Nat) (xs : List Value) (hown : w.ownsRow base e size v n xs)
    (a : Addr) (m c : Nat) (news : List Value) (hl : news.length = m * size) (hnews : ∀ j u, news[j]? = some u → w.cell? (a.add j) = some u) (h1 : ∀ u ∈ news, u.oneCell' = true)
    (h63 : n + m ≤ maxLen) (hbytes : (n + m) * bytes ≤ 140737488355328) (hbase : base ≤ w.heap.size) :
    ∃ v' w', (Builtin.append_ #[t, t] ty #[v, .slice (some a) m c]).run P w = .ok v' w' ∧ w'.ownsRow base e size v' (n + m) (xs ++ news) ∧ w.grownBy w' v.ownBlock ∧
      (v'.ownBlock = v.ownBlock ∨ ∃ g, v'.ownBlock = some g ∧ w.heap.size ≤ g) := by
  obtain ⟨v', w', hr, h2, h3, h4⟩ := run_append_own (P := P) w base t ty e i z size bytes ht hi hz hsize hby hzs hsz v n xs hown a m c news hl hnews h1 h63 hbytes hbase
  refine ⟨v', w', hr, h2, h3, ?_⟩
  have hsmall : n + m ≤ 9223372036854775807 := by simp only [maxLen] at h63; omega
  rcases hown.2 with ⟨rfl, rfl⟩ | ⟨g, cap, cur, rfl, hbg, hg, hnc, hcm, hcs, htake⟩
  · obtain ⟨v2, w2, hr2, k2, k3, k4⟩ := run_append_own (P := P) w w.heap.size t ty e i z size bytes ht hi hz hsize hby hzs hsz (.slice none 0 0) 0 xs ⟨hown.1, .inl ⟨rfl, rfl⟩⟩ a m c news hl hnews h1 h63 hbytes (Nat.le_refl _)
    rw [hr] at hr2
    cases hr2
    rcases k2.2 with ⟨rfl, _⟩ | ⟨g, cap, cur, rfl, hbg, _⟩
    · exact .inl rfl
    · exact .inr ⟨g, rfl, hbg⟩
  · subst hsize
    subst hby
    by_cases hroom : n + m ≤ cap
    · have hfit : n * i.size + news.length ≤ cur.size := by rw [hl, hcs, ← Nat.add_mul]; exact Nat.mul_le_mul_right _ hroom
      have hr2 := run_append_room (P := P) w t ty e i ht hi g n cap cur hg a m c news hl hnews h1 hroom hfit
      rw [hr] at hr2
      cases hr2
      exact .inl rfl
    · have holds : ∀ j u, xs[j]? = some u → w.cell? ((⟨g, 0, none⟩ : Addr).add j) = some u := hown.cells (g := g) rfl
      have hr2 := run_append_grow (P := P) w t ty e i z ht hi hz ⟨g, 0, none⟩ n cap xs hown.1 holds a m c news hl hnews (by omega) (by omega) (growslice_fits (by omega) hbytes)
      rw [hr] at hr2
      cases hr2
      exact .inr ⟨_, rfl, Nat.le_refl _⟩

theorem Grow.grown {w w' : World} {row : Option Nat} (h : Grow w w') : w.grownBy w' row := ⟨h.os, h.tape, h.output, h.size, fun k hk _ => h.block k hk⟩
theorem grown_trans {a b c : World} {row : Option Nat} (h : a.grownBy b row) (k : b.grownBy c row) : a.grownBy c row :=
  ⟨k.os.trans h.os, k.tape.trans h.tape, k.output.trans h.output, Nat.le_trans h.size k.size, fun i hi hn => (k.block i (Nat.lt_of_lt_of_le hi h.size) hn).trans (h.block i hi hn)⟩
theorem intsV_append (a b : List Nat) : intsV (a ++ b) = intsV a ++ intsV b := by simp [intsV]
theorem intsV_oneCell (l : List Nat) : ∀ u ∈ intsV l, u.oneCell' = true := by
  intro u hu
  obtain ⟨_, _, rfl⟩ := List.mem_map.1 hu
  rfl
theorem Tryz.infoI : (Tryz.prog.info? 3).map (fun i => (i.zero, i.size, i.bytes)) = some (some (.int .i64 0), 1, 8) := by kernel_rfl
theorem Tryz.infoSt : (Tryz.prog.info? 150).any (fun i => i.size == 7 && i.bytes == 72 && (match i.zero with | some z => z.cells.size == 7 | none => false)) = true := by kernel_rfl
theorem info_some {x : Option TypeInfo} {n b : Nat} (h : x.any (fun i => i.size == n && i.bytes == b && (match i.zero with | some z => z.cells.size == n | none => false)) = true) : ∃ i z, x = some i ∧ i.zero = some z ∧ i.size = n ∧ i.bytes = b ∧ z.cells.size = n := by
  cases x with
  | none => simp at h
  | some i =>
    simp only [Option.any_some, Bool.and_eq_true, beq_iff_eq] at h
    obtain ⟨⟨h1, h2⟩, h3⟩ := h
    cases hz : i.zero with
    | none => rw [hz] at h3; cases h3
    | some z => rw [hz] at h3; exact ⟨i, z, rfl, hz, h1, h2, by simpa using h3⟩

/-- What holds while a row grows by an append: ahead of it and behind it. -/
def appJ (w : World) (B e size : Nat) (v : Value) (n k : Nat) (xs news : List Value) (done : Bool) (x : Value) (w' : World) : Prop :=
  w.grownBy w' v.ownBlock ∧ (done = false → w'.ownsRow B e size v n xs) ∧ (done = true → w'.ownsRow B e size x (n + k) (xs ++ news) ∧ (x.ownBlock = v.ownBlock ∨ ∃ g, x.ownBlock = some g ∧ w.heap.size ≤ g))
theorem appJ.grow {w B e size v n k xs news d x w' w''} (h : appJ w B e size v n k xs news d x w') (g : Grow w' w'') : appJ w B e size v n k xs news d x w'' :=
  ⟨grown_trans h.1 g.grown, fun e => own_grow (h.2.1 e) g, fun e => ⟨own_grow (h.2.2 e).1 g, (h.2.2 e).2⟩⟩

/-- What a literal laid, as long as it lies. -/
def newJ (w : World) (e : Nat) (cs : Array Value) (done : Bool) (x : Value) (w' : World) : Prop :=
  done = true → ∃ b, x = .slice (some ⟨b, 0, none⟩) 1 1 ∧ w.heap.size ≤ b ∧ w'.heap[b]? = some (.cells cs e (0, 0))
theorem newJ.grow {w e cs d x w' w''} (h : newJ w e cs d x w') (g : Grow w' w'') : newJ w e cs d x w'' := fun hd => by
  obtain ⟨b, h1, h2, h3⟩ := h hd
  exact ⟨b, h1, h2, g.get h3⟩
theorem newJ.grown {w e cs d x w' w''} {row : Option Nat} (h : newJ w e cs d x w') (g : w'.grownBy w'' row) (hr : ∀ k, row = some k → k < w.heap.size) : newJ w e cs d x w'' := fun hd => by
  obtain ⟨b, h1, h2, h3⟩ := h hd
  exact ⟨b, h1, h2, grown_block g h3 (fun e => by have := hr b e; omega)⟩

set_option maxRecDepth 20000 in
set_option maxHeartbeats 4000000 in
theorem way_any (w : World) (F : Nat → Prop) (pb : Nat) (m : List UInt8) (i g fork to : Nat) (S : List St) (ws : List Nat) (hp : parserAt w F pb m i S g) (hf : S[fork]? = some (.fork ws)) (hws : ws.length ≤ 1000000) (hS : S.length ≤ 1000000) :
    Calls Tryz.prog 140 #[.pointer (some ⟨pb, 0, none⟩), .int .i64 fork, .int .i64 to] w fun e w' => e = .returned (.tuple #[]) ∧ KeptX F pb w w' ∧ parserAt w' F pb m i (S.set fork (.fork (ws ++ [to]))) g := by
  obtain ⟨sv, rs, ⟨hB, hb, hrow, hall, hap, hfs, hfw⟩, rfl⟩ := hp
  rw [List.length_map] at hS
  rw [List.getElem?_map] at hf
  obtain ⟨r, hr, hst⟩ : ∃ r, rs[fork]? = some r ∧ r.st = .fork ws := by
    cases hc : rs[fork]? with
    | none => rw [hc] at hf; cases hf
    | some r => rw [hc] at hf; exact ⟨r, rfl, by simpa using hf⟩
  have hfl : fork < rs.length := (List.getElem?_eq_some_iff.1 hr).1
  have hok := hall fork r hr
  have hown := hok.1
  rw [hst] at hown
  simp only [waysOf] at hown
  -- the row of steps is no empty one
  obtain ⟨sb, cp, rfl⟩ : ∃ sb cp, sv = .slice (some ⟨sb, 0, none⟩) rs.length cp := by
    rcases hrow.2 with ⟨_, h0⟩ | ⟨sb, cp, cur, h, _⟩
    · omega
    · exact ⟨sb, cp, h⟩
  have hcell : ∀ w' : World, w'.ownsRow 0 150 7 (.slice (some ⟨sb, 0, none⟩) rs.length cp) rs.length (rawCells rs) → w'.cell? ⟨sb, fork * 7 + 6, none⟩ = some r.wv := fun w' h => own_cell h (by rw [rawCells_at rs fork r hr 6 (by omega)]; rfl)
  have hno : r.wv.ownBlock ≠ some pb := hok.apart hb (by decide)
  have hno2 : r.wv.ownBlock ≠ some sb := by
    rcases hrow.2 with ⟨h, h0⟩ | ⟨sb', cp', cur, h, _, h2, _⟩
    · cases h
    · simp at h
      obtain ⟨rfl, rfl⟩ := h
      exact hok.apart h2 (by decide)
  obtain ⟨ao, wc, hwv⟩ := own_shape hown
  have hkeep : ∀ (w' : World) k, w.grownBy w' r.wv.ownBlock → r.wv.ownBlock ≠ some k → ∀ o, w.heap[k]? = some o → w'.heap[k]? = some o := fun w' k h hk o ho => grown_block h ho hk
  have hrow' : ∀ w' : World, w.grownBy w' r.wv.ownBlock → w'.ownsRow 0 150 7 (.slice (some ⟨sb, 0, none⟩) rs.length cp) rs.length (rawCells rs) := fun w' h =>
    World.ownsRow.kept hrow h (.inr (by rintro e; exact hno2 (e ▸ rfl)))
  obtain ⟨i0, hinf, hz0, hz1, hz2⟩ := info_parts Tryz.infoI
  have HR := hide hrow
  have HB := hide hb
  have HO := hide hown
  have HALL := hide hall
  have HAP := hide hap
  have HFS := hide hfs
  have HFW := hide hfw
  have HST := hide hst
  have HRR := hide hr
  have HW := hide hwv
  have hfl2 : (fork : Int) < rs.length := by omega
  clear hrow hb hown hall hap hfs hfw hst hr hok hf hwv
  go_enter Tryz.func140, Tryz.ntmps140
  go_wp2
  refine wp_region_state 20 26 Tryz.mixed2 rfl (by decide +kernel) (fun L vals w' => appJ w 0 3 1 r.wv ws.length 1 (intsV ws) (intsV [to]) (L 17) (vals 17) w' ∧ newJ w 3 #[.int .i64 to] (L 16) (vals 16) w')
    (fun L vals h => ?_)
    (fun j v => match j with
      | 0 => v = .pointer (some ⟨pb, 0, none⟩)
      | 1 => v = .pointer (some ⟨pb, 0, none⟩)
      | 2 => v = .pointer (some ⟨pb, 2, none⟩)
      | 3 => v = .pointer (some ⟨pb, 2, none⟩)
      | 4 => v = .slice (some ⟨sb, 0, none⟩) rs.length cp
      | 5 => v = .int .i64 fork
      | 6 => v = .pointer (some ⟨pb, 0, none⟩)
      | 7 => v = .pointer (some ⟨pb, 0, none⟩)
      | 8 => v = .pointer (some ⟨pb, 2, none⟩)
      | 9 => v = .pointer (some ⟨pb, 2, none⟩)
      | 10 => v = .slice (some ⟨sb, 0, none⟩) rs.length cp
      | 11 => v = .int .i64 fork
      | 12 => v = .pointer (some ⟨sb, fork * 7, none⟩)
      | 13 => v = .pointer (some ⟨sb, fork * 7 + 6, none⟩)
      | 14 => v = r.wv
      | 15 => v = .int .i64 to
      | 16 => True
      | 17 => ∃ ao' cp', v = .slice ao' (ws.length + 1) cp'
      | 18 => v = .pointer (some ⟨sb, fork * 7, none⟩)
      | _ => v = .pointer (some ⟨sb, fork * 7 + 6, none⟩))
    (fun _ _ => False) (fun _ _ _ _ h => h.elim) (fun j hi o ho a w2 L vals hLi hLc hLe hJ hoff hval hdep => ?_) (fun vals w2 L hL hJ hvals => ?_)
  · simp only [h]
    exact ⟨⟨⟨rfl, rfl, rfl, Nat.le_refl _, fun _ _ _ => rfl⟩, fun _ => HO.out, fun h => by cases h⟩, fun h => by cases h⟩
  · have hblk := hkeep w2 pb hJ.1.1 hno _ HB.out
    obtain ⟨c0, c1, c2, c3⟩ := four_cells hblk
    have hcw := hcell w2 (hrow' w2 hJ.1.1)
    match j, hi with
    | 0, _ =>
      obtain rfl := Option.some.inj ho
      have o0 := hoff 0 (by decide +kernel)
      simp at o0
      simp [opYields, go_sem, o0]
      exact hJ
    | 1, _ =>
      obtain rfl := Option.some.inj ho
      have d0 := hdep 0 (by decide +kernel)
      simp [slotOf, dstOf] at d0
      simp [opYields, go_sem, d0]
      exact hJ
    | 2, _ =>
      obtain rfl := Option.some.inj ho
      have d1 := hdep 1 (by decide +kernel)
      simp [slotOf, dstOf] at d1
      simp [opYields, go_sem, d1]
      exact hJ
    | 3, _ =>
      obtain rfl := Option.some.inj ho
      have d2 := hdep 2 (by decide +kernel)
      simp [slotOf, dstOf] at d2
      simp [opYields, go_sem, d2]
      exact hJ
    | 4, _ =>
      obtain rfl := Option.some.inj ho
      have d3 := hdep 3 (by decide +kernel)
      simp [slotOf, dstOf] at d3
      simp [opYields, go_sem, d3, c2]
      exact hJ
    | 5, _ =>
      obtain rfl := Option.some.inj ho
      have o1 := hoff 1 (by decide +kernel)
      simp at o1
      simp [opYields, go_sem, o1]
      exact hJ
    | 6, _ =>
      obtain rfl := Option.some.inj ho
      have o0 := hoff 0 (by decide +kernel)
      simp at o0
      simp [opYields, go_sem, o0]
      exact hJ
    | 7, _ =>
      obtain rfl := Option.some.inj ho
      have d6 := hdep 6 (by decide +kernel)
      simp [slotOf, dstOf] at d6
      simp [opYields, go_sem, d6]
      exact hJ
    | 8, _ =>
      obtain rfl := Option.some.inj ho
      have d7 := hdep 7 (by decide +kernel)
      simp [slotOf, dstOf] at d7
      simp [opYields, go_sem, d7]
      exact hJ
    | 9, _ =>
      obtain rfl := Option.some.inj ho
      have d8 := hdep 8 (by decide +kernel)
      simp [slotOf, dstOf] at d8
      simp [opYields, go_sem, d8]
      exact hJ
    | 10, _ =>
      obtain rfl := Option.some.inj ho
      have d9 := hdep 9 (by decide +kernel)
      simp [slotOf, dstOf] at d9
      simp [opYields, go_sem, d9, c2]
      exact hJ
    | 11, _ =>
      obtain rfl := Option.some.inj ho
      have o1 := hoff 1 (by decide +kernel)
      simp at o1
      simp [opYields, go_sem, o1]
      exact hJ
    | 12, _ =>
      obtain rfl := Option.some.inj ho
      have d10 := hdep 10 (by decide +kernel)
      simp [slotOf, dstOf] at d10
      have d11 := hdep 11 (by decide +kernel)
      simp [slotOf, dstOf] at d11
      simp [opYields, go_sem, d10, d11, hfl]
      exact hJ
    | 13, _ =>
      obtain rfl := Option.some.inj ho
      have d12 := hdep 12 (by decide +kernel)
      simp [slotOf, dstOf] at d12
      simp [opYields, go_sem, d12]
      exact hJ
    | 14, _ =>
      obtain rfl := Option.some.inj ho
      have d13 := hdep 13 (by decide +kernel)
      simp [slotOf, dstOf] at d13
      simp [opYields, go_sem, d13, hcw]
      exact hJ
    | 15, _ =>
      obtain rfl := Option.some.inj ho
      have o2 := hoff 2 (by decide +kernel)
      simp at o2
      simp [opYields, go_sem, o2]
      exact hJ
    | 16, _ =>
      obtain rfl := Option.some.inj ho
      have d15 := hdep 15 (by decide +kernel)
      simp [slotOf, dstOf] at d15
      simp [opYields, go_sem, d15]
      exact ⟨hJ.1.grow ((Grow.refl _).alloc _), fun _ => ⟨_, rfl, hJ.1.1.size, heap_alloc_new _ _⟩⟩
    | 17, _ =>
      obtain rfl := Option.some.inj ho
      have h16 := hLe 16 (by decide +kernel)
      have d14 := hdep 14 (by decide +kernel)
      have v16 := hval 16 (by decide +kernel)
      simp [slotOf, dstOf] at d14 v16
      have hown2 := hJ.1.2.1 hLi
      obtain ⟨nb, hx, hnb, hcell2⟩ := hJ.2 h16
      rw [hx] at v16
      obtain ⟨v', w3, hrun, hown3, hgrow, hnew⟩ := run_append_new (P := Tryz.prog) w2 0 46 46 3 i0 _ 1 8 Tryz.underlying46 hinf hz0 hz1 hz2 rfl (by omega) r.wv ws.length (intsV ws) hown2 ⟨nb, 0, none⟩ 1 1 (intsV [to]) rfl (fun q u hu => by
        match q, hu with
        | 0, hu =>
          simp [intsV] at hu
          subst hu
          rw [Addr.add_lit]
          exact cell_in hcell2 (by simp)) (intsV_oneCell _) (by unfold maxLen; omega) (by omega) (Nat.zero_le _)
      refine yields_append rfl (.tmp 20) (.tmp 22) _ _ rfl (v1 := r.wv) (v2 := .slice (some ⟨nb, 0, none⟩) 1 1) (by simpa [Act.eval] using d14) (by simpa [Act.eval] using v16) hrun ?_
      obtain ⟨ao', cp', rfl⟩ := own_shape hown3
      refine ⟨⟨⟨grown_trans hJ.1.1 hgrow, fun h => by simp at h, fun _ => ⟨hown3, ?_⟩⟩, ?_⟩, ao', cp', rfl⟩
      · rcases hnew with h | ⟨g', h, h2⟩
        · exact .inl h
        · exact .inr ⟨g', h, Nat.le_trans hJ.1.1.size h2⟩
      · exact hJ.2.grown hgrow (fun k hk => (HO.out.lt k hk).2)
    | 18, _ =>
      obtain rfl := Option.some.inj ho
      have d4 := hdep 4 (by decide +kernel)
      simp [slotOf, dstOf] at d4
      have d5 := hdep 5 (by decide +kernel)
      simp [slotOf, dstOf] at d5
      simp [opYields, go_sem, d4, d5, hfl]
      exact hJ
    | 19, _ =>
      obtain rfl := Option.some.inj ho
      have d18 := hdep 18 (by decide +kernel)
      simp [slotOf, dstOf] at d18
      simp [opYields, go_sem, d18]
      exact hJ
    | k + 20, h => exact absurd h (by omega)
  · have hblk := hkeep w2 pb hJ.1.1 hno _ HB.out
    have hrow2 := hrow' w2 hJ.1.1
    have h17 := hL 17 (by omega)
    obtain ⟨hown3, hnew⟩ := hJ.1.2.2 h17
    obtain ⟨ao', cp', v17⟩ := hvals 17 (by omega)
    have v19 := hvals 19 (by omega)
    simp only at v19
    rw [v17] at hown3 hnew
    have hcw := hcell w2 hrow2
    have hfz : w2.frozen? ⟨sb, fork * 7 + 6, none⟩ = false := own_free hrow2
    have H3 := hide hown3
    have HN := hide hnew
    have HG := hide hJ.1.1
    clear hvals hown3 hnew hJ
    simp [over, dstOf, Act.put, v17, v19]
    go_wp2
    go_end0
    have hpsb : pb ≠ sb := by
      rintro rfl
      exact own_apart hrow2 hblk (by decide) rfl
    have hsbF : ¬ F sb := HFS.out sb rfl
    obtain ⟨r', hr'⟩ : ∃ r' : Raw, r' = { r with st := .fork (ws ++ [to]), wv := .slice ao' (ws.length + 1) cp' } := ⟨_, rfl⟩
    have hset : ∀ k, k ≠ sb → (w2.setCell ⟨sb, fork * 7 + 6, none⟩ (.slice ao' (ws.length + 1) cp')).heap[k]? = w2.heap[k]? := fun k hk => Below.heap_setCell _ _ _ _ hk
    refine ⟨rfl, ⟨HG.out.os, HG.out.tape, HG.out.output, by simpa [World.setCell] using HG.out.size, fun k hk hn => ?_⟩, .slice (some ⟨sb, 0, none⟩) rs.length cp, rs.set fork r', ⟨?_, ?_, ?_, ?_, ?_, HFS.out, ?_⟩, ?_⟩
    · rw [hset k (by rintro rfl; exact hsbF hk)]
      exact HG.out.block k (hB k hk) (fun e => HFW.out fork r k HRR.out e.symm hk)
    · intro k hk
      have := hB k hk
      have := HG.out.size
      simp [World.setCell]; omega
    · rw [hset pb hpsb]; exact hblk
    · have h := own_set hrow2 (.slice ao' (ws.length + 1) cp') (i := fork * 7 + 6) (by rw [rawCells_length]; omega)
      have e := rawCells_set rs fork r r' HRR.out (by rw [hr']) (by rw [hr', HST.out]; rfl)
      rw [hr'] at e ⊢
      simp only at e
      rw [e] at h
      simpa using h
    · intro k x hx
      by_cases hk : fork = k
      · subst hk
        rw [List.getElem?_set_self hfl] at hx
        obtain rfl := Option.some.inj hx
        rw [hr']
        refine ⟨?_, trivial⟩
        have h : w2.ownsRow 0 3 1 (.slice ao' (ws.length + 1) cp') (ws ++ [to]).length (intsV (ws ++ [to])) := by rw [List.length_append, intsV_append]; exact H3.out
        exact ownsRow_setCell_other (a := ⟨sb, fork * 7 + 6, none⟩) h (by rintro e; rcases HN.out with h2 | ⟨q, h2, h3⟩; exact hno2 (h2 ▸ e); rw [e] at h2; have := (HR.out.lt sb rfl).2; simp at h2; omega) _
      · rw [List.getElem?_set_ne hk] at hx
        have hokx := HALL.out k x hx
        refine hokx.keep fun b hb => ?_
        have hb1 : b ≠ sb := by
          rintro rfl
          rcases HR.out.2 with ⟨h, _⟩ | ⟨sb', cp2, cur, h, _, h2, _⟩
          · cases h
          · simp at h
            obtain ⟨rfl, rfl⟩ := h
            exact hokx.apart h2 (by decide) hb
        rw [hset b hb1]
        exact HG.out.block b (hokx.1.lt b hb).2 (fun e => HAP.out fork k r x hk HRR.out hx b e.symm hb)
    · intro j k x y hjk hx hy b hb hb2
      by_cases h1 : fork = j
      · subst h1
        rw [List.getElem?_set_self hfl] at hx
        obtain rfl := Option.some.inj hx
        rw [List.getElem?_set_ne hjk] at hy
        have hlt := ((HALL.out k y hy).1.lt b hb2).2
        rw [hr'] at hb
        rcases HN.out with h2 | ⟨q, h2, h3⟩
        · exact HAP.out fork k r y hjk HRR.out hy b (by rw [← h2]; exact hb) hb2
        · rw [h2] at hb; cases hb; omega
      · rw [List.getElem?_set_ne h1] at hx
        by_cases h4 : fork = k
        · subst h4
          rw [List.getElem?_set_self hfl] at hy
          obtain rfl := Option.some.inj hy
          have hlt := ((HALL.out j x hx).1.lt b hb).2
          rw [hr'] at hb2
          rcases HN.out with h2 | ⟨q, h2, h3⟩
          · exact HAP.out fork j r x h1 HRR.out hx b (by rw [← h2]; exact hb2) hb
          · rw [h2] at hb2; cases hb2; omega
        · rw [List.getElem?_set_ne h4] at hy
          exact HAP.out j k x y hjk hx hy b hb hb2
    · intro j x b hx hb hf
      by_cases h1 : fork = j
      · subst h1
        rw [List.getElem?_set_self hfl] at hx
        obtain rfl := Option.some.inj hx
        rw [hr'] at hb
        rcases HN.out with h2 | ⟨q, h2, h3⟩
        · exact HFW.out fork r b HRR.out (by rw [← h2]; exact hb) hf
        · rw [h2] at hb; cases hb; have := hB b hf; omega
      · rw [List.getElem?_set_ne h1] at hx
        exact HFW.out j x b hx hb hf
    · rw [List.map_set, hr']

end Go.Proofs.YtndpjdmfkhjiiaaGreatDoor

/- The parser of masks: a step is added. -/
set_option linter.unusedVariables false
set_option linter.unusedSimpArgs false
namespace Go.Proofs.YtndpjdmfkhjiiaaGreatDoor
open Go.RowKit
attribute [local go_sem] bs_size bs_toList bs_append bs_get bs_extract

theorem rawC_oneCell {r : Raw} (h : r.wv = .slice none 0 0) : ∀ u ∈ rawC r, u.oneCell' = true := by
  intro u hu
  simp only [rawC, h, List.mem_cons, List.mem_nil_iff, or_false] at hu
  rcases hu with rfl | rfl | rfl | rfl | rfl | rfl | rfl <;> rfl

theorem seven_cells {w : World} {b : Nat} {x0 x1 x2 x3 x4 x5 x6 : Value} {t : TypeId} (h : w.heap[b]? = some (.cells #[x0, x1, x2, x3, x4, x5, x6] t (0, 0))) :
    w.cell? ⟨b, 0, none⟩ = some x0 ∧ w.cell? ⟨b, 1, none⟩ = some x1 ∧ w.cell? ⟨b, 2, none⟩ = some x2 ∧ w.cell? ⟨b, 3, none⟩ = some x3 ∧ w.cell? ⟨b, 4, none⟩ = some x4 ∧ w.cell? ⟨b, 5, none⟩ = some x5 ∧ w.cell? ⟨b, 6, none⟩ = some x6 := by simp [World.cell?, h]

set_option maxRecDepth 20000 in
set_option maxHeartbeats 4000000 in
theorem add_any (w : World) (F : Nat → Prop) (pb : Nat) (m : List UInt8) (i g : Nat) (S : List St) (r : Raw) (hp : parserAt w F pb m i S g) (hw : r.wv = .slice none 0 0) (hok : ∀ w : World, rawOk w 0 r) (hS : S.length ≤ 1000000) :
    Calls Tryz.prog 122 #[.pointer (some ⟨pb, 0, none⟩), rawV r] w fun e w' => e = .returned (.int .i64 S.length) ∧ KeptX F pb w w' ∧ parserAt w' F pb m i (S ++ [r.st]) g := by
  obtain ⟨sv, rs, ⟨hB, hb, hrow, hall, hap, hfs, hfw⟩, rfl⟩ := hp
  rw [List.length_map] at hS
  obtain ⟨ao, cp, rfl⟩ := own_shape hrow
  obtain ⟨i0, z0, hinf, hz0, hz1, hz2, hz3⟩ := info_some Tryz.infoSt
  obtain ⟨W, HW⟩ : ∃ W, Hid (W = w.alloc (.cells (rawC r).toArray 150)) := ⟨_, hide rfl⟩
  have gW : Grow w W := by rw [HW.out]; exact (Grow.refl _).alloc _
  have hWb : W.heap[w.heap.size]? = some (.cells #[.int .i64 (kindNo r.st), .int .u64 (r.a : Nat), .int .u64 (r.b : Nat), .int .u64 (r.c : Nat), .int .u64 (r.d : Nat), .int .i64 r.sl, r.wv] 150 (0, 0)) := by rw [HW.out]; exact heap_alloc_new _ _
  have hWs : W.heap.size = w.heap.size + 1 := by rw [HW.out]; simp
  have hpW := gW.get hb
  have hrW := own_grow hrow gW
  have hno : (Value.slice ao rs.length cp).ownBlock ≠ some pb := own_apart hrow hb (by decide)
  have hno2 : (Value.slice ao rs.length cp).ownBlock ≠ some w.heap.size := fun e => by have := (hrow.lt _ e).2; omega
  have hA : ∀ (j : Nat) (r : Raw), rs[j]? = some r → ∀ b, r.wv.ownBlock = some b → b ≠ pb ∧ some b ≠ (Value.slice ao rs.length cp).ownBlock ∧ b < w.heap.size := by
    intro j r hr b hbk
    have hok := hall j r hr
    refine ⟨fun e => hok.apart hb (by decide) (e ▸ hbk), fun e => ?_, (hok.1.lt b hbk).2⟩
    rcases own_two hrow hok.1 (by decide) with h | h
    · rw [h] at e; cases e
    · exact h (by rw [← e, hbk])
  have HA := hide hA
  clear hA
  have HALL := hide hall
  have HAP := hide hap
  have HFS := hide hfs
  have HFW := hide hfw
  have HRW := hide hrW
  have HWB := hide hWb
  have HPW := hide hpW
  have HOK := hide hok
  clear hall hap hfs hfw hrow hrW hWb hpW hb hok
  obtain ⟨st, ra, rb, rc, rd, sl, wv⟩ := r
  simp only at hw
  subst hw
  unfold rawV
  go_enter Tryz.func122, Tryz.ntmps122
  go_wp2_with fail
  rw [show w.alloc (.cells #[.int .i64 (kindNo st), .int .u64 (ra : Nat), .int .u64 (rb : Nat), .int .u64 (rc : Nat), .int .u64 (rd : Nat), .int .i64 sl, .slice none 0 0] 150) = W from HW.out.symm]
  refine wp_region_state 12 24 Tryz.mixed2 rfl (by decide +kernel) (fun L vals w' => appJ W 0 150 7 (.slice ao rs.length cp) rs.length 1 (rawCells rs) (rawC ⟨st, ra, rb, rc, rd, sl, .slice none 0 0⟩) (L 8) (vals 8) w' ∧ newJ W 150 (rawC ⟨st, ra, rb, rc, rd, sl, .slice none 0 0⟩).toArray (L 7) (vals 7) w')
    (fun L vals h => ?_)
    (fun j v => match j with
      | 0 => v = .pointer (some ⟨pb, 0, none⟩)
      | 1 => v = .pointer (some ⟨pb, 0, none⟩)
      | 2 => v = .pointer (some ⟨pb, 0, none⟩)
      | 3 => v = .pointer (some ⟨pb, 2, none⟩)
      | 4 => v = .pointer (some ⟨pb, 2, none⟩)
      | 5 => v = .slice ao rs.length cp
      | 6 => v = .agg #[.int .i64 (kindNo st), .int .u64 (ra : Nat), .int .u64 (rb : Nat), .int .u64 (rc : Nat), .int .u64 (rd : Nat), .int .i64 sl, .slice none 0 0]
      | 7 => True
      | 8 => ∃ ao' cp', v = .slice ao' (rs.length + 1) cp'
      | 9 => v = .pointer (some ⟨pb, 0, none⟩)
      | 10 => v = .pointer (some ⟨pb, 2, none⟩)
      | _ => v = .pointer (some ⟨pb, 2, none⟩))
    (fun _ _ => False) (fun _ _ _ _ h => h.elim) (fun j hi o ho a w2 L vals hLi hLc hLe hJ hoff hval hdep => ?_) (fun vals w2 L hL hJ hvals => ?_)
  · simp only [h]
    exact ⟨⟨⟨rfl, rfl, rfl, Nat.le_refl _, fun _ _ _ => rfl⟩, fun _ => HRW.out, fun h => by cases h⟩, fun h => by cases h⟩
  · have hblk := grown_block hJ.1.1 HPW.out hno
    have hbox := grown_block hJ.1.1 HWB.out hno2
    obtain ⟨c0, c1, c2, c3⟩ := four_cells hblk
    obtain ⟨b0, b1, b2, b3, b4, b5, b6⟩ := seven_cells hbox
    match j, hi with
    | 0, _ =>
      obtain rfl := Option.some.inj ho
      have o0 := hoff 0 (by decide +kernel)
      simp at o0
      simp [opYields, go_sem, o0]
      exact hJ
    | 1, _ =>
      obtain rfl := Option.some.inj ho
      have o0 := hoff 0 (by decide +kernel)
      simp at o0
      simp [opYields, go_sem, o0]
      exact hJ
    | 2, _ =>
      obtain rfl := Option.some.inj ho
      have d1 := hdep 1 (by decide +kernel)
      simp [slotOf, dstOf] at d1
      simp [opYields, go_sem, d1]
      exact hJ
    | 3, _ =>
      obtain rfl := Option.some.inj ho
      have d2 := hdep 2 (by decide +kernel)
      simp [slotOf, dstOf] at d2
      simp [opYields, go_sem, d2]
      exact hJ
    | 4, _ =>
      obtain rfl := Option.some.inj ho
      have d3 := hdep 3 (by decide +kernel)
      simp [slotOf, dstOf] at d3
      simp [opYields, go_sem, d3]
      exact hJ
    | 5, _ =>
      obtain rfl := Option.some.inj ho
      have d4 := hdep 4 (by decide +kernel)
      simp [slotOf, dstOf] at d4
      simp [opYields, go_sem, d4, c2]
      exact hJ
    | 6, _ =>
      obtain rfl := Option.some.inj ho
      have o3 := hoff 3 (by decide +kernel)
      simp at o3
      simp [opYields, go_sem, o3, b0, b1, b2, b3, b4, b5, b6]
      exact hJ
    | 7, _ =>
      obtain rfl := Option.some.inj ho
      have d6 := hdep 6 (by decide +kernel)
      simp [slotOf, dstOf] at d6
      simp [opYields, go_sem, d6]
      exact ⟨hJ.1.grow ((Grow.refl _).alloc _), fun _ => ⟨_, rfl, hJ.1.1.size, heap_alloc_new _ _⟩⟩
    | 8, _ =>
      obtain rfl := Option.some.inj ho
      have h7 := hLe 7 (by decide +kernel)
      have d5 := hdep 5 (by decide +kernel)
      have v7 := hval 7 (by decide +kernel)
      simp [slotOf, dstOf] at d5 v7
      have hown2 := hJ.1.2.1 hLi
      obtain ⟨nb, hx, hnb, hcell2⟩ := hJ.2 h7
      rw [hx] at v7
      obtain ⟨v', w3, hrun, hown3, hgrow, hnew⟩ := run_append_new (P := Tryz.prog) w2 0 94 94 150 i0 z0 7 72 Tryz.underlying94 hinf hz0 hz1 hz2 hz3 (by omega) _ rs.length (rawCells rs) hown2 ⟨nb, 0, none⟩ 1 1 (rawC ⟨st, ra, rb, rc, rd, sl, .slice none 0 0⟩) rfl (fun q u hu => by
        rw [Addr.add_lit]
        exact cell_in hcell2 (by simpa using hu)) (rawC_oneCell rfl) (by unfold maxLen; omega) (by omega) (Nat.zero_le _)
      refine yields_append rfl (.tmp 10) (.tmp 12) _ _ rfl (v1 := .slice ao rs.length cp) (v2 := .slice (some ⟨nb, 0, none⟩) 1 1) (by simpa [Act.eval] using d5) (by simpa [Act.eval] using v7) hrun ?_
      obtain ⟨ao', cp', rfl⟩ := own_shape hown3
      refine ⟨⟨⟨grown_trans hJ.1.1 hgrow, fun h => by simp at h, fun _ => ⟨hown3, ?_⟩⟩, ?_⟩, ao', cp', rfl⟩
      · rcases hnew with h | ⟨g', h, h2⟩
        · exact .inl h
        · exact .inr ⟨g', h, Nat.le_trans hJ.1.1.size h2⟩
      · exact hJ.2.grown hgrow (fun k hk => (HRW.out.lt k hk).2)
    | 9, _ =>
      obtain rfl := Option.some.inj ho
      have d0 := hdep 0 (by decide +kernel)
      simp [slotOf, dstOf] at d0
      simp [opYields, go_sem, d0]
      exact hJ
    | 10, _ =>
      obtain rfl := Option.some.inj ho
      have d9 := hdep 9 (by decide +kernel)
      simp [slotOf, dstOf] at d9
      simp [opYields, go_sem, d9]
      exact hJ
    | 11, _ =>
      obtain rfl := Option.some.inj ho
      have d10 := hdep 10 (by decide +kernel)
      simp [slotOf, dstOf] at d10
      simp [opYields, go_sem, d10]
      exact hJ
    | k + 12, h => exact absurd h (by omega)
  · have hblk := grown_block hJ.1.1 HPW.out hno
    have h8 := hL 8 (by omega)
    obtain ⟨hown3, hnew⟩ := hJ.1.2.2 h8
    obtain ⟨ao', cp', v8⟩ := hvals 8 (by omega)
    have v11 := hvals 11 (by omega)
    simp only at v11
    rw [v8] at hown3 hnew
    obtain ⟨c0, c1, c2, c3⟩ := four_cells hblk
    obtain ⟨z0, z1, z2, z3⟩ := four_free hblk
    have H3 := hide hown3
    have HN := hide hnew
    have HG := hide hJ.1.1
    have HBL := hide hblk
    clear hvals hown3 hnew hJ hblk
    simp [over, dstOf, Act.put, v8, v11]
    have hset : ∀ k, k ≠ pb → (w2.setCell ⟨pb, 2, none⟩ (.slice ao' (rs.length + 1) cp')).heap[k]? = w2.heap[k]? := fun k hk => Below.heap_setCell _ _ _ _ hk
    obtain ⟨W2, HW2⟩ : ∃ W2, Hid (W2 = w2.setCell ⟨pb, 2, none⟩ (.slice ao' (rs.length + 1) cp')) := ⟨_, hide rfl⟩
    have hb2 : W2.heap[pb]? = some (.cells #[.string (bs m), .int .i64 i, .slice ao' (rs.length + 1) cp', .int .i64 g] 143 (0, 0)) := by
      rw [HW2.out, set_blk HBL.out]; simp
    obtain ⟨k0, k1, k2, k3⟩ := four_cells hb2
    have HB2 := hide hb2
    have hwr : IntKind.i64.wrap ((rs.length : Int) + 1 - 1) = rs.length := by rw [wrap_i64_small _ (by omega) (by omega)]; omega
    clear hb2
    go_wp2
    rw [← HW2.out]
    go_wp2
    go_ret
    have hs2 : W2.heap.size = w2.heap.size := by rw [HW2.out]; simp [World.setCell]
    have hW2b : ∀ k, k < w.heap.size → k ≠ pb → some k ≠ (Value.slice ao rs.length cp).ownBlock → W2.heap[k]? = w.heap[k]? := by
      intro k h1 h2 h3
      rw [HW2.out, hset k h2, HG.out.block k (by omega) h3, gW.block k h1]
    have hW2s : w.heap.size ≤ W2.heap.size := by rw [hs2]; have := HG.out.size; omega
    refine ⟨ret_int (by rw [List.length_map]), ⟨by rw [HW2.out]; exact HG.out.os.trans gW.os, by rw [HW2.out]; exact HG.out.tape.trans gW.tape, by rw [HW2.out]; exact HG.out.output.trans gW.output, hW2s, fun k hk hn => hW2b k (hB k hk) hn (fun e => HFS.out k e.symm hk)⟩, .slice ao' (rs.length + 1) cp', rs ++ [⟨st, ra, rb, rc, rd, sl, .slice none 0 0⟩], ⟨fun k hk => Nat.lt_of_lt_of_le (hB k hk) hW2s, HB2.out, ?_, ?_, ?_, ?_, ?_⟩, by simp⟩
    · have h : w2.ownsRow 0 150 7 (.slice ao' (rs.length + 1) cp') (rs ++ [(⟨st, ra, rb, rc, rd, sl, .slice none 0 0⟩ : Raw)]).length (rawCells (rs ++ [⟨st, ra, rb, rc, rd, sl, .slice none 0 0⟩])) := by
        rw [List.length_append, rawCells_append]
        have := H3.out
        simpa [rawCells] using this
      have hpn : (Value.slice ao' (rs.length + 1) cp').ownBlock ≠ some pb := own_apart H3.out HBL.out (by decide)
      rw [HW2.out]
      exact ownsRow_setCell_other (a := ⟨pb, 2, none⟩) h hpn _
    · intro j x hx
      rcases Nat.lt_or_ge j rs.length with hj | hj
      · rw [List.getElem?_append_left hj] at hx
        refine (HALL.out j x hx).keep fun b hbk => ?_
        obtain ⟨h1, h2, h3⟩ := HA.out j x hx b hbk
        exact hW2b b h3 h1 h2
      · rw [List.getElem?_append_right hj] at hx
        obtain ⟨rfl, _⟩ : x = ⟨st, ra, rb, rc, rd, sl, .slice none 0 0⟩ ∧ True := by
          cases h : j - rs.length with
          | zero => rw [h] at hx; simp at hx; exact ⟨hx.symm, trivial⟩
          | succ q => rw [h] at hx; simp at hx
        exact HOK.out W2
    · intro j k x y hjk hx hy b hbk hbk2
      rcases Nat.lt_or_ge j rs.length with hj | hj
      · rw [List.getElem?_append_left hj] at hx
        rcases Nat.lt_or_ge k rs.length with hk | hk
        · rw [List.getElem?_append_left hk] at hy
          exact HAP.out j k x y hjk hx hy b hbk hbk2
        · rw [List.getElem?_append_right hk] at hy
          cases h : k - rs.length with
          | zero => rw [h] at hy; simp at hy; subst hy; cases hbk2
          | succ q => rw [h] at hy; simp at hy
      · rw [List.getElem?_append_right hj] at hx
        cases h : j - rs.length with
        | zero => rw [h] at hx; simp at hx; subst hx; cases hbk
        | succ q => rw [h] at hx; simp at hx
    · intro b hbk hf
      rcases HN.out with h2 | ⟨q, h2, h3⟩
      · exact HFS.out b (by rw [← h2]; exact hbk) hf
      · rw [h2] at hbk; cases hbk; have := hB b hf; omega
    · intro j x b hx hbk hf
      rcases Nat.lt_or_ge j rs.length with hj | hj
      · rw [List.getElem?_append_left hj] at hx
        exact HFW.out j x b hx hbk hf
      · rw [List.getElem?_append_right hj] at hx
        cases h : j - rs.length with
        | zero => rw [h] at hx; simp at hx; subst hx; cases hbk
        | succ q => rw [h] at hx; simp at hx

end Go.Proofs.YtndpjdmfkhjiiaaGreatDoor
