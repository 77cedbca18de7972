/- The writer: most, add, number, bytes, eight, within. -/
import Derived.Test.YtmdakfmecfcbhaaGreatProg
import Derived.Test.YtmdakfmecfcbhaaGreatKit
import Derived.Test.YtmdakfmecfcbhaaGreatSpec
import Derived.Test.YtmdakfmecfcbhaaGreatWNum
set_option linter.unusedVariables false
set_option linter.unusedSimpArgs false
namespace Go.Proofs.YtmdakfmecfcbhaaGreat
open Go.RowKit
attribute [local go_sem] bs_size bs_toList bs_append bs_get bs_extract

/-- A panic with one of the program's errors. -/
abbrev gaveUp (e : Int) : Ending := .panicked [{ v := .iface 24 (.int .i64 e), recovered := false }]

theorem most_ok (n m : Int) (w : World) (h : n ≤ m) :
    Calls Tryz.prog 64 #[.int .i64 n, .int .i64 m] w fun e w' => e = .returned (.tuple #[]) ∧ w' = w := by
  go_enter Tryz.func64, Tryz.ntmps64
  have h' : ¬ m < n := by omega
  go_wp2
  go_end0
  exact ⟨rfl, rfl⟩

theorem most_no (n m : Int) (w : World) (h : m < n) :
    Calls Tryz.prog 64 #[.int .i64 n, .int .i64 m] w fun e w' => e = gaveUp 2 ∧ w' = w := by
  go_enter Tryz.func64, Tryz.ntmps64
  go_wp2
  exact ⟨rfl, rfl, rfl⟩

/-- Below block B nothing has turned, but for block b. -/
structure KeptX (B b : Nat) (w w' : World) : Prop where
  os : w'.os = w.os
  tape : w'.tape = w.tape
  output : w'.output = w.output
  size : w.heap.size ≤ w'.heap.size
  block : ∀ k, k < B → k ≠ b → w'.heap[k]? = w.heap[k]?
theorem KeptX.refl (B b : Nat) (w : World) : KeptX B b w w := ⟨rfl, rfl, rfl, Nat.le_refl _, fun _ _ _ => rfl⟩
theorem KeptX.trans {B b : Nat} {a c d : World} (h : KeptX B b a c) (k : KeptX B b c d) : KeptX B b a d :=
  ⟨k.os.trans h.os, k.tape.trans h.tape, k.output.trans h.output, Nat.le_trans h.size k.size, fun i hi hn => (k.block i hi hn).trans (h.block i hi hn)⟩
theorem keptX_of {B b : Nat} {w w' : World} (h : Below B w w') : KeptX B b w w' := ⟨h.os, h.tape, h.output, h.size, fun k hk _ => h.block k hk⟩
theorem KeptX.below {B b A : Nat} {w w' : World} (h : KeptX B b w w') (h1 : A ≤ B) (h2 : A ≤ b) : Below A w w' := ⟨h.os, h.tape, h.output, h.size, fun k hk => h.block k (by omega) (by omega)⟩
theorem KeptX.setCell {B b : Nat} {w w' : World} (h : KeptX B b w w') (v : Value) : KeptX B b w (w'.setCell ⟨b, 0, none⟩ v) :=
  ⟨h.os, h.tape, h.output, by simpa [World.setCell] using h.size, fun k hk hn => (Below.heap_setCell _ _ _ _ hn).trans (h.block k hk hn)⟩
theorem KeptX.get {B b : Nat} {w w' : World} (h : KeptX B b w w') {k : Nat} {o : Obj} (hk : w.heap[k]? = some o) (h1 : k < B) (h2 : k ≠ b) : w'.heap[k]? = some o := (h.block k h1 h2).trans hk

/-- Block b is a writer that holds the bytes l; its row is among the blocks from B on. -/
def holdsW (w : World) (B b : Nat) (l : List UInt8) : Prop :=
  B ≤ w.heap.size ∧ ∃ v, w.heap[b]? = some (.cells #[v] 65 (0, 0)) ∧ w.ownsRow B 5 1 v l.length (bytesV l)

/-- What a writer's method does: it writes some bytes, or gives up where there would be too many. -/
def wrote (B b : Nat) (l out : List UInt8) (w : World) (e : Ending) (w' : World) : Prop :=
  KeptX B b w w' ∧ ((l.length + out.length ≤ 20000 ∧ e = .returned (.tuple #[]) ∧ holdsW w' B b (l ++ out)) ∨ (20000 < l.length + out.length ∧ e = gaveUp 2))

set_option maxRecDepth 20000 in
set_option maxHeartbeats 400000 in
theorem add_any (w : World) (B b : Nat) (l s : List UInt8) (hh : holdsW w B b l) (hl : l.length ≤ 20000) (hs : s.length ≤ 1000000) :
    Calls Tryz.prog 114 #[.pointer (some ⟨b, 0, none⟩), .string (bs s)] w (wrote B b l s w) := by
  obtain ⟨i0, hi, hz0, hz1, hz2⟩ := info_parts Tryz.info5
  obtain ⟨hB, v, hb, hown⟩ := hh
  have hc := cell_of_one hb
  have hf := free_of_one hb
  have hlt := lt_of_block hb
  have hne := own_apart hown hb (by decide)
  obtain ⟨ao, cp, rfl⟩ := own_shape hown
  go_enter Tryz.func114, Tryz.ntmps114
  by_cases hfit : l.length + s.length ≤ 20000
  · go_wp2_with (first
      | (go_at_call 64; refine (most_ok _ _ _ (by omega)).mono ?_; rintro e w' ⟨rfl, rfl⟩)
      | (at_builtin; refine Lib.wpList_append_own_string _ rfl _ _ 63 9 rfl B 5 i0 Tryz.underlying63 Tryz.underlying9 hi hz0 hz1 hz2 _ l.length (bytesV l) rfl hown (bs s) rfl (by rw [bs_size]; unfold maxLen; omega) (by rw [bs_size]; omega) (by omega) ?_; intro v' w1 hown' hgrow _; obtain ⟨ao', cp', rfl⟩ := own_shape hown'; have hb1 := grown_block hgrow hb hne; have hc1 := cell_of_one hb1; have hf1 := free_of_one hb1; clear hc hf))
    go_end0
    have hbel : Below B w' w1 := (Below.refl B w').grown hgrow (by omega) (fun k hk => (hown.lt k hk).1)
    rw [bs_size, strCells_bs, ← bytesV_append] at hown'
    refine ⟨(keptX_of hbel).setCell _, .inl ⟨hfit, rfl, by have := hbel.size; simp [World.setCell]; omega, _, one_setCell hb1, ?_⟩⟩
    rw [List.length_append]
    exact ownsRow_setCell_other hown' (own_apart hown' hb1 (by decide)) _
  · go_wp2_with (go_at_call 64; refine (most_no _ _ _ (by omega)).mono ?_; rintro e w' ⟨rfl, rfl⟩)
    exact ⟨rfl, KeptX.refl _ _ _, .inr ⟨by omega, rfl⟩⟩

/-- Two writes behind one another are one. -/
theorem wrote_trans {B b : Nat} {l o1 o2 : List UInt8} {w w1 w2 : World} {e : Ending} (h1 : KeptX B b w w1) (hl : l.length + o1.length ≤ 20000) (h2 : wrote B b (l ++ o1) o2 w1 e w2) : wrote B b l (o1 ++ o2) w e w2 := by
  obtain ⟨hb, h⟩ := h2
  refine ⟨h1.trans hb, ?_⟩
  rcases h with ⟨h3, h4, h5⟩ | ⟨h3, h4⟩
  · exact .inl ⟨by simp at h3 ⊢; omega, h4, by rw [← List.append_assoc]; exact h5⟩
  · exact .inr ⟨by simp at h3 ⊢; omega, h4⟩
theorem wrote_gone {B b : Nat} {l o1 o2 : List UInt8} {w w1 : World} (h1 : KeptX B b w w1) (hl : 20000 < l.length + o1.length) : wrote B b l (o1 ++ o2) w (gaveUp 2) w1 := ⟨h1, .inr ⟨by simp; omega, rfl⟩⟩

theorem holdsW_le {w : World} {B b : Nat} {l : List UInt8} (h : holdsW w B b l) : B ≤ w.heap.size := by
  exact h.1
theorem holdsW_below {w w' : World} {B b : Nat} {l : List UInt8} (h : holdsW w B b l) {B' : Nat} (hb : Below B' w w') (hB : w.heap.size ≤ B') : holdsW w' B b l := by
  obtain ⟨h0, v, h1, h2⟩ := h
  refine ⟨by have := hb.size; omega, v, below_block hb h1 (by have := lt_of_block h1; omega), ?_⟩
  obtain ⟨h3, h4⟩ := h2
  refine ⟨h3, ?_⟩
  rcases h4 with h4 | ⟨g, cap, cur, r1, r2, r3, r4⟩
  · exact .inl h4
  · exact .inr ⟨g, cap, cur, r1, r2, below_block hb r3 (by have := lt_of_block r3; omega), r4⟩

set_option maxRecDepth 20000 in
set_option maxHeartbeats 400000 in
theorem number_w (w : World) (B b n : Nat) (l : List UInt8) (hh : holdsW w B b l) (hl : l.length ≤ 20000) (hn : n < 18446744073709551616) :
    Calls Tryz.prog 93 #[.pointer (some ⟨b, 0, none⟩), .int .u64 n] w (wrote B b l (numB n) w) := by
  have HN : Hid (n < 18446744073709551616) := hn
  clear hn
  have hlen := numB_length n
  go_enter Tryz.func93, Tryz.ntmps93
  go_wp2_with (first
    | (go_at_call 35; refine (number_any n _ HN.out).mono ?_; rintro e w1 ⟨rfl, hb1⟩; have hh1 := holdsW_below hh hb1 (Nat.le_refl _))
    | (go_at_call 114; refine (add_any _ B b l (numB n) hh1 hl (by omega)).mono ?_; rintro e w2 ⟨hb2, (⟨h1, rfl, hh2⟩ | ⟨h1, rfl⟩)⟩))
  · go_end0
    exact ⟨(keptX_of (hb1.mono (holdsW_le hh))).trans hb2, .inl ⟨h1, rfl, hh2⟩⟩
  · exact ⟨rfl, (keptX_of (hb1.mono (holdsW_le hh))).trans hb2, .inr ⟨h1, rfl⟩⟩

/-- What 'bytes' writes. -/
def fieldB (h : Nat) (s : List UInt8) : List UInt8 := numB h ++ (numB s.length ++ s)

set_option maxRecDepth 20000 in
set_option maxHeartbeats 400000 in
theorem bytes_w (w : World) (B b h : Nat) (l s : List UInt8) (hh : holdsW w B b l) (hl : l.length ≤ 20000) (hs : s.length ≤ 1000000) (hn : h < 1000) :
    Calls Tryz.prog 90 #[.pointer (some ⟨b, 0, none⟩), .int .u64 h, .string (bs s)] w (wrote B b l (fieldB h s) w) := by
  go_enter Tryz.func90, Tryz.ntmps90
  go_wp2_with fail
  refine (number_w w B b h l hh hl (by omega)).mono ?_
  rintro e w1 ⟨hb1, (⟨h1, rfl, hh1⟩ | ⟨h1, rfl⟩)⟩
  · go_wp2_with fail
    refine (number_w w1 B b s.length _ hh1 (by simpa using h1) (by omega)).mono ?_
    rintro e w2 ⟨hb2, (⟨h2, rfl, hh2⟩ | ⟨h2, rfl⟩)⟩
    · go_wp2_with fail
      refine (add_any w2 B b _ s hh2 (by simp at h2 ⊢; omega) hs).mono ?_
      rintro e w3 ⟨hb3, (⟨h3, rfl, hh3⟩ | ⟨h3, rfl⟩)⟩
      · go_wp2
        go_end0
        exact wrote_trans hb1 h1 (wrote_trans hb2 h2 ⟨hb3, .inl ⟨h3, rfl, hh3⟩⟩)
      · exact ⟨rfl, wrote_trans hb1 h1 (wrote_trans hb2 h2 ⟨hb3, .inr ⟨h3, rfl⟩⟩)⟩
    · exact ⟨rfl, wrote_trans hb1 h1 (wrote_gone hb2 h2)⟩
  · exact ⟨rfl, wrote_gone hb1 h1⟩

set_option maxRecDepth 20000 in
set_option maxHeartbeats 1000000 in
theorem eight_w (w : World) (B b n : Nat) (l : List UInt8) (hh : holdsW w B b l) (hl : l.length ≤ 20000) (hn : n < 18446744073709551616) :
    Calls Tryz.prog 94 #[.pointer (some ⟨b, 0, none⟩), .int .u64 n] w (wrote B b l (wordB n) w) := by
  have HN : Hid (n < 18446744073709551616) := hn
  clear hn
  go_enter Tryz.func94, Tryz.ntmps94
  go_wp2
  refine wp_loop_rounds 9 ?_
  iterate 8 (rw [rounds_succ]; go_wp2)
  rw [rounds_succ]
  have hcv := word_conv (P := Tryz.prog) w n Tryz.underlying63 Tryz.underlying5 Tryz.underlying9 137
  go_wp2_with fail
  have hbel : Below w.heap.size w (w.alloc (.cells #[.int .u8 ((n : Int) % 256), .int .u8 ((n : Int) / 256 % 256), .int .u8 ((n : Int) / 65536 % 256), .int .u8 ((n : Int) / 16777216 % 256), .int .u8 ((n : Int) / 4294967296 % 256), .int .u8 ((n : Int) / 1099511627776 % 256), .int .u8 ((n : Int) / 281474976710656 % 256), .int .u8 ((n : Int) / 72057594037927936 % 256)] 137)) := (Below.refl _ _).alloc (Nat.le_refl _) _
  refine (add_any _ B b l (wordB n) (holdsW_below hh hbel (Nat.le_refl _)) hl (by rw [wordB_length]; omega)).mono ?_
  rintro e w2 ⟨hb2, (⟨h1, rfl, hh2⟩ | ⟨h1, rfl⟩)⟩
  · go_wp2
    go_end0
    exact ⟨(keptX_of (hbel.mono (holdsW_le hh))).trans hb2, .inl ⟨h1, rfl, hh2⟩⟩
  · exact ⟨rfl, (keptX_of (hbel.mono (holdsW_le hh))).trans hb2, .inr ⟨h1, rfl⟩⟩

theorem holdsW_new (w : World) : holdsW (w.alloc (.cells #[.slice none 0 0] 65)) w.heap.size w.heap.size [] :=
  ⟨by simp, _, heap_alloc_new w _, World.ownsRow_nil _ _ _ _⟩

set_option maxRecDepth 20000 in
set_option maxHeartbeats 1000000 in
/-- 'within': what the function value writes into a new writer, as a field of bytes. -/
theorem within_w (w : World) (B b h : Nat) (l inner : List UInt8) (g : Nat) (cap : Array Value) (hh : holdsW w B b l) (hl : l.length ≤ 20000) (hn : h < 1000)
    (hcf : ∀ (args : Array Value) (w : World), (callFunc g args).run Tryz.prog w = .ok (.enter g args) w)
    (hfill : Calls Tryz.prog g (#[.pointer (some ⟨w.heap.size, 0, none⟩)] ++ cap) (w.alloc (.cells #[.slice none 0 0] 65)) (wrote w.heap.size w.heap.size [] inner (w.alloc (.cells #[.slice none 0 0] 65)))) :
    Calls Tryz.prog 65 #[.pointer (some ⟨b, 0, none⟩), .int .u64 h, .func (.func g) #[] cap] w (wrote B b l (fieldB h inner) w) := by
  have HF := hide hfill
  clear hfill
  go_enter Tryz.func65, Tryz.ntmps65
  go_wp2_with fail
  refine HF.out.mono ?_
  clear HF hcf
  rintro e w1 ⟨hb1, (⟨h1, rfl, hB, v, hv, hown⟩ | ⟨h1, rfl⟩)⟩
  · have hbel : Below w.heap.size w w1 := ((Below.refl _ _).alloc (Nat.le_refl _) _).trans (hb1.below (Nat.le_refl _) (Nat.le_refl _))
    have hcell := cell_of_one hv
    simp only [List.nil_append] at hown
    have hcv := run_bytesStr (P := Tryz.prog) Tryz.underlying63 Tryz.underlying5 Tryz.underlying9 hown
    obtain ⟨ao, cp, rfl⟩ := own_shape hown
    go_wp2_with fail
    refine (bytes_w w1 B b h l inner (holdsW_below hh hbel (Nat.le_refl _)) hl (by simp at h1; omega) hn).mono ?_
    rintro e w2 ⟨hb2, (⟨h2, rfl, hh2⟩ | ⟨h2, rfl⟩)⟩
    · go_wp2
      go_end0
      exact ⟨(keptX_of (hbel.mono (holdsW_le hh))).trans hb2, .inl ⟨h2, rfl, hh2⟩⟩
    · exact ⟨rfl, (keptX_of (hbel.mono (holdsW_le hh))).trans hb2, .inr ⟨h2, rfl⟩⟩
  · refine ⟨rfl, keptX_of ((((Below.refl _ _).alloc (Nat.le_refl _) _).trans (hb1.below (Nat.le_refl _) (Nat.le_refl _))).mono (holdsW_le hh)), .inr ⟨?_, rfl⟩⟩
    simp [fieldB] at h1 ⊢; omega

end Go.Proofs.YtmdakfmecfcbhaaGreat
