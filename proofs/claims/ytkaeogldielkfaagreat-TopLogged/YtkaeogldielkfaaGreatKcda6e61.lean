/- 3 texts in one. -/
import Derived.Test.YtkaeogldielkfaaGreatProg
import Derived.Test.YtkaeogldielkfaaGreatK5674b3b
import Derived.Test.YtkaeogldielkfaaGreatK7aebb14
import Derived.Test.YtkaeogldielkfaaGreatK3cf0128
import Derived.Test.YtkaeogldielkfaaGreatKc69cdd9
import Derived.Test.YtkaeogldielkfaaGreatK153615f
import Derived.BigQuiet
import Derived.Lib.AppendStr
import Derived.OneCell
set_option linter.unusedVariables false
set_option linter.unusedSimpArgs false
namespace Go.Proofs.YtkaeogldielkfaaGreat.Lg
open Go.RowKit
attribute [local go_sem] bs_size bs_toList bs_append bs_get bs_extract
theorem Tryz.info5l : (Tryz.prog.info? 5).map (fun i => (i.zero, i.size, i.bytes)) = some (some (.int .u8 0), 1, 1) := by kernel_rfl
theorem Tryz.mixed3 : Tryz.prog.follows .mixedOrders = true := by kernel_rfl
theorem left_any (at' : Nat) (w : World) (h : at' ≤ 9223372036854775807) :
    Calls Tryz.prog 79 #[.int .i64 at'] w fun e w' => e = .returned (.int .i64 ((128 - at' % 128 : Nat) : Int)) ∧ w' = w := by
  go_enter Tryz.func79, Tryz.ntmps79
  go_wp2
  go_ret
  exact ⟨ret_int (by omega), rfl⟩
theorem left_any_i (a : Int) (at' : Nat) (w : World) (h : at' ≤ 9223372036854775807) (ha : a = at') :
    Calls Tryz.prog 79 #[.int .i64 a] w fun e w' => e = .returned (.int .i64 ((128 - at' % 128 : Nat) : Int)) ∧ w' = w := by
  subst ha; exact left_any at' w h
def kindN (first last : Bool) : Nat := if first then (if last then 1 else 2) else (if last then 4 else 3)
theorem kindOf_any (f l : Bool) (w : World) :
    Calls Tryz.prog 81 #[.bool f, .bool l] w fun e w' => e = .returned (.int .u8 (kindN f l : Nat)) ∧ w' = w := by
  cases f <;> cases l
  all_goals
    go_enter Tryz.func81, Tryz.ntmps81
    go_wp2
    go_ret
    exact ⟨rfl, rfl⟩
/-- Block b is a writer that holds the bytes l; its row is among the blocks from B on. -/
def holdsL (w : World) (B b frm : Nat) (l : List UInt8) : Prop :=
  B ≤ w.heap.size ∧ ∃ v, w.heap[b]? = some (.cells #[.int .i64 frm, v] 81 (0, 0)) ∧ w.ownsRow B 5 1 v l.length (bytesV l)
theorem lgTwo {w : World} {b : Nat} {x y : Value} {t : TypeId} (h : w.heap[b]? = some (.cells #[x, y] t (0, 0))) : w.cell? ⟨b, 0, none⟩ = some x ∧ w.cell? ⟨b, 1, none⟩ = some y ∧ w.frozen? ⟨b, 0, none⟩ = false ∧ w.frozen? ⟨b, 1, none⟩ = false := by simp [World.cell?, World.frozen?, h]
theorem lgSet {w : World} {b i : Nat} {c : Array Value} {t : TypeId} {fr : Nat × Nat} (h : w.heap[b]? = some (.cells c t fr)) (u : Value) : (w.setCell ⟨b, i, none⟩ u).heap[b]? = some (.cells (c.setIfInBounds i u) t fr) := by
  have hlt := lt_of_block h
  have h' : w.heap[b] = .cells c t fr := by simpa [Array.getElem?_eq_getElem hlt] using h
  show (w.heap.modify b _)[b]? = _
  rw [Array.getElem?_eq_getElem (by simpa using hlt), Array.getElem_modify_self, h']
  rfl
/-- Nothing has turned below block B, but for block b. -/
structure KeptB (B b : Nat) (w w' : World) : Prop where
  os : w'.os = w.os
  tape : w'.tape = w.tape
  output : w'.output = w.output
  size : w.heap.size ≤ w'.heap.size
  block : ∀ k, k < B → k ≠ b → w'.heap[k]? = w.heap[k]?
theorem KeptB.refl (B b : Nat) (w : World) : KeptB B b w w := ⟨rfl, rfl, rfl, Nat.le_refl _, fun _ _ _ => rfl⟩
theorem KeptB.trans {B b : Nat} {a c d : World} (h : KeptB B b a c) (k : KeptB B b c d) : KeptB B b a d :=
  ⟨k.os.trans h.os, k.tape.trans h.tape, k.output.trans h.output, Nat.le_trans h.size k.size, fun i hi hn => (k.block i hi hn).trans (h.block i hi hn)⟩
theorem keptB_of {B b : Nat} {w w' : World} (h : Below B w w') : KeptB B b w w' := ⟨h.os, h.tape, h.output, h.size, fun k hk _ => h.block k hk⟩
theorem KeptB.below {B b A : Nat} {w w' : World} (h : KeptB B b w w') (h1 : A ≤ B) (h2 : A ≤ b) : Below A w w' := ⟨h.os, h.tape, h.output, h.size, fun k hk => h.block k (by omega) (by omega)⟩
theorem KeptB.setCell {B b : Nat} {w w' : World} (h : KeptB B b w w') (i : Nat) (v : Value) : KeptB B b w (w'.setCell ⟨b, i, none⟩ v) :=
  ⟨h.os, h.tape, h.output, by simpa [World.setCell] using h.size, fun k hk hn => (Below.heap_setCell _ _ _ _ hn).trans (h.block k hk hn)⟩
theorem holdsL_drew {w : World} {B b frm : Nat} {l : List UInt8} (h : holdsL w B b frm l) (n : Nat) : holdsL (w.drewN n) B b frm l := h
set_option maxRecDepth 20000 in
theorem logAt_any (w : World) (B b frm : Nat) (l : List UInt8) (hh : holdsL w B b frm l) (hl : l.length ≤ 1000000) (hf : frm ≤ 281474976710656) :
    Calls Tryz.prog 46 #[.pointer (some ⟨b, 0, none⟩)] w fun e w' => ∃ n, e = .returned (.int .i64 ((frm + l.length : Nat) : Int)) ∧ w' = w.drewN n := by
  obtain ⟨hB, v, hb, hown⟩ := hh
  obtain ⟨c0, c1, z0, z1⟩ := lgTwo hb
  obtain ⟨ao, cp, rfl⟩ := own_shape hown
  clear hb hown
  go_enter Tryz.func46, Tryz.ntmps46
  go_wp2
  go_quiet (fail)
  go_wp2
  go_ret
  exact ⟨_, ret_int (by omega), rfl⟩
/-- What a writer's method does: it writes some bytes. -/
def put (B b frm : Nat) (l out : List UInt8) (w : World) (e : Ending) (w' : World) : Prop :=
  KeptB B b w w' ∧ e = .returned (.tuple #[]) ∧ holdsL w' B b frm (l ++ out)
set_option maxRecDepth 20000 in
set_option maxHeartbeats 400000 in
theorem logNoughts_any (w : World) (B b frm : Nat) (l : List UInt8) (hh : holdsL w B b frm l) (hl : l.length ≤ 1000000) (hf : frm ≤ 281474976710656) :
    Calls Tryz.prog 78 #[.pointer (some ⟨b, 0, none⟩)] w (put B b frm l (padL (frm + l.length)) w) := by
  obtain ⟨i0, hi, hz0, hz1, hz2⟩ := info_parts Tryz.info5l
  have HH := hide hh
  go_enter Tryz.func78, Tryz.ntmps78
  go_wp2_with fail
  refine (logAt_any w B b frm l HH.out hl hf).mono ?_
  rintro e w1 ⟨n, rfl, rfl⟩
  go_wp2_with fail
  refine (left_any_i _ (frm + l.length) _ (by omega) (by omega)).mono ?_
  rintro e w1 ⟨rfl, rfl⟩
  have HK : Hid (KeptB B b w (w.drewN n)) := hide ⟨rfl, rfl, rfl, Nat.le_refl _, fun _ _ _ => rfl⟩
  have hh2 := holdsL_drew HH.out n
  generalize w.drewN n = w1 at *
  obtain ⟨k, hk⟩ : ∃ k, k = 128 - (frm + l.length) % 128 := ⟨_, rfl⟩
  have HP := hide (show padL (frm + l.length) = if k < 7 then List.replicate k 0 else [] from by rw [hk]; rfl)
  rw [← hk]
  have hk0 : 0 < k := by omega
  clear hk
  by_cases hk7 : k < 7
  · obtain ⟨hB, v, hb, hown⟩ := hh2
    obtain ⟨c0, c1, z0, z1⟩ := lgTwo hb
    have hne := own_apart hown hb (by decide)
    obtain ⟨ao, cp, rfl⟩ := own_shape hown
    have HB := hide hb
    clear hb
    go_wp2_with (at_builtin; refine wpList_append_own_zeros rfl _ _ 77 3 rfl B 5 i0 Tryz.underlying77 Tryz.underlying3 hi hz0 hz1 hz2 _ l.length (bytesV l) rfl hown k rfl hk0 (by omega) (by omega) hB ?_; intro v' w2 hown' hgrow; obtain ⟨ao', cp', rfl⟩ := own_shape hown'; have hb2 := grown_block hgrow HB.out hne; obtain ⟨d0, d1, y0, y1⟩ := lgTwo hb2; clear c0 c1 z0 z1)
    go_end0
    have hbel : Below B w1 w2 := (Below.refl B w1).grown hgrow (by omega) (fun k hk => (hown.lt k hk).1)
    refine ⟨(HK.out.trans (keptB_of hbel)).setCell _ _, rfl, by have := hbel.size; simp [World.setCell]; omega, _, lgSet hb2 _, ?_⟩
    rw [HP.out, if_pos hk7, bytesV_append, List.length_append, List.length_replicate]
    exact ownsRow_setCell_other hown' (own_apart hown' hb2 (by decide)) _
  · go_wp2
    go_end0
    refine ⟨HK.out, rfl, ?_⟩
    rw [HP.out, if_neg hk7, List.append_nil]
    exact hh2
theorem head_arr (k n c : Nat) (x0 x1 x2 x3 x4 x5 x6 : Int) (h0 : x0 = ((k % 256 : Nat) : Int)) (h1 : x1 = ((n % 256 : Nat) : Int)) (h2 : x2 = ((n / 256 % 256 : Nat) : Int)) (h3 : x3 = ((c % 256 : Nat) : Int)) (h4 : x4 = ((c / 256 % 256 : Nat) : Int)) (h5 : x5 = ((c / 65536 % 256 : Nat) : Int)) (h6 : x6 = ((c / 16777216 % 256 : Nat) : Int)) :
    (#[Value.int .u8 x0, .int .u8 x1, .int .u8 x2, .int .u8 x3, .int .u8 x4, .int .u8 x5, .int .u8 x6] : Array Value).toList = bytesV (headB k n c) := by
  subst h0; subst h1; subst h2; subst h3; subst h4; subst h5; subst h6
  simp [bytesV, headB, le4]
/-- Bytes more, in a row that a call owns: as the walk has it. -/
theorem append_cells {W : World} {v : Value} {ops : Array Oper} {rest : List Oper} {o : Oper} {a : Act} {Q : Exit → Act → World → Prop} (hgd : o.guard = none) (s x : Operand)
    (ho : o.op = .call { callee := .builtin .append, args := #[s, x], argTypes := #[77, 77] })
    (base pb : Nat) (xs : Array Value) (T : TypeId) (hT : 5 ≠ T) (hpb : W.heap[pb]? = some (.cells xs T (0, 0))) (d c : List UInt8) (arr : Array Value) (m : Nat) (hm : m = c.length) (hs : a.eval s = v) (hown : W.ownsRow base 5 1 v d.length (bytesV d)) (hx : a.eval x = .slice (some ⟨W.heap.size, 0, none⟩) m m)
    (hlen : d.length + c.length ≤ 100000000) (hbase : base ≤ W.heap.size)
    (h : arr.toList = bytesV c ∧ ∀ ao cp n w', Hid (n = (d ++ c).length) → n ≤ 100000000 → w'.heap[pb]? = some (.cells xs T (0, 0)) → w'.ownsRow base 5 1 (.slice ao n cp) (d ++ c).length (bytesV (d ++ c)) → Below base W w' → wpList Tryz.prog ops Q rest (a.put o.dst (.slice ao n cp)) w') :
    wpList Tryz.prog ops Q (o :: rest) a (W.alloc (.cells arr 5)) := by
  subst hm
  obtain ⟨harr, h⟩ := h
  obtain ⟨i0, hi0, hz0, hz1, hz2⟩ := info_parts Tryz.info5l
  have hb2 : Below base W (W.alloc (.cells arr 5)) := (Below.refl _ _).alloc hbase _
  have hnew := heap_alloc_new W (.cells arr 5)
  have hsz := hb2.size
  have hpb2 : (W.alloc (.cells arr 5)).heap[pb]? = some (.cells xs T (0, 0)) := (Below.heap_alloc _ _ _ (lt_of_block hpb)).trans hpb
  have hown' := hown.alloc (.cells arr 5)
  have hcell : ∀ j u, (bytesV c)[j]? = some u → (W.alloc (.cells arr 5)).cell? ((⟨W.heap.size, 0, none⟩ : Addr).add j) = some u := by
    intro j u hu
    rw [← harr] at hu
    rw [Addr.add_lit]
    simp only [World.cell?, hnew]
    simpa using hu
  generalize (W.alloc (.cells arr 5)) = V at *
  refine wpList_append_own _ hgd s x 77 ho base 5 i0 (.int .u8 0) 1 1 Tryz.underlying77 hi0 hz0 hz1 hz2 rfl (by omega) v d.length (bytesV d) hs hown' ⟨W.heap.size, 0, none⟩ c.length c.length (bytesV c) hx (by rw [bytesV_length, Nat.mul_one]) hcell (bytesV_oneCell c) (by unfold maxLen; omega) (by omega) (by omega) ?_
  intro v' w' hown2 hgrow _
  rw [← bytesV_append, ← List.length_append] at hown2
  obtain ⟨ao, cp, rfl⟩ := own_shape hown2
  exact h ao cp _ w' (hide rfl) (by rw [List.length_append]; omega) (grown_block hgrow hpb2 (own_apart hown' hpb2 hT)) hown2 (hb2.grown hgrow (by omega) (fun k hk => (hown'.lt k hk).1))
set_option maxRecDepth 20000 in
set_option maxHeartbeats 1000000 in
theorem logPart_any (w : World) (B b frm : Nat) (l s : List UInt8) (k : Nat) (hh : holdsL w B b frm l) (hl : l.length ≤ 1000000) (hs : s.length ≤ 1000) (hk : k < 256) :
    Calls Tryz.prog 80 #[.pointer (some ⟨b, 0, none⟩), .int .u8 k, .string (bs s)] w (put B b frm l (partB k s) w) := by
  obtain ⟨i0, hi, hz0, hz1, hz2⟩ := info_parts Tryz.info5l
  have HH := hide hh
  have hc := ckSum_lt s
  have HP := hide (show partB k s = headB k s.length (ckSum s) ++ s from rfl)
  go_enter Tryz.func80, Tryz.ntmps80
  go_wp2_with fail
  refine (logCheck_any s w (by omega)).mono ?_
  rintro e w1 ⟨rfl, rfl⟩
  generalize ckSum s = c at hc HP
  obtain ⟨hB, v, hb, hown⟩ := HH.out
  obtain ⟨c0, c1, z0, z1⟩ := lgTwo hb
  obtain ⟨ao, cp, rfl⟩ := own_shape hown
  have HB := hide hb
  have HO := hide hown
  clear hb hown hh
  have hm : ∀ n7 : Nat, n7 ≤ 100000000 → n7 + (bs s).size ≤ maxLen := fun n7 h => by rw [bs_size]; unfold maxLen; omega
  have hm2 : ∀ n7 : Nat, n7 ≤ 100000000 → n7 + (bs s).size ≤ 140737488355328 := fun n7 h => by rw [bs_size]; omega
  have HM := hide hm
  have HM2 := hide hm2
  clear hm hm2
  go_wp2_with (first
    | (at_builtin; refine append_cells rfl (.tmp 16) (.tmp 34) rfl B b _ 81 (by decide) HB.out l (headB k s.length c) _ 7 rfl rfl HO.out rfl (by rw [headB_length]; omega) hB ?_; refine And.intro (by exact head_arr _ _ _ _ _ _ _ _ _ _ (by omega) (by omega) (by omega) (by omega) (by omega) (by omega) (by omega)) ?_; intro ao7 cp7 n7 w7 hn7 hn7l hx7 hown8 hk8; obtain ⟨d0, d1, y0, y1⟩ := lgTwo hx7; have HX8 := hide hx7; have HO8 := hide hown8; have HK8 := hide hk8; have HT8 := hide (lgSet (i := 1) hx7 (.slice ao7 n7 cp7)); have HU8 := hide (ownsRow_setCell_other (a := ⟨b, 1, none⟩) hown8 (own_apart hown8 hx7 (by decide)) (.slice ao7 n7 cp7)); have hsz8 := hk8.size; have HN7 := hide hn7l; clear hx7 hown8 hk8 c0 c1 z0 z1 hn7l)
    | (at_builtin; obtain ⟨e0, e1, q0, q1⟩ := lgTwo HT8.out; refine Lib.wpList_append_own_string _ rfl (.tmp 42) (.tmp 43) 77 9 rfl B 5 i0 Tryz.underlying77 Tryz.underlying9 hi hz0 hz1 hz2 (.slice ao7 n7 cp7) n7 (bytesV (l ++ headB k s.length c)) rfl (by have h := HU8.out; rw [← hn7.out] at h; exact h) (bs s) rfl (HM.out n7 HN7.out) (HM2.out n7 HN7.out) (by simp [World.setCell]; omega) ?_; intro v9 w9 hown9 hgrow9 _; obtain ⟨ao9, cp9, rfl⟩ := own_shape hown9; have hb9 := grown_block hgrow9 HT8.out (own_apart HU8.out HT8.out (by decide)); have HO9 := hide hown9; have HB9 := hide hb9; have HG9 := hide hgrow9; clear hown9 hgrow9 d0 d1 y0 y1 e0 e1 q0 q1; obtain ⟨e0, e1, q0, q1⟩ := lgTwo hb9; clear hb9))
  go_end0
  have hg9 := HG9.out
  have k1 : KeptB B b w1 (w7.setCell ⟨b, 1, none⟩ (.slice ao7 n7 cp7)) := (keptB_of HK8.out).setCell 1 _
  have hsz9 := hg9.size
  have k2 : KeptB B b (w7.setCell ⟨b, 1, none⟩ (.slice ao7 n7 cp7)) w9 := keptB_of ((Below.refl B _).grown hg9 (by simp [World.setCell]; omega) (fun k hk => (HU8.out.lt k hk).1))
  refine ⟨(k1.trans k2).setCell 1 _, rfl, by simp [World.setCell] at hsz9 ⊢; omega, _, lgSet HB9.out _, ?_⟩
  have ho9 := HO9.out
  rw [bs_size, strCells_bs, hn7.out, ← bytesV_append, ← List.length_append, List.append_assoc, ← HP.out] at ho9
  rw [hn7.out, ← List.length_append, List.append_assoc, ← HP.out]
  refine ownsRow_setCell_other ho9 ?_ _
  have hb9 := HB9.out
  refine own_apart ho9 hb9 (by decide)
theorem holdsL_grow {w w' : World} {B b frm : Nat} {l : List UInt8} (h : holdsL w B b frm l) (hb : Grow w w') : holdsL w' B b frm l := by
  obtain ⟨h0, v, h1, h2⟩ := h
  have hs := hb.size
  refine ⟨by omega, v, hb.get h1, ?_⟩
  obtain ⟨h3, h4⟩ := h2
  refine ⟨h3, ?_⟩
  rcases h4 with h4 | ⟨g, cap, cur, r1, r2, r3, r4⟩
  · exact .inl h4
  · exact .inr ⟨g, cap, cur, r1, r2, hb.get r3, r4⟩
theorem kindN_lt (f l : Bool) : kindN f l < 256 := by cases f <;> cases l <;> decide
set_option maxRecDepth 20000 in
set_option maxHeartbeats 1000000 in
theorem logRecord_any (w : World) (B b frm : Nat) (l s : List UInt8) (hh : holdsL w B b frm l) (hl : l.length ≤ 100) (hs : s.length ≤ 20000) (hf : frm ≤ 281474976710656) :
    Calls Tryz.prog 45 #[.pointer (some ⟨b, 0, none⟩), .string (bs s)] w (put B b frm l (appB (frm + l.length) s) w) := by
  have HH := hide hh
  clear hh
  go_enter Tryz.func45, Tryz.ntmps45
  go_wp2
  go_loopw [1, 4, 5, 6] (fun x f _ _ wr => ∃ (s' made : List UInt8) (first : Bool), x = .string (bs s') ∧ f = .bool first ∧ Hid (KeptB B b w wr) ∧ Hid (holdsL wr B b frm made) ∧ Hid (l ++ appB (frm + l.length) s = made ++ contB first (frm + made.length) s') ∧ Hid (first = false → (frm + made.length) % 128 = 0) ∧ made.length + 2 * s'.length ≤ 50000 + (if first then 0 else 20) ∧ s'.length ≤ 20000) (fun x f _ _ _ => 2 * (match x with | .string b => b.size | _ => 0) + (match f with | .bool true => 1 | _ => 0))
  case atStart => exact ⟨s, l, true, rfl, rfl, hide (KeptB.refl _ _ _), HH, hide (by simp [contB]), hide (fun h => by cases h), by simp; omega, hs⟩
  case round =>
    obtain ⟨s', made, first, rfl, rfl, HK, HW, HE, HF, hml, hsl⟩ := hrel
    rename World => wr
    have hml2 : made.length ≤ 100000 := by split at hml <;> omega
    go_wp2_with fail
    refine (logNoughts_any wr B b frm made HW.out (by omega) hf).mono ?_
    rintro e w1 ⟨hk1, rfl, hh1⟩
    have HK1 := hide (HK.out.trans hk1)
    have HH1 := hide hh1
    have hpl := (pad_le (frm + made.length)).1
    have hlp : (made ++ padL (frm + made.length)).length = made.length + (padL (frm + made.length)).length := List.length_append
    clear hk1 hh1
    go_wp2_with fail
    refine (logAt_any w1 B b frm _ HH1.out (by omega) hf).mono ?_
    rintro e w2 ⟨n, rfl, rfl⟩
    have HK2 : Hid (KeptB B b w (w1.drewN n)) := hide (HK1.out.trans ⟨rfl, rfl, rfl, Nat.le_refl _, fun _ _ _ => rfl⟩)
    have HH2 := hide (holdsL_drew HH1.out n)
    generalize w1.drewN n = w2 at *
    clear HK1 HH1
    go_wp2_with fail
    refine (left_any_i _ (frm + (made ++ padL (frm + made.length)).length) _ (by omega) (by omega)).mono ?_
    rintro e w3 ⟨rfl, rfl⟩
    obtain ⟨R, hR⟩ : ∃ R, R = room (frm + made.length) := ⟨_, rfl⟩
    have hR7 : 128 - (frm + (made ++ padL (frm + made.length)).length) % 128 = R + 7 := by
      rw [hR, room_is, hlp]
      have := (pad_le (frm + made.length)).2
      omega
    rw [hR7]
    have hR121 : R ≤ 121 := by rw [hR]; exact room_le _
    have HR := hide hR
    clear hR
    by_cases hfit : s'.length ≤ R
    · have hmin : min (s'.length : Int) (((R + 7 : Nat) : Int) - 7) = s'.length := by omega
      have HL := hide (contB_last first (frm + made.length) s' HF.out (by rw [← HR.out]; exact hfit))
      go_wp2_with fail
      refine wp_region_free 7 32 Tryz.mixed3 rfl (by decide +kernel) Grow (fun _ _ _ => Grow.trans) (Grow.refl _)
        (fun i v _ => match i with
          | 0 => v = .pointer (some ⟨b, 0, none⟩)
          | 1 => v = .bool first
          | 2 => v = .bool true
          | 3 => v = .int .u8 (kindN first true : Nat)
          | 4 => v = .string (bs s')
          | 5 => v = .int .i64 (s'.length : Nat)
          | _ => v = .string (bs (s'.take s'.length)))
        (fun i v w w' h hg => h) (fun _ _ => False) (fun _ _ _ _ h => h.elim) (fun i hi o ho a w2' hG hoff hdep => ?_) (fun vals w2' hG hvals => ?_)
      · match i, hi with
        | 0, _ =>
          obtain rfl := Option.some.inj ho
          have o0 := hoff 0 (by decide +kernel)
          simp at o0
          simp [opYields, go_sem, o0]
          exact Grow.refl _
        | 1, _ =>
          obtain rfl := Option.some.inj ho
          have o4 := hoff 4 (by decide +kernel)
          simp at o4
          simp [opYields, go_sem, o4]
          exact Grow.refl _
        | 2, _ =>
          obtain rfl := Option.some.inj ho
          have o6 := hoff 6 (by decide +kernel)
          simp at o6
          simp [opYields, go_sem, o6]
          exact Grow.refl _
        | 3, _ =>
          obtain rfl := Option.some.inj ho
          have d1 := hdep 1 (by decide +kernel)
          simp [slotOf, dstOf] at d1
          have d2 := hdep 2 (by decide +kernel)
          simp [slotOf, dstOf] at d2
          simp [opYields, go_sem, d1, d2]
          refine (kindOf_any first true _).mono ?_
          rintro e w3 ⟨rfl, rfl⟩
          exact ⟨Grow.refl _, rfl⟩
        | 4, _ =>
          obtain rfl := Option.some.inj ho
          have o1 := hoff 1 (by decide +kernel)
          simp at o1
          simp [opYields, go_sem, o1]
          exact Grow.refl _
        | 5, _ =>
          obtain rfl := Option.some.inj ho
          have o5 := hoff 5 (by decide +kernel)
          simp at o5
          simp [opYields, go_sem, o5]
          exact Grow.refl _
        | 6, _ =>
          obtain rfl := Option.some.inj ho
          have d4 := hdep 4 (by decide +kernel)
          simp [slotOf, dstOf] at d4
          have d5 := hdep 5 (by decide +kernel)
          simp [slotOf, dstOf] at d5
          simp [opYields, go_sem, d4, d5]
          exact Grow.refl _
      · have v0 := hvals 0 (by omega)
        have v3 := hvals 3 (by omega)
        have v6 := hvals 6 (by omega)
        simp only at v0 v3 v6
        clear hvals
        have HK3 : Hid (KeptB B b w w2') := hide (HK2.out.trans (keptB_of (Below.mono hG.undrew HH2.out.1)))
        have HH3 := hide (holdsL_grow HH2.out hG.undrew)
        simp [over, dstOf, Act.put, v0, v3, v6]
        go_wp2_with fail
        refine (logPart_any w2' B b frm _ s' (kindN first true) HH3.out (by omega) (by omega) (kindN_lt _ _)).mono ?_
        rintro e w3 ⟨hk3, rfl, hh3⟩
        go_wp2
        refine bodyPost_ret (v := .tuple #[]) (results_none rfl _ _ _) rfl ?_
        refine ⟨HK3.out.trans hk3, rfl, ?_⟩
        rw [HE.out, HL.out, ← List.append_assoc]
        rw [show (if first then 1 else 4 : Nat) = kindN first true from by cases first <;> rfl]
        exact hh3
    · have hmin : min (s'.length : Int) (((R + 7 : Nat) : Int) - 7) = R := by omega
      have HR1 : Hid (first = false → R = 121 ∧ (padL (frm + made.length)).length = 0) := hide fun h => ⟨by rw [HR.out, room_zero (HF.out h)], by rw [pad_zero (HF.out h)]; rfl⟩
      have HL := hide (contB_more first (frm + made.length) s' HF.out (by rw [← HR.out]; exact hfit))
      have HN := hide (room_next (frm + made.length))
      rw [← HR.out] at HL HN
      have hRl : R < s'.length := by omega
      have hRl2 : R ≤ s'.length := by omega
      have hlt' : (s'.take R).length = R := by rw [List.length_take]; omega
      have hld : (s'.drop R).length = s'.length - R := List.length_drop
      have hne : ((R : Int) == (s'.length : Int)) = false := by rw [beq_eq_false_iff_ne]; omega
      have HLT := hide hlt'
      have HLD := hide hld
      clear hlt' hld
      go_wp2_with fail
      refine wp_region_free 7 32 Tryz.mixed3 rfl (by decide +kernel) Grow (fun _ _ _ => Grow.trans) (Grow.refl _)
        (fun i v _ => match i with
          | 0 => v = .pointer (some ⟨b, 0, none⟩)
          | 1 => v = .bool first
          | 2 => v = .bool false
          | 3 => v = .int .u8 (kindN first false : Nat)
          | 4 => v = .string (bs s')
          | 5 => v = .int .i64 (R : Nat)
          | _ => v = .string (bs (s'.take R)))
        (fun i v w w' h hg => h) (fun _ _ => False) (fun _ _ _ _ h => h.elim) (fun i hi o ho a w2' hG hoff hdep => ?_) (fun vals w2' hG hvals => ?_)
      · match i, hi with
        | 0, _ =>
          obtain rfl := Option.some.inj ho
          have o0 := hoff 0 (by decide +kernel)
          simp at o0
          simp [opYields, go_sem, o0]
          exact Grow.refl _
        | 1, _ =>
          obtain rfl := Option.some.inj ho
          have o4 := hoff 4 (by decide +kernel)
          simp at o4
          simp [opYields, go_sem, o4]
          exact Grow.refl _
        | 2, _ =>
          obtain rfl := Option.some.inj ho
          have o6 := hoff 6 (by decide +kernel)
          simp at o6
          simp [opYields, go_sem, o6]
          exact Grow.refl _
        | 3, _ =>
          obtain rfl := Option.some.inj ho
          have d1 := hdep 1 (by decide +kernel)
          simp [slotOf, dstOf] at d1
          have d2 := hdep 2 (by decide +kernel)
          simp [slotOf, dstOf] at d2
          simp [opYields, go_sem, d1, d2]
          refine (kindOf_any first false _).mono ?_
          rintro e w3 ⟨rfl, rfl⟩
          exact ⟨Grow.refl _, rfl⟩
        | 4, _ =>
          obtain rfl := Option.some.inj ho
          have o1 := hoff 1 (by decide +kernel)
          simp at o1
          simp [opYields, go_sem, o1]
          exact Grow.refl _
        | 5, _ =>
          obtain rfl := Option.some.inj ho
          have o5 := hoff 5 (by decide +kernel)
          simp at o5
          simp [opYields, go_sem, o5]
          exact Grow.refl _
        | 6, _ =>
          obtain rfl := Option.some.inj ho
          have d4 := hdep 4 (by decide +kernel)
          simp [slotOf, dstOf] at d4
          have d5 := hdep 5 (by decide +kernel)
          simp [slotOf, dstOf] at d5
          simp [opYields, go_sem, d4, d5, hRl2]
          exact Grow.refl _
      · have v0 := hvals 0 (by omega)
        have v3 := hvals 3 (by omega)
        have v6 := hvals 6 (by omega)
        simp only at v0 v3 v6
        clear hvals
        have HK3 : Hid (KeptB B b w w2') := hide (HK2.out.trans (keptB_of (Below.mono hG.undrew HH2.out.1)))
        have HH3 := hide (holdsL_grow HH2.out hG.undrew)
        simp [over, dstOf, Act.put, v0, v3, v6]
        go_wp2_with fail
        refine (logPart_any w2' B b frm _ (s'.take R) (kindN first false) HH3.out (by omega) (by rw [HLT.out]; omega) (kindN_lt _ _)).mono ?_
        rintro e w3 ⟨hk3, rfl, hh3⟩
        have HK4 := hide (HK3.out.trans hk3)
        have HH4 := hide hh3
        clear hk3 hh3
        go_wp2_with fail
        go_roundw
        case rel =>
          have hml3 : (made ++ padL (frm + made.length) ++ partB (kindN first false) (s'.take R)).length = made.length + (padL (frm + made.length)).length + 7 + R := by rw [List.length_append, partB_length, HLT.out, List.length_append]; omega
          refine ⟨s'.drop R, made ++ padL (frm + made.length) ++ partB (kindN first false) (s'.take R), false, ?_, rfl, HK4, HH4, ?_, ?_, ?_, ?_⟩
          · first | rfl | (rw [List.take_of_length_le (by rw [HLD.out]; exact Nat.le_refl _)])
          · show _ = _
            rw [HE.out, HL.out, hml3]
            rw [show (if first then 2 else 3 : Nat) = kindN first false from by cases first <;> rfl]
            simp only [List.append_assoc, Nat.add_assoc]
          · exact hide (fun _ => by rw [hml3]; have := HN.out; omega)
          · rw [hml3, HLD.out]
            have h1 := HR1.out
            cases first
            · have := h1 rfl
              simp at hml ⊢
              omega
            · simp at hml ⊢
              omega
          · rw [HLD.out]; omega
        case measure =>
          have h1 := HR1.out
          have h2 : (bs (List.take (s'.length - R) (List.drop R s'))).size = s'.length - R := by rw [bs_size, List.length_take, HLD.out, Nat.min_self]
          have h3 : (bs s').size = s'.length := bs_size _
          cases first
          · have := h1 rfl
            simp only [h2, h3]
            omega
          · simp only [h2, h3]
            omega
theorem restB_length (s : List UInt8) : (restB s).length ≤ 7 + 2 * s.length := by
  rw [restB]
  split
  · rw [partB_length]; omega
  · have := restB_length (s.drop 121)
    rw [List.length_append, partB_length, List.length_take]
    rw [List.length_drop] at this
    omega
termination_by s.length
decreasing_by rw [List.length_drop]; omega
theorem appB_length (at' : Nat) (s : List UInt8) : (appB at' s).length ≤ 20 + 2 * s.length := by
  have h1 := (pad_le at').1
  unfold appB
  rw [List.length_append]
  split
  · rw [partB_length]; omega
  · have := restB_length (s.drop (room at'))
    rw [List.length_append, partB_length, List.length_take]
    rw [List.length_drop] at this
    omega
/-- What Append answers. -/
def appendR (l s : List UInt8) : List UInt8 × Nat := if 20000 < s.length then ([], 2) else if 1000000 < l.length + (appB l.length s).length then ([], 2) else (l ++ appB l.length s, 0)
set_option maxRecDepth 20000 in
set_option maxHeartbeats 1000000 in
theorem logAppend_any (l s : List UInt8) (w : World) (hl : l.length ≤ 140737488355328) (hs : s.length ≤ 9223372036854775807) :
    Calls Tryz.prog 18 #[.string (bs l), .string (bs s)] w fun e w' => e = .returned (.tuple #[.string (bs (appendR l s).1), .int .i64 (appendR l s).2]) ∧ Below w.heap.size w w' := by
  go_enter Tryz.func18, Tryz.ntmps18
  by_cases hb : 20000 < s.length
  · have hb' : (20000 : Int) < s.length := by omega
    have HA := hide (show appendR l s = ([], 2) from by unfold appendR; rw [if_pos hb])
    clear hb
    go_wp2
    go_ret2
    exact ⟨by rw [HA.out]; rfl, Below.refl _ _⟩
  · have hb' : ¬ (20000 : Int) < s.length := by omega
    have hs2 : s.length ≤ 20000 := by omega
    have hal := appB_length l.length s
    have HA : Hid (appendR l s = if 1000000 < l.length + (appB l.length s).length then ([], 2) else (l ++ appB l.length s, 0)) := hide (by unfold appendR; rw [if_neg hb])
    clear hb
    go_wp2_with fail
    refine (logRecord_any _ (w.heap.size + 1) w.heap.size l.length [] s ⟨by simp, .slice none 0 0, heap_alloc_new w _, World.ownsRow_nil _ _ _ _⟩ (by simp) hs2 (by omega)).mono ?_
    rintro e w1 ⟨hk1, rfl, hh1⟩
    have HK1 : Hid (Below w.heap.size w w1) := hide (((Below.refl _ w).alloc (Nat.le_refl _) _).trans (hk1.below (by omega) (Nat.le_refl _)))
    rw [List.nil_append, List.length_nil, Nat.add_zero] at hh1
    have HH1 := hide hh1
    clear hk1 hh1
    generalize hB : appB l.length s = A at *
    clear hB
    go_wp2_with fail
    refine (logAt_any w1 _ _ _ _ HH1.out (by omega) (by omega)).mono ?_
    rintro e w2 ⟨n, rfl, rfl⟩
    have HK2 : Hid (Below w.heap.size w (w1.drewN n)) := hide (Go.below_drewN HK1.out n)
    have hh2 := holdsL_drew HH1.out n
    generalize w1.drewN n = w2 at *
    clear HK1 HH1
    obtain ⟨hB, v, hb, hown⟩ := hh2
    obtain ⟨c0, c1, z0, z1⟩ := lgTwo hb
    have hcv := run_bytesStr (P := Tryz.prog) (dst := 9) Tryz.underlying77 Tryz.underlying5 Tryz.underlying9 hown
    obtain ⟨ao, cp, rfl⟩ := own_shape hown
    clear hb hown
    by_cases hm : 1000000 < l.length + A.length
    · have hm' : (1000000 : Int) < ((l.length + A.length : Nat) : Int) := by omega
      have HA2 := hide (HA.out.trans (if_pos hm))
      clear HA hm
      go_wp2
      go_ret2
      exact ⟨by rw [HA2.out]; rfl, HK2.out⟩
    · have hm' : ¬ (1000000 : Int) < ((l.length + A.length : Nat) : Int) := by omega
      have HA2 := hide (HA.out.trans (if_neg hm))
      clear HA hm
      go_wp2
      go_ret2
      exact ⟨by rw [HA2.out]; rfl, HK2.out⟩
end Go.Proofs.YtkaeogldielkfaaGreat.Lg
