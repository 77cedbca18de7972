/- 2 texts in one. -/
import Derived.Test.YtkaeogldielkfaaGreatProg
import Derived.Test.YtkaeogldielkfaaGreatKabe2b5f
import Derived.Test.YtkaeogldielkfaaGreatKa96aaab
import Derived.Test.YtkaeogldielkfaaGreatKc40ae49
import Derived.Lib.AppendZeros
import Derived.Lib.AppendStr
import Derived.Test.YtkaeogldielkfaaGreatK1e38180
import Derived.BigQuiet
import Derived.OneCell
set_option linter.unusedVariables false
set_option linter.unusedSimpArgs false
namespace Go.Proofs.YtkaeogldielkfaaGreat.Lg
open Go.RowKit
attribute [local go_sem] bs_size bs_toList bs_append bs_get bs_extract
theorem Tryz.info5l : (Tryz.prog.info? 5).map (fun i => (i.zero, i.size, i.bytes)) = some (some (.int .u8 0), 1, 1) := by kernel_rfl
theorem Tryz.mixed3 : Tryz.prog.follows .mixedOrders = true := by kernel_rfl
theorem left_any (at' : Nat) (w : World) (h : at' ≤ 9223372036854775807) :
    Calls Tryz.prog 79 #[.int .i64 at'] w fun e w' => e = .returned (.int .i64 ((128 - at' % 128 : Nat) : Int)) ∧ w' = w := by
  go_enter Tryz.func79, Tryz.ntmps79
  go_wp2
  go_ret
  exact ⟨ret_int (by omega), rfl⟩
theorem left_any_i (a : Int) (at' : Nat) (w : World) (h : at' ≤ 9223372036854775807) (ha : a = at') :
    Calls Tryz.prog 79 #[.int .i64 a] w fun e w' => e = .returned (.int .i64 ((128 - at' % 128 : Nat) : Int)) ∧ w' = w := by
  subst ha; exact left_any at' w h
/-- Block b is a writer that holds the bytes l; its row is among the blocks from B on. -/
def holdsL (w : World) (B b frm : Nat) (l : List UInt8) : Prop :=
  B ≤ w.heap.size ∧ ∃ v, w.heap[b]? = some (.cells #[.int .i64 frm, v] 81 (0, 0)) ∧ w.ownsRow B 5 1 v l.length (bytesV l)
theorem lgTwo {w : World} {b : Nat} {x y : Value} {t : TypeId} (h : w.heap[b]? = some (.cells #[x, y] t (0, 0))) : w.cell? ⟨b, 0, none⟩ = some x ∧ w.cell? ⟨b, 1, none⟩ = some y ∧ w.frozen? ⟨b, 0, none⟩ = false ∧ w.frozen? ⟨b, 1, none⟩ = false := by simp [World.cell?, World.frozen?, h]
theorem lgSet {w : World} {b i : Nat} {c : Array Value} {t : TypeId} {fr : Nat × Nat} (h : w.heap[b]? = some (.cells c t fr)) (u : Value) : (w.setCell ⟨b, i, none⟩ u).heap[b]? = some (.cells (c.setIfInBounds i u) t fr) := by
  have hlt := lt_of_block h
  have h' : w.heap[b] = .cells c t fr := by simpa [Array.getElem?_eq_getElem hlt] using h
  show (w.heap.modify b _)[b]? = _
  rw [Array.getElem?_eq_getElem (by simpa using hlt), Array.getElem_modify_self, h']
  rfl
/-- Nothing has turned below block B, but for block b. -/
structure KeptB (B b : Nat) (w w' : World) : Prop where
  os : w'.os = w.os
  tape : w'.tape = w.tape
  output : w'.output = w.output
  size : w.heap.size ≤ w'.heap.size
  block : ∀ k, k < B → k ≠ b → w'.heap[k]? = w.heap[k]?
theorem KeptB.refl (B b : Nat) (w : World) : KeptB B b w w := ⟨rfl, rfl, rfl, Nat.le_refl _, fun _ _ _ => rfl⟩
theorem KeptB.trans {B b : Nat} {a c d : World} (h : KeptB B b a c) (k : KeptB B b c d) : KeptB B b a d :=
  ⟨k.os.trans h.os, k.tape.trans h.tape, k.output.trans h.output, Nat.le_trans h.size k.size, fun i hi hn => (k.block i hi hn).trans (h.block i hi hn)⟩
theorem keptB_of {B b : Nat} {w w' : World} (h : Below B w w') : KeptB B b w w' := ⟨h.os, h.tape, h.output, h.size, fun k hk _ => h.block k hk⟩
theorem KeptB.below {B b A : Nat} {w w' : World} (h : KeptB B b w w') (h1 : A ≤ B) (h2 : A ≤ b) : Below A w w' := ⟨h.os, h.tape, h.output, h.size, fun k hk => h.block k (by omega) (by omega)⟩
theorem KeptB.setCell {B b : Nat} {w w' : World} (h : KeptB B b w w') (i : Nat) (v : Value) : KeptB B b w (w'.setCell ⟨b, i, none⟩ v) :=
  ⟨h.os, h.tape, h.output, by simpa [World.setCell] using h.size, fun k hk hn => (Below.heap_setCell _ _ _ _ hn).trans (h.block k hk hn)⟩
/-- What a writer's method does: it writes some bytes. -/
def put (B b frm : Nat) (l out : List UInt8) (w : World) (e : Ending) (w' : World) : Prop :=
  KeptB B b w w' ∧ e = .returned (.tuple #[]) ∧ holdsL w' B b frm (l ++ out)
/-- Bytes more, in a row that a call owns: as the walk has it. -/
theorem append_plain {W : World} {v : Value} {ops : Array Oper} {rest : List Oper} {o : Oper} {a : Act} {Q : Exit → Act → World → Prop} (hgd : o.guard = none) (s x : Operand)
    (ho : o.op = .call { callee := .builtin .append, args := #[s, x], argTypes := #[77, 77] })
    (base : Nat) (d c : List UInt8) (arr : Array Value) (m : Nat) (hm : m = c.length) (hs : a.eval s = v) (hown : W.ownsRow base 5 1 v d.length (bytesV d)) (hx : a.eval x = .slice (some ⟨W.heap.size, 0, none⟩) m m)
    (hlen : d.length + c.length ≤ 100000000) (hbase : base ≤ W.heap.size)
    (h : arr.toList = bytesV c ∧ ∀ ao cp n w', Hid (n = (d ++ c).length) → n ≤ 100000000 → w'.ownsRow base 5 1 (.slice ao n cp) (d ++ c).length (bytesV (d ++ c)) → Below base W w' → wpList Tryz.prog ops Q rest (a.put o.dst (.slice ao n cp)) w') :
    wpList Tryz.prog ops Q (o :: rest) a (W.alloc (.cells arr 5)) := by
  subst hm
  obtain ⟨harr, h⟩ := h
  obtain ⟨i0, hi0, hz0, hz1, hz2⟩ := info_parts Tryz.info5l
  have hb2 : Below base W (W.alloc (.cells arr 5)) := (Below.refl _ _).alloc hbase _
  have hnew := heap_alloc_new W (.cells arr 5)
  have hsz := hb2.size
  have hown' := hown.alloc (.cells arr 5)
  have hcell : ∀ j u, (bytesV c)[j]? = some u → (W.alloc (.cells arr 5)).cell? ((⟨W.heap.size, 0, none⟩ : Addr).add j) = some u := by
    intro j u hu
    rw [← harr] at hu
    rw [Addr.add_lit]
    simp only [World.cell?, hnew]
    simpa using hu
  generalize (W.alloc (.cells arr 5)) = V at *
  refine wpList_append_own _ hgd s x 77 ho base 5 i0 (.int .u8 0) 1 1 Tryz.underlying77 hi0 hz0 hz1 hz2 rfl (by omega) v d.length (bytesV d) hs hown' ⟨W.heap.size, 0, none⟩ c.length c.length (bytesV c) hx (by rw [bytesV_length, Nat.mul_one]) hcell (bytesV_oneCell c) (by unfold maxLen; omega) (by omega) (by omega) ?_
  intro v' w' hown2 hgrow _
  rw [← bytesV_append, ← List.length_append] at hown2
  obtain ⟨ao, cp, rfl⟩ := own_shape hown2
  exact h ao cp _ w' (hide rfl) (by rw [List.length_append]; omega) hown2 (hb2.grown hgrow (by omega) (fun k hk => (hown'.lt k hk).1))
set_option maxRecDepth 20000 in
set_option maxHeartbeats 1000000 in
theorem rNoughts_any (at' : Nat) (w : World) (h : at' ≤ 281474976710656) :
    Calls Tryz.prog 72 #[.int .i64 at'] w fun e w' => e = .returned (.string (bs (padL at'))) ∧ Grow w w' := by
  have HP : Hid (∀ k, (∀ j, j < k → 121 < (at' + j) % 128) → ¬ 121 < (at' + k) % 128 → List.replicate k (0 : UInt8) = padL at') := hide (by
    intro k h1 h2
    unfold padL
    by_cases h7 : 128 - at' % 128 < 7
    · rw [if_pos h7]
      congr 1
      have h3 : ¬ 128 - at' % 128 < k := fun h => by have := h1 _ h; omega
      by_cases h4 : k < 128 - at' % 128
      · omega
      · omega
    · rw [if_neg h7]
      by_cases h0 : k = 0
      · subst h0; rfl
      · have := h1 0 (by omega); omega)
  go_enter Tryz.func72, Tryz.ntmps72
  go_wp2
  go_loopw [3] (fun s wr => ∃ k : Nat, k ≤ 6 ∧ s = .string (bs (List.replicate k 0)) ∧ Grow w wr ∧ Hid (∀ j, j < k → 121 < (at' + j) % 128)) (fun s _ => 10 - (match s with | .string b => b.size | _ => 0))
  case atStart => exact ⟨0, by omega, rfl, Grow.refl _, hide (fun j h => by omega)⟩
  case round =>
    obtain ⟨k, hk, rfl, hg, HJ⟩ := hrel
    rename World => wr
    have hl : (List.replicate k (0 : UInt8)).length = k := List.length_replicate
    have HS := hide (show bs (List.replicate k 0 ++ [0]) = bs (List.replicate (k + 1) 0) from by rw [List.replicate_succ'])
    have hsz : (bs (List.replicate k 0)).size = k := by rw [bs_size, hl]
    have hcv := run_oneByte (P := Tryz.prog) wr Tryz.underlying77 Tryz.underlying5 Tryz.underlying9 5 0 0 rfl
    by_cases hgo : 121 < (at' + k) % 128
    · have hk6 : k < 6 := by
        apply Nat.lt_of_not_le
        intro h6
        have e : k = 6 := by omega
        subst e
        have h0 := HJ.out 0 (by omega)
        have h1 := HJ.out 5 (by omega)
        omega
      have hgo' : (121 : Int) < ((at' : Int) + k) % 128 := by omega
      go_wp2
      go_roundw
      case rel => exact ⟨k + 1, by omega, by rw [HS.out], hg.alloc _, hide (fun j hj => by
        by_cases e : j = k
        · subst e; exact hgo
        · exact HJ.out j (by omega))⟩
      case measure =>
        have h2 : (bs (List.replicate k 0 ++ [0])).size = k + 1 := by rw [HS.out, bs_size, List.length_replicate]
        simp only [h2, hsz]
        omega
    · have hgo' : ¬ (121 : Int) < ((at' : Int) + k) % 128 := by omega
      have HQ := hide (HP.out k HJ.out hgo)
      go_wp2
      go_ret
      exact ⟨by rw [← HQ.out]; rfl, hg⟩
/-- The lowest i bytes of a number. -/
def leF : Nat → Nat → List UInt8
  | 0, _ => []
  | i + 1, c => leF i c ++ [UInt8.ofNat (c / 256 ^ i)]
theorem leF_length : ∀ i c, (leF i c).length = i
  | 0, _ => rfl
  | i + 1, c => by rw [leF, List.length_append, leF_length]; rfl
theorem leF_four (c : Nat) : leF 4 c = le4 c := by simp [leF, le4]
theorem one_arrL (n : Nat) (x : Int) (h : x = ((n % 256 : Nat) : Int)) : (#[Value.int .u8 x] : Array Value).toList = bytesV [UInt8.ofNat n] := by
  subst h
  simp [bytesV]
theorem three_arrL (n1 n2 n3 : Nat) (x y z : Int) (h1 : x = ((n1 % 256 : Nat) : Int)) (h2 : y = ((n2 % 256 : Nat) : Int)) (h3 : z = ((n3 % 256 : Nat) : Int)) : (#[Value.int .u8 x, Value.int .u8 y, Value.int .u8 z] : Array Value).toList = bytesV [UInt8.ofNat n1, UInt8.ofNat n2, UInt8.ofNat n3] := by
  subst h1; subst h2; subst h3
  simp [bytesV]
/-- A row that has just been laid is the call's own. -/
theorem own_laid (W : World) (base : Nat) (hb : base ≤ W.heap.size) (arr : Array Value) (d : List UInt8) (h : arr.toList = bytesV d) (hd : d.length ≤ 1000) (n : Nat) (hn : n = d.length) : (W.alloc (.cells arr 5)).ownsRow base 5 1 (.slice (some ⟨W.heap.size, 0, none⟩) n n) d.length (bytesV d) := by
  subst hn
  have hs : arr.size = d.length := by rw [← Array.length_toList, h, bytesV_length]
  exact ⟨by rw [bytesV_length, Nat.mul_one], .inr ⟨W.heap.size, d.length, arr, rfl, hb, heap_alloc_new W _, Nat.le_refl _, by unfold maxLen; omega, by omega, by rw [h, List.take_of_length_le (by rw [bytesV_length]; omega)]⟩⟩
set_option maxRecDepth 20000 in
set_option maxHeartbeats 1000000 in
theorem rPartOf_any (k : Nat) (s : List UInt8) (w : World) (hk : k < 256) (hs : s.length ≤ 100000) :
    Calls Tryz.prog 73 #[.int .i64 k, .string (bs s)] w fun e w' => e = .returned (.string (bs (partB k s))) ∧ Grow w w' := by
  have HC := hide (ckSum_lt s)
  have HP := hide (show partB k s = [UInt8.ofNat k, UInt8.ofNat s.length, UInt8.ofNat (s.length / 256)] ++ leF 4 (ckSum s) ++ s from by rw [leF_four]; rfl)
  go_enter Tryz.func73, Tryz.ntmps73
  go_wp2_with fail
  refine (checkOf_any s _ (by omega)).mono ?_
  rintro e w1 ⟨rfl, rfl⟩
  have hown := own_laid w w.heap.size (Nat.le_refl _) #[.int .u8 k, .int .u8 ((s.length : Int) % 256), .int .u8 ((s.length : Int) / 256 % 256)] [UInt8.ofNat k, UInt8.ofNat s.length, UInt8.ofNat (s.length / 256)] (three_arrL _ _ _ _ _ _ (by omega) (by omega) (by omega)) (by simp) 3 rfl
  obtain ⟨c, hc⟩ : ∃ c, c = ckSum s := ⟨_, rfl⟩
  rw [← hc] at HC HP ⊢
  clear hc
  have hg : Grow w (w.alloc (.cells #[.int .u8 k, .int .u8 ((s.length : Int) % 256), .int .u8 ((s.length : Int) / 256 % 256)] 5)) := (Grow.refl w).alloc _
  generalize w.alloc (.cells #[.int .u8 k, .int .u8 ((s.length : Int) % 256), .int .u8 ((s.length : Int) / 256 % 256)] 5) = w2 at *
  go_wp2_with fail
  go_loopw [5, 6, 7] (fun v x i wr => ∃ (j : Nat) (ao : Option Addr) (n cp : Nat), j ≤ 4 ∧ i = .int .i64 j ∧ x = .int .i64 (c / 256 ^ j : Nat) ∧ v = .slice ao n cp ∧ Hid (n = 3 + j) ∧ Hid (wr.ownsRow w.heap.size 5 1 (.slice ao n cp) (3 + j) (bytesV ([UInt8.ofNat k, UInt8.ofNat s.length, UInt8.ofNat (s.length / 256)] ++ leF j c))) ∧ Hid (Grow w wr)) (fun _ _ i _ => 4 - (intOf i).toNat)
  case atStart => exact ⟨0, _, 3, 3, by omega, rfl, by simp, rfl, hide rfl, hide (by simpa [leF] using hown), hide hg⟩
  case round =>
    obtain ⟨j, ao, n, cp, hj, rfl, rfl, rfl, HN, HO, HG⟩ := hrel
    rename World => wr
    have hl3 : ([UInt8.ofNat k, UInt8.ofNat s.length, UInt8.ofNat (s.length / 256)] ++ leF j c).length = 3 + j := by simp [leF_length]; omega
    have HL3 := hide hl3
    have hpow : Hid (c / 256 ^ j / 256 = c / 256 ^ (j + 1)) := hide (by rw [Nat.div_div_eq_div_mul, Nat.pow_succ])
    have hlt : c / 256 ^ j < 4294967296 := Nat.lt_of_le_of_lt (Nat.div_le_self _ _) HC.out
    have HLF : Hid ([UInt8.ofNat k, UInt8.ofNat s.length, UInt8.ofNat (s.length / 256)] ++ leF (j + 1) c = ([UInt8.ofNat k, UInt8.ofNat s.length, UInt8.ofNat (s.length / 256)] ++ leF j c) ++ [UInt8.ofNat (c / 256 ^ j)]) := hide (by rw [leF, List.append_assoc])
    have H4 : Hid (j = 4 → partB k s = ([UInt8.ofNat k, UInt8.ofNat s.length, UInt8.ofNat (s.length / 256)] ++ leF j c) ++ s) := hide (fun h => by rw [HP.out, h])
    clear hl3
    generalize c / 256 ^ j = q at hpow hlt HLF
    generalize ([UInt8.ofNat k, UInt8.ofNat s.length, UInt8.ofNat (s.length / 256)] ++ leF j c) = d at HO HL3 HLF H4
    have hB : w.heap.size ≤ wr.heap.size := HG.out.size
    by_cases hj4 : j < 4
    · go_wp2_with (at_builtin; refine append_plain rfl (.tmp 25) (.tmp 29) rfl w.heap.size d [UInt8.ofNat q] _ 1 rfl rfl (by rw [HL3.out]; exact HO.out) rfl (by rw [HL3.out, List.length_singleton]; omega) hB ?_; refine And.intro (by exact one_arrL q _ (by omega)) ?_; intro ao7 cp7 n7 w7 hn7 hn7l hown7 hb7; have HO7 := hide hown7; have HB7 := hide hb7; clear hown7 hb7)
      go_roundw
      case rel =>
        have h7 : (d ++ [UInt8.ofNat q]).length = 3 + (j + 1) := by rw [List.length_append, HL3.out]; rfl
        have ho7 := HO7.out
        rw [h7, ← HLF.out] at ho7
        exact ⟨j + 1, ao7, n7, cp7, by omega, by go_num, by rw [← hpow.out]; first | rfl | go_num, rfl, hide (by rw [hn7.out, h7]), hide ho7, hide (Below.trans HG.out HB7.out)⟩
      case measure => simp [intOf]; omega
    · have hj4' : j = 4 := by omega
      have ho := HO.out
      rw [← HL3.out] at ho
      have hcv := run_bytesStr (P := Tryz.prog) (dst := 9) Tryz.underlying77 Tryz.underlying5 Tryz.underlying9 ho
      have HQ := hide (H4.out hj4')
      clear ho
      have hg2 := HG.out
      have hdl : d.length ≤ 7 := by rw [HL3.out]; omega
      go_wp2
      go_ret
      exact ⟨by rw [HQ.out]; rfl, hg2⟩
end Go.Proofs.YtkaeogldielkfaaGreat.Lg
