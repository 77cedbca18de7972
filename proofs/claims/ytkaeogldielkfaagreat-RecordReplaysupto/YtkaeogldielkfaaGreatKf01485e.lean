/- 4 texts in one. -/
import Derived.Laws.OwnMore
import Derived.Test.YtkaeogldielkfaaGreatProg
import Derived.Test.YtkaeogldielkfaaGreatKabe2b5f
import Derived.Test.YtkaeogldielkfaaGreatKa96aaab
import Derived.Test.YtkaeogldielkfaaGreatKa7e3600
import Derived.Test.YtkaeogldielkfaaGreatKde4a8e2
import Derived.Test.YtkaeogldielkfaaGreatK691bfd6
import Derived.Test.YtkaeogldielkfaaGreatK7731767
import Derived.Test.YtkaeogldielkfaaGreatKd1f2bd3
import Derived.Test.YtkaeogldielkfaaGreatKfb00f3c
import Derived.Maps.Own
import Derived.Maps.OwnOps
import Derived.Maps.OwnSet
import Derived.Maps.Views
import Derived.Test.YtkaeogldielkfaaGreatK2180bdf
import Derived.BigQuiet
set_option linter.unusedVariables false
set_option linter.unusedSimpArgs false
namespace Go.Proofs.YtkaeogldielkfaaGreat.Rc
open Go.RowKit Go.Maps Lb
open Go.WideMaps (keyOf_string_mk)
attribute [local go_sem] bs_size bs_toList bs_append bs_get bs_extract
theorem text_short {l : List Lab} (h : checkB l = 0) : (textAns l).length ≤ 10000 := by
  obtain ⟨hl, hs⟩ := check_small h
  rw [textAns_ok h]
  have h1 := escB_le (valueB l ownN)
  have h2 := valueB_le (l := l) (n := ownN) (m := 100) fun x hx => (hs x hx).2
  have h3 := join_len (othersB l) [44]
  have h4 := lens_le (othersB l) 300 (othersB_short hs)
  have h5 := othersB_len l
  unfold Lb.textB
  split
  · omega
  · simp only [List.length_append, List.length_cons, List.length_nil] at h3 ⊢
    omega
set_option maxRecDepth 20000 in
set_option maxHeartbeats 2000000 in
theorem textOf_any (w : World) (x : RefL) (vl : Value) (hv : readsLabels w w.heap.size vl x.2) (hx : okRef x) :
    Calls Tryz.prog 83 #[.agg #[.int .i64 x.1, vl]] w fun e w' => e = .returned (.string (bs (textAns x.2))) ∧ Grow w w' := by
  obtain ⟨x1, ls⟩ := x
  obtain ⟨h0, h1, hl, hin⟩ := hx
  simp only at hv h0 h1 hl hin ⊢
  obtain ⟨lo, lc, rfl⟩ := readsLabels_len hv
  obtain ⟨W, eW, gW, hW⟩ := laid_at w #[.int .i64 x1, .slice lo ls.length lc] 59
  obtain ⟨c0, c1⟩ := two_of hW
  have HG := hide gW
  have HCK := hide (text_any W (.slice lo ls.length lc) ls (readsLabels_mono (readsLabels_below hv gW) gW.size) hl hin)
  generalize textAns ls = T at HCK
  generalize checkB ls = ce at HCK
  clear gW hW hv hin
  go_enter Tryz.func83, Tryz.ntmps83
  go_wp2_with fail
  refine HCK.out.mono ?_
  rintro e w1 ⟨rfl, hw1⟩
  have HG1 : Hid (Grow w w1) := hide (HG.out.trans hw1)
  clear hw1
  go_wp2
  go_ret
  exact ⟨rfl, HG1.out⟩
theorem grownG {w w' : World} (h : Grow w w') : w.grownBy w' none := ⟨h.os, h.tape, h.output, h.size, fun i hi _ => h.block i hi⟩
end Go.Proofs.YtkaeogldielkfaaGreat.Rc
namespace Go.Proofs.YtkaeogldielkfaaGreat.Rc
open Go.RowKit Go.Maps Lb
/-- A ref that is kept, and the value of its labels. -/
abbrev KV := Kp × Value
def kepC : List KV → List Value
  | [] => []
  | p :: l => .int .i64 p.1.1.1 :: p.2 :: .int .i64 p.1.2.1 :: .bool p.1.2.2 :: kepC l
theorem kepC_length (l : List KV) : (kepC l).length = l.length * 4 := by
  induction l with
  | nil => rfl
  | cons x l ih => simp [kepC, ih]; omega
theorem kepC_append (a b : List KV) : kepC (a ++ b) = kepC a ++ kepC b := by
  induction a with
  | nil => rfl
  | cons x l ih => simp [kepC, ih]
theorem kepC_at : ∀ (l : List KV) (i : Nat) (h : i < l.length), (kepC l)[i * 4]? = some (.int .i64 l[i].1.1.1) ∧ (kepC l)[i * 4 + 1]? = some l[i].2 ∧ (kepC l)[i * 4 + 2]? = some (.int .i64 l[i].1.2.1) ∧ (kepC l)[i * 4 + 3]? = some (.bool l[i].1.2.2)
  | [], i, h => by simp at h
  | x :: l, 0, h => by simp [kepC]
  | x :: l, i + 1, h => by
    have := kepC_at l i (by simpa using h)
    have e0 : (i + 1) * 4 = i * 4 + 4 := by omega
    rw [e0]
    simpa [kepC] using this
/-- Nothing has turned but blocks of a kind, and rows and memories alone. -/
structure KeptR (F : Nat → Prop) (w w' : World) : Prop where
  os : w'.os = w.os
  tape : w'.tape = w.tape
  output : w'.output = w.output
  size : w.heap.size ≤ w'.heap.size
  block : ∀ k, k < w.heap.size → ¬ F k → w'.heap[k]? = w.heap[k]?
  typed : ∀ (k : Nat) (c : Array Value) (t : TypeId) (fr : Nat × Nat), w.heap[k]? = some (.cells c t fr) → t ≠ 96 → t ≠ 88 → t ≠ 30 → w'.heap[k]? = some (.cells c t fr)
theorem KeptR.refl (F : Nat → Prop) (w : World) : KeptR F w w := ⟨rfl, rfl, rfl, Nat.le_refl _, fun _ _ _ => rfl, fun _ _ _ _ h _ _ _ => h⟩
theorem KeptR.trans {F : Nat → Prop} {a b c : World} (h : KeptR F a b) (k : KeptR F b c) : KeptR F a c :=
  ⟨k.os.trans h.os, k.tape.trans h.tape, k.output.trans h.output, Nat.le_trans h.size k.size, fun i hi hn => (k.block i (Nat.lt_of_lt_of_le hi h.size) hn).trans (h.block i hi hn), fun i x t fr hx h1 h2 h3 => k.typed i x t fr (h.typed i x t fr hx h1 h2 h3) h1 h2 h3⟩
theorem KeptR.mono {F G : Nat → Prop} {w w' : World} (h : KeptR F w w') (hFG : ∀ k, F k → G k) : KeptR G w w' := ⟨h.os, h.tape, h.output, h.size, fun k hk hn => h.block k hk fun hf => hn (hFG k hf), h.typed⟩
theorem KeptR.grow {F : Nat → Prop} {w w' : World} (g : Grow w w') : KeptR F w w' := ⟨g.os, g.tape, g.output, g.size, fun k hk _ => g.block k hk, fun k c t fr hx _ _ _ => g.get hx⟩
theorem KeptR.below {F : Nat → Prop} {B : Nat} {w w' : World} (h : KeptR F w w') (hF : ∀ k, F k → B ≤ k) (hB : B ≤ w.heap.size) : Below B w w' := ⟨h.os, h.tape, h.output, h.size, fun k hk => h.block k (by omega) fun hf => by have := hF k hf; omega⟩
theorem KeptR.drewN {F : Nat → Prop} (w : World) (n : Nat) : KeptR F w (w.drewN n) := ⟨rfl, rfl, rfl, Nat.le_refl _, fun _ _ _ => rfl, fun _ _ _ _ h _ _ _ => h⟩
theorem KeptR.grownRow {F : Nat → Prop} {B size n : Nat} {w w' : World} {v : Value} {xs : List Value} (h : w.ownsRow B 96 size v n xs) (g : w.grownBy w' v.ownBlock) (hF : ∀ k, v.ownBlock = some k → F k) : KeptR F w w' :=
  ⟨g.os, g.tape, g.output, g.size, fun k hk hn => g.block k hk (fun e => hn (hF k e.symm)), fun k c t fr hx h1 _ _ => grown_block g hx (own_apart h hx (Ne.symm h1))⟩
theorem KeptR.grownMap {F : Nat → Prop} {mb : Nat} {w w' : World} {es : Array MapEntry} {ck : Nat} (h : w.heap[mb]? = some (.map es ck)) (g : w.grownBy w' (some mb)) (hF : F mb) : KeptR F w w' :=
  ⟨g.os, g.tape, g.output, g.size, fun k hk hn => g.block k hk (fun e => hn (by cases e; exact hF)), fun k c t fr hx _ _ _ => grown_block g hx (fun e => by cases e; rw [h] at hx; cases hx)⟩
theorem KeptR.setMem {F : Nat → Prop} {b o : Nat} {w : World} {c : Array Value} {t : TypeId} {fr : Nat × Nat} (h : w.heap[b]? = some (.cells c t fr)) (ht : t = 96 ∨ t = 88 ∨ t = 30) (hF : F b) (u : Value) : KeptR F w (w.setCell ⟨b, o, none⟩ u) :=
  ⟨rfl, rfl, rfl, by simp [World.setCell], fun k hk hn => Below.heap_setCell _ _ _ _ (fun e : k = b => hn (by rw [e]; exact hF)), fun k x s fs hx h1 h2 h3 => (Below.heap_setCell _ _ _ _ (fun e : k = b => by
    subst e; rw [h] at hx; cases hx
    rcases ht with e | e | e
    · exact h1 e
    · exact h2 e
    · exact h3 e)).trans hx⟩
/-- Labels that can be read, whatever becomes of rows and memories from block B on. -/
def SL (B : Nat) (w : World) (v : Value) (ls : List Lab) : Prop := ∀ w', KeptR (fun k => B ≤ k) w w' → readsLabels w' w'.heap.size v ls
theorem SL.keep {B : Nat} {w w' : World} {v : Value} {ls : List Lab} (h : SL B w v ls) (k : KeptR (fun k => B ≤ k) w w') : SL B w' v ls := fun w2 h2 => h w2 (k.trans h2)
theorem SL.reads {B : Nat} {w : World} {v : Value} {ls : List Lab} (h : SL B w v ls) : readsLabels w w.heap.size v ls := h w (KeptR.refl _ _)
theorem SL.more {B B' : Nat} {w : World} {v : Value} {ls : List Lab} (h : SL B w v ls) (hB : B ≤ B') : SL B' w v ls := fun w2 h2 => h w2 (h2.mono fun k hk => by omega)
theorem SL.of_own {B A : Nat} {w : World} {v : Value} {ls : List Lab} (h : ownLabels w A v ls) : SL B w v ls := fun w2 h2 => by
  refine reads_ownLabels (B := A) (own_keep h fun g hg => ?_)
  rcases id h.2 with ⟨hv, _⟩ | ⟨g', cap, cur, r1, r2, r3, _⟩
  · rw [hv] at hg; cases hg
  · rw [r1] at hg
    cases hg
    rw [r3]
    exact h2.typed _ _ _ _ r3 (by decide) (by decide) (by decide)
/-! ### what the maps tell -/
def refMap (K : List Kp) (D : DataW Unit) : Prop := IsMap D ∧ ∀ n : Int, has D (.int .i64 n) = (idxNum K n).isSome ∧ D.atKey (.int .i64 n) (.lit (.int .i64 0)) = .lit (.int .i64 (((idxNum K n).getD 0 : Nat) : Int))
def txtMap (K : List Kp) (D : DataW Unit) : Prop := IsMap D ∧ ∀ T : List UInt8, has D (.string T) = (idxTxt K T).isSome ∧ D.atKey (.string T) (.lit (.int .i64 0)) = .lit (.int .i64 (((idxTxt K T).getD 0 : Nat) : Int))
theorem refMap_nil : refMap [] (.map []) := ⟨isMap_empty, fun n => ⟨rfl, by simp [DataW.atKey, idxNum]⟩⟩
theorem txtMap_nil : txtMap [] (.map []) := ⟨isMap_empty, fun n => ⟨rfl, by simp [DataW.atKey, idxTxt]⟩⟩
theorem refMap_put {K : List Kp} {D : DataW Unit} {x : Kp} (h : refMap K D) (hn : idxNum K x.1.1 = none) : refMap (K ++ [x]) (D.put (.int .i64 x.1.1) (.lit (.int .i64 (K.length : Int)))) := by
  obtain ⟨hm, h⟩ := h
  refine ⟨hm.put _ _, fun n => ?_⟩
  rw [idxNum_snoc]
  by_cases e : x.1.1 = n
  · subst e
    rw [hn, if_pos rfl]
    exact ⟨has_put_same hm (by simp [WideAt.IsKeyLit]) _, atKey_put_same hm (by simp [WideAt.IsKeyLit]) _ _⟩
  · have hne : Lit.int .i64 n ≠ Lit.int .i64 x.1.1 := fun h => e (by simpa using h.symm)
    rw [if_neg e, Option.or_none, has_put_other hne, atKey_put_other hne]
    exact h n
theorem txtMap_put {K : List Kp} {D : DataW Unit} {x : Kp} (h : txtMap K D) (hn : idxTxt K (textAns x.1.2) = none) : txtMap (K ++ [x]) (D.put (.string (textAns x.1.2)) (.lit (.int .i64 (K.length : Int)))) := by
  obtain ⟨hm, h⟩ := h
  refine ⟨hm.put _ _, fun T => ?_⟩
  rw [idxTxt_snoc]
  by_cases e : textAns x.1.2 = T
  · subst e
    rw [hn, if_pos rfl]
    exact ⟨has_put_same hm (by simp [WideAt.IsKeyLit]) _, atKey_put_same hm (by simp [WideAt.IsKeyLit]) _ _⟩
  · have hne : Lit.string T ≠ Lit.string (textAns x.1.2) := fun h => e (by simpa using h.symm)
    rw [if_neg e, Option.or_none, has_put_other hne, atKey_put_other hne]
    exact h T
/-! ### the memory -/
abbrev refsM (w : World) (mb n : Nat) (D : DataW Unit) : Prop := w.ownsMap Tryz.prog 3 (plainElem Tryz.prog 3) mb n D
abbrev textM (w : World) (tb n : Nat) (D : DataW Unit) : Prop := w.ownsMap Tryz.prog 9 (plainElem Tryz.prog 3) tb n D
/-- Block b is a memory that holds K; its blocks are of a kind F. -/
structure memP (w : World) (B : Nat) (F : Nat → Prop) (b : Nat) (K : List Kp) (v : Value) (mb tb : Nat) (ps : List KV) (D1 D2 : DataW Unit) : Prop where
  kept : ps.map (·.1) = K
  at' : w.heap[b]? = some (.cells #[v, .map (some mb), .map (some tb)] 88 (0, 0))
  row : w.ownsRow B 96 4 v K.length (kepC ps)
  m1 : refsM w mb K.length D1
  m2 : textM w tb K.length D2
  ne : mb ≠ tb
  fb : F b
  f1 : F mb
  f2 : F tb
  fv : ∀ g, v.ownBlock = some g → F g
  d1 : refMap K D1
  d2 : txtMap K D2
  labs : ∀ p ∈ ps, SL B w p.2 p.1.1.2
  len : K.length ≤ 2000
def memJ (w : World) (B : Nat) (F : Nat → Prop) (b : Nat) (K : List Kp) : Prop := ∃ v mb tb ps D1 D2, memP w B F b K v mb tb ps D1 D2
theorem memP.keep {w w' : World} {B : Nat} {F : Nat → Prop} {b : Nat} {K : List Kp} {v : Value} {mb tb : Nat} {ps : List KV} {D1 D2 : DataW Unit} (h : memP w B F b K v mb tb ps D1 D2) (hk : ∀ k, F k → k < w.heap.size → w'.heap[k]? = w.heap[k]?) (hB : KeptR (fun k => B ≤ k) w w') : memP w' B F b K v mb tb ps D1 D2 := by
  refine ⟨h.kept, (hk b h.fb (lt_of_block h.at')).trans h.at', own_keep h.row fun g hg => hk g (h.fv g hg) (h.row.lt g hg).2, ?_, ?_, h.ne, h.fb, h.f1, h.f2, h.fv, h.d1, h.d2, fun p hp => (h.labs p hp).keep hB, h.len⟩
  · obtain ⟨es, ck, hb, r⟩ := h.m1
    exact ⟨es, ck, (hk mb h.f1 (lt_of_block hb)).trans hb, r⟩
  · obtain ⟨es, ck, hb, r⟩ := h.m2
    exact ⟨es, ck, (hk tb h.f2 (lt_of_block hb)).trans hb, r⟩
theorem memP.grow {w w' : World} {B : Nat} {F : Nat → Prop} {b : Nat} {K : List Kp} {v : Value} {mb tb : Nat} {ps : List KV} {D1 D2 : DataW Unit} (h : memP w B F b K v mb tb ps D1 D2) (g : Grow w w') : memP w' B F b K v mb tb ps D1 D2 :=
  h.keep (fun k _ hk => g.block k hk) (KeptR.grow g)
theorem memP.mono {w : World} {B : Nat} {F G : Nat → Prop} {b : Nat} {K : List Kp} {v : Value} {mb tb : Nat} {ps : List KV} {D1 D2 : DataW Unit} (h : memP w B F b K v mb tb ps D1 D2) (hFG : ∀ k, F k → k < w.heap.size → G k) : memP w B G b K v mb tb ps D1 D2 := by
  obtain ⟨es, ck, h1, _⟩ := id h.m1
  obtain ⟨es2, ck2, h2, _⟩ := id h.m2
  exact ⟨h.kept, h.at', h.row, h.m1, h.m2, h.ne, hFG _ h.fb (lt_of_block h.at'), hFG _ h.f1 (lt_of_block h1), hFG _ h.f2 (lt_of_block h2), fun g hg => hFG g (h.fv g hg) (h.row.lt g hg).2, h.d1, h.d2, h.labs, h.len⟩
theorem memJ.grow {w w' : World} {B : Nat} {F : Nat → Prop} {b : Nat} {K : List Kp} (h : memJ w B F b K) (g : Grow w w') : memJ w' B F b K := by
  obtain ⟨v, mb, tb, ps, D1, D2, h⟩ := h
  exact ⟨v, mb, tb, ps, D1, D2, h.grow g⟩
theorem memJ.keep {w w' : World} {B : Nat} {F : Nat → Prop} {b : Nat} {K : List Kp} (h : memJ w B F b K) (hk : ∀ k, F k → k < w.heap.size → w'.heap[k]? = w.heap[k]?) (hB : KeptR (fun k => B ≤ k) w w') : memJ w' B F b K := by
  obtain ⟨v, mb, tb, ps, D1, D2, h⟩ := h
  exact ⟨v, mb, tb, ps, D1, D2, h.keep hk hB⟩
theorem memJ.mono {w : World} {B : Nat} {F G : Nat → Prop} {b : Nat} {K : List Kp} (h : memJ w B F b K) (hFG : ∀ k, F k → k < w.heap.size → G k) : memJ w B G b K := by
  obtain ⟨v, mb, tb, ps, D1, D2, h⟩ := h
  exact ⟨v, mb, tb, ps, D1, D2, h.mono hFG⟩
/-- Cells of a row of kept ones. -/
theorem memP.cells {w : World} {B : Nat} {F : Nat → Prop} {b : Nat} {K : List Kp} {v : Value} {mb tb : Nat} {ps : List KV} {D1 D2 : DataW Unit} (h : memP w B F b K v mb tb ps D1 D2) {i : Nat} (hi : i < K.length) :
    ∃ g cap lv, v = .slice (some ⟨g, 0, none⟩) K.length cap ∧ F g ∧ B ≤ g ∧ g < w.heap.size ∧ w.cell? ⟨g, i * 4, none⟩ = some (.int .i64 K[i].1.1) ∧ w.cell? ⟨g, i * 4 + 1, none⟩ = some lv ∧ w.cell? ⟨g, i * 4 + 2, none⟩ = some (.int .i64 K[i].2.1) ∧ w.cell? ⟨g, i * 4 + 3, none⟩ = some (.bool K[i].2.2) ∧ SL B w lv K[i].1.2 ∧
      (∀ o, w.frozen? ⟨g, o, none⟩ = false) := by
  obtain ⟨hpk, _, hrow, _, _, _, _, _, _, hfv, _, _, hlab, _⟩ := h
  subst hpk
  rcases id hrow.2 with ⟨_, h0⟩ | ⟨g, cap, cur, r1, r2, r3, r4, r5, r6, r7⟩
  · omega
  · have hi2 : i < ps.length := by simpa using hi
    have hc := World.ownsRow.cells hrow (g := g) (by rw [r1]; rfl)
    obtain ⟨k0, k1, k2, k3⟩ := kepC_at ps i hi2
    have c0 := hc _ _ k0
    have c1 := hc _ _ k1
    have c2 := hc _ _ k2
    have c3 := hc _ _ k3
    refine ⟨g, cap, ps[i].2, r1, hfv g (by rw [r1]; rfl), r2, lt_of_block r3, ?_, ?_, ?_, ?_, ?_, fun o => by simp [World.frozen?, r3]⟩
    · rw [Addr.add_lit] at c0; simpa using c0
    · rw [Addr.add_lit] at c1; simpa using c1
    · rw [Addr.add_lit] at c2; simpa using c2
    · rw [Addr.add_lit] at c3; simpa using c3
    · have := hlab _ (List.getElem_mem hi2)
      simpa using this
end Go.Proofs.YtkaeogldielkfaaGreat.Rc
namespace Go.Proofs.YtkaeogldielkfaaGreat.Rc
open Go.RowKit Go.Maps Lb
open Go.WideMaps (keyOf_string_mk)
attribute [local go_sem] bs_size bs_toList bs_append bs_get bs_extract
theorem Tryz.keyInt : Keyed Tryz.prog 3 := int_keyed Tryz.underlying3
theorem Tryz.zeroInt (w : World) : (zeroValue 3).run Tryz.prog w = .ok (.int .i64 0) w := by kernel_rfl
theorem okRef_of {x : RefL} (h : refErr x = 0) : okRef x := by
  obtain ⟨⟨h1, h2⟩, _, hc⟩ := refErr_zero h
  obtain ⟨h3, h4⟩ := check_small hc
  exact ⟨by omega, by omega, by omega, fun y hy => by have := h4 y hy; omega⟩
set_option maxRecDepth 20000 in
set_option maxHeartbeats 1000000 in
theorem newMemory_any (w : World) (B : Nat) (F : Nat → Prop) (hF : ∀ k, w.heap.size ≤ k → F k) :
    Calls Tryz.prog 20 #[] w fun e w' => ∃ b, e = .returned (.pointer (some ⟨b, 0, none⟩)) ∧ Grow w w' ∧ memJ w' B F b [] ∧ w.heap.size ≤ b := by
  have hmm := @run_makeMap Tryz.prog
  have h1 : (w.alloc (.map #[] 0)).ownsMap Tryz.prog 3 (plainElem (H := Unit) Tryz.prog 3) w.heap.size 0 (.map []) := World.ownsMap_made _ _ _ _
  obtain ⟨W1, e1⟩ : ∃ W, w.alloc (.map #[] 0) = W := ⟨_, rfl⟩
  have s1 : W1.heap.size = w.heap.size + 1 := by rw [← e1]; simp
  rw [e1] at h1
  have h2 : (W1.alloc (.map #[] 0)).ownsMap Tryz.prog 9 (plainElem (H := Unit) Tryz.prog 3) W1.heap.size 0 (.map []) := World.ownsMap_made _ _ _ _
  have h1' := h1.alloc (.map #[] 0)
  obtain ⟨W2, e2⟩ : ∃ W, W1.alloc (.map #[] 0) = W := ⟨_, rfl⟩
  have s2 : W2.heap.size = W1.heap.size + 1 := by rw [← e2]; simp
  rw [e2] at h2 h1'
  obtain ⟨W3, e3, g3, b3⟩ := laid_at W2 #[.slice none 0 0, .map (some w.heap.size), .map (some W1.heap.size)] 88
  have hP : memP W3 B F W2.heap.size [] (.slice none 0 0) w.heap.size W1.heap.size [] (.map []) (.map []) :=
    ⟨rfl, b3, World.ownsRow_nil _ _ _ _, h1'.kept (grownG g3) (by simp), h2.kept (grownG g3) (by simp), by omega, hF _ (by omega), hF _ (by omega), hF _ (by omega), (fun g hg => by cases hg), refMap_nil, txtMap_nil, (fun p hp => by simp at hp), by simp⟩
  have hG : Grow w W3 := by
    rw [← e3, ← e2, ← e1]
    exact (((Grow.refl _).alloc _).alloc _).alloc _
  rw [s2, s1] at hP
  clear h1 h2 h1' g3 b3
  rw [s1] at e3
  subst e3 e2 e1
  have HP := hide hP
  have HG := hide hG
  clear hP hG s1 s2
  go_enter Tryz.func20, Tryz.ntmps20
  go_wp2
  go_ret
  exact ⟨_, rfl, HG.out, ⟨_, _, _, _, _, _, HP.out⟩, by omega⟩
/-- What 'knows' answers. -/
def ansK (n : Nat) : Ending := if n = 2 then gaveUp 6 else .returned (.bool (decide (n = 1)))
set_option maxRecDepth 20000 in
set_option maxHeartbeats 4000000 in
theorem knows_any (w : World) (B : Nat) (F : Nat → Prop) (b : Nat) (K : List Kp) (x : RefL) (vl : Value) (hm : memJ w B F b K) (hd : Dist K) (hr : rightM K) (hx : refErr x = 0) (hv : readsLabels w w.heap.size vl x.2) :
    Calls Tryz.prog 84 #[.pointer (some ⟨b, 0, none⟩), .agg #[.int .i64 x.1, vl]] w fun e w' => e = ansK (knowsR K x) ∧ Grow w w' := by
  obtain ⟨v, mb, tb, ps, D1, D2, hP⟩ := hm
  have hway := knows_ways hd hr hx
  have hok := okRef_of hx
  have hTs := text_short (refErr_zero hx).2.2
  obtain ⟨E, HE⟩ : ∃ E, Hid (ansK (knowsR K x) = E) := ⟨_, hide rfl⟩
  rw [HE.out]
  have hwf : (Lit.int .i64 x.1).wf = true := WalkArith.wf_i64 ⟨by have := hok.1; omega, by have := hok.2.1; omega⟩
  have hkey1 : keyOf Tryz.prog 3 (.int .i64 x.1) = some (.int .i64 x.1) := keyOf_int_mk Tryz.underlying3 hwf
  have hd1 := hP.d1.2 x.1
  have hd2 := hP.d2.2 (textAns x.2)
  have hm1 := hP.m1
  have hm2 := hP.m2
  have hKl := hP.len
  obtain ⟨vo, vc, hvv⟩ := own_shape hP.row
  subst hvv
  obtain ⟨W, eW, gW, hW⟩ := laid_at w #[.int .i64 x.1, vl] 59
  have HTX := hide (fun w2 (g : Grow W w2) => textOf_any w2 x vl (readsLabels_mono (readsLabels_below hv (gW.trans g)) (gW.trans g).size) hok)
  obtain ⟨lo, lc, rfl⟩ := readsLabels_len hv
  obtain ⟨T, HT⟩ : ∃ T, Hid (textAns x.2 = T) := ⟨_, hide rfl⟩
  rw [HT.out] at HTX hTs hway hd2
  have hkey2 : keyOf Tryz.prog 9 (.string (bs T)) = some (.string T) := by rw [keyOf_string_mk Tryz.underlying9 (by rw [bs_size]; unfold maxLen; omega), bs_data]
  obtain ⟨i, HI⟩ : ∃ i : Nat, Hid ((idxNum K x.1).getD 0 = i) := ⟨_, hide rfl⟩
  obtain ⟨j, HJ⟩ : ∃ j : Nat, Hid ((idxTxt K T).getD 0 = j) := ⟨_, hide rfl⟩
  obtain ⟨t1, HB1⟩ : ∃ t1, Hid ((idxNum K x.1).isSome = t1) := ⟨_, hide rfl⟩
  obtain ⟨t2, HB2⟩ : ∃ t2, Hid ((idxTxt K T).isSome = t2) := ⟨_, hide rfl⟩
  rw [HI.out, HB1.out] at hd1
  rw [HJ.out, HB2.out] at hd2
  have hil : i ≤ 2000 := by
    rw [← HI.out]
    cases h : idxNum K x.1 with
    | none => simp
    | some k => obtain ⟨hk, _⟩ := idxNum_some h; simp; omega
  have hjl : j ≤ 2000 := by
    rw [← HJ.out]
    cases h : idxTxt K T with
    | none => simp
    | some k => obtain ⟨hk, _⟩ := idxTxt_some h; simp; omega
  have HL1 : Hid (∀ w2, Grow w w2 → (Instr.lookup 84 (.map (some mb)) (.int .i64 x.1) true).run Tryz.prog w2 = .ok (.tuple #[.int .i64 i, .bool t1]) w2) := hide fun w2 g => by
    obtain ⟨v, ps, hrun, hv⟩ := World.ownsMap.look_ok (hm1.kept (grownG g) (by simp)) Tryz.keyInt Tryz.underlying84 (Tryz.zeroInt w2) (plainElem_int Tryz.underlying3 (by decide)) hkey1
    obtain ⟨c, rfl, hc, _⟩ := plainElem_int_inv Tryz.underlying3 hv
    have h3 := congrArg Prod.fst hc
    rw [hd1.2] at h3
    rw [hd1.1] at hrun
    simp at h3
    rw [h3]
    exact hrun
  have HL2 : Hid (∀ w2, Grow w w2 → (Instr.lookup 85 (.map (some tb)) (.string (bs T)) true).run Tryz.prog w2 = .ok (.tuple #[.int .i64 j, .bool t2]) w2) := hide fun w2 g => by
    obtain ⟨v, ps, hrun, hv⟩ := World.ownsMap.look_ok (hm2.kept (grownG g) (by simp)) Tryz.keyLaw Tryz.underlying85 (Tryz.zeroInt w2) (plainElem_int Tryz.underlying3 (by decide)) hkey2
    obtain ⟨c, rfl, hc, _⟩ := plainElem_int_inv Tryz.underlying3 hv
    have h3 := congrArg Prod.fst hc
    rw [hd2.2] at h3
    rw [hd2.1] at hrun
    simp at h3
    rw [h3]
    exact hrun
  have HW := hide hW
  have HAT := hide (gW.get hP.at')
  have HGW := hide gW
  have HWAY := hide hway
  clear hP hv hd hr hx hW gW hm1 hm2 hd1 hd2 hkey1 hkey2 hway hwf hKl hok
  go_enter Tryz.func84, Tryz.ntmps84
  go_wp2
  refine wp_region_free 12 39 mixedR rfl (by decide +kernel) Grow (fun _ _ _ => Grow.trans) (Grow.refl _)
    (fun i' v _ => match i' with
      | 0 => v = .pointer (some ⟨b, 0, none⟩)
      | 1 => v = .pointer (some ⟨b, 0, none⟩)
      | 2 => v = .pointer (some ⟨b, 1, none⟩)
      | 3 => v = .map (some mb)
      | 4 => v = .pointer (some ⟨w.heap.size, 0, none⟩)
      | 5 => v = .int .i64 x.1
      | 6 => v = .tuple #[.int .i64 i, .bool t1]
      | 7 => v = .tuple #[.int .i64 i, .bool t1]
      | 8 => v = .int .i64 i
      | 9 => v = .bool t1
      | 10 => v = .int .i64 i
      | _ => v = .bool t1)
    (fun i v w w' h hg => h) (fun _ _ => False) (fun _ _ _ _ h => h.elim) (fun i' hi o ho a w2 hG hoff hdep => ?_) (fun vals w2 hG hvals => ?_)
  · have hg2 : Grow W w2 := hG.undrew
    obtain ⟨c0, c1, c2⟩ := three_of (hg2.get HAT.out)
    obtain ⟨d0, d1⟩ := two_of (hg2.get HW.out)
    have hrun := HL1.out w2 (HGW.out.trans hg2)
    match i', hi with
    | 0, _ =>
      obtain rfl := Option.some.inj ho
      have o0 := hoff 0 (by decide +kernel)
      simp at o0
      simp [opYields, go_sem, o0]
      exact Grow.refl _
    | 1, _ =>
      obtain rfl := Option.some.inj ho
      have d0 := hdep 0 (by decide +kernel)
      simp [slotOf, dstOf] at d0
      simp [opYields, go_sem, d0]
      exact Grow.refl _
    | 2, _ =>
      obtain rfl := Option.some.inj ho
      have d1 := hdep 1 (by decide +kernel)
      simp [slotOf, dstOf] at d1
      simp [opYields, go_sem, d1]
      exact Grow.refl _
    | 3, _ =>
      obtain rfl := Option.some.inj ho
      have d2 := hdep 2 (by decide +kernel)
      simp [slotOf, dstOf] at d2
      simp [opYields, go_sem, d2, c1]
      exact Grow.refl _
    | 4, _ =>
      obtain rfl := Option.some.inj ho
      have o3 := hoff 3 (by decide +kernel)
      simp at o3
      simp [opYields, go_sem, o3]
      exact Grow.refl _
    | 5, _ =>
      obtain rfl := Option.some.inj ho
      have d4 := hdep 4 (by decide +kernel)
      simp [slotOf, dstOf] at d4
      simp [opYields, go_sem, d4, d0]
      exact Grow.refl _
    | 6, _ =>
      obtain rfl := Option.some.inj ho
      have d3 := hdep 3 (by decide +kernel)
      simp [slotOf, dstOf] at d3
      have d5 := hdep 5 (by decide +kernel)
      simp [slotOf, dstOf] at d5
      simp [opYields, go_sem, d3, d5, hrun]
      exact Grow.refl _
    | 7, _ =>
      obtain rfl := Option.some.inj ho
      have d6 := hdep 6 (by decide +kernel)
      simp [slotOf, dstOf] at d6
      simp [opYields, go_sem, d6]
      exact Grow.refl _
    | 8, _ =>
      obtain rfl := Option.some.inj ho
      have d7 := hdep 7 (by decide +kernel)
      simp [slotOf, dstOf] at d7
      simp [opYields, go_sem, d7]
      exact Grow.refl _
    | 9, _ =>
      obtain rfl := Option.some.inj ho
      have d7 := hdep 7 (by decide +kernel)
      simp [slotOf, dstOf] at d7
      simp [opYields, go_sem, d7]
      exact Grow.refl _
    | 10, _ =>
      obtain rfl := Option.some.inj ho
      have d8 := hdep 8 (by decide +kernel)
      simp [slotOf, dstOf] at d8
      simp [opYields, go_sem, d8]
      exact Grow.refl _
    | 11, _ =>
      obtain rfl := Option.some.inj ho
      have d9 := hdep 9 (by decide +kernel)
      simp [slotOf, dstOf] at d9
      simp [opYields, go_sem, d9]
      exact Grow.refl _
    | k + 12, h => exact absurd h (by omega)
  · have v10 := hvals 10 (by omega)
    have v11 := hvals 11 (by omega)
    simp only at v10 v11
    have HG2 : Hid (Grow W w2) := hide hG.undrew
    clear hvals hG eW
    simp [over, dstOf, Act.put, v10, v11]
    clear v10 v11
    go_wp2
    refine wp_region_free 12 39 mixedR rfl (by decide +kernel) Grow (fun _ _ _ => Grow.trans) (Grow.refl _)
      (fun i' v _ => match i' with
        | 0 => v = .pointer (some ⟨b, 0, none⟩)
        | 1 => v = .pointer (some ⟨b, 0, none⟩)
        | 2 => v = .pointer (some ⟨b, 2, none⟩)
        | 3 => v = .map (some tb)
        | 4 => v = .agg #[.int .i64 x.1, .slice lo x.2.length lc]
        | 5 => v = .string (bs T)
        | 6 => v = .tuple #[.int .i64 j, .bool t2]
        | 7 => v = .tuple #[.int .i64 j, .bool t2]
        | 8 => v = .int .i64 j
        | 9 => v = .bool t2
        | 10 => v = .int .i64 j
        | _ => v = .bool t2)
      (fun i v w w' h hg => h) (fun _ _ => False) (fun _ _ _ _ h => h.elim) (fun i' hi o ho a w3 hG hoff hdep => ?_) (fun vals w3 hG hvals => ?_)
    · have hg3 : Grow W w3 := HG2.out.trans hG.undrew
      obtain ⟨c0, c1, c2⟩ := three_of (hg3.get HAT.out)
      obtain ⟨d0, d1⟩ := two_of (hg3.get HW.out)
      have hrun := HL2.out w3 (HGW.out.trans hg3)
      match i', hi with
      | 0, _ =>
        obtain rfl := Option.some.inj ho
        have o0 := hoff 0 (by decide +kernel)
        simp at o0
        simp [opYields, go_sem, o0]
        exact Grow.refl _
      | 1, _ =>
        obtain rfl := Option.some.inj ho
        have d0 := hdep 0 (by decide +kernel)
        simp [slotOf, dstOf] at d0
        simp [opYields, go_sem, d0]
        exact Grow.refl _
      | 2, _ =>
        obtain rfl := Option.some.inj ho
        have d1 := hdep 1 (by decide +kernel)
        simp [slotOf, dstOf] at d1
        simp [opYields, go_sem, d1]
        exact Grow.refl _
      | 3, _ =>
        obtain rfl := Option.some.inj ho
        have d2 := hdep 2 (by decide +kernel)
        simp [slotOf, dstOf] at d2
        simp [opYields, go_sem, d2, c2]
        exact Grow.refl _
      | 4, _ =>
        obtain rfl := Option.some.inj ho
        have o3 := hoff 3 (by decide +kernel)
        simp at o3
        simp [opYields, go_sem, o3, d0, d1]
        exact Grow.refl _
      | 5, _ =>
        obtain rfl := Option.some.inj ho
        have d4 := hdep 4 (by decide +kernel)
        simp [slotOf, dstOf] at d4
        simp [opYields, go_sem, d4]
        refine (HTX.out w3 hg3).mono ?_
        rintro e w4 ⟨rfl, hb⟩
        exact ⟨hb, rfl⟩
      | 6, _ =>
        obtain rfl := Option.some.inj ho
        have d3 := hdep 3 (by decide +kernel)
        simp [slotOf, dstOf] at d3
        have d5 := hdep 5 (by decide +kernel)
        simp [slotOf, dstOf] at d5
        simp [opYields, go_sem, d3, d5, hrun]
        exact Grow.refl _
      | 7, _ =>
        obtain rfl := Option.some.inj ho
        have d6 := hdep 6 (by decide +kernel)
        simp [slotOf, dstOf] at d6
        simp [opYields, go_sem, d6]
        exact Grow.refl _
      | 8, _ =>
        obtain rfl := Option.some.inj ho
        have d7 := hdep 7 (by decide +kernel)
        simp [slotOf, dstOf] at d7
        simp [opYields, go_sem, d7]
        exact Grow.refl _
      | 9, _ =>
        obtain rfl := Option.some.inj ho
        have d7 := hdep 7 (by decide +kernel)
        simp [slotOf, dstOf] at d7
        simp [opYields, go_sem, d7]
        exact Grow.refl _
      | 10, _ =>
        obtain rfl := Option.some.inj ho
        have d8 := hdep 8 (by decide +kernel)
        simp [slotOf, dstOf] at d8
        simp [opYields, go_sem, d8]
        exact Grow.refl _
      | 11, _ =>
        obtain rfl := Option.some.inj ho
        have d9 := hdep 9 (by decide +kernel)
        simp [slotOf, dstOf] at d9
        simp [opYields, go_sem, d9]
        exact Grow.refl _
      | k + 12, h => exact absurd h (by omega)
    · have v10 := hvals 10 (by omega)
      have v11 := hvals 11 (by omega)
      simp only at v10 v11
      have HG3 : Hid (Grow w w3) := hide (HGW.out.trans (HG2.out.trans hG.undrew))
      clear hvals hG HG2 HGW
      simp [over, dstOf, Act.put, v10, v11]
      clear v10 v11
      rcases HWAY.out with ⟨hk, q, h1, h2⟩ | ⟨hk, h1, h2⟩ | ⟨hk, hw⟩
      · have HEK : Hid (Ending.returned (.bool true) = E) := hide (by rw [← HE.out, hk]; rfl)
        have ei : i = q := by rw [← HI.out, h1]; rfl
        have ej : j = q := by rw [← HJ.out, h2]; rfl
        have e1 : t1 = true := by rw [← HB1.out, h1]; rfl
        have e2 : t2 = true := by rw [← HB2.out, h2]; rfl
        clear HE HI HJ HB1 HB2 HWAY hk h1 h2
        subst ei e1 e2
        rw [ej] at *
        have hne : ((i : Int) != (i : Int)) = false := by simp
        go_wp2_with fail
        refine (refuse_any false 6 w3 (by decide)).mono ?_
        rintro e w4 ⟨rfl, hw4⟩
        rw [if_neg (by simp), outc_ok]
        subst hw4
        go_wp2
        go_ret
        exact ⟨HEK.out, HG3.out⟩
      · have HEK : Hid (Ending.returned (.bool false) = E) := hide (by rw [← HE.out, hk]; rfl)
        have ei : i = 0 := by rw [← HI.out, h1]; rfl
        have ej : j = 0 := by rw [← HJ.out, h2]; rfl
        have e1 : t1 = false := by rw [← HB1.out, h1]; rfl
        have e2 : t2 = false := by rw [← HB2.out, h2]; rfl
        clear HE HI HJ HB1 HB2 HWAY hk h1 h2
        subst ei ej e1 e2
        go_wp2_with fail
        refine (refuse_any false 6 w3 (by decide)).mono ?_
        rintro e w4 ⟨rfl, hw4⟩
        rw [if_neg (by simp), outc_ok]
        subst hw4
        go_wp2
        go_ret
        exact ⟨HEK.out, HG3.out⟩
      · have HEK : Hid (gaveUp 6 = E) := hide (by rw [← HE.out, hk]; rfl)
        have hcase : (t1 = true ∧ t2 = false) ∨ (t1 = false ∧ t2 = true) ∨ (t1 = true ∧ t2 = true ∧ i ≠ j) := by
          rcases hw with ⟨q, h1, h2⟩ | ⟨q, h1, h2⟩ | ⟨q, r, h1, h2, h3⟩
          · exact .inl ⟨by rw [← HB1.out, h1]; rfl, by rw [← HB2.out, h2]; rfl⟩
          · exact .inr (.inl ⟨by rw [← HB1.out, h1]; rfl, by rw [← HB2.out, h2]; rfl⟩)
          · exact .inr (.inr ⟨by rw [← HB1.out, h1]; rfl, by rw [← HB2.out, h2]; rfl, by rw [← HI.out, ← HJ.out, h1, h2]; exact h3⟩)
        clear HE HI HJ HB1 HB2 HWAY hk hw
        rcases hcase with ⟨rfl, rfl⟩ | ⟨rfl, rfl⟩ | ⟨rfl, rfl, hij⟩
        · go_wp2_with fail
          refine (refuse_any true 6 w3 (by decide)).mono ?_
          rintro e w4 ⟨rfl, hw4⟩
          rw [if_pos rfl, outc_no (by decide)]
          exact ⟨rfl, HEK.out, by rw [hw4]; exact HG3.out⟩
        · go_wp2_with fail
          refine (refuse_any true 6 w3 (by decide)).mono ?_
          rintro e w4 ⟨rfl, hw4⟩
          rw [if_pos rfl, outc_no (by decide)]
          exact ⟨rfl, HEK.out, by rw [hw4]; exact HG3.out⟩
        · have hne : ((i : Int) != (j : Int)) = true := by simp; omega
          clear hij
          go_wp2_with fail
          refine (refuse_any true 6 w3 (by decide)).mono ?_
          rintro e w4 ⟨rfl, hw4⟩
          rw [if_pos rfl, outc_no (by decide)]
          exact ⟨rfl, HEK.out, by rw [hw4]; exact HG3.out⟩
end Go.Proofs.YtkaeogldielkfaaGreat.Rc
namespace Go.Proofs.YtkaeogldielkfaaGreat.Rc
open Go.RowKit Lb
attribute [local go_sem] bs_size bs_toList bs_append bs_get bs_extract
theorem refuse_no (x : Nat) (w : World) : Calls Tryz.prog 48 #[.bool false, .int .i64 x] w fun e w' => e = .returned (.tuple #[]) ∧ w' = w :=
  (refuse_any false x w (fun h => by cases h)).mono fun e w' h => by obtain ⟨h1, h2⟩ := h; exact ⟨by rw [h1]; rfl, h2⟩
end Go.Proofs.YtkaeogldielkfaaGreat.Rc
