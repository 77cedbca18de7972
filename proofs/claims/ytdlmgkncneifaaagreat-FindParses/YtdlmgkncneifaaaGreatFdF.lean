/- find: parted. -/
import Derived.Laws.OwnMore
import Derived.Laws.AppendOwnNone
import Derived.Deep.AppendLies
import Derived.Maps.AppendAt
import Derived.Test.YtdlmgkncneifaaaGreatProg
import Derived.Test.YtdlmgkncneifaaaGreatKit
import Derived.Test.YtdlmgkncneifaaaGreatReg
import Derived.Test.YtdlmgkncneifaaaGreatLSpec
import Derived.Test.YtdlmgkncneifaaaGreatLRow
import Derived.Test.YtdlmgkncneifaaaGreatFdA
import Derived.Test.YtdlmgkncneifaaaGreatFdD
import Derived.BigQuiet
set_option linter.unusedVariables false
set_option linter.unusedSimpArgs false
namespace Go.Proofs.YtdlmgkncneifaaaGreat.Fd
open Go.RowKit Lb
attribute [local go_sem] bs_size bs_toList bs_append bs_get bs_extract

/-- A target and the value of its labels. -/
abbrev TP := Tgt × Value
theorem infoTgt : (Tryz.prog.info? 36).map (fun i => (i.zero, i.size, i.bytes)) = some (some (.agg #[.slice none 0 0]), 1, 24) := by kernel_rfl
def vals (ps : List TP) : List Value := ps.map (·.2)
def tgts (ps : List TP) : List Tgt := ps.map (·.1)
theorem vals_length (ps : List TP) : (vals ps).length = ps.length := by simp [vals]
theorem tgts_length (ps : List TP) : (tgts ps).length = ps.length := by simp [tgts]
/-- What is left of a row that is read: its cells hold these values. -/
def restT (w : World) (B : Nat) (v : Value) (ps : List TP) : Prop :=
  (v = .slice none 0 0 ∧ ps = []) ∨ ∃ b o cp, v = .slice (some ⟨b, o, none⟩) ps.length cp ∧ ps.length ≤ cp ∧ b < B ∧ ∀ i (h : i < ps.length), w.cell? ⟨b, o + i, none⟩ = some ps[i].2
theorem restT.keep {w w' : World} {B : Nat} {v : Value} {ps : List TP} (h : restT w B v ps) (g : Below B w w') : restT w' B v ps := by
  rcases h with h | ⟨b, o, cp, hv, hc, hb, h⟩
  · exact .inl h
  · exact .inr ⟨b, o, cp, hv, hc, hb, fun i hi => (g.cell (p := ⟨b, _, none⟩) hb).trans (h i hi)⟩
theorem restT.cons {w : World} {B : Nat} {v : Value} {p : TP} {ps : List TP} (h : restT w B v (p :: ps)) : ∃ b o cp, v = .slice (some ⟨b, o, none⟩) (ps.length + 1) cp ∧ ps.length + 1 ≤ cp ∧ b < B ∧ w.cell? ⟨b, o, none⟩ = some p.2 ∧ restT w B (.slice (some ⟨b, o + 1, none⟩) ps.length (cp - 1)) ps ∧ ∀ o' cp', ps = [] → restT w B (.slice (some ⟨b, o', none⟩) 0 cp') ps := by
  rcases h with ⟨_, h⟩ | ⟨b, o, cp, hv, hc, hb, h⟩
  · cases h
  · rw [List.length_cons] at hv hc
    refine ⟨b, o, cp, hv, hc, hb, h 0 (by simp), .inr ⟨b, o + 1, cp - 1, rfl, by omega, hb, fun i hi => ?_⟩, fun o' cp' e => ?_⟩
    · have := h (i + 1) (by simpa using hi)
      rw [show o + 1 + i = o + (i + 1) by omega]
      simpa using this
    · subst e
      exact .inr ⟨b, o', cp', rfl, by simp, hb, fun i hi => absurd hi (by simp)⟩
theorem restT.nil {w : World} {B : Nat} {v : Value} (h : restT w B v []) : v = .slice none 0 0 ∨ ∃ b o cp, v = .slice (some ⟨b, o, none⟩) 0 cp := by
  rcases h with ⟨h, _⟩ | ⟨b, o, cp, hv, _⟩
  · exact .inl h
  · exact .inr ⟨b, o, cp, hv⟩
theorem restT.shape {w : World} {B : Nat} {v : Value} {ps : List TP} (h : restT w B v ps) : ∃ ao cp, v = .slice ao ps.length cp := by
  rcases h with ⟨rfl, rfl⟩ | ⟨b, o, cp, hv, _⟩
  · exact ⟨none, 0, rfl⟩
  · exact ⟨_, _, hv⟩
/-- A row of the call's own that holds these values. -/
def rowT (w : World) (B : Nat) (v : Value) (ps : List TP) : Prop := w.ownsRow B 36 1 v ps.length (vals ps)
def apartV (v u : Value) : Prop := ∀ g, v.ownBlock = some g → u.ownBlock ≠ some g
theorem apartV.symm {v u : Value} (h : apartV v u) : apartV u v := fun g h1 h2 => h g h2 h1
theorem apartV.nil {v : Value} {n c : Nat} : apartV (.slice none n c) v := fun g h => by cases h
theorem rowT.grown {w w' : World} {B : Nat} {v u : Value} {ps : List TP} (h : rowT w B v ps) (hg : w.grownBy w' u.ownBlock) (ha : apartV v u) : rowT w' B v ps := own_keep h fun b hb => hg.block b (h.lt b hb).2 (fun e => ha b hb e.symm)
theorem apartV.moved {w W : World} {B : Nat} {v u u' : Value} {ps : List TP} (h : rowT w B v ps) (ha : apartV v u) (hs : w.heap.size ≤ W.heap.size) (hat : u'.ownBlock = u.ownBlock ∨ u'.ownBlock = some W.heap.size) : apartV v u' := by
  intro g hg e
  rcases hat with h1 | h1
  · rw [h1] at e; exact ha g hg e
  · rw [h1] at e
    have := (h.lt g hg).2
    simp at e
    omega
theorem rowT.reads {w : World} {B : Nat} {v : Value} {ps : List TP} (h : rowT w B v ps) (hl : ∀ p ∈ ps, readsLabels w w.heap.size p.2 p.1) : readsTgts w w.heap.size v (tgts ps) := by
  rcases h.2 with ⟨hv, h0⟩ | ⟨g, cap, cur, hv, h1, h2, h3⟩
  · refine ⟨none, 0, by rw [hv, tgts_length, h0], by rw [tgts_length]; omega, fun i hi => ?_⟩
    rw [tgts_length] at hi
    omega
  · refine ⟨some ⟨g, 0, none⟩, cap, by rw [hv, tgts_length], by rw [tgts_length]; exact h3.1, fun i hi => ?_⟩
    rw [tgts_length] at hi
    have hc := World.ownsRow.cells h (g := g) (by rw [hv]; rfl)
    have r0 := hc i ps[i].2 (by unfold vals; rw [List.getElem?_map, List.getElem?_eq_getElem hi]; rfl)
    rw [Addr.add_lit] at r0
    refine ⟨g, 0, ps[i].2, rfl, lt_of_block h2, ?_, by simpa using r0⟩
    have e : (tgts ps)[i]'(by rw [tgts_length]; exact hi) = ps[i].1 := by simp [tgts]
    rw [e]
    exact hl _ (List.getElem_mem hi)
theorem rowT.rest {w : World} {B : Nat} {v : Value} {ps : List TP} (h : rowT w B v ps) : restT w w.heap.size v ps := by
  rcases h.2 with ⟨hv, h0⟩ | ⟨g, cap, cur, hv, h1, h2, h3⟩
  · exact .inl ⟨hv, List.eq_nil_of_length_eq_zero h0⟩
  · refine .inr ⟨g, 0, cap, hv, h3.1, lt_of_block h2, fun i hi => ?_⟩
    have hc := World.ownsRow.cells h (g := g) (by rw [hv]; rfl)
    have r0 := hc i ps[i].2 (by unfold vals; rw [List.getElem?_map, List.getElem?_eq_getElem hi]; rfl)
    rw [Addr.add_lit] at r0
    simpa using r0
def slLen : Value → Nat
  | .slice _ n _ => n
  | _ => 0
theorem one_vals {w : World} {B : Nat} {ps : List TP} (h : ∀ p ∈ ps, readsLabels w B p.2 p.1) : ∀ u ∈ vals ps, u.oneCell' = true := by
  intro u hu
  obtain ⟨p, hp, rfl⟩ := List.mem_map.1 hu
  obtain ⟨ao, cp, e⟩ := readsLabels_len (h p hp)
  rw [e]; rfl
theorem ret_three {a b c d e f : Value} (h : a = d) (k : b = e) (l : c = f) : Ending.returned (.tuple #[a, b, c]) = .returned (.tuple #[d, e, f]) := by rw [h, k, l]
/-- What the rounds of parted keep. -/
structure PartJ (w : World) (pa pb : List TP) (va vb v1 v2 v3 : Value) (a b p1 p2 p3 : List TP) (wr : World) : Prop where
  ra : restT wr w.heap.size va a
  rb : restT wr w.heap.size vb b
  r1 : rowT wr w.heap.size v1 p1
  r2 : rowT wr w.heap.size v2 p2
  r3 : rowT wr w.heap.size v3 p3
  a12 : apartV v1 v2
  a13 : apartV v1 v3
  a23 : apartV v2 v3
  ins : (∀ p ∈ a, p ∈ pa) ∧ (∀ p ∈ b, p ∈ pb) ∧ (∀ p ∈ p1, p ∈ pa) ∧ (∀ p ∈ p2, p ∈ pa) ∧ (∀ p ∈ p3, p ∈ pb)
  eq : partT (tgts pa) (tgts pb) = (tgts p1 ++ (partT (tgts a) (tgts b)).1, tgts p2 ++ (partT (tgts a) (tgts b)).2.1, tgts p3 ++ (partT (tgts a) (tgts b)).2.2)
  gr : Grow w wr
theorem PartJ.lens {w : World} {pa pb : List TP} {va vb v1 v2 v3 : Value} {a b p1 p2 p3 : List TP} {wr : World} (h : PartJ w pa pb va vb v1 v2 v3 a b p1 p2 p3 wr) : p1.length + p2.length + a.length = pa.length ∧ p3.length + p2.length + b.length = pb.length := by
  have h1 := part_len (tgts pa) (tgts pb)
  have h2 := part_len (tgts a) (tgts b)
  rw [h.eq] at h1
  simp only [List.length_append, tgts_length] at h1 h2
  omega
theorem PartJ.keep {w : World} {pa pb : List TP} {va vb v1 v2 v3 : Value} {a b p1 p2 p3 : List TP} {wr wr' : World} (h : PartJ w pa pb va vb v1 v2 v3 a b p1 p2 p3 wr) (g : Grow wr wr') : PartJ w pa pb va vb v1 v2 v3 a b p1 p2 p3 wr' :=
  ⟨h.ra.keep (g.mono h.gr.size), h.rb.keep (g.mono h.gr.size), own_grow h.r1 g, own_grow h.r2 g, own_grow h.r3 g, h.a12, h.a13, h.a23, h.ins, h.eq, h.gr.trans g⟩
theorem tgts_cons (p : TP) (l : List TP) : tgts (p :: l) = p.1 :: tgts l := rfl
theorem tgts_append (a b : List TP) : tgts (a ++ b) = tgts a ++ tgts b := by simp [tgts]
theorem vals_append (a b : List TP) : vals (a ++ b) = vals a ++ vals b := by simp [vals]
theorem vals_one (p : TP) : vals [p] = [p.2] := rfl
section
variable {w : World} {pa pb : List TP} {va vb v1 v2 v3 : Value} {x y : TP} {a b p1 p2 p3 : List TP} {wr W w' : World}
theorem PartJ.less (h : PartJ w pa pb va vb v1 v2 v3 (x :: a) (y :: b) p1 p2 p3 wr) (ho : ordB x.1 y.1 < 0) (hW : Grow wr W) {va' v1' : Value} (hra : restT wr w.heap.size va' a) (h1 : w'.ownsRow w.heap.size 36 1 v1' (p1.length + 1) (vals p1 ++ [x.2])) (hg : W.grownBy w' v1.ownBlock) (hat : v1'.ownBlock = v1.ownBlock ∨ v1'.ownBlock = some W.heap.size) : PartJ w pa pb va' vb v1' v2 v3 a (y :: b) (p1 ++ [x]) p2 p3 w' := by
  have hb : Below w.heap.size W w' := (Below.refl _ _).grown hg (Nat.le_trans h.gr.size hW.size) (fun k hk => (h.r1.lt k hk).1)
  have k := h.keep hW
  obtain ⟨i1, i2, i3, i4, i5⟩ := h.ins
  refine ⟨(hra.keep (hW.mono h.gr.size)).keep hb, k.rb.keep hb, ?_, k.r2.grown hg h.a12.symm, k.r3.grown hg h.a13.symm, (apartV.moved k.r2 h.a12.symm (Nat.le_refl _) hat).symm, (apartV.moved k.r3 h.a13.symm (Nat.le_refl _) hat).symm, h.a23, ⟨fun p hp => i1 p (List.mem_cons_of_mem _ hp), i2, fun p hp => ?_, i4, i5⟩, ?_, Below.trans k.gr hb⟩
  · unfold rowT
    rw [List.length_append, vals_append]
    exact h1
  · rcases List.mem_append.1 hp with hp | hp
    · exact i3 p hp
    · rw [List.mem_singleton] at hp; subst hp; exact i1 _ (by simp)
  · rw [h.eq, tgts_append, tgts_cons, tgts_cons]
    conv => lhs; rw [partT, if_pos ho]
    simp [tgts]
theorem PartJ.more (h : PartJ w pa pb va vb v1 v2 v3 (x :: a) (y :: b) p1 p2 p3 wr) (ho : 0 < ordB x.1 y.1) (hW : Grow wr W) {vb' v3' : Value} (hrb : restT wr w.heap.size vb' b) (h1 : w'.ownsRow w.heap.size 36 1 v3' (p3.length + 1) (vals p3 ++ [y.2])) (hg : W.grownBy w' v3.ownBlock) (hat : v3'.ownBlock = v3.ownBlock ∨ v3'.ownBlock = some W.heap.size) : PartJ w pa pb va vb' v1 v2 v3' (x :: a) b p1 p2 (p3 ++ [y]) w' := by
  have hb : Below w.heap.size W w' := (Below.refl _ _).grown hg (Nat.le_trans h.gr.size hW.size) (fun k hk => (h.r3.lt k hk).1)
  have k := h.keep hW
  obtain ⟨i1, i2, i3, i4, i5⟩ := h.ins
  refine ⟨k.ra.keep hb, (hrb.keep (hW.mono h.gr.size)).keep hb, k.r1.grown hg h.a13, k.r2.grown hg h.a23, ?_, h.a12, apartV.moved k.r1 h.a13 (Nat.le_refl _) hat, apartV.moved k.r2 h.a23 (Nat.le_refl _) hat, ⟨i1, fun p hp => i2 p (List.mem_cons_of_mem _ hp), i3, i4, fun p hp => ?_⟩, ?_, Below.trans k.gr hb⟩
  · unfold rowT
    rw [List.length_append, vals_append]
    exact h1
  · rcases List.mem_append.1 hp with hp | hp
    · exact i5 p hp
    · rw [List.mem_singleton] at hp; subst hp; exact i2 _ (by simp)
  · rw [h.eq, tgts_append, tgts_cons, tgts_cons]
    conv => lhs; rw [partT, if_neg (by omega), if_pos ho]
    simp [tgts]
theorem PartJ.same (h : PartJ w pa pb va vb v1 v2 v3 (x :: a) (y :: b) p1 p2 p3 wr) (ho : ordB x.1 y.1 = 0) (hW : Grow wr W) {va' vb' v2' : Value} (hra : restT wr w.heap.size va' a) (hrb : restT wr w.heap.size vb' b) (h1 : w'.ownsRow w.heap.size 36 1 v2' (p2.length + 1) (vals p2 ++ [x.2])) (hg : W.grownBy w' v2.ownBlock) (hat : v2'.ownBlock = v2.ownBlock ∨ v2'.ownBlock = some W.heap.size) : PartJ w pa pb va' vb' v1 v2' v3 a b p1 (p2 ++ [x]) p3 w' := by
  have hb : Below w.heap.size W w' := (Below.refl _ _).grown hg (Nat.le_trans h.gr.size hW.size) (fun k hk => (h.r2.lt k hk).1)
  have k := h.keep hW
  obtain ⟨i1, i2, i3, i4, i5⟩ := h.ins
  refine ⟨(hra.keep (hW.mono h.gr.size)).keep hb, (hrb.keep (hW.mono h.gr.size)).keep hb, k.r1.grown hg h.a12, ?_, k.r3.grown hg h.a23.symm, apartV.moved k.r1 h.a12 (Nat.le_refl _) hat, h.a13, (apartV.moved k.r3 h.a23.symm (Nat.le_refl _) hat).symm, ⟨fun p hp => i1 p (List.mem_cons_of_mem _ hp), fun p hp => i2 p (List.mem_cons_of_mem _ hp), i3, fun p hp => ?_, i5⟩, ?_, Below.trans k.gr hb⟩
  · unfold rowT
    rw [List.length_append, vals_append]
    exact h1
  · rcases List.mem_append.1 hp with hp | hp
    · exact i4 p hp
    · rw [List.mem_singleton] at hp; subst hp; exact i1 _ (by simp)
  · rw [h.eq, tgts_append, tgts_cons, tgts_cons]
    conv => lhs; rw [partT, if_neg (by omega), if_neg (by omega)]
    simp [tgts]
end
end Go.Proofs.YtdlmgkncneifaaaGreat.Fd
