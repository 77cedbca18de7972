/- 8 texts in one. -/
import Derived.Laws.OwnMore
import Derived.Test.YtkaeogldielkfaaGreatProg
import Derived.Test.YtkaeogldielkfaaGreatKabe2b5f
import Derived.Test.YtkaeogldielkfaaGreatKa96aaab
import Derived.Test.YtkaeogldielkfaaGreatKa7e3600
import Derived.Test.YtkaeogldielkfaaGreatK7731767
import Derived.Test.YtkaeogldielkfaaGreatKd1f2bd3
import Derived.Test.YtkaeogldielkfaaGreatK6683a6f
import Derived.Test.YtkaeogldielkfaaGreatK2180bdf
import Derived.BigQuiet
set_option linter.unusedVariables false
set_option linter.unusedSimpArgs false
namespace Go.Proofs.YtkaeogldielkfaaGreat.Rc
open Go.RowKit Lb
attribute [local go_sem] bs_size bs_toList bs_append bs_get bs_extract
/-- What a text tells, with what is left: of refs, of points, of neither. -/
def bodyO (c : UInt8) (s : List UInt8) : Option (Rcd × List UInt8) :=
  if c.toNat = 1 then mapO (fun l => ⟨1, l, []⟩) (eachO stepR 200 (fun st => st.2) (fun st r => (st.1, r)) ([], s))
  else if c.toNat = 2 then mapO (fun l => ⟨2, [], l⟩) (eachO stepP 200 (fun st => st.2) (fun st r => (st.1, r)) ([], s))
  else some (⟨(c.toNat : Int), [], []⟩, s)
/-- The record that a text is. -/
def unpO : List UInt8 → Option Rcd
  | [] => none
  | c :: s => match bodyO c s with
    | none => none
    | some x => if x.2 = [] ∧ recErr x.1 = 0 then some x.1 else none
theorem unpO_none {c : UInt8} {s : List UInt8} (h : bodyO c s = none) : unpO (c :: s) = none := by simp only [unpO, h]
theorem unpO_left {c : UInt8} {s q : List UInt8} {r : Rcd} (h : bodyO c s = some (r, q)) (hq : q ≠ []) : unpO (c :: s) = none := by simp only [unpO, h]; rw [if_neg (fun k => hq k.1)]
theorem unpO_wrong {c : UInt8} {s q : List UInt8} {r : Rcd} (h : bodyO c s = some (r, q)) (hr : recErr r ≠ 0) : unpO (c :: s) = none := by simp only [unpO, h]; rw [if_neg (fun k => hr k.2)]
theorem unpO_ok {c : UInt8} {s : List UInt8} {r : Rcd} (h : bodyO c s = some (r, [])) (hr : recErr r = 0) : unpO (c :: s) = some r := by simp only [unpO, h]; rw [if_pos ⟨trivial, hr⟩]
/-! ### sizes of what is read -/
theorem runN_inv {σ : Type} {step : σ → Option σ} {P : σ → Prop} (hs : ∀ a b, P a → step a = some b → P b) : ∀ (n : Nat) (a b : σ), P a → runN step n a = some b → P b
  | 0, a, b, h, e => by cases e; exact h
  | n + 1, a, b, h, e => by
    cases hc : step a with
    | none => rw [runN_none hc] at e; cases e
    | some c => rw [runN_some hc] at e; exact runN_inv hs n c b (hs _ _ h hc) e
theorem eachO_inv {α : Type} {step : List α × List UInt8 → Option (List α × List UInt8)} {P : List α × List UInt8 → Prop} {M : Nat} (hP : ∀ r, r.length ≤ M → P ([], r)) (hs : ∀ a b, P a → step a = some b → P b) {most : Nat} {s : List UInt8} {st' : List α × List UInt8} (hl : s.length ≤ M)
    (h : eachO step most (fun st => st.2) (fun st r => (st.1, r)) ([], s) = some st') : P st' := by
  unfold eachO at h
  simp only at h
  cases hc : cutN s with
  | none => rw [hc] at h; cases h
  | some x =>
    rw [hc] at h
    simp only at h
    by_cases hm : x.1 ≤ most
    · rw [if_pos hm] at h
      exact runN_inv hs _ _ _ (hP _ (by have := (cutN_lt (s := s) (n := x.1) (r := x.2) hc).2; omega)) h
    · rw [if_neg hm] at h; cases h
/-- Elements of some kind, of a text no longer than M. -/
def allP {α : Type} (M : Nat) (p : α → Prop) (st : List α × List UInt8) : Prop := st.2.length ≤ M ∧ ∀ x ∈ st.1, p x
theorem allP_step {α : Type} {M : Nat} {p : α → Prop} {cut : List UInt8 → Option (α × List UInt8)} (hc : ∀ s x r, s.length ≤ M → cut s = some (x, r) → p x ∧ r.length ≤ s.length) (a b : List α × List UInt8) (h : allP M p a) (e : mapO (fun x => a.1 ++ [x]) (cut a.2) = some b) : allP M p b := by
  obtain ⟨b1, b2⟩ := b
  obtain ⟨x, hx, rfl⟩ := mapO_some e
  obtain ⟨h1, h2⟩ := hc _ _ _ h.1 hx
  refine ⟨Nat.le_trans h2 h.1, fun y hy => ?_⟩
  rcases List.mem_append.1 hy with hy | hy
  · exact h.2 y hy
  · rw [List.mem_singleton] at hy; subst hy; exact h1
theorem numI_int {n : Nat} (h : n < 18446744073709551616) : -9223372036854775808 ≤ numI n ∧ numI n ≤ 9223372036854775807 := by unfold numI; split <;> omega
theorem timeI_int {n : Nat} (h : n < 18446744073709551616) : -9223372036854775808 ≤ timeI n ∧ timeI n ≤ 9223372036854775807 := by unfold timeI; split <;> omega
theorem cutL_all {M : Nat} (s : List UInt8) (x : Lab) (r : List UInt8) (hl : s.length ≤ M) (h : cutL s = some (x, r)) : (x.1.length ≤ M ∧ x.2.length ≤ M) ∧ r.length ≤ s.length := by
  have := cutL_lt h
  exact ⟨⟨by omega, by omega⟩, by omega⟩
theorem runN_count {α : Type} {step : List α × List UInt8 → Option (List α × List UInt8)} (hs : ∀ a b, step a = some b → b.1.length ≤ a.1.length + 1) : ∀ (n : Nat) (a b : List α × List UInt8), runN step n a = some b → b.1.length ≤ a.1.length + n
  | 0, a, b, e => by cases e; exact Nat.le_refl _
  | n + 1, a, b, e => by
    cases hc : step a with
    | none => rw [runN_none hc] at e; cases e
    | some c =>
      rw [runN_some hc] at e
      have h1 := runN_count hs n c b e
      have h2 := hs _ _ hc
      omega
theorem eachO_count {α : Type} {step : List α × List UInt8 → Option (List α × List UInt8)} (hs : ∀ a b, step a = some b → b.1.length ≤ a.1.length + 1) {most : Nat} {s : List UInt8} {st' : List α × List UInt8} (h : eachO step most (fun st => st.2) (fun st r => (st.1, r)) ([], s) = some st') : st'.1.length ≤ most := by
  unfold eachO at h
  simp only at h
  cases hc : cutN s with
  | none => rw [hc] at h; cases h
  | some x =>
    rw [hc] at h
    simp only at h
    by_cases hm : x.1 ≤ most
    · rw [if_pos hm] at h
      have := runN_count hs _ _ _ h
      simp only [List.length_nil] at this
      omega
    · rw [if_neg hm] at h; cases h
theorem step_count {α : Type} {cut : List UInt8 → Option (α × List UInt8)} (a b : List α × List UInt8) (e : mapO (fun x => a.1 ++ [x]) (cut a.2) = some b) : b.1.length ≤ a.1.length + 1 := by
  obtain ⟨b1, b2⟩ := b
  obtain ⟨x, hx, rfl⟩ := mapO_some e
  simp
theorem cutR_all {M : Nat} (hM : M ≤ 140737488355328) (s : List UInt8) (x : RefL) (r : List UInt8) (hl : s.length ≤ M) (h : cutR s = some (x, r)) : okRef x ∧ r.length ≤ s.length := by
  refine ⟨?_, cutR_len h⟩
  unfold cutR at h
  obtain ⟨n, s1, h1, h⟩ := bindO_some h
  obtain ⟨n1, e1, rfl⟩ := mapO_some h1
  obtain ⟨ls, e2, rfl⟩ := mapO_some h
  have hn := (cutN_lt e1).1
  have hs1 := cutN_len e1
  unfold cutLs at e2
  have hc := eachO_count (fun a b => step_count (cut := cutL) a b) e2
  have ha := eachO_inv (P := allP M (fun y : Lab => y.1.length ≤ M ∧ y.2.length ≤ M)) (M := M) (fun r hr => ⟨hr, fun x hx => by simp at hx⟩) (fun a b => allP_step (fun s x r hl h => cutL_all s x r hl h) a b) (by omega) e2
  have hc' : ls.length ≤ 20 := hc
  exact ⟨(numI_int hn).1, (numI_int hn).2, by show ls.length ≤ _; omega, fun y hy => by have := ha.2 y hy; exact ⟨by omega, by omega⟩⟩
theorem cutP_all (s : List UInt8) (x : Pnt) (r : List UInt8) (h : cutP s = some (x, r)) : okPnt x ∧ r.length ≤ s.length := by
  refine ⟨?_, cutP_len h⟩
  unfold cutP at h
  obtain ⟨a, s1, h1, h⟩ := bindO_some h
  obtain ⟨t, s2, h2, h⟩ := bindO_some h
  obtain ⟨n1, e1, rfl⟩ := mapO_some h1
  obtain ⟨n2, e2, rfl⟩ := mapO_some h2
  obtain ⟨n3, e3, rfl⟩ := mapO_some h
  have b3 : n3 < 18446744073709551616 := by
    unfold cut8 at e3
    by_cases h8 : 8 ≤ s2.length
    · rw [if_pos h8] at e3
      cases e3
      have := wordI_lt (s2.take 8)
      rw [List.length_take, Nat.min_eq_left h8] at this
      exact this
    · rw [if_neg h8] at e3; cases e3
  exact ⟨(numI_int (cutN_lt e1).1).1, (numI_int (cutN_lt e1).1).2, (timeI_int (cutN_lt e2).1).1, (timeI_int (cutN_lt e2).1).2, b3⟩
/-- Sizes that any machine has, and no more than a record's. -/
def okRecS (r : Rcd) : Prop := (-9223372036854775808 ≤ r.kind ∧ r.kind ≤ 9223372036854775807) ∧ r.refs.length ≤ 200 ∧ r.points.length ≤ 200 ∧ (∀ x ∈ r.refs, okRef x) ∧ ∀ x ∈ r.points, okPnt x
theorem bodyO_ok {c : UInt8} {s q : List UInt8} {r : Rcd} (hl : s.length ≤ 140737488355328) (h : bodyO c s = some (r, q)) : okRecS r := by
  unfold bodyO at h
  have hc := c.toNat_lt
  by_cases h1 : c.toNat = 1
  · rw [if_pos h1] at h
    obtain ⟨l, e, rfl⟩ := mapO_some h
    have hn := eachO_count (fun a b => step_count (cut := cutR) a b) e
    have ha := eachO_inv (P := allP 140737488355328 okRef) (M := 140737488355328) (fun r hr => ⟨hr, fun x hx => by simp at hx⟩) (fun a b => allP_step (fun s x r hl h => cutR_all (Nat.le_refl _) s x r hl h) a b) hl e
    exact ⟨⟨by show (-9223372036854775808 : Int) ≤ 1; omega, by show (1 : Int) ≤ _; omega⟩, hn, by simp, ha.2, by simp⟩
  · rw [if_neg h1] at h
    by_cases h2 : c.toNat = 2
    · rw [if_pos h2] at h
      obtain ⟨l, e, rfl⟩ := mapO_some h
      have hn := eachO_count (fun a b => step_count (cut := cutP) a b) e
      have ha := eachO_inv (P := allP 140737488355328 okPnt) (M := 140737488355328) (fun r hr => ⟨hr, fun x hx => by simp at hx⟩) (fun a b => allP_step (fun s x r hl h => cutP_all s x r h) a b) hl e
      exact ⟨⟨by show (-9223372036854775808 : Int) ≤ 2; omega, by show (2 : Int) ≤ _; omega⟩, by simp, hn, by simp, ha.2⟩
    · rw [if_neg h2] at h
      cases h
      exact ⟨⟨by show (-9223372036854775808 : Int) ≤ (c.toNat : Int); omega, by show (c.toNat : Int) ≤ _; omega⟩, by simp, by simp, by simp, by simp⟩
/-! ### what a call owns can be read -/
theorem reads_ownRefs {w : World} {Z : Nat} {v : Value} {rs : List RefL} (h : ownRefs w Z v rs) : readsRefs w w.heap.size v rs := by
  obtain ⟨ps, hl, h, hall⟩ := h
  obtain ⟨ao, cp, e⟩ := own_shape h
  refine ⟨ao, cp, e, fun i hi => ?_⟩
  rcases h.2 with ⟨rfl, h0⟩ | ⟨g, cap, cur, rfl, h1, h2, h3⟩
  · omega
  · simp at e
    have hc := World.ownsRow.cells h (g := g) rfl
    have ha := refCells_at ps i (by omega)
    obtain ⟨k1, k2⟩ := hall i ps[i] rs[i] (List.getElem?_eq_getElem (by omega)) (List.getElem?_eq_getElem hi)
    refine ⟨g, 0, ps[i].2, e.1.symm, lt_of_block h2, reads_ownLabels k2, ?_, ?_⟩
    · have := hc _ _ ha.1
      rw [Addr.add_lit] at this
      rw [← k1]
      simpa using this
    · have := hc _ _ ha.2
      rw [Addr.add_lit] at this
      simpa using this
theorem reads_ownPoints {w : World} {Z : Nat} {v : Value} {ps : List Pnt} (h : ownPoints w Z v ps) : readsPoints w w.heap.size v ps := by
  obtain ⟨ao, cp, e⟩ := own_shape h
  refine ⟨ao, cp, e, fun i hi => ?_⟩
  rcases h.2 with ⟨rfl, h0⟩ | ⟨g, cap, cur, rfl, h1, h2, h3⟩
  · omega
  · simp at e
    have hc := World.ownsRow.cells h (g := g) rfl
    have ha := pntCells_at ps i hi
    refine ⟨g, 0, e.1.symm, lt_of_block h2, ?_, ?_, ?_⟩
    · have := hc _ _ ha.1
      rw [Addr.add_lit] at this
      simpa using this
    · have := hc _ _ ha.2.1
      rw [Addr.add_lit] at this
      simpa using this
    · have := hc _ _ ha.2.2
      rw [Addr.add_lit] at this
      simpa using this
/-- What 'unpacked' answers: a record whose rows the call owns. -/
def unpAns (Z : Nat) (o : Option Rcd) (w : World) (e : Ending) (w' : World) : Prop :=
  Grow w w' ∧ match o with
    | some r => ∃ vr vp, e = .returned (.agg #[.int .i64 r.kind, vr, vp]) ∧ ownRefs w' Z vr r.refs ∧ ownPoints w' Z vp r.points
    | none => ∃ E : Nat, E ≠ 0 ∧ e = gaveUp E
theorem infoRec : (Tryz.prog.info? 29).map (·.size) = some 3 := by kernel_rfl
theorem grow_ki {a b c : World} {x : Nat} (h : Grow a b) (k : KI x b c) (hx : a.heap.size ≤ x) : Grow a c :=
  ⟨k.os.trans h.os, k.tape.trans h.tape, k.output.trans h.output, Nat.le_trans h.size k.size, fun i hi => (k.block i (Nat.lt_of_lt_of_le hi h.size) (by omega)).trans (h.block i hi)⟩
theorem grow_kz {a b c : World} {Z x : Nat} (h : Grow a b) (k : KZ Z x b c) (hZ : a.heap.size ≤ Z) (hx : a.heap.size ≤ x) : Grow a c :=
  ⟨k.1.trans h.os, k.2.1.trans h.tape, k.2.2.1.trans h.output, Nat.le_trans h.size k.2.2.2.1, fun i hi => (k.2.2.2.2 i (by omega) (by omega)).trans (h.block i hi)⟩
set_option maxRecDepth 20000 in
set_option maxHeartbeats 8000000 in
theorem unpacked_any (w : World) (s0 : List UInt8) (hs : s0.length ≤ 140737488355328) :
    Calls Tryz.prog 37 #[.string (bs s0)] w (unpAns w.heap.size (unpO s0) w) := by
  have hcf1 : ∀ (args : Array Value) (w : World), (callFunc 66 args).run Tryz.prog w = .ok (.enter 66 args) w := fun args w => by simp [go_sem]
  have hcf2 : ∀ (args : Array Value) (w : World), (callFunc 68 args).run Tryz.prog w = .ok (.enter 68 args) w := fun args w => by simp [go_sem]
  obtain ⟨UO, HUO⟩ : ∃ UO, Hid (unpO s0 = UO) := ⟨_, hide rfl⟩
  rw [HUO.out]
  obtain ⟨V1, e1, g1, b1⟩ := laid_at w #[.int .i64 0, .slice none 0 0, .slice none 0 0] 29
  obtain ⟨V2, e2, g2, b2⟩ := laid_at V1 #[.string (bs s0)] 113
  have s1 : V1.heap.size = w.heap.size + 1 := by rw [← e1]; simp
  have s2 : V2.heap.size = w.heap.size + 2 := by rw [← e2]; simp [s1]
  rw [s1] at b2
  have h02 : Grow w V2 := g1.trans g2
  have HTK := hide (take_any V2 (w.heap.size + 1) 1 s0 b2 hs (by omega))
  have H02 := hide h02
  have HZ2 := hide (g2.get b1)
  rw [← e2, ← e1] at HTK H02 HZ2
  unfold readAs at HTK
  clear b1 b2 g1 g2 h02
  cases s0 with
  | nil =>
    rw [if_neg (by simp)] at HTK
    simp only at HTK
    have HU : Hid (none = UO) := hide HUO.out
    clear e1 e2
    go_enter Tryz.func37, Tryz.ntmps37
    go_wp2_with fail
    refine HTK.out.mono ?_
    rintro e w1 ⟨hk, E, hE, rfl⟩
    refine ⟨rfl, ?_⟩
    unfold unpAns
    rw [← HU.out]
    exact ⟨grow_ki H02.out hk (by omega), E, hE, rfl⟩
  | cons c s =>
    rw [if_pos (by simp)] at HTK
    simp only at HTK
    simp only [List.length_cons] at hs
    have htk : (c :: s).take 1 = [c] := rfl
    have hdr : (c :: s).drop 1 = s := rfl
    rw [htk, hdr] at HTK
    have hcl := c.toNat_lt
    have hcw : IntKind.i64.wrap ((c.toNat : Nat) : Int) = (c.toNat : Int) := by rw [IntKind.wrap_i64]; omega
    clear e1 e2 htk hdr s1 s2
    by_cases h1 : c.toNat = 1
    · rw [h1] at hcw
      as_aux_lemma =>
        go_enter Tryz.func37, Tryz.ntmps37
        go_wp2_with fail
        refine HTK.out.mono ?_
        rintro e w2 ⟨hk2, rfl, hi2⟩
        have hsw : w.heap.size + 2 ≤ w2.heap.size := by have := hk2.size; simp at this; omega
        have hz2 := hk2.get HZ2.out (by omega)
        have hg2 : Grow w w2 := grow_ki H02.out hk2 (by omega)
        obtain ⟨w3, e3, g3, b3⟩ := laid_at w2 #[.int .i64 1, .slice none 0 0, .slice none 0 0] 29
        have HB3 := hide b3
        have HI3 := hide (hi2.grow g3)
        have HZ3 := hide (g3.get hz2)
        have HG3 := hide (hg2.trans g3)
        have hs3 : w2.heap.size + 1 ≤ w3.heap.size := by rw [← e3]; simp
        clear hk2 hz2 hg2 g3 b3 hi2 HTK HZ2 H02
        have hb2 := HB3.out
        have HE := hide (each_any w3 (w.heap.size + 1) 200 66 #[.pointer (some ⟨w2.heap.size, 0, none⟩), .pointer (some ⟨w.heap.size + 1, 0, none⟩)] (fun st => st.2) (fun st r => (st.1, r)) (fun k st w' => KZ w2.heap.size (w.heap.size + 1) w3 w' ∧ inRec w2.heap.size (w.heap.size + 1) w2.heap.size 1 k st w') (fun w' => KZ w2.heap.size (w.heap.size + 1) w3 w') stepR ([], s) hcf1 (by omega) HI3.out (by show s.length ≤ _; omega) (fun q w' hk hq hql => by
            have hql' : q.length ≤ s.length := hql
            exact ⟨hk.kz (by omega), by have := hk.size; omega, by show q.length ≤ _; omega, Nat.zero_le _, hq, .slice none 0 0, hk.get hb2 (by omega), ownRefs_nil _ _⟩) (fun w' hk => hk.kz (by omega)) (fun k st w' h => h.1) (fun k st W' hk200 hI => by
            refine (unp1_any W' w2.heap.size (w.heap.size + 1) w2.heap.size 1 k st hk200 (by omega) (Nat.le_refl _) hI.2).mono fun e w' ht => ?_
            unfold turned at ht ⊢
            cases hst : stepR st with
            | none => rw [hst] at ht; exact ⟨ht.1, hI.1.trans ht.2⟩
            | some st' => rw [hst] at ht; exact ⟨ht.1, hI.1.trans ht.2.1, ht.2.2⟩))
        rw [← e3] at HE HG3 HZ3
        obtain ⟨EO, HEO⟩ : ∃ EO, Hid (eachO stepR 200 (fun st => st.2) (fun st r => (st.1, r)) ([], s) = EO) := ⟨_, hide rfl⟩
        rw [HEO.out] at HE
        unfold turned at HE
        rw [← e3] at hb2
        obtain ⟨cb0, cb1, cb2⟩ := three_of hb2
        clear hb2 hcf1 hcf2 e3
        cases EO with
        | none =>
          simp only at HE
          go_wp2_with fail
          refine HE.out.mono ?_
          rintro e w5 ⟨⟨E, hE, rfl⟩, hk5⟩
          refine ⟨rfl, ?_⟩
          unfold unpAns
          rw [← HUO.out, unpO_none (by unfold bodyO; rw [if_pos h1]; rw [HEO.out]; rfl)]
          exact ⟨grow_kz (Z := w2.heap.size) (x := w.heap.size + 1) HG3.out hk5 (by omega) (by omega), E, hE, rfl⟩
        | some x =>
          obtain ⟨l, q⟩ := x
          simp only at HE
          go_wp2_with fail
          refine HE.out.mono ?_
          rintro e w5 ⟨rfl, k5, hk55, hk5, hZ5, hq5, hl5, hi5, v5, hx5, ho5⟩
          simp only at hi5 ho5
          have hg5 : Grow w w5 := grow_kz (Z := w2.heap.size) (x := w.heap.size + 1) HG3.out hk5 (by omega) (by omega)
          have hz5 := (hk5.2.2.2.2 w.heap.size (by omega) (by omega)).trans HZ3.out
          obtain ⟨r0, hr0⟩ : ∃ r0 : Rcd, r0 = ⟨1, l, []⟩ := ⟨_, rfl⟩
          have hbo : bodyO c s = some (r0, q) := by unfold bodyO; rw [if_pos h1]; rw [HEO.out, hr0]; rfl
          have HOK := hide (bodyO_ok (by omega) hbo)
          have HBO := hide hbo
          have HG := hide hg5
          have HZ0 := hide hz5
          have HBR := hide hx5
          have HIQ := hide hi5
          have HWR : Hid (ownRefs w5 w.heap.size v5 r0.refs) := hide (by rw [hr0]; exact ownRefs_le ho5 (by omega))
          have HWP : Hid (ownPoints w5 w.heap.size (.slice none 0 0) r0.points) := hide (by rw [hr0]; exact World.ownsRow_nil _ _ _ _)
          have HRK : Hid (r0.kind = 1) := hide (by rw [hr0])
          obtain ⟨ao, cp, hv5⟩ := ownRefs_shape ho5
          subst hv5
          clear hk5 hZ5 hq5 hl5 hi5 hx5 ho5 hg5 hz5 hbo hr0 HE cb0 cb1 cb2 HEO
          by_cases hq : q = []
          · subst hq
            have hqe : (@List.isEmpty UInt8 []) = true := rfl
            have HCR := hide (checkRecord_any w5 (.slice ao l.length cp) (.slice none 0 0) r0 (reads_ownRefs HWR.out) (reads_ownPoints HWP.out) HOK.out.1 (by have := HOK.out.2.1; omega) (by have := HOK.out.2.2.1; omega) HOK.out.2.2.2.1 HOK.out.2.2.2.2)
            rw [HRK.out] at HCR
            have hi0 := cell_of_one (show w5.heap[w.heap.size + 1]? = some (.cells #[.string (bs [])] 113 (0, 0)) from HIQ.out)
            obtain ⟨cx0, cx1, cx2⟩ := three_of HBR.out
            go_wp2_with fail
            refine (refuse_any false 1 w5 (by decide)).mono ?_
            rintro e w7 ⟨rfl, hw7⟩
            subst hw7
            rw [if_neg (by simp), outc_ok]
            go_wp2_with fail
            refine HCR.out.mono ?_
            rintro e w8 ⟨rfl, hg8⟩
            have HG8 := hide hg8
            clear hg8 cx0 cx1 cx2 hi0 HCR
            by_cases hr : recErr r0 = 0
            · have HU := hide (unpO_ok HBO.out hr)
              rw [hr, outc_ok]
              have hbr := HG8.out.get HBR.out
              have hb0 := HG8.out.get HZ0.out
              have HB0 := hide hb0
              have HBR8 := hide hbr
              obtain ⟨cx0, cx1, cx2⟩ := three_of hbr
              obtain ⟨cr0, cr1, cr2⟩ := three_of hb0
              have z0 : w8.frozen? ⟨w.heap.size, 0, none⟩ = false := by simp only [World.frozen?, hb0]; rfl
              have z1 : w8.frozen? ⟨w.heap.size, 1, none⟩ = false := by simp only [World.frozen?, hb0]; rfl
              have z2 : w8.frozen? ⟨w.heap.size, 2, none⟩ = false := by simp only [World.frozen?, hb0]; rfl
              clear hr hbr hb0
              go_wp2
              have HF := set3 (set3 (set3 HB0.out 0 (.int .i64 1)) 1 (.slice ao l.length cp)) 2 (.slice none 0 0)
              refine bodyPost_ret (v := .agg #[.int .i64 1, (.slice ao l.length cp), (.slice none 0 0)]) (results_cell_row (p := 2) (ty := 29) rfl _ _ w.heap.size _ _ _ _ rfl HF Tryz.underlying29 rfl infoRec) rfl ?_
              unfold unpAns
              rw [← HUO.out, HU.out]
              have s8 : w.heap.size ≤ w8.heap.size := by have := (HG.out.trans HG8.out).size; omega
              refine ⟨Below.setCell (Below.setCell (Below.setCell (HG.out.trans HG8.out) (by show w.heap.size ≤ w.heap.size; omega) _) (by show w.heap.size ≤ w.heap.size; omega) _) (by show w.heap.size ≤ w.heap.size; omega) _, (.slice ao l.length cp), (.slice none 0 0), by rw [HRK.out], ?_, ?_⟩
              · have h0 := ownRefs_stay HWR.out (fun g _ hg => HG8.out.block g hg)
                exact ownRefs_set (ownRefs_set (ownRefs_set h0 HB0.out (by decide) (by decide) _) (set3 HB0.out 0 _) (by decide) (by decide) _) (set3 (set3 HB0.out 0 _) 1 _) (by decide) (by decide) _
              · have h0 := own_stay HWP.out (fun g _ hg => HG8.out.block g hg)
                have h1 := ownsRow_setCell_other (a := ⟨w.heap.size, 0, none⟩) h0 (own_apart h0 HB0.out (by decide)) (.int .i64 1)
                have h2 := ownsRow_setCell_other (a := ⟨w.heap.size, 1, none⟩) h1 (own_apart h1 (set3 HB0.out 0 _) (by decide)) (.slice ao l.length cp)
                exact ownsRow_setCell_other (a := ⟨w.heap.size, 2, none⟩) h2 (own_apart h2 (set3 (set3 HB0.out 0 _) 1 _) (by decide)) _
            · have HU := hide (unpO_wrong HBO.out hr)
              rw [outc_no hr]
              refine ⟨rfl, ?_⟩
              unfold unpAns
              rw [← HUO.out, HU.out]
              exact ⟨HG.out.trans HG8.out, recErr r0, hr, rfl⟩
          · have HU := hide (unpO_left HBO.out hq)
            have hqe : q.isEmpty = false := by cases q with | nil => exact absurd rfl hq | cons => rfl
            have hi0 := cell_of_one (show w5.heap[w.heap.size + 1]? = some (.cells #[.string (bs q)] 113 (0, 0)) from HIQ.out)
            clear hq
            go_wp2_with fail
            refine (refuse_any true 1 w5 (by decide)).mono ?_
            rintro e w7 ⟨rfl, hw7⟩
            subst hw7
            rw [if_pos rfl, outc_no (by decide)]
            refine ⟨rfl, ?_⟩
            unfold unpAns
            rw [← HUO.out, HU.out]
            exact ⟨HG.out, 1, by decide, rfl⟩
    · by_cases h2 : c.toNat = 2
      · rw [h2] at hcw
        as_aux_lemma =>
          go_enter Tryz.func37, Tryz.ntmps37
          go_wp2_with fail
          refine HTK.out.mono ?_
          rintro e w2 ⟨hk2, rfl, hi2⟩
          have hsw : w.heap.size + 2 ≤ w2.heap.size := by have := hk2.size; simp at this; omega
          have hz2 := hk2.get HZ2.out (by omega)
          have hg2 : Grow w w2 := grow_ki H02.out hk2 (by omega)
          obtain ⟨w3, e3, g3, b3⟩ := laid_at w2 #[.int .i64 2, .slice none 0 0, .slice none 0 0] 29
          have HB3 := hide b3
          have HI3 := hide (hi2.grow g3)
          have HZ3 := hide (g3.get hz2)
          have HG3 := hide (hg2.trans g3)
          have hs3 : w2.heap.size + 1 ≤ w3.heap.size := by rw [← e3]; simp
          clear hk2 hz2 hg2 g3 b3 hi2 HTK HZ2 H02
          have hb2 := HB3.out
          have HE := hide (each_any w3 (w.heap.size + 1) 200 68 #[.pointer (some ⟨w2.heap.size, 0, none⟩), .pointer (some ⟨w.heap.size + 1, 0, none⟩)] (fun st => st.2) (fun st r => (st.1, r)) (fun k st w' => KZ w2.heap.size (w.heap.size + 1) w3 w' ∧ inRecP w2.heap.size (w.heap.size + 1) w2.heap.size 2 k st w') (fun w' => KZ w2.heap.size (w.heap.size + 1) w3 w') stepP ([], s) hcf2 (by omega) HI3.out (by show s.length ≤ _; omega) (fun q w' hk hq hql => by
              have hql' : q.length ≤ s.length := hql
              exact ⟨hk.kz (by omega), by have := hk.size; omega, by show q.length ≤ _; omega, Nat.zero_le _, hq, .slice none 0 0, hk.get hb2 (by omega), World.ownsRow_nil _ _ _ _⟩) (fun w' hk => hk.kz (by omega)) (fun k st w' h => h.1) (fun k st W' hk200 hI => by
              refine (unp2_any W' w2.heap.size (w.heap.size + 1) w2.heap.size 2 k st hk200 (by omega) (Nat.le_refl _) hI.2).mono fun e w' ht => ?_
              unfold turned at ht ⊢
              cases hst : stepP st with
              | none => rw [hst] at ht; exact ⟨ht.1, hI.1.trans ht.2⟩
              | some st' => rw [hst] at ht; exact ⟨ht.1, hI.1.trans ht.2.1, ht.2.2⟩))
          rw [← e3] at HE HG3 HZ3
          obtain ⟨EO, HEO⟩ : ∃ EO, Hid (eachO stepP 200 (fun st => st.2) (fun st r => (st.1, r)) ([], s) = EO) := ⟨_, hide rfl⟩
          rw [HEO.out] at HE
          unfold turned at HE
          rw [← e3] at hb2
          obtain ⟨cb0, cb1, cb2⟩ := three_of hb2
          clear hb2 hcf1 hcf2 e3
          cases EO with
          | none =>
            simp only at HE
            go_wp2_with fail
            refine HE.out.mono ?_
            rintro e w5 ⟨⟨E, hE, rfl⟩, hk5⟩
            refine ⟨rfl, ?_⟩
            unfold unpAns
            rw [← HUO.out, unpO_none (by unfold bodyO; rw [if_neg h1, if_pos h2]; rw [HEO.out]; rfl)]
            exact ⟨grow_kz (Z := w2.heap.size) (x := w.heap.size + 1) HG3.out hk5 (by omega) (by omega), E, hE, rfl⟩
          | some x =>
            obtain ⟨l, q⟩ := x
            simp only at HE
            go_wp2_with fail
            refine HE.out.mono ?_
            rintro e w5 ⟨rfl, k5, hk55, hk5, hZ5, hq5, hl5, hi5, v5, hx5, ho5⟩
            simp only at hi5 ho5
            have hg5 : Grow w w5 := grow_kz (Z := w2.heap.size) (x := w.heap.size + 1) HG3.out hk5 (by omega) (by omega)
            have hz5 := (hk5.2.2.2.2 w.heap.size (by omega) (by omega)).trans HZ3.out
            obtain ⟨r0, hr0⟩ : ∃ r0 : Rcd, r0 = ⟨2, [], l⟩ := ⟨_, rfl⟩
            have hbo : bodyO c s = some (r0, q) := by unfold bodyO; rw [if_neg h1, if_pos h2]; rw [HEO.out, hr0]; rfl
            have HOK := hide (bodyO_ok (by omega) hbo)
            have HBO := hide hbo
            have HG := hide hg5
            have HZ0 := hide hz5
            have HBR := hide hx5
            have HIQ := hide hi5
            have HWR : Hid (ownRefs w5 w.heap.size (.slice none 0 0) r0.refs) := hide (by rw [hr0]; exact ownRefs_nil _ _)
            have HWP : Hid (ownPoints w5 w.heap.size v5 r0.points) := hide (by rw [hr0]; exact own_le ho5 (by omega))
            have HRK : Hid (r0.kind = 2) := hide (by rw [hr0])
            obtain ⟨ao, cp, hv5⟩ := own_shape ho5
            subst hv5
            clear hk5 hZ5 hq5 hl5 hi5 hx5 ho5 hg5 hz5 hbo hr0 HE cb0 cb1 cb2 HEO
            by_cases hq : q = []
            · subst hq
              have hqe : (@List.isEmpty UInt8 []) = true := rfl
              have HCR := hide (checkRecord_any w5 (.slice none 0 0) (.slice ao l.length cp) r0 (reads_ownRefs HWR.out) (reads_ownPoints HWP.out) HOK.out.1 (by have := HOK.out.2.1; omega) (by have := HOK.out.2.2.1; omega) HOK.out.2.2.2.1 HOK.out.2.2.2.2)
              rw [HRK.out] at HCR
              have hi0 := cell_of_one (show w5.heap[w.heap.size + 1]? = some (.cells #[.string (bs [])] 113 (0, 0)) from HIQ.out)
              obtain ⟨cx0, cx1, cx2⟩ := three_of HBR.out
              go_wp2_with fail
              refine (refuse_any false 1 w5 (by decide)).mono ?_
              rintro e w7 ⟨rfl, hw7⟩
              subst hw7
              rw [if_neg (by simp), outc_ok]
              go_wp2_with fail
              refine HCR.out.mono ?_
              rintro e w8 ⟨rfl, hg8⟩
              have HG8 := hide hg8
              clear hg8 cx0 cx1 cx2 hi0 HCR
              by_cases hr : recErr r0 = 0
              · have HU := hide (unpO_ok HBO.out hr)
                rw [hr, outc_ok]
                have hbr := HG8.out.get HBR.out
                have hb0 := HG8.out.get HZ0.out
                have HB0 := hide hb0
                have HBR8 := hide hbr
                obtain ⟨cx0, cx1, cx2⟩ := three_of hbr
                obtain ⟨cr0, cr1, cr2⟩ := three_of hb0
                have z0 : w8.frozen? ⟨w.heap.size, 0, none⟩ = false := by simp only [World.frozen?, hb0]; rfl
                have z1 : w8.frozen? ⟨w.heap.size, 1, none⟩ = false := by simp only [World.frozen?, hb0]; rfl
                have z2 : w8.frozen? ⟨w.heap.size, 2, none⟩ = false := by simp only [World.frozen?, hb0]; rfl
                clear hr hbr hb0
                go_wp2
                have HF := set3 (set3 (set3 HB0.out 0 (.int .i64 2)) 1 (.slice none 0 0)) 2 (.slice ao l.length cp)
                refine bodyPost_ret (v := .agg #[.int .i64 2, (.slice none 0 0), (.slice ao l.length cp)]) (results_cell_row (p := 2) (ty := 29) rfl _ _ w.heap.size _ _ _ _ rfl HF Tryz.underlying29 rfl infoRec) rfl ?_
                unfold unpAns
                rw [← HUO.out, HU.out]
                have s8 : w.heap.size ≤ w8.heap.size := by have := (HG.out.trans HG8.out).size; omega
                refine ⟨Below.setCell (Below.setCell (Below.setCell (HG.out.trans HG8.out) (by show w.heap.size ≤ w.heap.size; omega) _) (by show w.heap.size ≤ w.heap.size; omega) _) (by show w.heap.size ≤ w.heap.size; omega) _, (.slice none 0 0), (.slice ao l.length cp), by rw [HRK.out], ?_, ?_⟩
                · have h0 := ownRefs_stay HWR.out (fun g _ hg => HG8.out.block g hg)
                  exact ownRefs_set (ownRefs_set (ownRefs_set h0 HB0.out (by decide) (by decide) _) (set3 HB0.out 0 _) (by decide) (by decide) _) (set3 (set3 HB0.out 0 _) 1 _) (by decide) (by decide) _
                · have h0 := own_stay HWP.out (fun g _ hg => HG8.out.block g hg)
                  have h1 := ownsRow_setCell_other (a := ⟨w.heap.size, 0, none⟩) h0 (own_apart h0 HB0.out (by decide)) (.int .i64 2)
                  have h2 := ownsRow_setCell_other (a := ⟨w.heap.size, 1, none⟩) h1 (own_apart h1 (set3 HB0.out 0 _) (by decide)) (.slice none 0 0)
                  exact ownsRow_setCell_other (a := ⟨w.heap.size, 2, none⟩) h2 (own_apart h2 (set3 (set3 HB0.out 0 _) 1 _) (by decide)) _
              · have HU := hide (unpO_wrong HBO.out hr)
                rw [outc_no hr]
                refine ⟨rfl, ?_⟩
                unfold unpAns
                rw [← HUO.out, HU.out]
                exact ⟨HG.out.trans HG8.out, recErr r0, hr, rfl⟩
            · have HU := hide (unpO_left HBO.out hq)
              have hqe : q.isEmpty = false := by cases q with | nil => exact absurd rfl hq | cons => rfl
              have hi0 := cell_of_one (show w5.heap[w.heap.size + 1]? = some (.cells #[.string (bs q)] 113 (0, 0)) from HIQ.out)
              clear hq
              go_wp2_with fail
              refine (refuse_any true 1 w5 (by decide)).mono ?_
              rintro e w7 ⟨rfl, hw7⟩
              subst hw7
              rw [if_pos rfl, outc_no (by decide)]
              refine ⟨rfl, ?_⟩
              unfold unpAns
              rw [← HUO.out, HU.out]
              exact ⟨HG.out, 1, by decide, rfl⟩
      · as_aux_lemma =>
          go_enter Tryz.func37, Tryz.ntmps37
          go_wp2_with fail
          refine HTK.out.mono ?_
          rintro e w2 ⟨hk2, rfl, hi2⟩
          have hsw : w.heap.size + 2 ≤ w2.heap.size := by have := hk2.size; simp at this; omega
          have hz2 := hk2.get HZ2.out (by omega)
          have hg2 : Grow w w2 := grow_ki H02.out hk2 (by omega)
          obtain ⟨w3, e3, g3, b3⟩ := laid_at w2 #[.int .i64 (c.toNat : Int), .slice none 0 0, .slice none 0 0] 29
          have HB3 := hide b3
          have HI3 := hide (hi2.grow g3)
          have HZ3 := hide (g3.get hz2)
          have HG3 := hide (hg2.trans g3)
          have hs3 : w2.heap.size + 1 ≤ w3.heap.size := by rw [← e3]; simp
          clear hk2 hz2 hg2 g3 b3 hi2 HTK HZ2 H02
          have hbo : bodyO c s = some (⟨(c.toNat : Int), [], []⟩, s) := by unfold bodyO; rw [if_neg h1, if_neg h2]
          obtain ⟨r0, hr0⟩ : ∃ r0 : Rcd, r0 = ⟨(c.toNat : Int), [], []⟩ := ⟨_, rfl⟩
          rw [← hr0] at hbo
          obtain ⟨q, hsq⟩ : ∃ q, q = s := ⟨_, rfl⟩
          have HQL : Hid (q.length ≤ 140737488355328) := hide (by rw [hsq]; omega)
          rw [← hsq] at HI3
          have HOK := hide (bodyO_ok (by omega) hbo)
          rw [show (some (r0, s) : Option (Rcd × List UInt8)) = some (r0, q) by rw [hsq]] at hbo
          have HBO := hide hbo
          have HWR : Hid (ownRefs w3 w.heap.size (.slice none 0 0) r0.refs) := hide (by rw [hr0]; exact ownRefs_nil _ _)
          have HWP : Hid (ownPoints w3 w.heap.size (.slice none 0 0) r0.points) := hide (by rw [hr0]; exact World.ownsRow_nil _ _ _ _)
          have HRK : Hid (r0.kind = (c.toNat : Int)) := hide (by rw [hr0])
          have hk1 : ((c.toNat : Int) == 1) = false := by rw [beq_eq_false_iff_ne]; omega
          have hk2 : ((c.toNat : Int) == 2) = false := by rw [beq_eq_false_iff_ne]; omega
          rw [← e3] at HB3 HI3 HZ3 HG3 HWR HWP
          obtain ⟨cb0, cb1, cb2⟩ := three_of HB3.out
          have HBR := HB3
          have HIQ := HI3
          have HG := HG3
          have HZ0 := HZ3
          clear e3 hbo hr0 hsq h1 h2 hcf1 hcf2
          by_cases hq : q = []
          · subst hq
            have hqe : (@List.isEmpty UInt8 []) = true := rfl
            have HCR := hide (checkRecord_any (w2.alloc (.cells #[.int .i64 (c.toNat : Int), .slice none 0 0, .slice none 0 0] 29)) (.slice none 0 0) (.slice none 0 0) r0 (reads_ownRefs HWR.out) (reads_ownPoints HWP.out) HOK.out.1 (by have := HOK.out.2.1; omega) (by have := HOK.out.2.2.1; omega) HOK.out.2.2.2.1 HOK.out.2.2.2.2)
            rw [HRK.out] at HCR
            have hi0 := cell_of_one (show (w2.alloc (.cells #[.int .i64 (c.toNat : Int), .slice none 0 0, .slice none 0 0] 29)).heap[w.heap.size + 1]? = some (.cells #[.string (bs [])] 113 (0, 0)) from HIQ.out)
            obtain ⟨cx0, cx1, cx2⟩ := three_of HBR.out
            go_wp2_with fail
            refine (refuse_any false 1 (w2.alloc (.cells #[.int .i64 (c.toNat : Int), .slice none 0 0, .slice none 0 0] 29)) (by decide)).mono ?_
            rintro e w7 ⟨rfl, hw7⟩
            subst hw7
            rw [if_neg (by simp), outc_ok]
            go_wp2_with fail
            refine HCR.out.mono ?_
            rintro e w8 ⟨rfl, hg8⟩
            have HG8 := hide hg8
            clear hg8 cx0 cx1 cx2 hi0 HCR
            by_cases hr : recErr r0 = 0
            · have HU := hide (unpO_ok HBO.out hr)
              rw [hr, outc_ok]
              have hbr := HG8.out.get HBR.out
              have hb0 := HG8.out.get HZ0.out
              have HB0 := hide hb0
              have HBR8 := hide hbr
              obtain ⟨cx0, cx1, cx2⟩ := three_of hbr
              obtain ⟨cr0, cr1, cr2⟩ := three_of hb0
              have z0 : w8.frozen? ⟨w.heap.size, 0, none⟩ = false := by simp only [World.frozen?, hb0]; rfl
              have z1 : w8.frozen? ⟨w.heap.size, 1, none⟩ = false := by simp only [World.frozen?, hb0]; rfl
              have z2 : w8.frozen? ⟨w.heap.size, 2, none⟩ = false := by simp only [World.frozen?, hb0]; rfl
              clear hr hbr hb0
              go_wp2
              have HF := set3 (set3 (set3 HB0.out 0 (.int .i64 (c.toNat : Int))) 1 (.slice none 0 0)) 2 (.slice none 0 0)
              refine bodyPost_ret (v := .agg #[.int .i64 (c.toNat : Int), (.slice none 0 0), (.slice none 0 0)]) (results_cell_row (p := 2) (ty := 29) rfl _ _ w.heap.size _ _ _ _ rfl HF Tryz.underlying29 rfl infoRec) rfl ?_
              unfold unpAns
              rw [← HUO.out, HU.out]
              have s8 : w.heap.size ≤ w8.heap.size := by have := (HG.out.trans HG8.out).size; omega
              refine ⟨Below.setCell (Below.setCell (Below.setCell (HG.out.trans HG8.out) (by show w.heap.size ≤ w.heap.size; omega) _) (by show w.heap.size ≤ w.heap.size; omega) _) (by show w.heap.size ≤ w.heap.size; omega) _, (.slice none 0 0), (.slice none 0 0), by rw [HRK.out], ?_, ?_⟩
              · have h0 := ownRefs_stay HWR.out (fun g _ hg => HG8.out.block g hg)
                exact ownRefs_set (ownRefs_set (ownRefs_set h0 HB0.out (by decide) (by decide) _) (set3 HB0.out 0 _) (by decide) (by decide) _) (set3 (set3 HB0.out 0 _) 1 _) (by decide) (by decide) _
              · have h0 := own_stay HWP.out (fun g _ hg => HG8.out.block g hg)
                have h1 := ownsRow_setCell_other (a := ⟨w.heap.size, 0, none⟩) h0 (own_apart h0 HB0.out (by decide)) (.int .i64 (c.toNat : Int))
                have h2 := ownsRow_setCell_other (a := ⟨w.heap.size, 1, none⟩) h1 (own_apart h1 (set3 HB0.out 0 _) (by decide)) (.slice none 0 0)
                exact ownsRow_setCell_other (a := ⟨w.heap.size, 2, none⟩) h2 (own_apart h2 (set3 (set3 HB0.out 0 _) 1 _) (by decide)) _
            · have HU := hide (unpO_wrong HBO.out hr)
              rw [outc_no hr]
              refine ⟨rfl, ?_⟩
              unfold unpAns
              rw [← HUO.out, HU.out]
              exact ⟨HG.out.trans HG8.out, recErr r0, hr, rfl⟩
          · have HU := hide (unpO_left HBO.out hq)
            have hqe : q.isEmpty = false := by cases q with | nil => exact absurd rfl hq | cons => rfl
            have hi0 := cell_of_one (show (w2.alloc (.cells #[.int .i64 (c.toNat : Int), .slice none 0 0, .slice none 0 0] 29)).heap[w.heap.size + 1]? = some (.cells #[.string (bs q)] 113 (0, 0)) from HIQ.out)
            clear hq
            go_wp2_with fail
            refine (refuse_any true 1 (w2.alloc (.cells #[.int .i64 (c.toNat : Int), .slice none 0 0, .slice none 0 0] 29)) (by decide)).mono ?_
            rintro e w7 ⟨rfl, hw7⟩
            subst hw7
            rw [if_pos rfl, outc_no (by decide)]
            refine ⟨rfl, ?_⟩
            unfold unpAns
            rw [← HUO.out, HU.out]
            exact ⟨HG.out, 1, by decide, rfl⟩
/-- What 'Unpack' leaves in its variable. -/
def unpR (Z rb : Nat) (o : Option Rcd) (w : World) (E : Nat) (w' : World) : Prop :=
  KI rb w w' ∧ match o with
    | some r => E = 0 ∧ ∃ vr vp, w'.heap[rb]? = some (.cells #[.int .i64 r.kind, vr, vp] 29 (0, 0)) ∧ ownRefs w' Z vr r.refs ∧ ownPoints w' Z vp r.points
    | none => E ≠ 0
set_option maxRecDepth 20000 in
set_option maxHeartbeats 4000000 in
theorem unpack1_any (w : World) (sb rb : Nat) (s : List UInt8) (hs : s.length ≤ 140737488355328) (hsb : w.heap[sb]? = some (.cells #[.string (bs s)] 9 (0, 0))) (hrb : w.heap[rb]? = some (.cells #[.int .i64 0, .slice none 0 0, .slice none 0 0] 29 (0, 0))) :
    Calls Tryz.prog 62 #[.pointer (some ⟨sb, 0, none⟩), .pointer (some ⟨rb, 0, none⟩)] w (worked (unpR w.heap.size rb (unpO s) w)) := by
  obtain ⟨O, HO⟩ : ∃ O, Hid (unpO s = O) := ⟨_, hide rfl⟩
  have HU := hide (unpacked_any w s hs)
  rw [HO.out] at HU ⊢
  have HRB := hide hrb
  have hlt := lt_of_block hrb
  have c0 := cell_of_one hsb
  unfold unpAns at HU
  clear hrb hsb HO
  cases O with
  | none =>
    simp only at HU
    go_enter Tryz.func62, Tryz.ntmps62
    go_wp2_with fail
    refine HU.out.mono ?_
    rintro e w1 ⟨hg, E, hE, rfl⟩
    refine ⟨rfl, E, (outc_no hE).symm, KI.grow hg, hE⟩
  | some r =>
    simp only at HU
    go_enter Tryz.func62, Tryz.ntmps62
    go_wp2_with fail
    refine HU.out.mono ?_
    rintro e w1 ⟨hg, vr, vp, rfl, hr, hp⟩
    have hb1 := hg.get HRB.out
    have HB1 := hide hb1
    have HG := hide hg
    have HR := hide hr
    have HP := hide hp
    obtain ⟨ro, rc, hvr⟩ := ownRefs_shape hr
    obtain ⟨po, pc, hvp⟩ := own_shape hp
    subst hvr hvp
    obtain ⟨cr0, cr1, cr2⟩ := three_of hb1
    have z0 : w1.frozen? ⟨rb, 0, none⟩ = false := by simp only [World.frozen?, hb1]; rfl
    have z1 : w1.frozen? ⟨rb, 1, none⟩ = false := by simp only [World.frozen?, hb1]; rfl
    have z2 : w1.frozen? ⟨rb, 2, none⟩ = false := by simp only [World.frozen?, hb1]; rfl
    clear hg hr hp hb1 HU
    go_wp2
    go_end0
    refine ⟨0, rfl, (((KI.grow HG.out).trans (KI.set rb _ 0 _)).trans (KI.set rb _ 1 _)).trans (KI.set rb _ 2 _), rfl, .slice ro r.refs.length rc, .slice po r.points.length pc, ?_, ?_, ?_⟩
    · exact set3 (set3 (set3 HB1.out 0 (.int .i64 r.kind)) 1 (.slice ro r.refs.length rc)) 2 (.slice po r.points.length pc)
    · exact ownRefs_set (ownRefs_set (ownRefs_set HR.out HB1.out (by decide) (by decide) _) (set3 HB1.out 0 _) (by decide) (by decide) _) (set3 (set3 HB1.out 0 _) 1 _) (by decide) (by decide) _
    · have h0 := HP.out
      have h1 := ownsRow_setCell_other (a := ⟨rb, 0, none⟩) h0 (own_apart h0 HB1.out (by decide)) (.int .i64 r.kind)
      have h2 := ownsRow_setCell_other (a := ⟨rb, 1, none⟩) h1 (own_apart h1 (set3 HB1.out 0 _) (by decide)) (.slice ro r.refs.length rc)
      exact ownsRow_setCell_other (a := ⟨rb, 2, none⟩) h2 (own_apart h2 (set3 (set3 HB1.out 0 _) 1 _) (by decide)) _
/-- What 'Unpack' answers. -/
def unpackAns (Z : Nat) (o : Option Rcd) (w : World) (e : Ending) (w' : World) : Prop :=
  Grow w w' ∧ match o with
    | some r => ∃ vr vp, e = .returned (.tuple #[.agg #[.int .i64 r.kind, vr, vp], .int .i64 0]) ∧ ownRefs w' Z vr r.refs ∧ ownPoints w' Z vp r.points
    | none => e = .returned (.tuple #[.agg #[.int .i64 0, .slice none 0 0, .slice none 0 0], .int .i64 1])
set_option maxRecDepth 20000 in
set_option maxHeartbeats 4000000 in
theorem unpack_any (w : World) (s : List UInt8) (hs : s.length ≤ 140737488355328) :
    Calls Tryz.prog 33 #[.string (bs s)] w (unpackAns w.heap.size (unpO s) w) := by
  have hcf : ∀ (args : Array Value) (w : World), (callFunc 62 args).run Tryz.prog w = .ok (.enter 62 args) w := fun args w => by simp [go_sem]
  obtain ⟨O, HO⟩ : ∃ O, Hid (unpO s = O) := ⟨_, hide rfl⟩
  rw [HO.out]
  obtain ⟨V1, e1, g1, b1⟩ := laid_at w #[.string (bs s)] 9
  obtain ⟨V2, e2, g2, b2⟩ := laid_at V1 #[.int .i64 0, .slice none 0 0, .slice none 0 0] 29
  obtain ⟨V3, e3, g3, b3⟩ := laid_at V2 #[.int .i64 0, .slice none 0 0, .slice none 0 0] 29
  obtain ⟨V4, e4, g4, b4⟩ := laid_at V3 #[.int .i64 0] 30
  have s1 : V1.heap.size = w.heap.size + 1 := by rw [← e1]; simp
  have s2 : V2.heap.size = w.heap.size + 2 := by rw [← e2]; simp [s1]
  have s3 : V3.heap.size = w.heap.size + 3 := by rw [← e3]; simp [s2]
  have s4 : V4.heap.size = w.heap.size + 4 := by rw [← e4]; simp [s3]
  have b1' := (g2.trans (g3.trans g4)).get b1
  have b2' := (g3.trans g4).get b2
  have b3' := g4.get b3
  rw [s1] at b2'
  rw [s2] at b3'
  rw [s3] at b4
  have h04 : Grow w V4 := g1.trans (g2.trans (g3.trans g4))
  have HW := hide (unpack1_any V4 w.heap.size (w.heap.size + 2) s hs b1' b3')
  rw [HO.out] at HW
  have HB2 := hide b2'
  have HB3 := hide b3'
  have HB4 := hide b4
  have H04 := hide h04
  have E4 := hide e4
  have HAT := hide (attempt_any V3 62 #[.pointer (some ⟨w.heap.size, 0, none⟩), .pointer (some ⟨w.heap.size + 2, 0, none⟩)] (unpR V4.heap.size (w.heap.size + 2) O V4) hcf (by
    rw [E4.out]
    refine HW.out.mono ?_
    rintro e w' ⟨E, he, h1⟩
    exact ⟨E, he, h1, by rw [s3]; exact h1.1.get HB4.out (by omega)⟩))
  rw [← e3, ← e2, ← e1] at HAT
  clear b1 b2 b3 b1' b2' b3' b4 h04 HW g1 g2 g3 g4 e1 e2 e3 e4 HO
  go_enter Tryz.func33, Tryz.ntmps33
  go_wp2_with fail
  refine HAT.out.mono ?_
  rintro e w2 ⟨E, w1, rfl, ⟨hk, hm⟩, hw2⟩
  have hsz3 : (((w.alloc (.cells #[.string (bs s)] 9)).alloc (.cells #[.int .i64 0, .slice none 0 0, .slice none 0 0] 29)).alloc (.cells #[.int .i64 0, .slice none 0 0, .slice none 0 0] 29)).heap.size = w.heap.size + 3 := by simp
  rw [hsz3] at hw2
  have hg4 := hk.get HB4.out (by omega)
  have hb2 : Grow w w2 := by
    rw [hw2]
    exact Below.setCell (grow_ki H04.out hk (by omega)) (by show w.heap.size ≤ w.heap.size + 3; omega) _
  have hr2 : w2.heap[w.heap.size + 1]? = some (.cells #[.int .i64 0, .slice none 0 0, .slice none 0 0] 29 (0, 0)) := by
    rw [hw2]
    exact (Below.heap_setCell _ _ _ _ (by show w.heap.size + 1 ≠ w.heap.size + 3; omega)).trans (hk.get HB2.out (by omega))
  have HG2 := hide hb2
  have HR2 := hide hr2
  clear HAT hsz3
  cases O with
  | none =>
    simp only at hm
    have hne : ((E : Int) != 0) = true := by simp; exact hm
    obtain ⟨cr0, cr1, cr2⟩ := three_of hr2
    have z0 : w2.frozen? ⟨w.heap.size + 1, 0, none⟩ = false := by simp only [World.frozen?, hr2]; rfl
    have z1 : w2.frozen? ⟨w.heap.size + 1, 1, none⟩ = false := by simp only [World.frozen?, hr2]; rfl
    have z2 : w2.frozen? ⟨w.heap.size + 1, 2, none⟩ = false := by simp only [World.frozen?, hr2]; rfl
    clear hw2 hk hm hg4 hb2 hr2
    go_wp2
    have hF := set3 (set3 (set3 HR2.out 0 (.int .i64 0)) 1 (.slice none 0 0)) 2 (.slice none 0 0)
    obtain ⟨f0, f1, f2⟩ := three_of hF
    refine bodyPost_ret (v := .tuple #[.agg #[.int .i64 0, .slice none 0 0, .slice none 0 0], .int .i64 1]) (by simp [results, Tryz.results33, go_sem, f0, f1, f2]) rfl ?_
    exact ⟨Below.setCell (Below.setCell (Below.setCell HG2.out (by show w.heap.size ≤ w.heap.size + 1; omega) _) (by show w.heap.size ≤ w.heap.size + 1; omega) _) (by show w.heap.size ≤ w.heap.size + 1; omega) _, rfl⟩
  | some r =>
    obtain ⟨rfl, vr, vp, hb3, ho, hp⟩ := hm
    have hr3 : w2.heap[w.heap.size + 2]? = some (.cells #[.int .i64 r.kind, vr, vp] 29 (0, 0)) := by
      rw [hw2]
      exact (Below.heap_setCell _ _ _ _ (by show w.heap.size + 2 ≠ w.heap.size + 3; omega)).trans hb3
    have ho2 : ownRefs w2 w.heap.size vr r.refs := by
      rw [hw2]
      exact ownRefs_set (ownRefs_le ho (by omega)) hg4 (by decide) (by decide) _
    have hp2 : ownPoints w2 w.heap.size vp r.points := by
      rw [hw2]
      exact ownsRow_setCell_other (a := ⟨w.heap.size + 3, 0, none⟩) (own_le hp (by omega)) (own_apart hp hg4 (by decide)) _
    have HO2 := hide ho2
    have HP2 := hide hp2
    obtain ⟨ro, rc, hvr⟩ := ownRefs_shape ho2
    obtain ⟨po, pc, hvp⟩ := own_shape hp2
    subst hvr hvp
    obtain ⟨cr0, cr1, cr2⟩ := three_of hr2
    obtain ⟨cb0, cb1, cb2⟩ := three_of hr3
    have z0 : w2.frozen? ⟨w.heap.size + 1, 0, none⟩ = false := by simp only [World.frozen?, hr2]; rfl
    have z1 : w2.frozen? ⟨w.heap.size + 1, 1, none⟩ = false := by simp only [World.frozen?, hr2]; rfl
    have z2 : w2.frozen? ⟨w.heap.size + 1, 2, none⟩ = false := by simp only [World.frozen?, hr2]; rfl
    clear hw2 hk hb3 ho hp hg4 hb2 hr2 hr3 ho2 hp2
    go_wp2
    have hF := set3 (set3 (set3 HR2.out 0 (.int .i64 r.kind)) 1 (.slice ro r.refs.length rc)) 2 (.slice po r.points.length pc)
    obtain ⟨f0, f1, f2⟩ := three_of hF
    refine bodyPost_ret (v := .tuple #[.agg #[.int .i64 r.kind, .slice ro r.refs.length rc, .slice po r.points.length pc], .int .i64 0]) (by simp [results, Tryz.results33, go_sem, f0, f1, f2]) rfl ?_
    refine ⟨Below.setCell (Below.setCell (Below.setCell HG2.out (by show w.heap.size ≤ w.heap.size + 1; omega) _) (by show w.heap.size ≤ w.heap.size + 1; omega) _) (by show w.heap.size ≤ w.heap.size + 1; omega) _, .slice ro r.refs.length rc, .slice po r.points.length pc, rfl, ?_, ?_⟩
    · exact ownRefs_set (ownRefs_set (ownRefs_set HO2.out HR2.out (by decide) (by decide) _) (set3 HR2.out 0 _) (by decide) (by decide) _) (set3 (set3 HR2.out 0 _) 1 _) (by decide) (by decide) _
    · have h0 := HP2.out
      have h1 := ownsRow_setCell_other (a := ⟨w.heap.size + 1, 0, none⟩) h0 (own_apart h0 HR2.out (by decide)) (.int .i64 r.kind)
      have h2 := ownsRow_setCell_other (a := ⟨w.heap.size + 1, 1, none⟩) h1 (own_apart h1 (set3 HR2.out 0 _) (by decide)) (.slice ro r.refs.length rc)
      exact ownsRow_setCell_other (a := ⟨w.heap.size + 1, 2, none⟩) h2 (own_apart h2 (set3 (set3 HR2.out 0 _) 1 _) (by decide)) _
end Go.Proofs.YtkaeogldielkfaaGreat.Rc
namespace Go.Proofs.YtkaeogldielkfaaGreat.Rc
open Go.RowKit Lb
theorem cutN_enc {n : Nat} (h : n < 18446744073709551616) (s : List UInt8) : cutN (numB n ++ s) = some (n, s) := by
  unfold cutN
  rw [numB_read n h s]
  simp only
  rw [List.take_left, if_pos ⟨trivial, rfl⟩, List.drop_left]
theorem cutN_dec {s r : List UInt8} {n : Nat} (h : cutN s = some (n, r)) : s = numB n ++ r := by
  unfold cutN at h
  by_cases hc : (readNum s).2.2 = 0 ∧ s.take (readNum s).2.1 = numB (readNum s).1
  · rw [if_pos hc] at h
    cases h
    rw [← hc.2, List.take_append_drop]
  · rw [if_neg hc] at h; cases h
theorem cutT_enc {t : List UInt8} (h : t.length < 18446744073709551616) (s : List UInt8) : cutT (textB t ++ s) = some (t, s) := by
  unfold cutT textB
  rw [List.append_assoc, cutN_enc h]
  simp only
  rw [if_pos (by rw [List.length_append]; omega), List.take_left, List.drop_left]
theorem cutT_dec {s t r : List UInt8} (h : cutT s = some (t, r)) : s = textB t ++ r := by
  unfold cutT at h
  cases hc : cutN s with
  | none => rw [hc] at h; cases h
  | some x =>
    obtain ⟨n, q⟩ := x
    rw [hc] at h
    simp only at h
    by_cases hl : n ≤ q.length
    · rw [if_pos hl] at h
      cases h
      rw [cutN_dec hc]
      unfold textB
      rw [List.length_take, Nat.min_eq_left hl, List.append_assoc, List.take_append_drop]
    · rw [if_neg hl] at h; cases h
theorem mapO_some' {α β : Type} {f : α → β} {o : Option (α × List UInt8)} {x : α} {r : List UInt8} (h : o = some (x, r)) : mapO f o = some (f x, r) := by rw [h]; rfl
theorem bindO_some' {α β : Type} {o : Option (α × List UInt8)} {f : α → List UInt8 → Option (β × List UInt8)} {x : α} {r : List UInt8} (h : o = some (x, r)) : bindO o f = f x r := by rw [h]; rfl
theorem cutL_enc {y : Lab} (h1 : y.1.length < 18446744073709551616) (h2 : y.2.length < 18446744073709551616) (s : List UInt8) : cutL (labB y ++ s) = some (y, s) := by
  unfold cutL labB
  rw [List.append_assoc, bindO_some' (cutT_enc h1 _), mapO_some' (cutT_enc h2 _)]
theorem cutL_dec {s r : List UInt8} {y : Lab} (h : cutL s = some (y, r)) : s = labB y ++ r := by
  unfold cutL at h
  obtain ⟨n, s1, h1, h⟩ := bindO_some h
  obtain ⟨v, hv, rfl⟩ := mapO_some h
  rw [cutT_dec h1, cutT_dec hv]
  unfold labB
  rw [List.append_assoc]
/-! ### many -/
theorem runN_enc {α : Type} {cut : List UInt8 → Option (α × List UInt8)} {enc : α → List UInt8} {ok : α → Prop} (h : ∀ x s, ok x → cut (enc x ++ s) = some (x, s)) : ∀ (l acc : List α) (s : List UInt8), (∀ x ∈ l, ok x) →
    runN (fun st : List α × List UInt8 => mapO (fun x => st.1 ++ [x]) (cut st.2)) l.length (acc, (l.map enc).flatten ++ s) = some (acc ++ l, s)
  | [], acc, s, _ => by simp [runN]
  | x :: l, acc, s, hok => by
    have h1 := h x ((l.map enc).flatten ++ s) (hok x (by simp))
    rw [List.length_cons, runN_some (st' := (acc ++ [x], (l.map enc).flatten ++ s)) (by
      show mapO (fun y => acc ++ [y]) (cut (((x :: l).map enc).flatten ++ s)) = _
      rw [List.map_cons, List.flatten_cons, List.append_assoc, mapO_some' h1]), runN_enc h l _ s fun y hy => hok y (List.mem_cons_of_mem _ hy)]
    simp
theorem runN_dec {α : Type} {cut : List UInt8 → Option (α × List UInt8)} {enc : α → List UInt8} {ok : α → Prop} (h : ∀ s x r, cut s = some (x, r) → ok x → s = enc x ++ r) : ∀ (n : Nat) (acc : List α) (s : List UInt8) (l' : List α) (r : List UInt8),
    runN (fun st : List α × List UInt8 => mapO (fun x => st.1 ++ [x]) (cut st.2)) n (acc, s) = some (l', r) → (∀ x ∈ l', ok x) → ∃ l, l' = acc ++ l ∧ l.length = n ∧ s = (l.map enc).flatten ++ r
  | 0, acc, s, l', r, e, _ => by cases e; exact ⟨[], by simp, rfl, by simp⟩
  | n + 1, acc, s, l', r, e, hok => by
    cases hc : mapO (fun x => acc ++ [x]) (cut s) with
    | none => rw [runN_none hc] at e; cases e
    | some c =>
      obtain ⟨c1, c2⟩ := c
      obtain ⟨x, hx, rfl⟩ := mapO_some hc
      rw [runN_some hc] at e
      obtain ⟨l, h1, h2, h3⟩ := runN_dec h n _ _ _ _ e hok
      subst h1
      refine ⟨x :: l, by simp, by simp [h2], ?_⟩
      rw [h s x c2 hx (hok x (by simp)), h3]
      simp
theorem eachO_enc {α : Type} {cut : List UInt8 → Option (α × List UInt8)} {enc : α → List UInt8} {ok : α → Prop} (h : ∀ x s, ok x → cut (enc x ++ s) = some (x, s)) {most : Nat} (hm : most ≤ 1000) {l : List α} (hl : l.length ≤ most) (hok : ∀ x ∈ l, ok x) (s : List UInt8) :
    eachO (fun st : List α × List UInt8 => mapO (fun x => st.1 ++ [x]) (cut st.2)) most (fun st => st.2) (fun st r => (st.1, r)) ([], (numB l.length ++ (l.map enc).flatten) ++ s) = some (l, s) := by
  unfold eachO
  simp only
  rw [List.append_assoc, cutN_enc (by omega)]
  simp only
  rw [if_pos hl]
  have := runN_enc h l [] s hok
  simpa using this
theorem eachO_dec {α : Type} {cut : List UInt8 → Option (α × List UInt8)} {enc : α → List UInt8} {ok : α → Prop} (h : ∀ s x r, cut s = some (x, r) → ok x → s = enc x ++ r) {most : Nat} {s r : List UInt8} {l : List α}
    (e : eachO (fun st : List α × List UInt8 => mapO (fun x => st.1 ++ [x]) (cut st.2)) most (fun st => st.2) (fun st r => (st.1, r)) ([], s) = some (l, r)) (hok : ∀ x ∈ l, ok x) : s = (numB l.length ++ (l.map enc).flatten) ++ r := by
  unfold eachO at e
  simp only at e
  cases hc : cutN s with
  | none => rw [hc] at e; cases e
  | some x =>
    rw [hc] at e
    simp only at e
    by_cases hm : x.1 ≤ most
    · rw [if_pos hm] at e
      obtain ⟨l', h1, h2, h3⟩ := runN_dec h _ _ _ _ _ e hok
      simp only [List.nil_append] at h1
      subst h1
      rw [cutN_dec (s := s) (n := x.1) (r := x.2) hc, h3, h2, List.append_assoc]
    · rw [if_neg hm] at e; cases e
/-! ### refs, points -/
theorem numI_nat {n : Nat} (h : n < 9223372036854775808) : numI n = (n : Int) := if_pos h
theorem numI_pos {n : Nat} (h : 0 ≤ numI n) (h1 : n < 18446744073709551616) : (numI n).toNat = n := by
  unfold numI at h ⊢
  split at h
  · rename_i hlt; rw [if_pos hlt]; omega
  · omega
theorem cutR_enc {x : RefL} (h : refErr x = 0) (s : List UInt8) : cutR (refB x ++ s) = some (x, s) := by
  obtain ⟨⟨h1, h2⟩, h3, hc⟩ := refErr_zero h
  obtain ⟨h20, hs⟩ := check_small hc
  unfold cutR refB
  have e1 : mapO numI (cutN (numB x.1.toNat ++ ((numB x.2.length ++ labsB x.2) ++ s))) = some (x.1, (numB x.2.length ++ labsB x.2) ++ s) := by
    rw [mapO_some' (cutN_enc (by omega) _), numI_nat (by omega)]
    congr 2
    omega
  rw [List.append_assoc, bindO_some' e1]
  have e2 : cutLs ((numB x.2.length ++ labsB x.2) ++ s) = some (x.2, s) := eachO_enc (cut := cutL) (enc := labB) (ok := fun y => y.1.length < 18446744073709551616 ∧ y.2.length < 18446744073709551616) (fun y s h => cutL_enc h.1 h.2 s) (by omega) h20 (fun y hy => by have := hs y hy; exact ⟨by omega, by omega⟩) s
  rw [mapO_some' e2]
theorem cutR_dec {s r : List UInt8} {x : RefL} (h : cutR s = some (x, r)) (h0 : refErr x = 0) : s = refB x ++ r := by
  obtain ⟨⟨h1, h2⟩, h3, hc⟩ := refErr_zero h0
  unfold cutR at h
  obtain ⟨n, s1, e1, h⟩ := bindO_some h
  obtain ⟨ls, e2, rfl⟩ := mapO_some h
  obtain ⟨n1, e3, rfl⟩ := mapO_some e1
  simp only at h1 h2
  have hd : s1 = (numB ls.length ++ labsB ls) ++ r := eachO_dec (cut := cutL) (enc := labB) (ok := fun _ => True) (fun s x r h _ => cutL_dec h) e2 (fun _ _ => trivial)
  rw [cutN_dec e3, hd]
  unfold refB
  simp only
  rw [numI_pos (by omega) (cutN_lt e3).1]
  simp
theorem timeI_timeN {t : Int} : timeI (timeN t) = t := by
  unfold timeI timeN
  by_cases h : t < 0
  · rw [if_pos h, if_pos (by omega)]; omega
  · rw [if_neg h, if_neg (by omega)]; omega
theorem timeN_timeI (n : Nat) : timeN (timeI n) = n := by
  unfold timeI
  by_cases h : n % 2 = 1
  · rw [if_pos h]; unfold timeN; rw [if_pos (by omega)]; omega
  · rw [if_neg h]; unfold timeN; rw [if_neg (by omega)]; omega
theorem byteAt_div (n j : Nat) : byteAt n (j + 1) = byteAt (n / 256) j := by
  unfold byteAt
  rw [Nat.pow_succ, Nat.mul_comm, ← Nat.div_div_eq_div_mul]
theorem wordR_cons (n k : Nat) : wordR n (k + 1) = UInt8.ofNat (n % 256) :: wordR (n / 256) k := by
  unfold wordR
  rw [List.range_succ_eq_map, List.map_cons, List.map_map]
  congr 1
  · unfold byteAt; simp
  · apply List.map_congr_left
    intro j _
    exact byteAt_div n j
theorem wordI_wordR : ∀ (k n : Nat), n < 256 ^ k → wordI (wordR n k) = n
  | 0, n, h => by simp at h; subst h; rfl
  | k + 1, n, h => by
    rw [wordR_cons, wordI, wordI_wordR k (n / 256) (by rw [Nat.pow_succ] at h; omega), UInt8.toNat_ofNat']
    omega
theorem wordR_wordI : ∀ (l : List UInt8), wordR (wordI l) l.length = l
  | [] => rfl
  | c :: l => by
    have hc := c.toNat_lt
    rw [List.length_cons, wordR_cons, wordI]
    have e1 : (c.toNat + 256 * wordI l) % 256 = c.toNat := by omega
    have e2 : (c.toNat + 256 * wordI l) / 256 = wordI l := by omega
    rw [e1, e2, wordR_wordI l, UInt8.ofNat_toNat]
theorem cut8_enc {b : Nat} (h : b < 18446744073709551616) (s : List UInt8) : cut8 (wordR b 8 ++ s) = some (b, s) := by
  have hl := wordR_length b 8
  unfold cut8
  rw [if_pos (by rw [List.length_append]; omega)]
  have e1 : (wordR b 8 ++ s).take 8 = wordR b 8 := by
    have := List.take_left (l₁ := wordR b 8) (l₂ := s)
    rwa [hl] at this
  have e2 : (wordR b 8 ++ s).drop 8 = s := by
    have := List.drop_left (l₁ := wordR b 8) (l₂ := s)
    rwa [hl] at this
  rw [e1, e2, wordI_wordR 8 b (by omega)]
theorem cut8_dec {s r : List UInt8} {b : Nat} (h : cut8 s = some (b, r)) : s = wordR b 8 ++ r := by
  unfold cut8 at h
  by_cases h8 : 8 ≤ s.length
  · rw [if_pos h8] at h
    cases h
    have hl : (s.take 8).length = 8 := by rw [List.length_take]; omega
    have := wordR_wordI (s.take 8)
    rw [hl] at this
    rw [this, List.take_append_drop]
  · rw [if_neg h8] at h; cases h
theorem cutP_enc {p : Pnt} (h : pointErr p = 0) (hb : p.2.2 < 18446744073709551616) (s : List UInt8) : cutP (pointB p ++ s) = some (p, s) := by
  obtain ⟨⟨h1, h2⟩, h3, h4⟩ := pointErr_zero' h
  obtain ⟨x, t, b⟩ := p
  simp only at h1 h2 h3 h4 hb
  unfold cutP pointB
  simp only
  rw [List.append_assoc, List.append_assoc]
  have e1 : ∀ s, mapO numI (cutN (numB x.toNat ++ s)) = some (x, s) := fun s => by
    rw [mapO_some' (cutN_enc (by omega) _), numI_nat (by omega)]
    congr 2
    omega
  have e2 : ∀ s, mapO timeI (cutN (numB (timeN t) ++ s)) = some (t, s) := fun s => by
    have ht : timeN t < 18446744073709551616 := by unfold timeN; split <;> omega
    rw [mapO_some' (cutN_enc ht _), timeI_timeN]
  rw [bindO_some' (e1 _), bindO_some' (e2 _), mapO_some' (cut8_enc hb _)]
theorem cutP_dec {s r : List UInt8} {p : Pnt} (h : cutP s = some (p, r)) (h0 : pointErr p = 0) : s = pointB p ++ r := by
  obtain ⟨⟨h1, h2⟩, h3, h4⟩ := pointErr_zero' h0
  unfold cutP at h
  obtain ⟨a, s1, k1, h⟩ := bindO_some h
  obtain ⟨t, s2, k2, h⟩ := bindO_some h
  obtain ⟨n1, e1, rfl⟩ := mapO_some k1
  obtain ⟨n2, e2, rfl⟩ := mapO_some k2
  obtain ⟨n3, e3, rfl⟩ := mapO_some h
  simp only at h1 h2
  rw [cutN_dec e1, cutN_dec e2, cut8_dec e3]
  unfold pointB
  simp only
  rw [numI_pos (by omega) (cutN_lt e1).1, timeN_timeI]
  simp
/-! ### the whole -/
theorem unpO_pack {r : Rcd} (h : recErr r = 0) (hb : ∀ x ∈ r.points, x.2.2 < 18446744073709551616) : unpO (packB r) = some r := by
  obtain ⟨hk, hrl, hpl, hro, hpo⟩ := recErr_zero h
  obtain ⟨kind, rs, ps⟩ := r
  simp only at hk hrl hpl hro hpo hb
  have h' := h
  unfold recErr at h'
  rcases hk with rfl | rfl
  · have hp0 : ps = [] := by
      by_cases hp : 0 < ps.length
      · simp only at h'
        rw [if_neg (by simp), if_pos (.inl ⟨trivial, hp⟩)] at h'; cases h'
      · exact List.length_eq_zero_iff.1 (by omega)
    subst hp0
    have e : eachO stepR 200 (fun st => st.2) (fun st r => (st.1, r)) ([], (numB rs.length ++ refsB rs) ++ []) = some (rs, []) := eachO_enc (cut := cutR) (enc := refB) (ok := fun x => refErr x = 0) (fun x s h => cutR_enc h s) (by omega) hrl hro []
    rw [List.append_nil] at e
    have hb1 : bodyO (UInt8.ofNat 1) (numB rs.length ++ refsB rs) = some (⟨1, rs, []⟩, []) := by
      unfold bodyO
      rw [if_pos (by decide), e]
      rfl
    exact unpO_ok hb1 h
  · have hp0 : rs = [] := by
      by_cases hp : 0 < rs.length
      · simp only at h'
        rw [if_neg (by simp), if_pos (.inr ⟨trivial, hp⟩)] at h'; cases h'
      · exact List.length_eq_zero_iff.1 (by omega)
    subst hp0
    have e : eachO stepP 200 (fun st => st.2) (fun st r => (st.1, r)) ([], (numB ps.length ++ pointsB ps) ++ []) = some (ps, []) := eachO_enc (cut := cutP) (enc := pointB) (ok := fun x => pointErr x = 0 ∧ x.2.2 < 18446744073709551616) (fun x s h => cutP_enc h.1 h.2 s) (by omega) hpl (fun x hx => ⟨hpo x hx, hb x hx⟩) []
    rw [List.append_nil] at e
    have hb1 : bodyO (UInt8.ofNat 2) (numB ps.length ++ pointsB ps) = some (⟨2, [], ps⟩, []) := by
      unfold bodyO
      rw [if_neg (by decide), if_pos (by decide), e]
      rfl
    exact unpO_ok hb1 h
theorem unpO_some {s : List UInt8} {r : Rcd} (h : unpO s = some r) : recErr r = 0 ∧ packB r = s := by
  cases s with
  | nil => cases h
  | cons c s =>
    simp only [unpO] at h
    cases hb : bodyO c s with
    | none => rw [hb] at h; cases h
    | some x =>
      obtain ⟨r0, q⟩ := x
      rw [hb] at h
      simp only at h
      by_cases hc : q = [] ∧ recErr r0 = 0
      · rw [if_pos hc] at h
        cases h
        obtain ⟨rfl, hr⟩ := hc
        refine ⟨hr, ?_⟩
        obtain ⟨hk, hrl, hpl, hro, hpo⟩ := recErr_zero hr
        have hcl := c.toNat_lt
        unfold bodyO at hb
        by_cases h1 : c.toNat = 1
        · rw [if_pos h1] at hb
          obtain ⟨l, e, rfl⟩ := mapO_some hb
          have hd : s = (numB l.length ++ refsB l) ++ [] := eachO_dec (cut := cutR) (enc := refB) (ok := fun x => refErr x = 0) (fun s x r h h0 => cutR_dec h h0) e hro
          rw [hd, List.append_nil]
          have hc1 : c = UInt8.ofNat 1 := by rw [← h1, UInt8.ofNat_toNat]
          rw [hc1]
          rfl
        · rw [if_neg h1] at hb
          by_cases h2 : c.toNat = 2
          · rw [if_pos h2] at hb
            obtain ⟨l, e, rfl⟩ := mapO_some hb
            have hd : s = (numB l.length ++ pointsB l) ++ [] := eachO_dec (cut := cutP) (enc := pointB) (ok := fun x => pointErr x = 0) (fun s x r h h0 => cutP_dec h h0) e hpo
            rw [hd, List.append_nil]
            have hc1 : c = UInt8.ofNat 2 := by rw [← h2, UInt8.ofNat_toNat]
            rw [hc1]
            rfl
          · rw [if_neg h2] at hb
            cases hb
            simp only at hk
            omega
      · rw [if_neg hc] at h; cases h
end Go.Proofs.YtkaeogldielkfaaGreat.Rc
namespace Go.Proofs.YtkaeogldielkfaaGreat.Rc
open Go.RowKit Lb
attribute [local go_sem] bs_size bs_toList bs_append bs_get bs_extract
theorem drewN_below (w : World) (n B : Nat) : Below B w (w.drewN n) := ⟨rfl, rfl, rfl, Nat.le_refl _, fun _ _ => rfl⟩
set_option maxRecDepth 20000 in
set_option maxHeartbeats 2000000 in
theorem sameLab_yes (w : World) (va vb : Value) (a : List Lab) (ha : readsLabels w w.heap.size va a) (hb : readsLabels w w.heap.size vb a) (hl : a.length ≤ 1000000) :
    Calls Tryz.prog 30 #[va, vb] w fun e w' => e = .returned (.bool true) ∧ ∃ n, w' = w.drewN n := by
  obtain ⟨ao, ac, rfl, acells⟩ := ha
  obtain ⟨bo, bc, rfl, bcells⟩ := hb
  go_enter Tryz.func30, Tryz.ntmps30
  go_wp2
  go_loopw [5] (fun i wr => ∃ k n : Nat, k ≤ a.length ∧ i = .int .i64 k ∧ Hid (wr = w.drewN n)) (fun i _ => a.length - (intOf i).toNat)
  case atStart => exact ⟨0, 0, by omega, rfl, hide rfl⟩
  case round =>
    obtain ⟨k, n, hk, rfl, HW⟩ := hrel
    by_cases hlt : k < a.length
    · obtain ⟨ab, aof, rfl, haB, a0, a1⟩ := acells k hlt
      obtain ⟨bb, bof, rfl, hbB, b0, b1⟩ := bcells k hlt
      have d0 : wr.cell? ⟨ab, aof + k * 2, none⟩ = some (.string (bs a[k].1)) := by rw [HW.out]; exact a0
      have d1 : wr.cell? ⟨ab, aof + k * 2 + 1, none⟩ = some (.string (bs a[k].2)) := by rw [HW.out]; exact a1
      have e0 : wr.cell? ⟨bb, bof + k * 2, none⟩ = some (.string (bs a[k].1)) := by rw [HW.out]; exact b0
      have e1 : wr.cell? ⟨bb, bof + k * 2 + 1, none⟩ = some (.string (bs a[k].2)) := by rw [HW.out]; exact b1
      clear a0 a1 b0 b1 acells bcells
      go_wp2
      go_quiet (fail)
      go_wp2
      go_roundw
      case rel => exact ⟨k + 1, _, by omega, by go_num, hide (by rw [HW.out, World.drewN_drewN])⟩
      case measure => simp [intOf]; omega
    · obtain rfl : k = a.length := by omega
      go_wp2
      go_ret
      exact ⟨rfl, n, HW.out⟩
set_option maxRecDepth 20000 in
set_option maxHeartbeats 4000000 in
theorem sameRefs_yes (w : World) (va vb : Value) (a : List RefL) (ha : readsRefs w w.heap.size va a) (hb : readsRefs w w.heap.size vb a) (hl : a.length ≤ 1000000) (hll : ∀ x ∈ a, x.2.length ≤ 1000000) :
    Calls Tryz.prog 34 #[va, vb] w fun e w' => e = .returned (.bool true) ∧ ∃ n, w' = w.drewN n := by
  have HA := hide ha
  have HB := hide hb
  have HLL := hide hll
  obtain ⟨ao, ac, rfl, _⟩ := ha
  obtain ⟨bo, bc, rfl, _⟩ := hb
  clear hll
  go_enter Tryz.func34, Tryz.ntmps34
  go_wp2
  go_loopw [5] (fun i wr => ∃ k n : Nat, k ≤ a.length ∧ i = .int .i64 k ∧ Hid (wr = w.drewN n)) (fun i _ => a.length - (intOf i).toNat)
  case atStart => exact ⟨0, 0, by omega, rfl, hide rfl⟩
  case round =>
    obtain ⟨k, n, hk, rfl, HW⟩ := hrel
    by_cases hlt : k < a.length
    · have hlti : (k : Int) < (a.length : Int) := by omega
      obtain ⟨ab, aof, va', rfl, haB, hla, a0, a1⟩ : ∃ b' o vl, ao = some ⟨b', o, none⟩ ∧ b' < w.heap.size ∧ readsLabels wr w.heap.size vl a[k].2 ∧ wr.cell? ⟨b', o + k * 2, none⟩ = some (.int .i64 a[k].1) ∧ wr.cell? ⟨b', o + k * 2 + 1, none⟩ = some vl := by
        obtain ⟨ao', cp', e, h⟩ := HA.out.keep (show Below w.heap.size w wr from HW.out ▸ drewN_below w n _)
        cases e
        exact h k hlt
      obtain ⟨bb, bof, vb', rfl, hbB, hlb, b0, b1⟩ : ∃ b' o vl, bo = some ⟨b', o, none⟩ ∧ b' < w.heap.size ∧ readsLabels wr w.heap.size vl a[k].2 ∧ wr.cell? ⟨b', o + k * 2, none⟩ = some (.int .i64 a[k].1) ∧ wr.cell? ⟨b', o + k * 2 + 1, none⟩ = some vl := by
        obtain ⟨ao', cp', e, h⟩ := HB.out.keep (show Below w.heap.size w wr from HW.out ▸ drewN_below w n _)
        cases e
        exact h k hlt
      have hl1 := HLL.out _ (List.getElem_mem hlt)
      obtain ⟨x, hx⟩ : ∃ x, a[k] = x := ⟨_, rfl⟩
      rw [hx] at a0 b0 hla hlb hl1
      have HLA := hide hla
      have HLB := hide hlb
      have hws : wr.heap.size = w.heap.size := by rw [HW.out]; rfl
      have HWS := hide hws
      obtain ⟨lao, lac, rfl⟩ := readsLabels_len hla
      obtain ⟨lbo, lbc, rfl⟩ := readsLabels_len hlb
      have HC : Hid (∀ q, Calls Tryz.prog 30 #[.slice lao x.2.length lac, .slice lbo x.2.length lbc] (wr.drewN q) fun e w' => e = .returned (.bool true) ∧ ∃ n, w' = (wr.drewN q).drewN n) := hide fun q => by
        have h1 := readsLabels_below HLA.out (drewN_below wr q _)
        have h2 := readsLabels_below HLB.out (drewN_below wr q _)
        exact (sameLab_yes (wr.drewN q) _ _ x.2 (readsLabels_mono h1 (by show _ ≤ wr.heap.size; rw [HWS.out]; exact Nat.le_refl _)) (readsLabels_mono h2 (by show _ ≤ wr.heap.size; rw [HWS.out]; exact Nat.le_refl _)) hl1)
      have hne : (x.1 != x.1) = false := by simp
      clear hla hlb hx hws
      go_wp2
      go_quiet ((go_at_call 30; exact Calls.quiet_of (HC.out _)))
      go_wp2
      go_roundw
      case rel => exact ⟨k + 1, _, by omega, by go_num, hide (by rw [HW.out, World.drewN_drewN])⟩
      case measure => simp [intOf]; omega
    · obtain rfl : k = a.length := by omega
      go_wp2
      go_ret
      exact ⟨rfl, n, HW.out⟩
/-! ### what the statements begin with -/
def begR : Rcd := ⟨2, [], [(1, -1, 0)]⟩
theorem begR_err : recErr begR = 0 := by decide
theorem begR_pack : (packB begR).length = 12 := by decide +kernel
theorem begR_unp : unpO (packB begR) = some begR := unpO_pack begR_err (by intro x hx; simp [begR] at hx; subst hx; decide)
set_option maxRecDepth 20000 in
set_option maxHeartbeats 4000000 in
theorem recordBegun_any (w : World) : Calls Tryz.prog 11 #[] w fun e w' => e = .returned (.bool true) ∧ Grow w w' := by
  obtain ⟨V1, e1, g1, b1⟩ := laid_at w #[.int .i64 1, .int .i64 (-1), .int .u64 0] 64
  have hc := three_of b1
  have hlt := lt_of_block b1
  have HP := hide (pack_any V1 (.slice none 0 0) (.slice (some ⟨w.heap.size, 0, none⟩) 1 1) begR ⟨none, 0, rfl, fun i hi => by simp [begR] at hi⟩ ⟨_, _, rfl, fun i hi => ⟨w.heap.size, 0, rfl, hlt, by
    obtain rfl : i = 0 := by simp [begR] at hi; omega
    exact ⟨hc.1, hc.2.1, hc.2.2⟩⟩⟩ ⟨⟨by decide, by decide⟩, by decide, by decide, by intro x hx; simp [begR] at hx, by intro x hx; simp [begR] at hx; subst hx; exact ⟨by decide, by decide, by decide, by decide, by decide⟩⟩)
  have hpt : packT begR = packB begR := if_pos begR_err
  rw [begR_err, hpt] at HP
  obtain ⟨P, HPP⟩ : ∃ P, Hid (packB begR = P) := ⟨_, hide rfl⟩
  have hpl : P.length = 12 := by rw [← HPP.out]; exact begR_pack
  have hpli : ((P.length : Int) == 12) = true := by simp [hpl]
  have HUN := hide (fun W => unpack_any W P (by omega))
  rw [HPP.out] at HP
  have hun : unpO P = some begR := by rw [← HPP.out]; exact begR_unp
  rw [hun] at HUN
  unfold unpackAns at HUN
  simp only at HUN
  have HG := hide g1
  rw [← e1] at HP HG
  clear e1 g1 b1 hc hlt hpt hun hpl
  go_enter Tryz.func11, Tryz.ntmps11
  go_wp2_with fail
  refine HP.out.mono ?_
  rintro e w2 ⟨rfl, hg2⟩
  have HG2 := hide (HG.out.trans hg2)
  clear hg2 HP
  go_wp2_with fail
  refine (HUN.out w2).mono ?_
  rintro e w3 ⟨hg3, vr, vp, rfl, hor, hop⟩
  have HG3 := hide (HG2.out.trans hg3)
  have HRP := hide (reads_ownPoints hop)
  obtain ⟨ro, rc, hvr⟩ := ownRefs_shape hor
  obtain ⟨po, pc, hvp⟩ := own_shape hop
  subst hvr hvp
  clear hg3 hor hop HUN
  obtain ⟨ao', cp', e, h⟩ := HRP.out
  cases e
  obtain ⟨pb, pof, hpo, hpB, p0, p1, p2⟩ := h 0 (by decide)
  subst hpo
  have e0 : begR.points[0] = (1, -1, 0) := rfl
  rw [e0] at p1
  simp only [Nat.zero_mul, Nat.add_zero] at p1
  have hk2 : begR.kind = 2 := rfl
  have hl1 : begR.points.length = 1 := rfl
  have hl0 : begR.refs.length = 0 := rfl
  clear p0 p2 h e0
  go_wp2
  go_ret
  exact ⟨rfl, HG3.out.trans ((Grow.refl _).alloc _)⟩
theorem KI.drewN' (b : Nat) (w : World) (n : Nat) : KI b w (w.drewN n) := ⟨rfl, rfl, rfl, Nat.le_refl _, fun _ _ _ => rfl⟩
/-- What a cursor has: what is not read yet, and whether something was bad. -/
abbrev Cur := List UInt8 × Bool
def CurAt (w : World) (b : Nat) (c : Cur) : Prop := w.heap[b]? = some (.cells #[.string (bs c.1), .bool c.2] 123 (0, 0))
theorem CurAt.get {w w' : World} {b : Nat} {c : Cur} (h : CurAt w b c) (g : Grow w w') : CurAt w' b c := g.get h
/-- A number, or that it was bad. -/
def numT (c : Cur) : Nat × Cur := if c.2 = true then (0, (c.1, true)) else match cutN c.1 with
  | none => (0, (c.1, true))
  | some x => if x.1 ≤ 4611686018427387904 then (x.1, (x.2, false)) else (0, (c.1, true))
def bytT (n : Nat) (c : Cur) : List UInt8 × Cur := if c.2 = true ∨ c.1.length < n then ([], (c.1, true)) else (c.1.take n, (c.1.drop n, false))
theorem numT_le (c : Cur) : (numT c).1 ≤ 4611686018427387904 := by
  unfold numT
  split
  · exact Nat.zero_le _
  · split
    · exact Nat.zero_le _
    · split
      · rename_i h; exact h
      · exact Nat.zero_le _
theorem numT_bad {s : List UInt8} : numT (s, true) = (0, (s, true)) := if_pos rfl
theorem bytT_bad {s : List UInt8} {n : Nat} : bytT n (s, true) = ([], (s, true)) := if_pos (.inl rfl)
/-- What NumberAt says is what a number is, or both have errors. -/
theorem cutN_at (l : List UInt8) : cutN l = if (numAt l).2.2 = 0 ∧ numB (numAt l).1 = l.take (numAt l).2.1 then some ((numAt l).1, l.drop (numAt l).2.1) else none := by
  unfold cutN
  rcases numAt_read l with ⟨h1, h2⟩ | ⟨h1, h2⟩
  · rw [h2]
    by_cases hc : l.take (numAt l).2.1 = numB (numAt l).1
    · rw [if_pos ⟨h1, hc⟩, if_pos ⟨h1, hc.symm⟩]
    · rw [if_neg (fun h => hc h.2), if_neg (fun h => hc h.2.symm)]
  · rw [if_neg (fun h => h2 h.1), if_neg (fun h => h1 h.1)]
theorem numAt_le (l : List UInt8) : (numAt l).2.1 ≤ l.length ∧ (numAt l).1 < 18446744073709551616 := by
  rcases numAt_read l with ⟨h1, h2⟩ | ⟨h1, h2⟩
  · have := readNum_le l
    rw [h2] at this
    exact ⟨this.1, this.2.2⟩
  · unfold numAt at h1 ⊢
    split
    · exact ⟨Nat.zero_le _, by decide⟩
    · split
      · exact ⟨Nat.zero_le _, by decide⟩
      · rename_i h3 h4
        rw [if_neg h3, if_neg h4] at h1
        exact absurd rfl h1
set_option maxRecDepth 20000 in
set_option maxHeartbeats 4000000 in
theorem curBytes_any (w : World) (b n : Nat) (c : Cur) (h : CurAt w b c) (hs : c.1.length ≤ 140737488355328) (hn : n ≤ 9223372036854775807) :
    Calls Tryz.prog 74 #[.pointer (some ⟨b, 0, none⟩), .int .i64 n] w fun e w' => e = .returned (.string (bs (bytT n c).1)) ∧ KI b w w' ∧ CurAt w' b (bytT n c).2 := by
  obtain ⟨s, bad⟩ := c
  obtain ⟨c0, c1⟩ := two_of h
  have z0 : w.frozen? ⟨b, 0, none⟩ = false := by simp only [World.frozen?, show w.heap[b]? = _ from h]; rfl
  have z1 : w.frozen? ⟨b, 1, none⟩ = false := by simp only [World.frozen?, show w.heap[b]? = _ from h]; rfl
  have HS := hide (show w.heap[b]? = some (.cells #[.string (bs s), .bool bad] 123 (0, 0)) from h)
  simp only at c0 c1 hs
  have hfin : ∀ u v, (w.setCell ⟨b, 1, none⟩ u).heap[b]? = some (.cells #[.string (bs s), u] 123 (0, 0)) ∧ (w.setCell ⟨b, 0, none⟩ v).heap[b]? = some (.cells #[v, .bool bad] 123 (0, 0)) := fun u v => ⟨by have := set3 h 1 u; simpa using this, by have := set3 h 0 v; simpa using this⟩
  have HF := hide hfin
  clear h hfin
  cases bad with
  | true =>
    go_enter Tryz.func74, Tryz.ntmps74
    go_wp2
    go_ret
    rw [bytT_bad]
    exact ⟨rfl, KI.set b w 1 _, (HF.out _ (.bool true)).1⟩
  | false =>
    by_cases hl : s.length < n
    · have hli : (s.length : Int) < (n : Int) := by omega
      have hb : Hid (bytT n (s, false) = ([], (s, true))) := hide (by unfold bytT; rw [if_pos (.inr hl)])
      clear hl
      go_enter Tryz.func74, Tryz.ntmps74
      go_wp2
      go_ret
      rw [hb.out]
      exact ⟨rfl, KI.set b w 1 _, (HF.out _ (.bool true)).1⟩
    · have hli : ¬ (s.length : Int) < (n : Int) := by omega
      have hl2 : (n : Int) ≤ (s.length : Int) := by omega
      have hl3 : n ≤ s.length := by omega
      have hb : Hid (bytT n (s, false) = (s.take n, (s.drop n, false))) := hide (by unfold bytT; rw [if_neg (by simp; omega)])
      have hq : (s.drop n).take (s.length - n) = s.drop n := List.take_of_length_le (by rw [List.length_drop]; exact Nat.le_refl _)
      clear hl
      go_enter Tryz.func74, Tryz.ntmps74
      go_wp2
      go_ret
      rw [hb.out]
      exact ⟨rfl, KI.set b w 0 _, (HF.out (.bool true) _).2⟩
set_option maxRecDepth 20000 in
set_option maxHeartbeats 8000000 in
theorem curNumber_any (w : World) (b : Nat) (c : Cur) (h : CurAt w b c) (hs : c.1.length ≤ 140737488355328) :
    Calls Tryz.prog 75 #[.pointer (some ⟨b, 0, none⟩)] w fun e w' => e = .returned (.int .i64 ((numT c).1 : Nat)) ∧ KI b w w' ∧ CurAt w' b (numT c).2 := by
  obtain ⟨s, bad⟩ := c
  obtain ⟨c0, c1⟩ := two_of h
  simp only at c0 c1 hs
  have H := hide (show w.heap[b]? = some (.cells #[.string (bs s), .bool bad] 123 (0, 0)) from h)
  have HF1 : Hid (∀ W : World, W.heap[b]? = some (.cells #[.string (bs s), .bool bad] 123 (0, 0)) → ∀ u, (W.setCell ⟨b, 1, none⟩ u).heap[b]? = some (.cells #[.string (bs s), u] 123 (0, 0))) := hide fun W hW u => by have := set3 hW 1 u; simpa using this
  have HF0 : Hid (∀ W : World, W.heap[b]? = some (.cells #[.string (bs s), .bool bad] 123 (0, 0)) → ∀ u, (W.setCell ⟨b, 0, none⟩ u).heap[b]? = some (.cells #[u, .bool bad] 123 (0, 0))) := hide fun W hW u => by have := set3 hW 0 u; simpa using this
  have HZ : Hid (∀ W : World, W.heap[b]? = some (.cells #[.string (bs s), .bool bad] 123 (0, 0)) → W.frozen? ⟨b, 0, none⟩ = false ∧ W.frozen? ⟨b, 1, none⟩ = false) := hide fun W hW => ⟨by simp only [World.frozen?, hW]; rfl, by simp only [World.frozen?, hW]; rfl⟩
  obtain ⟨hle, hlt⟩ := numAt_le s
  have hcut := cutN_at s
  have HN := hide (numberAt_any s w (by omega))
  obtain ⟨n, k, er, hna⟩ : ∃ n k er, numAt s = (n, k, er) := ⟨_, _, _, rfl⟩
  rw [hna] at hle hlt hcut HN
  simp only at hle hlt hcut HN
  have HCUT := hide hcut
  clear h hna hcut
  cases bad with
  | true =>
    obtain ⟨z0, z1⟩ := HZ.out w H.out
    go_enter Tryz.func75, Tryz.ntmps75
    go_wp2_with fail
    refine HN.out.mono ?_
    rintro e w1 ⟨rfl, hw1⟩
    subst hw1
    go_wp2
    go_quiet (fail)
    go_wp2
    go_ret
    rw [numT_bad]
    exact ⟨rfl, (KI.drewN' b _ _).trans (KI.set b _ 1 _), HF1.out _ H.out _⟩
  | false =>
    by_cases he : er = 0
    · subst he
      by_cases hn : n ≤ 4611686018427387904
      · have hni : decide (4611686018427387904 < n) = false := decide_eq_false (by omega)
        have hw1 : IntKind.i64.wrap (n : Int) = n := by rw [IntKind.wrap_i64]; omega
        have hki : (k : Int) ≤ (s.length : Int) := by omega
        have hq : (s.drop k).take (s.length - k) = s.drop k := List.take_of_length_le (by rw [List.length_drop]; exact Nat.le_refl _)
        have HNO : Hid (∀ W, Calls Tryz.prog 104 #[.int .u64 n] W fun e w' => e = .returned (.string (bs (numB n))) ∧ Below W.heap.size W w') := hide fun W => numberOf_any n W (by omega)
        obtain ⟨qb, hqb⟩ : ∃ qb, (numB n != s.take k) = qb := ⟨_, rfl⟩
        go_enter Tryz.func75, Tryz.ntmps75
        go_wp2_with fail
        refine HN.out.mono ?_
        rintro e w1 ⟨rfl, hw1⟩
        subst hw1
        go_wp2
        refine wp_region_free 23 52 mixedR rfl (by decide +kernel) Grow (fun _ _ _ => Grow.trans) (Grow.refl _)
          (fun i v _ => match i with
            | 0 => v = .pointer (some ⟨b, 0, none⟩)
            | 1 => v = .pointer (some ⟨b, 0, none⟩)
            | 2 => v = .pointer (some ⟨b, 1, none⟩)
            | 3 => v = .bool false
            | 4 => v = .bool false
            | 5 => v = .int .i64 0
            | 6 => v = .bool false
            | 7 => v = .bool false
            | 8 => v = .bool false
            | 9 => v = .int .u64 n
            | 10 => v = .bool false
            | 11 => v = .bool false
            | 12 => v = .bool false
            | 13 => v = .int .u64 n
            | 14 => v = .string (bs (numB n))
            | 15 => v = .pointer (some ⟨b, 0, none⟩)
            | 16 => v = .pointer (some ⟨b, 0, none⟩)
            | 17 => v = .pointer (some ⟨b, 0, none⟩)
            | 18 => v = .string (bs s)
            | 19 => v = .int .i64 k
            | 20 => v = .string (bs (s.take k))
            | 21 => v = .bool qb
            | _ => v = .bool qb)
          (fun i v w w' h hg => h) (fun _ _ => False) (fun _ _ _ _ h => h.elim) (fun i hi o ho a w2 hG hoff hdep => ?_) (fun vals w2 hG hvals => ?_)
        · obtain ⟨x0, x1⟩ := two_of (below_block hG.undrew H.out (lt_of_block H.out))
          match i, hi with
          | 0, _ =>
            obtain rfl := Option.some.inj ho
            have o0 := hoff 0 (by decide +kernel)
            simp at o0
            simp [opYields, go_sem, o0]
            exact Grow.refl _
          | 1, _ =>
            obtain rfl := Option.some.inj ho
            have d0 := hdep 0 (by decide +kernel)
            simp [slotOf, dstOf] at d0
            simp [opYields, go_sem, d0]
            exact Grow.refl _
          | 2, _ =>
            obtain rfl := Option.some.inj ho
            have d1 := hdep 1 (by decide +kernel)
            simp [slotOf, dstOf] at d1
            simp [opYields, go_sem, d1]
            exact Grow.refl _
          | 3, _ =>
            obtain rfl := Option.some.inj ho
            have d2 := hdep 2 (by decide +kernel)
            simp [slotOf, dstOf] at d2
            simp [opYields, go_sem, d2, x1]
            exact Grow.refl _
          | 4, _ =>
            obtain rfl := Option.some.inj ho
            have d3 := hdep 3 (by decide +kernel)
            simp [slotOf, dstOf] at d3
            simp [opYields, go_sem, d3]
            exact Grow.refl _
          | 5, _ =>
            have hwt := gwanted ho (g := 4) (bb := false) (by rfl) (hdep 4 (by decide +kernel))
            unfold opYields
            rw [if_pos hwt]
            obtain rfl := Option.some.inj ho
            have o5 := hoff 5 (by decide +kernel)
            simp at o5
            simp [go_sem, o5]
            exact Grow.refl _
          | 6, _ =>
            have hwt := gwanted ho (g := 4) (bb := false) (by rfl) (hdep 4 (by decide +kernel))
            unfold opYields
            rw [if_pos hwt]
            obtain rfl := Option.some.inj ho
            have d5 := hdep 5 (by decide +kernel)
            simp [slotOf, dstOf] at d5
            simp [go_sem, d5]
            exact Grow.refl _
          | 7, _ =>
            obtain rfl := Option.some.inj ho
            have d4 := hdep 4 (by decide +kernel)
            simp [slotOf, dstOf] at d4
            have d6 := hdep 6 (by decide +kernel)
            simp [slotOf, dstOf] at d6
            simp [opYields, go_sem, d4, d6]
            exact Grow.refl _
          | 8, _ =>
            obtain rfl := Option.some.inj ho
            have d7 := hdep 7 (by decide +kernel)
            simp [slotOf, dstOf] at d7
            simp [opYields, go_sem, d7]
            exact Grow.refl _
          | 9, _ =>
            have hwt := gwanted ho (g := 8) (bb := false) (by rfl) (hdep 8 (by decide +kernel))
            unfold opYields
            rw [if_pos hwt]
            obtain rfl := Option.some.inj ho
            have o3 := hoff 3 (by decide +kernel)
            simp at o3
            simp [go_sem, o3]
            exact Grow.refl _
          | 10, _ =>
            have hwt := gwanted ho (g := 8) (bb := false) (by rfl) (hdep 8 (by decide +kernel))
            unfold opYields
            rw [if_pos hwt]
            obtain rfl := Option.some.inj ho
            have d9 := hdep 9 (by decide +kernel)
            simp [slotOf, dstOf] at d9
            simp [go_sem, d9]
            exact ⟨Grow.refl _, by omega⟩
          | 11, _ =>
            obtain rfl := Option.some.inj ho
            have d8 := hdep 8 (by decide +kernel)
            simp [slotOf, dstOf] at d8
            have d10 := hdep 10 (by decide +kernel)
            simp [slotOf, dstOf] at d10
            simp [opYields, go_sem, d8, d10]
            exact Grow.refl _
          | 12, _ =>
            obtain rfl := Option.some.inj ho
            have d11 := hdep 11 (by decide +kernel)
            simp [slotOf, dstOf] at d11
            simp [opYields, go_sem, d11]
            exact Grow.refl _
          | 13, _ =>
            have hwt := gwanted ho (g := 12) (bb := false) (by rfl) (hdep 12 (by decide +kernel))
            unfold opYields
            rw [if_pos hwt]
            obtain rfl := Option.some.inj ho
            have o3 := hoff 3 (by decide +kernel)
            simp at o3
            simp [go_sem, o3]
            exact Grow.refl _
          | 14, _ =>
            have hwt := gwanted ho (g := 12) (bb := false) (by rfl) (hdep 12 (by decide +kernel))
            unfold opYields
            rw [if_pos hwt]
            obtain rfl := Option.some.inj ho
            have d13 := hdep 13 (by decide +kernel)
            simp [slotOf, dstOf] at d13
            simp [go_sem, d13]
            refine (HNO.out w2).mono ?_
            rintro e w3 ⟨rfl, hb⟩
            exact ⟨hb, rfl⟩
          | 15, _ =>
            have hwt := gwanted ho (g := 12) (bb := false) (by rfl) (hdep 12 (by decide +kernel))
            unfold opYields
            rw [if_pos hwt]
            obtain rfl := Option.some.inj ho
            have o0 := hoff 0 (by decide +kernel)
            simp at o0
            simp [go_sem, o0]
            exact Grow.refl _
          | 16, _ =>
            have hwt := gwanted ho (g := 12) (bb := false) (by rfl) (hdep 12 (by decide +kernel))
            unfold opYields
            rw [if_pos hwt]
            obtain rfl := Option.some.inj ho
            have d15 := hdep 15 (by decide +kernel)
            simp [slotOf, dstOf] at d15
            simp [go_sem, d15]
            exact Grow.refl _
          | 17, _ =>
            have hwt := gwanted ho (g := 12) (bb := false) (by rfl) (hdep 12 (by decide +kernel))
            unfold opYields
            rw [if_pos hwt]
            obtain rfl := Option.some.inj ho
            have d16 := hdep 16 (by decide +kernel)
            simp [slotOf, dstOf] at d16
            simp [go_sem, d16]
            exact Grow.refl _
          | 18, _ =>
            have hwt := gwanted ho (g := 12) (bb := false) (by rfl) (hdep 12 (by decide +kernel))
            unfold opYields
            rw [if_pos hwt]
            obtain rfl := Option.some.inj ho
            have d17 := hdep 17 (by decide +kernel)
            simp [slotOf, dstOf] at d17
            simp [go_sem, d17, x0]
            exact Grow.refl _
          | 19, _ =>
            have hwt := gwanted ho (g := 12) (bb := false) (by rfl) (hdep 12 (by decide +kernel))
            unfold opYields
            rw [if_pos hwt]
            obtain rfl := Option.some.inj ho
            have o4 := hoff 4 (by decide +kernel)
            simp at o4
            simp [go_sem, o4]
            exact Grow.refl _
          | 20, _ =>
            have hwt := gwanted ho (g := 12) (bb := false) (by rfl) (hdep 12 (by decide +kernel))
            unfold opYields
            rw [if_pos hwt]
            obtain rfl := Option.some.inj ho
            have d18 := hdep 18 (by decide +kernel)
            simp [slotOf, dstOf] at d18
            have d19 := hdep 19 (by decide +kernel)
            simp [slotOf, dstOf] at d19
            simp [go_sem, d18, d19, hki]
            exact Grow.refl _
          | 21, _ =>
            have hwt := gwanted ho (g := 12) (bb := false) (by rfl) (hdep 12 (by decide +kernel))
            unfold opYields
            rw [if_pos hwt]
            obtain rfl := Option.some.inj ho
            have d14 := hdep 14 (by decide +kernel)
            simp [slotOf, dstOf] at d14
            have d20 := hdep 20 (by decide +kernel)
            simp [slotOf, dstOf] at d20
            simp [go_sem, d14, d20]
            exact ⟨Grow.refl _, by rw [← hqb]; simp [bne]⟩
          | 22, _ =>
            obtain rfl := Option.some.inj ho
            have d12 := hdep 12 (by decide +kernel)
            simp [slotOf, dstOf] at d12
            have d21 := hdep 21 (by decide +kernel)
            simp [slotOf, dstOf] at d21
            simp [opYields, go_sem, d12, d21]
            exact Grow.refl _
          | k + 23, h => exact absurd h (by omega)
        · have v22 := hvals 22 (by omega)
          simp only at v22
          have hblk := below_block hG.undrew H.out (lt_of_block H.out)
          have HG := hide hG.undrew
          have HB := hide hblk
          obtain ⟨x0, x1⟩ := two_of hblk
          obtain ⟨z0, z1⟩ := HZ.out w2 hblk
          clear hvals hG hblk c0 c1
          simp [over, dstOf, Act.put, v22]
          cases qb with
          | true =>
            have hb : Hid (numT (s, false) = (0, (s, true))) := hide (by
              unfold numT
              rw [if_neg (by simp), HCUT.out, if_neg (fun h => by have := h.2; rw [this] at hqb; simp at hqb)])
            clear hqb
            go_wp2
            go_ret
            rw [hb.out]
            exact ⟨rfl, (KI.grow HG.out).trans (KI.set b _ 1 _), HF1.out _ HB.out _⟩
          | false =>
            have hb : Hid (numT (s, false) = (n, (s.drop k, false))) := hide (by
              unfold numT
              have he : numB n = s.take k := by simpa using hqb
              rw [if_neg (by simp), HCUT.out, if_pos ⟨trivial, he⟩]
              simp only
              rw [if_pos hn])
            clear hqb
            go_wp2
            go_ret
            rw [hb.out]
            exact ⟨rfl, (KI.grow HG.out).trans (KI.set b _ 0 _), HF0.out _ HB.out _⟩
      · have hni : decide (4611686018427387904 < n) = true := decide_eq_true (by omega)
        have hni2 : (4611686018427387904 : Int) < (n : Int) := by omega
        have hb : Hid (numT (s, false) = (0, (s, true))) := hide (by
          unfold numT
          rw [if_neg (by simp), HCUT.out]
          by_cases hc : (0 = 0 ∧ numB n = s.take k)
          · rw [if_pos hc]; simp only; rw [if_neg hn]
          · rw [if_neg hc])
        obtain ⟨z0, z1⟩ := HZ.out w H.out
        go_enter Tryz.func75, Tryz.ntmps75
        go_wp2_with fail
        refine HN.out.mono ?_
        rintro e w1 ⟨rfl, hw1⟩
        subst hw1
        go_wp2
        go_quiet (fail)
        go_wp2
        go_ret
        rw [hb.out]
        exact ⟨rfl, (KI.drewN' b _ _).trans (KI.set b _ 1 _), HF1.out _ H.out _⟩
    · have hne : ((er : Int) != 0) = true := by simp; exact he
      have hb : Hid (numT (s, false) = (0, (s, true))) := hide (by
        unfold numT
        rw [if_neg (by simp), HCUT.out, if_neg (fun h => he h.1)])
      obtain ⟨z0, z1⟩ := HZ.out w H.out
      clear he
      go_enter Tryz.func75, Tryz.ntmps75
      go_wp2_with fail
      refine HN.out.mono ?_
      rintro e w1 ⟨rfl, hw1⟩
      subst hw1
      go_wp2
      go_quiet (fail)
      go_wp2
      go_ret
      rw [hb.out]
      exact ⟨rfl, (KI.drewN' b _ _).trans (KI.set b _ 1 _), HF1.out _ H.out _⟩
end Go.Proofs.YtkaeogldielkfaaGreat.Rc
namespace Go.Proofs.YtkaeogldielkfaaGreat.Rc
open Go.RowKit Lb
def textT (c : Cur) : List UInt8 × Cur := bytT (numT c).1 (numT c).2
def labT (c : Cur) : Lab × Cur := (((textT c).1, (textT (textT c).2).1), (textT (textT c).2).2)
/-- Many, as long as nothing was bad. -/
def loopT {α : Type} (one : Cur → α × Cur) : Nat → List α × Cur → List α × Cur
  | 0, x => x
  | n + 1, x => if x.2.2 = true then x else loopT one n (x.1 ++ [(one x.2).1], (one x.2).2)
theorem loopT_bad {α : Type} {one : Cur → α × Cur} : ∀ (n : Nat) (x : List α × Cur), x.2.2 = true → loopT one n x = x
  | 0, x, h => rfl
  | n + 1, x, h => by simp only [loopT, h, if_true]
theorem loopT_step {α : Type} {one : Cur → α × Cur} {n : Nat} {x : List α × Cur} (h : x.2.2 = false) : loopT one (n + 1) x = loopT one n (x.1 ++ [(one x.2).1], (one x.2).2) := by
  simp only [loopT, h, Bool.false_eq_true, if_false]
def labsT (c : Cur) : List Lab × Cur := loopT labT (numT c).1 ([], (numT c).2)
def refT (c : Cur) : RefL × Cur := ((((numT c).1 : Nat), (labsT (numT c).2).1), (labsT (numT c).2).2)
def pntT (c : Cur) : Pnt × Cur := ((((numT c).1 : Nat), timeI (numT (numT c).2).1, wordI (bytT 8 (numT (numT c).2).2).1), (bytT 8 (numT (numT c).2).2).2)
def bodyT (k : UInt8) (c : Cur) : Rcd × Cur :=
  if k.toNat = 1 then (⟨1, (loopT refT (numT c).1 ([], (numT c).2)).1, []⟩, (loopT refT (numT c).1 ([], (numT c).2)).2)
  else if k.toNat = 2 then (⟨2, [], (loopT pntT (numT c).1 ([], (numT c).2)).1⟩, (loopT pntT (numT c).1 ([], (numT c).2)).2)
  else (⟨(k.toNat : Int), [], []⟩, (numT c).2)
def unpT : List UInt8 → Option Rcd
  | [] => none
  | k :: s => if (bodyT k (s, false)).2 = ([], false) ∧ recErr (bodyT k (s, false)).1 = 0 then some (bodyT k (s, false)).1 else none
/-! ### what was not bad -/
theorem numT_good {c : Cur} {n : Nat} {r : List UInt8} (h : numT c = (n, (r, false))) : c = (numB n ++ r, false) ∧ n ≤ 4611686018427387904 := by
  obtain ⟨s, bad⟩ := c
  unfold numT at h
  cases bad with
  | true => simp at h
  | false =>
    simp only [Bool.false_eq_true, if_false] at h
    cases hc : cutN s with
    | none => rw [hc] at h; simp at h
    | some x =>
      rw [hc] at h
      simp only at h
      by_cases hl : x.1 ≤ 4611686018427387904
      · rw [if_pos hl] at h
        simp only [Prod.mk.injEq, and_true] at h
        obtain ⟨h1, h2⟩ := h
        subst h1 h2
        exact ⟨by rw [cutN_dec (s := s) (n := x.1) (r := x.2) hc], hl⟩
      · rw [if_neg hl] at h; simp at h
theorem bytT_good {n : Nat} {c : Cur} {t r : List UInt8} (h : bytT n c = (t, (r, false))) : c = (t ++ r, false) ∧ t.length = n := by
  obtain ⟨s, bad⟩ := c
  unfold bytT at h
  by_cases hc : bad = true ∨ s.length < n
  · rw [if_pos hc] at h; simp at h
  · rw [if_neg hc] at h
    simp only [Prod.mk.injEq, and_true] at h
    obtain ⟨h1, h2⟩ := h
    have hb : bad = false := by cases bad with | true => exact absurd (.inl rfl) hc | false => rfl
    subst h1 h2 hb
    exact ⟨by rw [List.take_append_drop], by rw [List.length_take]; omega⟩
theorem numT_enc {n : Nat} (h : n ≤ 4611686018427387904) (r : List UInt8) : numT (numB n ++ r, false) = (n, (r, false)) := by
  unfold numT
  simp only [Bool.false_eq_true, if_false]
  rw [cutN_enc (by omega)]
  simp only
  rw [if_pos h]
theorem bytT_enc {t : List UInt8} (r : List UInt8) : bytT t.length (t ++ r, false) = (t, (r, false)) := by
  unfold bytT
  rw [if_neg (by simp), List.take_left, List.drop_left]
theorem pair_of {α β : Type} {p : α × β} {b : β} (h : p.2 = b) : p = (p.1, b) := by rw [← h]
theorem textT_good {c : Cur} {t r : List UInt8} (h : textT c = (t, (r, false))) : c = (textB t ++ r, false) ∧ t.length ≤ 4611686018427387904 := by
  unfold textT at h
  obtain ⟨h1, h2⟩ := bytT_good h
  obtain ⟨h3, h4⟩ := numT_good (c := c) (n := (numT c).1) (r := t ++ r) (pair_of h1)
  rw [← h2] at h3 h4
  refine ⟨?_, h4⟩
  unfold textB
  rw [List.append_assoc]
  exact h3
theorem textT_enc {t : List UInt8} (h : t.length ≤ 4611686018427387904) (r : List UInt8) : textT (textB t ++ r, false) = (t, (r, false)) := by
  unfold textT textB
  rw [List.append_assoc, numT_enc h]
  exact bytT_enc r
theorem labT_good {c : Cur} {y : Lab} {r : List UInt8} (h : labT c = (y, (r, false))) : c = (labB y ++ r, false) := by
  unfold labT at h
  simp only [Prod.mk.injEq] at h
  obtain ⟨rfl, h2⟩ := h
  obtain ⟨h3, _⟩ := textT_good (c := (textT c).2) (t := (textT (textT c).2).1) (r := r) (pair_of h2)
  obtain ⟨h4, _⟩ := textT_good (c := c) (t := (textT c).1) (pair_of h3)
  unfold labB
  rw [List.append_assoc]
  exact h4
theorem labT_enc {y : Lab} (h1 : y.1.length ≤ 4611686018427387904) (h2 : y.2.length ≤ 4611686018427387904) (r : List UInt8) : labT (labB y ++ r, false) = (y, (r, false)) := by
  unfold labT labB
  rw [List.append_assoc, textT_enc h1, textT_enc h2]
theorem loopT_good {α : Type} {one : Cur → α × Cur} {enc : α → List UInt8} {ok : α → Prop} (h : ∀ c x r, one c = (x, (r, false)) → ok x → c = (enc x ++ r, false)) (hm : ∀ c, (one c).2.2 = false → c.2 = false) : ∀ (n : Nat) (acc : List α) (c : Cur) (l' : List α) (r : List UInt8),
    loopT one n (acc, c) = (l', (r, false)) → (∀ x ∈ l', ok x) → ∃ l, l' = acc ++ l ∧ l.length = n ∧ c = ((l.map enc).flatten ++ r, false)
  | 0, acc, c, l', r, e, _ => by
    simp only [loopT, Prod.mk.injEq] at e
    obtain ⟨rfl, rfl⟩ := e
    exact ⟨[], by simp, rfl, by simp⟩
  | n + 1, acc, c, l', r, e, hok => by
    by_cases hb : c.2 = true
    · rw [loopT_bad _ _ hb] at e
      simp only [Prod.mk.injEq] at e
      rw [e.2] at hb
      cases hb
    · have hb : c.2 = false := by simpa using hb
      rw [loopT_step hb] at e
      obtain ⟨l, h1, h2, h3⟩ := loopT_good h hm n _ _ _ _ e hok
      subst h1
      refine ⟨(one c).1 :: l, by simp, by simp [h2], ?_⟩
      have h4 := h c (one c).1 _ (pair_of h3) (hok _ (by simp))
      refine h4.trans ?_
      simp
theorem loopT_enc {α : Type} {one : Cur → α × Cur} {enc : α → List UInt8} {ok : α → Prop} (h : ∀ x r, ok x → one (enc x ++ r, false) = (x, (r, false))) : ∀ (l acc : List α) (r : List UInt8), (∀ x ∈ l, ok x) → loopT one l.length (acc, ((l.map enc).flatten ++ r, false)) = (acc ++ l, (r, false))
  | [], acc, r, _ => by simp [loopT]
  | x :: l, acc, r, hok => by
    rw [List.length_cons, loopT_step rfl]
    have h1 := h x ((l.map enc).flatten ++ r) (hok x (by simp))
    simp only [List.map_cons, List.flatten_cons, List.append_assoc] at h1 ⊢
    rw [h1, loopT_enc h l _ r fun y hy => hok y (List.mem_cons_of_mem _ hy)]
    simp
theorem numT_mono {c : Cur} (h : (numT c).2.2 = false) : c.2 = false := by
  have := (numT_good (c := c) (n := (numT c).1) (r := (numT c).2.1) (by rw [← h])).1
  rw [this]
theorem bytT_mono {n : Nat} {c : Cur} (h : (bytT n c).2.2 = false) : c.2 = false := by
  have := (bytT_good (c := c) (n := n) (t := (bytT n c).1) (r := (bytT n c).2.1) (by rw [← h])).1
  rw [this]
theorem textT_mono {c : Cur} (h : (textT c).2.2 = false) : c.2 = false := numT_mono (bytT_mono h)
theorem labT_mono {c : Cur} (h : (labT c).2.2 = false) : c.2 = false := textT_mono (textT_mono h)
theorem loopT_mono {α : Type} {one : Cur → α × Cur} (hm : ∀ c, (one c).2.2 = false → c.2 = false) : ∀ (n : Nat) (x : List α × Cur), (loopT one n x).2.2 = false → x.2.2 = false
  | 0, x, h => h
  | n + 1, x, h => by
    by_cases hb : x.2.2 = true
    · rw [loopT_bad _ _ hb] at h; exact h
    · simpa using hb
theorem labsT_mono {c : Cur} (h : (labsT c).2.2 = false) : c.2 = false := numT_mono (loopT_mono (fun _ => labT_mono) _ _ h)
theorem refT_mono {c : Cur} (h : (refT c).2.2 = false) : c.2 = false := numT_mono (labsT_mono h)
theorem pntT_mono {c : Cur} (h : (pntT c).2.2 = false) : c.2 = false := numT_mono (numT_mono (bytT_mono h))
theorem many_good {α : Type} {one : Cur → α × Cur} {enc : α → List UInt8} {ok : α → Prop} (h : ∀ c x r, one c = (x, (r, false)) → ok x → c = (enc x ++ r, false)) (hm : ∀ c, (one c).2.2 = false → c.2 = false) {c : Cur} {l : List α} {r : List UInt8}
    (e : loopT one (numT c).1 ([], (numT c).2) = (l, (r, false))) (hok : ∀ x ∈ l, ok x) : c = ((numB l.length ++ (l.map enc).flatten) ++ r, false) := by
  obtain ⟨l', h1, h2, h3⟩ := loopT_good h hm _ _ _ _ _ e hok
  simp only [List.nil_append] at h1
  subst h1
  obtain ⟨h4, _⟩ := numT_good (c := c) (n := (numT c).1) (pair_of h3)
  rw [h2, List.append_assoc]
  exact h4
theorem many_enc {α : Type} {one : Cur → α × Cur} {enc : α → List UInt8} {ok : α → Prop} (h : ∀ x r, ok x → one (enc x ++ r, false) = (x, (r, false))) {l : List α} (hl : l.length ≤ 1000) (hok : ∀ x ∈ l, ok x) (r : List UInt8) :
    loopT one (numT ((numB l.length ++ (l.map enc).flatten) ++ r, false)).1 ([], (numT ((numB l.length ++ (l.map enc).flatten) ++ r, false)).2) = (l, (r, false)) := by
  rw [List.append_assoc, numT_enc (by omega)]
  have := loopT_enc h l [] r hok
  simpa using this
theorem refT_good (c : Cur) (x : RefL) (r : List UInt8) (h : refT c = (x, (r, false))) (h0 : refErr x = 0) : c = (refB x ++ r, false) := by
  unfold refT at h
  simp only [Prod.mk.injEq] at h
  obtain ⟨rfl, h2⟩ := h
  have h3 := many_good (one := labT) (enc := labB) (ok := fun _ => True) (fun c x r h _ => labT_good h) (fun _ => labT_mono) (c := (numT c).2) (l := (labsT (numT c).2).1) (r := r) (pair_of h2) (fun _ _ => trivial)
  obtain ⟨h4, _⟩ := numT_good (c := c) (n := (numT c).1) (pair_of h3)
  unfold refB
  simp only [Int.toNat_natCast]
  rw [List.append_assoc]
  exact h4
theorem refT_enc (x : RefL) (r : List UInt8) (h : refErr x = 0) : refT (refB x ++ r, false) = (x, (r, false)) := by
  obtain ⟨⟨h1, h2⟩, h3, hc⟩ := refErr_zero h
  obtain ⟨h20, hs⟩ := check_small hc
  obtain ⟨n, ls⟩ := x
  simp only at h1 h2 h3 h20 hs
  have e : labsT ((numB ls.length ++ labsB ls) ++ r, false) = (ls, (r, false)) := many_enc (one := labT) (enc := labB) (ok := fun y => y.1.length ≤ 1000 ∧ y.2.length ≤ 1000) (fun y r h => labT_enc (by omega) (by omega) r) (by omega) (fun y hy => by have := hs y hy; exact ⟨by omega, by omega⟩) r
  unfold refT refB
  simp only
  rw [List.append_assoc, numT_enc (by omega), e]
  simp only [Prod.mk.injEq, and_true]
  omega
theorem pntT_good (c : Cur) (x : Pnt) (r : List UInt8) (h : pntT c = (x, (r, false))) (h0 : pointErr x = 0) : c = (pointB x ++ r, false) := by
  unfold pntT at h
  simp only [Prod.mk.injEq] at h
  obtain ⟨rfl, h2⟩ := h
  obtain ⟨h3, h8⟩ := bytT_good (n := 8) (c := (numT (numT c).2).2) (t := (bytT 8 (numT (numT c).2).2).1) (r := r) (pair_of h2)
  obtain ⟨h4, _⟩ := numT_good (c := (numT c).2) (n := (numT (numT c).2).1) (pair_of h3)
  obtain ⟨h5, _⟩ := numT_good (c := c) (n := (numT c).1) (pair_of h4)
  unfold pointB
  simp only [Int.toNat_natCast]
  rw [timeN_timeI]
  have := wordR_wordI (bytT 8 (numT (numT c).2).2).1
  rw [h8] at this
  rw [this, List.append_assoc, List.append_assoc]
  exact h5
theorem pntT_enc (x : Pnt) (r : List UInt8) (h : pointErr x = 0) (hb : x.2.2 < 18446744073709551616) : pntT (pointB x ++ r, false) = (x, (r, false)) := by
  obtain ⟨⟨h1, h2⟩, h3, h4⟩ := pointErr_zero' h
  obtain ⟨n, t, b⟩ := x
  simp only at h1 h2 h3 h4 hb
  have ht : timeN t ≤ 4611686018427387904 := by unfold timeN; split <;> omega
  have e8 : bytT 8 (wordR b 8 ++ r, false) = (wordR b 8, (r, false)) := by
    have := bytT_enc (t := wordR b 8) r
    rwa [wordR_length] at this
  unfold pntT pointB
  simp only
  rw [List.append_assoc, List.append_assoc, numT_enc (by omega), numT_enc ht, e8]
  simp only [Prod.mk.injEq, and_true]
  exact ⟨by omega, timeI_timeN, wordI_wordR 8 b (by omega)⟩
theorem bytT_len (n : Nat) (c : Cur) : (bytT n c).1.length ≤ n := by
  unfold bytT
  split
  · simp
  · rw [List.length_take]; omega
theorem loopT_all {α : Type} {one : Cur → α × Cur} {p : α → Prop} (h : ∀ c, p (one c).1) : ∀ (n : Nat) (x : List α × Cur), (∀ y ∈ x.1, p y) → ∀ y ∈ (loopT one n x).1, p y
  | 0, x, hx => hx
  | n + 1, x, hx => by
    by_cases hb : x.2.2 = true
    · rw [loopT_bad _ _ hb]; exact hx
    · rw [loopT_step (by simpa using hb)]
      refine loopT_all h n _ fun y hy => ?_
      rcases List.mem_append.1 hy with hy | hy
      · exact hx y hy
      · rw [List.mem_singleton] at hy; subst hy; exact h _
theorem unpT_eq {s : List UInt8} (hs : s.length ≤ 140737488355328) : unpT s = unpO s := by
  have key : ∀ r, unpT s = some r → unpO s = some r := fun r h => by
    cases s with
    | nil => cases h
    | cons k s =>
      simp only [unpT] at h
      by_cases hc : (bodyT k (s, false)).2 = ([], false) ∧ recErr (bodyT k (s, false)).1 = 0
      · rw [if_pos hc] at h
        obtain ⟨h1, h2⟩ := hc
        simp only [Option.some.injEq] at h
        subst h
        have hp : k :: s = packB (bodyT k (s, false)).1 ∧ ∀ x ∈ (bodyT k (s, false)).1.points, x.2.2 < 18446744073709551616 := by
          obtain ⟨hk, hrl, hpl, hro, hpo⟩ := recErr_zero h2
          unfold bodyT at h1 hk hrl hpl hro hpo ⊢
          by_cases hk1 : k.toNat = 1
          · rw [if_pos hk1] at h1 hro ⊢
            simp only at h1 hro ⊢
            have := many_good (one := refT) (enc := refB) (ok := fun x => refErr x = 0) refT_good (fun _ => refT_mono) (c := (s, false)) (r := []) (pair_of h1) hro
            simp only [Prod.mk.injEq, and_true, List.append_nil] at this
            refine ⟨?_, fun x hx => by simp at hx⟩
            have hc1 : k = UInt8.ofNat 1 := by rw [← hk1, UInt8.ofNat_toNat]
            rw [hc1]
            unfold packB
            simp only [if_true, List.cons.injEq]
            exact ⟨rfl, this⟩
          · rw [if_neg hk1] at h1 hk hpo ⊢
            by_cases hk2 : k.toNat = 2
            · rw [if_pos hk2] at h1 hpo ⊢
              simp only at h1 hpo ⊢
              have := many_good (one := pntT) (enc := pointB) (ok := fun x => pointErr x = 0) pntT_good (fun _ => pntT_mono) (c := (s, false)) (r := []) (pair_of h1) hpo
              simp only [Prod.mk.injEq, and_true, List.append_nil] at this
              refine ⟨?_, loopT_all (one := pntT) (p := fun x => x.2.2 < 18446744073709551616) (fun c => ?_) _ _ (by simp)⟩
              · have hc1 : k = UInt8.ofNat 2 := by rw [← hk2, UInt8.ofNat_toNat]
                rw [hc1]
                unfold packB
                rw [if_neg (show ¬ (2 : Int) = 1 by decide)]
                simp only [List.cons.injEq]
                exact ⟨rfl, this⟩
              · unfold pntT
                simp only
                have h8 := wordI_lt (bytT 8 (numT (numT c).2).2).1
                have h9 := bytT_len 8 (numT (numT c).2).2
                have h10 : 256 ^ (bytT 8 (numT (numT c).2).2).1.length ≤ 256 ^ 8 := Nat.pow_le_pow_right (by omega) h9
                omega
            · rw [if_neg hk2] at hk
              simp only at hk
              omega
        rw [hp.1]
        exact unpO_pack h2 hp.2
      · rw [if_neg hc] at h; cases h
  have back : ∀ r, unpO s = some r → unpT s = some r := fun r h => by
    obtain ⟨hr, hp⟩ := unpO_some h
    have hb : ∀ x ∈ r.points, x.2.2 < 18446744073709551616 := by
      cases s with
      | nil => cases h
      | cons k s =>
        simp only [unpO] at h
        cases hbo : bodyO k s with
        | none => rw [hbo] at h; cases h
        | some x =>
          obtain ⟨r0, q⟩ := x
          rw [hbo] at h
          simp only at h
          simp only [List.length_cons] at hs
          by_cases hc : q = [] ∧ recErr r0 = 0
          · rw [if_pos hc] at h
            cases h
            exact fun x hx => ((bodyO_ok (by omega) hbo).2.2.2.2 x hx).2.2.2.2
          · rw [if_neg hc] at h; cases h
    rw [← hp]
    obtain ⟨hk, hrl, hpl, hro, hpo⟩ := recErr_zero hr
    obtain ⟨kind, rs, ps⟩ := r
    simp only at hk hrl hpl hro hpo hb
    have hr' := hr
    unfold recErr at hr'
    rcases hk with rfl | rfl
    · have hp0 : ps = [] := by
        by_cases hp : 0 < ps.length
        · simp only at hr'
          rw [if_neg (by simp), if_pos (.inl ⟨trivial, hp⟩)] at hr'; cases hr'
        · exact List.length_eq_zero_iff.1 (by omega)
      subst hp0
      have e := many_enc (one := refT) (enc := refB) (ok := fun x => refErr x = 0) refT_enc (l := rs) (by omega) hro []
      rw [List.append_nil] at e
      have e2 : loopT refT (numT (numB rs.length ++ refsB rs, false)).1 ([], (numT (numB rs.length ++ refsB rs, false)).2) = (rs, ([], false)) := e
      have hbt : bodyT (UInt8.ofNat 1) (numB rs.length ++ refsB rs, false) = (⟨1, rs, []⟩, ([], false)) := by
        unfold bodyT
        rw [if_pos (by decide), e2]
      show unpT (UInt8.ofNat 1 :: (numB rs.length ++ refsB rs)) = _
      simp only [unpT]
      rw [hbt, if_pos ⟨rfl, hr⟩]
    · have hp0 : rs = [] := by
        by_cases hp : 0 < rs.length
        · simp only at hr'
          rw [if_neg (by simp), if_pos (.inr ⟨trivial, hp⟩)] at hr'; cases hr'
        · exact List.length_eq_zero_iff.1 (by omega)
      subst hp0
      have e := many_enc (one := pntT) (enc := pointB) (ok := fun x => pointErr x = 0 ∧ x.2.2 < 18446744073709551616) (fun x r h => pntT_enc x r h.1 h.2) (l := ps) (by omega) (fun x hx => ⟨hpo x hx, hb x hx⟩) []
      rw [List.append_nil] at e
      have e2 : loopT pntT (numT (numB ps.length ++ pointsB ps, false)).1 ([], (numT (numB ps.length ++ pointsB ps, false)).2) = (ps, ([], false)) := e
      have hbt : bodyT (UInt8.ofNat 2) (numB ps.length ++ pointsB ps, false) = (⟨2, [], ps⟩, ([], false)) := by
        unfold bodyT
        rw [if_neg (by decide), if_pos (by decide), e2]
      show unpT (UInt8.ofNat 2 :: (numB ps.length ++ pointsB ps)) = _
      simp only [unpT]
      rw [hbt, if_pos ⟨rfl, hr⟩]
  cases h : unpO s with
  | some r => exact back r h
  | none =>
    cases h2 : unpT s with
    | none => rfl
    | some r => rw [key r h2] at h; cases h
theorem newC (w : World) (cs : Array Value) (t : TypeId) : ∀ j u, cs.toList[j]? = some u → (w.alloc (.cells cs t)).cell? ((⟨w.heap.size, 0, none⟩ : Addr).add j) = some u := by
  intro j u h
  rw [Addr.add_lit]
  have := heap_alloc_new w (.cells cs t)
  simp only [World.cell?, this, Nat.zero_add]
  simpa using h
theorem lab_one (a b : List UInt8) : ∀ u ∈ ([.string (bs a), .string (bs b)] : List Value), u.oneCell' = true := by
  intro u hu
  simp at hu
  rcases hu with rfl | rfl <;> rfl
theorem ref_one {w : World} {Z : Nat} {lv : Value} {ls : List Lab} (n : Int) (h : ownLabels w Z lv ls) : ∀ u ∈ ([.int .i64 n, lv] : List Value), u.oneCell' = true := by
  obtain ⟨ao, cp, rfl⟩ := own_shape h
  intro u hu
  simp at hu
  rcases hu with rfl | rfl <;> rfl
theorem pnt_one (a b c : Int) : ∀ u ∈ ([.int .i64 a, .int .i64 b, .int .u64 c] : List Value), u.oneCell' = true := by
  intro u hu
  simp at hu
  rcases hu with rfl | rfl | rfl <;> rfl
/-! ### how much is read -/
def lessT {α : Type} (one : Cur → α × Cur) : Prop := ∀ c, (one c).2.1.length ≤ c.1.length ∧ ((one c).2.2 = false → (one c).2.1.length < c.1.length)
theorem numT_less : lessT numT := fun c => by
  unfold numT
  split
  · exact ⟨Nat.le_refl _, fun h => by cases h⟩
  · cases hc : cutN c.1 with
    | none => exact ⟨Nat.le_refl _, fun h => by cases h⟩
    | some x =>
      simp only
      have := (cutN_lt (s := c.1) (n := x.1) (r := x.2) hc).2
      split
      · exact ⟨Nat.le_of_lt this, fun _ => this⟩
      · exact ⟨Nat.le_refl _, fun h => by cases h⟩
theorem bytT_less (n : Nat) (c : Cur) : (bytT n c).2.1.length ≤ c.1.length := by
  unfold bytT
  split
  · exact Nat.le_refl _
  · rw [List.length_drop]; omega
theorem textT_less : lessT textT := fun c => by
  have h1 := numT_less c
  have h2 := bytT_less (numT c).1 (numT c).2
  refine ⟨Nat.le_trans h2 h1.1, fun h => ?_⟩
  have := h1.2 (bytT_mono h)
  show (bytT _ _).2.1.length < _
  omega
theorem labT_less : lessT labT := fun c => by
  have h1 := textT_less c
  have h2 := textT_less (textT c).2
  refine ⟨Nat.le_trans h2.1 h1.1, fun h => ?_⟩
  have h3 := h2.2 h
  have h4 : (labT c).2.1.length < (textT c).2.1.length := h3
  omega
theorem loopT_less {α : Type} {one : Cur → α × Cur} (h : lessT one) : ∀ (n : Nat) (x : List α × Cur), (loopT one n x).2.1.length ≤ x.2.1.length
  | 0, x => Nat.le_refl _
  | n + 1, x => by
    by_cases hb : x.2.2 = true
    · rw [loopT_bad _ _ hb]; exact Nat.le_refl _
    · rw [loopT_step (by simpa using hb)]
      exact Nat.le_trans (loopT_less h n _) (h x.2).1
theorem labsT_less (c : Cur) : (labsT c).2.1.length ≤ (numT c).2.1.length := loopT_less labT_less _ _
theorem refT_less : lessT refT := fun c => by
  have h1 := numT_less c
  have h2 := labsT_less (numT c).2
  have h3 := (numT_less (numT c).2).1
  refine ⟨by show (labsT (numT c).2).2.1.length ≤ _; omega, fun h => ?_⟩
  have := h1.2 (labsT_mono h)
  show (labsT (numT c).2).2.1.length < _
  omega
theorem pntT_less : lessT pntT := fun c => by
  have h1 := numT_less c
  have h2 := (numT_less (numT c).2).1
  have h3 := bytT_less 8 (numT (numT c).2).2
  refine ⟨by show (bytT 8 (numT (numT c).2).2).2.1.length ≤ _; omega, fun h => ?_⟩
  have := h1.2 (numT_mono (bytT_mono h))
  show (bytT 8 (numT (numT c).2).2).2.1.length < _
  omega
/-- No more elements than bytes, but for one that was bad. -/
def fits {α : Type} (L : Nat) (x : List α × Cur) : Prop := x.1.length + x.2.1.length ≤ L + (if x.2.2 = true then 1 else 0)
theorem fits_step {α : Type} {one : Cur → α × Cur} (h : lessT one) {L : Nat} {x : List α × Cur} (hx : fits L x) (hb : x.2.2 = false) : fits L (x.1 ++ [(one x.2).1], (one x.2).2) := by
  unfold fits at hx ⊢
  rw [if_neg (by rw [hb]; simp)] at hx
  have h1 := h x.2
  simp only [List.length_append, List.length_cons, List.length_nil]
  by_cases hg : (one x.2).2.2 = true
  · rw [if_pos hg]; omega
  · rw [if_neg hg]
    have := h1.2 (by simpa using hg)
    omega
theorem fits_nil {α : Type} {L : Nat} {c : Cur} (h : c.1.length ≤ L) : fits L (([] : List α), c) := by
  unfold fits
  simp only [List.length_nil]
  split <;> omega
/-! ### sizes of numbers -/
theorem timeI_nat (n : Nat) (h : n ≤ 4611686018427387904) : -9223372036854775808 ≤ timeI n ∧ timeI n ≤ 9223372036854775807 := by unfold timeI; split <;> omega
theorem loopT_count {α : Type} {one : Cur → α × Cur} : ∀ (n : Nat) (x : List α × Cur), (loopT one n x).1.length ≤ x.1.length + n
  | 0, x => Nat.le_refl _
  | n + 1, x => by
    by_cases hb : x.2.2 = true
    · rw [loopT_bad _ _ hb]; omega
    · rw [loopT_step (by simpa using hb)]
      have := loopT_count (one := one) n (x.1 ++ [(one x.2).1], (one x.2).2)
      simp only [List.length_append, List.length_cons, List.length_nil] at this
      omega
theorem textT_len (c : Cur) : (textT c).1.length ≤ 4611686018427387904 := Nat.le_trans (bytT_len _ _) (numT_le c)
theorem refT_ok (c : Cur) : okRef (refT c).1 := by
  have h1 := numT_le c
  have h2 := loopT_count (one := labT) (numT (numT c).2).1 ([], (numT (numT c).2).2)
  have h3 := numT_le (numT c).2
  refine ⟨by show (-9223372036854775808 : Int) ≤ ((numT c).1 : Nat); omega, by show (((numT c).1 : Nat) : Int) ≤ _; omega, ?_, ?_⟩
  · show (labsT (numT c).2).1.length ≤ _
    unfold labsT
    simp only [List.length_nil] at h2
    omega
  · have := loopT_all (one := labT) (p := fun y : Lab => y.1.length ≤ 9223372036854775807 ∧ y.2.length ≤ 9223372036854775807) (fun c => ⟨by have := textT_len c; show (textT c).1.length ≤ _; omega, by have := textT_len (textT c).2; show (textT (textT c).2).1.length ≤ _; omega⟩) (numT (numT c).2).1 ([], (numT (numT c).2).2) (by simp)
    exact this
theorem pntT_ok (c : Cur) : okPnt (pntT c).1 := by
  have h1 := numT_le c
  have h2 := timeI_nat _ (numT_le (numT c).2)
  have h8 := wordI_lt (bytT 8 (numT (numT c).2).2).1
  have h9 := bytT_len 8 (numT (numT c).2).2
  have h10 : 256 ^ (bytT 8 (numT (numT c).2).2).1.length ≤ 256 ^ 8 := Nat.pow_le_pow_right (by omega) h9
  exact ⟨by show (-9223372036854775808 : Int) ≤ ((numT c).1 : Nat); omega, by show (((numT c).1 : Nat) : Int) ≤ _; omega, h2.1, h2.2, by show wordI _ < _; omega⟩
theorem bodyT_ok (k : UInt8) (c : Cur) : okRec (bodyT k c).1 := by
  have hk := k.toNat_lt
  have hn := numT_le c
  unfold bodyT
  by_cases h1 : k.toNat = 1
  · rw [if_pos h1]
    have h2 := loopT_count (one := refT) (numT c).1 ([], (numT c).2)
    simp only [List.length_nil] at h2
    exact ⟨⟨by show (-9223372036854775808 : Int) ≤ 1; omega, by show (1 : Int) ≤ _; omega⟩, by simp only; omega, by simp, loopT_all (one := refT) (p := okRef) refT_ok _ _ (by simp), by simp⟩
  · rw [if_neg h1]
    by_cases h2 : k.toNat = 2
    · rw [if_pos h2]
      have h2 := loopT_count (one := pntT) (numT c).1 ([], (numT c).2)
      simp only [List.length_nil] at h2
      exact ⟨⟨by show (-9223372036854775808 : Int) ≤ 2; omega, by show (2 : Int) ≤ _; omega⟩, by simp, by simp only; omega, by simp, loopT_all (one := pntT) (p := okPnt) pntT_ok _ _ (by simp)⟩
    · rw [if_neg h2]
      exact ⟨⟨by show (-9223372036854775808 : Int) ≤ (k.toNat : Int); omega, by show (k.toNat : Int) ≤ _; omega⟩, by simp, by simp, by simp, by simp⟩
/-! ### rows that grow -/
/-- A record with refs that is being read. -/
def RecI (Z cb rb : Nat) (rs : List RefL) (w0 w : World) : Prop :=
  KZ Z cb w0 w ∧ Z ≤ w.heap.size ∧ ∃ v, w.heap[rb]? = some (.cells #[.int .i64 1, v, .slice none 0 0] 29 (0, 0)) ∧ ownRefs w Z v rs
/-- A ref whose labels are being read. -/
def RefI (Z xb : Nat) (n : Int) (ls : List Lab) (w : World) : Prop :=
  ∃ lv, w.heap[xb]? = some (.cells #[.int .i64 n, lv] 59 (0, 0)) ∧ ownLabels w Z lv ls
theorem RecI.ki {Z cb rb : Nat} {rs : List RefL} {w0 w w' : World} (h : RecI Z cb rb rs w0 w) (k : KI cb w w') (hc : cb < Z) (hr : cb ≠ rb) : RecI Z cb rb rs w0 w' := by
  obtain ⟨h1, h2, v, h3, h4⟩ := h
  exact ⟨h1.trans (k.kz h2), Nat.le_trans h2 k.size, v, k.get h3 (Ne.symm hr), ownRefs_stay h4 (k.stay hc)⟩
theorem RefI.ki {Z cb xb : Nat} {n : Int} {ls : List Lab} {w w' : World} (h : RefI Z xb n ls w) (k : KI cb w w') (hc : cb < Z) (hx : cb ≠ xb) : RefI Z xb n ls w' := by
  obtain ⟨lv, h3, h4⟩ := h
  exact ⟨lv, k.get h3 (Ne.symm hx), own_stay h4 (k.stay hc)⟩
theorem grown_typed {w w' : World} {B e s n : Nat} {v : Value} {xs : List Value} (ho : w.ownsRow B e s v n xs) (hg : w.grownBy w' v.ownBlock) : typedKept e w w' := fun k c t fr h ht => grown_block hg h (own_apart ho h ht)
theorem grow_kzZ {Z cb : Nat} {w w' : World} (h : Grow w w') (hZ : Z ≤ w.heap.size) : KZ Z cb w w' := belowKZ (Below.mono h hZ) cb
theorem RecI.grow {Z cb rb : Nat} {rs : List RefL} {w0 w w' : World} (h : RecI Z cb rb rs w0 w) (g : Grow w w') : RecI Z cb rb rs w0 w' := by
  obtain ⟨h1, h2, v, h3, h4⟩ := h
  exact ⟨h1.trans (grow_kzZ g h2), Nat.le_trans h2 g.size, v, g.get h3, ownRefs_stay h4 (fun k _ hk => g.block k hk)⟩
theorem RefI.grow {Z xb : Nat} {n : Int} {ls : List Lab} {w w' : World} (h : RefI Z xb n ls w) (g : Grow w w') : RefI Z xb n ls w' := by
  obtain ⟨lv, h3, h4⟩ := h
  exact ⟨lv, g.get h3, Lb.own_grow h4 g⟩
theorem RefI.put {Z xb : Nat} {n : Int} {ls : List Lab} {x : Lab} {w W1 W2 : World} {lv v' : Value} (h : w.heap[xb]? = some (.cells #[.int .i64 n, lv] 59 (0, 0))) (ho : ownLabels w Z lv ls) (g : Grow w W1) (hZ : Z ≤ w.heap.size)
    (hown : W2.ownsRow Z 107 2 v' (ls.length + 1) (labCells ls ++ [.string (bs x.1), .string (bs x.2)])) (hgrow : W1.grownBy W2 lv.ownBlock) :
    RefI Z xb n (ls ++ [x]) (W2.setCell ⟨xb, 1, none⟩ v') ∧ Below Z w W2 ∧ typedKept 107 w W2 := by
  have ho1 : W1.ownsRow Z 107 2 lv ls.length (labCells ls) := Lb.own_grow ho g
  have ht := grown_typed ho1 hgrow
  have hb : Below Z W1 W2 := (Below.refl Z W1).grown hgrow (by have := g.size; omega) (fun k hk => (ho1.lt k hk).1)
  have hx := ht _ _ _ _ (g.get h) (by decide)
  refine ⟨⟨v', by have := set3 hx 1 v'; simpa using this, ?_⟩, (Below.mono g hZ).trans hb, fun k c t fr hk hne => ht k c t fr (g.get hk) hne⟩
  unfold ownLabels
  rw [List.length_append, labCells_snoc]
  exact ownsRow_setCell_other (a := ⟨xb, 1, none⟩) hown (own_apart hown hx (by decide)) _
theorem RecI.put {Z cb rb : Nat} {rs : List RefL} {n : Int} {ls : List Lab} {w0 w W1 W2 : World} {v lv v' : Value} {ps : List (Int × Value)} (h1 : KZ Z cb w0 w) (hZ : Z ≤ w.heap.size) (h : w.heap[rb]? = some (.cells #[.int .i64 1, v, .slice none 0 0] 29 (0, 0)))
    (hpl : ps.length = rs.length) (hrow : w.ownsRow Z 59 2 v rs.length (refCells ps)) (hall : ∀ (i : Nat) (p : Int × Value) (x : RefL), ps[i]? = some p → rs[i]? = some x → p.1 = x.1 ∧ ownLabels w Z p.2 x.2) (hlv : ownLabels w Z lv ls) (g : Grow w W1)
    (hown : W2.ownsRow Z 59 2 v' (rs.length + 1) (refCells ps ++ [.int .i64 n, lv])) (hgrow : W1.grownBy W2 v.ownBlock) (hr : Z ≤ rb) :
    RecI Z cb rb (rs ++ [(n, ls)]) w0 (W2.setCell ⟨rb, 1, none⟩ v') ∧ typedKept 59 w W2 := by
  have ho1 := Lb.own_grow hrow g
  have ht1 := grown_typed ho1 hgrow
  have ht : typedKept 59 w W2 := fun k c t fr hk hne => ht1 k c t fr (g.get hk) hne
  have hb : Below Z W1 W2 := (Below.refl Z W1).grown hgrow (by have := g.size; omega) (fun k hk => (ho1.lt k hk).1)
  have hx := ht _ _ _ _ h (by decide)
  refine ⟨⟨(h1.trans ((grow_kzZ g hZ).trans (belowKZ hb cb))).setNew hr _ _, ?_, v', by have := set3 hx 1 v'; simpa using this, ?_⟩, ht⟩
  · have := hb.size
    have := g.size
    simp [World.setCell]
    omega
  · refine ownRefs_set (c := #[.int .i64 1, v, .slice none 0 0]) (t := 29) (fr := (0, 0)) ?_ hx (by decide) (by decide) _
    refine ⟨ps ++ [(n, lv)], by simp [hpl], ?_, fun i p y hp hy => ?_⟩
    · rw [refCells_snoc, List.length_append]
      exact hown
    · rcases Nat.lt_or_ge i ps.length with hlt | hge
      · rw [List.getElem?_append_left hlt] at hp
        rw [List.getElem?_append_left (by omega)] at hy
        exact ⟨(hall i p y hp hy).1, ht.own (hall i p y hp hy).2 (by decide)⟩
      · rw [List.getElem?_append_right hge] at hp
        rw [List.getElem?_append_right (by omega)] at hy
        have hi0 : i - ps.length = 0 := by
          rcases Nat.eq_zero_or_pos (i - ps.length) with h | h
          · exact h
          · rw [List.getElem?_eq_none (by simp; omega)] at hp; cases hp
        rw [hi0] at hp
        rw [show i - rs.length = 0 by omega] at hy
        simp at hp hy
        subst hp hy
        exact ⟨rfl, ht.own hlv (by decide)⟩
/-- A record with points that is being read. -/
def RecP (Z cb rb : Nat) (ps : List Pnt) (w0 w : World) : Prop :=
  KZ Z cb w0 w ∧ Z ≤ w.heap.size ∧ ∃ v, w.heap[rb]? = some (.cells #[.int .i64 2, .slice none 0 0, v] 29 (0, 0)) ∧ ownPoints w Z v ps
theorem RecP.ki {Z cb rb : Nat} {rs : List Pnt} {w0 w w' : World} (h : RecP Z cb rb rs w0 w) (k : KI cb w w') (hc : cb < Z) (hr : cb ≠ rb) : RecP Z cb rb rs w0 w' := by
  obtain ⟨h1, h2, v, h3, h4⟩ := h
  exact ⟨h1.trans (k.kz h2), Nat.le_trans h2 k.size, v, k.get h3 (Ne.symm hr), own_stay h4 (k.stay hc)⟩
theorem RecP.put {Z cb rb : Nat} {rs : List Pnt} {x : Pnt} {w0 w W1 W2 : World} {v v' : Value} (h1 : KZ Z cb w0 w) (hZ : Z ≤ w.heap.size) (h : w.heap[rb]? = some (.cells #[.int .i64 2, .slice none 0 0, v] 29 (0, 0)))
    (hrow : ownPoints w Z v rs) (g : Grow w W1)
    (hown : W2.ownsRow Z 64 3 v' (rs.length + 1) (pntCells rs ++ [.int .i64 x.1, .int .i64 x.2.1, .int .u64 (x.2.2 : Nat)])) (hgrow : W1.grownBy W2 v.ownBlock) (hr : Z ≤ rb) :
    RecP Z cb rb (rs ++ [x]) w0 (W2.setCell ⟨rb, 2, none⟩ v') ∧ typedKept 64 w W2 := by
  have ho1 : W1.ownsRow Z 64 3 v rs.length (pntCells rs) := Lb.own_grow hrow g
  have ht1 := grown_typed ho1 hgrow
  have ht : typedKept 64 w W2 := fun k c t fr hk hne => ht1 k c t fr (g.get hk) hne
  have hb : Below Z W1 W2 := (Below.refl Z W1).grown hgrow (by have := g.size; omega) (fun k hk => (ho1.lt k hk).1)
  have hx := ht _ _ _ _ h (by decide)
  refine ⟨⟨(h1.trans ((grow_kzZ g hZ).trans (belowKZ hb cb))).setNew hr _ _, ?_, v', by have := set3 hx 2 v'; simpa using this, ?_⟩, ht⟩
  · have := hb.size
    have := g.size
    simp [World.setCell]
    omega
  · unfold ownPoints
    rw [pntCells_snoc, List.length_append]
    exact ownsRow_setCell_other (a := ⟨rb, 2, none⟩) hown (own_apart hown hx (by decide)) _
end Go.Proofs.YtkaeogldielkfaaGreat.Rc
