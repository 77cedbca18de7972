/- line: what a line is; the small methods. -/
import Derived.Laws.OwnMore
import Derived.Test.YtdlmgkncneifaaaGreatProg
import Derived.Test.YtdlmgkncneifaaaGreatKit
import Derived.Test.YtdlmgkncneifaaaGreatReg
import Derived.Test.YtdlmgkncneifaaaGreatLSpec
import Derived.Test.YtdlmgkncneifaaaGreatLRow
import Derived.Test.YtdlmgkncneifaaaGreatLChk
import Derived.BigQuiet
set_option linter.unusedVariables false
set_option linter.unusedSimpArgs false
namespace Go.Proofs.YtdlmgkncneifaaaGreat.Ln
open Go.RowKit Lb
attribute [local go_sem] bs_size bs_toList bs_append bs_get bs_extract

/-- Nothing has turned but block b. -/
structure KI (b : Nat) (w w' : World) : Prop where
  os : w'.os = w.os
  tape : w'.tape = w.tape
  output : w'.output = w.output
  size : w.heap.size ≤ w'.heap.size
  block : ∀ k, k < w.heap.size → k ≠ b → w'.heap[k]? = w.heap[k]?
theorem KI.refl (b : Nat) (w : World) : KI b w w := ⟨rfl, rfl, rfl, Nat.le_refl _, fun _ _ _ => rfl⟩
theorem KI.trans {b : Nat} {a c d : World} (h : KI b a c) (k : KI b c d) : KI b a d :=
  ⟨k.os.trans h.os, k.tape.trans h.tape, k.output.trans h.output, Nat.le_trans h.size k.size, fun i hi hn => (k.block i (Nat.lt_of_lt_of_le hi h.size) hn).trans (h.block i hi hn)⟩
theorem KI.grow {b : Nat} {w w' : World} (h : Grow w w') : KI b w w' := ⟨h.os, h.tape, h.output, h.size, fun k hk _ => h.block k hk⟩
theorem KI.drewN {b : Nat} {a w : World} (h : KI b a w) (n : Nat) : KI b a (w.drewN n) := ⟨h.os, h.tape, h.output, h.size, h.block⟩
theorem KI.set {b : Nat} {a w : World} (h : KI b a w) (i : Nat) (u : Value) : KI b a (w.setCell ⟨b, i, none⟩ u) := h.trans ⟨rfl, rfl, rfl, by simp [World.setCell], fun k _ hn => Below.heap_setCell _ _ _ _ hn⟩
theorem KI.get {b : Nat} {w w' : World} (h : KI b w w') {k : Nat} {o : Obj} (hk : w.heap[k]? = some o) (hn : k ≠ b) : w'.heap[k]? = some o := (h.block k (lt_of_block hk) hn).trans hk
theorem KI.below {b B : Nat} {w w' : World} (h : KI b w w') (hB : B ≤ b) (hs : B ≤ w.heap.size) : Below B w w' := ⟨h.os, h.tape, h.output, h.size, fun k hk => h.block k (by omega) (by omega)⟩

/-- Where a rest begins. -/
def pos (t r : List UInt8) : Nat := t.length - r.length
/-- Block b is a line of a text t that begins at f; r is what is not read of it. -/
structure InL (w : World) (b : Nat) (t : List UInt8) (f : Nat) (r : List UInt8) : Prop where
  suf : r <:+ t
  len : t.length ≤ 1000000
  fir : f ≤ 1000000
  cell : w.heap[b]? = some (.cells #[.string (bs t), .int .i64 (f : Int), .int .i64 (pos t r : Int)] 74 (0, 0))
theorem InL.grow {w w' : World} {b f : Nat} {t r : List UInt8} (h : InL w b t f r) (g : Grow w w') : InL w' b t f r := ⟨h.suf, h.len, h.fir, g.get h.cell⟩
theorem InL.drewN {w : World} {b f : Nat} {t r : List UInt8} (h : InL w b t f r) (n : Nat) : InL (w.drewN n) b t f r := ⟨h.suf, h.len, h.fir, h.cell⟩
theorem pos_le (t r : List UInt8) : pos t r ≤ t.length := Nat.sub_le _ _
theorem suf_len {t r : List UInt8} (h : r <:+ t) : pos t r + r.length = t.length := by have := h.length_le; unfold pos; omega
theorem suf_tail {t r : List UInt8} {c : UInt8} (h : (c :: r) <:+ t) : r <:+ t := (List.suffix_cons c r).trans h
theorem pos_tail {t r : List UInt8} {c : UInt8} (h : (c :: r) <:+ t) : pos t r = pos t (c :: r) + 1 := by
  have h1 := suf_len h
  have h2 := suf_len (suf_tail h)
  rw [List.length_cons] at h1
  omega
theorem drop_pos {t r : List UInt8} (h : r <:+ t) : t.drop (pos t r) = r := by
  obtain ⟨p, rfl⟩ := h
  unfold pos
  rw [List.length_append, Nat.add_sub_cancel]
  exact List.drop_left
theorem get_pos {t r : List UInt8} {c : UInt8} (h : (c :: r) <:+ t) : ∃ hl : pos t (c :: r) < t.length, t[pos t (c :: r)] = c := by
  have h1 := suf_len h
  rw [List.length_cons] at h1
  refine ⟨by omega, ?_⟩
  have h2 := drop_pos h
  have h3 := congrArg (fun l => l[0]?) h2
  simp only [List.getElem?_drop, Nat.add_zero, List.getElem?_cons_zero] at h3
  rw [List.getElem?_eq_getElem (by omega)] at h3
  exact Option.some.inj h3
/-- Three cells. -/
theorem three_cells {w : World} {b : Nat} {x y z : Value} {t : TypeId} (h : w.heap[b]? = some (.cells #[x, y, z] t (0, 0))) : w.cell? ⟨b, 0, none⟩ = some x ∧ w.cell? ⟨b, 1, none⟩ = some y ∧ w.cell? ⟨b, 2, none⟩ = some z ∧ w.frozen? ⟨b, 2, none⟩ = false := by simp [World.cell?, World.frozen?, h]
theorem InL.moved {w : World} {b f : Nat} {t r : List UInt8} (h : InL w b t f r) {r' : List UInt8} (hs : r' <:+ t) {p : Int} (hp : p = (pos t r' : Int)) : InL (w.setCell ⟨b, 2, none⟩ (.int .i64 p)) b t f r' := by
  subst hp
  refine ⟨hs, h.len, h.fir, ?_⟩
  simp [World.setCell, Array.getElem?_modify, h.cell]
/-- What gives a text up. -/
abbrev gaveF (e : Int) (p : Int) : Ending := .panicked [{ v := .iface 25 (.agg #[.int .i64 e, .int .i64 p]), recovered := false }]

set_option maxRecDepth 20000 in
set_option maxHeartbeats 1000000 in
theorem ended_any (w : World) (b f : Nat) (t r : List UInt8) (h : InL w b t f r) :
    Calls Tryz.prog 17 #[.pointer (some ⟨b, 0, none⟩)] w fun e w' => e = .returned (.bool (decide (r = []))) ∧ ∃ n, w' = w.drewN n := by
  obtain ⟨c0, c1, c2, z2⟩ := three_cells h.cell
  have hl := h.len
  have hb : decide (r = []) = decide (((pos t r : Nat) : Int) = (t.length : Int)) := by
    have := suf_len h.suf
    rw [Bool.eq_iff_iff, decide_eq_true_eq, decide_eq_true_eq]
    constructor
    · intro e; subst e; simp at this; omega
    · intro e; exact List.eq_nil_of_length_eq_zero (by omega)
  rw [hb]
  generalize pos t r = p at *
  clear h hb
  go_enter Tryz.func17, Tryz.ntmps17
  go_wp2
  go_quiet (fail)
  go_wp2
  go_ret
  refine ⟨ret_bool ?_, _, rfl⟩
  rw [Bool.eq_iff_iff]
  simp
/-- Does this byte come? -/
def skipB (c : UInt8) : List UInt8 → Bool
  | [] => false
  | x :: _ => x == c
def skipR (c : UInt8) (r : List UInt8) : List UInt8 := if skipB c r = true then r.tail else r
theorem skipB_no {c : UInt8} {r : List UInt8} (h : skipB c r = false) : skipR c r = r := by unfold skipR; rw [h]; rfl
theorem skipB_yes {c : UInt8} {r : List UInt8} (h : skipB c r = true) : r = c :: skipR c r := by
  cases r with
  | nil => cases h
  | cons x r =>
    have : x = c := by simpa [skipB] using h
    subst this
    unfold skipR
    rw [h]
    rfl
set_option maxRecDepth 20000 in
set_option maxHeartbeats 1000000 in
theorem skip_any (w : World) (b f : Nat) (t r : List UInt8) (c : UInt8) (h : InL w b t f r) :
    Calls Tryz.prog 18 #[.pointer (some ⟨b, 0, none⟩), .int .u8 (c.toNat : Int)] w fun e w' => e = .returned (.bool (skipB c r)) ∧ KI b w w' ∧ InL w' b t f (skipR c r) := by
  have hE := hide fun q => ended_any (w.drewN q) b f t r (h.drewN q)
  have HH := hide h
  obtain ⟨c0, c1, c2, z2⟩ := three_cells h.cell
  have hl := h.len
  cases hs : skipB c r with
  | false =>
    rw [skipB_no hs]
    cases r with
    | nil =>
      clear h hs
      rw [show decide (([] : List UInt8) = []) = true from rfl] at hE
      go_enter Tryz.func18, Tryz.ntmps18
      go_wp2
      go_quiet ((go_at_call 17; exact Calls.quiet_of (hE.out _)))
      go_wp2
      go_ret
      exact ⟨rfl, (KI.refl _ _).drewN _, HH.out.drewN _⟩
    | cons x r =>
      obtain ⟨hp, hg⟩ := get_pos h.suf
      have hx : x ≠ c := by simpa [skipB] using hs
      have hxi : ((x.toNat : Int) != (c.toNat : Int)) = true := by
        simp only [bne_iff_ne, ne_eq]
        intro e; exact hx (UInt8.toNat_inj.1 (by omega))
      rw [show decide ((x :: r) = []) = false from rfl] at hE
      rw [← hg] at hxi
      generalize pos t (x :: r) = p at *
      have hpi : (p : Int) < (t.length : Int) := by omega
      clear h hs hx
      have HG := hide hg
      clear hg
      go_enter Tryz.func18, Tryz.ntmps18
      go_wp2
      go_quiet ((go_at_call 17; exact Calls.quiet_of (hE.out _)))
      go_wp2
      go_ret
      exact ⟨rfl, (KI.refl _ _).drewN _, HH.out.drewN _⟩
  | true =>
    obtain ⟨r', hr'⟩ : ∃ r', skipR c r = r' := ⟨_, rfl⟩
    have hr := skipB_yes hs
    rw [hr'] at hr ⊢
    subst hr
    obtain ⟨hp, hg⟩ := get_pos h.suf
    have hxi : ((t[pos t (c :: r')].toNat : Int) != (c.toNat : Int)) = false := by rw [hg]; simp
    rw [show decide ((c :: r') = []) = false from rfl] at hE
    have hpt := pos_tail h.suf
    have HPT : Hid ((pos t (c :: r') : Int) + 1 = (pos t r' : Int)) := hide (by omega)
    have HS := hide (suf_tail h.suf)
    generalize pos t (c :: r') = p at *
    have hpi : (p : Int) < (t.length : Int) := by omega
    clear h hs hr' hg hpt
    go_enter Tryz.func18, Tryz.ntmps18
    go_wp2
    go_quiet ((go_at_call 17; exact Calls.quiet_of (hE.out _)))
    go_wp2
    go_ret
    exact ⟨rfl, ((KI.refl _ _).drewN _).set _ _, (HH.out.drewN _).moved HS.out HPT.out⟩
end Go.Proofs.YtdlmgkncneifaaaGreat.Ln
