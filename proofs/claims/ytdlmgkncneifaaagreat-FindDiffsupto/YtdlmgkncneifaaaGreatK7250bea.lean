/- 3 texts in one. -/
import Derived.Laws.OwnMore
import Derived.Test.YtdlmgkncneifaaaGreatProg
import Derived.Test.YtdlmgkncneifaaaGreatK77c7527
import Derived.Test.YtdlmgkncneifaaaGreatKa9a7a6f
import Derived.Test.YtdlmgkncneifaaaGreatK261a29d
import Derived.Test.YtdlmgkncneifaaaGreatK53a69b0
import Derived.BigQuiet
set_option linter.unusedVariables false
set_option linter.unusedSimpArgs false
namespace Go.Proofs.YtdlmgkncneifaaaGreat.Ln
open Go.RowKit Lb
attribute [local go_sem] bs_size bs_toList bs_append bs_get bs_extract
/-- Nothing has turned but block b. -/
structure KI (b : Nat) (w w' : World) : Prop where
  os : w'.os = w.os
  tape : w'.tape = w.tape
  output : w'.output = w.output
  size : w.heap.size ≤ w'.heap.size
  block : ∀ k, k < w.heap.size → k ≠ b → w'.heap[k]? = w.heap[k]?
theorem KI.refl (b : Nat) (w : World) : KI b w w := ⟨rfl, rfl, rfl, Nat.le_refl _, fun _ _ _ => rfl⟩
theorem KI.trans {b : Nat} {a c d : World} (h : KI b a c) (k : KI b c d) : KI b a d :=
  ⟨k.os.trans h.os, k.tape.trans h.tape, k.output.trans h.output, Nat.le_trans h.size k.size, fun i hi hn => (k.block i (Nat.lt_of_lt_of_le hi h.size) hn).trans (h.block i hi hn)⟩
theorem KI.grow {b : Nat} {w w' : World} (h : Grow w w') : KI b w w' := ⟨h.os, h.tape, h.output, h.size, fun k hk _ => h.block k hk⟩
theorem KI.drewN {b : Nat} {a w : World} (h : KI b a w) (n : Nat) : KI b a (w.drewN n) := ⟨h.os, h.tape, h.output, h.size, h.block⟩
theorem KI.set {b : Nat} {a w : World} (h : KI b a w) (i : Nat) (u : Value) : KI b a (w.setCell ⟨b, i, none⟩ u) := h.trans ⟨rfl, rfl, rfl, by simp [World.setCell], fun k _ hn => Below.heap_setCell _ _ _ _ hn⟩
theorem KI.get {b : Nat} {w w' : World} (h : KI b w w') {k : Nat} {o : Obj} (hk : w.heap[k]? = some o) (hn : k ≠ b) : w'.heap[k]? = some o := (h.block k (lt_of_block hk) hn).trans hk
theorem KI.below {b B : Nat} {w w' : World} (h : KI b w w') (hB : B ≤ b) (hs : B ≤ w.heap.size) : Below B w w' := ⟨h.os, h.tape, h.output, h.size, fun k hk => h.block k (by omega) (by omega)⟩
/-- Where a rest begins. -/
def pos (t r : List UInt8) : Nat := t.length - r.length
/-- Block b is a line of a text t that begins at f; r is what is not read of it. -/
structure InL (w : World) (b : Nat) (t : List UInt8) (f : Nat) (r : List UInt8) : Prop where
  suf : r <:+ t
  len : t.length ≤ 1000000
  fir : f ≤ 1000000
  cell : w.heap[b]? = some (.cells #[.string (bs t), .int .i64 (f : Int), .int .i64 (pos t r : Int)] 74 (0, 0))
theorem InL.grow {w w' : World} {b f : Nat} {t r : List UInt8} (h : InL w b t f r) (g : Grow w w') : InL w' b t f r := ⟨h.suf, h.len, h.fir, g.get h.cell⟩
theorem InL.drewN {w : World} {b f : Nat} {t r : List UInt8} (h : InL w b t f r) (n : Nat) : InL (w.drewN n) b t f r := ⟨h.suf, h.len, h.fir, h.cell⟩
theorem suf_len {t r : List UInt8} (h : r <:+ t) : pos t r + r.length = t.length := by have := h.length_le; unfold pos; omega
theorem suf_tail {t r : List UInt8} {c : UInt8} (h : (c :: r) <:+ t) : r <:+ t := (List.suffix_cons c r).trans h
theorem pos_tail {t r : List UInt8} {c : UInt8} (h : (c :: r) <:+ t) : pos t r = pos t (c :: r) + 1 := by
  have h1 := suf_len h
  have h2 := suf_len (suf_tail h)
  rw [List.length_cons] at h1
  omega
theorem drop_pos {t r : List UInt8} (h : r <:+ t) : t.drop (pos t r) = r := by
  obtain ⟨p, rfl⟩ := h
  unfold pos
  rw [List.length_append, Nat.add_sub_cancel]
  exact List.drop_left
theorem get_pos {t r : List UInt8} {c : UInt8} (h : (c :: r) <:+ t) : ∃ hl : pos t (c :: r) < t.length, t[pos t (c :: r)] = c := by
  have h1 := suf_len h
  rw [List.length_cons] at h1
  refine ⟨by omega, ?_⟩
  have h2 := drop_pos h
  have h3 := congrArg (fun l => l[0]?) h2
  simp only [List.getElem?_drop, Nat.add_zero, List.getElem?_cons_zero] at h3
  rw [List.getElem?_eq_getElem (by omega)] at h3
  exact Option.some.inj h3
/-- Three cells. -/
theorem three_cells {w : World} {b : Nat} {x y z : Value} {t : TypeId} (h : w.heap[b]? = some (.cells #[x, y, z] t (0, 0))) : w.cell? ⟨b, 0, none⟩ = some x ∧ w.cell? ⟨b, 1, none⟩ = some y ∧ w.cell? ⟨b, 2, none⟩ = some z ∧ w.frozen? ⟨b, 2, none⟩ = false := by simp [World.cell?, World.frozen?, h]
theorem InL.moved {w : World} {b f : Nat} {t r : List UInt8} (h : InL w b t f r) {r' : List UInt8} (hs : r' <:+ t) {p : Int} (hp : p = (pos t r' : Int)) : InL (w.setCell ⟨b, 2, none⟩ (.int .i64 p)) b t f r' := by
  subst hp
  refine ⟨hs, h.len, h.fir, ?_⟩
  simp [World.setCell, Array.getElem?_modify, h.cell]
/-- What gives a text up. -/
abbrev gaveF (e : Int) (p : Int) : Ending := .panicked [{ v := .iface 25 (.agg #[.int .i64 e, .int .i64 p]), recovered := false }]
set_option maxRecDepth 20000 in
set_option maxHeartbeats 1000000 in
theorem ended_any (w : World) (b f : Nat) (t r : List UInt8) (h : InL w b t f r) :
    Calls Tryz.prog 17 #[.pointer (some ⟨b, 0, none⟩)] w fun e w' => e = .returned (.bool (decide (r = []))) ∧ ∃ n, w' = w.drewN n := by
  obtain ⟨c0, c1, c2, z2⟩ := three_cells h.cell
  have hl := h.len
  have hb : decide (r = []) = decide (((pos t r : Nat) : Int) = (t.length : Int)) := by
    have := suf_len h.suf
    rw [Bool.eq_iff_iff, decide_eq_true_eq, decide_eq_true_eq]
    constructor
    · intro e; subst e; simp at this; omega
    · intro e; exact List.eq_nil_of_length_eq_zero (by omega)
  rw [hb]
  generalize pos t r = p at *
  clear h hb
  go_enter Tryz.func17, Tryz.ntmps17
  go_wp2
  go_quiet (fail)
  go_wp2
  go_ret
  refine ⟨ret_bool ?_, _, rfl⟩
  rw [Bool.eq_iff_iff]
  simp
/-- Does this byte come? -/
def skipB (c : UInt8) : List UInt8 → Bool
  | [] => false
  | x :: _ => x == c
def skipR (c : UInt8) (r : List UInt8) : List UInt8 := if skipB c r = true then r.tail else r
theorem skipB_no {c : UInt8} {r : List UInt8} (h : skipB c r = false) : skipR c r = r := by unfold skipR; rw [h]; rfl
theorem skipB_yes {c : UInt8} {r : List UInt8} (h : skipB c r = true) : r = c :: skipR c r := by
  cases r with
  | nil => cases h
  | cons x r =>
    have : x = c := by simpa [skipB] using h
    subst this
    unfold skipR
    rw [h]
    rfl
set_option maxRecDepth 20000 in
set_option maxHeartbeats 1000000 in
theorem skip_any (w : World) (b f : Nat) (t r : List UInt8) (c : UInt8) (h : InL w b t f r) :
    Calls Tryz.prog 18 #[.pointer (some ⟨b, 0, none⟩), .int .u8 (c.toNat : Int)] w fun e w' => e = .returned (.bool (skipB c r)) ∧ KI b w w' ∧ InL w' b t f (skipR c r) := by
  have hE := hide fun q => ended_any (w.drewN q) b f t r (h.drewN q)
  have HH := hide h
  obtain ⟨c0, c1, c2, z2⟩ := three_cells h.cell
  have hl := h.len
  cases hs : skipB c r with
  | false =>
    rw [skipB_no hs]
    cases r with
    | nil =>
      clear h hs
      rw [show decide (([] : List UInt8) = []) = true from rfl] at hE
      go_enter Tryz.func18, Tryz.ntmps18
      go_wp2
      go_quiet ((go_at_call 17; exact Calls.quiet_of (hE.out _)))
      go_wp2
      go_ret
      exact ⟨rfl, (KI.refl _ _).drewN _, HH.out.drewN _⟩
    | cons x r =>
      obtain ⟨hp, hg⟩ := get_pos h.suf
      have hx : x ≠ c := by simpa [skipB] using hs
      have hxi : ((x.toNat : Int) != (c.toNat : Int)) = true := by
        simp only [bne_iff_ne, ne_eq]
        intro e; exact hx (UInt8.toNat_inj.1 (by omega))
      rw [show decide ((x :: r) = []) = false from rfl] at hE
      rw [← hg] at hxi
      generalize pos t (x :: r) = p at *
      have hpi : (p : Int) < (t.length : Int) := by omega
      clear h hs hx
      have HG := hide hg
      clear hg
      go_enter Tryz.func18, Tryz.ntmps18
      go_wp2
      go_quiet ((go_at_call 17; exact Calls.quiet_of (hE.out _)))
      go_wp2
      go_ret
      exact ⟨rfl, (KI.refl _ _).drewN _, HH.out.drewN _⟩
  | true =>
    obtain ⟨r', hr'⟩ : ∃ r', skipR c r = r' := ⟨_, rfl⟩
    have hr := skipB_yes hs
    rw [hr'] at hr ⊢
    subst hr
    obtain ⟨hp, hg⟩ := get_pos h.suf
    have hxi : ((t[pos t (c :: r')].toNat : Int) != (c.toNat : Int)) = false := by rw [hg]; simp
    rw [show decide ((c :: r') = []) = false from rfl] at hE
    have hpt := pos_tail h.suf
    have HPT : Hid ((pos t (c :: r') : Int) + 1 = (pos t r' : Int)) := hide (by omega)
    have HS := hide (suf_tail h.suf)
    generalize pos t (c :: r') = p at *
    have hpi : (p : Int) < (t.length : Int) := by omega
    clear h hs hr' hg hpt
    go_enter Tryz.func18, Tryz.ntmps18
    go_wp2
    go_quiet ((go_at_call 17; exact Calls.quiet_of (hE.out _)))
    go_wp2
    go_ret
    exact ⟨rfl, ((KI.refl _ _).drewN _).set _ _, (HH.out.drewN _).moved HS.out HPT.out⟩
set_option maxHeartbeats 1000000 in
theorem giveF_any (e p : Int) (w : World) : Calls Tryz.prog 21 #[.int .i64 e, .int .i64 p] w fun o w' => o = gaveF e p ∧ w' = w := by
  go_enter Tryz.func21, Tryz.ntmps21
  go_wp2
  exact ⟨rfl, rfl, rfl⟩
set_option maxHeartbeats 1000000 in
theorem giveUp_any (w : World) (b f : Nat) (t r : List UInt8) (h : InL w b t f r) : Calls Tryz.prog 55 #[.pointer (some ⟨b, 0, none⟩)] w fun o w' => o = gaveF 1 (pos t r) ∧ w' = w := by
  obtain ⟨c0, c1, c2, z2⟩ := three_cells h.cell
  clear h
  go_enter Tryz.func55, Tryz.ntmps55
  go_wp2_with (go_at_call 21; refine (giveF_any _ _ _).mono ?_; rintro e w' ⟨rfl, rfl⟩)
  exact ⟨rfl, rfl, rfl⟩
set_option maxHeartbeats 1000000 in
theorem first_any (w : World) (b f : Nat) (t r : List UInt8) (h : InL w b t f r) : Calls Tryz.prog 22 #[.pointer (some ⟨b, 0, none⟩)] w fun o w' => o = .returned (.int .i64 f) ∧ w' = w := by
  obtain ⟨c0, c1, c2, z2⟩ := three_cells h.cell
  clear h
  go_enter Tryz.func22, Tryz.ntmps22
  go_wp2
  go_ret
  exact ⟨rfl, rfl⟩
set_option maxHeartbeats 1000000 in
theorem end_any (w : World) (b f : Nat) (t r : List UInt8) (h : InL w b t f r) : Calls Tryz.prog 38 #[.pointer (some ⟨b, 0, none⟩)] w fun o w' => o = (if r = [] then .returned (.tuple #[]) else gaveF 1 (pos t r)) ∧ ∃ n, w' = w.drewN n := by
  have hE := hide (ended_any w b f t r h)
  have HH := hide h
  clear h
  by_cases hr : r = []
  · rw [if_pos hr]
    rw [decide_eq_true hr] at hE
    clear hr
    go_enter Tryz.func38, Tryz.ntmps38
    go_wp2_with (go_at_call 17; refine hE.out.mono ?_; rintro e w' ⟨rfl, n, rfl⟩)
    go_end0
    exact ⟨rfl, _, rfl⟩
  · rw [if_neg hr]
    rw [decide_eq_false hr] at hE
    clear hr
    go_enter Tryz.func38, Tryz.ntmps38
    go_wp2_with (first | (go_at_call 17; refine hE.out.mono ?_; rintro e w' ⟨rfl, n, rfl⟩) | (go_at_call 55; refine (giveUp_any _ b f t r (HH.out.drewN _)).mono ?_; rintro e w' ⟨rfl, rfl⟩))
    exact ⟨rfl, rfl, _, rfl⟩
/-- What a method that reads comes to: it answers, and the line is read further; or it gives up where a rest begins. -/
def lineAs {α : Type} (b f : Nat) (t : List UInt8) (V : α → Value) (o : Except (List UInt8) (α × List UInt8)) (w : World) (e : Ending) (w' : World) : Prop :=
  KI b w w' ∧ match o with
    | .ok x => e = .returned (V x.1) ∧ InL w' b t f x.2
    | .error r => e = gaveF 1 (pos t r)
def mustL (c : UInt8) (r : List UInt8) : Except (List UInt8) (Unit × List UInt8) := if skipB c r = true then .ok ((), skipR c r) else .error r
set_option maxHeartbeats 1000000 in
theorem must_any (w : World) (b f : Nat) (t r : List UInt8) (c : UInt8) (h : InL w b t f r) : Calls Tryz.prog 72 #[.pointer (some ⟨b, 0, none⟩), .int .u8 (c.toNat : Int)] w (lineAs b f t (fun _ => .tuple #[]) (mustL c r) w) := by
  have hE := hide (skip_any w b f t r c h)
  clear h
  unfold mustL
  cases hs : skipB c r with
  | true =>
    rw [if_pos rfl]
    rw [hs] at hE
    clear hs
    go_enter Tryz.func72, Tryz.ntmps72
    go_wp2_with fail
    refine hE.out.mono ?_
    rintro e w1 ⟨rfl, hk, hi⟩
    have HK := hide hk
    have HI := hide hi
    clear hk hi hE
    go_wp2
    go_end0
    exact ⟨HK.out, rfl, HI.out⟩
  | false =>
    rw [if_neg (by simp)]
    rw [hs, skipB_no hs] at hE
    clear hs
    go_enter Tryz.func72, Tryz.ntmps72
    go_wp2_with fail
    refine hE.out.mono ?_
    rintro e w1 ⟨rfl, hk, hi⟩
    have HK := hide hk
    have HI := hide hi
    clear hk hi hE
    go_wp2_with fail
    refine (giveUp_any _ b f t r HI.out).mono ?_
    rintro e w' ⟨rfl, rfl⟩
    exact ⟨rfl, HK.out, rfl⟩
/-- Behind blanks. -/
def blR : List UInt8 → List UInt8
  | [] => []
  | x :: r => if x = 32 ∨ x = 9 then blR r else x :: r
theorem blR_suf : ∀ r : List UInt8, blR r <:+ r
  | [] => List.suffix_refl _
  | x :: r => by
    unfold blR
    split
    · exact (blR_suf r).trans (List.suffix_cons x r)
    · exact List.suffix_refl _
theorem blR_go {r r' : List UInt8} {c : UInt8} (h : r = c :: r') (hc : c = 32 ∨ c = 9) : blR r = blR r' := by
  subst h
  rw [blR, if_pos hc]
theorem blR_end {r : List UInt8} (h1 : skipB 32 r = false) (h2 : skipB 9 r = false) : blR r = r := by
  cases r with
  | nil => rfl
  | cons x r =>
    rw [blR, if_neg]
    intro h
    rcases h with rfl | rfl
    · cases h1
    · cases h2
set_option maxRecDepth 20000 in
set_option maxHeartbeats 1000000 in
theorem blanks_any (w : World) (b f : Nat) (t r : List UInt8) (h : InL w b t f r) : Calls Tryz.prog 16 #[.pointer (some ⟨b, 0, none⟩)] w fun e w' => e = .returned (.bool (decide (blR r ≠ r))) ∧ KI b w w' ∧ InL w' b t f (blR r) := by
  obtain ⟨c0, c1, c2, z2⟩ := three_cells h.cell
  have HH := hide h
  have HD : Hid (decide (blR r ≠ r) = decide ((pos t r : Int) < (pos t (blR r) : Int))) := by
    have h1 := suf_len h.suf
    have h2 := suf_len ((blR_suf r).trans h.suf)
    have h3 := (blR_suf r).length_le
    show _ = _
    rw [Bool.eq_iff_iff, decide_eq_true_eq, decide_eq_true_eq]
    constructor
    · intro hne
      have : (blR r).length ≠ r.length := fun e => hne ((blR_suf r).eq_of_length e)
      omega
    · intro hlt e
      rw [e] at hlt
      omega
  obtain ⟨R, HR⟩ : ∃ R, Hid (blR r = R) := ⟨_, hide rfl⟩
  rw [HR.out] at HD ⊢
  clear h
  obtain ⟨p0, HP0⟩ : ∃ p0, Hid (pos t r = p0) := ⟨_, hide rfl⟩
  rw [HP0.out] at c2 HD
  go_enter Tryz.func16, Tryz.ntmps16
  go_wp2
  go_loopw [8] (fun _ wr => ∃ r' : List UInt8, Hid (InL wr b t f r') ∧ Hid (blR r' = R) ∧ Hid (KI b w wr)) (fun _ wr => match wr.heap[b]? with | some (.cells c _ _) => t.length - (intOf (c.getD 2 undef)).toNat | _ => 0)
  case atStart => exact ⟨r, HH, HR, hide (KI.refl _ _)⟩
  case round =>
    obtain ⟨r', HI, HRR, HK⟩ := hrel
    have hm : ∀ (W : World) (q : List UInt8), InL W b t f q → (match W.heap[b]? with | some (.cells c _ _) => t.length - (intOf (c.getD 2 undef)).toNat | _ => 0) = q.length := fun W q hq => by
      rw [hq.cell]
      have := suf_len hq.suf
      simp [intOf]
      omega
    have hle : ∀ c, skipB c r' = true → (skipR c r').length < r'.length := fun c hc => by
      have := congrArg List.length (skipB_yes hc)
      rw [List.length_cons] at this
      omega
    have HM := hide hm
    have HLE := hide hle
    have S1 := hide (skip_any wr b f t r' 32 HI.out)
    clear hm hle
    cases h1 : skipB 32 r' with
    | true =>
      rw [h1] at S1
      have H1 := hide h1
      clear h1
      go_wp2_with fail
      refine S1.out.mono ?_
      rintro e w1 ⟨rfl, hk, hi⟩
      have HK1 := hide (HK.out.trans hk)
      have HI1 := hide hi
      clear hk hi S1
      go_wp2
      go_roundw
      case rel => exact ⟨_, HI1, hide ((blR_go (skipB_yes H1.out) (.inl rfl)).symm.trans HRR.out), HK1⟩
      case measure => rw [HM.out _ _ HI1.out, HM.out _ _ HI.out]; exact HLE.out _ H1.out
    | false =>
      rw [h1, skipB_no h1] at S1
      have H1 := hide h1
      clear h1
      go_wp2_with fail
      refine S1.out.mono ?_
      rintro e w1 ⟨rfl, hk, hi⟩
      have HK1 := hide (HK.out.trans hk)
      have HI1 := hide hi
      have S2 := hide (skip_any w1 b f t r' 9 HI1.out)
      clear hk hi S1
      cases h2 : skipB 9 r' with
      | true =>
        rw [h2] at S2
        have H2 := hide h2
        clear h2
        go_wp2_with fail
        refine S2.out.mono ?_
        rintro e w2 ⟨rfl, hk, hi⟩
        have HK2 := hide (HK1.out.trans hk)
        have HI2 := hide hi
        clear hk hi S2
        go_wp2
        go_roundw
        case rel => exact ⟨_, HI2, hide ((blR_go (skipB_yes H2.out) (.inr rfl)).symm.trans HRR.out), HK2⟩
        case measure => rw [HM.out _ _ HI2.out, HM.out _ _ HI.out]; exact HLE.out _ H2.out
      | false =>
        rw [h2, skipB_no h2] at S2
        have H2 := hide h2
        clear h2
        go_wp2_with fail
        refine S2.out.mono ?_
        rintro e w2 ⟨rfl, hk, hi⟩
        have HK2 := hide (HK1.out.trans hk)
        have hRe : r' = R := (blR_end H1.out H2.out).symm.trans HRR.out
        subst hRe
        obtain ⟨d0, d1, d2, y2⟩ := three_cells hi.cell
        have HI2 := hide hi
        clear hk hi S2
        generalize pos t r' = p at *
        go_wp2
        go_ret
        refine ⟨ret_bool ?_, HK2.out, HI2.out⟩
        rw [HD.out, Bool.eq_iff_iff]
        simp
/-- Are the first k + 1 bytes there, and a name? -/
def namedB (r : List UInt8) (k : Nat) : Bool := decide (k < r.length) && nameB (r.take (k + 1))
def namGo (r : List UInt8) : Nat → Nat → Nat
  | 0, k => k
  | n + 1, k => if namedB r k = true then namGo r n (k + 1) else k
/-- How many bytes are a name, and all beginnings of it. -/
def namN (r : List UInt8) : Nat := namGo r 41 0
def nameE (r : List UInt8) : Except (List UInt8) (List UInt8 × List UInt8) := if namN r = 0 then .error r else .ok (r.take (namN r), r.drop (namN r))
theorem suf_drop {t r : List UInt8} (h : r <:+ t) (k : Nat) : r.drop k <:+ t := (List.drop_suffix k r).trans h
theorem pos_drop {t r : List UInt8} (h : r <:+ t) {k : Nat} (hk : k ≤ r.length) : pos t (r.drop k) = pos t r + k := by
  have h1 := suf_len h
  have h2 := suf_len (suf_drop h k)
  rw [List.length_drop] at h2
  omega
set_option maxRecDepth 20000 in
set_option maxHeartbeats 1000000 in
theorem named_any (w : World) (b f : Nat) (t r : List UInt8) (k : Nat) (hs : r <:+ t) (hk : k ≤ r.length) (h : InL w b t f (r.drop k)) :
    Calls Tryz.prog 53 #[.pointer (some ⟨b, 0, none⟩), .int .i64 (pos t r : Int)] w fun e w' => e = .returned (.bool (namedB r k)) ∧ ∃ n, w' = w.drewN n := by
  have hE := hide fun q => ended_any (w.drewN q) b f t (r.drop k) (h.drewN q)
  obtain ⟨c0, c1, c2, z2⟩ := three_cells h.cell
  have hl := h.len
  have hpd := pos_drop hs hk
  have hpl := suf_len hs
  have hdp := drop_pos hs
  unfold namedB
  by_cases hlt : k < r.length
  · rw [show decide (r.drop k = []) = false from decide_eq_false (fun e => by have := congrArg List.length e; simp at this; omega)] at hE
    rw [decide_eq_true hlt]
    obtain ⟨p, hp⟩ : ∃ p, pos t r = p := ⟨_, rfl⟩
    obtain ⟨a, ha⟩ : ∃ a, pos t (r.drop k) = a := ⟨_, rfl⟩
    rw [hp] at hpd hpl hdp ⊢
    rw [ha] at hpd c2
    have hx : (t.drop p).take (a + 1 - p) = r.take (k + 1) := by rw [hdp, show a + 1 - p = k + 1 by omega]
    have HX := hide hx
    obtain ⟨NB, HNB⟩ : ∃ NB, Hid (nameB (r.take (k + 1)) = NB) := ⟨_, hide rfl⟩
    have HIN : Hid (∀ W, Calls Tryz.prog 70 #[.string (bs ((t.drop p).take (a + 1 - p)))] W fun e w' => e = .returned (.bool NB) ∧ ∃ n, w' = W.drewN n) := hide fun W => by
      rw [HX.out, ← HNB.out]
      refine (isName_any (r.take (k + 1)) W (by have := List.length_take_le (k + 1) r; unfold maxLen; omega)).mono ?_
      rintro e w' ⟨rfl, rfl⟩
      exact ⟨rfl, 0, rfl⟩
    have h1 : (p : Int) ≤ (a : Int) + 1 := by omega
    have h2 : (a : Int) + 1 ≤ (t.length : Int) := by omega
    have h3 : ((a : Int) + 1).toNat = a + 1 := by omega
    have h4 : (0 : Int) ≤ (a : Int) + 1 := by omega
    rw [HNB.out]
    clear h hs hk hp ha hdp hx hpd hlt
    go_enter Tryz.func53, Tryz.ntmps53
    go_wp2
    go_quiet ((first | (go_at_call 17; exact Calls.quiet_of (hE.out _)) | (go_at_call 70; exact Calls.quiet_of (HIN.out _))))
    go_wp2
    go_ret
    exact ⟨rfl, _, rfl⟩
  · rw [show decide (r.drop k = []) = true from decide_eq_true (List.drop_eq_nil_of_le (by omega))] at hE
    rw [decide_eq_false hlt]
    generalize pos t r = p at *
    clear h hs hk hdp
    go_enter Tryz.func53, Tryz.ntmps53
    go_wp2
    go_quiet ((go_at_call 17; exact Calls.quiet_of (hE.out _)))
    go_wp2
    go_ret
    exact ⟨rfl, _, rfl⟩
set_option maxRecDepth 20000 in
set_option maxHeartbeats 1000000 in
theorem name_any (w : World) (b f : Nat) (t r : List UInt8) (h : InL w b t f r) : Calls Tryz.prog 71 #[.pointer (some ⟨b, 0, none⟩)] w (lineAs b f t (fun s => .string (bs s)) (nameE r) w) := by
  obtain ⟨c0, c1, c2, z2⟩ := three_cells h.cell
  have HH := hide h
  have HSF := hide h.suf
  have hl := h.len
  have hpl := suf_len h.suf
  obtain ⟨N, HN⟩ : ∃ N, Hid (namN r = N) := ⟨_, hide rfl⟩
  obtain ⟨O, HO⟩ : ∃ O, Hid (nameE r = O) := ⟨_, hide rfl⟩
  rw [HO.out]
  clear h
  obtain ⟨p0, HP0⟩ : ∃ p0, Hid (pos t r = p0) := ⟨_, hide rfl⟩
  rw [HP0.out] at c2 hpl
  go_enter Tryz.func71, Tryz.ntmps71
  go_wp2
  go_loopw [10] (fun _ wr => ∃ k : Nat, k ≤ 40 ∧ k ≤ r.length ∧ Hid (namGo r (41 - k) k = N) ∧ Hid (InL wr b t f (r.drop k)) ∧ Hid (KI b w wr)) (fun _ wr => match wr.heap[b]? with | some (.cells c _ _) => t.length - (intOf (c.getD 2 undef)).toNat | _ => 0)
  case atStart => exact ⟨0, by omega, by omega, HN, HH, hide (KI.refl _ _)⟩
  case round =>
    obtain ⟨k, hk40, hkr, HG, HI, HK⟩ := hrel
    obtain ⟨d0, d1, d2, y2⟩ := three_cells HI.out.cell
    have hpd := pos_drop HSF.out hkr
    rw [HP0.out] at hpd
    have hm : ∀ (W : World) (q : List UInt8), InL W b t f q → (match W.heap[b]? with | some (.cells c _ _) => t.length - (intOf (c.getD 2 undef)).toNat | _ => 0) = q.length := fun W q hq => by
      rw [hq.cell]
      have := suf_len hq.suf
      simp [intOf]
      omega
    have HM := hide hm
    have HC := hide (named_any wr b f t r k HSF.out hkr HI.out)
    rw [HP0.out] at HC
    have hfu : 41 - k = (40 - k) + 1 := by omega
    have hg := HG.out
    rw [hfu, namGo] at hg
    rw [hpd] at d2
    clear hm hfu
    cases hn : namedB r k with
    | true =>
      rw [hn] at HC hg
      rw [if_pos rfl] at hg
      unfold namedB at hn
      simp only [Bool.and_eq_true, decide_eq_true_eq] at hn
      obtain ⟨hlt, hnb⟩ := hn
      have h40 := (nameB_len hnb).2
      rw [List.length_take] at h40
      have HG2 : Hid (namGo r (41 - (k + 1)) (k + 1) = N) := hide (by rw [show 41 - (k + 1) = 40 - k by omega]; exact hg)
      have hmv : ∀ n, InL ((wr.drewN n).setCell ⟨b, 2, none⟩ (.int .i64 ((p0 : Int) + (k : Int) + 1))) b t f (r.drop (k + 1)) := fun n => (HI.out.drewN n).moved (suf_drop HSF.out _) (by rw [pos_drop HSF.out (by omega : k + 1 ≤ r.length), HP0.out]; omega)
      have HMV := hide hmv
      clear hg hnb hmv
      go_wp2_with fail
      refine HC.out.mono ?_
      rintro e w1 ⟨rfl, n, rfl⟩
      go_wp2
      go_roundw
      case rel => exact ⟨k + 1, by omega, by omega, HG2, hide (HMV.out n), hide ((HK.out.drewN n).set _ _)⟩
      case measure => rw [HM.out _ _ (HMV.out n), HM.out _ _ HI.out, List.length_drop, List.length_drop]; omega
    | false =>
      rw [hn] at HC hg
      rw [if_neg (by simp)] at hg
      subst hg
      clear hn
      by_cases hk0 : k = 0
      · have hO : O = .error r := by rw [← HO.out]; unfold nameE; rw [HN.out, if_pos hk0]
        subst hO hk0
        go_wp2_with fail
        refine HC.out.mono ?_
        rintro e w1 ⟨rfl, n, rfl⟩
        go_wp2_with fail
        refine (giveUp_any _ b f t (r.drop 0) (HI.out.drewN n)).mono ?_
        rintro e w2 ⟨rfl, rfl⟩
        exact ⟨rfl, HK.out.drewN n, rfl⟩
      · have hO : O = .ok (r.take k, r.drop k) := by rw [← HO.out]; unfold nameE; rw [HN.out, if_neg hk0]
        subst hO
        have hq1 : ((p0 : Int) + (k : Int) == (p0 : Int)) = false := by
          simp only [beq_eq_false_iff_ne, ne_eq]; omega
        have hq2 : (p0 : Int) ≤ (p0 : Int) + (k : Int) := by omega
        have hq3 : (p0 : Int) + (k : Int) ≤ (t.length : Int) := by omega
        have hq4 : ((p0 : Int) + (k : Int)).toNat = p0 + k := by omega
        have hx : (t.drop p0).take k = r.take k := by rw [← HP0.out, drop_pos HSF.out]
        have HX := hide hx
        clear hx
        go_wp2_with fail
        refine HC.out.mono ?_
        rintro e w1 ⟨rfl, n, rfl⟩
        go_wp2
        go_quiet (fail)
        go_wp2
        go_ret
        refine ⟨(HK.out.drewN n).drewN _, ?_, (HI.out.drewN n).drewN _⟩
        rw [← HX.out]
        rfl
def nextE : List UInt8 → Except (List UInt8) (UInt8 × List UInt8)
  | [] => .error []
  | c :: r => .ok (c, r)
set_option maxRecDepth 20000 in
set_option maxHeartbeats 1000000 in
theorem next_any (w : World) (b f : Nat) (t r : List UInt8) (h : InL w b t f r) : Calls Tryz.prog 109 #[.pointer (some ⟨b, 0, none⟩)] w (lineAs b f t (fun c => .int .u8 (c.toNat : Int)) (nextE r) w) := by
  have hE := hide (ended_any w b f t r h)
  have HH := hide h
  obtain ⟨c0, c1, c2, z2⟩ := three_cells h.cell
  have hl := h.len
  cases r with
  | nil =>
    rw [show decide (([] : List UInt8) = []) = true from rfl] at hE
    clear h
    go_enter Tryz.func109, Tryz.ntmps109
    go_wp2_with fail
    refine hE.out.mono ?_
    rintro e w1 ⟨rfl, n, rfl⟩
    go_wp2_with fail
    refine (giveUp_any _ b f t [] (HH.out.drewN n)).mono ?_
    rintro e w2 ⟨rfl, rfl⟩
    exact ⟨rfl, (KI.refl _ _).drewN n, rfl⟩
  | cons c r =>
    rw [show decide ((c :: r) = []) = false from rfl] at hE
    obtain ⟨hp, hg⟩ := get_pos h.suf
    have hpt := pos_tail h.suf
    have HPT : Hid ((pos t (c :: r) : Int) + 1 = (pos t r : Int)) := hide (by omega)
    have HS := hide (suf_tail h.suf)
    have hmv : ∀ n, InL ((w.drewN n).setCell ⟨b, 2, none⟩ (.int .i64 ((pos t (c :: r) : Int) + 1))) b t f r := fun n => (HH.out.drewN n).moved HS.out HPT.out
    have HMV := hide hmv
    generalize pos t (c :: r) = p at *
    have hpi : (p : Int) < (t.length : Int) := by omega
    have h5 : (p : Int) + 1 - 1 = (p : Int) := by omega
    have HG := hide hg
    have hcell2 : ∀ n, ((w.drewN n).setCell ⟨b, 2, none⟩ (.int .i64 ((p : Int) + 1))).cell? ⟨b, 2, none⟩ = some (.int .i64 ((p : Int) + 1)) ∧ ((w.drewN n).setCell ⟨b, 2, none⟩ (.int .i64 ((p : Int) + 1))).cell? ⟨b, 0, none⟩ = some (.string (bs t)) := fun n => by
      obtain ⟨e0, e1, e2, e3⟩ := three_cells (HMV.out n).cell
      exact ⟨by rw [e2, HPT.out], e0⟩
    have HC2 := hide hcell2
    clear h hg hpt hmv hcell2
    go_enter Tryz.func109, Tryz.ntmps109
    go_wp2_with fail
    refine hE.out.mono ?_
    rintro e w1 ⟨rfl, n, rfl⟩
    go_wp2
    obtain ⟨W, HW⟩ : ∃ W, Hid ((w.drewN n).setCell ⟨b, 2, none⟩ (.int .i64 ((p : Int) + 1)) = W) := ⟨_, hide rfl⟩
    obtain ⟨e2, e0⟩ := HC2.out n
    rw [HW.out] at e2 e0 ⊢
    go_quiet (fail)
    go_wp2
    go_ret
    refine ⟨?_, ?_, ?_⟩
    · rw [← HW.out]; exact (((KI.refl _ _).drewN n).set _ _).drewN _
    · rw [HG.out]; rfl
    · rw [← HW.out]; exact (HMV.out n).drewN _
/-- A byte of a value, which may be told by two. -/
def vbE (r : List UInt8) : Except (List UInt8) (UInt8 × List UInt8) :=
  if skipB 92 r = true then
    match skipR 92 r with
    | [] => .error []
    | c :: q => if c = 92 ∨ c = 34 then .ok (c, q) else if c = 110 then .ok (10, q) else .error (c :: q)
  else nextE r
set_option maxRecDepth 20000 in
set_option maxHeartbeats 1000000 in
theorem valueByte_any (w : World) (b f : Nat) (t r : List UInt8) (h : InL w b t f r) : Calls Tryz.prog 97 #[.pointer (some ⟨b, 0, none⟩)] w (lineAs b f t (fun c => .int .u8 (c.toNat : Int)) (vbE r) w) := by
  have S1 := hide (skip_any w b f t r 92 h)
  obtain ⟨O, HO⟩ : ∃ O, Hid (vbE r = O) := ⟨_, hide rfl⟩
  rw [HO.out]
  have hO := HO.out
  unfold vbE at hO
  cases hs : skipB 92 r with
  | false =>
    rw [hs, if_neg (by simp)] at hO
    rw [hs, skipB_no hs] at S1
    clear h hs
    go_enter Tryz.func97, Tryz.ntmps97
    go_wp2_with fail
    refine S1.out.mono ?_
    rintro e w1 ⟨rfl, hk, hi⟩
    have HK := hide hk
    have S2 := hide (next_any w1 b f t r hi)
    clear hk hi S1
    cases hn : nextE r with
    | error q =>
      rw [hn] at S2 hO
      subst hO
      clear hn
      go_wp2_with fail
      refine S2.out.mono ?_
      rintro e w2 ⟨hk2, rfl⟩
      exact ⟨rfl, HK.out.trans hk2, rfl⟩
    | ok x =>
      rw [hn] at S2 hO
      subst hO
      clear hn
      go_wp2_with fail
      refine S2.out.mono ?_
      rintro e w2 ⟨hk2, rfl, hi2⟩
      have HK2 := hide (HK.out.trans hk2)
      have HI2 := hide hi2
      clear hk2 hi2 S2
      go_wp2
      go_ret
      exact ⟨HK2.out, rfl, HI2.out⟩
  | true =>
    rw [hs, if_pos rfl] at hO
    rw [hs] at S1
    obtain ⟨r1, hr1⟩ : ∃ r1, skipR 92 r = r1 := ⟨_, rfl⟩
    rw [hr1] at S1 hO
    clear h hs hr1
    go_enter Tryz.func97, Tryz.ntmps97
    go_wp2_with fail
    refine S1.out.mono ?_
    rintro e w1 ⟨rfl, hk, hi⟩
    have HK := hide hk
    have HI := hide hi
    have S2 := hide (next_any w1 b f t r1 hi)
    obtain ⟨c0, c1, c2, z2⟩ := three_cells hi.cell
    clear hk hi S1
    cases r1 with
    | nil =>
      simp only [nextE] at S2 hO
      subst hO
      go_wp2_with fail
      refine S2.out.mono ?_
      rintro e w2 ⟨hk2, rfl⟩
      exact ⟨rfl, HK.out.trans hk2, rfl⟩
    | cons c q =>
      simp only [nextE] at S2 hO
      have hcl := c.toNat_lt
      obtain ⟨p, HP⟩ : ∃ p, Hid (pos t (c :: q) = p) := ⟨_, hide rfl⟩
      rw [HP.out] at c2
      have HSUF := hide HI.out.suf
      by_cases h1 : c = 92
      · subst h1
        rw [if_pos (.inl rfl)] at hO
        subst hO
        go_wp2_with fail
        refine S2.out.mono ?_
        rintro e w2 ⟨hk2, rfl, hi2⟩
        have HK2 := hide (HK.out.trans hk2)
        have HI2 := hide hi2
        clear hk2 hi2 S2
        go_wp2
        go_ret
        exact ⟨HK2.out, rfl, HI2.out⟩
      · have h1i : ((c.toNat : Int) == 92) = false := by
          simp only [beq_eq_false_iff_ne, ne_eq]; intro e; exact h1 (UInt8.toNat_inj.1 (by simpa using (show c.toNat = 92 by omega)))
        by_cases h2 : c = 34
        · subst h2
          rw [if_pos (.inr rfl)] at hO
          subst hO
          clear h1 h1i
          go_wp2_with fail
          refine S2.out.mono ?_
          rintro e w2 ⟨hk2, rfl, hi2⟩
          have HK2 := hide (HK.out.trans hk2)
          have HI2 := hide hi2
          clear hk2 hi2 S2
          go_wp2
          go_ret
          exact ⟨HK2.out, rfl, HI2.out⟩
        · have h2i : ((c.toNat : Int) == 34) = false := by
            simp only [beq_eq_false_iff_ne, ne_eq]; intro e; exact h2 (UInt8.toNat_inj.1 (by simpa using (show c.toNat = 34 by omega)))
          rw [if_neg (by intro h; rcases h with h | h; exact h1 h; exact h2 h)] at hO
          by_cases h3 : c = 110
          · subst h3
            rw [if_pos rfl] at hO
            subst hO
            clear h1 h1i h2 h2i
            go_wp2_with fail
            refine S2.out.mono ?_
            rintro e w2 ⟨hk2, rfl, hi2⟩
            have HK2 := hide (HK.out.trans hk2)
            have HI2 := hide hi2
            clear hk2 hi2 S2
            go_wp2
            go_ret
            exact ⟨HK2.out, rfl, HI2.out⟩
          · have h3i : ((c.toNat : Int) == 110) = false := by
              simp only [beq_eq_false_iff_ne, ne_eq]; intro e; exact h3 (UInt8.toNat_inj.1 (by simpa using (show c.toNat = 110 by omega)))
            rw [if_neg h3] at hO
            subst hO
            clear h1 h2 h3
            go_wp2_with fail
            refine S2.out.mono ?_
            rintro e w2 ⟨hk2, rfl, hi2⟩
            have HK2 := hide (HK.out.trans hk2)
            obtain ⟨d0, d1, d2, y2⟩ := three_cells hi2.cell
            have HI3 := hide (hi2.moved (r' := c :: q) HSUF.out (p := (p : Int)) (by rw [HP.out]))
            clear hk2 hi2 S2
            go_wp2_with fail
            refine (giveUp_any _ b f t (c :: q) HI3.out).mono ?_
            rintro e w3 ⟨rfl, rfl⟩
            exact ⟨rfl, HK2.out.set _ _, rfl⟩
end Go.Proofs.YtdlmgkncneifaaaGreat.Ln
