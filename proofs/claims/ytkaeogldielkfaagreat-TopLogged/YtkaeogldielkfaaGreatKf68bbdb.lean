/- 3 texts in one. -/
import Derived.Laws.OwnMore
import Derived.Test.YtkaeogldielkfaaGreatProg
import Derived.Test.YtkaeogldielkfaaGreatK5674b3b
import Derived.Test.YtkaeogldielkfaaGreatK7aebb14
import Derived.Test.YtkaeogldielkfaaGreatKb13b050
import Derived.Test.YtkaeogldielkfaaGreatK9055bc8
import Derived.BigQuiet
set_option linter.unusedVariables false
set_option linter.unusedSimpArgs false
namespace Go.Proofs.YtkaeogldielkfaaGreat.Rc
open Go.RowKit
attribute [local go_sem] bs_size bs_toList bs_append bs_get bs_extract
/-- Nothing has turned but block b. -/
structure KI (b : Nat) (w w' : World) : Prop where
  os : w'.os = w.os
  tape : w'.tape = w.tape
  output : w'.output = w.output
  size : w.heap.size ≤ w'.heap.size
  block : ∀ k, k < w.heap.size → k ≠ b → w'.heap[k]? = w.heap[k]?
theorem KI.refl (b : Nat) (w : World) : KI b w w := ⟨rfl, rfl, rfl, Nat.le_refl _, fun _ _ _ => rfl⟩
theorem KI.trans {b : Nat} {a c d : World} (h : KI b a c) (k : KI b c d) : KI b a d :=
  ⟨k.os.trans h.os, k.tape.trans h.tape, k.output.trans h.output, Nat.le_trans h.size k.size, fun i hi hn => (k.block i (Nat.lt_of_lt_of_le hi h.size) hn).trans (h.block i hi hn)⟩
theorem KI.grow {b : Nat} {w w' : World} (h : Grow w w') : KI b w w' := ⟨h.os, h.tape, h.output, h.size, fun k hk _ => h.block k hk⟩
theorem KI.set (b : Nat) (w : World) (i : Nat) (u : Value) : KI b w (w.setCell ⟨b, i, none⟩ u) := ⟨rfl, rfl, rfl, by simp [World.setCell], fun k _ hn => Below.heap_setCell _ _ _ _ hn⟩
theorem KI.get {b : Nat} {w w' : World} (h : KI b w w') {k : Nat} {o : Obj} (hk : w.heap[k]? = some o) (hn : k ≠ b) : w'.heap[k]? = some o := (h.block k (lt_of_block hk) hn).trans hk
/-- Block b is a reader, with what is not read yet. -/
def InAt (w : World) (b : Nat) (s : List UInt8) : Prop := w.heap[b]? = some (.cells #[.string (bs s)] 113 (0, 0))
theorem InAt.set {w : World} {b : Nat} {s : List UInt8} (h : InAt w b s) (r : List UInt8) : InAt (w.setCell ⟨b, 0, none⟩ (.string (bs r))) b r := one_setCell h
theorem InAt.grow {w w' : World} {b : Nat} {s : List UInt8} (h : InAt w b s) (g : Grow w w') : InAt w' b s := g.get h
/-- What a reader's method does: it answers what is read, and what is left; or gives up. -/
def readAs {α : Type} (b : Nat) (V : α → Value) (o : Option (α × List UInt8)) (w : World) (e : Ending) (w' : World) : Prop :=
  KI b w w' ∧ match o with
    | some x => e = .returned (V x.1) ∧ InAt w' b x.2
    | none => ∃ E : Nat, E ≠ 0 ∧ e = gaveUp E
set_option maxRecDepth 20000 in
set_option maxHeartbeats 2000000 in
theorem take_any (w : World) (b n : Nat) (s : List UInt8) (h : InAt w b s) (hs : s.length ≤ 140737488355328) (hn : n < 18446744073709551616) :
    Calls Tryz.prog 64 #[.pointer (some ⟨b, 0, none⟩), .int .u64 n] w (readAs b (fun t => .string (bs t)) (if n ≤ s.length then some (s.take n, s.drop n) else none) w) := by
  have hc := cell_of_one h
  have hz := free_of_one h
  have hwl : IntKind.u64.wrap (s.length : Int) = s.length := by rw [IntKind.wrap_u64]; omega
  by_cases hle : n ≤ s.length
  · rw [if_pos hle]
    have hli : ¬ (s.length : Int) < (n : Int) := by omega
    have hld : decide ((s.length : Int) < (n : Int)) = false := decide_eq_false hli
    have hl2 : (n : Int) ≤ (s.length : Int) := by omega
    have hq : (s.drop n).take (s.length - n) = s.drop n := List.take_of_length_le (by rw [List.length_drop]; exact Nat.le_refl _)
    clear hle
    go_enter Tryz.func64, Tryz.ntmps64
    go_wp2_with fail
    refine (refuse_any false 1 w (by decide)).mono ?_
    rintro e w1 ⟨rfl, hw1⟩
    subst hw1
    rw [if_neg (by simp), outc_ok]
    go_wp2
    go_ret
    exact ⟨KI.set b w1 0 _, rfl, h.set _⟩
  · rw [if_neg hle]
    have hli : (s.length : Int) < (n : Int) := by omega
    have hld : decide ((s.length : Int) < (n : Int)) = true := decide_eq_true hli
    clear hle
    go_enter Tryz.func64, Tryz.ntmps64
    go_wp2_with fail
    refine (refuse_any true 1 w (by decide)).mono ?_
    rintro e w1 ⟨rfl, hw1⟩
    subst hw1
    rw [if_pos rfl, outc_no (by decide)]
    exact ⟨rfl, KI.refl _ _, 1, by decide, rfl⟩
/-- A number as Number writes it, and what stands behind it. -/
def cutN (s : List UInt8) : Option (Nat × List UInt8) := if (readNum s).2.2 = 0 ∧ s.take (readNum s).2.1 = numB (readNum s).1 then some ((readNum s).1, s.drop (readNum s).2.1) else none
theorem cutN_lt {s r : List UInt8} {n : Nat} (h : cutN s = some (n, r)) : n < 18446744073709551616 ∧ r.length < s.length := by
  unfold cutN at h
  obtain ⟨h1, h2, h3⟩ := readNum_le s
  by_cases hc : (readNum s).2.2 = 0 ∧ s.take (readNum s).2.1 = numB (readNum s).1
  · rw [if_pos hc] at h
    cases h
    have := h2 hc.1
    exact ⟨h3, by rw [List.length_drop]; omega⟩
  · rw [if_neg hc] at h; cases h
set_option maxRecDepth 20000 in
set_option maxHeartbeats 2000000 in
theorem number_r (w : World) (b : Nat) (s : List UInt8) (h : InAt w b s) (hs : s.length ≤ 140737488355328) :
    Calls Tryz.prog 96 #[.pointer (some ⟨b, 0, none⟩)] w (readAs b (fun n => .int .u64 (n : Nat)) (cutN s) w) := by
  obtain ⟨O, HO⟩ : ∃ O, Hid (cutN s = O) := ⟨_, hide rfl⟩
  have HO1 : Hid ((if (readNum s).2.2 = 0 ∧ s.take (readNum s).2.1 = numB (readNum s).1 then some ((readNum s).1, s.drop (readNum s).2.1) else none) = O) := HO
  rw [HO.out]
  obtain ⟨hle, hpos, hlt⟩ := readNum_le s
  have HRN := hide (readNumber_any s w (by unfold maxLen; omega))
  obtain ⟨n, size, e, hrd⟩ : ∃ n size e, readNum s = (n, size, e) := ⟨_, _, _, rfl⟩
  rw [hrd] at HO1 HRN hle hpos hlt
  simp only at HO1 HRN hle hpos hlt
  have hc := cell_of_one h
  have hz := free_of_one h
  have H := hide h
  clear HO h hrd hpos
  go_enter Tryz.func96, Tryz.ntmps96
  go_wp2_with fail
  refine HRN.out.mono ?_
  rintro e' w1 ⟨rfl, hw1⟩
  subst hw1
  by_cases he : e = 0
  · subst he
    have HT := hide (take_any w1 b size s H.out hs (by omega))
    rw [if_pos hle] at HT
    unfold readAs at HT
    simp only at HT
    have hws : IntKind.u64.wrap (size : Int) = size := by rw [IntKind.wrap_u64]; omega
    go_wp2_with fail
    refine (refuse_any false 0 w1 (by decide)).mono ?_
    rintro e w2 ⟨rfl, hw2⟩
    subst hw2
    rw [if_neg (by simp), outc_ok]
    go_wp2_with fail
    refine HT.out.mono ?_
    rintro e w3 ⟨hk3, rfl, hin3⟩
    have HK3 := hide hk3
    have HI3 := hide hin3
    have HNB := hide (number_any n w3 hlt)
    clear hk3 hin3 HT hc hz
    go_wp2_with fail
    refine HNB.out.mono ?_
    rintro e w4 ⟨rfl, hg4⟩
    have HK4 := hide (HK3.out.trans (KI.grow hg4))
    have HI4 := hide (HI3.out.grow hg4)
    clear hg4 HNB
    by_cases hq : s.take size = numB n
    · have hO : O = some (n, s.drop size) := by rw [← HO1.out, if_pos ⟨trivial, hq⟩]
      have HOE := hide hO
      have hqb : (s.take size == numB n) = true := by rw [hq]; exact beq_self_eq_true _
      have hqc : (s.take size != numB n) = false := by rw [hq]; simp
      clear hq hO
      go_wp2_with fail
      refine (refuse_any false 1 w4 (by decide)).mono ?_
      rintro e w5 ⟨rfl, hw5⟩
      subst hw5
      rw [if_neg (by simp), outc_ok]
      go_wp2
      go_ret
      rw [HOE.out]
      exact ⟨HK4.out, rfl, HI4.out⟩
    · have hO : O = none := by rw [← HO1.out, if_neg (fun h => hq h.2)]
      have HOE := hide hO
      have hqb : (s.take size == numB n) = false := by rw [beq_eq_false_iff_ne]; exact hq
      have hqc : (s.take size != numB n) = true := by rw [bne, hqb]; rfl
      clear hq hO
      go_wp2_with fail
      refine (refuse_any true 1 w4 (by decide)).mono ?_
      rintro e w5 ⟨rfl, hw5⟩
      subst hw5
      rw [if_pos rfl, outc_no (by decide)]
      refine ⟨rfl, ?_⟩
      rw [HOE.out]
      exact ⟨HK4.out, 1, by decide, rfl⟩
  · have hO : O = none := by rw [← HO1.out, if_neg (fun h => he h.1)]
    have HOE := hide hO
    have hne : ((e : Int) != 0) = true := by simp; exact he
    have HE := hide he
    clear he hO
    go_wp2_with fail
    refine (refuse_any true e w1 (fun _ => HE.out)).mono ?_
    rintro e2 w2 ⟨rfl, hw2⟩
    subst hw2
    rw [if_pos rfl, outc_no HE.out]
    refine ⟨rfl, ?_⟩
    rw [HOE.out]
    exact ⟨KI.refl _ _, e, HE.out, rfl⟩
/-- A step, done n times. -/
def runN {σ : Type} (step : σ → Option σ) : Nat → σ → Option σ
  | 0, st => some st
  | n + 1, st => match step st with
    | none => none
    | some st' => runN step n st'
theorem runN_none {σ : Type} {step : σ → Option σ} {n : Nat} {st : σ} (h : step st = none) : runN step (n + 1) st = none := by
  simp only [runN, h]
theorem runN_some {σ : Type} {step : σ → Option σ} {n : Nat} {st st' : σ} (h : step st = some st') : runN step (n + 1) st = runN step n st' := by
  simp only [runN, h]
/-- How many there are, and these: what is read of a state. -/
def eachO {σ : Type} (step : σ → Option σ) (most : Nat) (rest : σ → List UInt8) (setR : σ → List UInt8 → σ) (st : σ) : Option σ := match cutN (rest st) with
  | none => none
  | some x => if x.1 ≤ most then runN step x.1 (setR st x.2) else none
/-- What comes of a reader's function with a state: another state, or it gives up. -/
def turned {σ : Type} (I : σ → World → Prop) (F : World → Prop) (o : Option σ) (e : Ending) (w' : World) : Prop := match o with
  | some st => e = .returned (.tuple #[]) ∧ I st w'
  | none => (∃ E : Nat, E ≠ 0 ∧ e = gaveUp E) ∧ F w'
set_option maxRecDepth 20000 in
set_option maxHeartbeats 4000000 in
theorem each_any {σ : Type} (w : World) (b most g : Nat) (cap : Array Value) (rest : σ → List UInt8) (setR : σ → List UInt8 → σ) (I : Nat → σ → World → Prop) (F : World → Prop) (step : σ → Option σ) (st : σ)
    (hcf : ∀ (args : Array Value) (w : World), (callFunc g args).run Tryz.prog w = .ok (.enter g args) w)
    (hmost : most ≤ 1000) (hin : InAt w b (rest st)) (hlen : (rest st).length ≤ 140737488355328)
    (hnum : ∀ r w', KI b w w' → InAt w' b r → r.length ≤ (rest st).length → I 0 (setR st r) w') (hF0 : ∀ w', KI b w w' → F w') (hF : ∀ k st w', I k st w' → F w')
    (hstep : ∀ k st W, k < most → I k st W → Calls Tryz.prog g cap W (turned (I (k + 1)) F (step st))) :
    Calls Tryz.prog 65 #[.pointer (some ⟨b, 0, none⟩), .int .u64 most, .func (.func g) #[] cap] w (turned (fun st w' => ∃ k, k ≤ most ∧ I k st w') F (eachO step most rest setR st)) := by
  obtain ⟨O, HO⟩ : ∃ O, Hid (eachO step most rest setR st = O) := ⟨_, hide rfl⟩
  have HO1 : Hid ((match cutN (rest st) with
    | none => none
    | some x => if x.1 ≤ most then runN step x.1 (setR st x.2) else none) = O) := HO
  rw [HO.out]
  clear HO
  have HN := hide (number_r w b (rest st) hin hlen)
  have HNUM := hide hnum
  have HF0 := hide hF0
  have HF := hide hF
  have HST := hide hstep
  unfold readAs at HN
  clear hnum hF0 hF hstep hin
  cases hc : cutN (rest st) with
  | none =>
    rw [hc] at HN HO1
    simp only at HN HO1
    clear hc
    go_enter Tryz.func65, Tryz.ntmps65
    go_wp2_with fail
    refine HN.out.mono ?_
    rintro e w1 ⟨hk, E, hE, rfl⟩
    refine ⟨rfl, ?_⟩
    rw [← HO1.out]
    exact ⟨⟨E, hE, rfl⟩, HF0.out w1 hk⟩
  | some x =>
    obtain ⟨n, r⟩ := x
    obtain ⟨hlt, hrl⟩ := cutN_lt hc
    rw [hc] at HN HO1
    simp only at HN HO1
    have HRL := hide hrl
    clear hc hrl
    by_cases hm : n ≤ most
    · rw [if_pos hm] at HO1
      have hmi : ¬ (most : Int) < (n : Int) := by omega
      have hmd : decide (most < n) = false := decide_eq_false (by omega)
      have hn1 : n ≤ 1000 := by omega
      clear hmi hlt
      have hm := hide hm
      go_enter Tryz.func65, Tryz.ntmps65
      go_wp2_with fail
      refine HN.out.mono ?_
      rintro e w1 ⟨hk, rfl, hi⟩
      have HI := hide (HNUM.out r w1 hk hi (Nat.le_of_lt HRL.out))
      clear hk hi HN HNUM
      go_wp2_with fail
      refine (refuse_any false 2 w1 (by decide)).mono ?_
      rintro e w2 ⟨rfl, hw2⟩
      subst hw2
      rw [if_neg (by simp), outc_ok]
      go_wp2
      go_loopw [14] (fun iv wr => ∃ (k : Nat) (s' : σ), k ≤ n ∧ iv = .int .u64 k ∧ Hid (runN step (n - k) s' = O) ∧ Hid (I k s' wr)) (fun iv _ => n - (intOf iv).toNat)
      case atStart => exact ⟨0, setR st r, by omega, rfl, HO1, HI⟩
      case round =>
        obtain ⟨k, s', hk, rfl, HR, HIs⟩ := hrel
        by_cases hlt : k < n
        · have hlti : (k : Int) < (n : Int) := by omega
          have HC := hide (HST.out k s' wr (by have := hm.out; omega) HIs.out)
          unfold turned at HC
          have hsub : n - k = (n - (k + 1)) + 1 := by omega
          have HR1 := HR.out
          rw [hsub] at HR1
          cases hs : step s' with
          | none =>
            rw [hs] at HC
            simp only at HC
            rw [runN_none hs] at HR1
            have HR2 := hide HR1
            clear hs hsub HR1
            go_wp2_with fail
            refine HC.out.mono ?_
            rintro e w3 ⟨⟨E, hE, rfl⟩, hf⟩
            refine ⟨rfl, ?_⟩
            rw [← HR2.out]
            exact ⟨⟨E, hE, rfl⟩, hf⟩
          | some s2 =>
            rw [hs] at HC
            simp only at HC
            rw [runN_some hs] at HR1
            have HR2 := hide HR1
            clear hs hsub HR1
            go_wp2_with fail
            refine HC.out.mono ?_
            rintro e w3 ⟨rfl, hi3⟩
            have HI3 := hide hi3
            clear hi3
            go_wp2
            go_roundw
            case rel => exact ⟨k + 1, s2, by omega, by go_num, HR2, HI3⟩
            case measure => simp [intOf]; omega
        · obtain rfl : k = n := by omega
          rw [Nat.sub_self] at HR
          go_wp2
          go_end0
          rw [← HR.out]
          exact ⟨rfl, _, hm.out, HIs.out⟩
    · rw [if_neg hm] at HO1
      have hmi : (most : Int) < (n : Int) := by omega
      have hmd : decide (most < n) = true := decide_eq_true (by omega)
      clear hm hmi hlt
      go_enter Tryz.func65, Tryz.ntmps65
      go_wp2_with fail
      refine HN.out.mono ?_
      rintro e w1 ⟨hk, rfl, hi⟩
      go_wp2_with fail
      refine (refuse_any true 2 w1 (by decide)).mono ?_
      rintro e w2 ⟨rfl, hw2⟩
      subst hw2
      rw [if_pos rfl, outc_no (by decide)]
      refine ⟨rfl, ?_⟩
      rw [← HO1.out]
      exact ⟨⟨2, by decide, rfl⟩, HF0.out _ hk⟩
end Go.Proofs.YtkaeogldielkfaaGreat.Rc
