/- record: the reader: how many of something, and each of them by a function. -/
import Derived.Laws.OwnMore
import Derived.Test.YtnlkfehnmijimaaProg
import Derived.Test.YtnlkfehnmijimaaKit
import Derived.Test.YtnlkfehnmijimaaSpec
import Derived.Test.YtnlkfehnmijimaaReg
import Derived.Test.YtnlkfehnmijimaaRcA
import Derived.Test.YtnlkfehnmijimaaRcS
import Derived.Test.YtnlkfehnmijimaaRcT
import Derived.BigQuiet
set_option linter.unusedVariables false
set_option linter.unusedSimpArgs false
namespace Go.Proofs.Ytnlkfehnmijimaa.Rc
open Go.RowKit
attribute [local go_sem] bs_size bs_toList bs_append bs_get bs_extract

/-- A step, done n times. -/
def runN {σ : Type} (step : σ → Option σ) : Nat → σ → Option σ
  | 0, st => some st
  | n + 1, st => match step st with
    | none => none
    | some st' => runN step n st'
theorem runN_none {σ : Type} {step : σ → Option σ} {n : Nat} {st : σ} (h : step st = none) : runN step (n + 1) st = none := by
  simp only [runN, h]
theorem runN_some {σ : Type} {step : σ → Option σ} {n : Nat} {st st' : σ} (h : step st = some st') : runN step (n + 1) st = runN step n st' := by
  simp only [runN, h]
/-- How many there are, and these: what is read of a state. -/
def eachO {σ : Type} (step : σ → Option σ) (most : Nat) (rest : σ → List UInt8) (setR : σ → List UInt8 → σ) (st : σ) : Option σ := match cutN (rest st) with
  | none => none
  | some x => if x.1 ≤ most then runN step x.1 (setR st x.2) else none
/-- What comes of a reader's function with a state: another state, or it gives up. -/
def turned {σ : Type} (I : σ → World → Prop) (F : World → Prop) (o : Option σ) (e : Ending) (w' : World) : Prop := match o with
  | some st => e = .returned (.tuple #[]) ∧ I st w'
  | none => (∃ E : Nat, E ≠ 0 ∧ e = gaveUp E) ∧ F w'

set_option maxRecDepth 20000 in
set_option maxHeartbeats 4000000 in
theorem each_any {σ : Type} (w : World) (b most g : Nat) (cap : Array Value) (rest : σ → List UInt8) (setR : σ → List UInt8 → σ) (I : Nat → σ → World → Prop) (F : World → Prop) (step : σ → Option σ) (st : σ)
    (hcf : ∀ (args : Array Value) (w : World), (callFunc g args).run Try.prog w = .ok (.enter g args) w)
    (hmost : most ≤ 1000) (hin : InAt w b (rest st)) (hlen : (rest st).length ≤ 140737488355328)
    (hnum : ∀ r w', KI b w w' → InAt w' b r → r.length ≤ (rest st).length → I 0 (setR st r) w') (hF0 : ∀ w', KI b w w' → F w') (hF : ∀ k st w', I k st w' → F w')
    (hstep : ∀ k st W, k < most → I k st W → Calls Try.prog g cap W (turned (I (k + 1)) F (step st))) :
    Calls Try.prog 44 #[.pointer (some ⟨b, 0, none⟩), .int .u64 most, .func (.func g) #[] cap] w (turned (fun st w' => ∃ k, k ≤ most ∧ I k st w') F (eachO step most rest setR st)) := by
  obtain ⟨O, HO⟩ : ∃ O, Hid (eachO step most rest setR st = O) := ⟨_, hide rfl⟩
  have HO1 : Hid ((match cutN (rest st) with
    | none => none
    | some x => if x.1 ≤ most then runN step x.1 (setR st x.2) else none) = O) := HO
  rw [HO.out]
  clear HO
  have HN := hide (number_r w b (rest st) hin hlen)
  have HNUM := hide hnum
  have HF0 := hide hF0
  have HF := hide hF
  have HST := hide hstep
  unfold readAs at HN
  clear hnum hF0 hF hstep hin
  cases hc : cutN (rest st) with
  | none =>
    rw [hc] at HN HO1
    simp only at HN HO1
    clear hc
    go_enter Try.func44, Try.ntmps44
    go_wp2_with fail
    refine HN.out.mono ?_
    rintro e w1 ⟨hk, E, hE, rfl⟩
    refine ⟨rfl, ?_⟩
    rw [← HO1.out]
    exact ⟨⟨E, hE, rfl⟩, HF0.out w1 hk⟩
  | some x =>
    obtain ⟨n, r⟩ := x
    obtain ⟨hlt, hrl⟩ := cutN_lt hc
    rw [hc] at HN HO1
    simp only at HN HO1
    have HRL := hide hrl
    clear hc hrl
    by_cases hm : n ≤ most
    · rw [if_pos hm] at HO1
      have hmi : ¬ (most : Int) < (n : Int) := by omega
      have hmd : decide (most < n) = false := decide_eq_false (by omega)
      have hn1 : n ≤ 1000 := by omega
      clear hmi hlt
      have hm := hide hm
      go_enter Try.func44, Try.ntmps44
      go_wp2_with fail
      refine HN.out.mono ?_
      rintro e w1 ⟨hk, rfl, hi⟩
      have HI := hide (HNUM.out r w1 hk hi (Nat.le_of_lt HRL.out))
      clear hk hi HN HNUM
      go_wp2_with fail
      refine (refuse_any false 2 w1 (by decide)).mono ?_
      rintro e w2 ⟨rfl, hw2⟩
      subst hw2
      rw [if_neg (by simp), outc_ok]
      go_wp2
      go_loopw [14] (fun iv wr => ∃ (k : Nat) (s' : σ), k ≤ n ∧ iv = .int .u64 k ∧ Hid (runN step (n - k) s' = O) ∧ Hid (I k s' wr)) (fun iv _ => n - (intOf iv).toNat)
      case atStart => exact ⟨0, setR st r, by omega, rfl, HO1, HI⟩
      case round =>
        obtain ⟨k, s', hk, rfl, HR, HIs⟩ := hrel
        by_cases hlt : k < n
        · have hlti : (k : Int) < (n : Int) := by omega
          have HC := hide (HST.out k s' wr (by have := hm.out; omega) HIs.out)
          unfold turned at HC
          have hsub : n - k = (n - (k + 1)) + 1 := by omega
          have HR1 := HR.out
          rw [hsub] at HR1
          cases hs : step s' with
          | none =>
            rw [hs] at HC
            simp only at HC
            rw [runN_none hs] at HR1
            have HR2 := hide HR1
            clear hs hsub HR1
            go_wp2_with fail
            refine HC.out.mono ?_
            rintro e w3 ⟨⟨E, hE, rfl⟩, hf⟩
            refine ⟨rfl, ?_⟩
            rw [← HR2.out]
            exact ⟨⟨E, hE, rfl⟩, hf⟩
          | some s2 =>
            rw [hs] at HC
            simp only at HC
            rw [runN_some hs] at HR1
            have HR2 := hide HR1
            clear hs hsub HR1
            go_wp2_with fail
            refine HC.out.mono ?_
            rintro e w3 ⟨rfl, hi3⟩
            have HI3 := hide hi3
            clear hi3
            go_wp2
            go_roundw
            case rel => exact ⟨k + 1, s2, by omega, by go_num, HR2, HI3⟩
            case measure => simp [intOf]; omega
        · obtain rfl : k = n := by omega
          rw [Nat.sub_self] at HR
          go_wp2
          go_end0
          rw [← HR.out]
          exact ⟨rfl, _, hm.out, HIs.out⟩
    · rw [if_neg hm] at HO1
      have hmi : (most : Int) < (n : Int) := by omega
      have hmd : decide (most < n) = true := decide_eq_true (by omega)
      clear hm hmi hlt
      go_enter Try.func44, Try.ntmps44
      go_wp2_with fail
      refine HN.out.mono ?_
      rintro e w1 ⟨hk, rfl, hi⟩
      go_wp2_with fail
      refine (refuse_any true 2 w1 (by decide)).mono ?_
      rintro e w2 ⟨rfl, hw2⟩
      subst hw2
      rw [if_pos rfl, outc_no (by decide)]
      refine ⟨rfl, ?_⟩
      rw [← HO1.out]
      exact ⟨⟨2, by decide, rfl⟩, HF0.out _ hk⟩
end Go.Proofs.Ytnlkfehnmijimaa.Rc
