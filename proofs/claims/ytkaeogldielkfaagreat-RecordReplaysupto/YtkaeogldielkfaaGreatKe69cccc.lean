/- 1 texts in one. -/
import Derived.Laws.OwnMore
import Derived.Test.YtkaeogldielkfaaGreatProg
import Derived.Test.YtkaeogldielkfaaGreatKabe2b5f
import Derived.Test.YtkaeogldielkfaaGreatK7731767
import Derived.Test.YtkaeogldielkfaaGreatKd1f2bd3
import Derived.Test.YtkaeogldielkfaaGreatK1e38180
import Derived.Test.YtkaeogldielkfaaGreatK8333cf2
import Derived.Test.YtkaeogldielkfaaGreatK2c59bb8
import Derived.BigQuiet
set_option linter.unusedVariables false
set_option linter.unusedSimpArgs false
namespace Go.Proofs.YtkaeogldielkfaaGreat.Rc
open Go.RowKit Lg
attribute [local go_sem] bs_size bs_toList bs_append bs_get bs_extract
theorem endF_take : ∀ {X : List (List UInt8 × Nat)} {l : List UInt8} {p : Nat} (n : Nat), entA l p = X → p ≤ endF p (X.take n) ∧ (p ≤ l.length → endF p (X.take n) ≤ l.length)
  | X, l, p, 0, h => ⟨Nat.le_refl _, fun h => h⟩
  | [], l, p, n + 1, h => ⟨Nat.le_refl _, fun h => h⟩
  | (r, e) :: X, l, p, n + 1, h => by
    obtain ⟨h1, h2⟩ := entA_cons h
    have h3 := recA_end h1
    have h4 := endF_take n h2
    exact ⟨by show p ≤ endF e (X.take n); omega, fun _ => h4.2 h3.2.1⟩
theorem entA_pre : ∀ {X : List (List UInt8 × Nat)} {l m : List UInt8} {p : Nat} (n : Nat), entA l p = X → n ≤ X.length → m.take (endF p (X.take n)) = l.take (endF p (X.take n)) → (entA m p).take n = X.take n
  | X, l, m, p, 0, h, hn, hm => rfl
  | [], l, m, p, n + 1, h, hn, hm => by simp at hn
  | (r, e) :: X, l, m, p, n + 1, h, hn, hm => by
    obtain ⟨h1, h2⟩ := entA_cons h
    have h4 := endF_take n h2
    have hm' : m.take (endF e (X.take n)) = l.take (endF e (X.take n)) := hm
    have h5 := recA_local l.length (by omega) h1 (take_le hm' h4.1)
    rw [entA_eq, h5]
    show (r, e) :: (entA m e).take n = _
    rw [entA_pre n h2 (by simpa using hn) hm']
    rfl
/-- How many records a log has that is cut off. -/
theorem entA_count {s : List UInt8} {n c : Nat} (hn : n ≤ (entA s 0).length) (hc : c ≤ s.length) : n ≤ (entA (s.take c) 0).length ↔ endF 0 ((entA s 0).take n) ≤ c := by
  constructor
  · intro h
    have h1 := (endF_take (X := entA (s.take c) 0) n rfl).2 (Nat.zero_le _)
    have h2 : endF 0 ((entA (s.take c) 0).take n) ≤ c := Nat.le_trans h1 (by rw [List.length_take]; omega)
    have h3 : s.take (endF 0 ((entA (s.take c) 0).take n)) = (s.take c).take (endF 0 ((entA (s.take c) 0).take n)) := by rw [List.take_take, Nat.min_eq_left h2]
    rw [entA_pre n rfl h h3]
    exact h2
  · intro h
    have h3 : (s.take c).take (endF 0 ((entA s 0).take n)) = s.take (endF 0 ((entA s 0).take n)) := by rw [List.take_take, Nat.min_eq_left h]
    have h4 := congrArg List.length (entA_pre n rfl hn h3)
    rw [List.length_take, List.length_take] at h4
    omega
theorem endF_more : ∀ (L : List (List UInt8 × Nat)) (x : List UInt8 × Nat) (p : Nat), endF p (x :: L) = (L.getLast?.getD x).2
  | [], x, p => rfl
  | y :: L, x, p => by
    show endF x.2 (y :: L) = _
    rw [endF_more L y x.2]
    cases L with
    | nil => rfl
    | cons z L => simp [List.getLast?_cons]
theorem lastE_endF (L : List (List UInt8 × Nat)) : lastE L = endF 0 L := by
  cases L with
  | nil => rfl
  | cons x L =>
    rw [endF_more L x 0]
    unfold lastE
    cases L with
    | nil => rfl
    | cons y L => simp [List.getLast?_cons]
set_option maxRecDepth 20000 in
set_option maxHeartbeats 4000000 in
/-- sort.Search, of what begins at e. -/
theorem search_any (w : World) (cb : Array Value) (n e : Nat) (hn : n ≤ 100000000) (he : e ≤ n)
    (hf : ∀ (W : World) (i : Nat), Grow w W → i < n → Calls Tryz.prog 71 (#[.int .i64 i] ++ cb) W fun x w' => x = .returned (.bool (decide (e ≤ i))) ∧ Grow W w') :
    Calls Tryz.prog 70 #[.int .i64 n, .func (.func 71) #[] cb] w fun x w' => x = .returned (.int .i64 e) ∧ Grow w w' := by
  have HF := hide hf
  have hcf : ∀ (args : Array Value) (w : World), (callFunc 71 args).run Tryz.prog w = .ok (.enter 71 args) w := fun args w => by simp [go_sem]
  clear hf
  go_enter Tryz.func70, Tryz.ntmps70
  go_wp2
  go_loopw [5, 6] (fun a b wr => ∃ lo hi : Nat, a = .int .i64 lo ∧ b = .int .i64 hi ∧ lo ≤ e ∧ e ≤ hi ∧ hi ≤ n ∧ Hid (Grow w wr)) (fun a b _ => (intOf b).toNat - (intOf a).toNat)
  case atStart => exact ⟨0, n, rfl, rfl, Nat.zero_le _, he, Nat.le_refl _, hide (Grow.refl _)⟩
  case round =>
    obtain ⟨lo, hi, rfl, rfl, h1, h2, h3, HG⟩ := hrel
    by_cases hlt : lo < hi
    · have hlti : (lo : Int) < (hi : Int) := by omega
      have HFM := hide (HF.out wr ((lo + hi) / 2) HG.out (by omega))
      obtain ⟨m, HM⟩ : ∃ m, Hid ((lo + hi) / 2 = m) := ⟨_, hide rfl⟩
      have hmi : ((lo : Int) + (hi : Int)) / 2 = (m : Int) := by rw [← HM.out]; omega
      rw [HM.out] at HFM
      go_wp2_with fail
      refine HFM.out.mono ?_
      rintro x w2 ⟨rfl, hg⟩
      have HG2 := hide (HG.out.trans hg)
      clear hg HFM
      by_cases hem : e ≤ m
      · have hd : decide (e ≤ m) = true := decide_eq_true hem
        rw [hd]
        go_wp2
        go_roundw
        case rel => exact ⟨lo, m, rfl, rfl, h1, hem, by have := HM.out; omega, HG2⟩
        case measure => have := HM.out; simp [intOf]; omega
      · have hd : decide (e ≤ m) = false := decide_eq_false hem
        rw [hd]
        go_wp2
        go_roundw
        case rel => exact ⟨m + 1, hi, by go_num, rfl, by omega, h2, h3, HG2⟩
        case measure => have := HM.out; simp [intOf]; omega
    · obtain rfl : lo = e := by omega
      go_wp2
      go_ret
      exact ⟨rfl, HG.out⟩
end Go.Proofs.YtkaeogldielkfaaGreat.Rc
