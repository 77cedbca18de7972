/- record: the document's own reading, as a function: it reads what 'unpacked' does. -/
import Derived.Test.YtnlkfehnmijimaaProg
import Derived.Test.YtnlkfehnmijimaaKit
import Derived.Test.YtnlkfehnmijimaaSpec
import Derived.Test.YtnlkfehnmijimaaLSpec
import Derived.Test.YtnlkfehnmijimaaRcA
import Derived.Test.YtnlkfehnmijimaaRcM
import Derived.Test.YtnlkfehnmijimaaRcT
import Derived.Test.YtnlkfehnmijimaaRcU
import Derived.Test.YtnlkfehnmijimaaRcV
import Derived.Test.YtnlkfehnmijimaaRcY
import Derived.Test.YtnlkfehnmijimaaRfH
import Derived.Test.YtnlkfehnmijimaaRfM
import Derived.Test.YtnlkfehnmijimaaRfN
import Derived.Test.YtnlkfehnmijimaaRfQ
set_option linter.unusedVariables false
set_option linter.unusedSimpArgs false
namespace Go.Proofs.Ytnlkfehnmijimaa.Rc
open Go.RowKit Lb

def textT (c : Cur) : List UInt8 × Cur := bytT (numT c).1 (numT c).2
def labT (c : Cur) : Lab × Cur := (((textT c).1, (textT (textT c).2).1), (textT (textT c).2).2)
/-- Many, as long as nothing was bad. -/
def loopT {α : Type} (one : Cur → α × Cur) : Nat → List α × Cur → List α × Cur
  | 0, x => x
  | n + 1, x => if x.2.2 = true then x else loopT one n (x.1 ++ [(one x.2).1], (one x.2).2)
theorem loopT_bad {α : Type} {one : Cur → α × Cur} : ∀ (n : Nat) (x : List α × Cur), x.2.2 = true → loopT one n x = x
  | 0, x, h => rfl
  | n + 1, x, h => by simp only [loopT, h, if_true]
theorem loopT_step {α : Type} {one : Cur → α × Cur} {n : Nat} {x : List α × Cur} (h : x.2.2 = false) : loopT one (n + 1) x = loopT one n (x.1 ++ [(one x.2).1], (one x.2).2) := by
  simp only [loopT, h, Bool.false_eq_true, if_false]
def labsT (c : Cur) : List Lab × Cur := loopT labT (numT c).1 ([], (numT c).2)
def refT (c : Cur) : RefL × Cur := ((((numT c).1 : Nat), (labsT (numT c).2).1), (labsT (numT c).2).2)
def pntT (c : Cur) : Pnt × Cur := ((((numT c).1 : Nat), timeI (numT (numT c).2).1, wordI (bytT 8 (numT (numT c).2).2).1), (bytT 8 (numT (numT c).2).2).2)
def bodyT (k : UInt8) (c : Cur) : Rcd × Cur :=
  if k.toNat = 1 then (⟨1, (loopT refT (numT c).1 ([], (numT c).2)).1, []⟩, (loopT refT (numT c).1 ([], (numT c).2)).2)
  else if k.toNat = 2 then (⟨2, [], (loopT pntT (numT c).1 ([], (numT c).2)).1⟩, (loopT pntT (numT c).1 ([], (numT c).2)).2)
  else (⟨(k.toNat : Int), [], []⟩, (numT c).2)
def unpT : List UInt8 → Option Rcd
  | [] => none
  | k :: s => if (bodyT k (s, false)).2 = ([], false) ∧ recErr (bodyT k (s, false)).1 = 0 then some (bodyT k (s, false)).1 else none

/-! ### what was not bad -/
theorem numT_good {c : Cur} {n : Nat} {r : List UInt8} (h : numT c = (n, (r, false))) : c = (numB n ++ r, false) ∧ n ≤ 4611686018427387904 := by
  obtain ⟨s, bad⟩ := c
  unfold numT at h
  cases bad with
  | true => simp at h
  | false =>
    simp only [Bool.false_eq_true, if_false] at h
    cases hc : cutN s with
    | none => rw [hc] at h; simp at h
    | some x =>
      rw [hc] at h
      simp only at h
      by_cases hl : x.1 ≤ 4611686018427387904
      · rw [if_pos hl] at h
        simp only [Prod.mk.injEq, and_true] at h
        obtain ⟨h1, h2⟩ := h
        subst h1 h2
        exact ⟨by rw [cutN_dec (s := s) (n := x.1) (r := x.2) hc], hl⟩
      · rw [if_neg hl] at h; simp at h
theorem bytT_good {n : Nat} {c : Cur} {t r : List UInt8} (h : bytT n c = (t, (r, false))) : c = (t ++ r, false) ∧ t.length = n := by
  obtain ⟨s, bad⟩ := c
  unfold bytT at h
  by_cases hc : bad = true ∨ s.length < n
  · rw [if_pos hc] at h; simp at h
  · rw [if_neg hc] at h
    simp only [Prod.mk.injEq, and_true] at h
    obtain ⟨h1, h2⟩ := h
    have hb : bad = false := by cases bad with | true => exact absurd (.inl rfl) hc | false => rfl
    subst h1 h2 hb
    exact ⟨by rw [List.take_append_drop], by rw [List.length_take]; omega⟩
theorem numT_enc {n : Nat} (h : n ≤ 4611686018427387904) (r : List UInt8) : numT (numB n ++ r, false) = (n, (r, false)) := by
  unfold numT
  simp only [Bool.false_eq_true, if_false]
  rw [cutN_enc (by omega)]
  simp only
  rw [if_pos h]
theorem bytT_enc {t : List UInt8} (r : List UInt8) : bytT t.length (t ++ r, false) = (t, (r, false)) := by
  unfold bytT
  rw [if_neg (by simp), List.take_left, List.drop_left]
theorem pair_of {α β : Type} {p : α × β} {b : β} (h : p.2 = b) : p = (p.1, b) := by rw [← h]
theorem cur_of {c : Cur} (h : c.2 = false) : c = (c.1, false) := pair_of h
theorem textT_good {c : Cur} {t r : List UInt8} (h : textT c = (t, (r, false))) : c = (textB t ++ r, false) ∧ t.length ≤ 4611686018427387904 := by
  unfold textT at h
  obtain ⟨h1, h2⟩ := bytT_good h
  obtain ⟨h3, h4⟩ := numT_good (c := c) (n := (numT c).1) (r := t ++ r) (pair_of h1)
  rw [← h2] at h3 h4
  refine ⟨?_, h4⟩
  unfold textB
  rw [List.append_assoc]
  exact h3
theorem textT_enc {t : List UInt8} (h : t.length ≤ 4611686018427387904) (r : List UInt8) : textT (textB t ++ r, false) = (t, (r, false)) := by
  unfold textT textB
  rw [List.append_assoc, numT_enc h]
  exact bytT_enc r
theorem labT_good {c : Cur} {y : Lab} {r : List UInt8} (h : labT c = (y, (r, false))) : c = (labB y ++ r, false) := by
  unfold labT at h
  simp only [Prod.mk.injEq] at h
  obtain ⟨rfl, h2⟩ := h
  obtain ⟨h3, _⟩ := textT_good (c := (textT c).2) (t := (textT (textT c).2).1) (r := r) (pair_of h2)
  obtain ⟨h4, _⟩ := textT_good (c := c) (t := (textT c).1) (pair_of h3)
  unfold labB
  rw [List.append_assoc]
  exact h4
theorem labT_enc {y : Lab} (h1 : y.1.length ≤ 4611686018427387904) (h2 : y.2.length ≤ 4611686018427387904) (r : List UInt8) : labT (labB y ++ r, false) = (y, (r, false)) := by
  unfold labT labB
  rw [List.append_assoc, textT_enc h1, textT_enc h2]
theorem loopT_good {α : Type} {one : Cur → α × Cur} {enc : α → List UInt8} {ok : α → Prop} (h : ∀ c x r, one c = (x, (r, false)) → ok x → c = (enc x ++ r, false)) (hm : ∀ c, (one c).2.2 = false → c.2 = false) : ∀ (n : Nat) (acc : List α) (c : Cur) (l' : List α) (r : List UInt8),
    loopT one n (acc, c) = (l', (r, false)) → (∀ x ∈ l', ok x) → ∃ l, l' = acc ++ l ∧ l.length = n ∧ c = ((l.map enc).flatten ++ r, false)
  | 0, acc, c, l', r, e, _ => by
    simp only [loopT, Prod.mk.injEq] at e
    obtain ⟨rfl, rfl⟩ := e
    exact ⟨[], by simp, rfl, by simp⟩
  | n + 1, acc, c, l', r, e, hok => by
    by_cases hb : c.2 = true
    · rw [loopT_bad _ _ hb] at e
      simp only [Prod.mk.injEq] at e
      rw [e.2] at hb
      cases hb
    · have hb : c.2 = false := by simpa using hb
      rw [loopT_step hb] at e
      obtain ⟨l, h1, h2, h3⟩ := loopT_good h hm n _ _ _ _ e hok
      subst h1
      refine ⟨(one c).1 :: l, by simp, by simp [h2], ?_⟩
      have h4 := h c (one c).1 _ (pair_of h3) (hok _ (by simp))
      refine h4.trans ?_
      simp
theorem loopT_enc {α : Type} {one : Cur → α × Cur} {enc : α → List UInt8} {ok : α → Prop} (h : ∀ x r, ok x → one (enc x ++ r, false) = (x, (r, false))) : ∀ (l acc : List α) (r : List UInt8), (∀ x ∈ l, ok x) → loopT one l.length (acc, ((l.map enc).flatten ++ r, false)) = (acc ++ l, (r, false))
  | [], acc, r, _ => by simp [loopT]
  | x :: l, acc, r, hok => by
    rw [List.length_cons, loopT_step rfl]
    have h1 := h x ((l.map enc).flatten ++ r) (hok x (by simp))
    simp only [List.map_cons, List.flatten_cons, List.append_assoc] at h1 ⊢
    rw [h1, loopT_enc h l _ r fun y hy => hok y (List.mem_cons_of_mem _ hy)]
    simp
theorem numT_mono {c : Cur} (h : (numT c).2.2 = false) : c.2 = false := by
  have := (numT_good (c := c) (n := (numT c).1) (r := (numT c).2.1) (by rw [← h])).1
  rw [this]
theorem bytT_mono {n : Nat} {c : Cur} (h : (bytT n c).2.2 = false) : c.2 = false := by
  have := (bytT_good (c := c) (n := n) (t := (bytT n c).1) (r := (bytT n c).2.1) (by rw [← h])).1
  rw [this]
theorem textT_mono {c : Cur} (h : (textT c).2.2 = false) : c.2 = false := numT_mono (bytT_mono h)
theorem labT_mono {c : Cur} (h : (labT c).2.2 = false) : c.2 = false := textT_mono (textT_mono h)
theorem loopT_mono {α : Type} {one : Cur → α × Cur} (hm : ∀ c, (one c).2.2 = false → c.2 = false) : ∀ (n : Nat) (x : List α × Cur), (loopT one n x).2.2 = false → x.2.2 = false
  | 0, x, h => h
  | n + 1, x, h => by
    by_cases hb : x.2.2 = true
    · rw [loopT_bad _ _ hb] at h; exact h
    · simpa using hb
theorem labsT_mono {c : Cur} (h : (labsT c).2.2 = false) : c.2 = false := numT_mono (loopT_mono (fun _ => labT_mono) _ _ h)
theorem refT_mono {c : Cur} (h : (refT c).2.2 = false) : c.2 = false := numT_mono (labsT_mono h)
theorem pntT_mono {c : Cur} (h : (pntT c).2.2 = false) : c.2 = false := numT_mono (numT_mono (bytT_mono h))
theorem many_good {α : Type} {one : Cur → α × Cur} {enc : α → List UInt8} {ok : α → Prop} (h : ∀ c x r, one c = (x, (r, false)) → ok x → c = (enc x ++ r, false)) (hm : ∀ c, (one c).2.2 = false → c.2 = false) {c : Cur} {l : List α} {r : List UInt8}
    (e : loopT one (numT c).1 ([], (numT c).2) = (l, (r, false))) (hok : ∀ x ∈ l, ok x) : c = ((numB l.length ++ (l.map enc).flatten) ++ r, false) := by
  obtain ⟨l', h1, h2, h3⟩ := loopT_good h hm _ _ _ _ _ e hok
  simp only [List.nil_append] at h1
  subst h1
  obtain ⟨h4, _⟩ := numT_good (c := c) (n := (numT c).1) (pair_of h3)
  rw [h2, List.append_assoc]
  exact h4
theorem many_enc {α : Type} {one : Cur → α × Cur} {enc : α → List UInt8} {ok : α → Prop} (h : ∀ x r, ok x → one (enc x ++ r, false) = (x, (r, false))) {l : List α} (hl : l.length ≤ 1000) (hok : ∀ x ∈ l, ok x) (r : List UInt8) :
    loopT one (numT ((numB l.length ++ (l.map enc).flatten) ++ r, false)).1 ([], (numT ((numB l.length ++ (l.map enc).flatten) ++ r, false)).2) = (l, (r, false)) := by
  rw [List.append_assoc, numT_enc (by omega)]
  have := loopT_enc h l [] r hok
  simpa using this
theorem refT_good (c : Cur) (x : RefL) (r : List UInt8) (h : refT c = (x, (r, false))) (h0 : refErr x = 0) : c = (refB x ++ r, false) := by
  unfold refT at h
  simp only [Prod.mk.injEq] at h
  obtain ⟨rfl, h2⟩ := h
  have h3 := many_good (one := labT) (enc := labB) (ok := fun _ => True) (fun c x r h _ => labT_good h) (fun _ => labT_mono) (c := (numT c).2) (l := (labsT (numT c).2).1) (r := r) (pair_of h2) (fun _ _ => trivial)
  obtain ⟨h4, _⟩ := numT_good (c := c) (n := (numT c).1) (pair_of h3)
  unfold refB
  simp only [Int.toNat_natCast]
  rw [List.append_assoc]
  exact h4
theorem refT_enc (x : RefL) (r : List UInt8) (h : refErr x = 0) : refT (refB x ++ r, false) = (x, (r, false)) := by
  obtain ⟨⟨h1, h2⟩, h3, hc⟩ := refErr_zero h
  obtain ⟨h20, hs⟩ := check_small hc
  obtain ⟨n, ls⟩ := x
  simp only at h1 h2 h3 h20 hs
  have e : labsT ((numB ls.length ++ labsB ls) ++ r, false) = (ls, (r, false)) := many_enc (one := labT) (enc := labB) (ok := fun y => y.1.length ≤ 1000 ∧ y.2.length ≤ 1000) (fun y r h => labT_enc (by omega) (by omega) r) (by omega) (fun y hy => by have := hs y hy; exact ⟨by omega, by omega⟩) r
  unfold refT refB
  simp only
  rw [List.append_assoc, numT_enc (by omega), e]
  simp only [Prod.mk.injEq, and_true]
  omega
theorem pntT_good (c : Cur) (x : Pnt) (r : List UInt8) (h : pntT c = (x, (r, false))) (h0 : pointErr x = 0) : c = (pointB x ++ r, false) := by
  unfold pntT at h
  simp only [Prod.mk.injEq] at h
  obtain ⟨rfl, h2⟩ := h
  obtain ⟨h3, h8⟩ := bytT_good (n := 8) (c := (numT (numT c).2).2) (t := (bytT 8 (numT (numT c).2).2).1) (r := r) (pair_of h2)
  obtain ⟨h4, _⟩ := numT_good (c := (numT c).2) (n := (numT (numT c).2).1) (pair_of h3)
  obtain ⟨h5, _⟩ := numT_good (c := c) (n := (numT c).1) (pair_of h4)
  unfold pointB
  simp only [Int.toNat_natCast]
  rw [timeN_timeI]
  have := wordR_wordI (bytT 8 (numT (numT c).2).2).1
  rw [h8] at this
  rw [this, List.append_assoc, List.append_assoc]
  exact h5
theorem pntT_enc (x : Pnt) (r : List UInt8) (h : pointErr x = 0) (hb : x.2.2 < 18446744073709551616) : pntT (pointB x ++ r, false) = (x, (r, false)) := by
  obtain ⟨⟨h1, h2⟩, h3, h4⟩ := pointErr_zero' h
  obtain ⟨n, t, b⟩ := x
  simp only at h1 h2 h3 h4 hb
  have ht : timeN t ≤ 4611686018427387904 := by unfold timeN; split <;> omega
  have e8 : bytT 8 (wordR b 8 ++ r, false) = (wordR b 8, (r, false)) := by
    have := bytT_enc (t := wordR b 8) r
    rwa [wordR_length] at this
  unfold pntT pointB
  simp only
  rw [List.append_assoc, List.append_assoc, numT_enc (by omega), numT_enc ht, e8]
  simp only [Prod.mk.injEq, and_true]
  exact ⟨by omega, timeI_timeN, wordI_wordR 8 b (by omega)⟩
theorem bytT_len (n : Nat) (c : Cur) : (bytT n c).1.length ≤ n := by
  unfold bytT
  split
  · simp
  · rw [List.length_take]; omega
theorem loopT_all {α : Type} {one : Cur → α × Cur} {p : α → Prop} (h : ∀ c, p (one c).1) : ∀ (n : Nat) (x : List α × Cur), (∀ y ∈ x.1, p y) → ∀ y ∈ (loopT one n x).1, p y
  | 0, x, hx => hx
  | n + 1, x, hx => by
    by_cases hb : x.2.2 = true
    · rw [loopT_bad _ _ hb]; exact hx
    · rw [loopT_step (by simpa using hb)]
      refine loopT_all h n _ fun y hy => ?_
      rcases List.mem_append.1 hy with hy | hy
      · exact hx y hy
      · rw [List.mem_singleton] at hy; subst hy; exact h _

theorem unpT_eq {s : List UInt8} (hs : s.length ≤ 140737488355328) : unpT s = unpO s := by
  have key : ∀ r, unpT s = some r → unpO s = some r := fun r h => by
    cases s with
    | nil => cases h
    | cons k s =>
      simp only [unpT] at h
      by_cases hc : (bodyT k (s, false)).2 = ([], false) ∧ recErr (bodyT k (s, false)).1 = 0
      · rw [if_pos hc] at h
        obtain ⟨h1, h2⟩ := hc
        simp only [Option.some.injEq] at h
        subst h
        have hp : k :: s = packB (bodyT k (s, false)).1 ∧ ∀ x ∈ (bodyT k (s, false)).1.points, x.2.2 < 18446744073709551616 := by
          obtain ⟨hk, hrl, hpl, hro, hpo⟩ := recErr_zero h2
          unfold bodyT at h1 hk hrl hpl hro hpo ⊢
          by_cases hk1 : k.toNat = 1
          · rw [if_pos hk1] at h1 hro ⊢
            simp only at h1 hro ⊢
            have := many_good (one := refT) (enc := refB) (ok := fun x => refErr x = 0) refT_good (fun _ => refT_mono) (c := (s, false)) (r := []) (pair_of h1) hro
            simp only [Prod.mk.injEq, and_true, List.append_nil] at this
            refine ⟨?_, fun x hx => by simp at hx⟩
            have hc1 : k = UInt8.ofNat 1 := by rw [← hk1, UInt8.ofNat_toNat]
            rw [hc1]
            unfold packB
            simp only [if_true, List.cons.injEq]
            exact ⟨rfl, this⟩
          · rw [if_neg hk1] at h1 hk hpo ⊢
            by_cases hk2 : k.toNat = 2
            · rw [if_pos hk2] at h1 hpo ⊢
              simp only at h1 hpo ⊢
              have := many_good (one := pntT) (enc := pointB) (ok := fun x => pointErr x = 0) pntT_good (fun _ => pntT_mono) (c := (s, false)) (r := []) (pair_of h1) hpo
              simp only [Prod.mk.injEq, and_true, List.append_nil] at this
              refine ⟨?_, loopT_all (one := pntT) (p := fun x => x.2.2 < 18446744073709551616) (fun c => ?_) _ _ (by simp)⟩
              · have hc1 : k = UInt8.ofNat 2 := by rw [← hk2, UInt8.ofNat_toNat]
                rw [hc1]
                unfold packB
                rw [if_neg (show ¬ (2 : Int) = 1 by decide)]
                simp only [List.cons.injEq]
                exact ⟨rfl, this⟩
              · unfold pntT
                simp only
                have h8 := wordI_lt (bytT 8 (numT (numT c).2).2).1
                have h9 := bytT_len 8 (numT (numT c).2).2
                have h10 : 256 ^ (bytT 8 (numT (numT c).2).2).1.length ≤ 256 ^ 8 := Nat.pow_le_pow_right (by omega) h9
                omega
            · rw [if_neg hk2] at hk
              simp only at hk
              omega
        rw [hp.1]
        exact unpO_pack h2 hp.2
      · rw [if_neg hc] at h; cases h
  have back : ∀ r, unpO s = some r → unpT s = some r := fun r h => by
    obtain ⟨hr, hp⟩ := unpO_some h
    have hb : ∀ x ∈ r.points, x.2.2 < 18446744073709551616 := by
      cases s with
      | nil => cases h
      | cons k s =>
        simp only [unpO] at h
        cases hbo : bodyO k s with
        | none => rw [hbo] at h; cases h
        | some x =>
          obtain ⟨r0, q⟩ := x
          rw [hbo] at h
          simp only at h
          simp only [List.length_cons] at hs
          by_cases hc : q = [] ∧ recErr r0 = 0
          · rw [if_pos hc] at h
            cases h
            exact fun x hx => ((bodyO_ok (by omega) hbo).2.2.2.2 x hx).2.2.2.2
          · rw [if_neg hc] at h; cases h
    rw [← hp]
    obtain ⟨hk, hrl, hpl, hro, hpo⟩ := recErr_zero hr
    obtain ⟨kind, rs, ps⟩ := r
    simp only at hk hrl hpl hro hpo hb
    have hr' := hr
    unfold recErr at hr'
    rcases hk with rfl | rfl
    · have hp0 : ps = [] := by
        by_cases hp : 0 < ps.length
        · simp only at hr'
          rw [if_neg (by simp), if_pos (.inl ⟨trivial, hp⟩)] at hr'; cases hr'
        · exact List.length_eq_zero_iff.1 (by omega)
      subst hp0
      have e := many_enc (one := refT) (enc := refB) (ok := fun x => refErr x = 0) refT_enc (l := rs) (by omega) hro []
      rw [List.append_nil] at e
      have e2 : loopT refT (numT (numB rs.length ++ refsB rs, false)).1 ([], (numT (numB rs.length ++ refsB rs, false)).2) = (rs, ([], false)) := e
      have hbt : bodyT (UInt8.ofNat 1) (numB rs.length ++ refsB rs, false) = (⟨1, rs, []⟩, ([], false)) := by
        unfold bodyT
        rw [if_pos (by decide), e2]
      show unpT (UInt8.ofNat 1 :: (numB rs.length ++ refsB rs)) = _
      simp only [unpT]
      rw [hbt, if_pos ⟨rfl, hr⟩]
    · have hp0 : rs = [] := by
        by_cases hp : 0 < rs.length
        · simp only at hr'
          rw [if_neg (by simp), if_pos (.inr ⟨trivial, hp⟩)] at hr'; cases hr'
        · exact List.length_eq_zero_iff.1 (by omega)
      subst hp0
      have e := many_enc (one := pntT) (enc := pointB) (ok := fun x => pointErr x = 0 ∧ x.2.2 < 18446744073709551616) (fun x r h => pntT_enc x r h.1 h.2) (l := ps) (by omega) (fun x hx => ⟨hpo x hx, hb x hx⟩) []
      rw [List.append_nil] at e
      have e2 : loopT pntT (numT (numB ps.length ++ pointsB ps, false)).1 ([], (numT (numB ps.length ++ pointsB ps, false)).2) = (ps, ([], false)) := e
      have hbt : bodyT (UInt8.ofNat 2) (numB ps.length ++ pointsB ps, false) = (⟨2, [], ps⟩, ([], false)) := by
        unfold bodyT
        rw [if_neg (by decide), if_pos (by decide), e2]
      show unpT (UInt8.ofNat 2 :: (numB ps.length ++ pointsB ps)) = _
      simp only [unpT]
      rw [hbt, if_pos ⟨rfl, hr⟩]
  cases h : unpO s with
  | some r => exact back r h
  | none =>
    cases h2 : unpT s with
    | none => rfl
    | some r => rw [key r h2] at h; cases h
end Go.Proofs.Ytnlkfehnmijimaa.Rc
