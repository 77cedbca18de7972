/- 5 texts in one. -/
import Derived.WalkKit
import Derived.Lib.Join
import Derived.Test.YtndpjdmfkhjiiaaGreatDoorKb583056
set_option linter.unusedVariables false
set_option linter.unusedSimpArgs false
namespace Go.Proofs.YtndpjdmfkhjiiaaGreatDoor.Lb
def escC (c : UInt8) : List UInt8 := if c.toNat = 92 ∨ c.toNat = 34 then [92, c] else if c.toNat = 10 then [92, 110] else [c]
def escB (s : List UInt8) : List UInt8 := s.flatMap escC
theorem escC_sign {c : UInt8} (h : c.toNat = 92 ∨ c.toNat = 34) : escC c = [92, c] := by unfold escC; rw [if_pos h]
theorem escC_feed {c : UInt8} (h : c.toNat = 10) : escC c = [92, 110] := by unfold escC; rw [if_neg (by omega), if_pos h]
theorem escC_plain {c : UInt8} (h1 : c.toNat ≠ 92) (h2 : c.toNat ≠ 34) (h3 : c.toNat ≠ 10) : escC c = [c] := by unfold escC; rw [if_neg (by omega), if_neg h3]
theorem escC_len (c : UInt8) : 1 ≤ (escC c).length ∧ (escC c).length ≤ 2 := by unfold escC; split; exact ⟨by simp, by simp⟩; split <;> exact ⟨by simp, by simp⟩
theorem escB_nil : escB [] = [] := rfl
theorem escB_cons (c : UInt8) (s : List UInt8) : escB (c :: s) = escC c ++ escB s := rfl
theorem escB_append (a b : List UInt8) : escB (a ++ b) = escB a ++ escB b := List.flatMap_append
theorem escB_le (s : List UInt8) : (escB s).length ≤ 2 * s.length := by
 induction s with
 | nil => simp [escB]
 | cons c s ih => rw [escB_cons, List.length_append, List.length_cons]; have := escC_len c; omega
theorem escB_take (s : List UInt8) (k : Nat) (h : k < s.length) : escB (s.take (k + 1)) = escB (s.take k) ++ escC s[k] := by
 rw [List.take_succ_eq_append_getElem h, escB_append, escB_cons, escB_nil, List.append_nil]
/-! ### lengths -/
theorem join_len (L : List (List UInt8)) (sep : List UInt8) : (Lib.join L sep).length ≤ Lib.lens L + sep.length * L.length := by
 cases L with
 | nil => simp [Lib.join_nil]
 | cons x r =>
  rw [Lib.join_cons, List.length_append, Lib.joinTail_length]
  have e : Lib.lens (x :: r) = x.length + Lib.lens r := by simp [Lib.lens]
  have e2 : sep.length * (x :: r).length = sep.length * r.length + sep.length := by rw [List.length_cons, Nat.mul_succ]
  omega
theorem lens_le (L : List (List UInt8)) (m : Nat) (h : ∀ s ∈ L, s.length ≤ m) : Lib.lens L ≤ m * L.length := by
 induction L with
 | nil => simp [Lib.lens]
 | cons x r ih =>
  have e : Lib.lens (x :: r) = x.length + Lib.lens r := by simp [Lib.lens]
  have h1 := h x (by simp)
  have h2 := ih fun s hs => h s (by simp [hs])
  rw [e, List.length_cons, Nat.mul_succ]
  omega
theorem checkB_put {l : List Lab} {n v : List UInt8} (h : checkB l = 0) (hn : nameB n = true) (hv : v.length ≤ 100) (hl : (putB l n v).length ≤ 20) : checkB (putB l n v) = 0 := by
 obtain ⟨he, hr⟩ := checkB_zero.1 h
 refine checkB_zero.2 ⟨eachErr_zero.2 ⟨hl, fun x hx => ?_⟩, rise_iff.1 (putB_rise (rise_iff.2 hr) n v)⟩
 rcases (putB_mem l n v x).1 hx with ⟨hm, _⟩ | ⟨hne, rfl⟩
 ·
  exact (eachErr_zero.1 he).2 x hm
 ·
  refine ⟨hn, ?_, hv⟩
  have : v.length ≠ 0 := fun e => hne (List.eq_nil_of_length_eq_zero e)
  show 1 ≤ v.length
  omega
theorem value_same {l : List Lab} {n v : List UInt8} (h : checkB l = 0) : valueB (putB l n v) n = v := by
 have hr := putB_rise (rise_iff.2 (checkB_zero.1 h).2) n v
 by_cases hv : v = []
 ·
  subst hv
  refine valueB_not fun x hx => ?_
  rcases (putB_mem l n [] x).1 hx with ⟨_, h2⟩ | ⟨hne, _⟩
  ·
   exact h2
  ·
   exact absurd rfl hne
 ·
  exact valueB_mem hr ((putB_mem l n v (n, v)).2 (.inr ⟨hv, rfl⟩))
theorem getErr_zero {l : List Lab} {n : List UInt8} : getErr l n = 0 ↔ checkB l = 0 ∧ nameB n = true := by
 unfold getErr
 by_cases h : checkB l = 0
 ·
  rw [if_pos h]
  by_cases h2 : nameB n = true
  ·
   rw [if_pos h2]; simp [h, h2]
  ·
   rw [if_neg h2]; simp [h2]
 ·
  rw [if_neg h]; simp [h]
theorem withErr_zero {l : List Lab} {n v : List UInt8} : withErr l n v = 0 ↔ getErr l n = 0 ∧ v.length ≤ 100 ∧ (putB l n v).length ≤ 20 := by
 unfold withErr
 by_cases h : getErr l n = 0
 ·
  rw [if_pos h]
  by_cases h2 : v.length ≤ 100
  ·
   rw [if_pos h2]
   by_cases h3 : (putB l n v).length ≤ 20
   ·
    rw [if_pos h3]; simp [h, h2, h3]
   ·
    rw [if_neg h3]; simp [h3]
  ·
   rw [if_neg h2]; simp [h2]
 ·
  rw [if_neg h]; simp [h]
theorem back_put {l : List Lab} {n v : List UInt8} (h : withErr l n v = 0) : checkB l = 0 ∧ checkB (putB l n v) = 0 ∧ getErr (putB l n v) n = 0 ∧ valueB (putB l n v) n = v := by
 obtain ⟨h1, h2, h3⟩ := withErr_zero.1 h
 obtain ⟨h4, h5⟩ := getErr_zero.1 h1
 have h6 := checkB_put h4 h5 h2 h3
 exact ⟨h4, h6, getErr_zero.2 ⟨h6, h5⟩, value_same h4⟩
theorem xor_step (x y : Nat) : x ^^^ y = 2 * ((x / 2) ^^^ (y / 2)) + (if x % 2 = y % 2 then 0 else 1) := by
 have h1 : (x ^^^ y) / 2 = x / 2 ^^^ y / 2 := Nat.xor_div_two
 have h2 : (x ^^^ y) % 2 = (x % 2 + y % 2) % 2 := by
  have := Nat.xor_mod_two_pow (a := x) (b := y) (n := 1)
  simp only [Nat.reducePow] at this
  rw [this]
  rcases Nat.mod_two_eq_zero_or_one x with h | h <;> rcases Nat.mod_two_eq_zero_or_one y with k | k <;> rw [h, k] <;> decide
 rw [← h1]
 split <;> omega
def gd (h i : Nat) : Nat := h / 65536 ^ i % 65536
theorem gd_lt (h i : Nat) : gd h i < 65536 := Nat.mod_lt _ (by decide)
def sd (g i : Nat) : Nat := if i = 2 then gd g 0 % 256 * 256 else if i = 3 then gd g 0 / 256 + gd g 1 % 256 * 256 else 0
theorem sd_lt (g i : Nat) : sd g i < 65536 := by
 have h0 := gd_lt g 0
 have h1 := gd_lt g 1
 unfold sd
 split
 ·
  omega
 ·
  split <;> omega
def car (g : Nat) : Nat → Nat
 | 0 => 0
 | k + 1 => (car g k + (gd g k * 435 + sd g k)) / 65536
def res (g k : Nat) : Nat := (car g k + (gd g k * 435 + sd g k)) % 65536
theorem car_le (g : Nat) : ∀ k, car g k ≤ 500
 | 0 => by simp [car]
 | k + 1 => by
  have h1 := car_le g k
  have h2 := gd_lt g k
  have h3 := sd_lt g k
  rw [car]; omega
theorem gd_parts (g : Nat) (hg : g < 18446744073709551616) : g = gd g 0 + 65536 * gd g 1 + 4294967296 * gd g 2 + 281474976710656 * gd g 3 := by
 simp only [gd, Nat.reducePow]
 omega
theorem gd_of (a b c d : Nat) (ha : a < 65536) (hb : b < 65536) (hc : c < 65536) (hd : d < 65536) (n : Nat) (hn : n = a + 65536 * b + 4294967296 * c + 281474976710656 * d) : gd n 0 = a ∧ gd n 1 = b ∧ gd n 2 = c ∧ gd n 3 = d := by
 simp only [gd, Nat.reducePow]
 subst hn
 refine ⟨?_, ?_, ?_, ?_⟩ <;> omega
theorem res_lt (g k : Nat) : res g k < 65536 := Nat.mod_lt _ (by decide)
theorem times_digits (g0 g1 g2 g3 q1 q2 q3 q4 r0 r1 r2 r3 : Nat) (h0 : r0 + 65536 * q1 = g0 * 435) (h1 : r1 + 65536 * q2 = q1 + g1 * 435) (h2 : r2 + 65536 * q3 = q2 + (g2 * 435 + g0 % 256 * 256))
  (h3 : r3 + 65536 * q4 = q3 + (g3 * 435 + (g0 / 256 + g1 % 256 * 256))) (k0 : r0 < 65536) (k1 : r1 < 65536) (k2 : r2 < 65536) (k3 : r3 < 65536) :
  (g0 + 65536 * g1 + 4294967296 * g2 + 281474976710656 * g3) * 1099511628211 % 18446744073709551616 = r0 + 65536 * r1 + 4294967296 * r2 + 281474976710656 * r3 := by
 have e : (g0 + 65536 * g1 + 4294967296 * g2 + 281474976710656 * g3) * 1099511628211 = (r0 + 65536 * r1 + 4294967296 * r2 + 281474976710656 * r3) + 18446744073709551616 * (q4 + g1 / 256 + 256 * 65536 * 0 + g2 * 256 + g3 * 16777216) := by omega
 rw [e]; omega
theorem times_res (g : Nat) (hg : g < 18446744073709551616) (j : Nat) (hj : j < 4) : res g j = gd (g * 1099511628211 % 18446744073709551616) j := by
 have hp := gd_parts g hg
 have ht := times_digits (gd g 0) (gd g 1) (gd g 2) (gd g 3) (car g 1) (car g 2) (car g 3) (car g 4) (res g 0) (res g 1) (res g 2) (res g 3)
  (by simp only [res, car, sd]; simp; omega) (by simp only [res, car, sd]; simp; omega) (by simp only [res, car, sd]; simp; omega) (by simp only [res, car, sd]; simp; omega) (res_lt _ _) (res_lt _ _) (res_lt _ _) (res_lt _ _)
 rw [← hp] at ht
 have hd := gd_of _ _ _ _ (res_lt g 0) (res_lt g 1) (res_lt g 2) (res_lt g 3) _ ht
 match j, hj with
 | 0, _ => exact hd.1.symm
 | 1, _ => exact hd.2.1.symm
 | 2, _ => exact hd.2.2.1.symm
 | 3, _ => exact hd.2.2.2.symm
theorem xor_low (h c : Nat) (hc : c < 256) : gd (h ^^^ c) 0 = gd h 0 / 256 * 256 + (gd h 0 % 256 ^^^ c) ∧ gd (h ^^^ c) 1 = gd h 1 ∧ gd (h ^^^ c) 2 = gd h 2 ∧ gd (h ^^^ c) 3 = gd h 3 := by
 have e1 : (h ^^^ c) / 256 = h / 256 := by
  have := Nat.xor_div_two_pow (a := h) (b := c) (n := 8)
  simp only [Nat.reducePow] at this
  rw [this, show c / 256 = 0 by omega, Nat.xor_zero]
 have e2 : (h ^^^ c) % 256 = (h % 256) ^^^ c := by
  have := Nat.xor_mod_two_pow (a := h) (b := c) (n := 8)
  simp only [Nat.reducePow] at this
  rw [this, Nat.mod_eq_of_lt hc]
 have e3 : gd h 0 % 256 = h % 256 := by simp only [gd, Nat.reducePow]; omega
 rw [e3, ← e2]
 simp only [gd, Nat.reducePow]
 refine ⟨?_, ?_, ?_, ?_⟩ <;> omega
end Go.Proofs.YtndpjdmfkhjiiaaGreatDoor.Lb
namespace Go.Proofs.YtndpjdmfkhjiiaaGreatDoor
theorem eBr {m i e} (h : pBr m i = some (.error e)) : e.1 ≠ 0 := by
 unfold pBr at h
 split at h
 ·
  cases h; simp
 ·
  split at h
  ·
   cases h; simp
  ·
   cases h
theorem eSpan {m i e} (h : pSpan m i = some (.error e)) : e.1 ≠ 0 := by
 unfold pSpan at h
 rcases bindO_eq h with ⟨e', h1, h2⟩ | ⟨a, ha, h⟩
 ·
  cases h2; exact eBr h1
 ·
  split at h
  ·
   rcases bindO_eq h with ⟨e', h1, h2⟩ | ⟨b, hb, h⟩
   ·
    cases h2; exact eBr h1
   ·
    split at h
    ·
     cases h; simp
    ·
     cases h
  ·
   cases h
theorem eSpans {m} : ∀ {f s i e}, pSpans m f s i = some (.error e) → e.1 ≠ 0 := by
 intro f
 induction f with
 | zero => intro s i e h; cases h
 | succ f ih =>
  intro s i e h
  rw [pSpans] at h
  split at h
  ·
   cases h
  ·
   rcases bindO_eq h with ⟨e', h1, h2⟩ | ⟨y, hy, h⟩
   ·
    cases h2; exact eSpan h1
   ·
    exact ih h
theorem eSet {m i c e} (h : pSet m i c = some (.error e)) : e.1 ≠ 0 := by
 unfold pSet at h
 split at h
 ·
  unfold pBrackets at h
  rcases bindO_eq h with ⟨e', h1, h2⟩ | ⟨y, hy, h⟩
  ·
   cases h2; exact eSpan h1
  ·
   rcases bindO_eq h with ⟨e', h1, h2⟩ | ⟨z, hz, h⟩
   ·
    cases h2; exact eSpans h1
   ·
    cases h
 ·
  split at h
  ·
   cases h
  ·
   split at h
   ·
    split at h
    ·
     cases h; simp
    ·
     split at h
     ·
      cases h; simp
     ·
      cases h
   ·
    split at h
    ·
     cases h; simp
    ·
     cases h
theorem eSign {m n i e} (h : pSign m n i = some (.error e)) : e = (4, i) ∧ n = true := by
 unfold pSign at h
 split at h
 ·
  split at h
  ·
   split at h
   ·
    rename_i hh
    cases h
    simp at hh
    exact ⟨rfl, hh.1⟩
   ·
    cases h
  ·
   cases h
 ·
  cases h
theorem eM {m} : ∀ {f rows i g e}, pM m f rows i g = some (.error e) → e.1 ≠ 0 := by
 intro f
 induction f with
 | zero => intro rows i g e h; cases h
 | succ f ih =>
  intro rows i g e h
  cases rows with
  | true =>
   rw [pM] at h
   rcases bindO_eq h with ⟨e', h1, h2⟩ | ⟨y, hy, h⟩
   ·
    cases h2; exact ih h1
   ·
    split at h
    ·
     rcases bindO_eq h with ⟨e', h1, h2⟩ | ⟨z, hz, h⟩
     ·
      cases h2; exact ih h1
     ·
      cases h
    ·
     cases h
  | false =>
   rw [pM] at h
   split at h
   ·
    cases h
   ·
    split at h
    ·
     cases h
    ·
     split at h
     ·
      split at h
      ·
       cases h; simp
      ·
       rcases bindO_eq h with ⟨e', h1, h2⟩ | ⟨y, hy, h⟩
       ·
        cases h2; exact ih h1
       ·
        split at h
        ·
         rcases bindO_eq h with ⟨e', h1, h2⟩ | ⟨z, hz, h⟩
         ·
          cases h2; rw [(eSign h1).1]; simp
         ·
          rcases bindO_eq h with ⟨e', h1, h2⟩ | ⟨u, hu, h⟩
          ·
           cases h2; exact ih h1
          ·
           cases h
        ·
         cases h; simp
     ·
      rcases bindO_eq h with ⟨e', h1, h2⟩ | ⟨y, hy, h⟩
      ·
       cases h2; exact eSet h1
      ·
       rcases bindO_eq h with ⟨e', h1, h2⟩ | ⟨z, hz, h⟩
       ·
        cases h2; rw [(eSign h1).1]; simp
       ·
        rcases bindO_eq h with ⟨e', h1, h2⟩ | ⟨u, hu, h⟩
        ·
         cases h2; exact ih h1
        ·
         cases h
def layPiece (sg : Nat) (once : Nat → Nat → List Kind × Nat) (b nx : Nat) : List Kind × Nat :=
 if sg = 63 then ((once b nx).1 ++ [.fork [(once b nx).2, nx]], b + (once b nx).1.length)
 else if sg = 42 then (.fork [(once (b + 1) b).2, nx] :: (once (b + 1) b).1, b)
 else if sg = 43 then (.fork [(once (b + 1) b).2, nx] :: (once (b + 1) b).1, (once (b + 1) b).2)
 else once b nx
def layGroup (n : Nat) (f : Nat → Nat → List Kind × Nat) (b nx : Nat) : List Kind × Nat :=
 (.mark (2 * n + 1) nx :: ((f (b + 1) b).1 ++ [.mark (2 * n) (f (b + 1) b).2]), b + 1 + (f (b + 1) b).1.length)
def layK : Tr → Nat → Nat → List Kind × Nat
 | .nil, _, nx => ([], nx)
 | .set s sg rest, b, nx =>
  let x := layK rest b nx
  let y := layPiece sg (fun b nx => ([.take s nx], b)) (b + x.1.length) x.2
  (x.1 ++ y.1, y.2)
 | .grp n rows sg rest, b, nx =>
  let x := layK rest b nx
  let y := layPiece sg (layGroup n (layK rows)) (b + x.1.length) x.2
  (x.1 ++ y.1, y.2)
 | .row r .nil, b, nx => layK r b nx
 | .row r rest, b, nx =>
  let x := layK rest b nx
  let y := layK r (b + x.1.length) nx
  (x.1 ++ (y.1 ++ [.fork [y.2, x.2]]), b + x.1.length + y.1.length)
theorem layK_row {r rest : Tr} (h : wf true rest) (b nx : Nat) : layK (.row r rest) b nx =
  ((layK rest b nx).1 ++ ((layK r (b + (layK rest b nx).1.length) nx).1 ++ [.fork [(layK r (b + (layK rest b nx).1.length) nx).2, (layK rest b nx).2]]), b + (layK rest b nx).1.length + (layK r (b + (layK rest b nx).1.length) nx).1.length) := by
 cases rest with
 | nil => exact h.elim
 | set s sg rest => rfl
 | grp n rows sg rest => rfl
 | row a c => rfl
def GatK (b : Nat) (L : List Kind) (n : Nat) (k : Kind) : Prop := ∃ i, L[i]? = some k ∧ n = b + i
theorem GatK.left {b L L' n k} (h : GatK b L n k) : GatK b (L ++ L') n k := by
 obtain ⟨i, h, rfl⟩ := h
 exact ⟨i, by rw [List.getElem?_append_left (List.getElem?_eq_some_iff.1 h).1]; exact h, rfl⟩
theorem GatK.right {b L L' n k c} (hc : c = b + L.length) (h : GatK c L' n k) : GatK b (L ++ L') n k := by
 obtain ⟨i, h, rfl⟩ := h
 exact ⟨L.length + i, by rw [List.getElem?_append_right (by omega)]; simpa using h, by omega⟩
theorem GatK.head {b k L n} (hn : n = b) : GatK b (k :: L) n k := ⟨0, rfl, by omega⟩
theorem GatK.tail {b k' L n k c} (hc : c = b + 1) (h : GatK c L n k) : GatK b (k' :: L) n k := GatK.right (L := [k']) (by simp [hc]) h
def LaysK (f : Nat → Nat → List Kind × Nat) (r : Re) : Prop := ∀ b nx, Code (GatK b (f b nx).1) [(f b nx).2] nx r
theorem laysK_piece {sg : Nat} {once : Nat → Nat → List Kind × Nat} {r : Re} (h : LaysK once r) : LaysK (layPiece sg once) (signed sg r) := by
 intro b nx
 unfold layPiece signed
 by_cases h63 : sg = 63
 ·
  subst h63
  simp only [if_true, show ¬ (63 : Nat) = 42 by decide, show ¬ (63 : Nat) = 43 by decide, if_false]
  exact .jump (ws := [(once b nx).2, nx]) (.right rfl (.head rfl)) (.alt ((h b nx).mono fun n k g => g.left) .here)
 ·
  by_cases h42 : sg = 42
  ·
   subst h42
   simp only [if_true, if_false, show ¬ (42 : Nat) = 63 by decide]
   exact .star (e := b) (c := (once (b + 1) b).2) (.head rfl) ((h (b + 1) b).mono fun n k g => g.tail rfl) (.head rfl)
  ·
   by_cases h43 : sg = 43
   ·
    subst h43
    simp only [if_true, if_false, show ¬ (43 : Nat) = 63 by decide, show ¬ (43 : Nat) = 42 by decide]
    exact .plus (e := b) ((h (b + 1) b).mono fun n k g => g.tail rfl) (.head rfl)
   ·
    simp only [if_neg h63, if_neg h42, if_neg h43]
    exact h b nx
theorem laysK_set (s : UInt8 → Bool) : LaysK (fun b nx => ([.take s nx], b)) (.set s) := fun b nx => .set (.head rfl)
theorem laysK_group {n : Nat} {f : Nat → Nat → List Kind × Nat} {r : Re} (h : LaysK f r) : LaysK (layGroup n f) (grpRe n r) := by
 intro b nx
 refine .seq (k := (f (b + 1) b).2) (.mk (.tail rfl (.right rfl (.head rfl)))) (.seq (k := b) ?_ (.mk (.head rfl)))
 exact (h (b + 1) b).mono fun n k g => .tail rfl g.left
theorem layK_code : ∀ T, (wf false T → LaysK (layK T) (re T)) ∧ (wf true T → LaysK (layK T) (re T)) := by
 intro T
 induction T with
 | nil => exact ⟨fun _ b nx => .here, fun h => h.elim⟩
 | set s sg rest ih =>
  refine ⟨fun h b nx => ?_, fun h => by cases h⟩
  refine .seq (k := (layK rest b nx).2) ?_ ((ih.1 h b nx).mono fun n k g => .left g)
  exact (laysK_piece (laysK_set s) (b + (layK rest b nx).1.length) (layK rest b nx).2).mono fun n k g => .right rfl g
 | grp n rows sg rest ih1 ih2 =>
  refine ⟨fun h b nx => ?_, fun h => by cases h⟩
  refine .seq (k := (layK rest b nx).2) ?_ ((ih2.1 h.2 b nx).mono fun n k g => .left g)
  exact (laysK_piece (laysK_group (ih1.2 h.1)) (b + (layK rest b nx).1.length) (layK rest b nx).2).mono fun n k g => .right rfl g
 | row r rest ih1 ih2 =>
  refine ⟨fun h => h.elim, fun h b nx => ?_⟩
  have hr : wf false r := by
   cases rest with
   | nil => exact h
   | set s sg rest => exact h.1
   | grp n rows sg rest => exact h.1
   | row a b => exact h.1
  by_cases hn : wf true rest
  ·
   rw [re_row hn, layK_row hn]
   refine .jump (ws := [(layK r (b + (layK rest b nx).1.length) nx).2, (layK rest b nx).2]) (.right rfl (.right rfl (.head rfl))) (.alt ?_ ?_)
   ·
    exact (ih1.1 hr (b + (layK rest b nx).1.length) nx).mono fun n k g => .right rfl g.left
   ·
    exact (ih2.2 hn b nx).mono fun n k g => .left g
  ·
   have : rest = .nil := by
    cases rest with
    | nil => rfl
    | set s sg rest => exact (hn h.2).elim
    | grp n rows sg rest => exact (hn h.2).elim
    | row a b => exact (hn h.2).elim
   subst this
   exact ih1.1 hr b nx
def spots (L : List Kind) (n : Nat) : Kind := match L[n]? with | some k => k | none => .fin
def gra (T : Tr) : List Kind := .fin :: (layK T 1 0).1
def graAt (T : Tr) : Nat := (layK T 1 0).2
theorem gra_answers {T : Tr} (h : wf true T) {t : List UInt8} {f x} (hr : run t f [re T] 0 = some x) : ∃ f', den (spots (gra T)) t f' (graAt T) 0 = some x := by
 refine Code.answers (G := GatK 0 (gra T)) (fun n k g => ?_) (((layK_code T).2 h 1 0).mono fun n k g => GatK.tail rfl g) rfl hr
 obtain ⟨i, hi, rfl⟩ := g
 simp [spots, hi]
/-! ### no spot leads out of them -/
def kOk (g top : Nat) : Kind → Prop
 | .fin => True
 | .take _ n => n < top
 | .mark sl n => sl < 2 * g ∧ n < top
 | .fork ws => ∃ a b, ws = [a, b] ∧ a < top ∧ b < top
theorem kOk.le {g top top' : Nat} (h : top ≤ top') : ∀ {k}, kOk g top k → kOk g top' k
 | .fin, _ => trivial
 | .take _ _, hk => by simp only [kOk] at *; omega
 | .mark _ _, hk => by simp only [kOk] at *; omega
 | .fork _, ⟨a, b, e, h1, h2⟩ => ⟨a, b, e, by omega, by omega⟩
def OkK (g : Nat) (f : Nat → Nat → List Kind × Nat) (room : Nat) : Prop := ∀ b nx, nx < b → (∀ k ∈ (f b nx).1, kOk g (b + (f b nx).1.length) k) ∧ (f b nx).2 < b + (f b nx).1.length ∧ (f b nx).1.length ≤ room
theorem okK_piece {g sg room : Nat} {once : Nat → Nat → List Kind × Nat} (h : OkK g once room) : OkK g (layPiece sg once) (room + 1) := by
 intro b nx hnx
 unfold layPiece
 split
 ·
  obtain ⟨h1, h2, h3⟩ := h b nx hnx
  refine ⟨fun k hk => ?_, by simp, by simp; omega⟩
  simp only [List.length_append, List.length_cons, List.length_nil]
  rw [List.mem_append] at hk
  rcases hk with hk | hk
  ·
   exact (h1 k hk).le (by omega)
  ·
   simp at hk; subst hk; exact ⟨_, _, rfl, by omega, by omega⟩
 ·
  obtain ⟨h1, h2, h3⟩ := h (b + 1) b (by omega)
  split
  ·
   refine ⟨fun k hk => ?_, by simp, by simp; omega⟩
   simp only [List.length_cons]
   rw [List.mem_cons] at hk
   rcases hk with rfl | hk
   ·
    exact ⟨_, _, rfl, by omega, by omega⟩
   ·
    exact (h1 k hk).le (by omega)
  ·
   split
   ·
    refine ⟨fun k hk => ?_, by simp; omega, by simp; omega⟩
    simp only [List.length_cons]
    rw [List.mem_cons] at hk
    rcases hk with rfl | hk
    ·
     exact ⟨_, _, rfl, by omega, by omega⟩
    ·
     exact (h1 k hk).le (by omega)
   ·
    obtain ⟨h1, h2, h3⟩ := h b nx hnx
    exact ⟨h1, h2, by omega⟩
theorem okK_group {g n room : Nat} {f : Nat → Nat → List Kind × Nat} (h : OkK g f room) (hn : n < g) : OkK g (layGroup n f) (room + 2) := by
 intro b nx hnx
 unfold layGroup
 obtain ⟨h1, h2, h3⟩ := h (b + 1) b (by omega)
 refine ⟨fun k hk => ?_, by simp; omega, by simp; omega⟩
 simp only [List.length_cons, List.length_append, List.length_nil]
 simp only [List.mem_cons, List.mem_append, List.mem_nil_iff, or_false] at hk
 rcases hk with rfl | hk | rfl
 ·
  exact ⟨by omega, by omega⟩
 ·
  exact (h1 k hk).le (by omega)
 ·
  exact ⟨by omega, by omega⟩
def szK : Tr → Nat
 | .nil => 0
 | .set _ _ rest => 2 + szK rest
 | .grp _ rows _ rest => 3 + szK rows + szK rest
 | .row r rest => szK r + 1 + szK rest
theorem layK_ok {g : Nat} : ∀ T, within 0 g T → ∀ b nx, nx < b → (∀ k ∈ (layK T b nx).1, kOk g (b + (layK T b nx).1.length) k) ∧ (layK T b nx).2 < b + (layK T b nx).1.length ∧ (layK T b nx).1.length ≤ szK T := by
 intro T
 induction T with
 | nil => intro _ b nx h; exact ⟨by simp [layK], by simpa [layK] using h, by simp [layK]⟩
 | set s sg rest ih =>
  intro hw b nx hnx
  obtain ⟨h1, h2, h3⟩ := ih hw b nx hnx
  obtain ⟨k1, k2, k3⟩ := okK_piece (sg := sg) (g := g) (room := 1) (once := fun b nx => ([.take s nx], b)) (fun b nx h => ⟨fun k hk => by simp at hk; subst hk; simp [kOk]; omega, by simp, by simp⟩) (b + (layK rest b nx).1.length) (layK rest b nx).2 h2
  simp only [layK, szK, List.length_append]
  refine ⟨fun k hk => ?_, by omega, by omega⟩
  rw [List.mem_append] at hk
  rcases hk with hk | hk
  ·
   exact (h1 k hk).le (by omega)
  ·
   exact (k1 k hk).le (by omega)
 | grp n rows sg rest ih1 ih2 =>
  intro hw b nx hnx
  have hn : n < g := hw.2.1
  obtain ⟨h1, h2, h3⟩ := ih2 hw.2.2.2 b nx hnx
  obtain ⟨k1, k2, k3⟩ := okK_piece (sg := sg) (okK_group (n := n) (ih1 hw.2.2.1) hn) (b + (layK rest b nx).1.length) (layK rest b nx).2 h2
  simp only [layK, szK, List.length_append]
  refine ⟨fun k hk => ?_, by omega, by omega⟩
  rw [List.mem_append] at hk
  rcases hk with hk | hk
  ·
   exact (h1 k hk).le (by omega)
  ·
   exact (k1 k hk).le (by omega)
 | row r rest ih1 ih2 =>
  intro hw b nx hnx
  by_cases hr : rest = .nil
  ·
   subst hr
   obtain ⟨h1, h2, h3⟩ := ih1 hw.1 b nx hnx
   simp only [layK, szK]
   exact ⟨h1, h2, by omega⟩
  ·
   obtain ⟨h1, h2, h3⟩ := ih2 hw.2 b nx hnx
   obtain ⟨k1, k2, k3⟩ := ih1 hw.1 (b + (layK rest b nx).1.length) nx (by omega)
   have e : layK (.row r rest) b nx = ((layK rest b nx).1 ++ ((layK r (b + (layK rest b nx).1.length) nx).1 ++ [.fork [(layK r (b + (layK rest b nx).1.length) nx).2, (layK rest b nx).2]]), b + (layK rest b nx).1.length + (layK r (b + (layK rest b nx).1.length) nx).1.length) := by
    cases rest with
    | nil => exact absurd rfl hr
    | set s sg rest => rfl
    | grp n rows sg rest => rfl
    | row a c => rfl
   rw [e]
   simp only [szK, List.length_append, List.length_cons, List.length_nil]
   refine ⟨fun k hk => ?_, by omega, by omega⟩
   simp only [List.mem_append, List.mem_cons, List.mem_nil_iff, or_false] at hk
   rcases hk with hk | hk | rfl
   ·
    exact (h1 k hk).le (by omega)
   ·
    exact (k1 k hk).le (by omega)
   ·
    exact ⟨_, _, rfl, by omega, by omega⟩
theorem gra_ok {g : Nat} {T : Tr} (h : within 0 g T) : (∀ k ∈ gra T, kOk g (gra T).length k) ∧ graAt T < (gra T).length ∧ (gra T).length ≤ szK T + 1 := by
 obtain ⟨h1, h2, h3⟩ := layK_ok T h 1 0 (by omega)
 refine ⟨fun k hk => ?_, by simp [gra, graAt]; omega, by simp [gra]; omega⟩
 simp only [gra, List.mem_cons] at hk
 rcases hk with rfl | hk
 ·
  trivial
 ·
  exact (h1 k hk).le (by simp [gra]; omega)
theorem szK_sz : ∀ T, szK T ≤ sz T
 | .nil => Nat.le_refl _
 | .set s sg rest => by have := szK_sz rest; simp [szK, sz]; omega
 | .grp n rows sg rest => by have := szK_sz rest; have := szK_sz rows; simp [szK, sz]; omega
 | .row r rest => by have := szK_sz rest; have := szK_sz r; simp [szK, sz]; omega
end Go.Proofs.YtndpjdmfkhjiiaaGreatDoor
