/- record: what is packed is unpacked, and nothing else. -/
import Derived.Test.YtnlkfehnmijimaaProg
import Derived.Test.YtnlkfehnmijimaaKit
import Derived.Test.YtnlkfehnmijimaaSpec
import Derived.Test.YtnlkfehnmijimaaSpec2
import Derived.Test.YtnlkfehnmijimaaLSpec
import Derived.Test.YtnlkfehnmijimaaRcA
import Derived.Test.YtnlkfehnmijimaaRcX
import Derived.Test.YtnlkfehnmijimaaRcE
import Derived.Test.YtnlkfehnmijimaaRcM
import Derived.Test.YtnlkfehnmijimaaRcT
import Derived.Test.YtnlkfehnmijimaaRcU
import Derived.Test.YtnlkfehnmijimaaRcV
import Derived.Test.YtnlkfehnmijimaaRcY
import Derived.Test.YtnlkfehnmijimaaRfA
import Derived.Test.YtnlkfehnmijimaaRfB
import Derived.Test.YtnlkfehnmijimaaRfD
import Derived.Test.YtnlkfehnmijimaaRfE
import Derived.Test.YtnlkfehnmijimaaRfG
import Derived.Test.YtnlkfehnmijimaaRfH
import Derived.Test.YtnlkfehnmijimaaRfM
set_option linter.unusedVariables false
set_option linter.unusedSimpArgs false
namespace Go.Proofs.Ytnlkfehnmijimaa.Rc
open Go.RowKit Lb

theorem cutN_enc {n : Nat} (h : n < 18446744073709551616) (s : List UInt8) : cutN (numB n ++ s) = some (n, s) := by
  unfold cutN
  rw [numB_read n h s]
  simp only
  rw [List.take_left, if_pos ⟨trivial, rfl⟩, List.drop_left]
theorem cutN_dec {s r : List UInt8} {n : Nat} (h : cutN s = some (n, r)) : s = numB n ++ r := by
  unfold cutN at h
  by_cases hc : (readNum s).2.2 = 0 ∧ s.take (readNum s).2.1 = numB (readNum s).1
  · rw [if_pos hc] at h
    cases h
    rw [← hc.2, List.take_append_drop]
  · rw [if_neg hc] at h; cases h
theorem cutT_enc {t : List UInt8} (h : t.length < 18446744073709551616) (s : List UInt8) : cutT (textB t ++ s) = some (t, s) := by
  unfold cutT textB
  rw [List.append_assoc, cutN_enc h]
  simp only
  rw [if_pos (by rw [List.length_append]; omega), List.take_left, List.drop_left]
theorem cutT_dec {s t r : List UInt8} (h : cutT s = some (t, r)) : s = textB t ++ r := by
  unfold cutT at h
  cases hc : cutN s with
  | none => rw [hc] at h; cases h
  | some x =>
    obtain ⟨n, q⟩ := x
    rw [hc] at h
    simp only at h
    by_cases hl : n ≤ q.length
    · rw [if_pos hl] at h
      cases h
      rw [cutN_dec hc]
      unfold textB
      rw [List.length_take, Nat.min_eq_left hl, List.append_assoc, List.take_append_drop]
    · rw [if_neg hl] at h; cases h
theorem mapO_some' {α β : Type} {f : α → β} {o : Option (α × List UInt8)} {x : α} {r : List UInt8} (h : o = some (x, r)) : mapO f o = some (f x, r) := by rw [h]; rfl
theorem bindO_some' {α β : Type} {o : Option (α × List UInt8)} {f : α → List UInt8 → Option (β × List UInt8)} {x : α} {r : List UInt8} (h : o = some (x, r)) : bindO o f = f x r := by rw [h]; rfl
theorem cutL_enc {y : Lab} (h1 : y.1.length < 18446744073709551616) (h2 : y.2.length < 18446744073709551616) (s : List UInt8) : cutL (labB y ++ s) = some (y, s) := by
  unfold cutL labB
  rw [List.append_assoc, bindO_some' (cutT_enc h1 _), mapO_some' (cutT_enc h2 _)]
theorem cutL_dec {s r : List UInt8} {y : Lab} (h : cutL s = some (y, r)) : s = labB y ++ r := by
  unfold cutL at h
  obtain ⟨n, s1, h1, h⟩ := bindO_some h
  obtain ⟨v, hv, rfl⟩ := mapO_some h
  rw [cutT_dec h1, cutT_dec hv]
  unfold labB
  rw [List.append_assoc]

/-! ### many -/
theorem runN_enc {α : Type} {cut : List UInt8 → Option (α × List UInt8)} {enc : α → List UInt8} {ok : α → Prop} (h : ∀ x s, ok x → cut (enc x ++ s) = some (x, s)) : ∀ (l acc : List α) (s : List UInt8), (∀ x ∈ l, ok x) →
    runN (fun st : List α × List UInt8 => mapO (fun x => st.1 ++ [x]) (cut st.2)) l.length (acc, (l.map enc).flatten ++ s) = some (acc ++ l, s)
  | [], acc, s, _ => by simp [runN]
  | x :: l, acc, s, hok => by
    have h1 := h x ((l.map enc).flatten ++ s) (hok x (by simp))
    rw [List.length_cons, runN_some (st' := (acc ++ [x], (l.map enc).flatten ++ s)) (by
      show mapO (fun y => acc ++ [y]) (cut (((x :: l).map enc).flatten ++ s)) = _
      rw [List.map_cons, List.flatten_cons, List.append_assoc, mapO_some' h1]), runN_enc h l _ s fun y hy => hok y (List.mem_cons_of_mem _ hy)]
    simp
theorem runN_dec {α : Type} {cut : List UInt8 → Option (α × List UInt8)} {enc : α → List UInt8} {ok : α → Prop} (h : ∀ s x r, cut s = some (x, r) → ok x → s = enc x ++ r) : ∀ (n : Nat) (acc : List α) (s : List UInt8) (l' : List α) (r : List UInt8),
    runN (fun st : List α × List UInt8 => mapO (fun x => st.1 ++ [x]) (cut st.2)) n (acc, s) = some (l', r) → (∀ x ∈ l', ok x) → ∃ l, l' = acc ++ l ∧ l.length = n ∧ s = (l.map enc).flatten ++ r
  | 0, acc, s, l', r, e, _ => by cases e; exact ⟨[], by simp, rfl, by simp⟩
  | n + 1, acc, s, l', r, e, hok => by
    cases hc : mapO (fun x => acc ++ [x]) (cut s) with
    | none => rw [runN_none hc] at e; cases e
    | some c =>
      obtain ⟨c1, c2⟩ := c
      obtain ⟨x, hx, rfl⟩ := mapO_some hc
      rw [runN_some hc] at e
      obtain ⟨l, h1, h2, h3⟩ := runN_dec h n _ _ _ _ e hok
      subst h1
      refine ⟨x :: l, by simp, by simp [h2], ?_⟩
      rw [h s x c2 hx (hok x (by simp)), h3]
      simp
theorem eachO_enc {α : Type} {cut : List UInt8 → Option (α × List UInt8)} {enc : α → List UInt8} {ok : α → Prop} (h : ∀ x s, ok x → cut (enc x ++ s) = some (x, s)) {most : Nat} (hm : most ≤ 1000) {l : List α} (hl : l.length ≤ most) (hok : ∀ x ∈ l, ok x) (s : List UInt8) :
    eachO (fun st : List α × List UInt8 => mapO (fun x => st.1 ++ [x]) (cut st.2)) most (fun st => st.2) (fun st r => (st.1, r)) ([], (numB l.length ++ (l.map enc).flatten) ++ s) = some (l, s) := by
  unfold eachO
  simp only
  rw [List.append_assoc, cutN_enc (by omega)]
  simp only
  rw [if_pos hl]
  have := runN_enc h l [] s hok
  simpa using this
theorem eachO_dec {α : Type} {cut : List UInt8 → Option (α × List UInt8)} {enc : α → List UInt8} {ok : α → Prop} (h : ∀ s x r, cut s = some (x, r) → ok x → s = enc x ++ r) {most : Nat} {s r : List UInt8} {l : List α}
    (e : eachO (fun st : List α × List UInt8 => mapO (fun x => st.1 ++ [x]) (cut st.2)) most (fun st => st.2) (fun st r => (st.1, r)) ([], s) = some (l, r)) (hok : ∀ x ∈ l, ok x) : s = (numB l.length ++ (l.map enc).flatten) ++ r := by
  unfold eachO at e
  simp only at e
  cases hc : cutN s with
  | none => rw [hc] at e; cases e
  | some x =>
    rw [hc] at e
    simp only at e
    by_cases hm : x.1 ≤ most
    · rw [if_pos hm] at e
      obtain ⟨l', h1, h2, h3⟩ := runN_dec h _ _ _ _ _ e hok
      simp only [List.nil_append] at h1
      subst h1
      rw [cutN_dec (s := s) (n := x.1) (r := x.2) hc, h3, h2, List.append_assoc]
    · rw [if_neg hm] at e; cases e

/-! ### refs, points -/
theorem numI_nat {n : Nat} (h : n < 9223372036854775808) : numI n = (n : Int) := if_pos h
theorem numI_pos {n : Nat} (h : 0 ≤ numI n) (h1 : n < 18446744073709551616) : (numI n).toNat = n := by
  unfold numI at h ⊢
  split at h
  · rename_i hlt; rw [if_pos hlt]; omega
  · omega
theorem cutR_enc {x : RefL} (h : refErr x = 0) (s : List UInt8) : cutR (refB x ++ s) = some (x, s) := by
  obtain ⟨⟨h1, h2⟩, h3, hc⟩ := refErr_zero h
  obtain ⟨h20, hs⟩ := check_small hc
  unfold cutR refB
  have e1 : mapO numI (cutN (numB x.1.toNat ++ ((numB x.2.length ++ labsB x.2) ++ s))) = some (x.1, (numB x.2.length ++ labsB x.2) ++ s) := by
    rw [mapO_some' (cutN_enc (by omega) _), numI_nat (by omega)]
    congr 2
    omega
  rw [List.append_assoc, bindO_some' e1]
  have e2 : cutLs ((numB x.2.length ++ labsB x.2) ++ s) = some (x.2, s) := eachO_enc (cut := cutL) (enc := labB) (ok := fun y => y.1.length < 18446744073709551616 ∧ y.2.length < 18446744073709551616) (fun y s h => cutL_enc h.1 h.2 s) (by omega) h20 (fun y hy => by have := hs y hy; exact ⟨by omega, by omega⟩) s
  rw [mapO_some' e2]
theorem cutR_dec {s r : List UInt8} {x : RefL} (h : cutR s = some (x, r)) (h0 : refErr x = 0) : s = refB x ++ r := by
  obtain ⟨⟨h1, h2⟩, h3, hc⟩ := refErr_zero h0
  unfold cutR at h
  obtain ⟨n, s1, e1, h⟩ := bindO_some h
  obtain ⟨ls, e2, rfl⟩ := mapO_some h
  obtain ⟨n1, e3, rfl⟩ := mapO_some e1
  simp only at h1 h2
  have hd : s1 = (numB ls.length ++ labsB ls) ++ r := eachO_dec (cut := cutL) (enc := labB) (ok := fun _ => True) (fun s x r h _ => cutL_dec h) e2 (fun _ _ => trivial)
  rw [cutN_dec e3, hd]
  unfold refB
  simp only
  rw [numI_pos (by omega) (cutN_lt e3).1]
  simp
theorem timeI_timeN {t : Int} : timeI (timeN t) = t := by
  unfold timeI timeN
  by_cases h : t < 0
  · rw [if_pos h, if_pos (by omega)]; omega
  · rw [if_neg h, if_neg (by omega)]; omega
theorem timeN_timeI (n : Nat) : timeN (timeI n) = n := by
  unfold timeI
  by_cases h : n % 2 = 1
  · rw [if_pos h]; unfold timeN; rw [if_pos (by omega)]; omega
  · rw [if_neg h]; unfold timeN; rw [if_neg (by omega)]; omega
theorem byteAt_div (n j : Nat) : byteAt n (j + 1) = byteAt (n / 256) j := by
  unfold byteAt
  rw [Nat.pow_succ, Nat.mul_comm, ← Nat.div_div_eq_div_mul]
theorem wordR_cons (n k : Nat) : wordR n (k + 1) = UInt8.ofNat (n % 256) :: wordR (n / 256) k := by
  unfold wordR
  rw [List.range_succ_eq_map, List.map_cons, List.map_map]
  congr 1
  · unfold byteAt; simp
  · apply List.map_congr_left
    intro j _
    exact byteAt_div n j
theorem wordI_wordR : ∀ (k n : Nat), n < 256 ^ k → wordI (wordR n k) = n
  | 0, n, h => by simp at h; subst h; rfl
  | k + 1, n, h => by
    rw [wordR_cons, wordI, wordI_wordR k (n / 256) (by rw [Nat.pow_succ] at h; omega), UInt8.toNat_ofNat']
    omega
theorem wordR_wordI : ∀ (l : List UInt8), wordR (wordI l) l.length = l
  | [] => rfl
  | c :: l => by
    have hc := c.toNat_lt
    rw [List.length_cons, wordR_cons, wordI]
    have e1 : (c.toNat + 256 * wordI l) % 256 = c.toNat := by omega
    have e2 : (c.toNat + 256 * wordI l) / 256 = wordI l := by omega
    rw [e1, e2, wordR_wordI l, UInt8.ofNat_toNat]
theorem cut8_enc {b : Nat} (h : b < 18446744073709551616) (s : List UInt8) : cut8 (wordR b 8 ++ s) = some (b, s) := by
  have hl := wordR_length b 8
  unfold cut8
  rw [if_pos (by rw [List.length_append]; omega)]
  have e1 : (wordR b 8 ++ s).take 8 = wordR b 8 := by
    have := List.take_left (l₁ := wordR b 8) (l₂ := s)
    rwa [hl] at this
  have e2 : (wordR b 8 ++ s).drop 8 = s := by
    have := List.drop_left (l₁ := wordR b 8) (l₂ := s)
    rwa [hl] at this
  rw [e1, e2, wordI_wordR 8 b (by omega)]
theorem cut8_dec {s r : List UInt8} {b : Nat} (h : cut8 s = some (b, r)) : s = wordR b 8 ++ r := by
  unfold cut8 at h
  by_cases h8 : 8 ≤ s.length
  · rw [if_pos h8] at h
    cases h
    have hl : (s.take 8).length = 8 := by rw [List.length_take]; omega
    have := wordR_wordI (s.take 8)
    rw [hl] at this
    rw [this, List.take_append_drop]
  · rw [if_neg h8] at h; cases h
theorem cutP_enc {p : Pnt} (h : pointErr p = 0) (hb : p.2.2 < 18446744073709551616) (s : List UInt8) : cutP (pointB p ++ s) = some (p, s) := by
  obtain ⟨⟨h1, h2⟩, h3, h4⟩ := pointErr_zero' h
  obtain ⟨x, t, b⟩ := p
  simp only at h1 h2 h3 h4 hb
  unfold cutP pointB
  simp only
  rw [List.append_assoc, List.append_assoc]
  have e1 : ∀ s, mapO numI (cutN (numB x.toNat ++ s)) = some (x, s) := fun s => by
    rw [mapO_some' (cutN_enc (by omega) _), numI_nat (by omega)]
    congr 2
    omega
  have e2 : ∀ s, mapO timeI (cutN (numB (timeN t) ++ s)) = some (t, s) := fun s => by
    have ht : timeN t < 18446744073709551616 := by unfold timeN; split <;> omega
    rw [mapO_some' (cutN_enc ht _), timeI_timeN]
  rw [bindO_some' (e1 _), bindO_some' (e2 _), mapO_some' (cut8_enc hb _)]
theorem cutP_dec {s r : List UInt8} {p : Pnt} (h : cutP s = some (p, r)) (h0 : pointErr p = 0) : s = pointB p ++ r := by
  obtain ⟨⟨h1, h2⟩, h3, h4⟩ := pointErr_zero' h0
  unfold cutP at h
  obtain ⟨a, s1, k1, h⟩ := bindO_some h
  obtain ⟨t, s2, k2, h⟩ := bindO_some h
  obtain ⟨n1, e1, rfl⟩ := mapO_some k1
  obtain ⟨n2, e2, rfl⟩ := mapO_some k2
  obtain ⟨n3, e3, rfl⟩ := mapO_some h
  simp only at h1 h2
  rw [cutN_dec e1, cutN_dec e2, cut8_dec e3]
  unfold pointB
  simp only
  rw [numI_pos (by omega) (cutN_lt e1).1, timeN_timeI]
  simp

/-! ### the whole -/
theorem kind_byte (k : Nat) (h : k < 256) : (UInt8.ofNat k).toNat = k := by rw [UInt8.toNat_ofNat']; omega
theorem unpO_pack {r : Rcd} (h : recErr r = 0) (hb : ∀ x ∈ r.points, x.2.2 < 18446744073709551616) : unpO (packB r) = some r := by
  obtain ⟨hk, hrl, hpl, hro, hpo⟩ := recErr_zero h
  obtain ⟨kind, rs, ps⟩ := r
  simp only at hk hrl hpl hro hpo hb
  have h' := h
  unfold recErr at h'
  rcases hk with rfl | rfl
  · have hp0 : ps = [] := by
      by_cases hp : 0 < ps.length
      · simp only at h'
        rw [if_neg (by simp), if_pos (.inl ⟨trivial, hp⟩)] at h'; cases h'
      · exact List.length_eq_zero_iff.1 (by omega)
    subst hp0
    have e : eachO stepR 200 (fun st => st.2) (fun st r => (st.1, r)) ([], (numB rs.length ++ refsB rs) ++ []) = some (rs, []) := eachO_enc (cut := cutR) (enc := refB) (ok := fun x => refErr x = 0) (fun x s h => cutR_enc h s) (by omega) hrl hro []
    rw [List.append_nil] at e
    have hb1 : bodyO (UInt8.ofNat 1) (numB rs.length ++ refsB rs) = some (⟨1, rs, []⟩, []) := by
      unfold bodyO
      rw [if_pos (by decide), e]
      rfl
    exact unpO_ok hb1 h
  · have hp0 : rs = [] := by
      by_cases hp : 0 < rs.length
      · simp only at h'
        rw [if_neg (by simp), if_pos (.inr ⟨trivial, hp⟩)] at h'; cases h'
      · exact List.length_eq_zero_iff.1 (by omega)
    subst hp0
    have e : eachO stepP 200 (fun st => st.2) (fun st r => (st.1, r)) ([], (numB ps.length ++ pointsB ps) ++ []) = some (ps, []) := eachO_enc (cut := cutP) (enc := pointB) (ok := fun x => pointErr x = 0 ∧ x.2.2 < 18446744073709551616) (fun x s h => cutP_enc h.1 h.2 s) (by omega) hpl (fun x hx => ⟨hpo x hx, hb x hx⟩) []
    rw [List.append_nil] at e
    have hb1 : bodyO (UInt8.ofNat 2) (numB ps.length ++ pointsB ps) = some (⟨2, [], ps⟩, []) := by
      unfold bodyO
      rw [if_neg (by decide), if_pos (by decide), e]
      rfl
    exact unpO_ok hb1 h
theorem unpO_some {s : List UInt8} {r : Rcd} (h : unpO s = some r) : recErr r = 0 ∧ packB r = s := by
  cases s with
  | nil => cases h
  | cons c s =>
    simp only [unpO] at h
    cases hb : bodyO c s with
    | none => rw [hb] at h; cases h
    | some x =>
      obtain ⟨r0, q⟩ := x
      rw [hb] at h
      simp only at h
      by_cases hc : q = [] ∧ recErr r0 = 0
      · rw [if_pos hc] at h
        cases h
        obtain ⟨rfl, hr⟩ := hc
        refine ⟨hr, ?_⟩
        obtain ⟨hk, hrl, hpl, hro, hpo⟩ := recErr_zero hr
        have hcl := c.toNat_lt
        unfold bodyO at hb
        by_cases h1 : c.toNat = 1
        · rw [if_pos h1] at hb
          obtain ⟨l, e, rfl⟩ := mapO_some hb
          have hd : s = (numB l.length ++ refsB l) ++ [] := eachO_dec (cut := cutR) (enc := refB) (ok := fun x => refErr x = 0) (fun s x r h h0 => cutR_dec h h0) e hro
          rw [hd, List.append_nil]
          have hc1 : c = UInt8.ofNat 1 := by rw [← h1, UInt8.ofNat_toNat]
          rw [hc1]
          rfl
        · rw [if_neg h1] at hb
          by_cases h2 : c.toNat = 2
          · rw [if_pos h2] at hb
            obtain ⟨l, e, rfl⟩ := mapO_some hb
            have hd : s = (numB l.length ++ pointsB l) ++ [] := eachO_dec (cut := cutP) (enc := pointB) (ok := fun x => pointErr x = 0) (fun s x r h h0 => cutP_dec h h0) e hpo
            rw [hd, List.append_nil]
            have hc1 : c = UInt8.ofNat 2 := by rw [← h2, UInt8.ofNat_toNat]
            rw [hc1]
            rfl
          · rw [if_neg h2] at hb
            cases hb
            simp only at hk
            omega
      · rw [if_neg hc] at h; cases h
end Go.Proofs.Ytnlkfehnmijimaa.Rc
