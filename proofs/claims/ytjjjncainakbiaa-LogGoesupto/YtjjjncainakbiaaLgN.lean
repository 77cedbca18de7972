/- Logs: what is appended is read; what is cut off leaves what was whole: plain mathematics. -/
import Derived.Test.YtjjjncainakbiaaKit
import Derived.Test.YtjjjncainakbiaaLgS
import Derived.Test.YtjjjncainakbiaaLgP
import Derived.Test.YtjjjncainakbiaaLgT
import Derived.Test.YtjjjncainakbiaaLgE
set_option linter.unusedVariables false
set_option linter.unusedSimpArgs false
namespace Go.Proofs.Ytjjjncainakbiaa.Lg

/-- A part stands at a byte just if the noughts and its bytes do. -/
theorem stands {l s : List UInt8} {p k e : Nat} : partAt l p = some (k, s, e) ↔ k < 256 ∧ (p + (padL p).length) % 128 + 7 + s.length ≤ 128 ∧ e = p + (padL p).length + 7 + s.length ∧ (l.drop p).take ((padL p).length + (7 + s.length)) = padL p ++ partB k s := by
  constructor
  · intro h
    by_cases hz : (l.drop p).take (padL p).length = padL p
    · have hpe := partAt_end h
      have hl : (padL p).length ≤ l.length - p := by
        have := congrArg List.length hz
        rw [List.length_take, List.length_drop] at this
        omega
      obtain ⟨a, ha⟩ : ∃ a, a = p + (padL p).length := ⟨_, rfl⟩
      by_cases h7 : a + 7 ≤ l.length
      · rw [partAt_ref ha hz h7] at h
        split at h
        · cases h
        · split at h
          · rename_i h1 h2
            simp only [Option.some.injEq, Prod.mk.injEq] at h
            obtain ⟨hk, hs, he⟩ := h
            have hn : s.length = l[a + 1].toNat + 256 * l[a + 2].toNat := by
              rw [← hs, List.length_take, List.length_drop]
              omega
            rw [← hn] at h1 h2 he hs
            rw [hk, hs] at h2
            refine ⟨hpe.2.2.2, by rw [← ha]; omega, by rw [← ha]; exact he.symm, ?_⟩
            rw [List.take_add, hz, List.drop_drop, ← ha, ← h2]
          · cases h
      · unfold partAt at h
        rw [if_neg (fun h => h hz), ← ha, if_pos (by omega)] at h
        cases h
    · unfold partAt at h
      rw [if_pos hz] at h
      cases h
  · rintro ⟨hk, hm, he, ht⟩
    have hlen := congrArg List.length ht
    rw [List.length_take, List.length_drop, List.length_append, partB_length] at hlen
    have hz : (l.drop p).take (padL p).length = padL p := by
      have := congrArg (List.take (padL p).length) ht
      rw [List.take_take, Nat.min_eq_left (by omega), List.take_left] at this
      exact this
    obtain ⟨a, ha⟩ : ∃ a, a = p + (padL p).length := ⟨_, rfl⟩
    have h7 : a + 7 ≤ l.length := by omega
    have hb : (l.drop a).take (7 + s.length) = partB k s := by
      have := congrArg (List.drop (padL p).length) ht
      rw [List.drop_left, ← List.take_drop, List.drop_drop, ← ha] at this
      rw [← this]
    rw [← ha] at he hm
    have hb2 := hb
    rw [head_is l a s.length (by omega)] at hb2
    unfold partB headB at hb2
    simp only [List.cons_append, List.cons.injEq, List.nil_append] at hb2
    obtain ⟨e0, e1, e2, e3⟩ := hb2
    have e7 : (l.drop (a + 7)).take s.length = s := by
      have h4 : (le4 (ckSum s)).length = 4 := rfl
      have := congrArg (List.drop 4) (show [l[a + 3], l[a + 4], l[a + 5], l[a + 6]] ++ (l.drop (a + 7)).take s.length = le4 (ckSum s) ++ s from by
        simp only [List.cons_append, List.nil_append]
        simpa using e3)
      exact this
    have hn : l[a + 1].toNat + 256 * l[a + 2].toNat = s.length := by
      rw [e1, e2]
      simp
      omega
    rw [partAt_ref ha hz h7, hn, if_neg (by omega), e7, e0]
    have hk2 : (UInt8.ofNat k).toNat = k := by simp; omega
    rw [hk2, if_pos hb.symm, he]

/-- What is read hangs on the bytes up to its end alone. -/
theorem partAt_local {l m s : List UInt8} {p k e : Nat} (h : partAt l p = some (k, s, e)) (hm : m.take e = l.take e) : partAt m p = some (k, s, e) := by
  rw [stands] at h ⊢
  obtain ⟨h1, h2, h3, h4⟩ := h
  refine ⟨h1, h2, h3, ?_⟩
  rw [← h4]
  have e1 : ∀ x : List UInt8, (x.drop p).take ((padL p).length + (7 + s.length)) = (x.take e).drop p := fun x => by
    rw [List.drop_take]
    congr 1
    omega
  rw [e1, e1, hm]
theorem take_le {l m : List UInt8} {a b : Nat} (h : m.take b = l.take b) (hab : a ≤ b) : m.take a = l.take a := by
  have := congrArg (List.take a) h
  rw [List.take_take, List.take_take, Nat.min_eq_left hab] at this
  exact this
theorem recA_local : ∀ (f : Nat) {l m r : List UInt8} {p e : Nat} {first : Bool}, l.length ≤ p + f → recA l p first = some (r, e) → m.take e = l.take e → recA m p first = some (r, e) := by
  intro f
  induction f with
  | zero =>
    intro l m r p e first hf h hm
    have := recA_end h
    omega
  | succ f ih =>
    intro l m r p e first hf h hm
    rw [recA_eq] at h ⊢
    cases hq : partAt l p with
    | none => rw [hq] at h; cases h
    | some x =>
      obtain ⟨k, s, e1⟩ := x
      have hpe := partAt_end hq
      rw [hq] at h
      simp only at h
      split at h
      · rename_i hmay
        split at h
        · rename_i hends
          simp only [Option.some.injEq, Prod.mk.injEq] at h
          obtain ⟨rfl, rfl⟩ := h
          rw [partAt_local hq hm]
          simp [hmay, hends]
        · rename_i hends
          cases hr : recA l e1 false with
          | none => rw [hr] at h; cases h
          | some y =>
            obtain ⟨r2, e2⟩ := y
            rw [hr] at h
            simp only [Option.map_some, Option.some.injEq, Prod.mk.injEq] at h
            obtain ⟨rfl, rfl⟩ := h
            have hre := recA_end hr
            rw [partAt_local hq (take_le hm (by omega))]
            simp only [hmay, if_true, hends, if_false]
            rw [ih (by omega) hr hm]
            rfl
      · cases h

/-- What is written is read. -/
theorem recA_cont : ∀ (f : Nat) {l s : List UInt8} {p : Nat} {first : Bool}, 2 * s.length + (if first then 1 else 0) ≤ f → (first = false → p % 128 = 0) → (l.drop p).take (contB first p s).length = contB first p s → recA l p first = some (s, p + (contB first p s).length) := by
  intro f
  induction f with
  | zero =>
    intro l s p first hf hp h
    cases first with
    | true => simp at hf
    | false =>
      have hs : s = [] := List.eq_nil_of_length_eq_zero (by simp at hf; omega)
      subst hs
      have hl := contB_last false p [] hp (by simp)
      rw [hl] at h ⊢
      have hq : partAt l p = some (4, [], p + (padL p).length + 7) := by
        rw [stands]
        have := (pad_le p).2
        refine ⟨by decide, by simp; omega, by simp, ?_⟩
        simpa [partB_length] using h
      rw [recA_eq, hq]
      simp [mayB, endsB, partB_length]
      omega
  | succ f ih =>
    intro l s p first hf hp h
    have hpm := (pad_le p).2
    by_cases hfit : s.length ≤ room p
    · have hl := contB_last first p s hp hfit
      rw [hl] at h ⊢
      rw [List.length_append, partB_length] at h
      have hq : partAt l p = some (if first then 1 else 4, s, p + (padL p).length + 7 + s.length) := by
        rw [stands]
        refine ⟨by split <;> decide, ?_, rfl, h⟩
        unfold room at hfit
        omega
      rw [recA_eq, hq]
      cases first <;> simp [mayB, endsB, partB_length] <;> omega
    · have hl := contB_more first p s hp hfit
      have hn := room_next p
      have hr := room_le p
      have htk : (s.take (room p)).length = room p := by rw [List.length_take]; omega
      have hdl : (s.drop (room p)).length = s.length - room p := List.length_drop
      rw [hl] at h ⊢
      have hlen : (padL p ++ partB (if first then 2 else 3) (s.take (room p)) ++ contB false (p + (padL p).length + 7 + room p) (s.drop (room p))).length = (padL p).length + (7 + room p) + (contB false (p + (padL p).length + 7 + room p) (s.drop (room p))).length := by
        rw [List.length_append, List.length_append, partB_length, htk]
      rw [hlen] at h ⊢
      have hpart : (padL p ++ partB (if first then 2 else 3) (s.take (room p))).length = (padL p).length + (7 + room p) := by rw [List.length_append, partB_length, htk]
      have h1 : (l.drop p).take ((padL p).length + (7 + room p)) = padL p ++ partB (if first then 2 else 3) (s.take (room p)) := by
        have := congrArg (List.take ((padL p).length + (7 + room p))) h
        rw [List.take_take, Nat.min_eq_left (by omega)] at this
        rw [this]
        exact List.take_left' hpart
      have h2 : (l.drop (p + (padL p).length + 7 + room p)).take (contB false (p + (padL p).length + 7 + room p) (s.drop (room p))).length = contB false (p + (padL p).length + 7 + room p) (s.drop (room p)) := by
        have := congrArg (List.drop ((padL p).length + (7 + room p))) h
        rw [List.drop_left' hpart, List.drop_take, Nat.add_sub_cancel_left, List.drop_drop] at this
        rw [show p + (padL p).length + 7 + room p = p + ((padL p).length + (7 + room p)) from by omega]
        rw [show p + (padL p).length + 7 + room p = p + ((padL p).length + (7 + room p)) from by omega] at this
        exact this
      have hq : partAt l p = some (if first then 2 else 3, s.take (room p), p + (padL p).length + 7 + room p) := by
        rw [stands, htk]
        refine ⟨by split <;> decide, ?_, rfl, h1⟩
        unfold room
        omega
      have h0 : first = false → room p = 121 := fun h => room_zero (hp h)
      have hrec := ih (l := l) (s := s.drop (room p)) (p := p + (padL p).length + 7 + room p) (first := false) (by
        rw [hdl]
        cases first with
        | false => have := h0 rfl; simp at hf ⊢; omega
        | true => simp at hf ⊢; omega) (fun _ => hn) h2
      rw [recA_eq, hq]
      have hmay : mayB (if first then 2 else 3) first = true := by cases first <;> rfl
      have hends : endsB (if first then 2 else 3) = false := by cases first <;> rfl
      simp only [hmay, hends, if_true]
      rw [hrec]
      simp [List.take_append_drop]
      omega
end Go.Proofs.Ytjjjncainakbiaa.Lg
