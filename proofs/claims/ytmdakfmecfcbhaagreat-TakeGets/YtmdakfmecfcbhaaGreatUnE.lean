/- The unpacker's element. -/
import Derived.Test.YtmdakfmecfcbhaaGreatProg
import Derived.Test.YtmdakfmecfcbhaaGreatKit
import Derived.Test.YtmdakfmecfcbhaaGreatSpec
import Derived.Test.YtmdakfmecfcbhaaGreatSpec2
import Derived.Test.YtmdakfmecfcbhaaGreatReg
import Derived.Test.YtmdakfmecfcbhaaGreatWWri
import Derived.Test.YtmdakfmecfcbhaaGreatUnA
import Derived.Test.YtmdakfmecfcbhaaGreatUnB
import Derived.Test.YtmdakfmecfcbhaaGreatUnC
import Derived.Test.YtmdakfmecfcbhaaGreatUnD
set_option linter.unusedVariables false
set_option linter.unusedSimpArgs false
namespace Go.Proofs.YtmdakfmecfcbhaaGreat
open Go.RowKit
attribute [local go_sem] bs_size bs_toList bs_append bs_get bs_extract

/-- A number of n bytes at a beginning, and what is behind it. -/
def cutLow (n : Nat) (r : List UInt8) : Option (Nat × List UInt8) := if n ≤ r.length then some (lowB (r.take n), r.drop n) else none
def plainB (told n : Nat) (r made : List UInt8) : Option (List UInt8 × List UInt8) := if n + made.length ≤ told ∧ n ≤ r.length then some (r.drop n, made ++ r.take n) else none
def againB (told n back : Nat) (r made : List UInt8) : Option (List UInt8 × List UInt8) := if n + made.length ≤ told ∧ 1 ≤ back ∧ back ≤ made.length then some (r, copyB back n made) else none
/-- An element: what is left behind it, and what is made with it. -/
def elemB (told : Nat) (r made : List UInt8) : Option (List UInt8 × List UInt8) :=
  match cutLow 1 r with
  | none => none
  | some (h, r1) =>
    if h % 4 = 0 then
      if 60 ≤ h / 4 then
        match cutLow (h / 4 - 59) r1 with
        | none => none
        | some (m, r2) => plainB told (m + 1) r2 made
      else plainB told (h / 4 + 1) r1 made
    else if h % 4 = 1 then
      match cutLow 1 r1 with
      | none => none
      | some (b, r2) => againB told (h / 4 % 8 + 4) (h / 32 * 256 + b) r2 made
    else if h % 4 = 2 then
      match cutLow 2 r1 with
      | none => none
      | some (b, r2) => againB told (h / 4 + 1) b r2 made
    else
      match cutLow 4 r1 with
      | none => none
      | some (b, r2) => againB told (h / 4 + 1) b r2 made

theorem cutLow_some {n m : Nat} {r r' : List UInt8} (h : cutLow n r = some (m, r')) : n ≤ r.length ∧ m = lowB (r.take n) ∧ r' = r.drop n ∧ m < 256 ^ n ∧ r'.length + n = r.length := by
  unfold cutLow at h
  split at h
  · rename_i hn
    simp at h
    obtain ⟨rfl, rfl⟩ := h
    have := lowB_lt (r.take n)
    rw [List.length_take, Nat.min_eq_left hn] at this
    exact ⟨hn, rfl, rfl, this, by rw [List.length_drop]; omega⟩
  · simp at h

theorem unnum_some (w : World) (B ub n m : Nat) (r r' made : List UInt8) (told : Int) (hu : unpAt w B ub r told made) (hr : r.length ≤ 140737488355328) (hn : n ≤ 4) (h : cutLow n r = some (m, r')) :
    Calls Tryz.prog 111 #[.pointer (some ⟨ub, 0, none⟩), .int .i64 n] w fun e w' => KeptX B ub w w' ∧ e = .returned (.int .i64 m) ∧ unpAt w' B ub r' told made := by
  obtain ⟨h1, rfl, rfl, _⟩ := cutLow_some h
  refine (unnum_any w B ub n r made told hu (by omega) hn).mono fun e w' ⟨hk, h⟩ => ?_
  rcases h with ⟨_, h2, h3⟩ | ⟨h2, _⟩
  · exact ⟨hk, h2, h3⟩
  · omega
theorem unnum_none (w : World) (B ub n : Nat) (r made : List UInt8) (told : Int) (hu : unpAt w B ub r told made) (hr : r.length ≤ 140737488355328) (hn : n ≤ 4) (h : cutLow n r = none) :
    Calls Tryz.prog 111 #[.pointer (some ⟨ub, 0, none⟩), .int .i64 n] w fun e w' => KeptX B ub w w' ∧ e = gaveUp 1 := by
  unfold cutLow at h
  refine (unnum_any w B ub n r made told hu (by omega) hn).mono fun e w' ⟨hk, h'⟩ => ?_
  rcases h' with ⟨h1, _⟩ | ⟨_, h2⟩
  · rw [if_pos h1] at h; cases h
  · exact ⟨hk, h2⟩
theorem plain_is (w : World) (B ub n told : Nat) (r made : List UInt8) (hu : unpAt w B ub r told made) (hr : r.length ≤ 140737488355328) (hm : made.length ≤ 1000000) (ht : told ≤ 1000000) :
    Calls Tryz.prog 112 #[.pointer (some ⟨ub, 0, none⟩), .int .i64 n] w fun e w' => KeptX B ub w w' ∧
      ((∃ r' m', plainB told n r made = some (r', m') ∧ e = .returned (.tuple #[]) ∧ unpAt w' B ub r' told m') ∨ (plainB told n r made = none ∧ e = gaveUp 1)) := by
  refine (plain_any w B ub n r made told hu hr hm ⟨by omega, by omega⟩).mono fun e w' ⟨hk, h⟩ => ⟨hk, ?_⟩
  unfold plainB
  rcases h with ⟨h1, h2, h3, h4⟩ | ⟨h1, h2⟩
  · exact .inl ⟨_, _, by rw [if_pos ⟨by omega, h2⟩], h3, h4⟩
  · exact .inr ⟨by rw [if_neg (fun h => h1 ⟨by omega, h.2⟩)], h2⟩
theorem again_is (w : World) (B ub n back told : Nat) (r made : List UInt8) (hub : ub < B) (hu : unpAt w B ub r told made) (hn : n ≤ 1000000) (hm : made.length ≤ 1000000) (ht : told ≤ 1000000) (hback : back ≤ 9223372036854775807) :
    Calls Tryz.prog 113 #[.pointer (some ⟨ub, 0, none⟩), .int .i64 n, .int .i64 back] w fun e w' => KeptX B ub w w' ∧
      ((∃ r' m', againB told n back r made = some (r', m') ∧ e = .returned (.tuple #[]) ∧ unpAt w' B ub r' told m') ∨ (againB told n back r made = none ∧ e = gaveUp 1)) := by
  refine (again_any w B ub n back r made told hub hu hn hm ⟨by omega, by omega⟩ hback).mono fun e w' ⟨hk, h⟩ => ⟨hk, ?_⟩
  unfold againB
  rcases h with ⟨h1, h2, h3, h4, h5⟩ | ⟨h1, h2⟩
  · exact .inl ⟨_, _, by rw [if_pos ⟨by omega, h2, h3⟩], h4, h5⟩
  · exact .inr ⟨by rw [if_neg (fun h => h1 ⟨by omega, h.2.1, h.2.2⟩)], h2⟩

theorem and3_i (h : Nat) (hh : h < 256) : bits .and .i64 (h : Int) 3 = ((h % 4 : Nat) : Int) := by
  rw [show (3 : Int) = ((3 : Nat) : Int) from rfl, bits_and_i64_nat h 3 (by omega) (by omega)]
  congr 1
  exact Nat.and_two_pow_sub_one_eq_mod h 2
theorem and7_i (h : Nat) (hh : h < 256) : bits .and .i64 (h : Int) 7 = ((h % 8 : Nat) : Int) := by
  rw [show (7 : Int) = ((7 : Nat) : Int) from rfl, bits_and_i64_nat h 7 (by omega) (by omega)]
  congr 1
  exact Nat.and_two_pow_sub_one_eq_mod h 3

theorem unnum_some_i (w : World) (B ub n m : Nat) (ni : Int) (r r' made : List UInt8) (told : Int) (hu : unpAt w B ub r told made) (hr : r.length ≤ 140737488355328) (hn : n ≤ 4) (hi : ni = (n : Int)) (h : cutLow n r = some (m, r')) :
    Calls Tryz.prog 111 #[.pointer (some ⟨ub, 0, none⟩), .int .i64 ni] w fun e w' => KeptX B ub w w' ∧ e = .returned (.int .i64 m) ∧ unpAt w' B ub r' told made := by
  subst hi; exact unnum_some w B ub n m r r' made told hu hr hn h
theorem unnum_none_i (w : World) (B ub n : Nat) (ni : Int) (r made : List UInt8) (told : Int) (hu : unpAt w B ub r told made) (hr : r.length ≤ 140737488355328) (hn : n ≤ 4) (hi : ni = (n : Int)) (h : cutLow n r = none) :
    Calls Tryz.prog 111 #[.pointer (some ⟨ub, 0, none⟩), .int .i64 ni] w fun e w' => KeptX B ub w w' ∧ e = gaveUp 1 := by
  subst hi; exact unnum_none w B ub n r made told hu hr hn h
theorem plain_i (w : World) (B ub n told : Nat) (ni : Int) (r made : List UInt8) (hu : unpAt w B ub r told made) (hr : r.length ≤ 140737488355328) (hm : made.length ≤ 1000000) (ht : told ≤ 1000000) (hi : ni = (n : Int)) :
    Calls Tryz.prog 112 #[.pointer (some ⟨ub, 0, none⟩), .int .i64 ni] w fun e w' => KeptX B ub w w' ∧
      ((∃ r' m', plainB told n r made = some (r', m') ∧ e = .returned (.tuple #[]) ∧ unpAt w' B ub r' told m') ∨ (plainB told n r made = none ∧ e = gaveUp 1)) := by
  subst hi; exact plain_is w B ub n told r made hu hr hm ht
theorem again_i (w : World) (B ub n back told : Nat) (ni bi : Int) (r made : List UInt8) (hub : ub < B) (hu : unpAt w B ub r told made) (hn : n ≤ 1000000) (hm : made.length ≤ 1000000) (ht : told ≤ 1000000) (hback : back ≤ 9223372036854775807) (hi : ni = (n : Int)) (hbi : bi = (back : Int)) :
    Calls Tryz.prog 113 #[.pointer (some ⟨ub, 0, none⟩), .int .i64 ni, .int .i64 bi] w fun e w' => KeptX B ub w w' ∧
      ((∃ r' m', againB told n back r made = some (r', m') ∧ e = .returned (.tuple #[]) ∧ unpAt w' B ub r' told m') ∨ (againB told n back r made = none ∧ e = gaveUp 1)) := by
  subst hi; subst hbi; exact again_is w B ub n back told r made hub hu hn hm ht hback

set_option maxRecDepth 20000 in
set_option maxHeartbeats 2000000 in
theorem element_any (w : World) (B ub told : Nat) (r made : List UInt8) (hub : ub < B) (hu : unpAt w B ub r told made) (hr : r.length ≤ 140737488355328) (hm : made.length ≤ 1000000) (ht : told ≤ 1000000) :
    Calls Tryz.prog 89 #[.pointer (some ⟨ub, 0, none⟩)] w fun e w' => KeptX B ub w w' ∧
      ((∃ r' m', elemB told r made = some (r', m') ∧ e = .returned (.tuple #[]) ∧ unpAt w' B ub r' told m') ∨ (elemB told r made = none ∧ e = gaveUp 1)) := by
  go_enter Tryz.func89, Tryz.ntmps89
  go_wp2_with fail
  cases hc : cutLow 1 r with
  | none =>
    have HC := hide hc
    refine (unnum_none w B ub 1 r made told hu hr (by omega) hc).mono ?_
    rintro e w1 ⟨hk, rfl⟩
    exact ⟨rfl, hk, .inr ⟨by unfold elemB; rw [HC.out], rfl⟩⟩
  | some x =>
    obtain ⟨h, r1⟩ := x
    have HC := hide hc
    have h256 := (cutLow_some hc).2.2.2.1
    have hlen := (cutLow_some hc).2.2.2.2
    simp only [Nat.pow_one] at h256
    refine (unnum_some w B ub 1 h r r1 made told hu hr (by omega) hc).mono ?_
    rintro e w1 ⟨hk, rfl, hu1⟩
    clear hc hu
    by_cases m0 : h % 4 = 0
    · have a3 : bits .and .i64 (h : Int) 3 = 0 := by rw [and3_i h h256, m0]; rfl
      by_cases m6 : 60 ≤ h / 4
      · have m6' : 60 ≤ (h : Int) / 4 := by omega
        go_wp2_with fail
        cases hc2 : cutLow (h / 4 - 59) r1 with
        | none =>
          have HC2 := hide hc2
          refine (unnum_none_i w1 B ub (h / 4 - 59) _ r1 made told hu1 (by omega) (by omega) (by omega) hc2).mono ?_
          rintro e w2 ⟨hk2, rfl⟩
          exact ⟨rfl, hk.trans hk2, .inr ⟨by unfold elemB; rw [HC.out]; simp only; rw [if_pos m0, if_pos m6, HC2.out], rfl⟩⟩
        | some y =>
          obtain ⟨m, r2⟩ := y
          have HC2 := hide hc2
          have hm2 := (cutLow_some hc2).2.2.2.1
          have hlen2 := (cutLow_some hc2).2.2.2.2
          have hm3 : m < 4294967296 := by
            have : 256 ^ (h / 4 - 59) ≤ 256 ^ 4 := Nat.pow_le_pow_right (by omega) (by omega)
            omega
          clear hm2
          refine (unnum_some_i w1 B ub (h / 4 - 59) m _ r1 r2 made told hu1 (by omega) (by omega) (by omega) hc2).mono ?_
          rintro e w2 ⟨hk2, rfl, hu2⟩
          clear hc2
          go_wp2_with fail
          refine (plain_i w2 B ub (m + 1) told _ r2 made hu2 (by omega) hm ht (by omega)).mono ?_
          rintro e w3 ⟨hk3, (⟨r', m', h1, rfl, h3⟩ | ⟨h1, rfl⟩)⟩
          · have H1 := hide h1
            have H3 := hide h3
            clear h1 h3
            go_wp2
            go_end0
            exact ⟨(hk.trans hk2).trans hk3, .inl ⟨r', m', by unfold elemB; rw [HC.out]; simp only; rw [if_pos m0, if_pos m6, HC2.out]; exact H1.out, rfl, H3.out⟩⟩
          · exact ⟨rfl, (hk.trans hk2).trans hk3, .inr ⟨by unfold elemB; rw [HC.out]; simp only; rw [if_pos m0, if_pos m6, HC2.out]; exact h1, rfl⟩⟩
      · have m6' : ¬ 60 ≤ (h : Int) / 4 := by omega
        go_wp2_with fail
        refine (plain_i w1 B ub (h / 4 + 1) told _ r1 made hu1 (by omega) hm ht (by omega)).mono ?_
        rintro e w3 ⟨hk3, (⟨r', m', h1, rfl, h3⟩ | ⟨h1, rfl⟩)⟩
        · have H1 := hide h1
          have H3 := hide h3
          clear h1 h3
          go_wp2
          go_end0
          exact ⟨hk.trans hk3, .inl ⟨r', m', by unfold elemB; rw [HC.out]; simp only; rw [if_pos m0, if_neg m6]; exact H1.out, rfl, H3.out⟩⟩
        · exact ⟨rfl, hk.trans hk3, .inr ⟨by unfold elemB; rw [HC.out]; simp only; rw [if_pos m0, if_neg m6]; exact h1, rfl⟩⟩
    · by_cases m1 : h % 4 = 1
      · have a3 : bits .and .i64 (h : Int) 3 = 1 := by rw [and3_i h h256, m1]; rfl
        have a7 : bits .and .i64 ((h : Int) / 4) 7 = ((h / 4 % 8 : Nat) : Int) := by rw [show (h : Int) / 4 = ((h / 4 : Nat) : Int) from by omega, and7_i _ (by omega)]
        go_wp2_with fail
        cases hc2 : cutLow 1 r1 with
        | none =>
          have HC2 := hide hc2
          refine (unnum_none_i w1 B ub 1 _ r1 made told hu1 (by omega) (by omega) (by omega) hc2).mono ?_
          rintro e w2 ⟨hk2, rfl⟩
          exact ⟨rfl, hk.trans hk2, .inr ⟨by unfold elemB; rw [HC.out]; simp only; rw [if_neg m0, if_pos m1, HC2.out], rfl⟩⟩
        | some y =>
          obtain ⟨b, r2⟩ := y
          have HC2 := hide hc2
          have hb2 := (cutLow_some hc2).2.2.2.1
          have hlen2 := (cutLow_some hc2).2.2.2.2
          simp only [Nat.pow_one] at hb2
          have HOr : Hid (bits .or .i64 ((h : Int) / 32 * 256) (b : Int) = ((h / 32 * 256 + b : Nat) : Int)) := by
            show _ = _
            have h6 := bits_or_i64_nat (h / 32 * 256) b (by omega) (by omega)
            rw [or_add_256 _ _ hb2] at h6
            rw [show (h : Int) / 32 * 256 = ((h / 32 * 256 : Nat) : Int) from by omega, h6]
            omega
          refine (unnum_some_i w1 B ub 1 b _ r1 r2 made told hu1 (by omega) (by omega) (by omega) hc2).mono ?_
          rintro e w2 ⟨hk2, rfl, hu2⟩
          clear hc2
          go_wp2_with fail
          refine (again_i w2 B ub (h / 4 % 8 + 4) (h / 32 * 256 + b) told _ _ r2 made hub hu2 (by omega) hm ht (by omega) (by omega) HOr.out).mono ?_
          rintro e w3 ⟨hk3, (⟨r', m', h1, rfl, h3⟩ | ⟨h1, rfl⟩)⟩
          · have H1 := hide h1
            have H3 := hide h3
            clear h1 h3
            go_wp2
            go_end0
            exact ⟨(hk.trans hk2).trans hk3, .inl ⟨r', m', by unfold elemB; rw [HC.out]; simp only; rw [if_neg m0, if_pos m1, HC2.out]; exact H1.out, rfl, H3.out⟩⟩
          · exact ⟨rfl, (hk.trans hk2).trans hk3, .inr ⟨by unfold elemB; rw [HC.out]; simp only; rw [if_neg m0, if_pos m1, HC2.out]; exact h1, rfl⟩⟩
      · by_cases m2 : h % 4 = 2
        · have a3 : bits .and .i64 (h : Int) 3 = 2 := by rw [and3_i h h256, m2]; rfl
          go_wp2_with fail
          cases hc2 : cutLow 2 r1 with
          | none =>
            have HC2 := hide hc2
            refine (unnum_none_i w1 B ub 2 _ r1 made told hu1 (by omega) (by omega) (by omega) hc2).mono ?_
            rintro e w2 ⟨hk2, rfl⟩
            exact ⟨rfl, hk.trans hk2, .inr ⟨by unfold elemB; rw [HC.out]; simp only; rw [if_neg m0, if_neg m1, if_pos m2, HC2.out], rfl⟩⟩
          | some y =>
            obtain ⟨b, r2⟩ := y
            have HC2 := hide hc2
            have hb2 := (cutLow_some hc2).2.2.2.1
            have hlen2 := (cutLow_some hc2).2.2.2.2
            have hb3 : b < 65536 := hb2
            clear hb2
            refine (unnum_some_i w1 B ub 2 b _ r1 r2 made told hu1 (by omega) (by omega) (by omega) hc2).mono ?_
            rintro e w2 ⟨hk2, rfl, hu2⟩
            clear hc2
            go_wp2_with fail
            refine (again_i w2 B ub (h / 4 + 1) b told _ _ r2 made hub hu2 (by omega) hm ht (by omega) (by omega) rfl).mono ?_
            rintro e w3 ⟨hk3, (⟨r', m', h1, rfl, h3⟩ | ⟨h1, rfl⟩)⟩
            · have H1 := hide h1
              have H3 := hide h3
              clear h1 h3
              go_wp2
              go_end0
              exact ⟨(hk.trans hk2).trans hk3, .inl ⟨r', m', by unfold elemB; rw [HC.out]; simp only; rw [if_neg m0, if_neg m1, if_pos m2, HC2.out]; exact H1.out, rfl, H3.out⟩⟩
            · exact ⟨rfl, (hk.trans hk2).trans hk3, .inr ⟨by unfold elemB; rw [HC.out]; simp only; rw [if_neg m0, if_neg m1, if_pos m2, HC2.out]; exact h1, rfl⟩⟩
        · have a3 : bits .and .i64 (h : Int) 3 = 3 := by rw [and3_i h h256, show h % 4 = 3 from by omega]; rfl
          go_wp2_with fail
          cases hc2 : cutLow 4 r1 with
          | none =>
            have HC2 := hide hc2
            refine (unnum_none_i w1 B ub 4 _ r1 made told hu1 (by omega) (by omega) (by omega) hc2).mono ?_
            rintro e w2 ⟨hk2, rfl⟩
            exact ⟨rfl, hk.trans hk2, .inr ⟨by unfold elemB; rw [HC.out]; simp only; rw [if_neg m0, if_neg m1, if_neg m2, HC2.out], rfl⟩⟩
          | some y =>
            obtain ⟨b, r2⟩ := y
            have HC2 := hide hc2
            have hb2 := (cutLow_some hc2).2.2.2.1
            have hlen2 := (cutLow_some hc2).2.2.2.2
            have hb3 : b < 4294967296 := hb2
            clear hb2
            refine (unnum_some_i w1 B ub 4 b _ r1 r2 made told hu1 (by omega) (by omega) (by omega) hc2).mono ?_
            rintro e w2 ⟨hk2, rfl, hu2⟩
            clear hc2
            go_wp2_with fail
            refine (again_i w2 B ub (h / 4 + 1) b told _ _ r2 made hub hu2 (by omega) hm ht (by omega) (by omega) rfl).mono ?_
            rintro e w3 ⟨hk3, (⟨r', m', h1, rfl, h3⟩ | ⟨h1, rfl⟩)⟩
            · have H1 := hide h1
              have H3 := hide h3
              clear h1 h3
              go_wp2
              go_end0
              exact ⟨(hk.trans hk2).trans hk3, .inl ⟨r', m', by unfold elemB; rw [HC.out]; simp only; rw [if_neg m0, if_neg m1, if_neg m2, HC2.out]; exact H1.out, rfl, H3.out⟩⟩
            · exact ⟨rfl, (hk.trans hk2).trans hk3, .inr ⟨by unfold elemB; rw [HC.out]; simp only; rw [if_neg m0, if_neg m1, if_neg m2, HC2.out]; exact h1, rfl⟩⟩

end Go.Proofs.YtmdakfmecfcbhaaGreat
