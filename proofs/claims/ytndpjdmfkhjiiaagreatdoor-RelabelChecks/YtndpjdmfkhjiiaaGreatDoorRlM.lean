/- relabel: the deeds, all but RuleShare's, as one. -/
import Derived.Test.YtndpjdmfkhjiiaaGreatDoorProg
import Derived.Test.YtndpjdmfkhjiiaaGreatDoorKit
import Derived.Test.YtndpjdmfkhjiiaaGreatDoorReg
import Derived.Test.YtndpjdmfkhjiiaaGreatDoorRlA
import Derived.Test.YtndpjdmfkhjiiaaGreatDoorRlB
import Derived.Test.YtndpjdmfkhjiiaaGreatDoorRlC
import Derived.Test.YtndpjdmfkhjiiaaGreatDoorRlF
import Derived.Test.YtndpjdmfkhjiiaaGreatDoorRlG
import Derived.Test.YtndpjdmfkhjiiaaGreatDoorRlH
import Derived.Test.YtndpjdmfkhjiiaaGreatDoorRlJ
import Derived.Test.YtndpjdmfkhjiiaaGreatDoorRlK
set_option linter.unusedVariables false
set_option linter.unusedSimpArgs false
namespace Go.Proofs.YtndpjdmfkhjiiaaGreatDoor.Rl
open Go.RowKit Lb

/-- What a rule that is right does to labels that are right: the labels then, whether they stay, and an error. -/
noncomputable def deedB (r : Rul) (T : Tr) (g : Nat) (tm : List (List UInt8 × Int)) (ls : List Lab) (src : List UInt8) : List Lab × Bool × Nat :=
  if r.kind = 1 then (match wayOf T src with
    | none => (ls, true, 0)
    | some l => (withAns ls r.target (madeB src (tookL src l g) tm), true, withErr ls r.target (madeB src (tookL src l g) tm)))
  else if r.kind = 2 then (ls, likeR T src, 0)
  else if r.kind = 3 then (ls, !likeR T src, 0)
  else if r.kind = 5 then ((mapGo (nameOf T g tm) ls ls).1, decide ((mapGo (nameOf T g tm) ls ls).2 = 0), (mapGo (nameOf T g tm) ls ls).2)
  else if r.kind = 6 then (ls.filter fun x => !likeR T x.1, true, 0)
  else (ls.filter fun x => likeR T x.1, true, 0)
/-- What a deed's call answers. -/
def DeedPost (w : World) (va : Value) (ls : List Lab) (d : List Lab × Bool × Nat) (e : Ending) (w' : World) : Prop :=
  Grow w w' ∧ ∃ mo n mc, e = .returned (.tuple #[.slice mo n mc, .bool d.2.1, .int .i64 d.2.2]) ∧ (d.2.2 = 0 → Stay w.heap.size va ls (.slice mo n mc) d.1 w')

theorem stay_shape {B : Nat} {v0 v : Value} {l0 l : List Lab} {w : World} (h : Stay B v0 l0 v l w) (h0 : ∃ ao n cp, v0 = .slice ao n cp) : ∃ ao n cp, v = .slice ao n cp := by
  rcases h with ⟨rfl, _⟩ | h
  · exact h0
  · obtain ⟨ao, cp, rfl⟩ := own_shape h
    exact ⟨ao, _, cp, rfl⟩

theorem rule_right {r : Rul} (h : ruleErr r = 0) : 1 ≤ r.kind ∧ r.kind ≤ 7 ∧ partsErr r = 0 ∧ kindErr r = 0 := by
  unfold ruleErr at h
  split at h
  · rename_i hk
    by_cases hp : partsErr r = 0
    · rw [if_neg (by omega)] at h
      exact ⟨hk.1, hk.2, hp, h⟩
    · rw [if_pos hp] at h
      exact absurd h hp
  · cases h
theorem parts_right {r : Rul} (h : partsErr r = 0) : r.sources.length ≤ 20 ∧ r.between.length ≤ 100 ∧ r.repl.length ≤ 100 ∧ r.target.length ≤ 100 ∧ ∃ T g, maskIs r.mask = .ok (T, g) := by
  unfold partsErr at h
  by_cases hm : manyR r
  · rw [if_pos hm] at h
    cases h
  · rw [if_neg hm] at h
    unfold manyR at hm
    refine ⟨by omega, by omega, by omega, by omega, ?_⟩
    split at h
    · unfold faultOf at h
      cases hx : maskIs r.mask with
      | error x =>
        obtain ⟨er, a⟩ := x
        rw [hx] at h
        have h1 := (maskIs_pos hx).1
        have h2 : er = 0 := h
        omega
      | ok x => exact ⟨x.1, x.2, rfl⟩
    · cases h

theorem deed_any (w : World) (r : Rul) (v va : Value) (ls : List Lab) (src : List UInt8) {T : Tr} {g : Nat} {tm : List (List UInt8 × Int)} (hr : ruleErr r = 0) (hk : r.kind ≠ 4) (hm : maskIs r.mask = .ok (T, g)) (hsrc : src.length ≤ 2000) (hc : checkB ls = 0) (ha : readsLabels w w.heap.size va ls)
    (htm : r.kind = 1 ∨ r.kind = 5 → tmAt r.repl 0 = some tm) :
    Calls Tryz.prog (deedNo r.kind) #[ruleV r v, va, .string (bs src)] w (DeedPost w va ls (deedB r T g tm ls src)) := by
  obtain ⟨k1, k7, hp, _⟩ := rule_right hr
  obtain ⟨_, _, hrp, htg, _⟩ := parts_right hp
  have hva : ∃ ao n cp, va = .slice ao n cp := by
    obtain ⟨ao, cp, e⟩ := readsLabels_len ha
    exact ⟨ao, _, cp, e⟩
  unfold DeedPost deedB
  by_cases h1 : r.kind = 1
  · rw [if_pos h1, h1]
    refine (replace_any w r v va ls src hm hsrc hc ha (htm (.inl h1)) hrp htg).mono ?_
    rintro e w' ⟨hg, h⟩
    refine ⟨hg, ?_⟩
    cases hw : wayOf T src with
    | none =>
      rw [hw] at h
      obtain ⟨ao, n, cp, rfl⟩ := hva
      exact ⟨ao, n, cp, h, fun _ => .inl ⟨rfl, rfl⟩⟩
    | some l =>
      rw [hw] at h
      obtain ⟨v', rfl, ho⟩ := h
      obtain ⟨ao, cp, rfl⟩ := own_shape ho
      exact ⟨ao, _, cp, rfl, fun _ => .inr ho⟩
  rw [if_neg h1]
  by_cases h2 : r.kind = 2
  · rw [if_pos h2, h2]
    refine (keep_any w r v va src hm hsrc).mono ?_
    rintro e w' ⟨hg, rfl⟩
    obtain ⟨ao, n, cp, rfl⟩ := hva
    exact ⟨hg, ao, n, cp, rfl, fun _ => .inl ⟨rfl, rfl⟩⟩
  rw [if_neg h2]
  by_cases h3 : r.kind = 3
  · rw [if_pos h3, h3]
    refine (drop_any w r v va src hm hsrc).mono ?_
    rintro e w' ⟨hg, rfl⟩
    obtain ⟨ao, n, cp, rfl⟩ := hva
    exact ⟨hg, ao, n, cp, rfl, fun _ => .inl ⟨rfl, rfl⟩⟩
  rw [if_neg h3]
  by_cases h5 : r.kind = 5
  · rw [if_pos h5, h5]
    refine (rename_any w r v va ls src hm hc ha (htm (.inr h5)) hrp).mono ?_
    rintro e w' ⟨hg, h⟩
    refine ⟨hg, ?_⟩
    unfold MapPost at h
    generalize mapGo (nameOf T g tm) ls ls = R at h ⊢
    by_cases hz : R.2 = 0
    · rw [if_neg (by omega)] at h
      obtain ⟨v', rfl, hs⟩ := h
      obtain ⟨ao, n, cp, rfl⟩ := stay_shape hs hva
      refine ⟨ao, n, cp, ?_, fun _ => hs⟩
      simp [hz]
    · rw [if_pos hz] at h
      subst h
      refine ⟨none, 0, 0, ?_, fun h => absurd h hz⟩
      simp [hz]
  rw [if_neg h5]
  by_cases h6 : r.kind = 6
  · rw [if_pos h6, h6]
    refine (lose_any w r v va ls src hm hc ha).mono ?_
    rintro e w' ⟨v', rfl, ho, hg⟩
    obtain ⟨ao, cp, rfl⟩ := own_shape ho
    exact ⟨hg, ao, _, cp, rfl, fun _ => .inr ho⟩
  rw [if_neg h6]
  have h7 : r.kind = 7 := by omega
  rw [h7]
  refine (hold_any w r v va ls src hm hc ha).mono ?_
  rintro e w' ⟨v', rfl, ho, hg⟩
  obtain ⟨ao, cp, rfl⟩ := own_shape ho
  exact ⟨hg, ao, _, cp, rfl, fun _ => .inr ho⟩
end Go.Proofs.YtndpjdmfkhjiiaaGreatDoor.Rl
