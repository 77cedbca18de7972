/- relabel: Apply, where no rule is a RuleShare. -/
import Derived.Test.YtndpjdmfkhjiiaaGreatDoorProg
import Derived.Test.YtndpjdmfkhjiiaaGreatDoorKit
import Derived.Test.YtndpjdmfkhjiiaaGreatDoorReg
import Derived.Test.YtndpjdmfkhjiiaaGreatDoorLMak
import Derived.Test.YtndpjdmfkhjiiaaGreatDoorLSpecV
import Derived.Test.YtndpjdmfkhjiiaaGreatDoorRlA
import Derived.Test.YtndpjdmfkhjiiaaGreatDoorRlB
import Derived.Test.YtndpjdmfkhjiiaaGreatDoorRlC
import Derived.Test.YtndpjdmfkhjiiaaGreatDoorRlE
import Derived.Test.YtndpjdmfkhjiiaaGreatDoorRlF
import Derived.Test.YtndpjdmfkhjiiaaGreatDoorRlI
import Derived.Test.YtndpjdmfkhjiiaaGreatDoorRlK
import Derived.Test.YtndpjdmfkhjiiaaGreatDoorRlM
import Derived.Maps.OwnSet
import Derived.Maps.OwnOps
import Derived.Maps.Views
import Derived.BigFrame
set_option linter.unusedVariables false
set_option linter.unusedSimpArgs false
namespace Go.Proofs.YtndpjdmfkhjiiaaGreatDoor.Rl
open Go.RowKit Lb Go.Maps
attribute [local go_sem] bs_size bs_toList bs_append bs_get bs_extract

/-- Labels that are right are made as they are. -/
theorem make_right {ls : List Lab} (h : checkB ls = 0) : makeErr ls = 0 ∧ makeAns ls = ls := by
  obtain ⟨h1, h2, h3⟩ : eachErr 1 ls = 0 ∧ twiceB ls = false ∧ riseB ls = true := by
    unfold checkB at h
    split at h
    · rename_i h1
      split at h
      · rename_i h2
        split at h
        · rename_i h3; exact ⟨h1, h2, h3⟩
        · cases h
      · cases h
    · rename_i h1; exact absurd h h1
  obtain ⟨hl, hx⟩ := eachErr_zero.1 h1
  have h0 : makeErr ls = 0 := by
    unfold makeErr
    rw [if_pos (eachErr_zero.2 ⟨hl, fun x hm => by have := hx x hm; exact ⟨this.1, by omega, this.2.2⟩⟩), if_pos h2]
  refine ⟨h0, ?_⟩
  rw [makeAns_ok h0]
  refine (makeL_uniq h2 (rise_iff.2 h3) fun y => ⟨fun hy => ⟨hy, fun e => ?_⟩, fun hy => hy.1⟩).symm
  have := (hx y hy).2.1
  rw [e] at this
  simp at this

/-- A rule's mask, groups and template, as they are read. -/
noncomputable def trOf (r : Rul) : Tr × Nat := match maskIs r.mask with | .ok x => x | .error _ => (.nil, 0)
def tmOf (r : Rul) : List (List UInt8 × Int) := (tmAt r.repl 0).getD []
noncomputable def deedR (r : Rul) (ls : List Lab) (src : List UInt8) : List Lab × Bool × Nat := deedB r (trOf r).1 (trOf r).2 (tmOf r) ls src
/-- What comes of rules that are right, one behind the other. -/
noncomputable def ruleGo : List Rul → List Lab → List Lab × Bool × Nat
  | [], made => (made, true, 0)
  | r :: rs, made => if 2000 < (sourceB r made).length then ([], false, 2) else
    if (deedR r made (sourceB r made)).2.2 ≠ 0 ∨ (deedR r made (sourceB r made)).2.1 = false then ([], false, (deedR r made (sourceB r made)).2.2) else ruleGo rs (deedR r made (sourceB r made)).1
/-- What Apply answers. -/
noncomputable def applyB (ls : List Lab) (rs : List Rul) : List Lab × Bool × Nat := if allErr ls rs ≠ 0 then ([], false, allErr ls rs) else ruleGo rs ls

theorem kind_right {r : Rul} (h : kindErr r = 0) : r.kind = 1 ∨ r.kind = 5 → tmAt r.repl 0 = some (tmOf r) := by
  intro hk
  have ht : tmB r.repl = true := by
    unfold kindErr at h
    rcases hk with hk | hk
    · rw [if_pos hk] at h
      split at h
      · rename_i h1; exact h1.2
      · cases h
    · rw [if_neg (by omega), if_neg (by omega), if_pos hk] at h
      split at h
      · rename_i h1; exact h1
      · cases h
  unfold tmB at ht
  unfold tmOf
  cases hx : tmAt r.repl 0 with
  | none => rw [hx] at ht; cases ht
  | some l => rfl
theorem deedR_any (w : World) (r : Rul) (v va : Value) (ls : List Lab) (src : List UInt8) (hr : ruleErr r = 0) (hk : r.kind ≠ 4) (hsrc : src.length ≤ 2000) (hc : checkB ls = 0) (ha : readsLabels w w.heap.size va ls) :
    Calls Tryz.prog (deedNo r.kind) #[ruleV r v, va, .string (bs src)] w (DeedPost w va ls (deedR r ls src)) := by
  obtain ⟨_, _, hp, hke⟩ := rule_right hr
  obtain ⟨_, _, _, _, T, g, hm⟩ := parts_right hp
  have e : trOf r = (T, g) := by unfold trOf; rw [hm]
  have h := deed_any w r v va ls src (tm := tmOf r) hr hk hm hsrc hc ha (kind_right hke)
  unfold deedR
  rw [e]
  exact h
theorem check_filter {ls : List Lab} (h : checkB ls = 0) (p : Lab → Bool) : checkB (ls.filter p) = 0 := by
  obtain ⟨h1, h2⟩ := checkB_zero.1 h
  obtain ⟨hl, hx⟩ := eachErr_zero.1 h1
  refine checkB_zero.2 ⟨eachErr_zero.2 ⟨Nat.le_trans (List.length_filter_le _ _) hl, fun x hm => hx x (List.mem_filter.1 hm).1⟩, rise_iff.1 ?_⟩
  have h3 := rise_iff.2 h2
  unfold Rise at h3 ⊢
  exact h3.filter _
theorem check_with {ls : List Lab} {n v : List UInt8} (h : withErr ls n v = 0) : checkB (withAns ls n v) = 0 := by
  rw [withAns_ok h]
  exact (back_put h).2.1
theorem check_map {f : List UInt8 → Option (List UInt8)} : ∀ {l made : List Lab}, checkB made = 0 → (mapGo f made l).2 = 0 → checkB (mapGo f made l).1 = 0
  | [], made, h, _ => h
  | x :: l, made, h, h0 => by
    rw [mapGo] at h0 ⊢
    cases hf : f x.1 with
    | none =>
      rw [hf] at h0
      exact check_map h h0
    | some n =>
      rw [hf] at h0
      simp only at h0 ⊢
      by_cases hn : nameB n = true
      · rw [if_pos hn] at h0 ⊢
        by_cases hw : withErr made n x.2 = 0
        · rw [if_neg (by omega)] at h0 ⊢
          exact check_map (check_with hw) h0
        · rw [if_pos hw] at h0
          exact absurd h0 hw
      · rw [if_neg hn] at h0 ⊢
        exact check_map h h0
theorem deedR_right {r : Rul} {ls : List Lab} {src : List UInt8} (hc : checkB ls = 0) (h0 : (deedR r ls src).2.2 = 0) : checkB (deedR r ls src).1 = 0 := by
  unfold deedR deedB at h0 ⊢
  by_cases h1 : r.kind = 1
  · rw [if_pos h1] at h0 ⊢
    cases hw : wayOf (trOf r).1 src with
    | none => exact hc
    | some l => rw [hw] at h0; exact check_with h0
  rw [if_neg h1] at h0 ⊢
  by_cases h2 : r.kind = 2
  · rw [if_pos h2]; exact hc
  rw [if_neg h2] at h0 ⊢
  by_cases h3 : r.kind = 3
  · rw [if_pos h3]; exact hc
  rw [if_neg h3] at h0 ⊢
  by_cases h5 : r.kind = 5
  · rw [if_pos h5] at h0 ⊢; exact check_map hc h0
  rw [if_neg h5] at h0 ⊢
  by_cases h6 : r.kind = 6
  · rw [if_pos h6]; exact check_filter hc _
  rw [if_neg h6]
  exact check_filter hc _
theorem rulesErr_zero {l : List Rul} (h : rulesErr l = 0) : ∀ r ∈ l, ruleErr r = 0 := by
  induction l with
  | nil => intro r hr; simp at hr
  | cons x l ih =>
    intro r hr
    have h' : (if ruleErr x ≠ 0 then ruleErr x else rulesErr l) = 0 := h
    by_cases hx : ruleErr x = 0
    · rw [if_neg (by omega)] at h'
      rcases List.mem_cons.1 hr with rfl | hr
      · exact hx
      · exact ih h' r hr
    · rw [if_pos hx] at h'
      exact absurd h' hx
theorem allErr_zero {ls : List Lab} {rs : List Rul} (h : allErr ls rs = 0) : rs.length ≤ 30 ∧ checkB ls = 0 ∧ ∀ r ∈ rs, ruleErr r = 0 := by
  unfold allErr at h
  by_cases h1 : 30 < rs.length
  · rw [if_pos h1] at h; cases h
  · rw [if_neg h1] at h
    by_cases h2 : checkB ls = 0
    · rw [if_neg (by omega)] at h
      exact ⟨by omega, h2, rulesErr_zero h⟩
    · rw [if_pos h2] at h
      exact absurd h h2

end Go.Proofs.YtndpjdmfkhjiiaaGreatDoor.Rl
