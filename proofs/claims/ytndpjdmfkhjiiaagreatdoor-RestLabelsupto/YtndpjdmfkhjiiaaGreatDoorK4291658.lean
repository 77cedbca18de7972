/- 8 texts in one. -/
import Derived.Test.YtndpjdmfkhjiiaaGreatDoorProg
import Derived.Test.YtndpjdmfkhjiiaaGreatDoorK97fdc06
import Derived.Test.YtndpjdmfkhjiiaaGreatDoorKa9444aa
import Derived.Test.YtndpjdmfkhjiiaaGreatDoorK2069ade
import Derived.Test.YtndpjdmfkhjiiaaGreatDoorKeb2af47
import Derived.Test.YtndpjdmfkhjiiaaGreatDoorK0520c6f
import Derived.Test.YtndpjdmfkhjiiaaGreatDoorK49d1723
import Derived.Test.YtndpjdmfkhjiiaaGreatDoorK165fae9
import Derived.Test.YtndpjdmfkhjiiaaGreatDoorKe91f9d2
import Derived.Test.YtndpjdmfkhjiiaaGreatDoorKbfd4df7
import Derived.Test.YtndpjdmfkhjiiaaGreatDoorK8351dc7
import Derived.Test.YtndpjdmfkhjiiaaGreatDoorK2a70092
import Derived.Test.YtndpjdmfkhjiiaaGreatDoorK13c6859
import Derived.Maps.OwnSet
import Derived.Maps.OwnOps
import Derived.Maps.Views
import Derived.BigFrame
import Derived.Laws.OwnMore
import Derived.Test.YtndpjdmfkhjiiaaGreatDoorK36433a5
import Derived.Test.YtndpjdmfkhjiiaaGreatDoorK8a35c84
import Derived.Test.YtndpjdmfkhjiiaaGreatDoorK58b8031
import Derived.BigQuiet
import Derived.Test.YtndpjdmfkhjiiaaGreatDoorKbd7ef7d
import Derived.Lib.Join
set_option linter.unusedVariables false
set_option linter.unusedSimpArgs false
namespace Go.Proofs.YtndpjdmfkhjiiaaGreatDoor.Rl
open Go.RowKit Lb
/-- What a rule that is right does to labels that are right: the labels then, whether they stay, and an error. -/
noncomputable def deedB (r : Rul) (T : Tr) (g : Nat) (tm : List (List UInt8 × Int)) (ls : List Lab) (src : List UInt8) : List Lab × Bool × Nat :=
  if r.kind = 1 then (match wayOf T src with
    | none => (ls, true, 0)
    | some l => (withAns ls r.target (madeB src (tookL src l g) tm), true, withErr ls r.target (madeB src (tookL src l g) tm)))
  else if r.kind = 2 then (ls, likeR T src, 0)
  else if r.kind = 3 then (ls, !likeR T src, 0)
  else if r.kind = 4 then (withAns ls r.target (shareT r src), true, withErr ls r.target (shareT r src))
  else if r.kind = 5 then ((mapGo (nameOf T g tm) ls ls).1, decide ((mapGo (nameOf T g tm) ls ls).2 = 0), (mapGo (nameOf T g tm) ls ls).2)
  else if r.kind = 6 then (ls.filter fun x => !likeR T x.1, true, 0)
  else (ls.filter fun x => likeR T x.1, true, 0)
/-- What a deed's call answers. -/
def DeedPost (w : World) (va : Value) (ls : List Lab) (d : List Lab × Bool × Nat) (e : Ending) (w' : World) : Prop :=
  Grow w w' ∧ ∃ mo n mc, e = .returned (.tuple #[.slice mo n mc, .bool d.2.1, .int .i64 d.2.2]) ∧ (d.2.2 = 0 → Stay w.heap.size va ls (.slice mo n mc) d.1 w')
theorem stay_shape {B : Nat} {v0 v : Value} {l0 l : List Lab} {w : World} (h : Stay B v0 l0 v l w) (h0 : ∃ ao n cp, v0 = .slice ao n cp) : ∃ ao n cp, v = .slice ao n cp := by
  rcases h with ⟨rfl, _⟩ | h
  · exact h0
  · obtain ⟨ao, cp, rfl⟩ := own_shape h
    exact ⟨ao, _, cp, rfl⟩
theorem rule_right {r : Rul} (h : ruleErr r = 0) : 1 ≤ r.kind ∧ r.kind ≤ 7 ∧ partsErr r = 0 ∧ kindErr r = 0 := by
  unfold ruleErr at h
  split at h
  · rename_i hk
    by_cases hp : partsErr r = 0
    · rw [if_neg (by omega)] at h
      exact ⟨hk.1, hk.2, hp, h⟩
    · rw [if_pos hp] at h
      exact absurd h hp
  · cases h
theorem parts_right {r : Rul} (h : partsErr r = 0) : r.sources.length ≤ 20 ∧ r.between.length ≤ 100 ∧ r.repl.length ≤ 100 ∧ r.target.length ≤ 100 ∧ ∃ T g, maskIs r.mask = .ok (T, g) := by
  unfold partsErr at h
  by_cases hm : manyR r
  · rw [if_pos hm] at h
    cases h
  · rw [if_neg hm] at h
    unfold manyR at hm
    refine ⟨by omega, by omega, by omega, by omega, ?_⟩
    split at h
    · unfold faultOf at h
      cases hx : maskIs r.mask with
      | error x =>
        obtain ⟨er, a⟩ := x
        rw [hx] at h
        have h1 := (maskIs_pos hx).1
        have h2 : er = 0 := h
        omega
      | ok x => exact ⟨x.1, x.2, rfl⟩
    · cases h
theorem share_right {r : Rul} (h : r.kind = 4) (hk : kindErr r = 0) : 1 ≤ r.modulus ∧ r.modulus ≤ 1000000 := by
  unfold kindErr at hk
  rw [if_neg (by omega), if_pos h] at hk
  split at hk
  · split at hk
    · cases hk
    · omega
  · cases hk
theorem deed_any (w : World) (r : Rul) (v va : Value) (ls : List Lab) (src : List UInt8) {T : Tr} {g : Nat} {tm : List (List UInt8 × Int)} (hr : ruleErr r = 0) (htab : tabOk w) (hm : maskIs r.mask = .ok (T, g)) (hsrc : src.length ≤ 2000) (hc : checkB ls = 0) (ha : readsLabels w w.heap.size va ls)
    (htm : r.kind = 1 ∨ r.kind = 5 → tmAt r.repl 0 = some tm) :
    Calls Tryz.prog (deedNo r.kind) #[ruleV r v, va, .string (bs src)] w (DeedPost w va ls (deedB r T g tm ls src)) := by
  obtain ⟨k1, k7, hp, hke⟩ := rule_right hr
  obtain ⟨_, _, hrp, htg, _⟩ := parts_right hp
  have hva : ∃ ao n cp, va = .slice ao n cp := by
    obtain ⟨ao, cp, e⟩ := readsLabels_len ha
    exact ⟨ao, _, cp, e⟩
  unfold DeedPost deedB
  by_cases h1 : r.kind = 1
  · rw [if_pos h1, h1]
    refine (replace_any w r v va ls src hm hsrc hc ha (htm (.inl h1)) hrp htg).mono ?_
    rintro e w' ⟨hg, h⟩
    refine ⟨hg, ?_⟩
    cases hw : wayOf T src with
    | none =>
      rw [hw] at h
      obtain ⟨ao, n, cp, rfl⟩ := hva
      exact ⟨ao, n, cp, h, fun _ => .inl ⟨rfl, rfl⟩⟩
    | some l =>
      rw [hw] at h
      obtain ⟨v', rfl, ho⟩ := h
      obtain ⟨ao, cp, rfl⟩ := own_shape ho
      exact ⟨ao, _, cp, rfl, fun _ => .inr ho⟩
  rw [if_neg h1]
  by_cases h2 : r.kind = 2
  · rw [if_pos h2, h2]
    refine (keep_any w r v va src hm hsrc).mono ?_
    rintro e w' ⟨hg, rfl⟩
    obtain ⟨ao, n, cp, rfl⟩ := hva
    exact ⟨hg, ao, n, cp, rfl, fun _ => .inl ⟨rfl, rfl⟩⟩
  rw [if_neg h2]
  by_cases h3 : r.kind = 3
  · rw [if_pos h3, h3]
    refine (drop_any w r v va src hm hsrc).mono ?_
    rintro e w' ⟨hg, rfl⟩
    obtain ⟨ao, n, cp, rfl⟩ := hva
    exact ⟨hg, ao, n, cp, rfl, fun _ => .inl ⟨rfl, rfl⟩⟩
  rw [if_neg h3]
  by_cases h4 : r.kind = 4
  · rw [if_pos h4, h4]
    have hmd := share_right h4 hke
    refine (share_any w r v va ls src hsrc hc ha htg hmd.1 hmd.2 htab).mono ?_
    rintro e w' ⟨hg, v', rfl, ho⟩
    obtain ⟨ao, cp, rfl⟩ := own_shape ho
    exact ⟨hg, ao, _, cp, rfl, fun _ => .inr ho⟩
  rw [if_neg h4]
  by_cases h5 : r.kind = 5
  · rw [if_pos h5, h5]
    refine (rename_any w r v va ls src hm hc ha (htm (.inr h5)) hrp).mono ?_
    rintro e w' ⟨hg, h⟩
    refine ⟨hg, ?_⟩
    unfold MapPost at h
    generalize mapGo (nameOf T g tm) ls ls = R at h ⊢
    by_cases hz : R.2 = 0
    · rw [if_neg (by omega)] at h
      obtain ⟨v', rfl, hs⟩ := h
      obtain ⟨ao, n, cp, rfl⟩ := stay_shape hs hva
      refine ⟨ao, n, cp, ?_, fun _ => hs⟩
      simp [hz]
    · rw [if_pos hz] at h
      subst h
      refine ⟨none, 0, 0, ?_, fun h => absurd h hz⟩
      simp [hz]
  rw [if_neg h5]
  by_cases h6 : r.kind = 6
  · rw [if_pos h6, h6]
    refine (lose_any w r v va ls src hm hc ha).mono ?_
    rintro e w' ⟨v', rfl, ho, hg⟩
    obtain ⟨ao, cp, rfl⟩ := own_shape ho
    exact ⟨hg, ao, _, cp, rfl, fun _ => .inr ho⟩
  rw [if_neg h6]
  have h7 : r.kind = 7 := by omega
  rw [h7]
  refine (hold_any w r v va ls src hm hc ha).mono ?_
  rintro e w' ⟨v', rfl, ho, hg⟩
  obtain ⟨ao, cp, rfl⟩ := own_shape ho
  exact ⟨hg, ao, _, cp, rfl, fun _ => .inr ho⟩
end Go.Proofs.YtndpjdmfkhjiiaaGreatDoor.Rl
namespace Go.Proofs.YtndpjdmfkhjiiaaGreatDoor.Rl
open Go.RowKit Lb Go.Maps
attribute [local go_sem] bs_size bs_toList bs_append bs_get bs_extract
/-- Labels that are right are made as they are. -/
theorem make_right {ls : List Lab} (h : checkB ls = 0) : makeErr ls = 0 ∧ makeAns ls = ls := by
  obtain ⟨h1, h2, h3⟩ : eachErr 1 ls = 0 ∧ twiceB ls = false ∧ riseB ls = true := by
    unfold checkB at h
    split at h
    · rename_i h1
      split at h
      · rename_i h2
        split at h
        · rename_i h3; exact ⟨h1, h2, h3⟩
        · cases h
      · cases h
    · rename_i h1; exact absurd h h1
  obtain ⟨hl, hx⟩ := eachErr_zero.1 h1
  have h0 : makeErr ls = 0 := by
    unfold makeErr
    rw [if_pos (eachErr_zero.2 ⟨hl, fun x hm => by have := hx x hm; exact ⟨this.1, by omega, this.2.2⟩⟩), if_pos h2]
  refine ⟨h0, ?_⟩
  rw [makeAns_ok h0]
  refine (makeL_uniq h2 (rise_iff.2 h3) fun y => ⟨fun hy => ⟨hy, fun e => ?_⟩, fun hy => hy.1⟩).symm
  have := (hx y hy).2.1
  rw [e] at this
  simp at this
/-- A rule's mask, groups and template, as they are read. -/
noncomputable def trOf (r : Rul) : Tr × Nat := match maskIs r.mask with | .ok x => x | .error _ => (.nil, 0)
def tmOf (r : Rul) : List (List UInt8 × Int) := (tmAt r.repl 0).getD []
noncomputable def deedR (r : Rul) (ls : List Lab) (src : List UInt8) : List Lab × Bool × Nat := deedB r (trOf r).1 (trOf r).2 (tmOf r) ls src
/-- What comes of rules that are right, one behind the other. -/
noncomputable def ruleGo : List Rul → List Lab → List Lab × Bool × Nat
  | [], made => (made, true, 0)
  | r :: rs, made => if 2000 < (sourceB r made).length then ([], false, 2) else
    if (deedR r made (sourceB r made)).2.2 ≠ 0 ∨ (deedR r made (sourceB r made)).2.1 = false then ([], false, (deedR r made (sourceB r made)).2.2) else ruleGo rs (deedR r made (sourceB r made)).1
/-- What Apply answers. -/
noncomputable def applyB (ls : List Lab) (rs : List Rul) : List Lab × Bool × Nat := if allErr ls rs ≠ 0 then ([], false, allErr ls rs) else ruleGo rs ls
theorem kind_right {r : Rul} (h : kindErr r = 0) : r.kind = 1 ∨ r.kind = 5 → tmAt r.repl 0 = some (tmOf r) := by
  intro hk
  have ht : tmB r.repl = true := by
    unfold kindErr at h
    rcases hk with hk | hk
    · rw [if_pos hk] at h
      split at h
      · rename_i h1; exact h1.2
      · cases h
    · rw [if_neg (by omega), if_neg (by omega), if_pos hk] at h
      split at h
      · rename_i h1; exact h1
      · cases h
  unfold tmB at ht
  unfold tmOf
  cases hx : tmAt r.repl 0 with
  | none => rw [hx] at ht; cases ht
  | some l => rfl
theorem deedR_any (w : World) (r : Rul) (v va : Value) (ls : List Lab) (src : List UInt8) (hr : ruleErr r = 0) (htab : tabOk w) (hsrc : src.length ≤ 2000) (hc : checkB ls = 0) (ha : readsLabels w w.heap.size va ls) :
    Calls Tryz.prog (deedNo r.kind) #[ruleV r v, va, .string (bs src)] w (DeedPost w va ls (deedR r ls src)) := by
  obtain ⟨_, _, hp, hke⟩ := rule_right hr
  obtain ⟨_, _, _, _, T, g, hm⟩ := parts_right hp
  have e : trOf r = (T, g) := by unfold trOf; rw [hm]
  have h := deed_any w r v va ls src (tm := tmOf r) hr htab hm hsrc hc ha (kind_right hke)
  unfold deedR
  rw [e]
  exact h
theorem check_filter {ls : List Lab} (h : checkB ls = 0) (p : Lab → Bool) : checkB (ls.filter p) = 0 := by
  obtain ⟨h1, h2⟩ := checkB_zero.1 h
  obtain ⟨hl, hx⟩ := eachErr_zero.1 h1
  refine checkB_zero.2 ⟨eachErr_zero.2 ⟨Nat.le_trans (List.length_filter_le _ _) hl, fun x hm => hx x (List.mem_filter.1 hm).1⟩, rise_iff.1 ?_⟩
  have h3 := rise_iff.2 h2
  unfold Rise at h3 ⊢
  exact h3.filter _
theorem check_with {ls : List Lab} {n v : List UInt8} (h : withErr ls n v = 0) : checkB (withAns ls n v) = 0 := by
  rw [withAns_ok h]
  exact (back_put h).2.1
theorem check_map {f : List UInt8 → Option (List UInt8)} : ∀ {l made : List Lab}, checkB made = 0 → (mapGo f made l).2 = 0 → checkB (mapGo f made l).1 = 0
  | [], made, h, _ => h
  | x :: l, made, h, h0 => by
    rw [mapGo] at h0 ⊢
    cases hf : f x.1 with
    | none =>
      rw [hf] at h0
      exact check_map h h0
    | some n =>
      rw [hf] at h0
      simp only at h0 ⊢
      by_cases hn : nameB n = true
      · rw [if_pos hn] at h0 ⊢
        by_cases hw : withErr made n x.2 = 0
        · rw [if_neg (by omega)] at h0 ⊢
          exact check_map (check_with hw) h0
        · rw [if_pos hw] at h0
          exact absurd h0 hw
      · rw [if_neg hn] at h0 ⊢
        exact check_map h h0
theorem deedR_right {r : Rul} {ls : List Lab} {src : List UInt8} (hc : checkB ls = 0) (h0 : (deedR r ls src).2.2 = 0) : checkB (deedR r ls src).1 = 0 := by
  unfold deedR deedB at h0 ⊢
  by_cases h1 : r.kind = 1
  · rw [if_pos h1] at h0 ⊢
    cases hw : wayOf (trOf r).1 src with
    | none => exact hc
    | some l => rw [hw] at h0; exact check_with h0
  rw [if_neg h1] at h0 ⊢
  by_cases h2 : r.kind = 2
  · rw [if_pos h2]; exact hc
  rw [if_neg h2] at h0 ⊢
  by_cases h3 : r.kind = 3
  · rw [if_pos h3]; exact hc
  rw [if_neg h3] at h0 ⊢
  by_cases h4 : r.kind = 4
  · rw [if_pos h4] at h0 ⊢; exact check_with h0
  rw [if_neg h4] at h0 ⊢
  by_cases h5 : r.kind = 5
  · rw [if_pos h5] at h0 ⊢; exact check_map hc h0
  rw [if_neg h5] at h0 ⊢
  by_cases h6 : r.kind = 6
  · rw [if_pos h6]; exact check_filter hc _
  rw [if_neg h6]
  exact check_filter hc _
theorem rulesErr_zero {l : List Rul} (h : rulesErr l = 0) : ∀ r ∈ l, ruleErr r = 0 := by
  induction l with
  | nil => intro r hr; simp at hr
  | cons x l ih =>
    intro r hr
    have h' : (if ruleErr x ≠ 0 then ruleErr x else rulesErr l) = 0 := h
    by_cases hx : ruleErr x = 0
    · rw [if_neg (by omega)] at h'
      rcases List.mem_cons.1 hr with rfl | hr
      · exact hx
      · exact ih h' r hr
    · rw [if_pos hx] at h'
      exact absurd h' hx
theorem allErr_zero {ls : List Lab} {rs : List Rul} (h : allErr ls rs = 0) : rs.length ≤ 30 ∧ checkB ls = 0 ∧ ∀ r ∈ rs, ruleErr r = 0 := by
  unfold allErr at h
  by_cases h1 : 30 < rs.length
  · rw [if_pos h1] at h; cases h
  · rw [if_neg h1] at h
    by_cases h2 : checkB ls = 0
    · rw [if_neg (by omega)] at h
      exact ⟨by omega, h2, rulesErr_zero h⟩
    · rw [if_pos h2] at h
      exact absurd h h2
theorem owns_grow {w w' : World} {b : Nat} {D : DataW Unit} (h : w.ownsMap Tryz.prog 3 funE b 7 D) (hg : Grow w w') : w'.ownsMap Tryz.prog 3 funE b 7 D := by
  obtain ⟨es, c, h1, h2⟩ := h
  exact ⟨es, c, hg.get h1, h2⟩
theorem look_deed {w : World} {b : Nat} {k : Int} (h : w.ownsMap Tryz.prog 3 funE b 7 deedsD) (hk : 1 ≤ k ∧ k ≤ 7) :
    (Instr.lookup 60 (.map (some b)) (.int .i64 k) false).run Tryz.prog w = .ok (.func (.func (deedNo k)) #[] #[]) w := by
  have hkey : keyOf Tryz.prog 3 (.int .i64 k) = some (.int .i64 k) := keyOf_int_mk Tryz.underlying3 (WalkArith.wf_i64 (by omega))
  obtain ⟨v, ps, hrun, hv⟩ := h.lookup (int_keyed Tryz.underlying3) Tryz.underlying60 (Tryz.zeroValue58 _) (zd := .lit (.int .i64 (-1))) (zp := []) rfl hkey
  rw [deeds_at k hk] at hv
  rw [hrun, funE_inv hv]
/-- What Apply's call answers. -/
def ApplyPost (B : Nat) (R : List Lab × Bool × Nat) (e : Ending) (w' : World) : Prop := ∃ mo n mc, e = .returned (.tuple #[.slice mo n mc, .bool R.2.1, .int .i64 R.2.2]) ∧ ownLabels w' B (.slice mo n mc) R.1
theorem ApplyPost.none {B : Nat} {R : List Lab × Bool × Nat} {n : Nat} {w : World} (h : R = ([], false, n)) : ApplyPost B R (.returned (.tuple #[.slice none 0 0, .bool false, .int .i64 n])) w := by
  subst h
  exact ⟨_, _, _, rfl, World.ownsRow_nil _ _ _ _⟩
theorem ApplyPost.some {B n : Nat} {R : List Lab × Bool × Nat} {mo : Option Addr} {mc : Nat} {l : List Lab} {w : World} (h : R = (l, true, 0)) (ho : ownLabels w B (.slice mo n mc) l) : ApplyPost B R (.returned (.tuple #[.slice mo n mc, .bool true, .int .i64 0])) w := by
  subst h
  exact ⟨_, _, _, rfl, ho⟩
set_option maxRecDepth 20000 in
set_option maxHeartbeats 16000000 in
theorem apply_any (w : World) (va vr : Value) (ls : List Lab) (rs : List Rul) (ha : readsLabels w w.heap.size va ls) (hlen : ls.length ≤ 9223372036854775807) (hin : lensOk ls) (hr : readsRules w w.heap.size vr rs) (hrl : rs.length ≤ 9223372036854775807) (hok : okRs rs) (htab : tabOk w) :
    Calls Tryz.prog 13 #[va, vr] w fun e w' => Grow w w' ∧ ApplyPost w.heap.size (applyB ls rs) e w' := by
  have HCA := hide (checkAll_any w va vr ls rs ha hlen hin hr hrl hok)
  obtain ⟨R, HR⟩ : ∃ R, Hid (applyB ls rs = R) := ⟨_, hide rfl⟩
  rw [HR.out]
  have HR1 : Hid ((if allErr ls rs ≠ 0 then ([], false, allErr ls rs) else ruleGo rs ls) = R) := HR
  obtain ⟨lo, lc, hva⟩ := readsLabels_len ha
  subst hva
  have HA := hide ha
  have HIN := hide hin
  have HRR := hide hr
  have HOK := hide hok
  have HTAB := hide htab
  obtain ⟨ro, rc, hvr, _⟩ := hr
  subst hvr
  clear ha hin hok htab HR
  obtain ⟨A, HAE⟩ : ∃ A, Hid (allErr ls rs = A) := ⟨_, hide rfl⟩
  rw [HAE.out] at HCA HR1
  by_cases hA : A = 0
  · have hA' : ((A : Int) != 0) = false := by simp [hA]
    have HZ := allErr_zero (HAE.out.trans hA)
    rw [if_neg (by omega)] at HR1
    obtain ⟨hr30, hc, hrr⟩ := HZ
    have HC := hide hc
    have HRT := hide hrr
    obtain ⟨m1, m2⟩ := make_right hc
    have HMK : Hid (∀ W, Grow w W → Calls Tryz.prog 26 #[.slice lo ls.length lc] W fun e w' => Grow W w' ∧ ∃ mo mc, e = .returned (.tuple #[.slice mo ls.length mc, .int .i64 0]) ∧ ownLabels w' w.heap.size (.slice mo ls.length mc) ls) := hide (fun W hg => by
      refine (make_any W (.slice lo ls.length lc) ls (readsLabels_mono (readsLabels_below HA.out hg) hg.size) hlen HIN.out).mono ?_
      rintro e w' ⟨v', rfl, ho, hb⟩
      rw [m2] at ho
      rw [m1]
      obtain ⟨mo, mc, rfl⟩ := own_shape ho
      exact ⟨hb, mo, mc, rfl, own_le ho hg.size⟩)
    clear hA hc hrr m1 m2
    go_enter Tryz.func13, Tryz.ntmps13
    go_wp2_with fail
    refine HCA.out.mono ?_
    rintro e w1 ⟨rfl, hg1⟩
    have HG1 := hide hg1
    clear hg1
    go_wp2_with fail
    refine (HMK.out w1 HG1.out).mono ?_
    rintro e w2 ⟨hg2, mo, mc, rfl, hown⟩
    have HG2 : Hid (Grow w w2) := hide (HG1.out.trans hg2)
    have HO2 := hide hown
    clear hg2 hown
    go_wp2_with fail
    refine (deeds_any w2).mono ?_
    rintro e w3 ⟨rfl, hg3, hs3, hmap⟩
    have HG3 : Hid (Grow w w3) := hide (HG2.out.trans hg3)
    have HO3 := hide (own_grow HO2.out hg3)
    have HMAP := hide hmap
    generalize w2.heap.size = mb at HMAP ⊢
    clear hg3 hs3 hmap
    go_wp2
    go_loopw [8, 31] (fun mv i wr => ∃ (k : Nat) (made : List Lab) (mo : Option Addr) (mc : Nat), k ≤ rs.length ∧ i = .int .i64 k ∧ mv = .slice mo made.length mc ∧ Hid (ownLabels wr w.heap.size mv made) ∧ Hid (checkB made = 0) ∧ Hid (ruleGo (rs.drop k) made = R) ∧ Hid (Grow w3 wr)) (fun _ i _ => rs.length - (intOf i).toNat)
    case atStart => exact ⟨0, ls, mo, mc, by omega, rfl, rfl, HO3, HC, HR1, hide (Grow.refl _)⟩
    case round =>
      obtain ⟨k, made, mo, mc, hk, rfl, rfl, HO, HCM, HD, HG⟩ := hrel
      have HGw : Hid (Grow w wr) := hide (HG3.out.trans HG.out)
      by_cases hlt : k < rs.length
      · have hrd := HRR.out.keep HGw.out
        obtain ⟨ro', rc', hv', hcells⟩ := hrd
        simp only [Value.slice.injEq] at hv'
        obtain ⟨rfl, -, rfl⟩ := hv'
        obtain ⟨rb, rf, vs, rfl, hlB, hst, d0, d1, d2, d3, d4, d5, d6⟩ := hcells k hlt
        clear hcells
        have hmem := List.getElem_mem hlt
        obtain ⟨hokr, _⟩ := HOK.out _ hmem
        have hrr := HRT.out _ hmem
        have hdrop : ruleGo (rs.drop k) made = ruleGo (rs[k] :: rs.drop (k + 1)) made := by rw [List.drop_eq_getElem_cons hlt]
        obtain ⟨r, HX⟩ : ∃ r : Rul, Hid (rs[k] = r) := ⟨_, hide rfl⟩
        rw [HX.out] at d0 d2 d3 d4 d5 d6 hst hokr hrr hdrop
        obtain ⟨so, sc, evs, _⟩ := id hst
        subst evs
        obtain ⟨W, eW, gW, sW, hW⟩ := laid_rule wr (.int .i64 r.kind) (.slice so r.sources.length sc) (.string (bs r.between)) (.string (bs r.mask)) (.int .i64 r.modulus) (.string (bs r.target)) (.string (bs r.repl)) 24
        have HGW : Hid (Grow w W) := hide (HGw.out.trans gW)
        have HGW3 : Hid (Grow w3 W) := hide (HG.out.trans gW)
        have HOW := hide (own_grow HO.out gW)
        obtain ⟨hk1, hk7, hpe, _⟩ := rule_right hrr
        obtain ⟨hs20, hb100, _, _, _⟩ := parts_right hpe
        have HSrc := hide (source_any W r (.slice so r.sources.length sc) (.slice mo made.length mc) made ((hst.keep (Below.mono gW HGw.out.size)).more HGW.out.size) (reads_ownLabels HOW.out) HCM.out hs20 hb100 (fun s hs => by have := hokr.2.1 s hs; unfold maxLen; omega))
        obtain ⟨c0, c1, c2, c3, c4, c5, c6⟩ := seven_cells hW
        have HW := hide hW
        have HDR := hide hdrop
        rw [HDR.out] at HD
        have HD2 : Hid ((if 2000 < (sourceB r made).length then ([], false, 2) else
          if (deedR r made (sourceB r made)).2.2 ≠ 0 ∨ (deedR r made (sourceB r made)).2.1 = false then ([], false, (deedR r made (sourceB r made)).2.2) else ruleGo (rs.drop (k + 1)) (deedR r made (sourceB r made)).1) = R) := HD
        have HDeed0 := fun W2 src (hs : src.length ≤ 2000) (hgw2 : Grow w W2) (hrd : readsLabels W2 W2.heap.size (.slice mo made.length mc) made) => deedR_any W2 r (.slice so r.sources.length sc) (.slice mo made.length mc) made src hrr (tab_grow HTAB.out hgw2) hs HCM.out hrd
        have HRt0 := fun src => deedR_right (r := r) (src := src) HCM.out
        clear hdrop HDR HD gW hW hst hokr hrr hpe hs20 hb100 hmem
        generalize sourceB r made = src at HSrc HD2
        obtain ⟨d, HDD⟩ : ∃ d, Hid (deedR r made src = d) := ⟨_, hide rfl⟩
        have HRt := hide (HRt0 src)
        have HDeed : Hid (src.length ≤ 2000 → ∀ W2, Grow w W2 → readsLabels W2 W2.heap.size (.slice mo made.length mc) made → Calls Tryz.prog (deedNo r.kind) #[ruleV r (.slice so r.sources.length sc), .slice mo made.length mc, .string (bs src)] W2 (DeedPost W2 (.slice mo made.length mc) made (deedR r made src))) := hide fun hs W2 hgw2 hrd => HDeed0 W2 src hs hgw2 hrd
        rw [HDD.out] at HD2 HRt HDeed
        clear HDeed0 HRt0
        by_cases h2000 : 2000 < src.length
        · have h2000' : (2000 : Int) < src.length := by omega
          rw [if_pos h2000] at HD2
          clear h2000
          go_wp2_with fail
          refine HSrc.out.mono ?_
          rintro e w4 ⟨rfl, hg4⟩
          go_wp2
          simp [bodyPost, results, Tryz.results13, go_sem]
          exact ⟨HGW.out.trans hg4, ApplyPost.none HD2.out.symm⟩
        · have h2000' : ¬ (2000 : Int) < src.length := by omega
          rw [if_neg h2000] at HD2
          have HDeed1 := hide (HDeed.out (by omega))
          have h6 : deedNo r.kind = 60 ∨ deedNo r.kind = 61 ∨ deedNo r.kind = 63 ∨ deedNo r.kind = 64 ∨ deedNo r.kind = 65 ∨ deedNo r.kind = 66 ∨ deedNo r.kind = 69 := by
            have : r.kind = 1 ∨ r.kind = 2 ∨ r.kind = 3 ∨ r.kind = 4 ∨ r.kind = 5 ∨ r.kind = 6 ∨ r.kind = 7 := by omega
            rcases this with h | h | h | h | h | h | h <;> rw [h] <;> decide
          clear h2000 HDeed
          obtain ⟨m1, st, er⟩ := d
          simp only at HD2 HRt
          go_wp2_with fail
          refine HSrc.out.mono ?_
          rintro e w4 ⟨rfl, hg4⟩
          have HG4 : Hid (Grow w w4) := hide (HGW.out.trans hg4)
          have HG34 : Hid (Grow w3 w4) := hide (HGW3.out.trans hg4)
          have HO4 := hide (own_grow HOW.out hg4)
          have hrun := look_deed (k := r.kind) (owns_grow HMAP.out HG34.out) ⟨hk1, hk7⟩
          have HDeed2 := hide (HDeed1.out w4 HG4.out (reads_ownLabels HO4.out))
          obtain ⟨b0, b1, b2, b3, b4, b5, b6⟩ := seven_cells (hg4.get HW.out)
          clear hg4 eW c0 c1 c2 c3 c4 c5 c6 d0 d1 d2 d3 d4 d5 d6 HDeed1 HSrc
          rcases h6 with hN | hN | hN | hN | hN | hN | hN
          all_goals
            rw [hN] at hrun HDeed2
            clear hN
            go_wp2_with fail
            refine HDeed2.out.mono ?_
            rintro e w5 ⟨hg5, mo5, n5, mc5, rfl, hst⟩
            simp only at hst
            have HG5 : Hid (Grow w w5) := hide (HG4.out.trans hg5)
            have HG35 : Hid (Grow w3 w5) := hide (HG34.out.trans hg5)
            by_cases her : er = 0
            · have her' : ((er : Int) != 0) = false := by simp [her]
              have hs0 := hst her
              have HR5 := hide (HRt.out her)
              have hown5 : ownLabels w5 w.heap.size (.slice mo5 n5 mc5) m1 := by
                rcases hs0 with ⟨e1, e2⟩ | ho
                · rw [e1, e2]
                  exact own_grow HO4.out hg5
                · exact own_le ho HG4.out.size
              have HO5 := hide hown5
              obtain ⟨ao5, ac5, hsh⟩ := own_shape hown5
              simp only [Value.slice.injEq] at hsh
              obtain ⟨-, rfl, -⟩ := hsh
              cases st with
              | false =>
                rw [if_pos (.inr rfl)] at HD2
                clear her hs0 hst hown5 hg5 hrun
                go_wp2
                simp [bodyPost, results, Tryz.results13, go_sem]
                exact ⟨HG5.out, ApplyPost.none HD2.out.symm⟩
              | true =>
                rw [if_neg (by rintro (h | h); exact h her; cases h)] at HD2
                clear her hs0 hst hown5 hg5 hrun
                go_wp2
                go_roundw
                case rel => exact ⟨k + 1, m1, mo5, mc5, by omega, by go_num, rfl, HO5, HR5, HD2, HG35⟩
                case measure => simp [intOf]; omega
            · have her' : ((er : Int) != 0) = true := by simp; exact her
              rw [if_pos (.inl her)] at HD2
              clear her hst hg5 hrun
              go_wp2
              simp [bodyPost, results, Tryz.results13, go_sem]
              exact ⟨HG5.out, ApplyPost.none HD2.out.symm⟩
      · have hR : R = (made, true, 0) := by
          rw [← HD.out, List.drop_eq_nil_of_le (by omega)]
          rfl
        have HRE := hide hR
        clear HD hR HR1
        go_wp2
        simp [bodyPost, results, Tryz.results13, go_sem]
        exact ⟨HGw.out, ApplyPost.some HRE.out HO.out⟩
  · have hA' : ((A : Int) != 0) = true := by simp; exact hA
    have hR : R = ([], false, A) := by rw [← HR1.out, if_pos hA]
    have HRE := hide hR
    clear hA HR1 hR
    go_enter Tryz.func13, Tryz.ntmps13
    go_wp2_with fail
    refine HCA.out.mono ?_
    rintro e w1 ⟨rfl, hg1⟩
    go_wp2
    simp [bodyPost, results, Tryz.results13, go_sem]
    exact ⟨hg1, ApplyPost.none HRE.out⟩
end Go.Proofs.YtndpjdmfkhjiiaaGreatDoor.Rl
namespace Go.Proofs.YtndpjdmfkhjiiaaGreatDoor.Rl
open Go.RowKit Lb
attribute [local go_sem] bs_size bs_toList bs_append bs_get bs_extract
/-- The example's labels, and its rule. -/
def begLs : List Lab := [([97], [120, 49])]
def begR : Rul := { kind := 1, sources := [[97]], between := [], mask := [120, 40, 46, 41], modulus := 0, target := [98], repl := [121, 36, 49] }
theorem beg_source : sourceB begR begLs = [120, 49] := by decide +kernel
theorem beg_tm : tmAt begR.repl 0 = some [([121], -1), ([], 1)] := by rfl
theorem beg_all : allErr begLs [begR] = 0 := by decide +kernel
def begT : Tr := .row (.set (between 120 120) 0 (.grp 0 (.row (.set (fun _ => true) 0 .nil) .nil) 0 .nil)) .nil
theorem beg_is : maskIs begR.mask = .ok (begT, 1) := by rfl
theorem beg_way : wayOf begT [120, 49] = some [(0, 1), (1, 2)] := wayOf_eq (f := 60) (by decide)
theorem beg_tr : trOf begR = (begT, 1) := by unfold trOf; rw [beg_is]
theorem beg_tmOf : tmOf begR = [([121], -1), ([], 1)] := by unfold tmOf; rw [beg_tm]; rfl
theorem beg_deed : deedR begR begLs [120, 49] = ([([97], [120, 49]), ([98], [121, 49])], true, 0) := by
  unfold deedR deedB
  rw [if_pos (show begR.kind = 1 from rfl), beg_tr, beg_tmOf]
  simp only [beg_way]
  decide +kernel
theorem beg_apply : applyB begLs [begR] = ([([97], [120, 49]), ([98], [121, 49])], true, 0) := by
  unfold applyB
  rw [if_neg (by rw [beg_all]; simp)]
  unfold ruleGo
  rw [beg_source, if_neg (by decide), beg_deed, if_neg (by simp)]
  rfl
theorem laid3 (w : World) (b1 b2 b3 : Array Value) (t1 t2 t3 : TypeId) : ∃ W : World, ((w.alloc (.cells b1 t1)).alloc (.cells b2 t2)).alloc (.cells b3 t3) = W ∧ Grow w W ∧ W.heap.size = w.heap.size + 3 ∧ W.heap[w.heap.size]? = some (.cells b1 t1 (0, 0)) ∧ W.heap[w.heap.size + 1]? = some (.cells b2 t2 (0, 0)) ∧ W.heap[w.heap.size + 2]? = some (.cells b3 t3 (0, 0)) := by
  have g1 := (Grow.refl w).alloc (.cells b1 t1)
  have h1 := heap_alloc_new w (.cells b1 t1)
  have s1 : (w.alloc (.cells b1 t1)).heap.size = w.heap.size + 1 := by simp
  generalize w.alloc (.cells b1 t1) = A at g1 h1 s1 ⊢
  have g2 := (Grow.refl A).alloc (.cells b2 t2)
  have h2 := heap_alloc_new A (.cells b2 t2)
  have s2 : (A.alloc (.cells b2 t2)).heap.size = A.heap.size + 1 := by simp
  generalize A.alloc (.cells b2 t2) = B at g2 h2 s2 ⊢
  have g3 := (Grow.refl B).alloc (.cells b3 t3)
  have h3 := heap_alloc_new B (.cells b3 t3)
  have s3 : (B.alloc (.cells b3 t3)).heap.size = B.heap.size + 1 := by simp
  refine ⟨_, rfl, (g1.trans g2).trans g3, by omega, (g2.trans g3).get h1, ?_, ?_⟩
  · rw [← s1]; exact g3.get h2
  · rw [show w.heap.size + 2 = B.heap.size by omega]; exact h3
set_option maxRecDepth 20000 in
set_option maxHeartbeats 4000000 in
theorem relabelBegun_any (w : World) (htab : tabOk w) : Calls Tryz.prog 10 #[] w fun e w' => e = .returned (.bool true) ∧ Grow w w' := by
  obtain ⟨W, eW, gW, sW, h1, h2, h3⟩ := laid3 w #[.string { data := #[97] }, .string { data := #[120, 49] }] #[.string { data := #[97] }] #[.int .i64 1, .slice (some ⟨w.heap.size + 1, 0, none⟩) 1 1, .string { data := #[] }, .string { data := #[120, 40, 46, 41] }, .int .i64 0, .string { data := #[98] }, .string { data := #[121, 36, 49] }] 39 9 24
  obtain ⟨a0, a1⟩ := two_cells h1
  have b0 : W.cell? ⟨w.heap.size + 1, 0, none⟩ = some (.string { data := #[97] }) := by simp [World.cell?, h2]
  obtain ⟨c0, c1, c2, c3, c4, c5, c6⟩ := seven_cells h3
  have hA : readsLabels W W.heap.size (.slice (some ⟨w.heap.size, 0, none⟩) 1 1) begLs := by
    refine ⟨_, _, rfl, fun i hi => ?_⟩
    match i, hi with
    | 0, _ => exact ⟨_, _, rfl, by omega, a0, a1⟩
  have hR : readsRules W W.heap.size (.slice (some ⟨w.heap.size + 2, 0, none⟩) 1 1) [begR] := by
    refine ⟨_, _, rfl, fun i hi => ?_⟩
    match i, hi with
    | 0, _ =>
      refine ⟨_, _, _, rfl, by omega, ⟨_, _, rfl, fun j hj => ?_⟩, c0, c1, c2, c3, c4, c5, c6⟩
      match j, hj with
      | 0, _ => exact ⟨_, _, rfl, by omega, b0⟩
  have HAP := hide (apply_any W _ _ begLs [begR] hA (by decide) (fun x hx => by simp [begLs] at hx; subst hx; decide) hR (by decide) (fun r hr => by simp at hr; subst hr; exact ⟨⟨by decide, fun s hs => by simp [begR] at hs; subst hs; decide, by decide, by decide, by decide, by decide⟩, by decide⟩) (tab_grow htab gW))
  rw [beg_apply] at HAP
  have HGW := hide gW
  clear h1 h2 h3 a0 a1 b0 c0 c1 c2 c3 c4 c5 c6 hA hR gW
  go_enter Tryz.func10, Tryz.ntmps10
  go_wp2_with fail
  refine HAP.out.mono ?_
  rintro e w1 ⟨hg1, mo, n, mc, rfl, hown⟩
  have hrd := reads_ownLabels hown
  obtain ⟨ao, cp, e1, hcells⟩ := hrd
  obtain ⟨b, o, rfl, _, d0, d1⟩ := hcells 1 (by decide)
  simp only [Value.slice.injEq] at e1
  obtain ⟨rfl, rfl, rfl⟩ := e1
  have d2 : w1.cell? ⟨b, o + 1 * 2 + 1, none⟩ = some (.string { data := #[121, 49] }) := d1
  have HG1 := hide hg1
  clear hcells d0 d1 hown hg1 eW
  go_wp2
  go_ret
  exact ⟨rfl, HGW.out.trans HG1.out⟩
theorem ruleGo_shape : ∀ (rs : List Rul) (made : List Lab), (∃ n, ruleGo rs made = ([], false, n)) ∨ ∃ l, ruleGo rs made = (l, true, 0)
  | [], made => .inr ⟨made, rfl⟩
  | r :: rs, made => by
    unfold ruleGo
    split
    · exact .inl ⟨_, rfl⟩
    · split
      · exact .inl ⟨_, rfl⟩
      · exact ruleGo_shape rs _
theorem ruleGo_right : ∀ (rs : List Rul) (made : List Lab), checkB made = 0 → (ruleGo rs made).2.1 = true → checkB (ruleGo rs made).1 = 0
  | [], made, h, _ => h
  | r :: rs, made, h, h1 => by
    unfold ruleGo at h1 ⊢
    by_cases k1 : 2000 < (sourceB r made).length
    · rw [if_pos k1] at h1; cases h1
    · rw [if_neg k1] at h1 ⊢
      by_cases k2 : (deedR r made (sourceB r made)).2.2 ≠ 0 ∨ (deedR r made (sourceB r made)).2.1 = false
      · rw [if_pos k2] at h1; cases h1
      · rw [if_neg k2] at h1 ⊢
        exact ruleGo_right rs _ (deedR_right h (by omega)) h1
/-- What comes of Apply: nothing and an error, nothing without one, or labels that are right. -/
theorem apply_shape (ls : List Lab) (rs : List Rul) : (∃ n, n ≠ 0 ∧ applyB ls rs = ([], false, n)) ∨ (allErr ls rs = 0 ∧ applyB ls rs = ruleGo rs ls ∧ (applyB ls rs = ([], false, 0) ∨ ∃ l, applyB ls rs = (l, true, 0) ∧ checkB l = 0)) := by
  unfold applyB
  by_cases h : allErr ls rs = 0
  · rw [if_neg (by omega)]
    rcases ruleGo_shape rs ls with ⟨n, e⟩ | ⟨l, e⟩
    · by_cases hn : n = 0
      · subst hn; exact .inr ⟨h, rfl, .inl e⟩
      · exact .inl ⟨n, hn, e⟩
    · have hr := ruleGo_right rs ls (allErr_zero h).2.1 (by rw [e])
      rw [e] at hr
      exact .inr ⟨h, rfl, .inr ⟨l, e, hr⟩⟩
  · rw [if_pos h]
    exact .inl ⟨_, h, rfl⟩
/-! ### rows of rules -/
theorem readsRules.more {w : World} {B B' : Nat} {v : Value} {rs : List Rul} (h : readsRules w B v rs) (hB : B ≤ B') : readsRules w B' v rs := by
  obtain ⟨ao, cp, hv, h⟩ := h
  refine ⟨ao, cp, hv, fun i hi => ?_⟩
  obtain ⟨b, o, vs, e, hb, hs, hc⟩ := h i hi
  exact ⟨b, o, vs, e, by omega, hs.more hB, hc⟩
/-- A number's limbs, the lowest first. -/
def limbs (n : Nat) : List Nat := if n = 0 then [] else n % 65536 :: limbs (n / 65536)
theorem limbs_zero : limbs 0 = [] := by unfold limbs; rfl
theorem limbs_pos {n : Nat} (h : 0 < n) : limbs n = n % 65536 :: limbs (n / 65536) := by rw [limbs, if_neg (by omega)]
theorem limbs_len : ∀ (k n : Nat), n < 65536 ^ k → (limbs n).length ≤ k
  | 0, n, h => by obtain rfl : n = 0 := by simp at h; omega
                  rw [limbs_zero]; simp
  | k + 1, n, h => by
    by_cases h0 : n = 0
    · subst h0; rw [limbs_zero]; simp
    · rw [limbs_pos (by omega), List.length_cons]
      have := limbs_len k (n / 65536) (by rw [Nat.div_lt_iff_lt_mul (by decide)]; rw [Nat.pow_succ] at h; exact h)
      omega
def limV (l : List Nat) : List Value := l.map fun (k : Nat) => Value.int .i64 (k : Int)
theorem limV_snoc (l : List Nat) (k : Nat) : limV (l ++ [k]) = limV l ++ limV [k] := by simp [limV]
def ownLim (w : World) (B : Nat) (v : Value) (l : List Nat) : Prop := w.ownsRow B 3 1 v l.length (limV l)
set_option maxRecDepth 20000 in
set_option maxHeartbeats 4000000 in
theorem from_any (w : World) (n : Nat) (h : n < 65536 ^ 3) : Calls Tryz.prog 22 #[.int .i64 n] w fun e w' => Grow w w' ∧ ∃ v, e = .returned v ∧ ownLim w' w.heap.size v (limbs n) := by
  obtain ⟨i0, hinf, hz0, hz1, hz2⟩ := info_parts Tryz.infoI
  have hlen := limbs_len 3 n h
  obtain ⟨L, HL⟩ : ∃ L, Hid (limbs n = L) := ⟨_, hide rfl⟩
  rw [HL.out] at hlen ⊢
  go_enter Tryz.func22, Tryz.ntmps22
  go_wp2
  go_loopw [0, 3] (fun a v wr => ∃ (m : Nat) (pre : List Nat), a = .int .i64 m ∧ m ≤ n ∧ Hid (pre ++ limbs m = L) ∧ Hid (Grow w wr) ∧ Hid (ownLim wr w.heap.size v pre)) (fun a _ _ => (intOf a).toNat)
  case atStart => exact ⟨n, [], rfl, by omega, HL, hide (Grow.refl _), hide (World.ownsRow_nil _ _ _ _)⟩
  case round =>
    obtain ⟨m, pre, rfl, hmn, HP, HG, HO⟩ := hrel
    have hbs := HG.out.size
    by_cases h0 : m = 0
    · subst h0
      have hpl : pre = L := by have := HP.out; rw [limbs_zero, List.append_nil] at this; exact this
      subst hpl
      obtain ⟨vo, vc, rfl⟩ := own_shape HO.out
      go_wp2
      go_ret
      exact ⟨HG.out, _, rfl, HO.out⟩
    · have hm0 : (0 : Int) < m := by omega
      have HS : Hid ((pre ++ [m % 65536]) ++ limbs (m / 65536) = L) := hide (by
        have := HP.out
        rw [limbs_pos (by omega)] at this
        rw [List.append_assoc]
        exact this)
      have hpl : pre.length ≤ 3 := by
        have := congrArg List.length HS.out
        simp at this
        omega
      have hown := HO.out
      obtain ⟨vo, vc, rfl⟩ := own_shape hown
      go_wp2_with (at_builtin; go_loud (refine wpList_append_own _ rfl _ _ 46 rfl w.heap.size 3 i0 (.int .i64 0) 1 8 Tryz.underlying46 hinf hz0 hz1 hz2 rfl (by omega) (.slice vo pre.length vc) pre.length (limV pre) rfl (hown.alloc _) ⟨wr.heap.size, 0, none⟩ 1 1 (limV [m % 65536]) rfl rfl (World.news_of_block (cs := #[.int .i64 ((m % 65536 : Nat) : Int)]) (heap_alloc_new wr _)) (by simp [limV, Value.oneCell']) (by unfold maxLen; omega) (by omega) (by simp; omega) ?_); intro v' w1 hown' hgrow _)
      have hbw : Below w.heap.size w (wr.alloc (.cells #[.int .i64 ((m % 65536 : Nat) : Int)] 3)) := Grow.alloc HG.out _
      have hgr : Grow w w1 := hbw.grown hgrow (by simp; omega) (fun j hj => (hown.lt j hj).1)
      refine ⟨⟨m / 65536, pre ++ [m % 65536], rfl, by omega, HS, hide hgr, hide ?_⟩, ?_⟩
      · show World.ownsRow _ _ _ _ _ _ _
        rw [List.length_append, limV_snoc]
        exact hown'
      · simp [intOf]; omega
/-- A row of numbers that can be read. -/
def readsLim (w : World) (B : Nat) (v : Value) (l : List Nat) : Prop :=
  ∃ ao cp, v = .slice ao l.length cp ∧ l.length ≤ cp ∧ ∀ i (h : i < l.length), ∃ b o, ao = some ⟨b, o, none⟩ ∧ b < B ∧ w.cell? ⟨b, o + i, none⟩ = some (.int .i64 ((l[i] : Nat) : Int))
end Go.Proofs.YtndpjdmfkhjiiaaGreatDoor.Rl
namespace Go.Proofs.YtndpjdmfkhjiiaaGreatDoor.Rl
open Go.RowKit Lb
/-! ### the source -/
/-! ### what is made -/
/-! ### labels that are put, more and more -/
theorem putGo_le (n v : List UInt8) : ∀ (l : List Lab) (b : Bool), (putGo n v b l).length ≤ l.length + 1
  | [], b => by cases b <;> simp [putGo]
  | x :: l, b => by
    have ih1 := putGo_le n v l true
    have ih2 := putGo_le n v l b
    have ih3 : (putGo n v true l).length ≤ l.length := by rw [putGo_true]; exact List.length_filter_le _ _
    rw [putGo]
    split
    · split <;> simp only [List.length_cons] <;> omega
    · split <;> simp only [List.length_cons] <;> omega
theorem putB_le (l : List Lab) (n v : List UInt8) : (putB l n v).length ≤ l.length + 1 := putGo_le n v l _
/-! ### the deed, as the document has it -/
section
variable {rs : List Rul} {r : Rul} {made : List Lab} {src : List UInt8} {T : Tr} {g : Nat} {tm : List (List UInt8 × Int)}
theorem filter_take {p : Lab → Bool} {l : List Lab} {j : Nat} (h : j < l.length) : (l.take (j + 1)).filter p = (l.take j).filter p ++ if p l[j] = true then [l[j]] else [] := by
  rw [List.take_succ_eq_append_getElem h, List.filter_append]
  congr 1
  cases hp : p l[j] <;> simp [hp]
end
end Go.Proofs.YtndpjdmfkhjiiaaGreatDoor.Rl
