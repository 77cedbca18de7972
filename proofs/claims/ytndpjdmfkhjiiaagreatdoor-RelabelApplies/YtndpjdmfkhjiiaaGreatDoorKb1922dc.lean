/- 8 texts in one. -/
import Derived.Test.YtndpjdmfkhjiiaaGreatDoorProg
import Derived.Test.YtndpjdmfkhjiiaaGreatDoorK06d19db
import Derived.Test.YtndpjdmfkhjiiaaGreatDoorK5b78f3b
import Derived.Test.YtndpjdmfkhjiiaaGreatDoorKdd7ec6c
import Derived.Test.YtndpjdmfkhjiiaaGreatDoorK056c889
import Derived.Test.YtndpjdmfkhjiiaaGreatDoorK8271320
import Derived.Test.YtndpjdmfkhjiiaaGreatDoorKe104cae
import Derived.Test.YtndpjdmfkhjiiaaGreatDoorKb175c3f
import Derived.Test.YtndpjdmfkhjiiaaGreatDoorK9dd23bf
import Derived.Test.YtndpjdmfkhjiiaaGreatDoorK2456ad3
import Derived.Test.YtndpjdmfkhjiiaaGreatDoorK304ec54
import Derived.Test.YtndpjdmfkhjiiaaGreatDoorKa585d5f
import Derived.Test.YtndpjdmfkhjiiaaGreatDoorK7b71bcd
import Derived.Maps.OwnSet
import Derived.Maps.OwnOps
import Derived.Maps.Views
import Derived.BigFrame
import Derived.Test.YtndpjdmfkhjiiaaGreatDoorKb583056
import Derived.Test.YtndpjdmfkhjiiaaGreatDoorKf25e925
import Derived.Test.YtndpjdmfkhjiiaaGreatDoorK777559e
import Derived.Test.YtndpjdmfkhjiiaaGreatDoorK0690efd
import Derived.Test.YtndpjdmfkhjiiaaGreatDoorK2fdbf70
import Derived.BigQuiet
import Derived.Laws.OwnMore
import Derived.Test.YtndpjdmfkhjiiaaGreatDoorK34decd3
import Derived.Test.YtndpjdmfkhjiiaaGreatDoorK4e92b3d
import Derived.Test.YtndpjdmfkhjiiaaGreatDoorKab34d13
import Derived.Test.YtndpjdmfkhjiiaaGreatDoorKb639f27
import Derived.Lib.Join
set_option linter.unusedVariables false
set_option linter.unusedSimpArgs false
namespace Go.Proofs.YtndpjdmfkhjiiaaGreatDoor.Rl
open Go.RowKit Lb
noncomputable def deedB (r : Rul) (T : Tr) (g : Nat) (tm : List (List UInt8 × Int)) (ls : List Lab) (src : List UInt8) : List Lab × Bool × Nat :=
 if r.kind = 1 then (match wayOf T src with
  | none => (ls, true, 0)
  | some l => (withAns ls r.target (madeB src (tookL src l g) tm), true, withErr ls r.target (madeB src (tookL src l g) tm)))
 else if r.kind = 2 then (ls, likeR T src, 0)
 else if r.kind = 3 then (ls, !likeR T src, 0)
 else if r.kind = 4 then (withAns ls r.target (shareT r src), true, withErr ls r.target (shareT r src))
 else if r.kind = 5 then ((mapGo (nameOf T g tm) ls ls).1, decide ((mapGo (nameOf T g tm) ls ls).2 = 0), (mapGo (nameOf T g tm) ls ls).2)
 else if r.kind = 6 then (ls.filter fun x => !likeR T x.1, true, 0)
 else (ls.filter fun x => likeR T x.1, true, 0)
def DeedPost (w : World) (va : Value) (ls : List Lab) (d : List Lab × Bool × Nat) (e : Ending) (w' : World) : Prop :=
 Grow w w' ∧ ∃ mo n mc, e = .returned (.tuple #[.slice mo n mc, .bool d.2.1, .int .i64 d.2.2]) ∧ (d.2.2 = 0 → Stay w.heap.size va ls (.slice mo n mc) d.1 w')
theorem stay_shape {B : Nat} {v0 v : Value} {l0 l : List Lab} {w : World} (h : Stay B v0 l0 v l w) (h0 : ∃ ao n cp, v0 = .slice ao n cp) : ∃ ao n cp, v = .slice ao n cp := by
 rcases h with ⟨rfl, _⟩ | h
 ·
  exact h0
 ·
  obtain ⟨ao, cp, rfl⟩ := own_shape h
  exact ⟨ao, _, cp, rfl⟩
theorem rule_right {r : Rul} (h : ruleErr r = 0) : 1 ≤ r.kind ∧ r.kind ≤ 7 ∧ partsErr r = 0 ∧ kindErr r = 0 := by
 unfold ruleErr at h
 split at h
 ·
  rename_i hk
  by_cases hp : partsErr r = 0
  ·
   rw [if_neg (by omega)] at h
   exact ⟨hk.1, hk.2, hp, h⟩
  ·
   rw [if_pos hp] at h
   exact absurd h hp
 ·
  cases h
theorem parts_right {r : Rul} (h : partsErr r = 0) : r.sources.length ≤ 20 ∧ r.between.length ≤ 100 ∧ r.repl.length ≤ 100 ∧ r.target.length ≤ 100 ∧ ∃ T g, maskIs r.mask = .ok (T, g) := by
 unfold partsErr at h
 by_cases hm : manyR r
 ·
  rw [if_pos hm] at h
  cases h
 ·
  rw [if_neg hm] at h
  unfold manyR at hm
  refine ⟨by omega, by omega, by omega, by omega, ?_⟩
  split at h
  ·
   unfold faultOf at h
   cases hx : maskIs r.mask with
   | error x =>
    obtain ⟨er, a⟩ := x
    rw [hx] at h
    have h1 := (maskIs_pos hx).1
    have h2 : er = 0 := h
    omega
   | ok x => exact ⟨x.1, x.2, rfl⟩
  ·
   cases h
theorem share_right {r : Rul} (h : r.kind = 4) (hk : kindErr r = 0) : 1 ≤ r.modulus ∧ r.modulus ≤ 1000000 := by
 unfold kindErr at hk
 rw [if_neg (by omega), if_pos h] at hk
 split at hk
 ·
  split at hk
  ·
   cases hk
  ·
   omega
 ·
  cases hk
theorem deed_any (w : World) (r : Rul) (v va : Value) (ls : List Lab) (src : List UInt8) {T : Tr} {g : Nat} {tm : List (List UInt8 × Int)} (hr : ruleErr r = 0) (htab : tabOk w) (hm : maskIs r.mask = .ok (T, g)) (hsrc : src.length ≤ 2000) (hc : checkB ls = 0) (ha : readsLabels w w.heap.size va ls)
  (htm : r.kind = 1 ∨ r.kind = 5 → tmAt r.repl 0 = some tm) :
  Calls Tryz.prog (deedNo r.kind) #[ruleV r v, va, .string (bs src)] w (DeedPost w va ls (deedB r T g tm ls src)) := by
 obtain ⟨k1, k7, hp, hke⟩ := rule_right hr
 obtain ⟨_, _, hrp, htg, _⟩ := parts_right hp
 have hva : ∃ ao n cp, va = .slice ao n cp := by
  obtain ⟨ao, cp, e⟩ := readsLabels_len ha
  exact ⟨ao, _, cp, e⟩
 unfold DeedPost deedB
 by_cases h1 : r.kind = 1
 ·
  rw [if_pos h1, h1]
  refine (replace_any w r v va ls src hm hsrc hc ha (htm (.inl h1)) hrp htg).mono ?_
  rintro e w' ⟨hg, h⟩
  refine ⟨hg, ?_⟩
  cases hw : wayOf T src with
  | none =>
   rw [hw] at h
   obtain ⟨ao, n, cp, rfl⟩ := hva
   exact ⟨ao, n, cp, h, fun _ => .inl ⟨rfl, rfl⟩⟩
  | some l =>
   rw [hw] at h
   obtain ⟨v', rfl, ho⟩ := h
   obtain ⟨ao, cp, rfl⟩ := own_shape ho
   exact ⟨ao, _, cp, rfl, fun _ => .inr ho⟩
 rw [if_neg h1]
 by_cases h2 : r.kind = 2
 ·
  rw [if_pos h2, h2]
  refine (keep_any w r v va src hm hsrc).mono ?_
  rintro e w' ⟨hg, rfl⟩
  obtain ⟨ao, n, cp, rfl⟩ := hva
  exact ⟨hg, ao, n, cp, rfl, fun _ => .inl ⟨rfl, rfl⟩⟩
 rw [if_neg h2]
 by_cases h3 : r.kind = 3
 ·
  rw [if_pos h3, h3]
  refine (drop_any w r v va src hm hsrc).mono ?_
  rintro e w' ⟨hg, rfl⟩
  obtain ⟨ao, n, cp, rfl⟩ := hva
  exact ⟨hg, ao, n, cp, rfl, fun _ => .inl ⟨rfl, rfl⟩⟩
 rw [if_neg h3]
 by_cases h4 : r.kind = 4
 ·
  rw [if_pos h4, h4]
  have hmd := share_right h4 hke
  refine (share_any w r v va ls src hsrc hc ha htg hmd.1 hmd.2 htab).mono ?_
  rintro e w' ⟨hg, v', rfl, ho⟩
  obtain ⟨ao, cp, rfl⟩ := own_shape ho
  exact ⟨hg, ao, _, cp, rfl, fun _ => .inr ho⟩
 rw [if_neg h4]
 by_cases h5 : r.kind = 5
 ·
  rw [if_pos h5, h5]
  refine (rename_any w r v va ls src hm hc ha (htm (.inr h5)) hrp).mono ?_
  rintro e w' ⟨hg, h⟩
  refine ⟨hg, ?_⟩
  unfold MapPost at h
  generalize mapGo (nameOf T g tm) ls ls = R at h ⊢
  by_cases hz : R.2 = 0
  ·
   rw [if_neg (by omega)] at h
   obtain ⟨v', rfl, hs⟩ := h
   obtain ⟨ao, n, cp, rfl⟩ := stay_shape hs hva
   refine ⟨ao, n, cp, ?_, fun _ => hs⟩
   simp [hz]
  ·
   rw [if_pos hz] at h
   subst h
   refine ⟨none, 0, 0, ?_, fun h => absurd h hz⟩
   simp [hz]
 rw [if_neg h5]
 by_cases h6 : r.kind = 6
 ·
  rw [if_pos h6, h6]
  refine (lose_any w r v va ls src hm hc ha).mono ?_
  rintro e w' ⟨v', rfl, ho, hg⟩
  obtain ⟨ao, cp, rfl⟩ := own_shape ho
  exact ⟨hg, ao, _, cp, rfl, fun _ => .inr ho⟩
 rw [if_neg h6]
 have h7 : r.kind = 7 := by omega
 rw [h7]
 refine (hold_any w r v va ls src hm hc ha).mono ?_
 rintro e w' ⟨v', rfl, ho, hg⟩
 obtain ⟨ao, cp, rfl⟩ := own_shape ho
 exact ⟨hg, ao, _, cp, rfl, fun _ => .inr ho⟩
end Go.Proofs.YtndpjdmfkhjiiaaGreatDoor.Rl
namespace Go.Proofs.YtndpjdmfkhjiiaaGreatDoor.Rl
open Go.RowKit Lb Go.Maps
attribute [local go_sem] bs_size bs_toList bs_append bs_get bs_extract
theorem make_right {ls : List Lab} (h : checkB ls = 0) : makeErr ls = 0 ∧ makeAns ls = ls := by
 obtain ⟨h1, h2, h3⟩ : eachErr 1 ls = 0 ∧ twiceB ls = false ∧ riseB ls = true := by
  unfold checkB at h
  split at h
  ·
   rename_i h1
   split at h
   ·
    rename_i h2
    split at h
    ·
     rename_i h3; exact ⟨h1, h2, h3⟩
    ·
     cases h
   ·
    cases h
  ·
   rename_i h1; exact absurd h h1
 obtain ⟨hl, hx⟩ := eachErr_zero.1 h1
 have h0 : makeErr ls = 0 := by
  unfold makeErr
  rw [if_pos (eachErr_zero.2 ⟨hl, fun x hm => by have := hx x hm; exact ⟨this.1, by omega, this.2.2⟩⟩), if_pos h2]
 refine ⟨h0, ?_⟩
 rw [makeAns_ok h0]
 refine (makeL_uniq h2 (rise_iff.2 h3) fun y => ⟨fun hy => ⟨hy, fun e => ?_⟩, fun hy => hy.1⟩).symm
 have := (hx y hy).2.1
 rw [e] at this
 simp at this
noncomputable def trOf (r : Rul) : Tr × Nat := match maskIs r.mask with | .ok x => x | .error _ => (.nil, 0)
def tmOf (r : Rul) : List (List UInt8 × Int) := (tmAt r.repl 0).getD []
noncomputable def deedR (r : Rul) (ls : List Lab) (src : List UInt8) : List Lab × Bool × Nat := deedB r (trOf r).1 (trOf r).2 (tmOf r) ls src
noncomputable def ruleGo : List Rul → List Lab → List Lab × Bool × Nat
 | [], made => (made, true, 0)
 | r :: rs, made => if 2000 < (sourceB r made).length then ([], false, 2) else
  if (deedR r made (sourceB r made)).2.2 ≠ 0 ∨ (deedR r made (sourceB r made)).2.1 = false then ([], false, (deedR r made (sourceB r made)).2.2) else ruleGo rs (deedR r made (sourceB r made)).1
noncomputable def applyB (ls : List Lab) (rs : List Rul) : List Lab × Bool × Nat := if allErr ls rs ≠ 0 then ([], false, allErr ls rs) else ruleGo rs ls
theorem kind_right {r : Rul} (h : kindErr r = 0) : r.kind = 1 ∨ r.kind = 5 → tmAt r.repl 0 = some (tmOf r) := by
 intro hk
 have ht : tmB r.repl = true := by
  unfold kindErr at h
  rcases hk with hk | hk
  ·
   rw [if_pos hk] at h
   split at h
   ·
    rename_i h1; exact h1.2
   ·
    cases h
  ·
   rw [if_neg (by omega), if_neg (by omega), if_pos hk] at h
   split at h
   ·
    rename_i h1; exact h1
   ·
    cases h
 unfold tmB at ht
 unfold tmOf
 cases hx : tmAt r.repl 0 with
 | none => rw [hx] at ht; cases ht
 | some l => rfl
theorem deedR_any (w : World) (r : Rul) (v va : Value) (ls : List Lab) (src : List UInt8) (hr : ruleErr r = 0) (htab : tabOk w) (hsrc : src.length ≤ 2000) (hc : checkB ls = 0) (ha : readsLabels w w.heap.size va ls) :
  Calls Tryz.prog (deedNo r.kind) #[ruleV r v, va, .string (bs src)] w (DeedPost w va ls (deedR r ls src)) := by
 obtain ⟨_, _, hp, hke⟩ := rule_right hr
 obtain ⟨_, _, _, _, T, g, hm⟩ := parts_right hp
 have e : trOf r = (T, g) := by unfold trOf; rw [hm]
 have h := deed_any w r v va ls src (tm := tmOf r) hr htab hm hsrc hc ha (kind_right hke)
 unfold deedR
 rw [e]
 exact h
theorem check_filter {ls : List Lab} (h : checkB ls = 0) (p : Lab → Bool) : checkB (ls.filter p) = 0 := by
 obtain ⟨h1, h2⟩ := checkB_zero.1 h
 obtain ⟨hl, hx⟩ := eachErr_zero.1 h1
 refine checkB_zero.2 ⟨eachErr_zero.2 ⟨Nat.le_trans (List.length_filter_le _ _) hl, fun x hm => hx x (List.mem_filter.1 hm).1⟩, rise_iff.1 ?_⟩
 have h3 := rise_iff.2 h2
 unfold Rise at h3 ⊢
 exact h3.filter _
theorem check_with {ls : List Lab} {n v : List UInt8} (h : withErr ls n v = 0) : checkB (withAns ls n v) = 0 := by
 rw [withAns_ok h]
 exact (back_put h).2.1
theorem check_map {f : List UInt8 → Option (List UInt8)} : ∀ {l made : List Lab}, checkB made = 0 → (mapGo f made l).2 = 0 → checkB (mapGo f made l).1 = 0
 | [], made, h, _ => h
 | x :: l, made, h, h0 => by
  rw [mapGo] at h0 ⊢
  cases hf : f x.1 with
  | none =>
   rw [hf] at h0
   exact check_map h h0
  | some n =>
   rw [hf] at h0
   simp only at h0 ⊢
   by_cases hn : nameB n = true
   ·
    rw [if_pos hn] at h0 ⊢
    by_cases hw : withErr made n x.2 = 0
    ·
     rw [if_neg (by omega)] at h0 ⊢
     exact check_map (check_with hw) h0
    ·
     rw [if_pos hw] at h0
     exact absurd h0 hw
   ·
    rw [if_neg hn] at h0 ⊢
    exact check_map h h0
theorem deedR_right {r : Rul} {ls : List Lab} {src : List UInt8} (hc : checkB ls = 0) (h0 : (deedR r ls src).2.2 = 0) : checkB (deedR r ls src).1 = 0 := by
 unfold deedR deedB at h0 ⊢
 by_cases h1 : r.kind = 1
 ·
  rw [if_pos h1] at h0 ⊢
  cases hw : wayOf (trOf r).1 src with
  | none => exact hc
  | some l => rw [hw] at h0; exact check_with h0
 rw [if_neg h1] at h0 ⊢
 by_cases h2 : r.kind = 2
 ·
  rw [if_pos h2]; exact hc
 rw [if_neg h2] at h0 ⊢
 by_cases h3 : r.kind = 3
 ·
  rw [if_pos h3]; exact hc
 rw [if_neg h3] at h0 ⊢
 by_cases h4 : r.kind = 4
 ·
  rw [if_pos h4] at h0 ⊢; exact check_with h0
 rw [if_neg h4] at h0 ⊢
 by_cases h5 : r.kind = 5
 ·
  rw [if_pos h5] at h0 ⊢; exact check_map hc h0
 rw [if_neg h5] at h0 ⊢
 by_cases h6 : r.kind = 6
 ·
  rw [if_pos h6]; exact check_filter hc _
 rw [if_neg h6]
 exact check_filter hc _
theorem rulesErr_zero {l : List Rul} (h : rulesErr l = 0) : ∀ r ∈ l, ruleErr r = 0 := by
 induction l with
 | nil => intro r hr; simp at hr
 | cons x l ih =>
  intro r hr
  have h' : (if ruleErr x ≠ 0 then ruleErr x else rulesErr l) = 0 := h
  by_cases hx : ruleErr x = 0
  ·
   rw [if_neg (by omega)] at h'
   rcases List.mem_cons.1 hr with rfl | hr
   ·
    exact hx
   ·
    exact ih h' r hr
  ·
   rw [if_pos hx] at h'
   exact absurd h' hx
theorem allErr_zero {ls : List Lab} {rs : List Rul} (h : allErr ls rs = 0) : rs.length ≤ 30 ∧ checkB ls = 0 ∧ ∀ r ∈ rs, ruleErr r = 0 := by
 unfold allErr at h
 by_cases h1 : 30 < rs.length
 ·
  rw [if_pos h1] at h; cases h
 ·
  rw [if_neg h1] at h
  by_cases h2 : checkB ls = 0
  ·
   rw [if_neg (by omega)] at h
   exact ⟨by omega, h2, rulesErr_zero h⟩
  ·
   rw [if_pos h2] at h
   exact absurd h h2
theorem owns_grow {w w' : World} {b : Nat} {D : DataW Unit} (h : w.ownsMap Tryz.prog 3 funE b 7 D) (hg : Grow w w') : w'.ownsMap Tryz.prog 3 funE b 7 D := by
 obtain ⟨es, c, h1, h2⟩ := h
 exact ⟨es, c, hg.get h1, h2⟩
theorem look_deed {w : World} {b : Nat} {k : Int} (h : w.ownsMap Tryz.prog 3 funE b 7 deedsD) (hk : 1 ≤ k ∧ k ≤ 7) :
  (Instr.lookup 60 (.map (some b)) (.int .i64 k) false).run Tryz.prog w = .ok (.func (.func (deedNo k)) #[] #[]) w := by
 have hkey : keyOf Tryz.prog 3 (.int .i64 k) = some (.int .i64 k) := keyOf_int_mk Tryz.underlying3 (WalkArith.wf_i64 (by omega))
 obtain ⟨v, ps, hrun, hv⟩ := h.lookup (int_keyed Tryz.underlying3) Tryz.underlying60 (Tryz.zeroValue58 _) (zd := .lit (.int .i64 (-1))) (zp := []) rfl hkey
 rw [deeds_at k hk] at hv
 rw [hrun, funE_inv hv]
def ApplyPost (B : Nat) (R : List Lab × Bool × Nat) (e : Ending) (w' : World) : Prop := ∃ mo n mc, e = .returned (.tuple #[.slice mo n mc, .bool R.2.1, .int .i64 R.2.2]) ∧ ownLabels w' B (.slice mo n mc) R.1
theorem ApplyPost.none {B : Nat} {R : List Lab × Bool × Nat} {n : Nat} {w : World} (h : R = ([], false, n)) : ApplyPost B R (.returned (.tuple #[.slice none 0 0, .bool false, .int .i64 n])) w := by
 subst h
 exact ⟨_, _, _, rfl, World.ownsRow_nil _ _ _ _⟩
theorem ApplyPost.some {B n : Nat} {R : List Lab × Bool × Nat} {mo : Option Addr} {mc : Nat} {l : List Lab} {w : World} (h : R = (l, true, 0)) (ho : ownLabels w B (.slice mo n mc) l) : ApplyPost B R (.returned (.tuple #[.slice mo n mc, .bool true, .int .i64 0])) w := by
 subst h
 exact ⟨_, _, _, rfl, ho⟩
set_option maxRecDepth 20000 in
set_option maxHeartbeats 16000000 in
theorem apply_any (w : World) (va vr : Value) (ls : List Lab) (rs : List Rul) (ha : readsLabels w w.heap.size va ls) (hlen : ls.length ≤ 9223372036854775807) (hin : lensOk ls) (hr : readsRules w w.heap.size vr rs) (hrl : rs.length ≤ 9223372036854775807) (hok : okRs rs) (htab : tabOk w) :
  Calls Tryz.prog 13 #[va, vr] w fun e w' => Grow w w' ∧ ApplyPost w.heap.size (applyB ls rs) e w' := by
 have HCA := hide (checkAll_any w va vr ls rs ha hlen hin hr hrl hok)
 obtain ⟨R, HR⟩ : ∃ R, Hid (applyB ls rs = R) := ⟨_, hide rfl⟩
 rw [HR.out]
 have HR1 : Hid ((if allErr ls rs ≠ 0 then ([], false, allErr ls rs) else ruleGo rs ls) = R) := HR
 obtain ⟨lo, lc, hva⟩ := readsLabels_len ha
 subst hva
 have HA := hide ha
 have HIN := hide hin
 have HRR := hide hr
 have HOK := hide hok
 have HTAB := hide htab
 obtain ⟨ro, rc, hvr, _⟩ := hr
 subst hvr
 clear ha hin hok htab HR
 obtain ⟨A, HAE⟩ : ∃ A, Hid (allErr ls rs = A) := ⟨_, hide rfl⟩
 rw [HAE.out] at HCA HR1
 by_cases hA : A = 0
 ·
  have hA' : ((A : Int) != 0) = false := by simp [hA]
  have HZ := allErr_zero (HAE.out.trans hA)
  rw [if_neg (by omega)] at HR1
  obtain ⟨hr30, hc, hrr⟩ := HZ
  have HC := hide hc
  have HRT := hide hrr
  obtain ⟨m1, m2⟩ := make_right hc
  have HMK : Hid (∀ W, Grow w W → Calls Tryz.prog 26 #[.slice lo ls.length lc] W fun e w' => Grow W w' ∧ ∃ mo mc, e = .returned (.tuple #[.slice mo ls.length mc, .int .i64 0]) ∧ ownLabels w' w.heap.size (.slice mo ls.length mc) ls) := hide (fun W hg => by
   refine (make_any W (.slice lo ls.length lc) ls (readsLabels_mono (readsLabels_below HA.out hg) hg.size) hlen HIN.out).mono ?_
   rintro e w' ⟨v', rfl, ho, hb⟩
   rw [m2] at ho
   rw [m1]
   obtain ⟨mo, mc, rfl⟩ := own_shape ho
   exact ⟨hb, mo, mc, rfl, own_le ho hg.size⟩)
  clear hA hc hrr m1 m2
  go_enter Tryz.func13, Tryz.ntmps13
  go_wp2_with fail
  refine HCA.out.mono ?_
  rintro e w1 ⟨rfl, hg1⟩
  have HG1 := hide hg1
  clear hg1
  go_wp2_with fail
  refine (HMK.out w1 HG1.out).mono ?_
  rintro e w2 ⟨hg2, mo, mc, rfl, hown⟩
  have HG2 : Hid (Grow w w2) := hide (HG1.out.trans hg2)
  have HO2 := hide hown
  clear hg2 hown
  go_wp2_with fail
  refine (deeds_any w2).mono ?_
  rintro e w3 ⟨rfl, hg3, hs3, hmap⟩
  have HG3 : Hid (Grow w w3) := hide (HG2.out.trans hg3)
  have HO3 := hide (own_grow HO2.out hg3)
  have HMAP := hide hmap
  generalize w2.heap.size = mb at HMAP ⊢
  clear hg3 hs3 hmap
  go_wp2
  go_loopw [8, 31] (fun mv i wr => ∃ (k : Nat) (made : List Lab) (mo : Option Addr) (mc : Nat), k ≤ rs.length ∧ i = .int .i64 k ∧ mv = .slice mo made.length mc ∧ Hid (ownLabels wr w.heap.size mv made) ∧ Hid (checkB made = 0) ∧ Hid (ruleGo (rs.drop k) made = R) ∧ Hid (Grow w3 wr)) (fun _ i _ => rs.length - (intOf i).toNat)
  case atStart => exact ⟨0, ls, mo, mc, by omega, rfl, rfl, HO3, HC, HR1, hide (Grow.refl _)⟩
  case round =>
   obtain ⟨k, made, mo, mc, hk, rfl, rfl, HO, HCM, HD, HG⟩ := hrel
   have HGw : Hid (Grow w wr) := hide (HG3.out.trans HG.out)
   by_cases hlt : k < rs.length
   ·
    have hrd := HRR.out.keep HGw.out
    obtain ⟨ro', rc', hv', hcells⟩ := hrd
    simp only [Value.slice.injEq] at hv'
    obtain ⟨rfl, -, rfl⟩ := hv'
    obtain ⟨rb, rf, vs, rfl, hlB, hst, d0, d1, d2, d3, d4, d5, d6⟩ := hcells k hlt
    clear hcells
    have hmem := List.getElem_mem hlt
    obtain ⟨hokr, _⟩ := HOK.out _ hmem
    have hrr := HRT.out _ hmem
    have hdrop : ruleGo (rs.drop k) made = ruleGo (rs[k] :: rs.drop (k + 1)) made := by rw [List.drop_eq_getElem_cons hlt]
    obtain ⟨r, HX⟩ : ∃ r : Rul, Hid (rs[k] = r) := ⟨_, hide rfl⟩
    rw [HX.out] at d0 d2 d3 d4 d5 d6 hst hokr hrr hdrop
    obtain ⟨so, sc, evs, _⟩ := id hst
    subst evs
    obtain ⟨W, eW, gW, sW, hW⟩ := laid_rule wr (.int .i64 r.kind) (.slice so r.sources.length sc) (.string (bs r.between)) (.string (bs r.mask)) (.int .i64 r.modulus) (.string (bs r.target)) (.string (bs r.repl)) 24
    have HGW : Hid (Grow w W) := hide (HGw.out.trans gW)
    have HGW3 : Hid (Grow w3 W) := hide (HG.out.trans gW)
    have HOW := hide (own_grow HO.out gW)
    obtain ⟨hk1, hk7, hpe, _⟩ := rule_right hrr
    obtain ⟨hs20, hb100, _, _, _⟩ := parts_right hpe
    have HSrc := hide (source_any W r (.slice so r.sources.length sc) (.slice mo made.length mc) made ((hst.keep (Below.mono gW HGw.out.size)).more HGW.out.size) (reads_ownLabels HOW.out) HCM.out hs20 hb100 (fun s hs => by have := hokr.2.1 s hs; unfold maxLen; omega))
    obtain ⟨c0, c1, c2, c3, c4, c5, c6⟩ := seven_cells hW
    have HW := hide hW
    have HDR := hide hdrop
    rw [HDR.out] at HD
    have HD2 : Hid ((if 2000 < (sourceB r made).length then ([], false, 2) else
     if (deedR r made (sourceB r made)).2.2 ≠ 0 ∨ (deedR r made (sourceB r made)).2.1 = false then ([], false, (deedR r made (sourceB r made)).2.2) else ruleGo (rs.drop (k + 1)) (deedR r made (sourceB r made)).1) = R) := HD
    have HDeed0 := fun W2 src (hs : src.length ≤ 2000) (hgw2 : Grow w W2) (hrd : readsLabels W2 W2.heap.size (.slice mo made.length mc) made) => deedR_any W2 r (.slice so r.sources.length sc) (.slice mo made.length mc) made src hrr (tab_grow HTAB.out hgw2) hs HCM.out hrd
    have HRt0 := fun src => deedR_right (r := r) (src := src) HCM.out
    clear hdrop HDR HD gW hW hst hokr hrr hpe hs20 hb100 hmem
    generalize sourceB r made = src at HSrc HD2
    obtain ⟨d, HDD⟩ : ∃ d, Hid (deedR r made src = d) := ⟨_, hide rfl⟩
    have HRt := hide (HRt0 src)
    have HDeed : Hid (src.length ≤ 2000 → ∀ W2, Grow w W2 → readsLabels W2 W2.heap.size (.slice mo made.length mc) made → Calls Tryz.prog (deedNo r.kind) #[ruleV r (.slice so r.sources.length sc), .slice mo made.length mc, .string (bs src)] W2 (DeedPost W2 (.slice mo made.length mc) made (deedR r made src))) := hide fun hs W2 hgw2 hrd => HDeed0 W2 src hs hgw2 hrd
    rw [HDD.out] at HD2 HRt HDeed
    clear HDeed0 HRt0
    by_cases h2000 : 2000 < src.length
    ·
     have h2000' : (2000 : Int) < src.length := by omega
     rw [if_pos h2000] at HD2
     clear h2000
     go_wp2_with fail
     refine HSrc.out.mono ?_
     rintro e w4 ⟨rfl, hg4⟩
     go_wp2
     simp [bodyPost, results, Tryz.results13, go_sem]
     exact ⟨HGW.out.trans hg4, ApplyPost.none HD2.out.symm⟩
    ·
     have h2000' : ¬ (2000 : Int) < src.length := by omega
     rw [if_neg h2000] at HD2
     have HDeed1 := hide (HDeed.out (by omega))
     have h6 : deedNo r.kind = 60 ∨ deedNo r.kind = 61 ∨ deedNo r.kind = 63 ∨ deedNo r.kind = 64 ∨ deedNo r.kind = 65 ∨ deedNo r.kind = 66 ∨ deedNo r.kind = 69 := by
      have : r.kind = 1 ∨ r.kind = 2 ∨ r.kind = 3 ∨ r.kind = 4 ∨ r.kind = 5 ∨ r.kind = 6 ∨ r.kind = 7 := by omega
      rcases this with h | h | h | h | h | h | h <;> rw [h] <;> decide
     clear h2000 HDeed
     obtain ⟨m1, st, er⟩ := d
     simp only at HD2 HRt
     go_wp2_with fail
     refine HSrc.out.mono ?_
     rintro e w4 ⟨rfl, hg4⟩
     have HG4 : Hid (Grow w w4) := hide (HGW.out.trans hg4)
     have HG34 : Hid (Grow w3 w4) := hide (HGW3.out.trans hg4)
     have HO4 := hide (own_grow HOW.out hg4)
     have hrun := look_deed (k := r.kind) (owns_grow HMAP.out HG34.out) ⟨hk1, hk7⟩
     have HDeed2 := hide (HDeed1.out w4 HG4.out (reads_ownLabels HO4.out))
     obtain ⟨b0, b1, b2, b3, b4, b5, b6⟩ := seven_cells (hg4.get HW.out)
     clear hg4 eW c0 c1 c2 c3 c4 c5 c6 d0 d1 d2 d3 d4 d5 d6 HDeed1 HSrc
     rcases h6 with hN | hN | hN | hN | hN | hN | hN
     all_goals
      rw [hN] at hrun HDeed2
      clear hN
      go_wp2_with fail
      refine HDeed2.out.mono ?_
      rintro e w5 ⟨hg5, mo5, n5, mc5, rfl, hst⟩
      simp only at hst
      have HG5 : Hid (Grow w w5) := hide (HG4.out.trans hg5)
      have HG35 : Hid (Grow w3 w5) := hide (HG34.out.trans hg5)
      by_cases her : er = 0
      ·
       have her' : ((er : Int) != 0) = false := by simp [her]
       have hs0 := hst her
       have HR5 := hide (HRt.out her)
       have hown5 : ownLabels w5 w.heap.size (.slice mo5 n5 mc5) m1 := by
        rcases hs0 with ⟨e1, e2⟩ | ho
        ·
         rw [e1, e2]
         exact own_grow HO4.out hg5
        ·
         exact own_le ho HG4.out.size
       have HO5 := hide hown5
       obtain ⟨ao5, ac5, hsh⟩ := own_shape hown5
       simp only [Value.slice.injEq] at hsh
       obtain ⟨-, rfl, -⟩ := hsh
       cases st with
       | false =>
        rw [if_pos (.inr rfl)] at HD2
        clear her hs0 hst hown5 hg5 hrun
        go_wp2
        simp [bodyPost, results, Tryz.results13, go_sem]
        exact ⟨HG5.out, ApplyPost.none HD2.out.symm⟩
       | true =>
        rw [if_neg (by rintro (h | h); exact h her; cases h)] at HD2
        clear her hs0 hst hown5 hg5 hrun
        go_wp2
        go_roundw
        case rel => exact ⟨k + 1, m1, mo5, mc5, by omega, by go_num, rfl, HO5, HR5, HD2, HG35⟩
        case measure => simp [intOf]; omega
      ·
       have her' : ((er : Int) != 0) = true := by simp; exact her
       rw [if_pos (.inl her)] at HD2
       clear her hst hg5 hrun
       go_wp2
       simp [bodyPost, results, Tryz.results13, go_sem]
       exact ⟨HG5.out, ApplyPost.none HD2.out.symm⟩
   ·
    have hR : R = (made, true, 0) := by
     rw [← HD.out, List.drop_eq_nil_of_le (by omega)]
     rfl
    have HRE := hide hR
    clear HD hR HR1
    go_wp2
    simp [bodyPost, results, Tryz.results13, go_sem]
    exact ⟨HGw.out, ApplyPost.some HRE.out HO.out⟩
 ·
  have hA' : ((A : Int) != 0) = true := by simp; exact hA
  have hR : R = ([], false, A) := by rw [← HR1.out, if_pos hA]
  have HRE := hide hR
  clear hA HR1 hR
  go_enter Tryz.func13, Tryz.ntmps13
  go_wp2_with fail
  refine HCA.out.mono ?_
  rintro e w1 ⟨rfl, hg1⟩
  go_wp2
  simp [bodyPost, results, Tryz.results13, go_sem]
  exact ⟨hg1, ApplyPost.none HRE.out⟩
end Go.Proofs.YtndpjdmfkhjiiaaGreatDoor.Rl
namespace Go.Proofs.YtndpjdmfkhjiiaaGreatDoor.Rl
open Go.RowKit Lb
attribute [local go_sem] bs_size bs_toList bs_append bs_get bs_extract
def begLs : List Lab := [([97], [120, 49])]
def begR : Rul := { kind := 1, sources := [[97]], between := [], mask := [120, 40, 46, 41], modulus := 0, target := [98], repl := [121, 36, 49] }
theorem beg_source : sourceB begR begLs = [120, 49] := by decide +kernel
theorem beg_tm : tmAt begR.repl 0 = some [([121], -1), ([], 1)] := by rfl
theorem beg_all : allErr begLs [begR] = 0 := by decide +kernel
def begT : Tr := .row (.set (between 120 120) 0 (.grp 0 (.row (.set (fun _ => true) 0 .nil) .nil) 0 .nil)) .nil
theorem beg_is : maskIs begR.mask = .ok (begT, 1) := by rfl
theorem beg_way : wayOf begT [120, 49] = some [(0, 1), (1, 2)] := wayOf_eq (f := 60) (by decide)
theorem beg_tr : trOf begR = (begT, 1) := by unfold trOf; rw [beg_is]
theorem beg_tmOf : tmOf begR = [([121], -1), ([], 1)] := by unfold tmOf; rw [beg_tm]; rfl
theorem beg_deed : deedR begR begLs [120, 49] = ([([97], [120, 49]), ([98], [121, 49])], true, 0) := by
 unfold deedR deedB
 rw [if_pos (show begR.kind = 1 from rfl), beg_tr, beg_tmOf]
 simp only [beg_way]
 decide +kernel
theorem beg_apply : applyB begLs [begR] = ([([97], [120, 49]), ([98], [121, 49])], true, 0) := by
 unfold applyB
 rw [if_neg (by rw [beg_all]; simp)]
 unfold ruleGo
 rw [beg_source, if_neg (by decide), beg_deed, if_neg (by simp)]
 rfl
theorem laid3 (w : World) (b1 b2 b3 : Array Value) (t1 t2 t3 : TypeId) : ∃ W : World, ((w.alloc (.cells b1 t1)).alloc (.cells b2 t2)).alloc (.cells b3 t3) = W ∧ Grow w W ∧ W.heap.size = w.heap.size + 3 ∧ W.heap[w.heap.size]? = some (.cells b1 t1 (0, 0)) ∧ W.heap[w.heap.size + 1]? = some (.cells b2 t2 (0, 0)) ∧ W.heap[w.heap.size + 2]? = some (.cells b3 t3 (0, 0)) := by
 have g1 := (Grow.refl w).alloc (.cells b1 t1)
 have h1 := heap_alloc_new w (.cells b1 t1)
 have s1 : (w.alloc (.cells b1 t1)).heap.size = w.heap.size + 1 := by simp
 generalize w.alloc (.cells b1 t1) = A at g1 h1 s1 ⊢
 have g2 := (Grow.refl A).alloc (.cells b2 t2)
 have h2 := heap_alloc_new A (.cells b2 t2)
 have s2 : (A.alloc (.cells b2 t2)).heap.size = A.heap.size + 1 := by simp
 generalize A.alloc (.cells b2 t2) = B at g2 h2 s2 ⊢
 have g3 := (Grow.refl B).alloc (.cells b3 t3)
 have h3 := heap_alloc_new B (.cells b3 t3)
 have s3 : (B.alloc (.cells b3 t3)).heap.size = B.heap.size + 1 := by simp
 refine ⟨_, rfl, (g1.trans g2).trans g3, by omega, (g2.trans g3).get h1, ?_, ?_⟩
 ·
  rw [← s1]; exact g3.get h2
 ·
  rw [show w.heap.size + 2 = B.heap.size by omega]; exact h3
set_option maxRecDepth 20000 in
set_option maxHeartbeats 4000000 in
theorem relabelBegun_any (w : World) (htab : tabOk w) : Calls Tryz.prog 10 #[] w fun e w' => e = .returned (.bool true) ∧ Grow w w' := by
 obtain ⟨W, eW, gW, sW, h1, h2, h3⟩ := laid3 w #[.string { data := #[97] }, .string { data := #[120, 49] }] #[.string { data := #[97] }] #[.int .i64 1, .slice (some ⟨w.heap.size + 1, 0, none⟩) 1 1, .string { data := #[] }, .string { data := #[120, 40, 46, 41] }, .int .i64 0, .string { data := #[98] }, .string { data := #[121, 36, 49] }] 39 9 24
 obtain ⟨a0, a1⟩ := two_cells h1
 have b0 : W.cell? ⟨w.heap.size + 1, 0, none⟩ = some (.string { data := #[97] }) := by simp [World.cell?, h2]
 obtain ⟨c0, c1, c2, c3, c4, c5, c6⟩ := seven_cells h3
 have hA : readsLabels W W.heap.size (.slice (some ⟨w.heap.size, 0, none⟩) 1 1) begLs := by
  refine ⟨_, _, rfl, fun i hi => ?_⟩
  match i, hi with
  | 0, _ => exact ⟨_, _, rfl, by omega, a0, a1⟩
 have hR : readsRules W W.heap.size (.slice (some ⟨w.heap.size + 2, 0, none⟩) 1 1) [begR] := by
  refine ⟨_, _, rfl, fun i hi => ?_⟩
  match i, hi with
  | 0, _ =>
   refine ⟨_, _, _, rfl, by omega, ⟨_, _, rfl, fun j hj => ?_⟩, c0, c1, c2, c3, c4, c5, c6⟩
   match j, hj with
   | 0, _ => exact ⟨_, _, rfl, by omega, b0⟩
 have HAP := hide (apply_any W _ _ begLs [begR] hA (by decide) (fun x hx => by simp [begLs] at hx; subst hx; decide) hR (by decide) (fun r hr => by simp at hr; subst hr; exact ⟨⟨by decide, fun s hs => by simp [begR] at hs; subst hs; decide, by decide, by decide, by decide, by decide⟩, by decide⟩) (tab_grow htab gW))
 rw [beg_apply] at HAP
 have HGW := hide gW
 clear h1 h2 h3 a0 a1 b0 c0 c1 c2 c3 c4 c5 c6 hA hR gW
 go_enter Tryz.func10, Tryz.ntmps10
 go_wp2_with fail
 refine HAP.out.mono ?_
 rintro e w1 ⟨hg1, mo, n, mc, rfl, hown⟩
 have hrd := reads_ownLabels hown
 obtain ⟨ao, cp, e1, hcells⟩ := hrd
 obtain ⟨b, o, rfl, _, d0, d1⟩ := hcells 1 (by decide)
 simp only [Value.slice.injEq] at e1
 obtain ⟨rfl, rfl, rfl⟩ := e1
 have d2 : w1.cell? ⟨b, o + 1 * 2 + 1, none⟩ = some (.string { data := #[121, 49] }) := d1
 have HG1 := hide hg1
 clear hcells d0 d1 hown hg1 eW
 go_wp2
 go_ret
 exact ⟨rfl, HGW.out.trans HG1.out⟩
theorem ruleGo_shape : ∀ (rs : List Rul) (made : List Lab), (∃ n, ruleGo rs made = ([], false, n)) ∨ ∃ l, ruleGo rs made = (l, true, 0)
 | [], made => .inr ⟨made, rfl⟩
 | r :: rs, made => by
  unfold ruleGo
  split
  ·
   exact .inl ⟨_, rfl⟩
  ·
   split
   ·
    exact .inl ⟨_, rfl⟩
   ·
    exact ruleGo_shape rs _
theorem ruleGo_right : ∀ (rs : List Rul) (made : List Lab), checkB made = 0 → (ruleGo rs made).2.1 = true → checkB (ruleGo rs made).1 = 0
 | [], made, h, _ => h
 | r :: rs, made, h, h1 => by
  unfold ruleGo at h1 ⊢
  by_cases k1 : 2000 < (sourceB r made).length
  ·
   rw [if_pos k1] at h1; cases h1
  ·
   rw [if_neg k1] at h1 ⊢
   by_cases k2 : (deedR r made (sourceB r made)).2.2 ≠ 0 ∨ (deedR r made (sourceB r made)).2.1 = false
   ·
    rw [if_pos k2] at h1; cases h1
   ·
    rw [if_neg k2] at h1 ⊢
    exact ruleGo_right rs _ (deedR_right h (by omega)) h1
theorem apply_shape (ls : List Lab) (rs : List Rul) : (∃ n, n ≠ 0 ∧ applyB ls rs = ([], false, n)) ∨ (allErr ls rs = 0 ∧ applyB ls rs = ruleGo rs ls ∧ (applyB ls rs = ([], false, 0) ∨ ∃ l, applyB ls rs = (l, true, 0) ∧ checkB l = 0)) := by
 unfold applyB
 by_cases h : allErr ls rs = 0
 ·
  rw [if_neg (by omega)]
  rcases ruleGo_shape rs ls with ⟨n, e⟩ | ⟨l, e⟩
  ·
   by_cases hn : n = 0
   ·
    subst hn; exact .inr ⟨h, rfl, .inl e⟩
   ·
    exact .inl ⟨n, hn, e⟩
  ·
   have hr := ruleGo_right rs ls (allErr_zero h).2.1 (by rw [e])
   rw [e] at hr
   exact .inr ⟨h, rfl, .inr ⟨l, e, hr⟩⟩
 ·
  rw [if_pos h]
  exact .inl ⟨_, h, rfl⟩
/-! ### rows of rules -/
theorem readsRules.more {w : World} {B B' : Nat} {v : Value} {rs : List Rul} (h : readsRules w B v rs) (hB : B ≤ B') : readsRules w B' v rs := by
 obtain ⟨ao, cp, hv, h⟩ := h
 refine ⟨ao, cp, hv, fun i hi => ?_⟩
 obtain ⟨b, o, vs, e, hb, hs, hc⟩ := h i hi
 exact ⟨b, o, vs, e, by omega, hs.more hB, hc⟩
/-- A number's limbs, the lowest first. -/
def limbs (n : Nat) : List Nat := if n = 0 then [] else n % 65536 :: limbs (n / 65536)
theorem limbs_zero : limbs 0 = [] := by unfold limbs; rfl
theorem limbs_pos {n : Nat} (h : 0 < n) : limbs n = n % 65536 :: limbs (n / 65536) := by rw [limbs, if_neg (by omega)]
theorem limbs_len : ∀ (k n : Nat), n < 65536 ^ k → (limbs n).length ≤ k
  | 0, n, h => by obtain rfl : n = 0 := by simp at h; omega
                  rw [limbs_zero]; simp
  | k + 1, n, h => by
    by_cases h0 : n = 0
    · subst h0; rw [limbs_zero]; simp
    · rw [limbs_pos (by omega), List.length_cons]
      have := limbs_len k (n / 65536) (by rw [Nat.div_lt_iff_lt_mul (by decide)]; rw [Nat.pow_succ] at h; exact h)
      omega
def limV (l : List Nat) : List Value := l.map fun (k : Nat) => Value.int .i64 (k : Int)
theorem limV_snoc (l : List Nat) (k : Nat) : limV (l ++ [k]) = limV l ++ limV [k] := by simp [limV]
def ownLim (w : World) (B : Nat) (v : Value) (l : List Nat) : Prop := w.ownsRow B 3 1 v l.length (limV l)
set_option maxRecDepth 20000 in
set_option maxHeartbeats 4000000 in
theorem from_any (w : World) (n : Nat) (h : n < 65536 ^ 3) : Calls Tryz.prog 22 #[.int .i64 n] w fun e w' => Grow w w' ∧ ∃ v, e = .returned v ∧ ownLim w' w.heap.size v (limbs n) := by
  obtain ⟨i0, hinf, hz0, hz1, hz2⟩ := info_parts Tryz.infoI
  have hlen := limbs_len 3 n h
  obtain ⟨L, HL⟩ : ∃ L, Hid (limbs n = L) := ⟨_, hide rfl⟩
  rw [HL.out] at hlen ⊢
  go_enter Tryz.func22, Tryz.ntmps22
  go_wp2
  go_loopw [0, 3] (fun a v wr => ∃ (m : Nat) (pre : List Nat), a = .int .i64 m ∧ m ≤ n ∧ Hid (pre ++ limbs m = L) ∧ Hid (Grow w wr) ∧ Hid (ownLim wr w.heap.size v pre)) (fun a _ _ => (intOf a).toNat)
  case atStart => exact ⟨n, [], rfl, by omega, HL, hide (Grow.refl _), hide (World.ownsRow_nil _ _ _ _)⟩
  case round =>
    obtain ⟨m, pre, rfl, hmn, HP, HG, HO⟩ := hrel
    have hbs := HG.out.size
    by_cases h0 : m = 0
    · subst h0
      have hpl : pre = L := by have := HP.out; rw [limbs_zero, List.append_nil] at this; exact this
      subst hpl
      obtain ⟨vo, vc, rfl⟩ := own_shape HO.out
      go_wp2
      go_ret
      exact ⟨HG.out, _, rfl, HO.out⟩
    · have hm0 : (0 : Int) < m := by omega
      have HS : Hid ((pre ++ [m % 65536]) ++ limbs (m / 65536) = L) := hide (by
        have := HP.out
        rw [limbs_pos (by omega)] at this
        rw [List.append_assoc]
        exact this)
      have hpl : pre.length ≤ 3 := by
        have := congrArg List.length HS.out
        simp at this
        omega
      have hown := HO.out
      obtain ⟨vo, vc, rfl⟩ := own_shape hown
      go_wp2_with (at_builtin; go_loud (refine wpList_append_own _ rfl _ _ 46 rfl w.heap.size 3 i0 (.int .i64 0) 1 8 Tryz.underlying46 hinf hz0 hz1 hz2 rfl (by omega) (.slice vo pre.length vc) pre.length (limV pre) rfl (hown.alloc _) ⟨wr.heap.size, 0, none⟩ 1 1 (limV [m % 65536]) rfl rfl (World.news_of_block (cs := #[.int .i64 ((m % 65536 : Nat) : Int)]) (heap_alloc_new wr _)) (by simp [limV, Value.oneCell']) (by unfold maxLen; omega) (by omega) (by simp; omega) ?_); intro v' w1 hown' hgrow _)
      have hbw : Below w.heap.size w (wr.alloc (.cells #[.int .i64 ((m % 65536 : Nat) : Int)] 3)) := Grow.alloc HG.out _
      have hgr : Grow w w1 := hbw.grown hgrow (by simp; omega) (fun j hj => (hown.lt j hj).1)
      refine ⟨⟨m / 65536, pre ++ [m % 65536], rfl, by omega, HS, hide hgr, hide ?_⟩, ?_⟩
      · show World.ownsRow _ _ _ _ _ _ _
        rw [List.length_append, limV_snoc]
        exact hown'
      · simp [intOf]; omega
/-- A row of numbers that can be read. -/
def readsLim (w : World) (B : Nat) (v : Value) (l : List Nat) : Prop :=
  ∃ ao cp, v = .slice ao l.length cp ∧ l.length ≤ cp ∧ ∀ i (h : i < l.length), ∃ b o, ao = some ⟨b, o, none⟩ ∧ b < B ∧ w.cell? ⟨b, o + i, none⟩ = some (.int .i64 ((l[i] : Nat) : Int))
theorem own_readsLim {w : World} {B : Nat} {v : Value} {l : List Nat} (h : ownLim w B v l) : readsLim w w.heap.size v l := by
  unfold ownLim at h
  obtain ⟨ao, cp, e⟩ := own_shape h
  rcases h.2 with ⟨rfl, h0⟩ | ⟨g, cap, cur, rfl, h1, h2, h3, h4, _⟩
  · simp only [Value.slice.injEq] at e
    obtain ⟨rfl, hl, rfl⟩ := e
    exact ⟨none, 0, by rw [← hl], by omega, fun i hi => by omega⟩
  · simp only [Value.slice.injEq] at e
    obtain ⟨rfl, _, rfl⟩ := e
    have hc := World.ownsRow.cells h (g := g) rfl
    refine ⟨_, _, rfl, by first | exact h3 | omega, fun i hi => ⟨g, 0, rfl, lt_of_block h2, ?_⟩⟩
    have := hc i (.int .i64 ((l[i] : Nat) : Int)) (by simp [limV, hi])
    rw [Addr.add_lit] at this
    exact this
def trimL (l : List Nat) : List Nat := (l.reverse.dropWhile (· == 0)).reverse
theorem trimL_zero (a : List Nat) : trimL (a ++ [0]) = trimL a := by simp [trimL]
theorem trimL_pos (a : List Nat) {x : Nat} (h : x ≠ 0) : trimL (a ++ [x]) = a ++ [x] := by
  unfold trimL
  rw [List.reverse_append, List.reverse_singleton, List.singleton_append, List.dropWhile_cons_of_neg (by simpa using h)]
  simp
theorem trimL_nil : trimL [] = [] := rfl
set_option maxRecDepth 20000 in
set_option maxHeartbeats 4000000 in
theorem trim_any (w : World) (v : Value) (l : List Nat) (B : Nat) (hr : readsLim w B v l) (hl : l.length ≤ 1000) :
    Calls Tryz.prog 89 #[v] w fun e w' => ∃ v', e = .returned v' ∧ w' = w ∧ readsLim w B v' (trimL l) := by
  obtain ⟨ao, cp, rfl, hcp, hc⟩ := hr
  have HC := hide hc
  clear hc
  go_enter Tryz.func89, Tryz.ntmps89
  go_wp2
  go_loopw [3] (fun i wr => ∃ n : Nat, n ≤ l.length ∧ i = .int .i64 n ∧ Hid (trimL (l.take n) = trimL l) ∧ wr = w) (fun i _ => (intOf i).toNat)
  case atStart => exact ⟨l.length, by omega, rfl, hide (by rw [List.take_length]), rfl⟩
  case round =>
    obtain ⟨n, hn, rfl, HT, rfl⟩ := hrel
    by_cases h0 : n = 0
    · subst h0
      have hT : trimL l = [] := by
        have := HT.out
        rw [List.take_zero, trimL_nil] at this
        exact this.symm
      have HTN := hide hT
      clear hT
      go_wp2
      go_ret
      exact ⟨_, rfl, rfl, ao, 0, by rw [HTN.out]; rfl, by rw [HTN.out]; simp, fun i hi => by rw [HTN.out] at hi; simp at hi⟩
    · obtain ⟨k, rfl⟩ : ∃ k, n = k + 1 := ⟨n - 1, by omega⟩
      obtain ⟨b, o, rfl, hb, d0⟩ := HC.out k (by omega)
      have htk : l.take (k + 1) = l.take k ++ [l[k]] := List.take_succ_eq_append_getElem (by omega)
      obtain ⟨x, HX⟩ : ∃ x, Hid (l[k] = x) := ⟨_, hide rfl⟩
      rw [HX.out] at d0 htk
      have HTK := hide htk
      clear htk
      by_cases hx : x = 0
      · subst hx
        have hT := HT.out
        rw [HTK.out, trimL_zero] at hT
        have HT2 := hide hT
        clear hT
        go_wp2
        go_roundw
        case rel => exact ⟨k, by omega, by go_num, HT2, trivial⟩
        case measure => simp [intOf]
      · have hx' : ¬ (x : Int) = 0 := by omega
        have hT := HT.out
        rw [HTK.out, trimL_pos _ hx, ← HTK.out] at hT
        have HT2 := hide hT
        clear hT hx
        go_wp2
        go_ret
        have hlk : (l.take (k + 1)).length = k + 1 := by rw [List.length_take]; omega
        rw [← HT2.out]
        refine ⟨_, rfl, rfl, some ⟨b, o, none⟩, k + 1, by rw [hlk]; rfl, by rw [hlk]; omega, fun i hi => ?_⟩
        obtain ⟨b2, o2, e2, hb2, d2⟩ := HC.out i (by omega)
        simp only [Option.some.injEq, Addr.mk.injEq] at e2
        obtain ⟨rfl, rfl, _⟩ := e2
        exact ⟨b, o, rfl, hb, by rw [List.getElem_take]; exact d2⟩
end Go.Proofs.YtndpjdmfkhjiiaaGreatDoor.Rl
namespace Go.Proofs.YtndpjdmfkhjiiaaGreatDoor.Rl
open Go.RowKit Lb
/-! ### the source -/
def srcP (r : Rul) (ls : List Lab) (k : Nat) : List UInt8 := Lib.join ((r.sources.take k).map (valueB ls)) r.between
theorem srcP_zero (r : Rul) (ls : List Lab) : srcP r ls 0 = [] := rfl
theorem srcP_step {r : Rul} {ls : List Lab} {k : Nat} (h : k < r.sources.length) : srcP r ls (k + 1) = (if 0 < k then srcP r ls k ++ r.between else srcP r ls k) ++ valueB ls r.sources[k] := by
 unfold srcP
 obtain ⟨src, hs⟩ : ∃ s, r.sources = s := ⟨_, rfl⟩
 simp only [hs] at h ⊢
 cases k with
 | zero =>
  cases src with
  | nil => simp at h
  | cons x src => simp [Lib.join_one, Lib.join_nil]
 | succ k =>
  cases src with
  | nil => simp at h
  | cons x src =>
   have hk : k < src.length := by simpa using h
   rw [List.take_succ_cons, List.take_succ_cons, List.map_cons, List.map_cons, Lib.join_cons, Lib.join_cons, List.map_take, List.map_take, Lib.joinTail_take_succ r.between (src.map (valueB ls)) k (valueB ls src[k]) (by simp [hk])]
   simp
theorem srcP_all {r : Rul} {ls : List Lab} (hc : checkB ls = 0) (hn : ∀ s ∈ r.sources, nameB s = true) : srcP r ls r.sources.length = sourceB r ls := by
 unfold srcP sourceB
 rw [List.take_length]
 congr 1
 refine List.map_congr_left fun s hs => ?_
 unfold getAns
 rw [if_pos (getErr_zero.2 ⟨hc, hn s hs⟩)]
theorem srcP_len {r : Rul} {ls : List Lab} (hc : checkB ls = 0) (hb : r.between.length ≤ 100) : ∀ k, k ≤ r.sources.length → (srcP r ls k).length ≤ 200 * k
 | 0, _ => by simp [srcP_zero]
 | k + 1, h => by
  have ih := srcP_len hc hb k (by omega)
  have hv : (valueB ls r.sources[k]).length ≤ 100 := valueB_le fun x hx => ((eachErr_zero.1 (checkB_zero.1 hc).1).2 x hx).2.2
  rw [srcP_step (by omega)]
  split
  ·
   simp only [List.length_append]; omega
  ·
   simp only [List.length_append]; omega
theorem parts_names {r : Rul} (h : partsErr r = 0) : ∀ s ∈ r.sources, nameB s = true := by
 unfold partsErr at h
 split at h
 ·
  cases h
 ·
  split at h
  ·
   rename_i h1
   exact List.all_eq_true.1 h1
  ·
   cases h
/-! ### what is made -/
theorem cut_app {n : Nat} {a a' b b' : List UInt8} (ha : a' = a ∨ (n ≤ a.length ∧ a' = a.take n)) (hb : b'.take n = b.take n) : (a' ++ b').take n = (a ++ b).take n := by
 rcases ha with rfl | ⟨h1, rfl⟩
 ·
  rw [List.take_append, List.take_append]
  congr 1
  have := congrArg (List.take (n - a'.length)) hb
  rw [List.take_take, List.take_take] at this
  rwa [show min (n - a'.length) n = n - a'.length by omega] at this
 ·
  rw [List.take_append_of_le_length h1, List.take_append_of_le_length (by simp; omega), List.take_take, Nat.min_self]
theorem cut_or (n : Nat) (a : List UInt8) : a.take n = a ∨ (n ≤ a.length ∧ a.take n = a.take n) := by
 by_cases h : n ≤ a.length
 ·
  exact .inr ⟨h, rfl⟩
 ·
  exact .inl (List.take_of_length_le (by omega))
theorem valT_cut (n : Nat) (whole : List UInt8) (gs : List (List UInt8)) (x : List UInt8 × Int) : valT (whole.take n) (gs.map (·.take n)) x = valT whole gs x ∨ (n ≤ (valT whole gs x).length ∧ valT (whole.take n) (gs.map (·.take n)) x = (valT whole gs x).take n) := by
 unfold valT
 split
 ·
  exact cut_or n whole
 ·
  simp only [List.length_map]
  split
  ·
   have e : (gs.map (·.take n)).getD (x.2.toNat - 1) [] = (gs.getD (x.2.toNat - 1) []).take n := by
    simp only [List.getD_eq_getElem?_getD, List.getElem?_map]
    cases gs[x.2.toNat - 1]? with
    | none => simp
    | some s => rfl
   rw [e]
   exact cut_or n _
  ·
   exact .inl rfl
theorem valsT_cut (n : Nat) (whole : List UInt8) (gs : List (List UInt8)) : ∀ l, (valsT (whole.take n) (gs.map (·.take n)) l).take n = (valsT whole gs l).take n
 | [] => rfl
 | x :: l => by
  rw [valsT_cons, valsT_cons]
  exact cut_app (valT_cut n whole gs x) (valsT_cut n whole gs l)
theorem madeB_is (src : List UInt8) (gs : List (List UInt8)) (tm : List (List UInt8 × Int)) : madeB src gs tm = (valsT src gs tm).take 100 := valsT_cut 100 src gs tm
theorem name_cut (s : List UInt8) : (nameB (s.take 100) = true ∧ s.take 100 = s ∧ nameB s = true) ∨ (nameB (s.take 100) = false ∧ nameB s = false) := by
 by_cases h : s.length ≤ 100
 ·
  rw [List.take_of_length_le h]
  cases hb : nameB s with
  | true => exact .inl ⟨rfl, rfl, rfl⟩
  | false => exact .inr ⟨rfl, rfl⟩
 ·
  refine .inr ⟨nameB_no fun ⟨_, h2, _⟩ => ?_, nameB_no fun ⟨_, h2, _⟩ => ?_⟩
  ·
   rw [List.length_take] at h2; omega
  ·
   omega
/-! ### labels that are put, more and more -/
theorem filter_one {l : List Lab} (h : Rise l) (n : List UInt8) : l.length ≤ (l.filter fun x => decide (x.1 ≠ n)).length + 1 := by
 induction l with
 | nil => simp
 | cons x l ih =>
  unfold Rise at h
  rw [List.pairwise_cons] at h
  have ih := ih h.2
  by_cases e : x.1 = n
  ·
   have hall : (l.filter fun y => decide (y.1 ≠ n)) = l := by
    rw [List.filter_eq_self]
    intro y hy
    have := bl_ne (h.1 y hy)
    rw [e] at this
    simp only [decide_eq_true_eq, ne_eq]
    exact fun h2 => this h2.symm
   simp only [List.filter_cons, e, hall]
   simp
  ·
   have e' : decide (x.1 ≠ n) = true := by simpa using e
   rw [List.filter_cons, if_pos e', List.length_cons, List.length_cons]
   omega
theorem putGo_more (n v : List UInt8) : ∀ (l : List Lab), Rise l → l.length ≤ (putGo n v false l).length
 | [], _ => by simp
 | x :: l, h => by
  have h' := h
  unfold Rise at h'
  rw [List.pairwise_cons] at h'
  by_cases hb : Op.bytesLess x.1 n = false
  ·
   have hf := filter_one (n := n) h
   rw [putGo, if_pos ⟨rfl, hb⟩, putGo_true]
   by_cases e : x.1 = n
   ·
    rw [if_pos e]
    simp only [List.filter_cons, e] at hf
    simp at hf ⊢
    omega
   ·
    rw [if_neg e]
    simp only [List.filter_cons, ne_eq, e, not_false_eq_true, decide_true, if_true, List.length_cons] at hf ⊢
    omega
  ·
   have ih := putGo_more n v l h'.2
   have hbt : Op.bytesLess x.1 n = true := by cases h : Op.bytesLess x.1 n with | true => rfl | false => exact absurd h hb
   rw [putGo, if_neg (fun h => hb h.2), if_neg (bl_ne hbt)]
   simp only [List.length_cons]
   omega
theorem putB_more {l : List Lab} (h : Rise l) {n v : List UInt8} (hv : v ≠ []) : l.length ≤ (putB l n v).length := by
 unfold putB
 rw [show decide (v = []) = false by simpa using hv]
 exact putGo_more n v l h
theorem putGo_le (n v : List UInt8) : ∀ (l : List Lab) (b : Bool), (putGo n v b l).length ≤ l.length + 1
 | [], b => by cases b <;> simp [putGo]
 | x :: l, b => by
  have ih1 := putGo_le n v l true
  have ih2 := putGo_le n v l b
  have ih3 : (putGo n v true l).length ≤ l.length := by rw [putGo_true]; exact List.length_filter_le _ _
  rw [putGo]
  split
  ·
   split <;> simp only [List.length_cons] <;> omega
  ·
   split <;> simp only [List.length_cons] <;> omega
theorem putB_le (l : List Lab) (n v : List UInt8) : (putB l n v).length ≤ l.length + 1 := putGo_le n v l _
def putsGo (f : List UInt8 → Option (List UInt8)) : List Lab → List Lab → List Lab
 | made, [] => made
 | made, x :: l => match f x.1 with
  | none => putsGo f made l
  | some n => if nameB n = true then putsGo f (putB made n x.2) l else putsGo f made l
theorem putsGo_snoc (f : List UInt8 → Option (List UInt8)) : ∀ (l made : List Lab) (x : Lab), putsGo f made (l ++ [x]) = match f x.1 with
  | none => putsGo f made l
  | some n => if nameB n = true then putB (putsGo f made l) n x.2 else putsGo f made l
 | [], made, x => by
  show putsGo f made [x] = _
  simp only [putsGo]
 | y :: l, made, x => by
  show putsGo f made (y :: (l ++ [x])) = _
  rw [putsGo, putsGo]
  cases f y.1 with
  | none => exact putsGo_snoc f l made x
  | some n =>
   simp only
   split
   ·
    exact putsGo_snoc f l _ x
   ·
    exact putsGo_snoc f l made x
theorem putsGo_more {f : List UInt8 → Option (List UInt8)} : ∀ {l made : List Lab}, Rise made → (∀ x ∈ l, x.2 ≠ []) → made.length ≤ (putsGo f made l).length
 | [], made, h, _ => Nat.le_refl _
 | x :: l, made, h, hv => by
  have hl : ∀ y ∈ l, y.2 ≠ [] := fun y hy => hv y (List.mem_cons_of_mem _ hy)
  rw [putsGo]
  cases f x.1 with
  | none => exact putsGo_more h hl
  | some n =>
   simp only
   split
   ·
    exact Nat.le_trans (putB_more h (hv x (by simp))) (putsGo_more (putB_rise h _ _) hl)
   ·
    exact putsGo_more h hl
theorem mapGo_is {f : List UInt8 → Option (List UInt8)} : ∀ {l made : List Lab}, checkB made = 0 → (∀ x ∈ l, x.2 ≠ [] ∧ x.2.length ≤ 100) → mapGo f made l = if (putsGo f made l).length ≤ 20 then (putsGo f made l, 0) else ([], 2)
 | [], made, h, _ => by
  rw [mapGo, putsGo, if_pos (eachErr_zero.1 (checkB_zero.1 h).1).1]
 | x :: l, made, h, hv => by
  have hl : ∀ y ∈ l, y.2 ≠ [] ∧ y.2.length ≤ 100 := fun y hy => hv y (List.mem_cons_of_mem _ hy)
  rw [mapGo, putsGo]
  cases f x.1 with
  | none => exact mapGo_is h hl
  | some n =>
   simp only
   by_cases hn : nameB n = true
   ·
    rw [if_pos hn, if_pos hn]
    have hx := hv x (by simp)
    by_cases h20 : (putB made n x.2).length ≤ 20
    ·
     have hw : withErr made n x.2 = 0 := withErr_zero.2 ⟨getErr_zero.2 ⟨h, hn⟩, hx.2, h20⟩
     rw [if_neg (by omega), withAns_ok hw]
     exact mapGo_is (checkB_put h hn hx.2 h20) hl
    ·
     have hr := rise_iff.2 (checkB_zero.1 h).2
     have hm := putsGo_more (f := f) (putB_rise hr n x.2) (fun y hy => (hl y hy).1)
     have hw : withErr made n x.2 = 2 := withErr_many (getErr_zero.2 ⟨h, hn⟩) hx.2 h20
     rw [hw, if_pos (by decide), if_neg (by omega)]
   ·
    rw [if_neg hn, if_neg hn]
    exact mapGo_is h hl
theorem putsGo_congr {f g : List UInt8 → Option (List UInt8)} (h : ∀ n, (f n).bind (fun x => if nameB x = true then some x else none) = (g n).bind fun x => if nameB x = true then some x else none) : ∀ {l made : List Lab}, putsGo f made l = putsGo g made l
 | [], made => rfl
 | x :: l, made => by
  have hx := h x.1
  rw [putsGo, putsGo]
  cases hf : f x.1 with
  | none =>
   rw [hf] at hx
   cases hg : g x.1 with
   | none => exact putsGo_congr h
   | some n =>
    rw [hg] at hx
    simp only [Option.bind_none, Option.bind_some] at hx
    by_cases hn : nameB n = true
    ·
     rw [if_pos hn] at hx; cases hx
    ·
     simp only; rw [if_neg hn]; exact putsGo_congr h
  | some m =>
   rw [hf] at hx
   cases hg : g x.1 with
   | none =>
    rw [hg] at hx
    simp only [Option.bind_none, Option.bind_some] at hx
    by_cases hn : nameB m = true
    ·
     rw [if_pos hn] at hx; cases hx
    ·
     simp only; rw [if_neg hn]; exact putsGo_congr h
   | some n =>
    rw [hg] at hx
    simp only [Option.bind_some] at hx
    simp only
    by_cases hm : nameB m = true
    ·
     rw [if_pos hm] at hx ⊢
     by_cases hn : nameB n = true
     ·
      rw [if_pos hn] at hx ⊢
      cases hx
      exact putsGo_congr h
     ·
      rw [if_neg hn] at hx; cases hx
    ·
     rw [if_neg hm] at hx ⊢
     by_cases hn : nameB n = true
     ·
      rw [if_pos hn] at hx; cases hx
     ·
      rw [if_neg hn]; exact putsGo_congr h
/-! ### the deed, as the document has it -/
theorem rulesErr_snoc (l : List Rul) (x : Rul) : rulesErr (l ++ [x]) = if rulesErr l ≠ 0 then rulesErr l else ruleErr x := by
 induction l with
 | nil =>
  show (if ruleErr x ≠ 0 then ruleErr x else 0) = _
  by_cases h : ruleErr x = 0
  ·
   rw [if_neg (by omega), if_neg (by simp [rulesErr]), h]
  ·
   rw [if_pos h, if_neg (by simp [rulesErr])]
 | cons y l ih =>
  show (if ruleErr y ≠ 0 then ruleErr y else rulesErr (l ++ [x])) = if (if ruleErr y ≠ 0 then ruleErr y else rulesErr l) ≠ 0 then (if ruleErr y ≠ 0 then ruleErr y else rulesErr l) else ruleErr x
  by_cases h : ruleErr y = 0
  ·
   have e1 : (if ruleErr y ≠ 0 then ruleErr y else rulesErr l) = rulesErr l := if_neg (by omega)
   rw [if_neg (by omega), e1, ih]
  ·
   have e1 : (if ruleErr y ≠ 0 then ruleErr y else rulesErr l) = ruleErr y := if_pos h
   rw [if_pos h, e1, if_pos h]
theorem rulesErr_app (l m : List Rul) (h : rulesErr l ≠ 0) : rulesErr (l ++ m) = rulesErr l := by
 induction l with
 | nil => exact absurd rfl h
 | cons y l ih =>
  have h' : (if ruleErr y ≠ 0 then ruleErr y else rulesErr l) ≠ 0 := h
  show (if ruleErr y ≠ 0 then ruleErr y else rulesErr (l ++ m)) = if ruleErr y ≠ 0 then ruleErr y else rulesErr l
  by_cases hy : ruleErr y = 0
  ·
   rw [if_neg (by omega)] at h' ⊢
   rw [if_neg (by omega)]
   exact ih h'
  ·
   rw [if_pos hy, if_pos hy]
def Step (rs : List Rul) (r : Rul) (made m : List Lab) : Prop := ruleGo (r :: rs) made = (if 20 < m.length then ([], false, 2) else ruleGo rs m) ∧ (m.length ≤ 20 → checkB m = 0)
theorem with_is {ls : List Lab} {n v : List UInt8} (hc : checkB ls = 0) (hn : nameB n = true) (hv : v.length ≤ 100) : (withErr ls n v = 0 ∧ withAns ls n v = putB ls n v ∧ (putB ls n v).length ≤ 20) ∨ (withErr ls n v = 2 ∧ 20 < (putB ls n v).length) := by
 have hg := getErr_zero.2 ⟨hc, hn⟩
 by_cases h : (putB ls n v).length ≤ 20
 ·
  have := withErr_zero.2 ⟨hg, hv, h⟩
  exact .inl ⟨this, withAns_ok this, h⟩
 ·
  exact .inr ⟨withErr_many hg hv h, by omega⟩
theorem step_put {rs : List Rul} {r : Rul} {made : List Lab} {src n v : List UInt8} (hs : sourceB r made = src) (h2 : src.length ≤ 2000) (hd : deedR r made src = (withAns made n v, true, withErr made n v)) (hc : checkB made = 0) (hn : nameB n = true) (hv : v.length ≤ 100) : Step rs r made (putB made n v) := by
 refine ⟨?_, fun hl => checkB_put hc hn hv hl⟩
 rw [ruleGo, hs, if_neg (by omega), hd]
 rcases with_is hc hn hv with ⟨h0, ha, hl⟩ | ⟨h0, hl⟩
 ·
  simp only [h0, ha]
  rw [if_neg (by simp), if_neg (by omega)]
 ·
  simp only [h0]
  rw [if_pos (.inl (by decide)), if_pos hl]
theorem step_on {rs : List Rul} {r : Rul} {made : List Lab} {src : List UInt8} {m : List Lab} (hs : sourceB r made = src) (h2 : src.length ≤ 2000) (hd : deedR r made src = (m, true, 0)) (hm : checkB m = 0) : Step rs r made m := by
 refine ⟨?_, fun _ => hm⟩
 have := (eachErr_zero.1 (checkB_zero.1 hm).1).1
 rw [ruleGo, hs, if_neg (by omega), hd, if_neg (by simp), if_neg (by omega)]
theorem step_off {rs : List Rul} {r : Rul} {made : List Lab} {src : List UInt8} {m : List Lab} (hs : sourceB r made = src) (h2 : src.length ≤ 2000) (hd : deedR r made src = (m, false, 0)) : ruleGo (r :: rs) made = ([], false, 0) := by
 rw [ruleGo, hs, if_neg (by omega), hd, if_pos (.inr rfl)]
theorem step_map {rs : List Rul} {r : Rul} {made : List Lab} {src : List UInt8} {f : List UInt8 → Option (List UInt8)} (hs : sourceB r made = src) (h2 : src.length ≤ 2000) (hc : checkB made = 0) (hd : deedR r made src = ((mapGo f made made).1, decide ((mapGo f made made).2 = 0), (mapGo f made made).2)) : Step rs r made (putsGo f made made) := by
 have h := mapGo_is (f := f) (l := made) hc (fun x hx => by
  have := (eachErr_zero.1 (checkB_zero.1 hc).1).2 x hx
  exact ⟨fun e => by rw [e] at this; simp at this, this.2.2⟩)
 refine ⟨?_, fun hl => ?_⟩
 ·
  rw [h] at hd
  rw [ruleGo, hs, if_neg (by omega), hd]
  by_cases hl : (putsGo f made made).length ≤ 20
  ·
   rw [if_pos hl, if_neg (by simp), if_neg (by omega)]
  ·
   rw [if_neg hl, if_pos (.inl (by simp)), if_pos (by omega)]
 ·
  rw [if_pos hl] at h
  have := check_map (f := f) (l := made) hc (by rw [h])
  rw [h] at this
  exact this
section
variable {rs : List Rul} {r : Rul} {made : List Lab} {src : List UInt8} {T : Tr} {g : Nat} {tm : List (List UInt8 × Int)}
theorem deedR_is (hm : maskIs r.mask = .ok (T, g)) : deedR r made src = deedB r T g (tmOf r) made src := by
 unfold deedR trOf
 rw [hm]
theorem tmOf_is (h : tmAt r.repl 0 = some tm) : tmOf r = tm := by
 unfold tmOf
 rw [h]
 rfl
theorem step1_none (hk : r.kind = 1) (hm : maskIs r.mask = .ok (T, g)) (hw : wayOf T src = none) (hs : sourceB r made = src) (h2 : src.length ≤ 2000) (hc : checkB made = 0) : Step rs r made made := by
 refine step_on hs h2 ?_ hc
 rw [deedR_is hm]
 unfold deedB
 rw [if_pos hk, hw]
theorem step1_some {l : Evs} (hk : r.kind = 1) (hm : maskIs r.mask = .ok (T, g)) (ht : tmAt r.repl 0 = some tm) (hn : nameB r.target = true) (hw : wayOf T src = some l) (hs : sourceB r made = src) (h2 : src.length ≤ 2000) (hc : checkB made = 0) : Step rs r made (putB made r.target ((valsT src (tookL src l g) tm).take 100)) := by
 refine step_put hs h2 ?_ hc hn (by simp only [List.length_take]; omega)
 rw [deedR_is hm, tmOf_is ht]
 unfold deedB
 rw [if_pos hk, hw]
 simp only [madeB_is]
theorem step2_on (hk : r.kind = 2) (hm : maskIs r.mask = .ok (T, g)) (hw : likeR T src = true) (hs : sourceB r made = src) (h2 : src.length ≤ 2000) (hc : checkB made = 0) : Step rs r made made := by
 refine step_on hs h2 ?_ hc
 rw [deedR_is hm]
 unfold deedB
 rw [if_neg (by omega), if_pos hk, hw]
theorem step2_off (hk : r.kind = 2) (hm : maskIs r.mask = .ok (T, g)) (hw : likeR T src = false) (hs : sourceB r made = src) (h2 : src.length ≤ 2000) : ruleGo (r :: rs) made = ([], false, 0) := by
 refine step_off (m := made) hs h2 ?_
 rw [deedR_is hm]
 unfold deedB
 rw [if_neg (by omega), if_pos hk, hw]
theorem step3_on (hk : r.kind = 3) (hm : maskIs r.mask = .ok (T, g)) (hw : likeR T src = false) (hs : sourceB r made = src) (h2 : src.length ≤ 2000) (hc : checkB made = 0) : Step rs r made made := by
 refine step_on hs h2 ?_ hc
 rw [deedR_is hm]
 unfold deedB
 rw [if_neg (by omega), if_neg (by omega), if_pos hk, hw]
 rfl
theorem step3_off (hk : r.kind = 3) (hm : maskIs r.mask = .ok (T, g)) (hw : likeR T src = true) (hs : sourceB r made = src) (h2 : src.length ≤ 2000) : ruleGo (r :: rs) made = ([], false, 0) := by
 refine step_off (m := made) hs h2 ?_
 rw [deedR_is hm]
 unfold deedB
 rw [if_neg (by omega), if_neg (by omega), if_pos hk, hw]
 rfl
theorem share_short {src : List UInt8} (hm : r.modulus ≤ 1000000) (h1 : 1 ≤ r.modulus) : (shareT r src).length ≤ 100 := by
 unfold shareT
 rw [Lib.decDigits_length]
 have h : shareN r src < 18446744073709551616 := by
  unfold shareN
  have := Nat.mod_lt (if src = [] then 0 else sumB [([120], src.take 100)]) (show r.modulus.toNat > 0 by omega)
  omega
 have := Lib.nDigits_le20 _ h
 omega
theorem step4 (hk : r.kind = 4) (hm : maskIs r.mask = .ok (T, g)) (hn : nameB r.target = true) (h1 : 1 ≤ r.modulus) (hmd : r.modulus ≤ 1000000) (hs : sourceB r made = src) (h2 : src.length ≤ 2000) (hc : checkB made = 0) : Step rs r made (putB made r.target (shareT r src)) := by
 refine step_put hs h2 ?_ hc hn (share_short hmd h1)
 rw [deedR_is hm]
 unfold deedB
 rw [if_neg (by omega), if_neg (by omega), if_neg (by omega), if_pos hk]
noncomputable def nameC (T : Tr) (g : Nat) (tm : List (List UInt8 × Int)) (n : List UInt8) : Option (List UInt8) := (wayOf T n).map fun l => (valsT n (tookL n l g) tm).take 100
theorem step5 (hk : r.kind = 5) (hm : maskIs r.mask = .ok (T, g)) (ht : tmAt r.repl 0 = some tm) (hs : sourceB r made = src) (h2 : src.length ≤ 2000) (hc : checkB made = 0) : Step rs r made (putsGo (nameC T g tm) made made) := by
 have e : putsGo (nameC T g tm) made made = putsGo (nameOf T g tm) made made := putsGo_congr fun n => by
  unfold nameC nameOf
  cases wayOf T n with
  | none => rfl
  | some l =>
   simp only [Option.map_some, Option.bind_some]
   rcases name_cut (valsT n (tookL n l g) tm) with ⟨h1, h2, h3⟩ | ⟨h1, h2⟩
   ·
    rw [if_pos h1, if_pos h3, h2]
   ·
    rw [if_neg (by rw [h1]; simp), if_neg (by rw [h2]; simp)]
 rw [e]
 refine step_map hs h2 hc ?_
 rw [deedR_is hm, tmOf_is ht]
 unfold deedB
 rw [if_neg (by omega), if_neg (by omega), if_neg (by omega), if_neg (by omega), if_pos hk]
theorem step6 (hk : r.kind = 6) (hm : maskIs r.mask = .ok (T, g)) (hs : sourceB r made = src) (h2 : src.length ≤ 2000) (hc : checkB made = 0) : Step rs r made (made.filter fun x => !likeR T x.1) := by
 refine step_on hs h2 ?_ (check_filter hc _)
 rw [deedR_is hm]
 unfold deedB
 rw [if_neg (by omega), if_neg (by omega), if_neg (by omega), if_neg (by omega), if_neg (by omega), if_pos hk]
theorem step7 (hk : r.kind = 7) (hm : maskIs r.mask = .ok (T, g)) (hs : sourceB r made = src) (h2 : src.length ≤ 2000) (hc : checkB made = 0) : Step rs r made (made.filter fun x => likeR T x.1) := by
 refine step_on hs h2 ?_ (check_filter hc _)
 rw [deedR_is hm]
 unfold deedB
 rw [if_neg (by omega), if_neg (by omega), if_neg (by omega), if_neg (by omega), if_neg (by omega), if_neg (by omega)]
theorem filter_take {p : Lab → Bool} {l : List Lab} {j : Nat} (h : j < l.length) : (l.take (j + 1)).filter p = (l.take j).filter p ++ if p l[j] = true then [l[j]] else [] := by
 rw [List.take_succ_eq_append_getElem h, List.filter_append]
 congr 1
 cases hp : p l[j] <;> simp [hp]
theorem putsGo_take {f : List UInt8 → Option (List UInt8)} {made l : List Lab} {j : Nat} (h : j < l.length) : putsGo f made (l.take (j + 1)) = match f l[j].1 with
  | none => putsGo f made (l.take j)
  | some n => if nameB n = true then putB (putsGo f made (l.take j)) n l[j].2 else putsGo f made (l.take j) := by
 rw [List.take_succ_eq_append_getElem h, putsGo_snoc]
end
end Go.Proofs.YtndpjdmfkhjiiaaGreatDoor.Rl
