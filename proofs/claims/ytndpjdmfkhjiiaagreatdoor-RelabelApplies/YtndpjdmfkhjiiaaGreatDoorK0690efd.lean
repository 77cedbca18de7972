/- 6 texts in one. -/
import Derived.Laws.OwnMore
import Derived.Test.YtndpjdmfkhjiiaaGreatDoorProg
import Derived.Test.YtndpjdmfkhjiiaaGreatDoorK06d19db
import Derived.Test.YtndpjdmfkhjiiaaGreatDoorKb583056
import Derived.Test.YtndpjdmfkhjiiaaGreatDoorKf25e925
import Derived.Test.YtndpjdmfkhjiiaaGreatDoorKbcd5023
import Derived.Test.YtndpjdmfkhjiiaaGreatDoorKab9fbe2
import Derived.Test.YtndpjdmfkhjiiaaGreatDoorK98fb42d
import Derived.Test.YtndpjdmfkhjiiaaGreatDoorK373441a
import Derived.Test.YtndpjdmfkhjiiaaGreatDoorKf8fa243
import Derived.Test.YtndpjdmfkhjiiaaGreatDoorK777559e
import Derived.BigQuiet
import Derived.Test.YtndpjdmfkhjiiaaGreatDoorKb639f27
set_option linter.unusedVariables false
set_option linter.unusedSimpArgs false
namespace Go.Proofs.YtndpjdmfkhjiiaaGreatDoor
open Go.RowKit
attribute [local go_sem] bs_size bs_toList bs_append bs_get bs_extract
def maskIs (m : List UInt8) : Except (Nat × Nat) (Tr × Nat) := (pMask m (2 * m.length + 2)).getD (.error (0, 0))
theorem maskIs_eq (m : List UInt8) : pMask m (2 * m.length + 2) = some (maskIs m) := by
 have h : ∃ y, pMask m (2 * m.length + 2) = some y := by
  unfold pMask
  by_cases h : 60 < m.length
  ·
   exact ⟨_, by rw [if_pos h]⟩
  ·
   obtain ⟨y, hy⟩ := pM_some (m := m) (2 * m.length + 2) true 0 0 (by omega) (by simp)
   rw [if_neg h, hy]
   match y with
   | .error e => exact ⟨_, rfl⟩
   | .ok x =>
    simp only [bindO]
    split <;> exact ⟨_, rfl⟩
 obtain ⟨y, hy⟩ := h
 unfold maskIs
 rw [hy]
 rfl
theorem maskIs_ok {m : List UInt8} {T : Tr} {g : Nat} (h : maskIs m = .ok (T, g)) : wf true T ∧ good (re T) ∧ g ≤ 9 ∧ within 0 g T ∧ sz T ≤ 301 ∧ m.length ≤ 60 := by
 have e := maskIs_eq m
 rw [h] at e
 unfold pMask at e
 split at e
 ·
  cases e
 ·
  rename_i h60
  rcases bindO_eq e with ⟨_, _, e⟩ | ⟨x, hx, e⟩
  ·
   cases e
  ·
   split at e
   ·
    cases e
   ·
    cases e
    have h1 := pM_is hx
    have h2 := pM_sz hx (by omega)
    have h3 := pM_ok hx (by omega)
    simp at h2
    exact ⟨h1.1, h1.2.1, h1.2.2.2.1 (by omega), h1.2.2.2.2, by omega, by omega⟩
theorem maskIs_err {m : List UInt8} {e a : Nat} (h : maskIs m = .error (e, a)) : pMask m (2 * m.length + 2) = some (.error (e, a)) := by rw [maskIs_eq, h]
noncomputable def wayOf (T : Tr) (t : List UInt8) : Option Evs := open Classical in if h : ∃ x, ∃ f, run t f [re T] 0 = some x then h.choose else none
theorem wayOf_is {T : Tr} {t : List UInt8} (g : good (re T)) : ∃ f, run t f [re T] 0 = some (wayOf T t) := by
 have h : ∃ x, ∃ f, run t f [re T] 0 = some x := by
  obtain ⟨f, x, h⟩ := run_total t g
  exact ⟨x, f, h⟩
 unfold wayOf
 rw [dif_pos h]
 exact h.choose_spec
theorem wayOf_eq {T : Tr} {t : List UInt8} {f x} (h : run t f [re T] 0 = some x) : wayOf T t = x := by
 have h' : ∃ x, ∃ f, run t f [re T] 0 = some x := ⟨x, f, h⟩
 unfold wayOf
 rw [dif_pos h']
 obtain ⟨f', h2⟩ := h'.choose_spec
 have a := run_mono t h (Nat.le_max_left f f')
 have b := run_mono t h2 (Nat.le_max_right f f')
 rw [a] at b
 exact (Option.some.inj b).symm
def tookL (t : List UInt8) (l : Evs) (g : Nat) : List (List UInt8) := (List.range g).map fun n => tookB t (lastOf (-1) (2 * n) l) (lastOf (-1) (2 * n + 1) l)
theorem lastOf_any {sl : Nat} {l : Evs} (h : ∃ p, (sl, p) ∈ l) (d d' : Int) : lastOf d sl l = lastOf d' sl l := by
 rcases lastOf_cases sl d l with ⟨h1, _⟩ | ⟨a, b, p, rfl, h1, h2⟩
 ·
  obtain ⟨p, hp⟩ := h
  exact absurd hp (h1 p)
 ·
  rw [show a ++ (sl, p) :: b = (a ++ [(sl, p)]) ++ b by simp, lastOf_append sl (a ++ [(sl, p)]) b d', lastOf_append sl (a ++ [(sl, p)]) b d, lastOf_append sl a [(sl, p)] d', lastOf_append sl a [(sl, p)] d]
  simp [lastOf]
theorem lastOf_neg {sl : Nat} {l : Evs} : lastOf (-1) sl l < 0 ↔ ∀ p, (sl, p) ∉ l := by
 rcases lastOf_cases sl (-1) l with ⟨h1, h2⟩ | ⟨a, b, p, rfl, h1, h2⟩
 ·
  exact ⟨fun _ => h1, fun _ => by rw [h2]; decide⟩
 ·
  refine ⟨fun h => by rw [h2] at h; omega, fun h => absurd (by simp) (h p)⟩
theorem markAll_get {n : Nat} : ∀ (l : Evs) (sl : Nat), sl < n → (markAll (List.replicate n (-1)) l)[sl]? = some (lastOf (-1) sl l)
 | [], sl, h => by simp [markAll, lastOf, h]
 | (s, p) :: l, sl, h => by
  have ih := markAll_get l sl h
  have hlen : (markAll (List.replicate n (-1)) l).length = n := by rw [markAll_length]; simp
  rw [markAll, lastOf]
  unfold markPut
  by_cases e : s = sl
  ·
   subst e
   have hg : (markAll (List.replicate n (-1)) l).getD s 0 = lastOf (-1) s l := by simp [List.getD, ih]
   rw [hg, if_pos rfl]
   by_cases hn : lastOf (-1) s l < 0
   ·
    rw [if_pos hn, List.getElem?_set_self (by omega), lastOf_not (lastOf_neg.1 hn)]
   ·
    rw [if_neg hn, ih]
    congr 1
    refine lastOf_any ?_ _ _
    apply Classical.byContradiction
    intro h2
    exact hn (lastOf_neg.2 fun p hp => h2 ⟨p, hp⟩)
  ·
   rw [if_neg e]
   split
   ·
    rw [List.getElem?_set_ne (fun h => e h), ih]
   ·
    exact ih
theorem markAll_getD {n : Nat} (l : Evs) (sl : Nat) (h : sl < n) : (markAll (List.replicate n (-1)) l).getD sl (-1) = lastOf (-1) sl l := by simp [List.getD, markAll_get l sl h]
theorem starts_length : ∀ (T : Tr) (b : Nat), (starts T b).length ≤ sz T
 | .nil, b => by simp [starts]
 | .set s sg rest, b => by simp [starts]
 | .grp n rows sg rest, b => by simp [starts]
 | .row r rest, b => by have := starts_length rest (b + sz r + 1); simp [starts, sz]; omega
theorem comp_forks {k : Nat} : ∀ (T : Tr) (b e : Nat), sz T ≤ k → 2 ≤ k → ∀ st ∈ comp T b e, ∀ ws, st = .fork ws → ws.length ≤ k := by
 have hpiece : ∀ (b sg : Nat) (body : List St), 2 ≤ k → (∀ st ∈ body, ∀ ws, st = .fork ws → ws.length ≤ k) → ∀ st ∈ pieceC b sg body, ∀ ws, st = .fork ws → ws.length ≤ k := by
  intro b sg body h2 h st hst ws e
  unfold pieceC at hst
  simp only [List.mem_cons, List.mem_append] at hst
  rcases hst with rfl | hst | hst
  ·
   cases e
   split <;> simp <;> omega
  ·
   exact h st hst ws e
  ·
   split at hst
   ·
    simp at hst
    subst hst
    cases e
    simpa using h2
   ·
    simp at hst
 intro T
 induction T with
 | nil => intro b e _ _ st h; simp [comp] at h
 | set s sg rest ih =>
  intro b e hk h2 st h
  simp only [sz] at hk
  simp only [comp, List.mem_append] at h
  rcases h with h | h
  ·
   exact hpiece _ _ _ h2 (fun st h ws e => by simp at h; subst h; cases e) st h
  ·
   exact ih _ _ (by omega) h2 st h
 | grp n rows sg rest ih1 ih2 =>
  intro b e hk h2 st h
  simp only [sz] at hk
  simp only [comp, List.mem_append] at h
  rcases h with h | h
  ·
   refine hpiece _ _ _ h2 (fun st h ws e => ?_) st h
   simp only [List.mem_cons, List.mem_append, List.mem_nil_iff, or_false] at h
   rcases h with rfl | rfl | h | rfl
   ·
    cases e
   ·
    cases e
    have := starts_length rows (b + 3)
    omega
   ·
    exact ih1 _ _ (by omega) h2 st h ws e
   ·
    cases e
  ·
   exact ih2 _ _ (by omega) h2 st h
 | row r rest ih1 ih2 =>
  intro b e hk h2 st h ws ew
  simp only [sz] at hk
  simp only [comp, List.mem_append, List.mem_cons] at h
  rcases h with h | rfl | h
  ·
   exact ih1 _ _ (by omega) h2 st h ws ew
  ·
   cases ew; simp; omega
  ·
   exact ih2 _ _ (by omega) h2 st h ws ew
theorem layC_sound {T : Tr} {g : Nat} (hw : within 0 g T) (hz : sz T ≤ 90000) : sound (layC T) g := by
 intro n st hn
 have hlen := layC_length T
 have hlt : n < (layC T).length := (List.getElem?_eq_some_iff.1 hn).1
 have hok : stOk g (1 + sz T) st ∧ (∀ ws, st = .fork ws → ws.length ≤ 90002) ∧ (n + 1 = (layC T).length → st = .fin) := by
  cases n with
  | zero =>
   simp [layC] at hn
   subst hn
   refine ⟨fun w hw' => ?_, fun ws e => ?_, fun e => by omega⟩
   ·
    have := starts_le w hw'
    omega
   ·
    cases e
    have := starts_length T 1
    omega
  | succ n =>
   rw [layC, List.getElem?_cons_succ] at hn
   rcases Nat.lt_or_ge n (comp T 1 (1 + sz T)).length with h | h
   ·
    rw [List.getElem?_append_left h] at hn
    have hm := List.mem_of_getElem? hn
    rw [comp_length] at h
    exact ⟨comp_ok T 1 (1 + sz T) hw (Nat.le_refl _) (Nat.le_refl _) st hm, comp_forks T _ _ (by omega) (by omega) st hm, fun e => by omega⟩
   ·
    rw [List.getElem?_append_right h] at hn
    cases hk : n - (comp T 1 (1 + sz T)).length with
    | zero =>
     rw [hk] at hn
     simp at hn
     subst hn
     exact ⟨trivial, fun ws e => (by cases e), fun _ => rfl⟩
    | succ k => rw [hk] at hn; simp at hn
 obtain ⟨h1, h2, h3⟩ := hok
 have hne : st ≠ .fin → n + 1 < (layC T).length := fun h => by
  rcases Nat.lt_or_ge (n + 1) (layC T).length with h' | h'
  ·
   exact h'
  ·
   exact absurd (h3 (by omega)) h
 cases st with
 | fin => trivial
 | take s => exact hne (by simp)
 | mark sl => exact ⟨hne (by simp), h1⟩
 | fork ws => exact ⟨by have := h2 ws rfl; omega, fun w hw' => by have := h1 w hw'; omega⟩
def matchOk (w : World) (t : List UInt8) (g : Nat) (x : Option Evs) (e : Ending) (w' : World) : Prop :=
 if 2000 < t.length then e = .returned (.tuple #[.bool false, .slice none 0 0, .int .i64 2]) else match x with
  | none => e = .returned (.tuple #[.bool false, .slice none 0 0, .int .i64 0])
  | some l => ∃ v, e = .returned (.tuple #[.bool true, v, .int .i64 0]) ∧ ownStrs w' w.heap.size v (tookL t l g)
theorem matchOk_long {w : World} {t : List UInt8} {g : Nat} {x : Option Evs} {e : Ending} {w' : World} (h : 2000 < t.length) (he : e = .returned (.tuple #[.bool false, .slice none 0 0, .int .i64 2])) : matchOk w t g x e w' := by
 unfold matchOk; rw [if_pos h]; exact he
theorem matchOk_none {w : World} {t : List UInt8} {g : Nat} {e : Ending} {w' : World} (h : t.length ≤ 2000) (he : e = .returned (.tuple #[.bool false, .slice none 0 0, .int .i64 0])) : matchOk w t g none e w' := by
 unfold matchOk; rw [if_neg (by omega)]; exact he
theorem matchOk_some {w : World} {t : List UInt8} {g : Nat} {l : Evs} {e : Ending} {w' : World} {v : Value} (h : t.length ≤ 2000) (he : e = .returned (.tuple #[.bool true, v, .int .i64 0])) (hv : ownStrs w' w.heap.size v (tookL t l g)) : matchOk w t g (some l) e w' := by
 unfold matchOk; rw [if_neg (by omega)]; exact ⟨v, he, hv⟩
def matchAns (w : World) (m t : List UInt8) (e : Ending) (w' : World) : Prop := match maskIs m with
 | .error x => e = .returned (.tuple #[.bool false, .slice none 0 0, .int .i64 x.1])
 | .ok x => matchOk w t x.2 (wayOf x.1 t) e w'
theorem pBr_err {m i x} (h : pBr m i = some (.error x)) : 1 ≤ x.1 ∧ x.1 ≤ 7 ∧ x.2 ≤ max i m.length := by
 unfold pBr at h
 split at h
 ·
  cases h; exact ⟨(by simp), (by simp), (by simp only; omega)⟩
 ·
  split at h
  ·
   cases h; exact ⟨(by simp), (by simp), (by simp only; omega)⟩
  ·
   cases h
theorem pSpan_err {m i x} (h : pSpan m i = some (.error x)) (hi : i ≤ m.length) : 1 ≤ x.1 ∧ x.1 ≤ 7 ∧ x.2 ≤ m.length := by
 unfold pSpan at h
 rcases bindO_eq h with ⟨e, he, h⟩ | ⟨a, ha, h⟩
 ·
  cases h; have := pBr_err he; omega
 ·
  have l1 := get_lt (pBr_ok ha).1
  split at h
  ·
   rename_i hat
   have l2 := isAt_lt hat
   rcases bindO_eq h with ⟨e, he, h⟩ | ⟨b, hb, h⟩
   ·
    cases h; have := pBr_err he; omega
   ·
    have l3 := get_lt (pBr_ok hb).1
    split at h
    ·
     cases h; exact ⟨(by simp), (by simp), (by simp only; omega)⟩
    ·
     cases h
  ·
   cases h
theorem pSpans_err {m} : ∀ {f s i x}, pSpans m f s i = some (.error x) → i ≤ m.length → 1 ≤ x.1 ∧ x.1 ≤ 7 ∧ x.2 ≤ m.length := by
 intro f
 induction f with
 | zero => intro s i x h; cases h
 | succ f ih =>
  intro s i x h hi
  rw [pSpans] at h
  split at h
  ·
   cases h
  ·
   rcases bindO_eq h with ⟨e, he, h⟩ | ⟨y, hy, h⟩
   ·
    cases h; exact pSpan_err he hi
   ·
    exact ih h (pSpan_ok hy).2
theorem pSet_err {m i c x} (hc : m[i]? = some c) (h : pSet m i c = some (.error x)) : 1 ≤ x.1 ∧ x.1 ≤ 7 ∧ x.2 ≤ m.length := by
 have li := get_lt hc
 unfold pSet at h
 split at h
 ·
  unfold pBrackets at h
  have hj : (if isAt m (i + 1) 94 = true then i + 1 + 1 else i + 1) ≤ m.length := by
   split
   ·
    rename_i hat; have := isAt_lt hat; omega
   ·
    omega
  rcases bindO_eq h with ⟨e, he, h⟩ | ⟨y, hy, h⟩
  ·
   cases h; exact pSpan_err he hj
  ·
   rcases bindO_eq h with ⟨e, he, h⟩ | ⟨z, hz, h⟩
   ·
    cases h; exact pSpans_err he (pSpan_ok hy).2
   ·
    cases h
 ·
  split at h
  ·
   cases h
  ·
   split at h
   ·
    split at h
    ·
     cases h; exact ⟨(by simp), (by simp), (by simp only; omega)⟩
    ·
     rename_i d hd
     have := get_lt hd
     split at h
     ·
      cases h; exact ⟨(by simp), (by simp), (by simp only; omega)⟩
     ·
      cases h
   ·
    split at h
    ·
     cases h; exact ⟨(by simp), (by simp), (by simp only; omega)⟩
    ·
     cases h
theorem pSign_err {m n i x} (h : pSign m n i = some (.error x)) : 1 ≤ x.1 ∧ x.1 ≤ 7 ∧ x.2 ≤ m.length := by
 unfold pSign at h
 split at h
 ·
  rename_i c hc
  have := get_lt hc
  split at h
  ·
   split at h
   ·
    cases h; exact ⟨(by simp), (by simp), (by simp only; omega)⟩
   ·
    cases h
  ·
   cases h
 ·
  cases h
theorem pM_err {m} : ∀ {f rows i g x}, pM m f rows i g = some (.error x) → i ≤ m.length → 1 ≤ x.1 ∧ x.1 ≤ 7 ∧ x.2 ≤ m.length := by
 intro f
 induction f with
 | zero => intro rows i g x h; cases h
 | succ f ih =>
  intro rows i g x h hi
  cases rows with
  | true =>
   rw [pM] at h
   rcases bindO_eq h with ⟨e, he, h⟩ | ⟨y, hy, h⟩
   ·
    cases h; exact ih he hi
   ·
    have h1 := pM_ok hy hi
    split at h
    ·
     rename_i hat
     have := isAt_lt hat
     rcases bindO_eq h with ⟨e, he, h⟩ | ⟨z, hz, h⟩
     ·
      cases h; exact ih he (by omega)
     ·
      cases h
    ·
     cases h
  | false =>
   rw [pM] at h
   split at h
   ·
    cases h
   ·
    rename_i c hc
    have li := get_lt hc
    split at h
    ·
     cases h
    ·
     split at h
     ·
      split at h
      ·
       cases h; exact ⟨(by simp), (by simp), (by simp only; omega)⟩
      ·
       rcases bindO_eq h with ⟨e, he, h⟩ | ⟨y, hy, h⟩
       ·
        cases h; exact ih he (by omega)
       ·
        have h1 := pM_ok hy (by omega)
        split at h
        ·
         rename_i hat
         have := isAt_lt hat
         rcases bindO_eq h with ⟨e, he, h⟩ | ⟨z, hz, h⟩
         ·
          cases h; exact pSign_err he
         ·
          have h2 := pSign_ok hz (by omega)
          rcases bindO_eq h with ⟨e, he, h⟩ | ⟨u, hu, h⟩
          ·
           cases h; exact ih he (by omega)
          ·
           cases h
        ·
         cases h; exact ⟨(by simp), (by simp), (by simp only; omega)⟩
     ·
      rcases bindO_eq h with ⟨e, he, h⟩ | ⟨y, hy, h⟩
      ·
       cases h; exact pSet_err hc he
      ·
       have h1 := pSet_ok hc hy
       rcases bindO_eq h with ⟨e, he, h⟩ | ⟨z, hz, h⟩
       ·
        cases h; exact pSign_err he
       ·
        have h2 := pSign_ok hz (by omega)
        rcases bindO_eq h with ⟨e, he, h⟩ | ⟨u, hu, h⟩
        ·
         cases h; exact ih he (by omega)
        ·
         cases h
theorem maskIs_pos {m : List UInt8} {e a : Nat} (h : maskIs m = .error (e, a)) : 1 ≤ e ∧ e ≤ 7 ∧ a ≤ m.length := by
 have h := maskIs_err h
 unfold pMask at h
 split at h
 ·
  cases h; exact ⟨by decide, by decide, by omega⟩
 ·
  rcases bindO_eq h with ⟨x, he, h⟩ | ⟨x, hx, h⟩
  ·
   cases h; exact pM_err he (by omega)
  ·
   split at h
   ·
    cases h; exact ⟨by decide, by decide, by have := pM_ok hx (by omega); omega⟩
   ·
    cases h
def faultOf (m : List UInt8) : Nat × Nat := match maskIs m with
 | .error x => x
 | .ok _ => (0, 0)
def groupsOf (m : List UInt8) : Nat := match maskIs m with
 | .error _ => 0
 | .ok x => x.2
theorem laid_two (w : World) (x y u v : Value) (t1 t2 : TypeId) : ∃ W : World, (w.alloc (.cells #[x, y] t1)).alloc (.cells #[u, v] t2) = W ∧
  Grow w W ∧ W.heap[w.heap.size]? = some (.cells #[x, y] t1 (0, 0)) ∧ W.heap[w.heap.size + 1]? = some (.cells #[u, v] t2 (0, 0)) ∧ W.heap.size = w.heap.size + 2 := by
 refine ⟨_, rfl, ((Grow.refl _).alloc _).alloc _, (Below.heap_alloc _ _ _ (by simp)).trans (heap_alloc_new _ _), ?_, by simp⟩
 have := heap_alloc_new (w.alloc (.cells #[x, y] t1)) (.cells #[u, v] t2)
 rw [show (w.alloc (.cells #[x, y] t1)).heap.size = w.heap.size + 1 by simp] at this
 exact this
set_option maxRecDepth 20000 in
set_option maxHeartbeats 4000000 in
theorem check_mask (w : World) (m : List UInt8) (hml : m.length ≤ 9223372036854775807) :
  Calls Tryz.prog 71 #[.string (bs m)] w fun e w' => Grow w w' ∧ e = .returned (.tuple #[.int .i64 (groupsOf m), .agg #[.int .i64 (faultOf m).1, .int .i64 (faultOf m).2]]) := by
 have HP := hide fun W => parse_any W (maskIs m) hml (maskIs_eq m)
 unfold groupsOf faultOf
 obtain ⟨A, HA⟩ : ∃ A, Hid (A = w.alloc (.cells #[.int .i64 0, .int .i64 0] 65)) := ⟨_, hide rfl⟩
 have gA : Grow w A := by rw [HA.out]; exact (Grow.refl _).alloc _
 have hA0 : A.heap[w.heap.size]? = some (.cells #[.int .i64 0, .int .i64 0] 65 (0, 0)) := by rw [HA.out]; exact heap_alloc_new _ _
 have GA := hide gA
 have HA0 := hide hA0
 have eA := HA.out.symm
 clear gA hA0 HA
 cases hm : maskIs m with
 | error x =>
  obtain ⟨er, a⟩ := x
  have he := maskIs_pos hm
  have he2 : ((er : Int) != 0) = true := by simp; omega
  rw [hm] at HP
  clear hm
  go_enter Tryz.func71, Tryz.ntmps71
  go_wp2_with fail
  refine (HP.out _).mono ?_
  rintro e w1 ⟨hg, rfl⟩
  have hr1 := hg.get HA0.out
  have HG : Hid (Grow w w1) := hide (GA.out.trans hg)
  have hlt := lt_of_block hr1
  obtain ⟨W, eW, gW, hp, hf, hsz⟩ := laid_two w1 (.slice none 0 0) (.int .i64 0) (.int .i64 er) (.int .i64 a) 96 65
  obtain ⟨p0, p1⟩ := cells_two hp
  obtain ⟨f0, f1⟩ := cells_two hf
  have hr := gW.get hr1
  obtain ⟨r0, r1⟩ := cells_two hr
  have z0 := not_frozen (k := 0) hr
  have z1 := not_frozen (k := 1) hr
  have HR := hide hr
  have HG2 : Hid (Grow w W) := hide (HG.out.trans gW)
  clear hg HP hr1 eA gW hp hf hr
  go_wp2
  refine wp_region_free 2 18 Tryz.mixed2 rfl (by decide +kernel) Grow (fun _ _ _ => Grow.trans) (Grow.refl _)
   (fun i v w' => match i with
    | 0 => v = .agg #[.int .i64 er, .int .i64 a]
    | _ => v = .int .i64 0)
   (fun i v w1 w2 h hg => h) (fun _ _ => False) (fun _ _ _ _ h => h.elim) (fun i hi o ho a2 w2 hG hoff hdep => ?_) (fun vals w2 hG hvals => ?_)
  ·
   have hg2 : Grow W w2 := hG.undrew
   have q0 := (cell_keep (sp := none) (o := 0) (hg2.block (w1.heap.size + 1) (by omega))).trans f0
   have q1 := (cell_keep (sp := none) (o := 1) (hg2.block (w1.heap.size + 1) (by omega))).trans f1
   clear f0 f1
   match i, hi with
   | 0, _ =>
    obtain rfl := Option.some.inj ho
    have o5 := hoff 5 (by decide +kernel)
    simp at o5
    simp [opYields, go_sem, o5, q0, q1]
    exact Grow.refl _
   | 1, _ =>
    obtain rfl := Option.some.inj ho
    simp [opYields, go_sem]
    exact Grow.refl _
   | k + 2, h => exact absurd h (by omega)
  ·
   have v0 := hvals 0 (by omega)
   have v1 := hvals 1 (by omega)
   simp only at v0 v1
   clear hvals
   have hg2 : Grow W w2 := hG.undrew
   have hr2 := hg2.get HR.out
   have y0 := not_frozen (k := 0) hr2
   have y1 := not_frozen (k := 1) hr2
   obtain ⟨s0, s1⟩ := cells_two hr2
   obtain ⟨Z, HZ⟩ : ∃ Z, Hid (Z = (w2.setCell ⟨w.heap.size, 0, none⟩ (.int .i64 er)).setCell ⟨w.heap.size, 1, none⟩ (.int .i64 a)) := ⟨_, hide rfl⟩
   have hZ : Z.heap[w.heap.size]? = some (.cells #[.int .i64 er, .int .i64 a] 65 (0, 0)) := by
    rw [HZ.out, set_blk (set_blk hr2 _)]
    simp
   have hGZ : Grow w Z := by
    rw [HZ.out]
    exact ((HG2.out.trans hg2).setCell (Nat.le_refl _) _).setCell (Nat.le_refl _) _
   have eZ := HZ.out.symm
   obtain ⟨t0, t1⟩ := cells_two hZ
   have HGZ := hide hGZ
   clear hG hg2 hr2 hGZ hZ HZ
   simp [over, dstOf, Act.put, v0, v1]
   go_wp2
   clear eZ
   simp [bodyPost, results, Tryz.results71, go_sem, t0, t1]
   exact HGZ.out
 | ok x =>
  obtain ⟨T, g⟩ := x
  rw [hm] at HP
  clear hm
  go_enter Tryz.func71, Tryz.ntmps71
  go_wp2_with fail
  refine (HP.out _).mono ?_
  rintro e w1 ⟨hg, sv, rfl, hs⟩
  obtain ⟨ao, n, cp, rfl⟩ : ∃ ao n cp, sv = .slice ao n cp := by
   obtain ⟨rs, h1, _⟩ := hs
   obtain ⟨ao, cp, h⟩ := own_shape h1
   exact ⟨ao, _, cp, h⟩
  have hr1 := hg.get HA0.out
  have HG : Hid (Grow w w1) := hide (GA.out.trans hg)
  have hlt := lt_of_block hr1
  obtain ⟨W, eW, gW, hp, hf, hsz⟩ := laid_two w1 (.slice ao n cp) (.int .i64 g) (.int .i64 0) (.int .i64 0) 96 65
  obtain ⟨p0, p1⟩ := cells_two hp
  obtain ⟨f0, f1⟩ := cells_two hf
  have hr := gW.get hr1
  obtain ⟨r0, r1⟩ := cells_two hr
  have z0 := not_frozen (k := 0) hr
  have z1 := not_frozen (k := 1) hr
  have zf0 := not_frozen (k := 0) hf
  have zf1 := not_frozen (k := 1) hf
  obtain ⟨Z, HZ⟩ : ∃ Z, Hid (Z = (((W.setCell ⟨w1.heap.size + 1, 0, none⟩ (.int .i64 0)).setCell ⟨w1.heap.size + 1, 1, none⟩ (.int .i64 0)).setCell ⟨w.heap.size, 0, none⟩ (.int .i64 0)).setCell ⟨w.heap.size, 1, none⟩ (.int .i64 0)) := ⟨_, hide rfl⟩
  have hZ : Z.heap[w.heap.size]? = some (.cells #[.int .i64 0, .int .i64 0] 65 (0, 0)) := by
   rw [HZ.out, set_blk (set_blk (((set_apart (b := w1.heap.size + 1) (k := w.heap.size) _ (by omega)).trans (set_apart (b := w1.heap.size + 1) (k := w.heap.size) _ (by omega))).trans hr) _)]
   simp
  have hGZ : Grow w Z := by
   rw [HZ.out]
   have hs1 := HG.out.size
   have hs2 : w.heap.size ≤ w1.heap.size + 1 := by omega
   exact ((((HG.out.trans gW).setCell hs2 _).setCell hs2 _).setCell (Nat.le_refl _) _).setCell (Nat.le_refl _) _
  have eZ := HZ.out.symm
  obtain ⟨t0, t1⟩ := cells_two hZ
  have HGZ := hide hGZ
  clear hg HP hs hr1 eA gW hp hf hr hGZ hZ HZ
  go_wp2
  simp [bodyPost, results, Tryz.results71, go_sem, t0, t1]
  exact HGZ.out
theorem grow_drewN (w : World) (n : Nat) : Grow w (w.drewN n) := ⟨rfl, rfl, rfl, Nat.le_refl _, fun _ _ => rfl⟩
theorem tooksB_took {t : List UInt8} {l : Evs} {g : Nat} : tooksB t (markAll (List.replicate (2 * g) (-1)) l) g = tookL t l g := by
 unfold tooksB tookL
 refine List.map_congr_left fun k hk => ?_
 rw [List.mem_range] at hk
 rw [markAll_getD l (2 * k) (by omega), markAll_getD l (2 * k + 1) (by omega)]
set_option maxRecDepth 20000 in
set_option maxHeartbeats 4000000 in
theorem match_any (w : World) (m t : List UInt8) (hml : m.length ≤ 9223372036854775807) (htl : t.length ≤ 9223372036854775807) :
  Calls Tryz.prog 27 #[.string (bs m), .string (bs t)] w fun e w' => Grow w w' ∧ matchAns w m t e w' := by
 have HP := hide fun W => parse_any W (maskIs m) hml (maskIs_eq m)
 unfold matchAns
 cases hm : maskIs m with
 | error x =>
  obtain ⟨er, a⟩ := x
  have he := maskIs_pos hm
  have he2 : ((er : Int) != 0) = true := by simp; omega
  rw [hm] at HP
  clear hm
  go_enter Tryz.func27, Tryz.ntmps27
  go_wp2_with fail
  refine (HP.out _).mono ?_
  rintro e w1 ⟨hg, rfl⟩
  obtain ⟨W, eW, gW, hp, hf, hsz⟩ := laid_two w1 (.slice none 0 0) (.int .i64 0) (.int .i64 er) (.int .i64 a) 96 65
  obtain ⟨f0, f1⟩ := cells_two hf
  have HG2 : Hid (Grow w W) := hide (hg.trans gW)
  clear hg HP gW hp hf
  go_wp2
  go_quiet (fail)
  go_wp2
  go_ret3
  exact ⟨HG2.out.trans (grow_drewN W nq), rfl⟩
 | ok x =>
  obtain ⟨T, g⟩ := x
  obtain ⟨hwf, hgood, hg9, hwi, hsz301, hm60⟩ := maskIs_ok hm
  rw [hm] at HP
  clear hm
  have hlay := layC_length T
  have HSN := hide (layC_sound hwi (by omega))
  obtain ⟨fu, hrun⟩ := wayOf_is (t := t) hgood
  obtain ⟨fu', hden⟩ := layC_answers hwf hrun
  have HD := hide hden
  have HRUN := hide hrun
  clear hden hgood hwi hwf hrun
  show Calls _ _ _ _ fun e w' => Grow w w' ∧ matchOk w t g (wayOf T t) e w'
  generalize wayOf T t = x at HD HRUN ⊢
  have HT : Hid (∀ l, x = some l → rising 0 t.length l ∧ closed l) := hide fun l e => way_is (by rw [← e]; exact HRUN.out)
  go_enter Tryz.func27, Tryz.ntmps27
  go_wp2_with fail
  refine (HP.out _).mono ?_
  rintro e w1 ⟨hg, sv, rfl, hs⟩
  obtain ⟨ao, n, cp, rfl⟩ : ∃ ao n cp, sv = .slice ao n cp := by
   obtain ⟨rs, h1, _⟩ := hs
   obtain ⟨ao, cp, h⟩ := own_shape h1
   exact ⟨ao, _, cp, h⟩
  obtain ⟨W, eW, gW, hp, hf, hsz⟩ := laid_two w1 (.slice ao n cp) (.int .i64 g) (.int .i64 0) (.int .i64 0) 96 65
  obtain ⟨p0, p1⟩ := cells_two hp
  obtain ⟨f0, f1⟩ := cells_two hf
  have zf0 := not_frozen (k := 0) hf
  have zf1 := not_frozen (k := 1) hf
  obtain ⟨Z, HZ⟩ : ∃ Z, Hid (Z = (W.setCell ⟨w1.heap.size + 1, 0, none⟩ (.int .i64 0)).setCell ⟨w1.heap.size + 1, 1, none⟩ (.int .i64 0)) := ⟨_, hide rfl⟩
  have hZp : Z.heap[w1.heap.size]? = some (.cells #[.slice ao n cp, .int .i64 g] 96 (0, 0)) := by
   rw [HZ.out, set_apart (b := w1.heap.size + 1) (k := w1.heap.size) _ (by omega), set_apart (b := w1.heap.size + 1) (k := w1.heap.size) _ (by omega)]
   exact hp
  have hZf : Z.heap[w1.heap.size + 1]? = some (.cells #[.int .i64 0, .int .i64 0] 65 (0, 0)) := by
   rw [HZ.out, set_blk (set_blk hf _)]
   simp
  have hGZ : Grow w1 Z := by
   rw [HZ.out]
   exact (gW.setCell (Nat.le_succ _) _).setCell (Nat.le_succ _) _
  have hsZ : stepsIn Z (.slice ao n cp) (layC T) := hs.keep hGZ
  have eZ := HZ.out.symm
  obtain ⟨s0, s1⟩ := cells_two hZp
  obtain ⟨t0, t1⟩ := cells_two hZf
  have HG2 : Hid (Grow w Z) := hide (hg.trans hGZ)
  have HSZ := hide hsZ
  clear hg HP hs gW hp hf hZp hZf hGZ HZ hsZ
  by_cases hlong : 2000 < t.length
  ·
   have hl2 : (2000 : Int) < (t.length : Int) := by omega
   have HL := hide hlong
   clear hlong
   go_wp2
   go_ret3
   exact ⟨HG2.out, matchOk_long HL.out rfl⟩
  ·
   have hl2 : ¬ (2000 : Int) < (t.length : Int) := by omega
   have hl3 : t.length ≤ 2000 := by omega
   have HL := hide hl3
   clear hlong
   go_wp2_with fail
   refine (newWalk_any Z (.slice ao n cp) g (layC T) t HSZ.out hg9 (by omega) (by omega) hl3).mono ?_
   rintro e w2 ⟨wb, sb, tb, mb, rfl, hg2, htb, hmb, hwk, htr, hmk⟩
   have HF : Hid (Calls Tryz.prog 58 #[.pointer (some ⟨wb, 0, none⟩), .int .i64 0, .int .i64 0] w2 fun e w' => fromPost (layC T) t tb mb (List.replicate ((layC T).length * (t.length + 1)) false) (List.replicate (2 * g) (-1)) x w2 e w') := by
    refine from_any (layC T) t wb sb tb mb g (by omega) hl3 HSN.out fu' 0 0 x w2 _ _ (by simpa using hwk) htr hmk (by simp) (by simp) HD.out (by omega) (by omega) ?_
    intro n p hp h
    rw [List.getElem?_replicate] at h
    split at h
    ·
     cases h
    ·
     cases h
   have HWK := hide hwk
   have HG3 : Hid (Grow w w2) := hide (HG2.out.trans hg2)
   have HK : Hid (∀ w3, Kept2 tb mb w2 w3 → Grow w w3) := hide fun w3 h => by
    have hs := HG2.out.size
    have hs2 := HG3.out.size
    exact ⟨h.os.trans HG3.out.os, h.tape.trans HG3.out.tape, h.output.trans HG3.out.output, Nat.le_trans hs2 h.size, fun k hk => (h.block k (by omega) (by omega) (by omega)).trans (HG3.out.block k hk)⟩
   clear htr hmk hg2 hwk HD HRUN eZ s0 s1 t0 t1 p0 p1 f0 f1 zf0 zf1 eW
   cases x with
   | none =>
    go_wp2_with fail
    refine HF.out.mono ?_
    rintro e w3 ⟨rfl, hk, -⟩
    have hk3 := HK.out w3 hk
    go_wp2
    go_ret3
    exact ⟨hk3, matchOk_none HL.out rfl⟩
   | some l =>
    go_wp2_with fail
    refine HF.out.mono ?_
    rintro e w3 ⟨rfl, hk, tr', htl', htr', -, hmk'⟩
    have hmk3 := hmk' l rfl
    have hg3 := HK.out w3 hk
    have hw3 := HWK.out.keep hk
    obtain ⟨hr, hc⟩ := HT.out l rfl
    have HGR : Hid (∀ _ : World, Calls Tryz.prog 59 #[.pointer (some ⟨wb, 0, none⟩)] w3 fun e w' => ∃ v, e = .returned v ∧ Grow w3 w' ∧ ownStrs w' w3.heap.size v (tookL t l g)) := hide fun _ => by
     have h := groups_any w3 wb sb tb mb g (layC T) t ((layC T).length * (t.length + 1)) (markAll (List.replicate (2 * g) (-1)) l) (by rw [markAll_length]; simpa using hw3) hmk3 (by rw [markAll_length]; simp) hg9 HL.out (fun k hk => by
      rw [markAll_getD l (2 * k) (by omega), markAll_getD l (2 * k + 1) (by omega)]
      exact group_places hr hc k)
     rw [tooksB_took] at h
     exact h
    have HG4 := hide hg3
    clear hk hmk3 hmk' hw3 hr hc htr' htl' hg3
    go_wp2_with fail
    refine (HGR.out w3).mono ?_
    rintro e w4 ⟨v, rfl, hg4, ho⟩
    have HG5 : Hid (Grow w w4) := hide (HG4.out.trans hg4)
    have HO : Hid (ownStrs w4 w.heap.size v (tookL t l g)) := hide (own_le ho HG4.out.size)
    clear hg4 ho
    go_wp2
    go_ret3
    exact ⟨HG5.out, matchOk_some HL.out rfl HO.out⟩
def boolRow (s : UInt8 → Bool) : List Bool := (List.range 256).map fun k => s (UInt8.ofNat k)
theorem boolRow_length (s) : (boolRow s).length = 256 := by simp [boolRow]
theorem boolRow_get (s : UInt8 → Bool) {k : Nat} (h : k < 256) : (boolRow s)[k]? = some (s (UInt8.ofNat k)) := by simp [boolRow, h]
theorem boolRow_at (s : UInt8 → Bool) (c : UInt8) : (boolRow s)[c.toNat]? = some (s c) := by rw [boolRow_get s c.toNat_lt, UInt8.ofNat_toNat]
theorem boolRow_none : List.replicate 256 false = boolRow (fun _ => false) := by
 show _ = (List.range 256).map (Function.const _ false)
 rw [List.map_const, List.length_range]
theorem boolRow_set (s : UInt8 → Bool) (k : Nat) (h : k < 256) (b : Bool) : (boolRow s).set k b = boolRow (fun c => if c.toNat = k then b else s c) := by
 apply List.ext_getElem?
 intro j
 by_cases hj : j < 256
 ·
  rw [boolRow_get _ hj]
  by_cases e : j = k
  ·
   subst e
   rw [List.getElem?_set_self (by rw [boolRow_length]; exact hj)]
   simp [Nat.mod_eq_of_lt hj]
  ·
   rw [List.getElem?_set_ne (fun h => e h.symm), boolRow_get _ hj]
   simp [Nat.mod_eq_of_lt hj, e]
 ·
  rw [List.getElem?_eq_none_iff.2 (by rw [List.length_set, boolRow_length]; omega), List.getElem?_eq_none_iff.2 (by rw [boolRow_length]; omega)]
def boolsAt (w : World) (b : Nat) (l : List Bool) : Prop := w.heap[b]? = some (.cells (l.map Value.bool).toArray 4 (0, 0))
theorem boolsAt.cell {w : World} {b k : Nat} {l : List Bool} (h : boolsAt w b l) {x} (hk : l[k]? = some x) : w.cell? ⟨b, k, none⟩ = some (.bool x) := cell_in h (by simp [hk])
theorem boolsAt.set {w : World} {b : Nat} {l : List Bool} (h : boolsAt w b l) (k : Nat) (x : Bool) : boolsAt (w.setCell ⟨b, k, none⟩ (.bool x)) b (l.set k x) := by
 have := set_blk h (i := k) (.bool x)
 unfold boolsAt
 rw [this]
 congr 1
 simp [List.map_set]
theorem boolsAt.keep {w w' : World} {b : Nat} {l : List Bool} (h : boolsAt w b l) (k : w'.heap[b]? = w.heap[b]?) : boolsAt w' b l := k.trans h
def setAt (w : World) (v : Value) (s : UInt8 → Bool) : Prop := ∃ b, v = .slice (some ⟨b, 0, none⟩) 256 256 ∧ boolsAt w b (boolRow s)
theorem setAt.grow {w w' : World} {v : Value} {s : UInt8 → Bool} (h : setAt w v s) (g : Grow w w') : setAt w' v s := by
 obtain ⟨b, h1, h2⟩ := h
 exact ⟨b, h1, g.get h2⟩
theorem only_one (c : UInt8) : (fun x : UInt8 => if x.toNat = c.toNat then true else false) = between c c := by
 funext x
 unfold between
 by_cases h : x.toNat = c.toNat
 ·
  simp [h]
 ·
  rw [if_neg h]
  have : ¬ (c.toNat ≤ x.toNat ∧ x.toNat ≤ c.toNat) := by omega
  by_cases h1 : c.toNat ≤ x.toNat
  ·
   have h2 : ¬ x.toNat ≤ c.toNat := by omega
   simp [h1, h2]
  ·
   simp [h1]
set_option maxRecDepth 20000 in
theorem alone_any (c : UInt8) (w : World) : Calls Tryz.prog 124 #[.int .u8 (c.toNat : Int)] w fun e w' => e = .returned (.slice (some ⟨w.heap.size, 0, none⟩) 256 256) ∧ Grow w w' ∧ boolsAt w' w.heap.size (boolRow (between c c)) := by
 have hmk0 := make_bools 256 (by decide) w
 have hc := c.toNat_lt
 obtain ⟨A, HA⟩ : ∃ A, Hid (A = w.alloc (.cells (Array.replicate 256 (Value.bool false)) 4)) := ⟨_, hide rfl⟩
 have hA : boolsAt A w.heap.size (boolRow (fun _ => false)) := by
  rw [HA.out, ← boolRow_none]
  unfold boolsAt
  rw [heap_alloc_new, List.map_replicate, List.toArray_replicate]
 have gA : Grow w A := by rw [HA.out]; exact (Grow.refl _).alloc _
 have hcell := hA.cell (boolRow_at _ c)
 have fz := not_frozen (k := c.toNat) hA
 rw [← HA.out] at hmk0
 have hmk : (Instr.makeSlice 120 (.int .i64 256) (.int .i64 256)).run Tryz.prog w = .ok (.slice (some ⟨w.heap.size, 0, none⟩) 256 256) A := hmk0
 have HA1 := hide hA
 have GA := hide gA
 clear hA gA HA hmk0
 go_enter Tryz.func124, Tryz.ntmps124
 go_wp2
 go_ret
 refine ⟨rfl, GA.out.setCell (Nat.le_refl _) _, ?_⟩
 have := HA1.out.set c.toNat true
 rw [boolRow_set _ _ hc, only_one] at this
 exact this
theorem Tryz.infoPiece : (Tryz.prog.info? 155).map (·.size) = some 5 := by kernel_rfl
theorem set_five {w : World} {b : Nat} {y0 y1 y2 y3 y4 : Value} {t : TypeId} (h : w.heap[b]? = some (.cells #[y0, y1, y2, y3, y4] t (0, 0))) (x0 x1 x2 x3 x4 : Value) :
  (((((w.setCell ⟨b, 0, none⟩ x0).setCell ⟨b, 1, none⟩ x1).setCell ⟨b, 2, none⟩ x2).setCell ⟨b, 3, none⟩ x3).setCell ⟨b, 4, none⟩ x4).heap[b]? = some (.cells #[x0, x1, x2, x3, x4] t (0, 0)) := by
 rw [set_blk (set_blk (set_blk (set_blk (set_blk h _) _) _) _)]
 simp
theorem grow_five {w v : World} {b : Nat} (g : Below w.heap.size w v) (hb : w.heap.size ≤ b) (x0 x1 x2 x3 x4 : Value) :
  Below w.heap.size w (((((v.setCell ⟨b, 0, none⟩ x0).setCell ⟨b, 1, none⟩ x1).setCell ⟨b, 2, none⟩ x2).setCell ⟨b, 3, none⟩ x3).setCell ⟨b, 4, none⟩ x4) :=
 ((((g.setCell hb _).setCell hb _).setCell hb _).setCell hb _).setCell hb _
def pieceV (gr : Bool) (sv : Value) (n : Int) (rv : Value) (sg : Int) : Value := .agg #[.bool gr, sv, .int .i64 n, rv, .int .u8 sg]
abbrev pieceZ : Array Value := #[.bool false, .slice none 0 0, .int .i64 0, .slice none 0 0, .int .u8 0]
structure AtS (w : World) (rb : Nat) (m : List UInt8) (i g e a : Nat) (W : World) : Prop where
 kept : Kept2 rb rb w W
 size : w.heap.size < W.heap.size
 out : W.heap[w.heap.size]? = some (.cells pieceZ 155 (0, 0))
 rd : readerAt W rb m i g e a
theorem AtS.first {w A : World} {rb : Nat} {m : List UInt8} {i g e a : Nat} (h : readerAt w rb m i g e a) (hA : A = w.alloc (.cells pieceZ 155)) : AtS w rb m i g e a A := by
 subst hA
 have g : Grow w (w.alloc (.cells pieceZ 155)) := (Grow.refl _).alloc _
 exact ⟨.grow g, by simp, heap_alloc_new _ _, h.grow g⟩
theorem AtS.on {w W W' : World} {rb : Nat} {m : List UInt8} {i g e a i' g' e' a' : Nat} (h : AtS w rb m i g e a W) (hrb : rb < w.heap.size) (k : Kept2 rb rb W W') (hr : readerAt W' rb m i' g' e' a') : AtS w rb m i' g' e' a' W' :=
 ⟨h.kept.trans k, Nat.lt_of_lt_of_le h.size k.size, (k.block _ h.size (by omega) (by omega)).trans h.out, hr⟩
theorem AtS.grow {w W W' : World} {rb : Nat} {m : List UInt8} {i g e a : Nat} (h : AtS w rb m i g e a W) (hrb : rb < w.heap.size) (k : Grow W W') : AtS w rb m i g e a W' := h.on hrb (.grow k) (h.rd.grow k)
theorem AtS.cells {w W : World} {rb : Nat} {m : List UInt8} {i g e a : Nat} (h : AtS w rb m i g e a W) :
  (W.cell? ⟨w.heap.size, 0, none⟩ = some (.bool false) ∧ W.cell? ⟨w.heap.size, 1, none⟩ = some (.slice none 0 0) ∧ W.cell? ⟨w.heap.size, 2, none⟩ = some (.int .i64 0) ∧ W.cell? ⟨w.heap.size, 3, none⟩ = some (.slice none 0 0) ∧ W.cell? ⟨w.heap.size, 4, none⟩ = some (.int .u8 0)) ∧
  (∀ k, W.frozen? ⟨w.heap.size, k, none⟩ = false) := by
 have ho := h.out
 unfold pieceZ at ho
 exact ⟨five_cells ho, fun k => not_frozen (k := k) ho⟩
theorem AtS.setB {w W : World} {rb : Nat} {m : List UInt8} {i g e a b o : Nat} (h : AtS w rb m i g e a W) (hrb : rb < w.heap.size) (hb : w.heap.size < b) (u : Value) : AtS w rb m i g e a (W.setCell ⟨b, o, none⟩ u) := by
 refine ⟨⟨h.kept.os, h.kept.tape, h.kept.output, by simpa [World.setCell] using h.kept.size, fun k h1 h2 h3 => (set_apart _ (by omega)).trans (h.kept.block k h1 h2 h3)⟩, by simpa [World.setCell] using h.size, (set_apart _ (by omega)).trans h.out, (set_apart _ (by omega)).trans h.rd⟩
theorem AtS.store {w W : World} {rb : Nat} {m : List UInt8} {i g e a : Nat} (h : AtS w rb m i g e a W) (hrb : rb < w.heap.size) (x0 x1 x2 x3 x4 : Value) :
  ∃ Z, (((((W.setCell ⟨w.heap.size, 0, none⟩ x0).setCell ⟨w.heap.size, 1, none⟩ x1).setCell ⟨w.heap.size, 2, none⟩ x2).setCell ⟨w.heap.size, 3, none⟩ x3).setCell ⟨w.heap.size, 4, none⟩ x4) = Z ∧
   Kept2 rb rb w Z ∧ Z.heap[w.heap.size]? = some (.cells #[x0, x1, x2, x3, x4] 155 (0, 0)) ∧ readerAt Z rb m i g e a ∧ (∀ k, k ≠ w.heap.size → Z.heap[k]? = W.heap[k]?) := by
 have ho := h.out
 unfold pieceZ at ho
 have hf := set_five ho x0 x1 x2 x3 x4
 have hk5 : Kept2 w.heap.size w.heap.size W (((((W.setCell ⟨w.heap.size, 0, none⟩ x0).setCell ⟨w.heap.size, 1, none⟩ x1).setCell ⟨w.heap.size, 2, none⟩ x2).setCell ⟨w.heap.size, 3, none⟩ x3).setCell ⟨w.heap.size, 4, none⟩ x4) :=
  ((((Kept2.setT _ _).trans (Kept2.setT _ _)).trans (Kept2.setT _ _)).trans (Kept2.setT _ _)).trans (Kept2.setT _ _)
 have hk : ∀ k, k ≠ w.heap.size → (((((W.setCell ⟨w.heap.size, 0, none⟩ x0).setCell ⟨w.heap.size, 1, none⟩ x1).setCell ⟨w.heap.size, 2, none⟩ x2).setCell ⟨w.heap.size, 3, none⟩ x3).setCell ⟨w.heap.size, 4, none⟩ x4).heap[k]? = W.heap[k]? := fun k hk =>
  (set_apart _ hk).trans ((set_apart _ hk).trans ((set_apart _ hk).trans ((set_apart _ hk).trans (set_apart _ hk))))
 generalize (((((W.setCell ⟨w.heap.size, 0, none⟩ x0).setCell ⟨w.heap.size, 1, none⟩ x1).setCell ⟨w.heap.size, 2, none⟩ x2).setCell ⟨w.heap.size, 3, none⟩ x3).setCell ⟨w.heap.size, 4, none⟩ x4) = Z at hf hk hk5 ⊢
 have hs := h.size
 have hs5 := hk5.size
 exact ⟨Z, rfl, ⟨hk5.os.trans h.kept.os, hk5.tape.trans h.kept.tape, hk5.output.trans h.kept.output, by omega, fun k h1 h2 h3 => (hk k (by omega)).trans (h.kept.block k h1 h2 h3)⟩, hf, (hk rb (by omega)).trans h.rd, hk⟩
theorem made_row (W : World) : ∃ W1, (Instr.makeSlice 120 (.int .i64 256) (.int .i64 256)).run Tryz.prog W = .ok (.slice (some ⟨W.heap.size, 0, none⟩) 256 256) W1 ∧ Grow W W1 ∧ W1.heap.size = W.heap.size + 1 ∧ boolsAt W1 W.heap.size (boolRow (fun _ => false)) := by
 refine ⟨W.alloc (.cells (Array.replicate 256 (Value.bool false)) 4), make_bools 256 (by decide) W, (Grow.refl _).alloc _, by simp, ?_⟩
 rw [← boolRow_none]
 unfold boolsAt
 rw [heap_alloc_new, List.map_replicate, List.toArray_replicate]
theorem below_row {k : Nat} (h : k < 256) : (boolRow fun c => decide (c.toNat < k)).set k true = boolRow fun c => decide (c.toNat < k + 1) := by
 rw [boolRow_set _ _ h]
 congr 1
 funext c
 by_cases e : c.toNat = k
 ·
  simp [e]
 ·
  have : c.toNat < k ↔ c.toNat < k + 1 := by omega
  simp [e, this]
theorem below_all : (boolRow fun c => decide (c.toNat < 256)) = boolRow fun _ => true := by
 congr 1
 funext c
 have := c.toNat_lt
 simp
 omega
theorem below_none : (boolRow fun c => decide (c.toNat < 0)) = boolRow fun _ => false := by
 congr 1
def setFrom (B : Nat) (w : World) (v : Value) (s : UInt8 → Bool) : Prop := ∃ b, v = .slice (some ⟨b, 0, none⟩) 256 256 ∧ B ≤ b ∧ boolsAt w b (boolRow s)
def ratomPost (rb : Nat) (m : List UInt8) (g : Nat) (y : Except (Nat × Nat) ((UInt8 → Bool) × Nat)) (w : World) (e : Ending) (w' : World) : Prop :=
 Kept2 rb rb w w' ∧ ∃ v, e = .returned v ∧ match y with
  | .error x => v = pieceV false (.slice none 0 0) 0 (.slice none 0 0) 0 ∧ ∃ j, readerAt w' rb m j g x.1 x.2
  | .ok x => ∃ sv, v = pieceV false sv 0 (.slice none 0 0) 0 ∧ setFrom w.heap.size w' sv x.1 ∧ readerAt w' rb m x.2 g 0 0
set_option maxRecDepth 20000 in
set_option maxHeartbeats 4000000 in
theorem ratom_dot (w : World) (rb : Nat) (m : List UInt8) (i g : Nat) (c : UInt8) (hr : readerAt w rb m i g 0 0) (hc : m[i]? = some c) (hm : m.length ≤ 1000) (hq : c.toNat = 46) :
  Calls Tryz.prog 106 #[.pointer (some ⟨rb, 0, none⟩)] w (ratomPost rb m g (.ok (fun _ => true, i + 1)) w) := by
 have hrb := lt_of_block hr
 have hi := get_lt hc
 have hget : m[i] = c := by rw [List.getElem?_eq_getElem hi] at hc; exact Option.some.inj hc
 have HI46 : Hid (isAt m i 46 = true) := by show _ = _; simp [isAt, hc, hq]
 obtain ⟨A, HA⟩ : ∃ A, Hid (A = w.alloc (.cells pieceZ 155)) := ⟨_, hide rfl⟩
 have hA := AtS.first hr HA.out
 obtain ⟨c0, c1, c2, c3, c4⟩ := five_cells hA.rd
 have HAS : Hid (∀ n, AtS w rb m i g 0 0 (A.drewN n)) := hide fun n => ⟨hA.kept.drewN, hA.size, hA.out, hA.rd⟩
 have eA := HA.out.symm
 skip
 clear hr hc HA hA c2 c3 c4 hq
 go_enter Tryz.func106, Tryz.ntmps106
 go_wp2
 go_quiet (fail)
 have H0 := hide (HAS.out nq)
 clear eA HAS c0 c1
 go_wp2_with fail
 refine (rmay_any _ rb m i g 0 0 46 46 rfl (by decide) (by omega) H0.out.rd).mono ?_
 rintro en w1 ⟨rfl, hk, hr1⟩
 have h1 := H0.out.on hrb hk hr1
 rw [HI46.out] at h1 ⊢
 simp only [onIf] at h1
 have H1 := hide h1
 clear hk hr1 h1 H0
 obtain ⟨W1, hmk, hg1, hs1, hb1⟩ := made_row w1
 have h2 := H1.out.grow hrb hg1
 have hlw := H1.out.size
 have H2 := hide h2
 have HB1 : Hid (boolsAt W1 w1.heap.size (boolRow fun c => decide (c.toNat < 0))) := hide (by rw [below_none]; exact hb1)
 clear hg1 hb1 h2
 go_wp2
 go_loopw [5] (fun v wr => ∃ k : Nat, k ≤ 256 ∧ v = .int .i64 k ∧ Hid (AtS w rb m (i + 1) g 0 0 wr) ∧ Hid (boolsAt wr w1.heap.size (boolRow fun c => decide (c.toNat < k)))) (fun v _ => 256 - (intOf v).toNat)
 case atStart => exact ⟨0, by omega, rfl, H2, HB1⟩
 case round =>
  obtain ⟨k, hk, rfl, HA, HB⟩ := hrel
  by_cases hlt : k < 256
  ·
   have hlt2 : (k : Int) < 256 := by omega
   have hcell := HB.out.cell (k := k) (boolRow_get _ hlt)
   have hfz := not_frozen (k := k) HB.out
   go_wp2
   refine ⟨⟨k + 1, by omega, by go_num, hide (HA.out.setB hrb hlw _), hide ?_⟩, ?_⟩
   ·
    have := HB.out.set k true
    rw [below_row hlt] at this
    exact this
   ·
    simp [intOf]; omega
  ·
   obtain rfl : k = 256 := by omega
   have hB := HB.out
   rw [below_all] at hB
   obtain ⟨⟨r0, r1, r2, r3, r4⟩, rf⟩ := HA.out.cells
   have z0 := rf 0
   have z1 := rf 1
   have z2 := rf 2
   have z3 := rf 3
   have z4 := rf 4
   obtain ⟨Z, eZ, hk, ho, hrd, hkb⟩ := HA.out.store hrb (.bool false) (.slice (some ⟨w1.heap.size, 0, none⟩) 256 256) (.int .i64 0) (.slice none 0 0) (.int .u8 0)
   have HO := hide ho
   have HK := hide hk
   have HRD := hide hrd
   have HKB := hide hkb
   clear rf hk ho hrd hkb
   have HB2 : Hid (boolsAt Z w1.heap.size (boolRow fun _ => true)) := hide (hB.keep (HKB.out _ (by omega)))
   clear hB HA HB
   go_wp2
   refine bodyPost_ret (v := pieceV false (.slice (some ⟨w1.heap.size, 0, none⟩) 256 256) 0 (.slice none 0 0) 0) (results_cell_row (p := 2) (ty := 155) rfl _ _ w.heap.size _ _ _ _ rfl HO.out Tryz.underlying155 rfl Tryz.infoPiece) rfl ⟨HK.out, _, rfl, _, rfl, ⟨_, rfl, by omega, HB2.out⟩, HRD.out⟩
set_option maxRecDepth 20000 in
set_option maxHeartbeats 4000000 in
theorem ratom_esc (w : World) (rb : Nat) (m : List UInt8) (i g : Nat) (c : UInt8) (hr : readerAt w rb m i g 0 0) (hc : m[i]? = some c) (hm : m.length ≤ 1000) (hq : c.toNat = 92) (y : Except (Nat × Nat) ((UInt8 → Bool) × Nat)) (hy : pSet m i c = some y) :
  Calls Tryz.prog 106 #[.pointer (some ⟨rb, 0, none⟩)] w (ratomPost rb m g y w) := by
 have hrb := lt_of_block hr
 have hi := get_lt hc
 have hget : m[i] = c := by rw [List.getElem?_eq_getElem hi] at hc; exact Option.some.inj hc
 have HI92 : Hid (isAt m i 92 = true) := by show _ = _; simp [isAt, hc, hq]
 have HI46 : Hid (isAt m i 46 = false) := by show _ = _; simp [isAt, hc]; omega
 obtain ⟨A, HA⟩ : ∃ A, Hid (A = w.alloc (.cells pieceZ 155)) := ⟨_, hide rfl⟩
 have hA := AtS.first hr HA.out
 obtain ⟨c0, c1, c2, c3, c4⟩ := five_cells hA.rd
 have HAS : Hid (∀ n, AtS w rb m i g 0 0 (A.drewN n)) := hide fun n => ⟨hA.kept.drewN, hA.size, hA.out, hA.rd⟩
 have eA := HA.out.symm
 obtain ⟨j, hj⟩ : ∃ j, i + 1 = j := ⟨_, rfl⟩
 have HY : Hid (some y = match m[j]? with | none => some (.error (1, j)) | some d => if isAl d || isNu d then some (.error (1, j)) else some (.ok (between d d, j + 1))) := by
  show _ = _
  rw [← hy, ← hj]
  simp [pSet, hq]
  rfl
 clear hr hc HA hA c2 c3 c4 hq hy
 go_enter Tryz.func106, Tryz.ntmps106
 go_wp2
 go_quiet (fail)
 have H0 := hide (HAS.out nq)
 clear eA HAS c0 c1
 go_wp2_with fail
 refine (rmay_any _ rb m i g 0 0 46 46 rfl (by decide) (by omega) H0.out.rd).mono ?_
 rintro en w1 ⟨rfl, hk, hr1⟩
 have h1 := H0.out.on hrb hk hr1
 rw [HI46.out] at h1 ⊢
 simp only [onIf] at h1
 have H1 := hide h1
 clear hk hr1 h1 H0
 go_wp2_with fail
 refine (rmay_any _ rb m i g 0 0 92 92 rfl (by decide) (by omega) H1.out.rd).mono ?_
 rintro en w2 ⟨rfl, hk, hr1⟩
 have h1 := H1.out.on hrb hk hr1
 rw [HI92.out] at h1 ⊢
 simp only [onIf] at h1
 have H2 := hide h1
 clear hk hr1 h1 H1
 rw [hj] at H2
 obtain ⟨c0, c1, _, _, _⟩ := five_cells H2.out.rd
 have HR2 : Hid (∀ n, AtS w rb m j g 0 0 (w2.drewN n)) := hide fun n => ⟨H2.out.kept.drewN, H2.out.size, H2.out.out, H2.out.rd⟩
 by_cases hlt : j < m.length
 ·
  obtain ⟨d, hd⟩ : ∃ d, m[j] = d := ⟨_, rfl⟩
  have hgt : m[j]? = some d := by rw [List.getElem?_eq_getElem hlt, hd]
  have hne : ((j : Int) == m.length) = false := by rw [beq_eq_false_iff_ne]; omega
  have hlt2 : (j : Int) < m.length := by omega
  have hdl := d.toNat_lt
  have HY2 : Hid (some y = if isAl d || isNu d then some (.error (1, j)) else some (.ok (between d d, j + 1))) := by
   show _ = _
   rw [HY.out, hgt]
  have HL : Hid (∀ w, Calls Tryz.prog 73 #[.int .u8 (d.toNat : Int)] w fun e w' => e = .returned (.bool (isAlU d)) ∧ w' = w) := hide fun w => rIsLetter_any d w
  have HN : Hid (∀ w, Calls Tryz.prog 20 #[.int .u8 (d.toNat : Int)] w fun e w' => e = .returned (.bool (isNu d)) ∧ w' = w) := hide fun w => rIsNumeral_any d w
  have HAU : Hid (isAl d = (isAlU d && !decide (d.toNat = 95))) := by
   show _ = _
   unfold isAlU
   by_cases h95 : d.toNat = 95
   ·
    simp [isAl, h95]
   ·
    simp [h95]
  clear hgt HY
  cases hL : isAlU d with
  | true =>
   rw [hL] at HL HAU
   by_cases h95 : d.toNat = 95
   ·
    have HN0 : isNu d = false := by simp [isNu, h95]
    have HE : Hid (y = .ok (between d d, j + 1)) := by
     show _ = _
     have h := HY2.out
     rw [HAU.out, HN0] at h
     simp [h95] at h
     exact h
    have h95' : ((d.toNat : Int) != 95) = false := by simp [h95]
    rw [HN0] at HN
    clear h95 HN0 hL HY2 HAU
    go_wp2_with fail
    go_quiet (first | (go_at_call 73; exact Calls.quiet_of_same (HL.out _)) | (go_at_call 20; exact Calls.quiet_of_same (HN.out _)))
    obtain ⟨W3, HW3⟩ : ∃ W3, Hid (W3 = w2.drewN nq) := ⟨_, hide rfl⟩
    rw [← HW3.out]
    have h3 : AtS w rb m j g 0 0 W3 := by rw [HW3.out]; exact HR2.out nq
    obtain ⟨k0, k1, _, _, _⟩ := five_cells h3.rd
    have kf := not_frozen (k := 1) h3.rd
    obtain ⟨W4, HW4⟩ : ∃ W4, Hid (W4 = W3.setCell ⟨rb, 1, none⟩ (.int .i64 ((j : Int) + 1))) := ⟨_, hide rfl⟩
    have h4 : AtS w rb m (j + 1) g 0 0 W4 := by rw [HW4.out]; exact h3.on hrb (.setT _ _) (h3.rd.on _ (by go_num))
    have H4 := hide h4
    have hwr : IntKind.i64.wrap ((j : Int) + 1) = (j : Int) + 1 := wrap_i64_small _ (by omega) (by omega)
    have eW4 := HW4.out.symm
    clear h3 HW3 HW4 h4 c0 c1
    go_wp2
    clear eW4 k0 k1 kf
    obtain ⟨d0, d1, _, _, _⟩ := five_cells H4.out.rd
    refine wp_region_free 11 312 Tryz.mixed2 rfl (by decide +kernel) Grow (fun _ _ _ => Grow.trans) (Grow.refl _)
     (fun i v w' => match i with
      | 0 => v = .pointer (some ⟨rb, 0, none⟩)
      | 1 => v = .pointer (some ⟨rb, 0, none⟩)
      | 2 => v = .pointer (some ⟨rb, 0, none⟩)
      | 3 => v = .string (bs m)
      | 4 => v = .pointer (some ⟨rb, 0, none⟩)
      | 5 => v = .pointer (some ⟨rb, 0, none⟩)
      | 6 => v = .pointer (some ⟨rb, 1, none⟩)
      | 7 => v = .int .i64 ((j + 1 : Nat) : Int)
      | 8 => v = .int .i64 (j : Int)
      | 9 => v = .int .u8 (d.toNat : Int)
      | _ => ∃ b, W4.heap.size ≤ b ∧ v = .slice (some ⟨b, 0, none⟩) 256 256 ∧ boolsAt w' b (boolRow (between d d)))
     (fun i v w1 w2 h hg => ?_) (fun _ _ => False) (fun _ _ _ _ h => h.elim) (fun i hi o ho a2 w5 hG hoff hdep => ?_) (fun vals w5 hG hvals => ?_)
    ·
     match i, h with
     | 0, h => exact h
     | 1, h => exact h
     | 2, h => exact h
     | 3, h => exact h
     | 4, h => exact h
     | 5, h => exact h
     | 6, h => exact h
     | 7, h => exact h
     | 8, h => exact h
     | 9, h => exact h
     | k + 10, h =>
      obtain ⟨b, h1, h2, h3⟩ := h
      exact ⟨b, h1, h2, hg.get h3⟩
    ·
     have hg5 : Grow W4 w5 := hG.undrew
     obtain ⟨d0, d1, _, _, _⟩ := five_cells (H4.out.rd.grow hg5)
     match i, hi with
     | 0, _ =>
      obtain rfl := Option.some.inj ho
      have o0 := hoff 0 (by decide +kernel)
      simp at o0
      simp [opYields, go_sem, o0]
      exact Grow.refl _
     | 1, _ =>
      obtain rfl := Option.some.inj ho
      have d0 := hdep 0 (by decide +kernel)
      simp [slotOf, dstOf] at d0
      simp [opYields, go_sem, d0]
      exact Grow.refl _
     | 2, _ =>
      obtain rfl := Option.some.inj ho
      have d1 := hdep 1 (by decide +kernel)
      simp [slotOf, dstOf] at d1
      simp [opYields, go_sem, d1]
      exact Grow.refl _
     | 3, _ =>
      obtain rfl := Option.some.inj ho
      have d2 := hdep 2 (by decide +kernel)
      simp [slotOf, dstOf] at d2
      simp [opYields, go_sem, d2, d0]
      exact Grow.refl _
     | 4, _ =>
      obtain rfl := Option.some.inj ho
      have o0 := hoff 0 (by decide +kernel)
      simp at o0
      simp [opYields, go_sem, o0]
      exact Grow.refl _
     | 5, _ =>
      obtain rfl := Option.some.inj ho
      have d4 := hdep 4 (by decide +kernel)
      simp [slotOf, dstOf] at d4
      simp [opYields, go_sem, d4]
      exact Grow.refl _
     | 6, _ =>
      obtain rfl := Option.some.inj ho
      have d5 := hdep 5 (by decide +kernel)
      simp [slotOf, dstOf] at d5
      simp [opYields, go_sem, d5]
      exact Grow.refl _
     | 7, _ =>
      obtain rfl := Option.some.inj ho
      have d6 := hdep 6 (by decide +kernel)
      simp [slotOf, dstOf] at d6
      simp [opYields, go_sem, d6, d1]
      exact Grow.refl _
     | 8, _ =>
      obtain rfl := Option.some.inj ho
      have d7 := hdep 7 (by decide +kernel)
      simp [slotOf, dstOf] at d7
      simp [opYields, go_sem, d7]
      exact ⟨Grow.refl _, wrap_i64_small _ (by omega) (by omega)⟩
     | 9, _ =>
      obtain rfl := Option.some.inj ho
      have d3 := hdep 3 (by decide +kernel)
      simp [slotOf, dstOf] at d3
      have d8 := hdep 8 (by decide +kernel)
      simp [slotOf, dstOf] at d8
      simp [opYields, go_sem, d3, d8]
      simp [hlt, hd]
      exact Grow.refl _
     | 10, _ =>
      obtain rfl := Option.some.inj ho
      have d9 := hdep 9 (by decide +kernel)
      simp [slotOf, dstOf] at d9
      simp [opYields, go_sem, d9]
      refine (alone_any d w5).mono ?_
      rintro e w6 ⟨rfl, hg6, hb6⟩
      exact ⟨hg6, _, hG.undrew.size, rfl, hb6⟩
     | k + 11, h => exact absurd h (by omega)
    ·
     obtain ⟨b, hb, v10, hbb⟩ := hvals 10 (by omega)
     clear hvals
     have hg5 : Grow W4 w5 := hG.undrew
     have H5 := hide (H4.out.grow hrb hg5)
     have hs4 := H4.out.size
     have HBB := hide hbb
     clear hG hg5 hbb d0 d1
     obtain ⟨⟨r0, r1, r2, r3, r4⟩, rf⟩ := H5.out.cells
     have z0 := rf 0
     have z1 := rf 1
     have z2 := rf 2
     have z3 := rf 3
     have z4 := rf 4
     obtain ⟨Z, eZ, hk, ho, hrd, hkb⟩ := H5.out.store hrb (.bool false) (.slice (some ⟨b, 0, none⟩) 256 256) (.int .i64 0) (.slice none 0 0) (.int .u8 0)
     have HO := hide ho
     have HK := hide hk
     have HRD := hide hrd
     have HKB := hide hkb
     clear rf hk ho hrd hkb
     have HB2 : Hid (boolsAt Z b (boolRow (between d d))) := hide (HBB.out.keep (HKB.out _ (by omega)))
     simp [over, dstOf, Act.put, v10]
     go_wp2
     refine bodyPost_ret (v := pieceV false (.slice (some ⟨b, 0, none⟩) 256 256) 0 (.slice none 0 0) 0) (results_cell_row (p := 2) (ty := 155) rfl _ _ w.heap.size _ _ _ _ rfl HO.out Tryz.underlying155 rfl Tryz.infoPiece) rfl ⟨HK.out, _, rfl, by rw [HE.out]; exact ⟨_, rfl, ⟨_, rfl, by omega, HB2.out⟩, HRD.out⟩⟩
   ·
    have HE : Hid (y = .error (1, j)) := by
     show _ = _
     have h := HY2.out
     rw [HAU.out] at h
     simp [h95] at h
     exact h
    have h95' : ((d.toNat : Int) != 95) = true := by simp; omega
    clear h95 hL HY2 HAU
    go_wp2_with fail
    go_quiet (first | (go_at_call 73; exact Calls.quiet_of_same (HL.out _)) | (go_at_call 20; exact Calls.quiet_of_same (HN.out _)))
    go_wp2_with fail
    refine (wrong_any _ rb m j g 1 (j : Int) 1 j rfl rfl (HR2.out nq).rd).mono ?_
    rintro en w3 ⟨rfl, hk3, hr3⟩
    have H3 := hide ((HR2.out nq).on hrb hk3 hr3)
    clear hk3 hr3
    obtain ⟨⟨r0, r1, r2, r3, r4⟩, rf⟩ := H3.out.cells
    have z0 := rf 0
    have z1 := rf 1
    have z2 := rf 2
    have z3 := rf 3
    have z4 := rf 4
    obtain ⟨Z, eZ, hk, ho, hrd, hkb⟩ := H3.out.store hrb (.bool false) (.slice none 0 0) (.int .i64 0) (.slice none 0 0) (.int .u8 0)
    have HO := hide ho
    have HK := hide hk
    have HRD := hide hrd
    have HKB := hide hkb
    clear rf hk ho hrd hkb
    go_wp2
    refine bodyPost_ret (v := pieceV false (.slice none 0 0) 0 (.slice none 0 0) 0) (results_cell_row (p := 2) (ty := 155) rfl _ _ w.heap.size _ _ _ _ rfl HO.out Tryz.underlying155 rfl Tryz.infoPiece) rfl ⟨HK.out, _, rfl, by rw [HE.out]; exact ⟨rfl, j, HRD.out⟩⟩
  | false =>
   rw [hL] at HL HAU
   cases hN : isNu d with
   | true =>
    have HE : Hid (y = .error (1, j)) := by
     show _ = _
     have h := HY2.out
     rw [hN] at h
     simp at h
     exact h
    rw [hN] at HN
    clear hN hL HY2 HAU
    go_wp2_with fail
    go_quiet (first | (go_at_call 73; exact Calls.quiet_of_same (HL.out _)) | (go_at_call 20; exact Calls.quiet_of_same (HN.out _)))
    go_wp2_with fail
    refine (wrong_any _ rb m j g 1 (j : Int) 1 j rfl rfl (HR2.out nq).rd).mono ?_
    rintro en w3 ⟨rfl, hk3, hr3⟩
    have H3 := hide ((HR2.out nq).on hrb hk3 hr3)
    clear hk3 hr3
    obtain ⟨⟨r0, r1, r2, r3, r4⟩, rf⟩ := H3.out.cells
    have z0 := rf 0
    have z1 := rf 1
    have z2 := rf 2
    have z3 := rf 3
    have z4 := rf 4
    obtain ⟨Z, eZ, hk, ho, hrd, hkb⟩ := H3.out.store hrb (.bool false) (.slice none 0 0) (.int .i64 0) (.slice none 0 0) (.int .u8 0)
    have HO := hide ho
    have HK := hide hk
    have HRD := hide hrd
    have HKB := hide hkb
    clear rf hk ho hrd hkb
    go_wp2
    refine bodyPost_ret (v := pieceV false (.slice none 0 0) 0 (.slice none 0 0) 0) (results_cell_row (p := 2) (ty := 155) rfl _ _ w.heap.size _ _ _ _ rfl HO.out Tryz.underlying155 rfl Tryz.infoPiece) rfl ⟨HK.out, _, rfl, by rw [HE.out]; exact ⟨rfl, j, HRD.out⟩⟩
   | false =>
    have HE : Hid (y = .ok (between d d, j + 1)) := by
     show _ = _
     have h := HY2.out
     rw [HAU.out, hN] at h
     simp at h
     exact h
    rw [hN] at HN
    clear hN hL HY2 HAU
    go_wp2_with fail
    go_quiet (first | (go_at_call 73; exact Calls.quiet_of_same (HL.out _)) | (go_at_call 20; exact Calls.quiet_of_same (HN.out _)))
    obtain ⟨W3, HW3⟩ : ∃ W3, Hid (W3 = w2.drewN nq) := ⟨_, hide rfl⟩
    rw [← HW3.out]
    have h3 : AtS w rb m j g 0 0 W3 := by rw [HW3.out]; exact HR2.out nq
    obtain ⟨k0, k1, _, _, _⟩ := five_cells h3.rd
    have kf := not_frozen (k := 1) h3.rd
    obtain ⟨W4, HW4⟩ : ∃ W4, Hid (W4 = W3.setCell ⟨rb, 1, none⟩ (.int .i64 ((j : Int) + 1))) := ⟨_, hide rfl⟩
    have h4 : AtS w rb m (j + 1) g 0 0 W4 := by rw [HW4.out]; exact h3.on hrb (.setT _ _) (h3.rd.on _ (by go_num))
    have H4 := hide h4
    have hwr : IntKind.i64.wrap ((j : Int) + 1) = (j : Int) + 1 := wrap_i64_small _ (by omega) (by omega)
    have eW4 := HW4.out.symm
    clear h3 HW3 HW4 h4 c0 c1
    go_wp2
    clear eW4 k0 k1 kf
    obtain ⟨d0, d1, _, _, _⟩ := five_cells H4.out.rd
    refine wp_region_free 11 312 Tryz.mixed2 rfl (by decide +kernel) Grow (fun _ _ _ => Grow.trans) (Grow.refl _)
     (fun i v w' => match i with
      | 0 => v = .pointer (some ⟨rb, 0, none⟩)
      | 1 => v = .pointer (some ⟨rb, 0, none⟩)
      | 2 => v = .pointer (some ⟨rb, 0, none⟩)
      | 3 => v = .string (bs m)
      | 4 => v = .pointer (some ⟨rb, 0, none⟩)
      | 5 => v = .pointer (some ⟨rb, 0, none⟩)
      | 6 => v = .pointer (some ⟨rb, 1, none⟩)
      | 7 => v = .int .i64 ((j + 1 : Nat) : Int)
      | 8 => v = .int .i64 (j : Int)
      | 9 => v = .int .u8 (d.toNat : Int)
      | _ => ∃ b, W4.heap.size ≤ b ∧ v = .slice (some ⟨b, 0, none⟩) 256 256 ∧ boolsAt w' b (boolRow (between d d)))
     (fun i v w1 w2 h hg => ?_) (fun _ _ => False) (fun _ _ _ _ h => h.elim) (fun i hi o ho a2 w5 hG hoff hdep => ?_) (fun vals w5 hG hvals => ?_)
    ·
     match i, h with
     | 0, h => exact h
     | 1, h => exact h
     | 2, h => exact h
     | 3, h => exact h
     | 4, h => exact h
     | 5, h => exact h
     | 6, h => exact h
     | 7, h => exact h
     | 8, h => exact h
     | 9, h => exact h
     | k + 10, h =>
      obtain ⟨b, h1, h2, h3⟩ := h
      exact ⟨b, h1, h2, hg.get h3⟩
    ·
     have hg5 : Grow W4 w5 := hG.undrew
     obtain ⟨d0, d1, _, _, _⟩ := five_cells (H4.out.rd.grow hg5)
     match i, hi with
     | 0, _ =>
      obtain rfl := Option.some.inj ho
      have o0 := hoff 0 (by decide +kernel)
      simp at o0
      simp [opYields, go_sem, o0]
      exact Grow.refl _
     | 1, _ =>
      obtain rfl := Option.some.inj ho
      have d0 := hdep 0 (by decide +kernel)
      simp [slotOf, dstOf] at d0
      simp [opYields, go_sem, d0]
      exact Grow.refl _
     | 2, _ =>
      obtain rfl := Option.some.inj ho
      have d1 := hdep 1 (by decide +kernel)
      simp [slotOf, dstOf] at d1
      simp [opYields, go_sem, d1]
      exact Grow.refl _
     | 3, _ =>
      obtain rfl := Option.some.inj ho
      have d2 := hdep 2 (by decide +kernel)
      simp [slotOf, dstOf] at d2
      simp [opYields, go_sem, d2, d0]
      exact Grow.refl _
     | 4, _ =>
      obtain rfl := Option.some.inj ho
      have o0 := hoff 0 (by decide +kernel)
      simp at o0
      simp [opYields, go_sem, o0]
      exact Grow.refl _
     | 5, _ =>
      obtain rfl := Option.some.inj ho
      have d4 := hdep 4 (by decide +kernel)
      simp [slotOf, dstOf] at d4
      simp [opYields, go_sem, d4]
      exact Grow.refl _
     | 6, _ =>
      obtain rfl := Option.some.inj ho
      have d5 := hdep 5 (by decide +kernel)
      simp [slotOf, dstOf] at d5
      simp [opYields, go_sem, d5]
      exact Grow.refl _
     | 7, _ =>
      obtain rfl := Option.some.inj ho
      have d6 := hdep 6 (by decide +kernel)
      simp [slotOf, dstOf] at d6
      simp [opYields, go_sem, d6, d1]
      exact Grow.refl _
     | 8, _ =>
      obtain rfl := Option.some.inj ho
      have d7 := hdep 7 (by decide +kernel)
      simp [slotOf, dstOf] at d7
      simp [opYields, go_sem, d7]
      exact ⟨Grow.refl _, wrap_i64_small _ (by omega) (by omega)⟩
     | 9, _ =>
      obtain rfl := Option.some.inj ho
      have d3 := hdep 3 (by decide +kernel)
      simp [slotOf, dstOf] at d3
      have d8 := hdep 8 (by decide +kernel)
      simp [slotOf, dstOf] at d8
      simp [opYields, go_sem, d3, d8]
      simp [hlt, hd]
      exact Grow.refl _
     | 10, _ =>
      obtain rfl := Option.some.inj ho
      have d9 := hdep 9 (by decide +kernel)
      simp [slotOf, dstOf] at d9
      simp [opYields, go_sem, d9]
      refine (alone_any d w5).mono ?_
      rintro e w6 ⟨rfl, hg6, hb6⟩
      exact ⟨hg6, _, hG.undrew.size, rfl, hb6⟩
     | k + 11, h => exact absurd h (by omega)
    ·
     obtain ⟨b, hb, v10, hbb⟩ := hvals 10 (by omega)
     clear hvals
     have hg5 : Grow W4 w5 := hG.undrew
     have H5 := hide (H4.out.grow hrb hg5)
     have hs4 := H4.out.size
     have HBB := hide hbb
     clear hG hg5 hbb d0 d1
     obtain ⟨⟨r0, r1, r2, r3, r4⟩, rf⟩ := H5.out.cells
     have z0 := rf 0
     have z1 := rf 1
     have z2 := rf 2
     have z3 := rf 3
     have z4 := rf 4
     obtain ⟨Z, eZ, hk, ho, hrd, hkb⟩ := H5.out.store hrb (.bool false) (.slice (some ⟨b, 0, none⟩) 256 256) (.int .i64 0) (.slice none 0 0) (.int .u8 0)
     have HO := hide ho
     have HK := hide hk
     have HRD := hide hrd
     have HKB := hide hkb
     clear rf hk ho hrd hkb
     have HB2 : Hid (boolsAt Z b (boolRow (between d d))) := hide (HBB.out.keep (HKB.out _ (by omega)))
     simp [over, dstOf, Act.put, v10]
     go_wp2
     refine bodyPost_ret (v := pieceV false (.slice (some ⟨b, 0, none⟩) 256 256) 0 (.slice none 0 0) 0) (results_cell_row (p := 2) (ty := 155) rfl _ _ w.heap.size _ _ _ _ rfl HO.out Tryz.underlying155 rfl Tryz.infoPiece) rfl ⟨HK.out, _, rfl, by rw [HE.out]; exact ⟨_, rfl, ⟨_, rfl, by omega, HB2.out⟩, HRD.out⟩⟩
 ·
  have hne : ((j : Int) == m.length) = true := by rw [beq_iff_eq]; omega
  have HE : Hid (y = .error (1, j)) := by
   show _ = _
   have h := HY.out
   rw [List.getElem?_eq_none_iff.2 (by omega)] at h
   exact Option.some.inj h
  clear HY
  go_wp2_with fail
  go_quiet (fail)
  go_wp2_with fail
  refine (wrong_any _ rb m j g 1 (j : Int) 1 j rfl rfl (HR2.out nq).rd).mono ?_
  rintro en w3 ⟨rfl, hk3, hr3⟩
  have H3 := hide ((HR2.out nq).on hrb hk3 hr3)
  clear hk3 hr3
  obtain ⟨⟨r0, r1, r2, r3, r4⟩, rf⟩ := H3.out.cells
  have z0 := rf 0
  have z1 := rf 1
  have z2 := rf 2
  have z3 := rf 3
  have z4 := rf 4
  obtain ⟨Z, eZ, hk, ho, hrd, hkb⟩ := H3.out.store hrb (.bool false) (.slice none 0 0) (.int .i64 0) (.slice none 0 0) (.int .u8 0)
  have HO := hide ho
  have HK := hide hk
  have HRD := hide hrd
  have HKB := hide hkb
  clear rf hk ho hrd hkb
  go_wp2
  refine bodyPost_ret (v := pieceV false (.slice none 0 0) 0 (.slice none 0 0) 0) (results_cell_row (p := 2) (ty := 155) rfl _ _ w.heap.size _ _ _ _ rfl HO.out Tryz.underlying155 rfl Tryz.infoPiece) rfl ⟨HK.out, _, rfl, by rw [HE.out]; exact ⟨rfl, j, HRD.out⟩⟩
def pieceC5 (gr : Bool) (sv : Value) (n : Int) (rv : Value) (sg : Int) : List Value := [.bool gr, sv, .int .i64 n, rv, .int .u8 sg]
def cellsAt (w : World) (A : Nat → Prop) : Tr → List Value → Prop
 | .nil, xs => xs = []
 | .set s sg rest, xs => ∃ b l, xs = pieceC5 false (.slice (some ⟨b, 0, none⟩) 256 256) 0 (.slice none 0 0) sg ++ l ∧ A b ∧ boolsAt w b (boolRow s) ∧ cellsAt w A rest l
 | .grp n rows sg rest, xs => ∃ rv k ys l, xs = pieceC5 true (.slice none 0 0) (n + 1 : Nat) rv sg ++ l ∧ w.ownsRow 0 153 1 rv k ys ∧ (∀ b, rv.ownBlock = some b → A b) ∧ cellsAt w A rows ys ∧ cellsAt w A rest l
 | .row r rest, xs => ∃ v k ys l, xs = v :: l ∧ w.ownsRow 0 155 5 v k ys ∧ (∀ b, v.ownBlock = some b → A b) ∧ cellsAt w A r ys ∧ cellsAt w A rest l
theorem cellsAt.keep {w w' : World} {A A' : Nat → Prop} (hk : ∀ k, k < w.heap.size → A k → A' k ∧ w'.heap[k]? = w.heap[k]?) : ∀ {T : Tr} {xs : List Value}, cellsAt w A T xs → cellsAt w' A' T xs
 | .nil, xs, h => h
 | .set s sg rest, xs, h => by
  obtain ⟨b, l, h1, h2, h3, h4⟩ := h
  obtain ⟨k1, k2⟩ := hk b (lt_of_block h3) h2
  exact ⟨b, l, h1, k1, k2.trans h3, cellsAt.keep hk h4⟩
 | .grp n rows sg rest, xs, h => by
  obtain ⟨rv, k, ys, l, h1, h2, h3, h4, h5⟩ := h
  exact ⟨rv, k, ys, l, h1, own_keep h2 fun b hb => (hk b (h2.lt b hb).2 (h3 b hb)).2, fun b hb => (hk b (h2.lt b hb).2 (h3 b hb)).1, cellsAt.keep hk h4, cellsAt.keep hk h5⟩
 | .row r rest, xs, h => by
  obtain ⟨v, k, ys, l, h1, h2, h3, h4, h5⟩ := h
  exact ⟨v, k, ys, l, h1, own_keep h2 fun b hb => (hk b (h2.lt b hb).2 (h3 b hb)).2, fun b hb => (hk b (h2.lt b hb).2 (h3 b hb)).1, cellsAt.keep hk h4, cellsAt.keep hk h5⟩
theorem cellsAt.grow {w w' : World} {A : Nat → Prop} {T : Tr} {xs : List Value} (h : cellsAt w A T xs) (g : Grow w w') : cellsAt w' A T xs := h.keep fun k hk ha => ⟨ha, g.block k hk⟩
inductive Item where
 | set (s : UInt8 → Bool) (sg : Nat)
 | grp (n : Nat) (rows : Tr) (sg : Nat)
def Item.on : Item → Tr → Tr
 | .set s sg, T => .set s sg T
 | .grp n rows sg, T => .grp n rows sg T
def rowT (l : List Item) (T : Tr) : Tr := l.foldr Item.on T
def itemAt (w : World) (A : Nat → Prop) : Item → List Value → Prop
 | .set s sg, xs => ∃ b, xs = pieceC5 false (.slice (some ⟨b, 0, none⟩) 256 256) 0 (.slice none 0 0) sg ∧ A b ∧ boolsAt w b (boolRow s)
 | .grp n rows sg, xs => ∃ rv k ys, xs = pieceC5 true (.slice none 0 0) (n + 1 : Nat) rv sg ∧ w.ownsRow 0 153 1 rv k ys ∧ (∀ b, rv.ownBlock = some b → A b) ∧ cellsAt w A rows ys
theorem itemAt.length {w : World} {A : Nat → Prop} : ∀ {it : Item} {xs : List Value}, itemAt w A it xs → xs.length = 5
 | .set s sg, xs, ⟨b, h, _⟩ => by rw [h]; rfl
 | .grp n rows sg, xs, ⟨rv, k, ys, h, _⟩ => by rw [h]; rfl
theorem itemAt.keep {w w' : World} {A A' : Nat → Prop} (hk : ∀ k, k < w.heap.size → A k → A' k ∧ w'.heap[k]? = w.heap[k]?) : ∀ {it : Item} {xs : List Value}, itemAt w A it xs → itemAt w' A' it xs
 | .set s sg, xs, ⟨b, h1, h2, h3⟩ => by
  obtain ⟨k1, k2⟩ := hk b (lt_of_block h3) h2
  exact ⟨b, h1, k1, k2.trans h3⟩
 | .grp n rows sg, xs, ⟨rv, k, ys, h1, h2, h3, h4⟩ => ⟨rv, k, ys, h1, own_keep h2 fun b hb => (hk b (h2.lt b hb).2 (h3 b hb)).2, fun b hb => (hk b (h2.lt b hb).2 (h3 b hb)).1, cellsAt.keep hk h4⟩
theorem cellsAt_on {w : World} {A : Nat → Prop} {it : Item} {T : Tr} {xs : List Value} : cellsAt w A (it.on T) xs ↔ ∃ ys l, xs = ys ++ l ∧ itemAt w A it ys ∧ cellsAt w A T l := by
 cases it with
 | set s sg =>
  constructor
  ·
   rintro ⟨b, l, h1, h2, h3, h4⟩; exact ⟨_, l, h1, ⟨b, rfl, h2, h3⟩, h4⟩
  ·
   rintro ⟨ys, l, rfl, ⟨b, rfl, h2, h3⟩, h4⟩; exact ⟨b, l, rfl, h2, h3, h4⟩
 | grp n rows sg =>
  constructor
  ·
   rintro ⟨rv, k, ys, l, h1, h2, h3, h4, h5⟩; exact ⟨_, l, h1, ⟨rv, k, ys, rfl, h2, h3, h4⟩, h5⟩
  ·
   rintro ⟨ys, l, rfl, ⟨rv, k, zs, rfl, h2, h3, h4⟩, h5⟩; exact ⟨rv, k, zs, l, rfl, h2, h3, h4, h5⟩
theorem cellsAt_snoc {w : World} {A : Nat → Prop} {it : Item} {ys : List Value} (hi : itemAt w A it ys) : ∀ {l : List Item} {xs : List Value}, cellsAt w A (rowT l .nil) xs → cellsAt w A (rowT (l ++ [it]) .nil) (xs ++ ys)
 | [], xs, h => by
  obtain rfl : xs = [] := h
  exact cellsAt_on.2 ⟨ys, [], by simp, hi, rfl⟩
 | x :: l, xs, h => by
  obtain ⟨zs, r, rfl, h1, h2⟩ := cellsAt_on.1 h
  exact cellsAt_on.2 ⟨zs, r ++ ys, by simp, h1, cellsAt_snoc hi h2⟩
theorem cellsAt_item {w : World} {A : Nat → Prop} : ∀ {l : List Item} {xs : List Value}, cellsAt w A (rowT l .nil) xs → xs.length = l.length * 5 ∧ ∀ (k : Nat) (it : Item), l[k]? = some it → ∃ ys, itemAt w A it ys ∧ ∀ j, j < 5 → xs[k * 5 + j]? = ys[j]?
 | [], xs, h => by
  obtain rfl : xs = [] := h
  exact ⟨rfl, fun k it hk => by simp at hk⟩
 | x :: l, xs, h => by
  obtain ⟨zs, r, rfl, h1, h2⟩ := cellsAt_on.1 h
  obtain ⟨h3, h4⟩ := cellsAt_item h2
  have hz := h1.length
  refine ⟨by simp [hz, h3]; omega, fun k it hk => ?_⟩
  cases k with
  | zero =>
   simp at hk
   subst hk
   exact ⟨zs, h1, fun j hj => by rw [List.getElem?_append_left (by omega)]; simp⟩
  | succ k =>
   obtain ⟨ys, h5, h6⟩ := h4 k it (by simpa using hk)
   refine ⟨ys, h5, fun j hj => ?_⟩
   rw [List.getElem?_append_right (by omega), ← h6 j hj, show (k + 1) * 5 + j - zs.length = k * 5 + j by omega]
def rowAt (w : World) (A : Nat → Prop) (r : Tr) (v : Value) : Prop := ∃ k ys, w.ownsRow 0 155 5 v k ys ∧ (∀ b, v.ownBlock = some b → A b) ∧ cellsAt w A r ys
theorem rowAt.keep {w w' : World} {A A' : Nat → Prop} {r : Tr} {v : Value} (hk : ∀ k, k < w.heap.size → A k → A' k ∧ w'.heap[k]? = w.heap[k]?) (h : rowAt w A r v) : rowAt w' A' r v := by
 obtain ⟨k, ys, h2, h3, h4⟩ := h
 exact ⟨k, ys, own_keep h2 fun b hb => (hk b (h2.lt b hb).2 (h3 b hb)).2, fun b hb => (hk b (h2.lt b hb).2 (h3 b hb)).1, h4.keep hk⟩
theorem cellsAt_row {w : World} {A : Nat → Prop} {r rest : Tr} {xs : List Value} : cellsAt w A (.row r rest) xs ↔ ∃ v l, xs = v :: l ∧ rowAt w A r v ∧ cellsAt w A rest l :=
 ⟨fun ⟨v, k, ys, l, h1, h2, h3, h4, h5⟩ => ⟨v, l, h1, ⟨k, ys, h2, h3, h4⟩, h5⟩, fun ⟨v, l, h1, ⟨k, ys, h2, h3, h4⟩, h5⟩ => ⟨v, k, ys, l, h1, h2, h3, h4, h5⟩⟩
theorem cellsAt_rows_snoc {w : World} {A : Nat → Prop} {r : Tr} {v : Value} (hr : rowAt w A r v) : ∀ {rs : List Tr} {xs : List Value}, cellsAt w A (rowsOf rs .nil) xs → cellsAt w A (rowsOf (rs ++ [r]) .nil) (xs ++ [v])
 | [], xs, h => by
  obtain rfl : xs = [] := h
  exact cellsAt_row.2 ⟨v, [], rfl, hr, rfl⟩
 | x :: rs, xs, h => by
  obtain ⟨u, l, rfl, h1, h2⟩ := cellsAt_row.1 h
  exact cellsAt_row.2 ⟨u, l ++ [v], rfl, h1, cellsAt_rows_snoc hr h2⟩
theorem cellsAt_rows {w : World} {A : Nat → Prop} : ∀ {rs : List Tr} {xs : List Value}, cellsAt w A (rowsOf rs .nil) xs → xs.length = rs.length ∧ ∀ (k : Nat) (r : Tr), rs[k]? = some r → ∃ v, xs[k]? = some v ∧ rowAt w A r v
 | [], xs, h => by
  obtain rfl : xs = [] := h
  exact ⟨rfl, fun k it hk => by simp at hk⟩
 | x :: rs, xs, h => by
  obtain ⟨u, l, rfl, h1, h2⟩ := cellsAt_row.1 h
  obtain ⟨h3, h4⟩ := cellsAt_rows h2
  refine ⟨by simp [h3], fun k r hk => ?_⟩
  cases k with
  | zero => simp at hk; subst hk; exact ⟨u, rfl, h1⟩
  | succ k =>
   obtain ⟨v, h5, h6⟩ := h4 k r (by simpa using hk)
   exact ⟨v, by simpa using h5, h6⟩
theorem wf_parts : ∀ T : Tr, (wf false T → ∃ l, T = rowT l .nil ∧ ∀ n rows sg, Item.grp n rows sg ∈ l → wf true rows ∧ sz rows < sz T) ∧ (wf true T → ∃ rs, rs ≠ [] ∧ T = rowsOf rs .nil ∧ ∀ r ∈ rs, wf false r ∧ sz r < sz T)
 | .nil => ⟨fun _ => ⟨[], rfl, fun n rows sg h => by simp at h⟩, fun h => h.elim⟩
 | .set s sg rest => ⟨fun h => by
   obtain ⟨l, h1, h2⟩ := (wf_parts rest).1 h
   refine ⟨.set s sg :: l, by rw [h1]; rfl, fun n rows sg' hm => ?_⟩
   rcases List.mem_cons.1 hm with hm | hm
   ·
    cases hm
   ·
    obtain ⟨h3, h4⟩ := h2 n rows sg' hm
    exact ⟨h3, by simp only [sz] at *; omega⟩, fun h => by cases h⟩
 | .grp n rows sg rest => ⟨fun h => by
   obtain ⟨l, h1, h2⟩ := (wf_parts rest).1 h.2
   refine ⟨.grp n rows sg :: l, by rw [h1]; rfl, fun n' rows' sg' hm => ?_⟩
   rcases List.mem_cons.1 hm with hm | hm
   ·
    cases hm
    exact ⟨h.1, by simp only [sz] at *; omega⟩
   ·
    obtain ⟨h3, h4⟩ := h2 n' rows' sg' hm
    exact ⟨h3, by simp only [sz] at *; omega⟩, fun h => by cases h⟩
 | .row r rest => ⟨fun h => h.elim, fun h => by
   have hr : wf false r := by
    cases rest with
    | nil => exact h
    | set s sg rest => exact h.1
    | grp n rows sg rest => exact h.1
    | row a b => exact h.1
   by_cases hn : rest = .nil
   ·
    subst hn
    exact ⟨[r], by simp, rfl, fun x hx => by simp at hx; subst hx; exact ⟨hr, by simp [sz]⟩⟩
   ·
    have hw : wf true rest := by
     cases rest with
     | nil => exact absurd rfl hn
     | set s sg rest => exact h.2
     | grp n rows sg rest => exact h.2
     | row a b => exact h.2
    obtain ⟨rs, h1, h2, h3⟩ := (wf_parts rest).2 hw
    refine ⟨r :: rs, by simp, by rw [h2]; rfl, fun x hx => ?_⟩
    rcases List.mem_cons.1 hx with rfl | hx
    ·
     exact ⟨hr, by simp only [sz] at *; omega⟩
    ·
     obtain ⟨h4, h5⟩ := h3 x hx
     exact ⟨h4, by simp only [sz] at *; omega⟩⟩
def Item.nothing : Item → Bool
 | .set _ sg => sg = 42 || sg = 63
 | .grp _ rows sg => sg = 42 || sg = 63 || Go.Proofs.YtndpjdmfkhjiiaaGreatDoor.nothing rows
theorem nothing_rowT : ∀ l : List Item, nothing (rowT l .nil) = l.all Item.nothing
 | [] => rfl
 | .set s sg :: l => by show ((_ || _) && nothing (rowT l .nil)) = _; rw [nothing_rowT l]; rfl
 | .grp n rows sg :: l => by show ((_ || _ || _) && nothing (rowT l .nil)) = _; rw [nothing_rowT l]; rfl
theorem own_len {w : World} {B e size n : Nat} {v : Value} {xs : List Value} (h : w.ownsRow B e size v n xs) : xs.length = n * size := by simpa using h.1
theorem own_block {w : World} {B e size n : Nat} {v : Value} {xs : List Value} (h : w.ownsRow B e size v n xs) (hn : 0 < n) : ∃ b cp, v = .slice (some ⟨b, 0, none⟩) n cp ∧ b < w.heap.size ∧ ∀ i u, xs[i]? = some u → w.cell? ⟨b, i, none⟩ = some u := by
 rcases h.2 with ⟨_, h0⟩ | ⟨g, cap, cur, rfl, _, h2, _⟩
 ·
  omega
 ·
  exact ⟨g, cap, rfl, lt_of_block h2, fun i u hu => own_cell h hu⟩
theorem rowT_len : ∀ l : List Item, l.length ≤ sz (rowT l .nil)
 | [] => Nat.le_refl _
 | .set s sg :: l => by
  have := rowT_len l
  show l.length + 1 ≤ 2 + again sg + sz (rowT l .nil)
  omega
 | .grp n rows sg :: l => by
  have := rowT_len l
  show l.length + 1 ≤ 4 + again sg + sz rows + sz (rowT l .nil)
  omega
theorem rowsOf_len : ∀ rs : List Tr, rs.length ≤ sz (rowsOf rs .nil)
 | [] => Nat.le_refl _
 | r :: rs => by
  have := rowsOf_len rs
  show rs.length + 1 ≤ sz r + 1 + sz (rowsOf rs .nil)
  omega
theorem laid_five (w : World) (x0 x1 x2 x3 x4 : Value) (t : TypeId) : ∃ W : World, w.alloc (.cells #[x0, x1, x2, x3, x4] t) = W ∧ Grow w W ∧ W.heap[w.heap.size]? = some (.cells #[x0, x1, x2, x3, x4] t (0, 0)) := ⟨_, rfl, (Grow.refl _).alloc _, heap_alloc_new _ _⟩
set_option maxRecDepth 20000 in
set_option maxHeartbeats 4000000 in
theorem mayNothing_any : ∀ (n : Nat) (T : Tr), sz T ≤ n → wf true T → ∀ (w : World) (A : Nat → Prop) (v : Value) (k : Nat) (ys : List Value), w.ownsRow 0 153 1 v k ys → cellsAt w A T ys → k ≤ 1000000 →
  (∀ r ∈ [T], sz r ≤ 1000000) →
  Calls Tryz.prog 108 #[v] w fun e w' => e = .returned (.bool (nothing T)) ∧ Grow w w' := by
 intro n
 induction n using Nat.strongRecOn with
 | _ n ih =>
  intro T hn hwf w A v k ys hv hc hk hsz
  obtain ⟨rs, hrs, rfl, hparts⟩ := (wf_parts T).2 hwf
  obtain ⟨hlen, hrows⟩ := cellsAt_rows hc
  have hyk := own_len hv
  have hrk : rs.length = k := by omega
  have hszT : sz (rowsOf rs .nil) ≤ 1000000 := hsz _ (by simp)
  have HP := hide hparts
  have HR := hide hrows
  have HT := hide (nothing_rows rs hrs)
  have hk0 : 0 < k := by
   rw [← hrk]
   exact List.length_pos_iff.2 hrs
  obtain ⟨vb, vc, rfl, hvb, hvcell⟩ := own_block hv hk0
  have HVC := hide hvcell
  have HIH : Hid (∀ m T', m < n → sz T' ≤ m → wf true T' → ∀ (w : World) (A : Nat → Prop) (v : Value) (k : Nat) (ys : List Value), w.ownsRow 0 153 1 v k ys → cellsAt w A T' ys → k ≤ 1000000 → sz T' ≤ 1000000 →
    Calls Tryz.prog 108 #[v] w fun e w' => e = .returned (.bool (nothing T')) ∧ Grow w w') := hide fun m T' hm h1 h2 w A v k ys h3 h4 h5 h6 => ih m hm T' h1 h2 w A v k ys h3 h4 h5 (by simpa using h6)
  clear ih hc hv hparts hrows hvcell hrs hsz
  go_enter Tryz.func108, Tryz.ntmps108
  go_wp2
  go_loopw [3] (fun iv wr => ∃ i : Nat, i ≤ k ∧ iv = .int .i64 i ∧ Hid (Grow w wr) ∧ Hid (∀ j r, j < i → rs[j]? = some r → nothing r = false)) (fun iv _ => k - (intOf iv).toNat)
  case atStart => exact ⟨0, by omega, rfl, hide (Grow.refl _), hide fun j r hj => by omega⟩
  case round =>
   obtain ⟨i, hi, rfl, HG, HN⟩ := hrel
   by_cases hlt : i < k
   ·
    have hlt2 : (i : Int) < (k : Int) := by omega
    obtain ⟨r, hr⟩ : ∃ r, rs[i]? = some r := ⟨_, List.getElem?_eq_getElem (by omega)⟩
    obtain ⟨rv, hyi, kr, zs, hrow, _, hcr⟩ := HR.out i r hr
    obtain ⟨hwr, hsr⟩ := HP.out r (List.mem_of_getElem? hr)
    obtain ⟨l, rfl, hits⟩ := (wf_parts r).1 hwr
    obtain ⟨hzl, hitem⟩ := cellsAt_item hcr
    have hzk := own_len hrow
    have hkl : kr = l.length := by omega
    subst hkl
    obtain ⟨ro, rc, rfl⟩ := own_shape hrow
    have HI := hide hitem
    have HITS := hide hits
    have HROW := hide hrow
    have hrc := HVC.out i _ hyi
    have hrcr := (cell_keep (sp := none) (o := i) (HG.out.block vb hvb)).trans hrc
    have HRC := hide hrc
    have HIR := hide hr
    have hll : l.length ≤ 1000000 := by
     have h1 := rowT_len l
     omega
    clear hits hitem hrow hcr hrc hr hyi hzl hzk hwr
    go_wp2
    go_loopw [4, 5] (fun av kv wr2 => ∃ q : Nat, q ≤ l.length ∧ kv = .int .i64 q ∧ av = .bool ((l.take q).all Item.nothing) ∧ Hid (Grow w wr2)) (fun _ kv _ => l.length - (intOf kv).toNat)
    case atStart => exact ⟨0, by omega, rfl, rfl, HG⟩
    case round =>
     obtain ⟨q, hq, rfl, rfl, HG2⟩ := hrel
     rename World => wr2
     have hrc2 := (cell_keep (sp := none) (o := i) (HG2.out.block vb hvb)).trans HRC.out
     by_cases hql : q < l.length
     ·
      have hql2 : (q : Int) < (l.length : Int) := by omega
      obtain ⟨it, hit⟩ : ∃ it, l[q]? = some it := ⟨_, List.getElem?_eq_getElem hql⟩
      have HTK : Hid ((l.take (q + 1)).all Item.nothing = ((l.take q).all Item.nothing && it.nothing)) := by
       show _ = _
       rw [List.take_add_one, hit]
       simp
      obtain ⟨xs, hia, hcells⟩ := HI.out q it hit
      obtain ⟨rb, rc', hre, hrb, hrcell⟩ := own_block HROW.out (by omega)
      simp at hre
      obtain ⟨rfl, rfl⟩ := hre
      have hpc : ∀ j, j < 5 → ∀ u, xs[j]? = some u → wr2.cell? ⟨rb, q * 5 + j, none⟩ = some u := fun j hj u hu =>
       (cell_keep (sp := none) (o := q * 5 + j) (HG2.out.block rb hrb)).trans (hrcell _ _ ((hcells j hj).trans hu))
      generalize (l.take q).all Item.nothing = av at HTK ⊢
      cases it with
      | set s sg =>
       obtain ⟨b, hxs, _, _⟩ := hia
       have p0 := hpc 0 (by omega) _ (by rw [hxs]; rfl)
       rw [Nat.add_zero] at p0
       have p1 := hpc 1 (by omega) _ (by rw [hxs]; rfl)
       have p2 := hpc 2 (by omega) _ (by rw [hxs]; rfl)
       have p3 := hpc 3 (by omega) _ (by rw [hxs]; rfl)
       have p4 := hpc 4 (by omega) _ (by rw [hxs]; rfl)
       obtain ⟨W, eW, gW, hW⟩ := laid_five wr2 (.bool false) (.slice (some ⟨b, 0, none⟩) 256 256) (.int .i64 0) (.slice none 0 0) (.int .u8 (sg : Int)) 155
       obtain ⟨q0, q1, q2, q3, q4⟩ := five_cells hW
       have HGW : Hid (Grow w W) := hide (HG2.out.trans gW)
       clear hW gW
       cases av with
       | false =>
        clear hpc HI HITS
        go_wp2
        refine ⟨⟨q + 1, by omega, by go_num, by rw [HTK.out]; rfl, HGW⟩, ?_⟩
        simp [intOf]; omega
       | true =>
        by_cases h42 : sg = 42
        ·
         have e42 : ((sg : Int) == 42) = true := by simp [h42]
         have H42 := hide h42
         clear h42
         clear hpc HI HITS
         go_wp2
         refine ⟨⟨q + 1, by omega, by go_num, by rw [HTK.out]; simp [Item.nothing, H42.out], HGW⟩, ?_⟩
         simp [intOf]; omega
        ·
         have e42 : ((sg : Int) == 42) = false := by simp; omega
         have H42 := hide h42
         clear h42
         by_cases h63 : sg = 63
         ·
          have e63 : ((sg : Int) == 63) = true := by simp [h63]
          have H63 := hide h63
          clear h63
          clear hpc HI HITS
          go_wp2
          refine ⟨⟨q + 1, by omega, by go_num, by rw [HTK.out]; simp [Item.nothing, H63.out], HGW⟩, ?_⟩
          simp [intOf]; omega
         ·
          have e63 : ((sg : Int) == 63) = false := by simp; omega
          have H63 := hide h63
          clear h63
          clear hpc HI HITS
          go_wp2
          refine ⟨⟨q + 1, by omega, by go_num, by rw [HTK.out]; simp [Item.nothing, H42.out, H63.out], HGW⟩, ?_⟩
          simp [intOf]; omega
      | grp n' rows sg =>
       obtain ⟨rv, kq, yq, hxs, hown, _, hcq⟩ := hia
       obtain ⟨rvo, rvc, rfl⟩ := own_shape hown
       obtain ⟨nn, hnn⟩ : ∃ nn : Nat, n' + 1 = nn := ⟨_, rfl⟩
       rw [hnn] at hxs
       have p0 := hpc 0 (by omega) _ (by rw [hxs]; rfl)
       rw [Nat.add_zero] at p0
       have p1 := hpc 1 (by omega) _ (by rw [hxs]; rfl)
       have p2 := hpc 2 (by omega) _ (by rw [hxs]; rfl)
       have p3 := hpc 3 (by omega) _ (by rw [hxs]; rfl)
       have p4 := hpc 4 (by omega) _ (by rw [hxs]; rfl)
       obtain ⟨W, eW, gW, hW⟩ := laid_five wr2 (.bool true) (.slice none 0 0) (.int .i64 (nn : Int)) (.slice rvo kq rvc) (.int .u8 (sg : Int)) 155
       obtain ⟨q0, q1, q2, q3, q4⟩ := five_cells hW
       have HGW : Hid (Grow w W) := hide (HG2.out.trans gW)
       clear hW gW
       cases av with
       | false =>
        clear hpc HI HITS
        go_wp2
        refine ⟨⟨q + 1, by omega, by go_num, by rw [HTK.out]; rfl, HGW⟩, ?_⟩
        simp [intOf]; omega
       | true =>
        by_cases h42 : sg = 42
        ·
         have e42 : ((sg : Int) == 42) = true := by simp [h42]
         have H42 := hide h42
         clear h42
         clear hpc HI HITS
         go_wp2
         refine ⟨⟨q + 1, by omega, by go_num, by rw [HTK.out]; simp [Item.nothing, H42.out], HGW⟩, ?_⟩
         simp [intOf]; omega
        ·
         have e42 : ((sg : Int) == 42) = false := by simp; omega
         have H42 := hide h42
         clear h42
         by_cases h63 : sg = 63
         ·
          have e63 : ((sg : Int) == 63) = true := by simp [h63]
          have H63 := hide h63
          clear h63
          clear hpc HI HITS
          go_wp2
          refine ⟨⟨q + 1, by omega, by go_num, by rw [HTK.out]; simp [Item.nothing, H63.out], HGW⟩, ?_⟩
          simp [intOf]; omega
         ·
          have e63 : ((sg : Int) == 63) = false := by simp; omega
          have H63 := hide h63
          clear h63
          have hmem : Item.grp n' rows sg ∈ l := List.mem_of_getElem? hit
          obtain ⟨hwr2, hsz2⟩ := HITS.out n' rows sg hmem
          have hkq : kq ≤ 1000000 := by
           obtain ⟨rs2, _, rfl, _⟩ := (wf_parts rows).2 hwr2
           have h1 := (cellsAt_rows hcq).1
           have h2 := own_len hown
           have h3 := rowsOf_len rs2
           omega
          have HREC : Hid (∀ _ : World, Calls Tryz.prog 108 #[.slice rvo kq rvc] W fun e w' => e = .returned (.bool (nothing rows)) ∧ Grow W w') := hide fun _ =>
           HIH.out (sz rows) rows (by omega) (Nat.le_refl _) hwr2 W A _ kq yq (own_grow hown (HGW.out)) (hcq.grow HGW.out) hkq (by omega)
          clear hpc HI HITS
          go_wp2_with fail
          refine (HREC.out W).mono ?_
          rintro e W2 ⟨rfl, hg5⟩
          have HGV : Hid (Grow w W2) := hide (HGW.out.trans hg5)
          clear hg5
          obtain ⟨nb, HNB⟩ : ∃ nb, Hid (nothing rows = nb) := ⟨_, hide rfl⟩
          rw [HNB.out]
          go_wp2
          refine ⟨⟨q + 1, by omega, by go_num, by rw [HTK.out]; simp [Item.nothing, H42.out, H63.out, HNB.out], HGV⟩, ?_⟩
          simp [intOf]; omega
     ·
      obtain rfl : q = l.length := by omega
      have hql2 : ¬ (l.length : Int) < (l.length : Int) := by omega
      have hall := nothing_rowT l
      rw [List.take_length]
      cases hb : nothing (rowT l .nil) with
      | true =>
       rw [hb] at hall
       rw [← hall]
       have HTT : Hid (nothing (rowsOf rs .nil) = true) := by
        show _ = _
        rw [HT.out, List.any_eq_true]
        exact ⟨_, List.mem_of_getElem? HIR.out, hb⟩
       clear hb hall
       go_wp2
       go_ret
       exact ⟨ret_bool HTT.out.symm, HG2.out⟩
      | false =>
       rw [hb] at hall
       rw [← hall]
       have HN2 : Hid (∀ j r, j < i + 1 → rs[j]? = some r → nothing r = false) := hide fun j r hj hr => by
        by_cases e : j = i
        ·
         subst e
         rw [HIR.out] at hr
         cases hr
         exact hb
        ·
         exact HN.out j r (by omega) hr
       clear hb hall
       go_wp2
       refine ⟨⟨i + 1, by omega, by go_num, HG2, HN2⟩, ?_⟩
       simp [intOf]; omega
   ·
    obtain rfl : i = k := by omega
    have hlt2 : ¬ (i : Int) < (i : Int) := by omega
    have HTT : Hid (nothing (rowsOf rs .nil) = false) := by
     show _ = _
     rw [HT.out, List.any_eq_false]
     intro r hr
     obtain ⟨j, hj, rfl⟩ := List.getElem_of_mem hr
     rw [HN.out j _ (by omega) (List.getElem?_eq_getElem hj)]
     simp
    go_wp2
    go_ret
    exact ⟨ret_bool HTT.out.symm, HG.out⟩
set_option maxRecDepth 20000 in
set_option maxHeartbeats 4000000 in
theorem ratom_wrong (w : World) (rb : Nat) (m : List UInt8) (i g : Nat) (c : UInt8) (hr : readerAt w rb m i g 0 0) (hc : m[i]? = some c) (hm : m.length ≤ 1000) (hq : c.toNat = 42 ∨ c.toNat = 43 ∨ c.toNat = 63 ∨ c.toNat = 93) :
  Calls Tryz.prog 106 #[.pointer (some ⟨rb, 0, none⟩)] w (ratomPost rb m g (.error (1, i)) w) := by
 have hrb := lt_of_block hr
 have hi := get_lt hc
 have hget : m[i] = c := by rw [List.getElem?_eq_getElem hi] at hc; exact Option.some.inj hc
 have HI46 : Hid (isAt m i 46 = false) := by show _ = _; simp [isAt, hc]; omega
 have HI92 : Hid (isAt m i 92 = false) := by show _ = _; simp [isAt, hc]; omega
 have HI91 : Hid (isAt m i 91 = false) := by show _ = _; simp [isAt, hc]; omega
 have HI40 : Hid (isAt m i 40 = false) := by show _ = _; simp [isAt, hc]; omega
 obtain ⟨A, HA⟩ : ∃ A, Hid (A = w.alloc (.cells pieceZ 155)) := ⟨_, hide rfl⟩
 have hA := AtS.first hr HA.out
 obtain ⟨c0, c1, c2, c3, c4⟩ := five_cells hA.rd
 have HAS : Hid (∀ n, AtS w rb m i g 0 0 (A.drewN n)) := hide fun n => ⟨hA.kept.drewN, hA.size, hA.out, hA.rd⟩
 have eA := HA.out.symm
 have HAM : Hid (comesB [42, 43, 63, 41, 124, 93] m i = true) := by
  show _ = _
  unfold comesB
  rw [hc]
  simp only [contains_nat, List.any_cons, List.any_nil]
  simp
  omega
 clear hr hc HA hA c2 c3 c4 hq
 go_enter Tryz.func106, Tryz.ntmps106
 go_wp2
 go_quiet (fail)
 have H0 := hide (HAS.out nq)
 clear eA HAS c0 c1
 go_wp2_with fail
 refine (rmay_any _ rb m i g 0 0 46 46 rfl (by decide) (by omega) H0.out.rd).mono ?_
 rintro en w1 ⟨rfl, hk, hr1⟩
 have h1 := H0.out.on hrb hk hr1
 rw [HI46.out] at h1 ⊢
 simp only [onIf] at h1
 have H1 := hide h1
 clear hk hr1 h1 H0
 go_wp2_with fail
 refine (rmay_any _ rb m i g 0 0 92 92 rfl (by decide) (by omega) H1.out.rd).mono ?_
 rintro en w2 ⟨rfl, hk, hr1⟩
 have h1 := H1.out.on hrb hk hr1
 rw [HI92.out] at h1 ⊢
 simp only [onIf] at h1
 have H2 := hide h1
 clear hk hr1 h1 H1
 go_wp2_with fail
 refine (rmay_any _ rb m i g 0 0 91 91 rfl (by decide) (by omega) H2.out.rd).mono ?_
 rintro en w3 ⟨rfl, hk, hr1⟩
 have h1 := H2.out.on hrb hk hr1
 rw [HI91.out] at h1 ⊢
 simp only [onIf] at h1
 have H3 := hide h1
 clear hk hr1 h1 H2
 go_wp2_with fail
 refine (ris_any _ rb m i g 0 0 40 40 rfl (by decide) H3.out.rd).mono ?_
 rintro en w4 ⟨rfl, nd, rfl⟩
 have h1 := H3.out.on hrb (Kept2.drewN (n := nd) (.refl _ _ _)) H3.out.rd.draw
 rw [HI40.out]
 have H4 := hide h1
 clear h1 H3
 go_wp2_with fail
 refine (ramong_any _ rb m [42, 43, 63, 41, 124, 93] i g 0 0 (by decide) H4.out.rd).mono ?_
 rintro en w5 ⟨rfl, ne, rfl⟩
 have h1 := H4.out.on hrb (Kept2.drewN (n := ne) (.refl _ _ _)) H4.out.rd.draw
 rw [HAM.out]
 have H5 := hide h1
 clear h1 H4
 obtain ⟨W3, HW3⟩ : ∃ W3, Hid (W3 = World.drewN (World.drewN w3 nd) ne) := ⟨_, hide rfl⟩
 rw [← HW3.out]
 have h3 : AtS w rb m i g 0 0 W3 := by rw [HW3.out]; exact H5.out
 obtain ⟨c0, c1, _, _, _⟩ := five_cells h3.rd
 have H7 := hide h3
 clear h3 HW3 H5
 go_wp2_with fail
 refine (wrong_any _ rb m i g 1 (i : Int) 1 i rfl rfl H7.out.rd).mono ?_
 rintro en w6 ⟨rfl, hk3, hr3⟩
 have H6 := hide (H7.out.on hrb hk3 hr3)
 clear hk3 hr3
 obtain ⟨⟨r0, r1, r2, r3, r4⟩, rf⟩ := H6.out.cells
 have z0 := rf 0
 have z1 := rf 1
 have z2 := rf 2
 have z3 := rf 3
 have z4 := rf 4
 obtain ⟨Z, eZ, hk, ho, hrd, hkb⟩ := H6.out.store hrb (.bool false) (.slice none 0 0) (.int .i64 0) (.slice none 0 0) (.int .u8 0)
 have HO := hide ho
 have HK := hide hk
 have HRD := hide hrd
 have HKB := hide hkb
 clear rf hk ho hrd hkb
 go_wp2
 refine bodyPost_ret (v := pieceV false (.slice none 0 0) 0 (.slice none 0 0) 0) (results_cell_row (p := 2) (ty := 155) rfl _ _ w.heap.size _ _ _ _ rfl HO.out Tryz.underlying155 rfl Tryz.infoPiece) rfl ⟨HK.out, _, rfl, ⟨rfl, i, HRD.out⟩⟩
set_option maxRecDepth 20000 in
set_option maxHeartbeats 4000000 in
theorem ratom_plain (w : World) (rb : Nat) (m : List UInt8) (i g : Nat) (c : UInt8) (hr : readerAt w rb m i g 0 0) (hc : m[i]? = some c) (hm : m.length ≤ 1000) (hq : c.toNat ≠ 42 ∧ c.toNat ≠ 43 ∧ c.toNat ≠ 63 ∧ c.toNat ≠ 93 ∧ c.toNat ≠ 46 ∧ c.toNat ≠ 92 ∧ c.toNat ≠ 91 ∧ c.toNat ≠ 40 ∧ c.toNat ≠ 41 ∧ c.toNat ≠ 124) :
  Calls Tryz.prog 106 #[.pointer (some ⟨rb, 0, none⟩)] w (ratomPost rb m g (.ok (between c c, i + 1)) w) := by
 have hrb := lt_of_block hr
 have hi := get_lt hc
 have hget : m[i] = c := by rw [List.getElem?_eq_getElem hi] at hc; exact Option.some.inj hc
 have HI46 : Hid (isAt m i 46 = false) := by show _ = _; simp [isAt, hc]; omega
 have HI92 : Hid (isAt m i 92 = false) := by show _ = _; simp [isAt, hc]; omega
 have HI91 : Hid (isAt m i 91 = false) := by show _ = _; simp [isAt, hc]; omega
 have HI40 : Hid (isAt m i 40 = false) := by show _ = _; simp [isAt, hc]; omega
 obtain ⟨A, HA⟩ : ∃ A, Hid (A = w.alloc (.cells pieceZ 155)) := ⟨_, hide rfl⟩
 have hA := AtS.first hr HA.out
 obtain ⟨c0, c1, c2, c3, c4⟩ := five_cells hA.rd
 have HAS : Hid (∀ n, AtS w rb m i g 0 0 (A.drewN n)) := hide fun n => ⟨hA.kept.drewN, hA.size, hA.out, hA.rd⟩
 have eA := HA.out.symm
 have HAM : Hid (comesB [42, 43, 63, 41, 124, 93] m i = false) := by
  show _ = _
  unfold comesB
  rw [hc]
  simp only [contains_nat, List.any_cons, List.any_nil]
  simp
  omega
 clear hr hc HA hA c2 c3 c4 hq
 go_enter Tryz.func106, Tryz.ntmps106
 go_wp2
 go_quiet (fail)
 have H0 := hide (HAS.out nq)
 clear eA HAS c0 c1
 go_wp2_with fail
 refine (rmay_any _ rb m i g 0 0 46 46 rfl (by decide) (by omega) H0.out.rd).mono ?_
 rintro en w1 ⟨rfl, hk, hr1⟩
 have h1 := H0.out.on hrb hk hr1
 rw [HI46.out] at h1 ⊢
 simp only [onIf] at h1
 have H1 := hide h1
 clear hk hr1 h1 H0
 go_wp2_with fail
 refine (rmay_any _ rb m i g 0 0 92 92 rfl (by decide) (by omega) H1.out.rd).mono ?_
 rintro en w2 ⟨rfl, hk, hr1⟩
 have h1 := H1.out.on hrb hk hr1
 rw [HI92.out] at h1 ⊢
 simp only [onIf] at h1
 have H2 := hide h1
 clear hk hr1 h1 H1
 go_wp2_with fail
 refine (rmay_any _ rb m i g 0 0 91 91 rfl (by decide) (by omega) H2.out.rd).mono ?_
 rintro en w3 ⟨rfl, hk, hr1⟩
 have h1 := H2.out.on hrb hk hr1
 rw [HI91.out] at h1 ⊢
 simp only [onIf] at h1
 have H3 := hide h1
 clear hk hr1 h1 H2
 go_wp2_with fail
 refine (ris_any _ rb m i g 0 0 40 40 rfl (by decide) H3.out.rd).mono ?_
 rintro en w4 ⟨rfl, nd, rfl⟩
 have h1 := H3.out.on hrb (Kept2.drewN (n := nd) (.refl _ _ _)) H3.out.rd.draw
 rw [HI40.out]
 have H4 := hide h1
 clear h1 H3
 go_wp2_with fail
 refine (ramong_any _ rb m [42, 43, 63, 41, 124, 93] i g 0 0 (by decide) H4.out.rd).mono ?_
 rintro en w5 ⟨rfl, ne, rfl⟩
 have h1 := H4.out.on hrb (Kept2.drewN (n := ne) (.refl _ _ _)) H4.out.rd.draw
 rw [HAM.out]
 have H5 := hide h1
 clear h1 H4
 obtain ⟨W3, HW3⟩ : ∃ W3, Hid (W3 = World.drewN (World.drewN w3 nd) ne) := ⟨_, hide rfl⟩
 rw [← HW3.out]
 have h3 : AtS w rb m i g 0 0 W3 := by rw [HW3.out]; exact H5.out
 obtain ⟨k0, k1, _, _, _⟩ := five_cells h3.rd
 have kf := not_frozen (k := 1) h3.rd
 obtain ⟨W4, HW4⟩ : ∃ W4, Hid (W4 = W3.setCell ⟨rb, 1, none⟩ (.int .i64 ((i : Int) + 1))) := ⟨_, hide rfl⟩
 have h4 : AtS w rb m (i + 1) g 0 0 W4 := by rw [HW4.out]; exact h3.on hrb (.setT _ _) (h3.rd.on _ (by go_num))
 have H4 := hide h4
 have hwr : IntKind.i64.wrap ((i : Int) + 1) = (i : Int) + 1 := wrap_i64_small _ (by omega) (by omega)
 have eW4 := HW4.out.symm
 clear h3 HW3 HW4 h4 H5
 go_wp2_with fail
 clear eW4 k0 k1 kf
 refine (alone_any c W4).mono ?_
 rintro en w5 ⟨rfl, hg5, hb5⟩
 have hs4 := H4.out.size
 have H5 := hide (H4.out.grow hrb hg5)
 have HBB := hide hb5
 clear hg5 hb5 H4
 obtain ⟨⟨r0, r1, r2, r3, r4⟩, rf⟩ := H5.out.cells
 have z0 := rf 0
 have z1 := rf 1
 have z2 := rf 2
 have z3 := rf 3
 have z4 := rf 4
 obtain ⟨Z, eZ, hk, ho, hrd, hkb⟩ := H5.out.store hrb (.bool false) (.slice (some ⟨W4.heap.size, 0, none⟩) 256 256) (.int .i64 0) (.slice none 0 0) (.int .u8 0)
 have HO := hide ho
 have HK := hide hk
 have HRD := hide hrd
 have HKB := hide hkb
 clear rf hk ho hrd hkb
 have HB2 : Hid (boolsAt Z W4.heap.size (boolRow (between c c))) := hide (HBB.out.keep (HKB.out _ (by omega)))
 go_wp2
 refine bodyPost_ret (v := pieceV false (.slice (some ⟨W4.heap.size, 0, none⟩) 256 256) 0 (.slice none 0 0) 0) (results_cell_row (p := 2) (ty := 155) rfl _ _ w.heap.size _ _ _ _ rfl HO.out Tryz.underlying155 rfl Tryz.infoPiece) rfl ⟨HK.out, _, rfl, ⟨_, rfl, ⟨_, rfl, by omega, HB2.out⟩, HRD.out⟩⟩
end Go.Proofs.YtndpjdmfkhjiiaaGreatDoor
