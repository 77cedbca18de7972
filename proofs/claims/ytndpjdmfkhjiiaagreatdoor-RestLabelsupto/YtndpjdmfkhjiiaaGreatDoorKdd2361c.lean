/- 6 texts in one. -/
import Derived.Laws.OwnMore
import Derived.Test.YtndpjdmfkhjiiaaGreatDoorProg
import Derived.Test.YtndpjdmfkhjiiaaGreatDoorK97fdc06
import Derived.Test.YtndpjdmfkhjiiaaGreatDoorKbff346a
import Derived.Test.YtndpjdmfkhjiiaaGreatDoorK395e834
import Derived.Test.YtndpjdmfkhjiiaaGreatDoorK1f74ead
import Derived.Test.YtndpjdmfkhjiiaaGreatDoorKac5e9b6
import Derived.Test.YtndpjdmfkhjiiaaGreatDoorKbc2f978
import Derived.Test.YtndpjdmfkhjiiaaGreatDoorKf7c4ee9
import Derived.Test.YtndpjdmfkhjiiaaGreatDoorKb1eef0b
import Derived.Test.YtndpjdmfkhjiiaaGreatDoorKa2d19b0
import Derived.BigQuiet
import Derived.Test.YtndpjdmfkhjiiaaGreatDoorKbd7ef7d
set_option linter.unusedVariables false
set_option linter.unusedSimpArgs false
namespace Go.Proofs.YtndpjdmfkhjiiaaGreatDoor
open Go.RowKit
attribute [local go_sem] bs_size bs_toList bs_append bs_get bs_extract
/-- What a mask is: a fault, or its rows and how many groups. -/
def maskIs (m : List UInt8) : Except (Nat × Nat) (Tr × Nat) := (pMask m (2 * m.length + 2)).getD (.error (0, 0))
theorem maskIs_eq (m : List UInt8) : pMask m (2 * m.length + 2) = some (maskIs m) := by
  have h : ∃ y, pMask m (2 * m.length + 2) = some y := by
    unfold pMask
    by_cases h : 60 < m.length
    · exact ⟨_, by rw [if_pos h]⟩
    · obtain ⟨y, hy⟩ := pM_some (m := m) (2 * m.length + 2) true 0 0 (by omega) (by simp)
      rw [if_neg h, hy]
      match y with
      | .error e => exact ⟨_, rfl⟩
      | .ok x =>
        simp only [bindO]
        split <;> exact ⟨_, rfl⟩
  obtain ⟨y, hy⟩ := h
  unfold maskIs
  rw [hy]
  rfl
theorem maskIs_ok {m : List UInt8} {T : Tr} {g : Nat} (h : maskIs m = .ok (T, g)) : wf true T ∧ good (re T) ∧ g ≤ 9 ∧ within 0 g T ∧ sz T ≤ 301 ∧ m.length ≤ 60 := by
  have e := maskIs_eq m
  rw [h] at e
  unfold pMask at e
  split at e
  · cases e
  · rename_i h60
    rcases bindO_eq e with ⟨_, _, e⟩ | ⟨x, hx, e⟩
    · cases e
    · split at e
      · cases e
      · cases e
        have h1 := pM_is hx
        have h2 := pM_sz hx (by omega)
        have h3 := pM_ok hx (by omega)
        simp at h2
        exact ⟨h1.1, h1.2.1, h1.2.2.2.1 (by omega), h1.2.2.2.2, by omega, by omega⟩
theorem maskIs_err {m : List UInt8} {e a : Nat} (h : maskIs m = .error (e, a)) : pMask m (2 * m.length + 2) = some (.error (e, a)) := by rw [maskIs_eq, h]
/-- The first way of a mask along a text. -/
noncomputable def wayOf (T : Tr) (t : List UInt8) : Option Evs := open Classical in if h : ∃ x, ∃ f, run t f [re T] 0 = some x then h.choose else none
theorem wayOf_is {T : Tr} {t : List UInt8} (g : good (re T)) : ∃ f, run t f [re T] 0 = some (wayOf T t) := by
  have h : ∃ x, ∃ f, run t f [re T] 0 = some x := by
    obtain ⟨f, x, h⟩ := run_total t g
    exact ⟨x, f, h⟩
  unfold wayOf
  rw [dif_pos h]
  exact h.choose_spec
theorem wayOf_eq {T : Tr} {t : List UInt8} {f x} (h : run t f [re T] 0 = some x) : wayOf T t = x := by
  have h' : ∃ x, ∃ f, run t f [re T] 0 = some x := ⟨x, f, h⟩
  unfold wayOf
  rw [dif_pos h']
  obtain ⟨f', h2⟩ := h'.choose_spec
  have a := run_mono t h (Nat.le_max_left f f')
  have b := run_mono t h2 (Nat.le_max_right f f')
  rw [a] at b
  exact (Option.some.inj b).symm
/-- What the groups took on a way. -/
def tookL (t : List UInt8) (l : Evs) (g : Nat) : List (List UInt8) := (List.range g).map fun n => tookB t (lastOf (-1) (2 * n) l) (lastOf (-1) (2 * n + 1) l)
theorem lastOf_any {sl : Nat} {l : Evs} (h : ∃ p, (sl, p) ∈ l) (d d' : Int) : lastOf d sl l = lastOf d' sl l := by
  rcases lastOf_cases sl d l with ⟨h1, _⟩ | ⟨a, b, p, rfl, h1, h2⟩
  · obtain ⟨p, hp⟩ := h
    exact absurd hp (h1 p)
  · rw [show a ++ (sl, p) :: b = (a ++ [(sl, p)]) ++ b by simp, lastOf_append sl (a ++ [(sl, p)]) b d', lastOf_append sl (a ++ [(sl, p)]) b d, lastOf_append sl a [(sl, p)] d', lastOf_append sl a [(sl, p)] d]
    simp [lastOf]
theorem lastOf_neg {sl : Nat} {l : Evs} : lastOf (-1) sl l < 0 ↔ ∀ p, (sl, p) ∉ l := by
  rcases lastOf_cases sl (-1) l with ⟨h1, h2⟩ | ⟨a, b, p, rfl, h1, h2⟩
  · exact ⟨fun _ => h1, fun _ => by rw [h2]; decide⟩
  · refine ⟨fun h => by rw [h2] at h; omega, fun h => absurd (by simp) (h p)⟩
/-- What is marked from the end on: the last place of each slot. -/
theorem markAll_get {n : Nat} : ∀ (l : Evs) (sl : Nat), sl < n → (markAll (List.replicate n (-1)) l)[sl]? = some (lastOf (-1) sl l)
  | [], sl, h => by simp [markAll, lastOf, h]
  | (s, p) :: l, sl, h => by
    have ih := markAll_get l sl h
    have hlen : (markAll (List.replicate n (-1)) l).length = n := by rw [markAll_length]; simp
    rw [markAll, lastOf]
    unfold markPut
    by_cases e : s = sl
    · subst e
      have hg : (markAll (List.replicate n (-1)) l).getD s 0 = lastOf (-1) s l := by simp [List.getD, ih]
      rw [hg, if_pos rfl]
      by_cases hn : lastOf (-1) s l < 0
      · rw [if_pos hn, List.getElem?_set_self (by omega), lastOf_not (lastOf_neg.1 hn)]
      · rw [if_neg hn, ih]
        congr 1
        refine lastOf_any ?_ _ _
        apply Classical.byContradiction
        intro h2
        exact hn (lastOf_neg.2 fun p hp => h2 ⟨p, hp⟩)
    · rw [if_neg e]
      split
      · rw [List.getElem?_set_ne (fun h => e h), ih]
      · exact ih
theorem markAll_getD {n : Nat} (l : Evs) (sl : Nat) (h : sl < n) : (markAll (List.replicate n (-1)) l).getD sl (-1) = lastOf (-1) sl l := by simp [List.getD, markAll_get l sl h]
theorem starts_length : ∀ (T : Tr) (b : Nat), (starts T b).length ≤ sz T
  | .nil, b => by simp [starts]
  | .set s sg rest, b => by simp [starts]
  | .grp n rows sg rest, b => by simp [starts]
  | .row r rest, b => by have := starts_length rest (b + sz r + 1); simp [starts, sz]; omega
/-- A fork's ways are not too many. -/
theorem comp_forks {k : Nat} : ∀ (T : Tr) (b e : Nat), sz T ≤ k → 2 ≤ k → ∀ st ∈ comp T b e, ∀ ws, st = .fork ws → ws.length ≤ k := by
  have hpiece : ∀ (b sg : Nat) (body : List St), 2 ≤ k → (∀ st ∈ body, ∀ ws, st = .fork ws → ws.length ≤ k) → ∀ st ∈ pieceC b sg body, ∀ ws, st = .fork ws → ws.length ≤ k := by
    intro b sg body h2 h st hst ws e
    unfold pieceC at hst
    simp only [List.mem_cons, List.mem_append] at hst
    rcases hst with rfl | hst | hst
    · cases e
      split <;> simp <;> omega
    · exact h st hst ws e
    · split at hst
      · simp at hst
        subst hst
        cases e
        simpa using h2
      · simp at hst
  intro T
  induction T with
  | nil => intro b e _ _ st h; simp [comp] at h
  | set s sg rest ih =>
    intro b e hk h2 st h
    simp only [sz] at hk
    simp only [comp, List.mem_append] at h
    rcases h with h | h
    · exact hpiece _ _ _ h2 (fun st h ws e => by simp at h; subst h; cases e) st h
    · exact ih _ _ (by omega) h2 st h
  | grp n rows sg rest ih1 ih2 =>
    intro b e hk h2 st h
    simp only [sz] at hk
    simp only [comp, List.mem_append] at h
    rcases h with h | h
    · refine hpiece _ _ _ h2 (fun st h ws e => ?_) st h
      simp only [List.mem_cons, List.mem_append, List.mem_nil_iff, or_false] at h
      rcases h with rfl | rfl | h | rfl
      · cases e
      · cases e
        have := starts_length rows (b + 3)
        omega
      · exact ih1 _ _ (by omega) h2 st h ws e
      · cases e
    · exact ih2 _ _ (by omega) h2 st h
  | row r rest ih1 ih2 =>
    intro b e hk h2 st h ws ew
    simp only [sz] at hk
    simp only [comp, List.mem_append, List.mem_cons] at h
    rcases h with h | rfl | h
    · exact ih1 _ _ (by omega) h2 st h ws ew
    · cases ew; simp; omega
    · exact ih2 _ _ (by omega) h2 st h ws ew
/-- Each step that is laid out for a mask goes on at one that is. -/
theorem layC_sound {T : Tr} {g : Nat} (hw : within 0 g T) (hz : sz T ≤ 90000) : sound (layC T) g := by
  intro n st hn
  have hlen := layC_length T
  have hlt : n < (layC T).length := (List.getElem?_eq_some_iff.1 hn).1
  have hok : stOk g (1 + sz T) st ∧ (∀ ws, st = .fork ws → ws.length ≤ 90002) ∧ (n + 1 = (layC T).length → st = .fin) := by
    cases n with
    | zero =>
      simp [layC] at hn
      subst hn
      refine ⟨fun w hw' => ?_, fun ws e => ?_, fun e => by omega⟩
      · have := starts_le w hw'
        omega
      · cases e
        have := starts_length T 1
        omega
    | succ n =>
      rw [layC, List.getElem?_cons_succ] at hn
      rcases Nat.lt_or_ge n (comp T 1 (1 + sz T)).length with h | h
      · rw [List.getElem?_append_left h] at hn
        have hm := List.mem_of_getElem? hn
        rw [comp_length] at h
        exact ⟨comp_ok T 1 (1 + sz T) hw (Nat.le_refl _) (Nat.le_refl _) st hm, comp_forks T _ _ (by omega) (by omega) st hm, fun e => by omega⟩
      · rw [List.getElem?_append_right h] at hn
        cases hk : n - (comp T 1 (1 + sz T)).length with
        | zero =>
          rw [hk] at hn
          simp at hn
          subst hn
          exact ⟨trivial, fun ws e => (by cases e), fun _ => rfl⟩
        | succ k => rw [hk] at hn; simp at hn
  obtain ⟨h1, h2, h3⟩ := hok
  have hne : st ≠ .fin → n + 1 < (layC T).length := fun h => by
    rcases Nat.lt_or_ge (n + 1) (layC T).length with h' | h'
    · exact h'
    · exact absurd (h3 (by omega)) h
  cases st with
  | fin => trivial
  | take s => exact hne (by simp)
  | mark sl => exact ⟨hne (by simp), h1⟩
  | fork ws => exact ⟨by have := h2 ws rfl; omega, fun w hw' => by have := h1 w hw'; omega⟩
/-- What Match answers of a mask that is right. -/
def matchOk (w : World) (t : List UInt8) (g : Nat) (x : Option Evs) (e : Ending) (w' : World) : Prop :=
  if 2000 < t.length then e = .returned (.tuple #[.bool false, .slice none 0 0, .int .i64 2]) else match x with
    | none => e = .returned (.tuple #[.bool false, .slice none 0 0, .int .i64 0])
    | some l => ∃ v, e = .returned (.tuple #[.bool true, v, .int .i64 0]) ∧ ownStrs w' w.heap.size v (tookL t l g)
theorem matchOk_long {w : World} {t : List UInt8} {g : Nat} {x : Option Evs} {e : Ending} {w' : World} (h : 2000 < t.length) (he : e = .returned (.tuple #[.bool false, .slice none 0 0, .int .i64 2])) : matchOk w t g x e w' := by
  unfold matchOk; rw [if_pos h]; exact he
theorem matchOk_none {w : World} {t : List UInt8} {g : Nat} {e : Ending} {w' : World} (h : t.length ≤ 2000) (he : e = .returned (.tuple #[.bool false, .slice none 0 0, .int .i64 0])) : matchOk w t g none e w' := by
  unfold matchOk; rw [if_neg (by omega)]; exact he
theorem matchOk_some {w : World} {t : List UInt8} {g : Nat} {l : Evs} {e : Ending} {w' : World} {v : Value} (h : t.length ≤ 2000) (he : e = .returned (.tuple #[.bool true, v, .int .i64 0])) (hv : ownStrs w' w.heap.size v (tookL t l g)) : matchOk w t g (some l) e w' := by
  unfold matchOk; rw [if_neg (by omega)]; exact ⟨v, he, hv⟩
/-- What Match answers. -/
def matchAns (w : World) (m t : List UInt8) (e : Ending) (w' : World) : Prop := match maskIs m with
  | .error x => e = .returned (.tuple #[.bool false, .slice none 0 0, .int .i64 x.1])
  | .ok x => matchOk w t x.2 (wayOf x.1 t) e w'
theorem pBr_err {m i x} (h : pBr m i = some (.error x)) : 1 ≤ x.1 ∧ x.1 ≤ 7 ∧ x.2 ≤ max i m.length := by
  unfold pBr at h
  split at h
  · cases h; exact ⟨(by simp), (by simp), (by simp only; omega)⟩
  · split at h
    · cases h; exact ⟨(by simp), (by simp), (by simp only; omega)⟩
    · cases h
theorem pSpan_err {m i x} (h : pSpan m i = some (.error x)) (hi : i ≤ m.length) : 1 ≤ x.1 ∧ x.1 ≤ 7 ∧ x.2 ≤ m.length := by
  unfold pSpan at h
  rcases bindO_eq h with ⟨e, he, h⟩ | ⟨a, ha, h⟩
  · cases h; have := pBr_err he; omega
  · have l1 := get_lt (pBr_ok ha).1
    split at h
    · rename_i hat
      have l2 := isAt_lt hat
      rcases bindO_eq h with ⟨e, he, h⟩ | ⟨b, hb, h⟩
      · cases h; have := pBr_err he; omega
      · have l3 := get_lt (pBr_ok hb).1
        split at h
        · cases h; exact ⟨(by simp), (by simp), (by simp only; omega)⟩
        · cases h
    · cases h
theorem pSpans_err {m} : ∀ {f s i x}, pSpans m f s i = some (.error x) → i ≤ m.length → 1 ≤ x.1 ∧ x.1 ≤ 7 ∧ x.2 ≤ m.length := by
  intro f
  induction f with
  | zero => intro s i x h; cases h
  | succ f ih =>
    intro s i x h hi
    rw [pSpans] at h
    split at h
    · cases h
    · rcases bindO_eq h with ⟨e, he, h⟩ | ⟨y, hy, h⟩
      · cases h; exact pSpan_err he hi
      · exact ih h (pSpan_ok hy).2
theorem pSet_err {m i c x} (hc : m[i]? = some c) (h : pSet m i c = some (.error x)) : 1 ≤ x.1 ∧ x.1 ≤ 7 ∧ x.2 ≤ m.length := by
  have li := get_lt hc
  unfold pSet at h
  split at h
  · unfold pBrackets at h
    have hj : (if isAt m (i + 1) 94 = true then i + 1 + 1 else i + 1) ≤ m.length := by
      split
      · rename_i hat; have := isAt_lt hat; omega
      · omega
    rcases bindO_eq h with ⟨e, he, h⟩ | ⟨y, hy, h⟩
    · cases h; exact pSpan_err he hj
    · rcases bindO_eq h with ⟨e, he, h⟩ | ⟨z, hz, h⟩
      · cases h; exact pSpans_err he (pSpan_ok hy).2
      · cases h
  · split at h
    · cases h
    · split at h
      · split at h
        · cases h; exact ⟨(by simp), (by simp), (by simp only; omega)⟩
        · rename_i d hd
          have := get_lt hd
          split at h
          · cases h; exact ⟨(by simp), (by simp), (by simp only; omega)⟩
          · cases h
      · split at h
        · cases h; exact ⟨(by simp), (by simp), (by simp only; omega)⟩
        · cases h
theorem pSign_err {m n i x} (h : pSign m n i = some (.error x)) : 1 ≤ x.1 ∧ x.1 ≤ 7 ∧ x.2 ≤ m.length := by
  unfold pSign at h
  split at h
  · rename_i c hc
    have := get_lt hc
    split at h
    · split at h
      · cases h; exact ⟨(by simp), (by simp), (by simp only; omega)⟩
      · cases h
    · cases h
  · cases h
theorem pM_err {m} : ∀ {f rows i g x}, pM m f rows i g = some (.error x) → i ≤ m.length → 1 ≤ x.1 ∧ x.1 ≤ 7 ∧ x.2 ≤ m.length := by
  intro f
  induction f with
  | zero => intro rows i g x h; cases h
  | succ f ih =>
    intro rows i g x h hi
    cases rows with
    | true =>
      rw [pM] at h
      rcases bindO_eq h with ⟨e, he, h⟩ | ⟨y, hy, h⟩
      · cases h; exact ih he hi
      · have h1 := pM_ok hy hi
        split at h
        · rename_i hat
          have := isAt_lt hat
          rcases bindO_eq h with ⟨e, he, h⟩ | ⟨z, hz, h⟩
          · cases h; exact ih he (by omega)
          · cases h
        · cases h
    | false =>
      rw [pM] at h
      split at h
      · cases h
      · rename_i c hc
        have li := get_lt hc
        split at h
        · cases h
        · split at h
          · split at h
            · cases h; exact ⟨(by simp), (by simp), (by simp only; omega)⟩
            · rcases bindO_eq h with ⟨e, he, h⟩ | ⟨y, hy, h⟩
              · cases h; exact ih he (by omega)
              · have h1 := pM_ok hy (by omega)
                split at h
                · rename_i hat
                  have := isAt_lt hat
                  rcases bindO_eq h with ⟨e, he, h⟩ | ⟨z, hz, h⟩
                  · cases h; exact pSign_err he
                  · have h2 := pSign_ok hz (by omega)
                    rcases bindO_eq h with ⟨e, he, h⟩ | ⟨u, hu, h⟩
                    · cases h; exact ih he (by omega)
                    · cases h
                · cases h; exact ⟨(by simp), (by simp), (by simp only; omega)⟩
          · rcases bindO_eq h with ⟨e, he, h⟩ | ⟨y, hy, h⟩
            · cases h; exact pSet_err hc he
            · have h1 := pSet_ok hc hy
              rcases bindO_eq h with ⟨e, he, h⟩ | ⟨z, hz, h⟩
              · cases h; exact pSign_err he
              · have h2 := pSign_ok hz (by omega)
                rcases bindO_eq h with ⟨e, he, h⟩ | ⟨u, hu, h⟩
                · cases h; exact ih he (by omega)
                · cases h
theorem maskIs_pos {m : List UInt8} {e a : Nat} (h : maskIs m = .error (e, a)) : 1 ≤ e ∧ e ≤ 7 ∧ a ≤ m.length := by
  have h := maskIs_err h
  unfold pMask at h
  split at h
  · cases h; exact ⟨by decide, by decide, by omega⟩
  · rcases bindO_eq h with ⟨x, he, h⟩ | ⟨x, hx, h⟩
    · cases h; exact pM_err he (by omega)
    · split at h
      · cases h; exact ⟨by decide, by decide, by have := pM_ok hx (by omega); omega⟩
      · cases h
/-- A mask's fault: its number and its place; 0 and 0: none. -/
def faultOf (m : List UInt8) : Nat × Nat := match maskIs m with
  | .error x => x
  | .ok _ => (0, 0)
def groupsOf (m : List UInt8) : Nat := match maskIs m with
  | .error _ => 0
  | .ok x => x.2
/-- Two blocks that are laid. -/
theorem laid_two (w : World) (x y u v : Value) (t1 t2 : TypeId) : ∃ W : World, (w.alloc (.cells #[x, y] t1)).alloc (.cells #[u, v] t2) = W ∧
    Grow w W ∧ W.heap[w.heap.size]? = some (.cells #[x, y] t1 (0, 0)) ∧ W.heap[w.heap.size + 1]? = some (.cells #[u, v] t2 (0, 0)) ∧ W.heap.size = w.heap.size + 2 := by
  refine ⟨_, rfl, ((Grow.refl _).alloc _).alloc _, (Below.heap_alloc _ _ _ (by simp)).trans (heap_alloc_new _ _), ?_, by simp⟩
  have := heap_alloc_new (w.alloc (.cells #[x, y] t1)) (.cells #[u, v] t2)
  rw [show (w.alloc (.cells #[x, y] t1)).heap.size = w.heap.size + 1 by simp] at this
  exact this
set_option maxRecDepth 20000 in
set_option maxHeartbeats 4000000 in
theorem check_mask (w : World) (m : List UInt8) (hml : m.length ≤ 9223372036854775807) :
    Calls Tryz.prog 71 #[.string (bs m)] w fun e w' => Grow w w' ∧ e = .returned (.tuple #[.int .i64 (groupsOf m), .agg #[.int .i64 (faultOf m).1, .int .i64 (faultOf m).2]]) := by
  have HP := hide fun W => parse_any W (maskIs m) hml (maskIs_eq m)
  unfold groupsOf faultOf
  obtain ⟨A, HA⟩ : ∃ A, Hid (A = w.alloc (.cells #[.int .i64 0, .int .i64 0] 65)) := ⟨_, hide rfl⟩
  have gA : Grow w A := by rw [HA.out]; exact (Grow.refl _).alloc _
  have hA0 : A.heap[w.heap.size]? = some (.cells #[.int .i64 0, .int .i64 0] 65 (0, 0)) := by rw [HA.out]; exact heap_alloc_new _ _
  have GA := hide gA
  have HA0 := hide hA0
  have eA := HA.out.symm
  clear gA hA0 HA
  cases hm : maskIs m with
  | error x =>
    obtain ⟨er, a⟩ := x
    have he := maskIs_pos hm
    have he2 : ((er : Int) != 0) = true := by simp; omega
    rw [hm] at HP
    clear hm
    go_enter Tryz.func71, Tryz.ntmps71
    go_wp2_with fail
    refine (HP.out _).mono ?_
    rintro e w1 ⟨hg, rfl⟩
    have hr1 := hg.get HA0.out
    have HG : Hid (Grow w w1) := hide (GA.out.trans hg)
    have hlt := lt_of_block hr1
    obtain ⟨W, eW, gW, hp, hf, hsz⟩ := laid_two w1 (.slice none 0 0) (.int .i64 0) (.int .i64 er) (.int .i64 a) 96 65
    obtain ⟨p0, p1⟩ := cells_two hp
    obtain ⟨f0, f1⟩ := cells_two hf
    have hr := gW.get hr1
    obtain ⟨r0, r1⟩ := cells_two hr
    have z0 := not_frozen (k := 0) hr
    have z1 := not_frozen (k := 1) hr
    have HR := hide hr
    have HG2 : Hid (Grow w W) := hide (HG.out.trans gW)
    clear hg HP hr1 eA gW hp hf hr
    go_wp2
    refine wp_region_free 2 18 Tryz.mixed2 rfl (by decide +kernel) Grow (fun _ _ _ => Grow.trans) (Grow.refl _)
      (fun i v w' => match i with
        | 0 => v = .agg #[.int .i64 er, .int .i64 a]
        | _ => v = .int .i64 0)
      (fun i v w1 w2 h hg => h) (fun _ _ => False) (fun _ _ _ _ h => h.elim) (fun i hi o ho a2 w2 hG hoff hdep => ?_) (fun vals w2 hG hvals => ?_)
    · have hg2 : Grow W w2 := hG.undrew
      have q0 := (cell_keep (sp := none) (o := 0) (hg2.block (w1.heap.size + 1) (by omega))).trans f0
      have q1 := (cell_keep (sp := none) (o := 1) (hg2.block (w1.heap.size + 1) (by omega))).trans f1
      clear f0 f1
      match i, hi with
      | 0, _ =>
        obtain rfl := Option.some.inj ho
        have o5 := hoff 5 (by decide +kernel)
        simp at o5
        simp [opYields, go_sem, o5, q0, q1]
        exact Grow.refl _
      | 1, _ =>
        obtain rfl := Option.some.inj ho
        simp [opYields, go_sem]
        exact Grow.refl _
      | k + 2, h => exact absurd h (by omega)
    · have v0 := hvals 0 (by omega)
      have v1 := hvals 1 (by omega)
      simp only at v0 v1
      clear hvals
      have hg2 : Grow W w2 := hG.undrew
      have hr2 := hg2.get HR.out
      have y0 := not_frozen (k := 0) hr2
      have y1 := not_frozen (k := 1) hr2
      obtain ⟨s0, s1⟩ := cells_two hr2
      obtain ⟨Z, HZ⟩ : ∃ Z, Hid (Z = (w2.setCell ⟨w.heap.size, 0, none⟩ (.int .i64 er)).setCell ⟨w.heap.size, 1, none⟩ (.int .i64 a)) := ⟨_, hide rfl⟩
      have hZ : Z.heap[w.heap.size]? = some (.cells #[.int .i64 er, .int .i64 a] 65 (0, 0)) := by
        rw [HZ.out, set_blk (set_blk hr2 _)]
        simp
      have hGZ : Grow w Z := by
        rw [HZ.out]
        exact ((HG2.out.trans hg2).setCell (Nat.le_refl _) _).setCell (Nat.le_refl _) _
      have eZ := HZ.out.symm
      obtain ⟨t0, t1⟩ := cells_two hZ
      have HGZ := hide hGZ
      clear hG hg2 hr2 hGZ hZ HZ
      simp [over, dstOf, Act.put, v0, v1]
      go_wp2
      clear eZ
      simp [bodyPost, results, Tryz.results71, go_sem, t0, t1]
      exact HGZ.out
  | ok x =>
    obtain ⟨T, g⟩ := x
    rw [hm] at HP
    clear hm
    go_enter Tryz.func71, Tryz.ntmps71
    go_wp2_with fail
    refine (HP.out _).mono ?_
    rintro e w1 ⟨hg, sv, rfl, hs⟩
    obtain ⟨ao, n, cp, rfl⟩ : ∃ ao n cp, sv = .slice ao n cp := by
      obtain ⟨rs, h1, _⟩ := hs
      obtain ⟨ao, cp, h⟩ := own_shape h1
      exact ⟨ao, _, cp, h⟩
    have hr1 := hg.get HA0.out
    have HG : Hid (Grow w w1) := hide (GA.out.trans hg)
    have hlt := lt_of_block hr1
    obtain ⟨W, eW, gW, hp, hf, hsz⟩ := laid_two w1 (.slice ao n cp) (.int .i64 g) (.int .i64 0) (.int .i64 0) 96 65
    obtain ⟨p0, p1⟩ := cells_two hp
    obtain ⟨f0, f1⟩ := cells_two hf
    have hr := gW.get hr1
    obtain ⟨r0, r1⟩ := cells_two hr
    have z0 := not_frozen (k := 0) hr
    have z1 := not_frozen (k := 1) hr
    have zf0 := not_frozen (k := 0) hf
    have zf1 := not_frozen (k := 1) hf
    obtain ⟨Z, HZ⟩ : ∃ Z, Hid (Z = (((W.setCell ⟨w1.heap.size + 1, 0, none⟩ (.int .i64 0)).setCell ⟨w1.heap.size + 1, 1, none⟩ (.int .i64 0)).setCell ⟨w.heap.size, 0, none⟩ (.int .i64 0)).setCell ⟨w.heap.size, 1, none⟩ (.int .i64 0)) := ⟨_, hide rfl⟩
    have hZ : Z.heap[w.heap.size]? = some (.cells #[.int .i64 0, .int .i64 0] 65 (0, 0)) := by
      rw [HZ.out, set_blk (set_blk (((set_apart (b := w1.heap.size + 1) (k := w.heap.size) _ (by omega)).trans (set_apart (b := w1.heap.size + 1) (k := w.heap.size) _ (by omega))).trans hr) _)]
      simp
    have hGZ : Grow w Z := by
      rw [HZ.out]
      have hs1 := HG.out.size
      have hs2 : w.heap.size ≤ w1.heap.size + 1 := by omega
      exact ((((HG.out.trans gW).setCell hs2 _).setCell hs2 _).setCell (Nat.le_refl _) _).setCell (Nat.le_refl _) _
    have eZ := HZ.out.symm
    obtain ⟨t0, t1⟩ := cells_two hZ
    have HGZ := hide hGZ
    clear hg HP hs hr1 eA gW hp hf hr hGZ hZ HZ
    go_wp2
    simp [bodyPost, results, Tryz.results71, go_sem, t0, t1]
    exact HGZ.out
theorem grow_drewN (w : World) (n : Nat) : Grow w (w.drewN n) := ⟨rfl, rfl, rfl, Nat.le_refl _, fun _ _ => rfl⟩
theorem tooksB_took {t : List UInt8} {l : Evs} {g : Nat} : tooksB t (markAll (List.replicate (2 * g) (-1)) l) g = tookL t l g := by
  unfold tooksB tookL
  refine List.map_congr_left fun k hk => ?_
  rw [List.mem_range] at hk
  rw [markAll_getD l (2 * k) (by omega), markAll_getD l (2 * k + 1) (by omega)]
set_option maxRecDepth 20000 in
set_option maxHeartbeats 4000000 in
theorem match_any (w : World) (m t : List UInt8) (hml : m.length ≤ 9223372036854775807) (htl : t.length ≤ 9223372036854775807) :
    Calls Tryz.prog 27 #[.string (bs m), .string (bs t)] w fun e w' => Grow w w' ∧ matchAns w m t e w' := by
  have HP := hide fun W => parse_any W (maskIs m) hml (maskIs_eq m)
  unfold matchAns
  cases hm : maskIs m with
  | error x =>
    obtain ⟨er, a⟩ := x
    have he := maskIs_pos hm
    have he2 : ((er : Int) != 0) = true := by simp; omega
    rw [hm] at HP
    clear hm
    go_enter Tryz.func27, Tryz.ntmps27
    go_wp2_with fail
    refine (HP.out _).mono ?_
    rintro e w1 ⟨hg, rfl⟩
    obtain ⟨W, eW, gW, hp, hf, hsz⟩ := laid_two w1 (.slice none 0 0) (.int .i64 0) (.int .i64 er) (.int .i64 a) 96 65
    obtain ⟨f0, f1⟩ := cells_two hf
    have HG2 : Hid (Grow w W) := hide (hg.trans gW)
    clear hg HP gW hp hf
    go_wp2
    go_quiet (fail)
    go_wp2
    go_ret3
    exact ⟨HG2.out.trans (grow_drewN W nq), rfl⟩
  | ok x =>
    obtain ⟨T, g⟩ := x
    obtain ⟨hwf, hgood, hg9, hwi, hsz301, hm60⟩ := maskIs_ok hm
    rw [hm] at HP
    clear hm
    have hlay := layC_length T
    have HSN := hide (layC_sound hwi (by omega))
    obtain ⟨fu, hrun⟩ := wayOf_is (t := t) hgood
    obtain ⟨fu', hden⟩ := layC_answers hwf hrun
    have HD := hide hden
    have HRUN := hide hrun
    clear hden hgood hwi hwf hrun
    show Calls _ _ _ _ fun e w' => Grow w w' ∧ matchOk w t g (wayOf T t) e w'
    generalize wayOf T t = x at HD HRUN ⊢
    have HT : Hid (∀ l, x = some l → rising 0 t.length l ∧ closed l) := hide fun l e => way_is (by rw [← e]; exact HRUN.out)
    go_enter Tryz.func27, Tryz.ntmps27
    go_wp2_with fail
    refine (HP.out _).mono ?_
    rintro e w1 ⟨hg, sv, rfl, hs⟩
    obtain ⟨ao, n, cp, rfl⟩ : ∃ ao n cp, sv = .slice ao n cp := by
      obtain ⟨rs, h1, _⟩ := hs
      obtain ⟨ao, cp, h⟩ := own_shape h1
      exact ⟨ao, _, cp, h⟩
    obtain ⟨W, eW, gW, hp, hf, hsz⟩ := laid_two w1 (.slice ao n cp) (.int .i64 g) (.int .i64 0) (.int .i64 0) 96 65
    obtain ⟨p0, p1⟩ := cells_two hp
    obtain ⟨f0, f1⟩ := cells_two hf
    have zf0 := not_frozen (k := 0) hf
    have zf1 := not_frozen (k := 1) hf
    obtain ⟨Z, HZ⟩ : ∃ Z, Hid (Z = (W.setCell ⟨w1.heap.size + 1, 0, none⟩ (.int .i64 0)).setCell ⟨w1.heap.size + 1, 1, none⟩ (.int .i64 0)) := ⟨_, hide rfl⟩
    have hZp : Z.heap[w1.heap.size]? = some (.cells #[.slice ao n cp, .int .i64 g] 96 (0, 0)) := by
      rw [HZ.out, set_apart (b := w1.heap.size + 1) (k := w1.heap.size) _ (by omega), set_apart (b := w1.heap.size + 1) (k := w1.heap.size) _ (by omega)]
      exact hp
    have hZf : Z.heap[w1.heap.size + 1]? = some (.cells #[.int .i64 0, .int .i64 0] 65 (0, 0)) := by
      rw [HZ.out, set_blk (set_blk hf _)]
      simp
    have hGZ : Grow w1 Z := by
      rw [HZ.out]
      exact (gW.setCell (Nat.le_succ _) _).setCell (Nat.le_succ _) _
    have hsZ : stepsIn Z (.slice ao n cp) (layC T) := hs.keep hGZ
    have eZ := HZ.out.symm
    obtain ⟨s0, s1⟩ := cells_two hZp
    obtain ⟨t0, t1⟩ := cells_two hZf
    have HG2 : Hid (Grow w Z) := hide (hg.trans hGZ)
    have HSZ := hide hsZ
    clear hg HP hs gW hp hf hZp hZf hGZ HZ hsZ
    by_cases hlong : 2000 < t.length
    · have hl2 : (2000 : Int) < (t.length : Int) := by omega
      have HL := hide hlong
      clear hlong
      go_wp2
      go_ret3
      exact ⟨HG2.out, matchOk_long HL.out rfl⟩
    · have hl2 : ¬ (2000 : Int) < (t.length : Int) := by omega
      have hl3 : t.length ≤ 2000 := by omega
      have HL := hide hl3
      clear hlong
      go_wp2_with fail
      refine (newWalk_any Z (.slice ao n cp) g (layC T) t HSZ.out hg9 (by omega) (by omega) hl3).mono ?_
      rintro e w2 ⟨wb, sb, tb, mb, rfl, hg2, htb, hmb, hwk, htr, hmk⟩
      have HF : Hid (Calls Tryz.prog 58 #[.pointer (some ⟨wb, 0, none⟩), .int .i64 0, .int .i64 0] w2 fun e w' => fromPost (layC T) t tb mb (List.replicate ((layC T).length * (t.length + 1)) false) (List.replicate (2 * g) (-1)) x w2 e w') := by
        refine from_any (layC T) t wb sb tb mb g (by omega) hl3 HSN.out fu' 0 0 x w2 _ _ (by simpa using hwk) htr hmk (by simp) (by simp) HD.out (by omega) (by omega) ?_
        intro n p hp h
        rw [List.getElem?_replicate] at h
        split at h
        · cases h
        · cases h
      have HWK := hide hwk
      have HG3 : Hid (Grow w w2) := hide (HG2.out.trans hg2)
      have HK : Hid (∀ w3, Kept2 tb mb w2 w3 → Grow w w3) := hide fun w3 h => by
        have hs := HG2.out.size
        have hs2 := HG3.out.size
        exact ⟨h.os.trans HG3.out.os, h.tape.trans HG3.out.tape, h.output.trans HG3.out.output, Nat.le_trans hs2 h.size, fun k hk => (h.block k (by omega) (by omega) (by omega)).trans (HG3.out.block k hk)⟩
      clear htr hmk hg2 hwk HD HRUN eZ s0 s1 t0 t1 p0 p1 f0 f1 zf0 zf1 eW
      cases x with
      | none =>
        go_wp2_with fail
        refine HF.out.mono ?_
        rintro e w3 ⟨rfl, hk, -⟩
        have hk3 := HK.out w3 hk
        go_wp2
        go_ret3
        exact ⟨hk3, matchOk_none HL.out rfl⟩
      | some l =>
        go_wp2_with fail
        refine HF.out.mono ?_
        rintro e w3 ⟨rfl, hk, tr', htl', htr', -, hmk'⟩
        have hmk3 := hmk' l rfl
        have hg3 := HK.out w3 hk
        have hw3 := HWK.out.keep hk
        obtain ⟨hr, hc⟩ := HT.out l rfl
        have HGR : Hid (∀ _ : World, Calls Tryz.prog 59 #[.pointer (some ⟨wb, 0, none⟩)] w3 fun e w' => ∃ v, e = .returned v ∧ Grow w3 w' ∧ ownStrs w' w3.heap.size v (tookL t l g)) := hide fun _ => by
          have h := groups_any w3 wb sb tb mb g (layC T) t ((layC T).length * (t.length + 1)) (markAll (List.replicate (2 * g) (-1)) l) (by rw [markAll_length]; simpa using hw3) hmk3 (by rw [markAll_length]; simp) hg9 HL.out (fun k hk => by
            rw [markAll_getD l (2 * k) (by omega), markAll_getD l (2 * k + 1) (by omega)]
            exact group_places hr hc k)
          rw [tooksB_took] at h
          exact h
        have HG4 := hide hg3
        clear hk hmk3 hmk' hw3 hr hc htr' htl' hg3
        go_wp2_with fail
        refine (HGR.out w3).mono ?_
        rintro e w4 ⟨v, rfl, hg4, ho⟩
        have HG5 : Hid (Grow w w4) := hide (HG4.out.trans hg4)
        have HO : Hid (ownStrs w4 w.heap.size v (tookL t l g)) := hide (own_le ho HG4.out.size)
        clear hg4 ho
        go_wp2
        go_ret3
        exact ⟨HG5.out, matchOk_some HL.out rfl HO.out⟩
/-- A set as a row of 256. -/
def boolRow (s : UInt8 → Bool) : List Bool := (List.range 256).map fun k => s (UInt8.ofNat k)
def boolsAt (w : World) (b : Nat) (l : List Bool) : Prop := w.heap[b]? = some (.cells (l.map Value.bool).toArray 4 (0, 0))
theorem boolsAt.cell {w : World} {b k : Nat} {l : List Bool} (h : boolsAt w b l) {x} (hk : l[k]? = some x) : w.cell? ⟨b, k, none⟩ = some (.bool x) := cell_in h (by simp [hk])
theorem boolsAt.set {w : World} {b : Nat} {l : List Bool} (h : boolsAt w b l) (k : Nat) (x : Bool) : boolsAt (w.setCell ⟨b, k, none⟩ (.bool x)) b (l.set k x) := by
  have := set_blk h (i := k) (.bool x)
  unfold boolsAt
  rw [this]
  congr 1
  simp [List.map_set]
theorem boolsAt.keep {w w' : World} {b : Nat} {l : List Bool} (h : boolsAt w b l) (k : w'.heap[b]? = w.heap[b]?) : boolsAt w' b l := k.trans h
/-- A set that stays. -/
def setAt (w : World) (v : Value) (s : UInt8 → Bool) : Prop := ∃ b, v = .slice (some ⟨b, 0, none⟩) 256 256 ∧ boolsAt w b (boolRow s)
theorem setAt.grow {w w' : World} {v : Value} {s : UInt8 → Bool} (h : setAt w v s) (g : Grow w w') : setAt w' v s := by
  obtain ⟨b, h1, h2⟩ := h
  exact ⟨b, h1, g.get h2⟩
abbrev pieceZ : Array Value := #[.bool false, .slice none 0 0, .int .i64 0, .slice none 0 0, .int .u8 0]
/-- While a piece is read: what has stayed, the block that is handed back, and the reader. -/
structure AtS (w : World) (rb : Nat) (m : List UInt8) (i g e a : Nat) (W : World) : Prop where
  kept : Kept2 rb rb w W
  size : w.heap.size < W.heap.size
  out : W.heap[w.heap.size]? = some (.cells pieceZ 155 (0, 0))
  rd : readerAt W rb m i g e a
theorem AtS.first {w A : World} {rb : Nat} {m : List UInt8} {i g e a : Nat} (h : readerAt w rb m i g e a) (hA : A = w.alloc (.cells pieceZ 155)) : AtS w rb m i g e a A := by
  subst hA
  have g : Grow w (w.alloc (.cells pieceZ 155)) := (Grow.refl _).alloc _
  exact ⟨.grow g, by simp, heap_alloc_new _ _, h.grow g⟩
theorem AtS.on {w W W' : World} {rb : Nat} {m : List UInt8} {i g e a i' g' e' a' : Nat} (h : AtS w rb m i g e a W) (hrb : rb < w.heap.size) (k : Kept2 rb rb W W') (hr : readerAt W' rb m i' g' e' a') : AtS w rb m i' g' e' a' W' :=
  ⟨h.kept.trans k, Nat.lt_of_lt_of_le h.size k.size, (k.block _ h.size (by omega) (by omega)).trans h.out, hr⟩
theorem AtS.grow {w W W' : World} {rb : Nat} {m : List UInt8} {i g e a : Nat} (h : AtS w rb m i g e a W) (hrb : rb < w.heap.size) (k : Grow W W') : AtS w rb m i g e a W' := h.on hrb (.grow k) (h.rd.grow k)
theorem AtS.cells {w W : World} {rb : Nat} {m : List UInt8} {i g e a : Nat} (h : AtS w rb m i g e a W) :
    (W.cell? ⟨w.heap.size, 0, none⟩ = some (.bool false) ∧ W.cell? ⟨w.heap.size, 1, none⟩ = some (.slice none 0 0) ∧ W.cell? ⟨w.heap.size, 2, none⟩ = some (.int .i64 0) ∧ W.cell? ⟨w.heap.size, 3, none⟩ = some (.slice none 0 0) ∧ W.cell? ⟨w.heap.size, 4, none⟩ = some (.int .u8 0)) ∧
    (∀ k, W.frozen? ⟨w.heap.size, k, none⟩ = false) := by
  have ho := h.out
  unfold pieceZ at ho
  exact ⟨five_cells ho, fun k => not_frozen (k := k) ho⟩
/-- A piece's cells. -/
def pieceC5 (gr : Bool) (sv : Value) (n : Int) (rv : Value) (sg : Int) : List Value := [.bool gr, sv, .int .i64 n, rv, .int .u8 sg]
/-- What cells of rows, or of a row, hold, in blocks of which something is known. -/
def cellsAt (w : World) (A : Nat → Prop) : Tr → List Value → Prop
  | .nil, xs => xs = []
  | .set s sg rest, xs => ∃ b l, xs = pieceC5 false (.slice (some ⟨b, 0, none⟩) 256 256) 0 (.slice none 0 0) sg ++ l ∧ A b ∧ boolsAt w b (boolRow s) ∧ cellsAt w A rest l
  | .grp n rows sg rest, xs => ∃ rv k ys l, xs = pieceC5 true (.slice none 0 0) (n + 1 : Nat) rv sg ++ l ∧ w.ownsRow 0 153 1 rv k ys ∧ (∀ b, rv.ownBlock = some b → A b) ∧ cellsAt w A rows ys ∧ cellsAt w A rest l
  | .row r rest, xs => ∃ v k ys l, xs = v :: l ∧ w.ownsRow 0 155 5 v k ys ∧ (∀ b, v.ownBlock = some b → A b) ∧ cellsAt w A r ys ∧ cellsAt w A rest l
theorem cellsAt.keep {w w' : World} {A A' : Nat → Prop} (hk : ∀ k, k < w.heap.size → A k → A' k ∧ w'.heap[k]? = w.heap[k]?) : ∀ {T : Tr} {xs : List Value}, cellsAt w A T xs → cellsAt w' A' T xs
  | .nil, xs, h => h
  | .set s sg rest, xs, h => by
    obtain ⟨b, l, h1, h2, h3, h4⟩ := h
    obtain ⟨k1, k2⟩ := hk b (lt_of_block h3) h2
    exact ⟨b, l, h1, k1, k2.trans h3, cellsAt.keep hk h4⟩
  | .grp n rows sg rest, xs, h => by
    obtain ⟨rv, k, ys, l, h1, h2, h3, h4, h5⟩ := h
    exact ⟨rv, k, ys, l, h1, own_keep h2 fun b hb => (hk b (h2.lt b hb).2 (h3 b hb)).2, fun b hb => (hk b (h2.lt b hb).2 (h3 b hb)).1, cellsAt.keep hk h4, cellsAt.keep hk h5⟩
  | .row r rest, xs, h => by
    obtain ⟨v, k, ys, l, h1, h2, h3, h4, h5⟩ := h
    exact ⟨v, k, ys, l, h1, own_keep h2 fun b hb => (hk b (h2.lt b hb).2 (h3 b hb)).2, fun b hb => (hk b (h2.lt b hb).2 (h3 b hb)).1, cellsAt.keep hk h4, cellsAt.keep hk h5⟩
theorem cellsAt.grow {w w' : World} {A : Nat → Prop} {T : Tr} {xs : List Value} (h : cellsAt w A T xs) (g : Grow w w') : cellsAt w' A T xs := h.keep fun k hk ha => ⟨ha, g.block k hk⟩
/-- Pieces, one by one. -/
inductive Item where
  | set (s : UInt8 → Bool) (sg : Nat)
  | grp (n : Nat) (rows : Tr) (sg : Nat)
def Item.on : Item → Tr → Tr
  | .set s sg, T => .set s sg T
  | .grp n rows sg, T => .grp n rows sg T
def itemAt (w : World) (A : Nat → Prop) : Item → List Value → Prop
  | .set s sg, xs => ∃ b, xs = pieceC5 false (.slice (some ⟨b, 0, none⟩) 256 256) 0 (.slice none 0 0) sg ∧ A b ∧ boolsAt w b (boolRow s)
  | .grp n rows sg, xs => ∃ rv k ys, xs = pieceC5 true (.slice none 0 0) (n + 1 : Nat) rv sg ∧ w.ownsRow 0 153 1 rv k ys ∧ (∀ b, rv.ownBlock = some b → A b) ∧ cellsAt w A rows ys
theorem itemAt.length {w : World} {A : Nat → Prop} : ∀ {it : Item} {xs : List Value}, itemAt w A it xs → xs.length = 5
  | .set s sg, xs, ⟨b, h, _⟩ => by rw [h]; rfl
  | .grp n rows sg, xs, ⟨rv, k, ys, h, _⟩ => by rw [h]; rfl
theorem itemAt.keep {w w' : World} {A A' : Nat → Prop} (hk : ∀ k, k < w.heap.size → A k → A' k ∧ w'.heap[k]? = w.heap[k]?) : ∀ {it : Item} {xs : List Value}, itemAt w A it xs → itemAt w' A' it xs
  | .set s sg, xs, ⟨b, h1, h2, h3⟩ => by
    obtain ⟨k1, k2⟩ := hk b (lt_of_block h3) h2
    exact ⟨b, h1, k1, k2.trans h3⟩
  | .grp n rows sg, xs, ⟨rv, k, ys, h1, h2, h3, h4⟩ => ⟨rv, k, ys, h1, own_keep h2 fun b hb => (hk b (h2.lt b hb).2 (h3 b hb)).2, fun b hb => (hk b (h2.lt b hb).2 (h3 b hb)).1, cellsAt.keep hk h4⟩
/-- A row in a slice. -/
def rowAt (w : World) (A : Nat → Prop) (r : Tr) (v : Value) : Prop := ∃ k ys, w.ownsRow 0 155 5 v k ys ∧ (∀ b, v.ownBlock = some b → A b) ∧ cellsAt w A r ys
theorem rowAt.keep {w w' : World} {A A' : Nat → Prop} {r : Tr} {v : Value} (hk : ∀ k, k < w.heap.size → A k → A' k ∧ w'.heap[k]? = w.heap[k]?) (h : rowAt w A r v) : rowAt w' A' r v := by
  obtain ⟨k, ys, h2, h3, h4⟩ := h
  exact ⟨k, ys, own_keep h2 fun b hb => (hk b (h2.lt b hb).2 (h3 b hb)).2, fun b hb => (hk b (h2.lt b hb).2 (h3 b hb)).1, h4.keep hk⟩
theorem own_len {w : World} {B e size n : Nat} {v : Value} {xs : List Value} (h : w.ownsRow B e size v n xs) : xs.length = n * size := by simpa using h.1
/-- A row that has something lies in a block. -/
theorem own_block {w : World} {B e size n : Nat} {v : Value} {xs : List Value} (h : w.ownsRow B e size v n xs) (hn : 0 < n) : ∃ b cp, v = .slice (some ⟨b, 0, none⟩) n cp ∧ b < w.heap.size ∧ ∀ i u, xs[i]? = some u → w.cell? ⟨b, i, none⟩ = some u := by
  rcases h.2 with ⟨_, h0⟩ | ⟨g, cap, cur, rfl, _, h2, _⟩
  · omega
  · exact ⟨g, cap, rfl, lt_of_block h2, fun i u hu => own_cell h hu⟩
/-- Where a reader is. -/
def placeR (w : World) (rb : Nat) : Nat := match w.heap[rb]? with | some (.cells c _ _) => (intOf (c.getD 1 undef)).toNat | _ => 0
theorem readerAt.place {w : World} {rb : Nat} {m : List UInt8} {i g e a : Nat} (h : readerAt w rb m i g e a) : placeR w rb = i := by
  unfold readerAt at h
  simp [placeR, h, intOf]
end Go.Proofs.YtndpjdmfkhjiiaaGreatDoor
