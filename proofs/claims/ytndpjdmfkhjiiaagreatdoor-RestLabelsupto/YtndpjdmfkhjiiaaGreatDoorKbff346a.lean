/- 5 texts in one. -/
import Derived.WalkKit
set_option linter.unusedVariables false
set_option linter.unusedSimpArgs false
namespace Go.Proofs.YtndpjdmfkhjiiaaGreatDoor
/-- Where groups begin and end on a way: slots and places, in the order of the way. -/
abbrev Evs := List (Nat × Nat)
/-- An answer that is known: a way, or that there is none. `none` ahead of it: not known with so much fuel. -/
abbrev Ans := Option (Option Evs)
/-- The first of two: the second one is asked if the first leads to nothing. -/
def first : Ans → Ans → Ans
  | none, _ => none
  | some (some e), _ => some (some e)
  | some none, b => b
theorem first_none (b : Ans) : first (some none) b = b := rfl
theorem first_eq {a b : Ans} {x : Option Evs} (h : first a b = some x) : (∃ e, a = some (some e) ∧ x = some e) ∨ (a = some none ∧ b = some x) := by
  match a, h with
  | some (some e), h => exact .inl ⟨e, rfl, by simpa [first] using h.symm⟩
  | some none, h => exact .inr ⟨rfl, h⟩
def marked (sl p : Nat) (x : Option Evs) : Option Evs := x.map ((sl, p) :: ·)
/-- Parts of a mask. -/
inductive Re where
  | eps
  | set (s : UInt8 → Bool)
  | mk (slot : Nat)
  | seq (a b : Re)
  | alt (a b : Re)
  | star (r : Re)
  | plus (r : Re)
/-- Does a byte of the set stand there? -/
def hits (t : List UInt8) (s : UInt8 → Bool) (p : Nat) : Bool := match t[p]? with | some c => s c | none => false
theorem hits_lt {t : List UInt8} {s p} (h : hits t s p = true) : p < t.length := by
  unfold hits at h
  split at h
  · rename_i c e; exact (List.getElem?_eq_some_iff.1 e).1
  · cases h
theorem hits_get {t : List UInt8} {s : UInt8 → Bool} {p} (h : p < t.length) : hits t s p = s t[p] := by simp [hits, h]
theorem hits_ge {t : List UInt8} {s : UInt8 → Bool} {p} (h : ¬ p < t.length) : hits t s p = false := by simp [hits, List.getElem?_eq_none_iff.2 (by omega : t.length ≤ p)]
/-- The first way along parts, one behind the other, from a place on. -/
def run (t : List UInt8) : Nat → List Re → Nat → Ans
  | 0, _, _ => none
  | _ + 1, [], p => some (if p = t.length then some [] else none)
  | f + 1, .eps :: ks, p => run t f ks p
  | f + 1, .set s :: ks, p => if hits t s p then run t f ks (p + 1) else some none
  | f + 1, .mk n :: ks, p => (run t f ks p).map (marked n p)
  | f + 1, .seq a b :: ks, p => run t f (a :: b :: ks) p
  | f + 1, .alt a b :: ks, p => first (run t f (a :: ks) p) (run t f (b :: ks) p)
  | f + 1, .star r :: ks, p => first (run t f (r :: .star r :: ks) p) (run t f ks p)
  | f + 1, .plus r :: ks, p => run t f (r :: .star r :: ks) p
theorem map_some {a : Ans} {f : Option Evs → Option Evs} {x} (h : a.map f = some x) : ∃ y, a = some y ∧ x = f y := by
  cases a with
  | none => cases h
  | some y => exact ⟨y, rfl, by simpa using h.symm⟩
theorem first_mono {a b a' b' : Ans} (ha : ∀ x, a = some x → a' = some x) (hb : ∀ x, b = some x → b' = some x) {x} (h : first a b = some x) : first a' b' = some x := by
  rcases first_eq h with ⟨e, rfl, rfl⟩ | ⟨rfl, h⟩
  · rw [ha _ rfl]; rfl
  · rw [ha _ rfl]; exact hb _ h
theorem run_succ (t : List UInt8) : ∀ f ks p x, run t f ks p = some x → run t (f + 1) ks p = some x := by
  intro f
  induction f with
  | zero => intro ks p x h; cases h
  | succ f ih =>
    intro ks p x h
    match ks, h with
    | [], h => exact h
    | .eps :: ks, h => exact ih _ _ _ h
    | .set s :: ks, h =>
      rw [run] at h ⊢
      split at h
      · rename_i e; rw [if_pos e]; exact ih _ _ _ h
      · rename_i e; rw [if_neg e]; exact h
    | .mk n :: ks, h =>
      rw [run] at h ⊢
      obtain ⟨y, hy, rfl⟩ := map_some h
      rw [ih _ _ _ hy]; rfl
    | .seq a b :: ks, h => exact ih _ _ _ h
    | .alt a b :: ks, h => exact first_mono (ih _ _) (ih _ _) h
    | .star r :: ks, h => exact first_mono (ih _ _) (ih _ _) h
    | .plus r :: ks, h => exact ih _ _ _ h
theorem run_mono (t : List UInt8) {f f' ks p x} (h : run t f ks p = some x) (hf : f ≤ f') : run t f' ks p = some x := by
  obtain ⟨d, rfl⟩ := Nat.exists_eq_add_of_le hf
  induction d with
  | zero => exact h
  | succ d ih => exact run_succ t _ _ _ _ (ih (by omega))
/-- May a part take nothing? -/
def nullable : Re → Bool
  | .eps => true
  | .set _ => false
  | .mk _ => true
  | .seq a b => nullable a && nullable b
  | .alt a b => nullable a || nullable b
  | .star _ => true
  | .plus r => nullable r
/-- What is repeated takes a byte at least. -/
def good : Re → Prop
  | .eps => True
  | .set _ => True
  | .mk _ => True
  | .seq a b => good a ∧ good b
  | .alt a b => good a ∧ good b
  | .star r => good r ∧ nullable r = false
  | .plus r => good r ∧ nullable r = false
def Tot (t : List UInt8) (ks : List Re) (p : Nat) : Prop := ∃ f x, run t f ks p = some x
theorem Tot.first {t : List UInt8} {ks ls : List Re} {p q : Nat} (h : Tot t ks p) (k : Tot t ls q) : ∃ f x, first (run t f ks p) (run t f ls q) = some x := by
  obtain ⟨f, x, h⟩ := h
  obtain ⟨g, y, k⟩ := k
  have h' := run_mono t h (Nat.le_max_left f g)
  have k' := run_mono t k (Nat.le_max_right f g)
  cases x with
  | some e => exact ⟨_, some e, by rw [h']; rfl⟩
  | none => exact ⟨_, y, by rw [h', k']; rfl⟩
theorem tot_star (t : List UInt8) (r : Re) (ks : List Re)
    (hr : ∀ ks p, p ≤ t.length → (∀ q, p < q → q ≤ t.length → Tot t ks q) → Tot t (r :: ks) p) :
    ∀ d p, t.length - p = d → p ≤ t.length → (∀ q, p ≤ q → q ≤ t.length → Tot t ks q) → Tot t (.star r :: ks) p := by
  intro d
  induction d using Nat.strongRecOn with
  | _ d ih =>
    intro p hd hp h
    have b := hr (.star r :: ks) p hp (fun q h1 h2 => ih (t.length - q) (by omega) q rfl h2 (fun q' h3 h4 => h q' (by omega) h4))
    obtain ⟨f, x, e⟩ := b.first (h p (Nat.le_refl _) hp)
    exact ⟨f + 1, x, e⟩
/-- Each part that is good has its answer, if what comes behind it has. -/
theorem tot_re (t : List UInt8) : ∀ r, good r →
    (∀ ks p, p ≤ t.length → (∀ q, p ≤ q → q ≤ t.length → Tot t ks q) → Tot t (r :: ks) p) ∧
    (nullable r = false → ∀ ks p, p ≤ t.length → (∀ q, p < q → q ≤ t.length → Tot t ks q) → Tot t (r :: ks) p) := by
  intro r
  induction r with
  | eps => exact fun _ => ⟨fun ks p hp h => let ⟨f, x, e⟩ := h p (Nat.le_refl _) hp; ⟨f + 1, x, e⟩, fun h => by cases h⟩
  | set s =>
    intro _
    have : ∀ ks p, p ≤ t.length → (∀ q, p < q → q ≤ t.length → Tot t ks q) → Tot t (.set s :: ks) p := by
      intro ks p hp h
      by_cases c : hits t s p = true
      · obtain ⟨f, x, e⟩ := h (p + 1) (by omega) (hits_lt c)
        exact ⟨f + 1, x, by rw [run, if_pos c]; exact e⟩
      · exact ⟨1, none, by rw [run, if_neg c]⟩
    exact ⟨fun ks p hp h => this ks p hp (fun q h1 h2 => h q (by omega) h2), fun _ => this⟩
  | mk n =>
    refine fun _ => ⟨fun ks p hp h => ?_, fun h => by cases h⟩
    obtain ⟨f, x, e⟩ := h p (Nat.le_refl _) hp
    exact ⟨f + 1, marked n p x, by rw [run, e]; rfl⟩
  | seq a b iha ihb =>
    intro g
    refine ⟨fun ks p hp h => ?_, fun hn ks p hp h => ?_⟩
    · obtain ⟨f, x, e⟩ := (iha g.1).1 (b :: ks) p hp (fun q h1 h2 => (ihb g.2).1 ks q h2 (fun q' h3 h4 => h q' (by omega) h4))
      exact ⟨f + 1, x, e⟩
    · have : Tot t (a :: b :: ks) p := by
        cases na : nullable a with
        | false => exact (iha g.1).2 na (b :: ks) p hp (fun q h1 h2 => (ihb g.2).1 ks q h2 (fun q' h3 h4 => h q' (by omega) h4))
        | true =>
          have nb : nullable b = false := by simpa [nullable, na] using hn
          exact (iha g.1).1 (b :: ks) p hp (fun q h1 h2 => (ihb g.2).2 nb ks q h2 (fun q' h3 h4 => h q' (by omega) h4))
      obtain ⟨f, x, e⟩ := this
      exact ⟨f + 1, x, e⟩
  | alt a b iha ihb =>
    intro g
    refine ⟨fun ks p hp h => ?_, fun hn ks p hp h => ?_⟩
    · obtain ⟨f, x, e⟩ := ((iha g.1).1 ks p hp h).first ((ihb g.2).1 ks p hp h)
      exact ⟨f + 1, x, e⟩
    · have hn : nullable a = false ∧ nullable b = false := by simpa [nullable] using hn
      obtain ⟨f, x, e⟩ := ((iha g.1).2 hn.1 ks p hp h).first ((ihb g.2).2 hn.2 ks p hp h)
      exact ⟨f + 1, x, e⟩
  | star r ih =>
    exact fun g => ⟨fun ks p hp h => tot_star t r ks ((ih g.1).2 g.2) _ p rfl hp h, fun h => by cases h⟩
  | plus r ih =>
    intro g
    have : ∀ ks p, p ≤ t.length → (∀ q, p < q → q ≤ t.length → Tot t ks q) → Tot t (.plus r :: ks) p := by
      intro ks p hp h
      obtain ⟨f, x, e⟩ := (ih g.1).2 g.2 (.star r :: ks) p hp (fun q h1 h2 => tot_star t r ks ((ih g.1).2 g.2) _ q rfl h2 (fun q' h3 h4 => h q' (by omega) h4))
      exact ⟨f + 1, x, e⟩
    exact ⟨fun ks p hp h => this ks p hp (fun q h1 h2 => h q (by omega) h2), fun _ => this⟩
/-- What a mask answers of a text. -/
theorem run_total (t : List UInt8) {r : Re} (g : good r) : ∃ f x, run t f [r] 0 = some x :=
  (tot_re t r g).1 [] 0 (Nat.zero_le _) (fun q _ _ => ⟨1, _, rfl⟩)
/-! ### graphs -/
/-- What a node of a graph asks for. -/
inductive Kind where
  | fin
  | take (s : UInt8 → Bool) (n : Nat)
  | mark (slot n : Nat)
  | fork (ws : List Nat)
def ways (d : Nat → Ans) : List Nat → Ans
  | [] => some none
  | w :: ws => first (d w) (ways d ws)
/-- The first way along a graph. -/
def den (g : Nat → Kind) (t : List UInt8) : Nat → Nat → Nat → Ans
  | 0, _, _ => none
  | f + 1, n, p => match g n with
    | .fin => some (if p = t.length then some [] else none)
    | .take s m => if hits t s p then den g t f m (p + 1) else some none
    | .mark sl m => (den g t f m p).map (marked sl p)
    | .fork ws => ways (fun w => den g t f w p) ws
theorem ways_mono {d d' : Nat → Ans} (h : ∀ w x, d w = some x → d' w = some x) : ∀ {ws x}, ways d ws = some x → ways d' ws = some x
  | [], _, e => e
  | w :: ws, _, e => first_mono (h w) (fun _ => ways_mono h) e
theorem den_succ (g : Nat → Kind) (t : List UInt8) : ∀ f n p x, den g t f n p = some x → den g t (f + 1) n p = some x := by
  intro f
  induction f with
  | zero => intro n p x h; cases h
  | succ f ih =>
    intro n p x h
    rw [den] at h ⊢
    split at h
    · exact h
    · split at h
      · rename_i e; rw [if_pos e]; exact ih _ _ _ h
      · rename_i e; rw [if_neg e]; exact h
    · obtain ⟨y, hy, rfl⟩ := map_some h
      rw [ih _ _ _ hy]; rfl
    · exact ways_mono (fun w x => ih w p x) h
theorem den_mono {g : Nat → Kind} {t : List UInt8} {f f' n p x} (h : den g t f n p = some x) (hf : f ≤ f') : den g t f' n p = some x := by
  obtain ⟨d, rfl⟩ := Nat.exists_eq_add_of_le hf
  induction d with
  | zero => exact h
  | succ d ih => exact den_succ g t _ _ _ _ (ih (by omega))
theorem den_det {g : Nat → Kind} {t : List UInt8} {f f' n p x y} (h : den g t f n p = some x) (k : den g t f' n p = some y) : x = y := by
  have h' := den_mono h (Nat.le_max_left f f')
  have k' := den_mono k (Nat.le_max_right f f')
  rw [h'] at k'; exact Option.some.inj k'
/-- Parts as a graph has them: from one of these nodes (the first first) a part is gone through up to a node. `G n k`: node n asks for k. -/
inductive Code (G : Nat → Kind → Prop) : List Nat → Nat → Re → Prop where
  | here {n} : Code G [n] n .eps
  | jump {n ws m r} : G n (.fork ws) → Code G ws m r → Code G [n] m r
  | land {ws k m r} : Code G ws k r → G k (.fork [m]) → Code G ws m r
  | set {n s m} : G n (.take s m) → Code G [n] m (.set s)
  | mk {n sl m} : G n (.mark sl m) → Code G [n] m (.mk sl)
  | seq {ws k m a b} : Code G ws k a → Code G [k] m b → Code G ws m (.seq a b)
  | alt {w ws m a b} : Code G [w] m a → Code G ws m b → Code G (w :: ws) m (.alt a b)
  | star {n c e m r} : G n (.fork [c, m]) → Code G [c] e r → G e (.fork [c, m]) → Code G [n] m (.star r)
  | plus {c e m r} : Code G [c] e r → G e (.fork [c, m]) → Code G [c] m (.plus r)
theorem Code.mono {G G' : Nat → Kind → Prop} (h : ∀ n k, G n k → G' n k) {ws m r} (c : Code G ws m r) : Code G' ws m r := by
  induction c with
  | here => exact .here
  | jump a _ ih => exact .jump (h _ _ a) ih
  | land _ a ih => exact .land ih (h _ _ a)
  | set a => exact .set (h _ _ a)
  | mk a => exact .mk (h _ _ a)
  | seq _ _ i j => exact .seq i j
  | alt _ _ i j => exact .alt i j
  | star a _ b ih => exact .star (h _ _ a) ih (h _ _ b)
  | plus _ b ih => exact .plus ih (h _ _ b)
/-- From these nodes on, parts are answered, as far as so much fuel tells their answers. -/
def Real (g : Nat → Kind) (t : List UInt8) (k : Nat) (ks : List Re) (ws : List Nat) : Prop :=
  ∀ f, f ≤ k → ∀ p x, run t f ks p = some x → ∃ f', ways (fun w => den g t f' w p) ws = some x
theorem Real.le {g t k k' ks ws} (h : Real g t k ks ws) (hk : k' ≤ k) : Real g t k' ks ws := fun f hf => h f (by omega)
theorem ways_one {d : Nat → Ans} {w x} (h : d w = some x) : ways d [w] = some x := by
  cases x <;> simp [ways, h, first]
theorem ways_one_inv {d : Nat → Ans} {w x} (h : ways d [w] = some x) : d w = some x := by
  rcases first_eq (show first (d w) (some none) = some x from h) with ⟨e, h1, rfl⟩ | ⟨h1, k1⟩
  · exact h1
  · rw [h1]; exact k1
theorem Real.fork {g t k ks ws n} (hg : g n = .fork ws) (h : Real g t k ks ws) : Real g t k ks [n] := by
  intro f hf p x e
  obtain ⟨f', e⟩ := h f hf p x e
  exact ⟨f' + 1, ways_one (by rw [den, hg]; exact e)⟩
theorem ways_cons {g : Nat → Kind} {t : List UInt8} {p : Nat} {w ws} {f f'} {a b : Ans} {x} (h : first a b = some x)
    (ha : ∀ y, a = some y → ways (fun w => den g t f w p) [w] = some y) (hb : ∀ y, b = some y → ways (fun w => den g t f' w p) ws = some y) :
    ∃ f'', ways (fun w => den g t f'' w p) (w :: ws) = some x := by
  refine ⟨max f f', ?_⟩
  rw [ways]
  rcases first_eq h with ⟨e, ea, rfl⟩ | ⟨ea, eb⟩
  · rw [den_mono (ways_one_inv (ha _ ea)) (Nat.le_max_left f f')]; rfl
  · rw [den_mono (ways_one_inv (ha _ ea)) (Nat.le_max_left f f'), first_none]
    exact ways_mono (fun w x h => den_mono h (Nat.le_max_right f f')) (hb _ eb)
theorem Real.two {g : Nat → Kind} {t : List UInt8} {f p : Nat} {as bs : List Re} {w ws} {x} (h : first (run t f as p) (run t f bs p) = some x)
    (ha : Real g t f as [w]) (hb : Real g t f bs ws) : ∃ f', ways (fun w => den g t f' w p) (w :: ws) = some x := by
  rcases first_eq h with ⟨e, ea, rfl⟩ | ⟨ea, eb⟩
  · obtain ⟨f1, e1⟩ := ha f (Nat.le_refl _) p _ ea
    exact ⟨f1, by rw [ways, ways_one_inv e1]; rfl⟩
  · obtain ⟨f1, e1⟩ := ha f (Nat.le_refl _) p _ ea
    obtain ⟨f2, e2⟩ := hb f (Nat.le_refl _) p _ eb
    exact ways_cons (f := f1) (f' := f2) (a := some none) (b := some x) rfl (fun y h => by cases h; exact e1) (fun y h => by cases h; exact e2)
theorem real_star {g : Nat → Kind} {t : List UInt8} {r : Re} {ks : List Re} {c e m : Nat} (he : g e = .fork [c, m])
    (ih : ∀ k ks, Real g t k ks [e] → Real g t k (r :: ks) [c]) :
    ∀ k, Real g t k ks [m] → Real g t k (.star r :: ks) [e] := by
  intro k
  induction k with
  | zero =>
    intro _ f hf p x h
    obtain rfl : f = 0 := by omega
    rw [run] at h; cases h
  | succ k ihk =>
    intro hm f hf p x h
    obtain _ | f := f
    · cases h
    have b : Real g t f (r :: .star r :: ks) [c] := (ih k _ (ihk (hm.le (by omega)))).le (by omega)
    obtain ⟨f', e'⟩ := Real.two (w := c) (ws := [m]) (show first (run t f (r :: .star r :: ks) p) (run t f ks p) = some x from h) b (hm.le (by omega))
    exact ⟨f' + 1, ways_one (by rw [den, he]; exact e')⟩
/-- WHAT IS LAID OUT ANSWERS AS ITS PARTS DO, whatever comes behind. -/
theorem Code.real {g : Nat → Kind} {t : List UInt8} {G : Nat → Kind → Prop} (hG : ∀ n k, G n k → g n = k) {ws m r} (c : Code G ws m r) :
    ∀ k ks, Real g t k ks [m] → Real g t k (r :: ks) ws := by
  induction c with
  | here =>
    intro k ks h f hf p x e
    obtain _ | f := f
    · cases e
    · exact h f (by omega) p x e
  | jump a _ ih => exact fun k ks h => (ih k ks h).fork (hG _ _ a)
  | land _ a ih => exact fun k ks h => ih k ks (h.fork (hG _ _ a))
  | @set n s m a =>
    intro k ks h f hf p x e
    obtain _ | f := f
    · cases e
    rw [run] at e
    split at e
    · rename_i c
      obtain ⟨f', e'⟩ := h f (by omega) (p + 1) x e
      exact ⟨f' + 1, ways_one (by rw [den, hG _ _ a]; simp only; rw [if_pos c]; exact ways_one_inv e')⟩
    · rename_i c
      exact ⟨1, ways_one (by rw [den, hG _ _ a]; simp only; rw [if_neg c]; exact e)⟩
  | @mk n sl m a =>
    intro k ks h f hf p x e
    obtain _ | f := f
    · cases e
    rw [run] at e
    obtain ⟨y, ey, rfl⟩ := map_some e
    obtain ⟨f', e'⟩ := h f (by omega) p y ey
    exact ⟨f' + 1, ways_one (by rw [den, hG _ _ a]; simp only; rw [ways_one_inv e']; rfl)⟩
  | seq _ _ i j =>
    intro k ks h f hf p x e
    obtain _ | f := f
    · cases e
    exact i k _ (j k ks h) f (by omega) p x e
  | alt _ _ i j =>
    intro k ks h f hf p x e
    obtain _ | f := f
    · cases e
    exact Real.two (show first (run t f (_ :: ks) p) (run t f (_ :: ks) p) = some x from e) ((i k ks h).le (by omega)) ((j k ks h).le (by omega))
  | star a _ b ih =>
    intro k ks h f hf p x e
    obtain _ | f := f
    · cases e
    have hs := real_star (hG _ _ b) (fun k ks => ih k ks) k h
    obtain ⟨f', e'⟩ := Real.two (show first (run t f (_ :: .star _ :: ks) p) (run t f ks p) = some x from e) ((ih k _ hs).le (by omega)) (h.le (by omega))
    exact ⟨f' + 1, ways_one (by rw [den, hG _ _ a]; exact e')⟩
  | plus _ b ih =>
    intro k ks h f hf p x e
    obtain _ | f := f
    · cases e
    exact ih k _ (real_star (hG _ _ b) (fun k ks => ih k ks) k h) f (by omega) p x e
/-- A whole mask's graph: what is asked at its beginning is what the mask answers. -/
theorem Code.answers {g : Nat → Kind} {t : List UInt8} {G : Nat → Kind → Prop} (hG : ∀ n k, G n k → g n = k) {n m r} (c : Code G [n] m r)
    (hm : g m = .fin) {f x} (h : run t f [r] 0 = some x) : ∃ f', den g t f' n 0 = some x := by
  obtain ⟨f', e⟩ := c.real hG (t := t) f [] (by
    intro f hf p x e
    obtain _ | f := f
    · cases e
    exact ⟨1, ways_one (by rw [den, hm]; exact e)⟩) f (Nat.le_refl _) 0 x h
  exact ⟨f', ways_one_inv e⟩
/-! ### where the groups are: the last place of each slot -/
/-- The last place of a slot on a way; `d`, if it has none. -/
def lastOf (d : Int) (sl : Nat) : Evs → Int
  | [] => d
  | (s, p) :: l => lastOf (if s = sl then (p : Int) else d) sl l
/-- What is read: an answer, or a fault (its number, its byte); none: not known with so much fuel. -/
abbrev Out (α : Type) := Option (Except (Nat × Nat) α)
def bindO {α β : Type} : Out α → (α → Out β) → Out β
  | none, _ => none
  | some (.error e), _ => some (.error e)
  | some (.ok x), k => k x
theorem bindO_eq {α β : Type} {a : Out α} {k : α → Out β} {y} (h : bindO a k = some y) : (∃ e, a = some (.error e) ∧ y = .error e) ∨ ∃ x, a = some (.ok x) ∧ k x = some y := by
  match a, h with
  | some (.error e), h => exact .inl ⟨e, rfl, (Option.some.inj h).symm⟩
  | some (.ok x), h => exact .inr ⟨x, rfl, h⟩
/-- A mask's rows, row by row, piece by piece: nothing more; a piece of one byte and the row's rest; a group's piece and the row's rest; a row and the rows behind it. -/
inductive Tr where
  | nil
  | set (s : UInt8 → Bool) (sg : Nat) (rest : Tr)
  | grp (n : Nat) (rows : Tr) (sg : Nat) (rest : Tr)
  | row (r rest : Tr)
def signed (sg : Nat) (r : Re) : Re := if sg = 42 then .star r else if sg = 43 then .plus r else if sg = 63 then .alt r .eps else r
def grpRe (n : Nat) (r : Re) : Re := .seq (.mk (2 * n)) (.seq r (.mk (2 * n + 1)))
def re : Tr → Re
  | .nil => .eps
  | .set s sg rest => .seq (signed sg (.set s)) (re rest)
  | .grp n rows sg rest => .seq (signed sg (grpRe n (re rows))) (re rest)
  | .row r .nil => re r
  | .row r rest => .alt (re r) (re rest)
/-- May a row, or one of rows, take nothing? -/
def nothing : Tr → Bool
  | .nil => true
  | .set _ sg rest => (sg = 42 || sg = 63) && nothing rest
  | .grp _ rows sg rest => (sg = 42 || sg = 63 || nothing rows) && nothing rest
  | .row r .nil => nothing r
  | .row r rest => nothing r || nothing rest
theorem nullable_signed (sg : Nat) (r : Re) : nullable (signed sg r) = (decide (sg = 42) || decide (sg = 63) || nullable r) := by
  unfold signed
  by_cases h1 : sg = 42
  · simp [h1, nullable]
  · by_cases h2 : sg = 43
    · simp [h2, nullable]
    · by_cases h3 : sg = 63 <;> simp [h1, h2, h3, nullable]
theorem nothing_re (T : Tr) : nullable (re T) = nothing T := by
  induction T with
  | nil => rfl
  | set s sg rest ih => simp [re, nothing, nullable, nullable_signed, ih]
  | grp n rows sg rest ih1 ih2 => simp [re, nothing, nullable, nullable_signed, grpRe, ih1, ih2]
  | row r rest ih1 ih2 => cases rest <;> simp_all [re, nothing, nullable]
/-- A sign behind a piece: one of `*`, `+`, `?`. -/
def isSign (c : UInt8) : Bool := c.toNat = 42 || c.toNat = 43 || c.toNat = 63
/-- A byte that may not stand between brackets: `[`, `]`, a backslash, `^`, `-`. -/
def badIn (c : UInt8) : Bool := c.toNat = 91 || c.toNat = 93 || c.toNat = 92 || c.toNat = 94 || c.toNat = 45
def isAl (c : UInt8) : Bool := (97 ≤ c.toNat && c.toNat ≤ 122) || (65 ≤ c.toNat && c.toNat ≤ 90)
def isNu (c : UInt8) : Bool := 48 ≤ c.toNat && c.toNat ≤ 57
/-- Does this byte stand there? -/
def isAt (m : List UInt8) (at' : Nat) (c : Nat) : Bool := match m[at']? with | some b => b.toNat = c | none => false
def between (a b : UInt8) : UInt8 → Bool := fun c => a.toNat ≤ c.toNat && c.toNat ≤ b.toNat
def union (s t : UInt8 → Bool) : UInt8 → Bool := fun c => s c || t c
def butAll (s : UInt8 → Bool) : UInt8 → Bool := fun c => !s c
/-- A byte between brackets. -/
def pBr (m : List UInt8) (i : Nat) : Out UInt8 := match m[i]? with
  | none => some (.error (1, i))
  | some c => if badIn c then some (.error (1, i)) else some (.ok c)
/-- A byte between brackets, or two with a `-` between them: the set, and where they end. -/
def pSpan (m : List UInt8) (i : Nat) : Out ((UInt8 → Bool) × Nat) :=
  bindO (pBr m i) fun a =>
    if isAt m (i + 1) 45 then bindO (pBr m (i + 2)) fun b => if b.toNat < a.toNat then some (.error (3, i + 2)) else some (.ok (between a b, i + 3))
    else some (.ok (between a a, i + 1))
/-- What is between brackets from the second span on. -/
def pSpans (m : List UInt8) : Nat → (UInt8 → Bool) → Nat → Out ((UInt8 → Bool) × Nat)
  | 0, _, _ => none
  | f + 1, s, i => if isAt m i 93 then some (.ok (s, i + 1)) else bindO (pSpan m i) fun x => pSpans m f (union s x.1) x.2
/-- Brackets, from the byte behind the first one on. -/
def pBrackets (m : List UInt8) (i : Nat) : Out ((UInt8 → Bool) × Nat) :=
  let j := if isAt m i 94 then i + 1 else i
  bindO (pSpan m j) fun x => bindO (pSpans m (m.length + 1) x.1 x.2) fun y => some (.ok (if isAt m i 94 then butAll y.1 else y.1, y.2))
/-- A piece that is no group, without its sign. -/
def pSet (m : List UInt8) (i : Nat) (c : UInt8) : Out ((UInt8 → Bool) × Nat) :=
  if c.toNat = 91 then pBrackets m (i + 1)
  else if c.toNat = 46 then some (.ok (fun _ => true, i + 1))
  else if c.toNat = 92 then match m[i + 1]? with
    | none => some (.error (1, i + 1))
    | some d => if isAl d || isNu d then some (.error (1, i + 1)) else some (.ok (between d d, i + 2))
  else if isSign c || c.toNat = 93 then some (.error (1, i))
  else some (.ok (between c c, i + 1))
/-- The sign behind a piece (0: none), and where it ends. -/
def pSign (m : List UInt8) (null : Bool) (i : Nat) : Out (Nat × Nat) := match m[i]? with
  | some c => if isSign c then (if null && !decide (c.toNat = 63) then some (.error (4, i)) else some (.ok (c.toNat, i + 1))) else some (.ok (0, i))
  | none => some (.ok (0, i))
/-- Rows (true), or a row (false), from a byte on, with so many groups ahead: what they are, where they end, how many groups there are then. -/
def pM (m : List UInt8) : Nat → Bool → Nat → Nat → Out (Tr × Nat × Nat)
  | 0, _, _, _ => none
  | f + 1, true, i, g => bindO (pM m f false i g) fun x =>
      if isAt m x.2.1 124 then bindO (pM m f true (x.2.1 + 1) x.2.2) fun y => some (.ok (.row x.1 y.1, y.2)) else some (.ok (.row x.1 .nil, x.2))
  | f + 1, false, i, g => match m[i]? with
    | none => some (.ok (.nil, i, g))
    | some c =>
      if c.toNat = 124 || c.toNat = 41 then some (.ok (.nil, i, g))
      else if c.toNat = 40 then
        if g = 9 then some (.error (2, i))
        else bindO (pM m f true (i + 1) (g + 1)) fun x =>
          if isAt m x.2.1 41 then bindO (pSign m (nothing x.1) (x.2.1 + 1)) fun s => bindO (pM m f false s.2 x.2.2) fun y => some (.ok (.grp g x.1 s.1 y.1, y.2))
          else some (.error (1, x.2.1))
      else bindO (pSet m i c) fun x => bindO (pSign m false x.2) fun s => bindO (pM m f false s.2 g) fun y => some (.ok (.set x.1 s.1 y.1, y.2))
/-- A whole mask: its rows, and how many groups it has. -/
def pMask (m : List UInt8) (f : Nat) : Out (Tr × Nat) :=
  if 60 < m.length then some (.error (2, 0))
  else bindO (pM m f true 0 0) fun x => if x.2.1 < m.length then some (.error (1, x.2.1)) else some (.ok (x.1, x.2.2))
/-! ### where what is read ends -/
theorem pBr_ok {m i c} (h : pBr m i = some (.ok c)) : m[i]? = some c ∧ badIn c = false := by
  unfold pBr at h
  split at h
  · cases h
  · rename_i d e
    split at h
    · cases h
    · rename_i hb
      cases h
      exact ⟨e, by simpa using hb⟩
theorem get_lt {m : List UInt8} {i : Nat} {c} (h : m[i]? = some c) : i < m.length := (List.getElem?_eq_some_iff.1 h).1
theorem isAt_lt {m : List UInt8} {i c} (h : isAt m i c = true) : i < m.length := by
  unfold isAt at h
  split at h
  · rename_i e; exact get_lt e
  · cases h
theorem pSpan_ok {m i x} (h : pSpan m i = some (.ok x)) : i < x.2 ∧ x.2 ≤ m.length := by
  unfold pSpan at h
  rcases bindO_eq h with ⟨_, _, e⟩ | ⟨a, ha, h⟩
  · cases e
  have l1 := get_lt (pBr_ok ha).1
  split at h
  · rcases bindO_eq h with ⟨_, _, e⟩ | ⟨b, hb, h⟩
    · cases e
    have l2 := get_lt (pBr_ok hb).1
    split at h
    · cases h
    · cases h; exact ⟨by omega, by omega⟩
  · cases h; exact ⟨by omega, by omega⟩
theorem pSpan_some (m i) : ∃ y, pSpan m i = some y := by
  unfold pSpan pBr
  cases m[i]? with
  | none => exact ⟨_, rfl⟩
  | some c =>
    by_cases hb : badIn c = true
    · simp [hb, bindO]
    · simp only [hb, bindO, Bool.false_eq_true, if_false]
      split
      · cases m[i + 2]? with
        | none => exact ⟨_, rfl⟩
        | some d =>
          by_cases hd : badIn d = true
          · simp [hd, bindO]
          · simp only [hd, bindO, Bool.false_eq_true, if_false]
            split <;> exact ⟨_, rfl⟩
      · exact ⟨_, rfl⟩
theorem pSpans_some (m) : ∀ f s i, 0 < f → m.length < f + i → ∃ y, pSpans m f s i = some y := by
  intro f
  induction f with
  | zero =>
    intro s i h0 h
    omega
  | succ f ih =>
    intro s i h0 h
    rw [pSpans]
    split
    · exact ⟨_, rfl⟩
    · obtain ⟨y, hy⟩ := pSpan_some m i
      rw [hy]
      match y, hy with
      | .error e, _ => exact ⟨_, rfl⟩
      | .ok x, hy =>
        have := pSpan_ok hy
        exact ih _ _ (by omega) (by omega)
theorem pSpans_ok {m} : ∀ {f s i x}, pSpans m f s i = some (.ok x) → i < x.2 ∧ x.2 ≤ m.length := by
  intro f
  induction f with
  | zero => intro s i x h; cases h
  | succ f ih =>
    intro s i x h
    rw [pSpans] at h
    split at h
    · rename_i e
      have := isAt_lt e
      cases h; exact ⟨by omega, by omega⟩
    · rcases bindO_eq h with ⟨_, _, e⟩ | ⟨y, hy, h⟩
      · cases e
      have := pSpan_ok hy
      have := ih h
      omega
theorem pSet_ok {m i c x} (hc : m[i]? = some c) (h : pSet m i c = some (.ok x)) : i < x.2 ∧ x.2 ≤ m.length := by
  have li := get_lt hc
  unfold pSet at h
  split at h
  · unfold pBrackets at h
    rcases bindO_eq h with ⟨_, _, e⟩ | ⟨y, hy, h⟩
    · cases e
    rcases bindO_eq h with ⟨_, _, e⟩ | ⟨z, hz, h⟩
    · cases e
    have h1 := pSpan_ok hy
    have h2 := pSpans_ok hz
    cases h
    simp only
    have : i + 1 ≤ (if isAt m (i + 1) 94 = true then i + 1 + 1 else i + 1) := by split <;> omega
    omega
  · split at h
    · cases h; exact ⟨by simp, by simp; omega⟩
    · split at h
      · split at h
        · cases h
        · rename_i d e
          have := get_lt e
          split at h
          · cases h
          · cases h; exact ⟨by simp, by simp; omega⟩
      · split at h
        · cases h
        · cases h; exact ⟨by simp, by simp; omega⟩
theorem pSet_some (m i c) : ∃ y, pSet m i c = some y := by
  unfold pSet
  split
  · unfold pBrackets
    obtain ⟨y, hy⟩ := pSpan_some m (if isAt m (i + 1) 94 = true then i + 1 + 1 else i + 1)
    simp only [hy]
    match y, hy with
    | .error e, _ => exact ⟨_, rfl⟩
    | .ok x, hy =>
      obtain ⟨z, hz⟩ := pSpans_some m (m.length + 1) x.1 x.2 (by omega) (by omega)
      simp only [bindO, hz]
      match z with
      | .error e => exact ⟨_, rfl⟩
      | .ok u => exact ⟨_, rfl⟩
  · split
    · exact ⟨_, rfl⟩
    · split
      · split
        · exact ⟨_, rfl⟩
        · split <;> exact ⟨_, rfl⟩
      · split <;> exact ⟨_, rfl⟩
theorem pSign_ok {m n i x} (h : pSign m n i = some (.ok x)) (hi : i ≤ m.length) : i ≤ x.2 ∧ x.2 ≤ m.length := by
  unfold pSign at h
  split at h
  · rename_i c e
    have := get_lt e
    split at h
    · split at h
      · cases h
      · cases h; exact ⟨by simp, by simp; omega⟩
    · cases h; exact ⟨by simp, by simp; omega⟩
  · cases h; exact ⟨by simp, by simpa using hi⟩
theorem pSign_some (m n i) : ∃ y, pSign m n i = some y := by
  unfold pSign
  split
  · split
    · split <;> exact ⟨_, rfl⟩
    · exact ⟨_, rfl⟩
  · exact ⟨_, rfl⟩
theorem pM_ok {m} : ∀ {f rows i g x}, pM m f rows i g = some (.ok x) → i ≤ m.length → i ≤ x.2.1 ∧ x.2.1 ≤ m.length := by
  intro f
  induction f with
  | zero => intro rows i g x h; cases h
  | succ f ih =>
    intro rows i g x h hi
    cases rows with
    | true =>
      rw [pM] at h
      rcases bindO_eq h with ⟨_, _, e⟩ | ⟨y, hy, h⟩
      · cases e
      have h1 := ih hy hi
      split at h
      · rename_i e
        have := isAt_lt e
        rcases bindO_eq h with ⟨_, _, e⟩ | ⟨z, hz, h⟩
        · cases e
        have h2 := ih hz (by omega)
        cases h
        simp only
        omega
      · cases h; exact h1
    | false =>
      rw [pM] at h
      split at h
      · cases h; exact ⟨by simp, by simpa using hi⟩
      · rename_i c hc
        have li := get_lt hc
        split at h
        · cases h; exact ⟨by simp, by simpa using hi⟩
        · split at h
          · split at h
            · cases h
            · rcases bindO_eq h with ⟨_, _, e⟩ | ⟨y, hy, h⟩
              · cases e
              have h1 := ih hy (by omega)
              split at h
              · rename_i e
                have := isAt_lt e
                rcases bindO_eq h with ⟨_, _, e⟩ | ⟨z, hz, h⟩
                · cases e
                have h2 := pSign_ok hz (by omega)
                rcases bindO_eq h with ⟨_, _, e⟩ | ⟨u, hu, h⟩
                · cases e
                have h3 := ih hu (by omega)
                cases h
                simp only
                omega
              · cases h
          · rcases bindO_eq h with ⟨_, _, e⟩ | ⟨y, hy, h⟩
            · cases e
            have h1 := pSet_ok hc hy
            rcases bindO_eq h with ⟨_, _, e⟩ | ⟨z, hz, h⟩
            · cases e
            have h2 := pSign_ok hz (by omega)
            rcases bindO_eq h with ⟨_, _, e⟩ | ⟨u, hu, h⟩
            · cases e
            have h3 := ih hu (by omega)
            cases h
            simp only
            omega
/-- With so much fuel it is known what a mask is. -/
theorem pM_some {m : List UInt8} : ∀ f rows i g, i ≤ m.length → 2 * (m.length - i) + (if rows then 1 else 0) < f → ∃ y, pM m f rows i g = some y := by
  intro f
  induction f with
  | zero => intro rows i g hi h; omega
  | succ f ih =>
    intro rows i g hi h
    cases rows with
    | true =>
      rw [pM]
      obtain ⟨y, hy⟩ := ih false i g hi (by simp at h ⊢; omega)
      rw [hy]
      match y, hy with
      | .error e, _ => exact ⟨_, rfl⟩
      | .ok x, hy =>
        have h1 := pM_ok hy hi
        simp only [bindO]
        split
        · rename_i e
          have := isAt_lt e
          obtain ⟨z, hz⟩ := ih true (x.2.1 + 1) x.2.2 (by omega) (by simp at h ⊢; omega)
          rw [hz]
          match z with
          | .error e => exact ⟨_, rfl⟩
          | .ok u => exact ⟨_, rfl⟩
        · exact ⟨_, rfl⟩
    | false =>
      rw [pM]
      split
      · exact ⟨_, rfl⟩
      · rename_i c hc
        have li := get_lt hc
        split
        · exact ⟨_, rfl⟩
        · split
          · split
            · exact ⟨_, rfl⟩
            · obtain ⟨y, hy⟩ := ih true (i + 1) (g + 1) (by omega) (by simp at h ⊢; omega)
              rw [hy]
              match y, hy with
              | .error e, _ => exact ⟨_, rfl⟩
              | .ok x, hy =>
                have h1 := pM_ok hy (by omega)
                simp only [bindO]
                split
                · rename_i e
                  have := isAt_lt e
                  obtain ⟨z, hz⟩ := pSign_some m (nothing x.1) (x.2.1 + 1)
                  rw [hz]
                  match z, hz with
                  | .error e, _ => exact ⟨_, rfl⟩
                  | .ok s, hz =>
                    have h2 := pSign_ok hz (by omega)
                    obtain ⟨u, hu⟩ := ih false s.2 x.2.2 (by omega) (by simp at h ⊢; omega)
                    simp only [hu]
                    match u with
                    | .error e => exact ⟨_, rfl⟩
                    | .ok v => exact ⟨_, rfl⟩
                · exact ⟨_, rfl⟩
          · obtain ⟨y, hy⟩ := pSet_some m i c
            rw [hy]
            match y, hy with
            | .error e, _ => exact ⟨_, rfl⟩
            | .ok x, hy =>
              have h1 := pSet_ok hc hy
              obtain ⟨z, hz⟩ := pSign_some m false x.2
              simp only [bindO, hz]
              match z, hz with
              | .error e, _ => exact ⟨_, rfl⟩
              | .ok s, hz =>
                have h2 := pSign_ok hz (by omega)
                obtain ⟨u, hu⟩ := ih false s.2 g (by omega) (by simp at h ⊢; omega)
                simp only [hu]
                match u with
                | .error e => exact ⟨_, rfl⟩
                | .ok v => exact ⟨_, rfl⟩
/-- Rows (true) or a row (false)? -/
def wf : Bool → Tr → Prop
  | true, .row r .nil => wf false r
  | true, .row r rest => wf false r ∧ wf true rest
  | true, _ => False
  | false, .nil => True
  | false, .set _ _ rest => wf false rest
  | false, .grp _ rows _ rest => wf true rows ∧ wf false rest
  | false, .row _ _ => False
/-- All groups' numbers are from the one to below the other. -/
def within (lo hi : Nat) : Tr → Prop
  | .nil => True
  | .set _ _ rest => within lo hi rest
  | .grp n rows _ rest => lo ≤ n ∧ n < hi ∧ within lo hi rows ∧ within lo hi rest
  | .row r rest => within lo hi r ∧ within lo hi rest
theorem within.le {lo hi lo' hi' : Nat} (h1 : lo' ≤ lo) (h2 : hi ≤ hi') : ∀ {T}, within lo hi T → within lo' hi' T
  | .nil, _ => trivial
  | .set _ _ rest, h => within.le (T := rest) h1 h2 h
  | .grp n rows _ rest, h => ⟨by have := h.1; omega, by have := h.2.1; omega, within.le h1 h2 h.2.2.1, within.le h1 h2 h.2.2.2⟩
  | .row r rest, h => ⟨within.le h1 h2 h.1, within.le h1 h2 h.2⟩
theorem pSign_sg {m n i x} (h : pSign m n i = some (.ok x)) : (x.1 = 0 ∨ x.1 = 42 ∨ x.1 = 43 ∨ x.1 = 63) ∧ (n = true → x.1 = 0 ∨ x.1 = 63) := by
  unfold pSign at h
  split at h
  · rename_i c e
    split at h
    · rename_i hs
      simp only [isSign, Bool.or_eq_true, decide_eq_true_eq] at hs
      split at h
      · cases h
      · rename_i hn
        cases h
        simp only
        refine ⟨by omega, fun hn' => ?_⟩
        subst hn'
        simp at hn
        exact .inr hn
    · cases h; simp
  · cases h; simp
theorem good_signed {sg : Nat} {r : Re} (hr : good r) (hn : nullable r = true → sg = 0 ∨ sg = 63) : good (signed sg r) := by
  unfold signed
  split
  · rename_i h
    refine ⟨hr, ?_⟩
    cases e : nullable r with
    | false => rfl
    | true => have := hn e; omega
  · split
    · rename_i h
      refine ⟨hr, ?_⟩
      cases e : nullable r with
      | false => rfl
      | true => have := hn e; omega
    · split
      · exact ⟨hr, trivial⟩
      · exact hr
theorem wf_row {r rest : Tr} (h1 : wf false r) (h2 : wf true rest) : wf true (.row r rest) := by
  cases rest with
  | nil => exact h1
  | set s sg rest => exact ⟨h1, h2⟩
  | grp n rows sg rest => exact ⟨h1, h2⟩
  | row a b => exact ⟨h1, h2⟩
theorem re_row {r rest : Tr} (h : wf true rest) : re (.row r rest) = .alt (re r) (re rest) := by
  cases rest with
  | nil => exact h.elim
  | set s sg rest => rfl
  | grp n rows sg rest => rfl
  | row a b => rfl
/-- What is read is rows of pieces, each repeated part takes a byte, and the groups are counted. -/
theorem pM_is {m} : ∀ {f rows i g x}, pM m f rows i g = some (.ok x) → wf rows x.1 ∧ good (re x.1) ∧ g ≤ x.2.2 ∧ (g ≤ 9 → x.2.2 ≤ 9) ∧ within g x.2.2 x.1 := by
  intro f
  induction f with
  | zero => intro rows i g x h; cases h
  | succ f ih =>
    intro rows i g x h
    cases rows with
    | true =>
      rw [pM] at h
      rcases bindO_eq h with ⟨_, _, e⟩ | ⟨y, hy, h⟩
      · cases e
      have h1 := ih hy
      split at h
      · rcases bindO_eq h with ⟨_, _, e⟩ | ⟨z, hz, h⟩
        · cases e
        have h2 := ih hz
        cases h
        refine ⟨wf_row h1.1 h2.1, by rw [re_row h2.1]; exact ⟨h1.2.1, h2.2.1⟩, ?_, ?_, ?_, ?_⟩
        · simp only; omega
        · simp only; omega
        · exact h1.2.2.2.2.le (Nat.le_refl _) h2.2.2.1
        · exact h2.2.2.2.2.le h1.2.2.1 (Nat.le_refl _)
      · cases h
        exact ⟨h1.1, h1.2.1, h1.2.2.1, h1.2.2.2.1, h1.2.2.2.2, trivial⟩
    | false =>
      rw [pM] at h
      split at h
      · cases h; exact ⟨trivial, trivial, Nat.le_refl _, fun h => h, trivial⟩
      · rename_i c hc
        split at h
        · cases h; exact ⟨trivial, trivial, Nat.le_refl _, fun h => h, trivial⟩
        · split at h
          · split at h
            · cases h
            · rename_i hg
              rcases bindO_eq h with ⟨_, _, e⟩ | ⟨y, hy, h⟩
              · cases e
              have h1 := ih hy
              split at h
              · rcases bindO_eq h with ⟨_, _, e⟩ | ⟨z, hz, h⟩
                · cases e
                have hz := pSign_sg hz
                rcases bindO_eq h with ⟨_, _, e⟩ | ⟨u, hu, h⟩
                · cases e
                have h2 := ih hu
                cases h
                refine ⟨⟨h1.1, h2.1⟩, ⟨good_signed ⟨trivial, h1.2.1, trivial⟩ ?_, h2.2.1⟩, ?_, ?_, ⟨?_, ?_, ?_, ?_⟩⟩
                · intro hn
                  have hn : nullable (re y.1) = true := by simpa [grpRe, nullable] using hn
                  rw [nothing_re] at hn
                  exact hz.2 hn
                · simp only; omega
                · simp only; omega
                · exact Nat.le_refl _
                · simp only; omega
                · exact h1.2.2.2.2.le (by omega) h2.2.2.1
                · exact h2.2.2.2.2.le (by omega) (Nat.le_refl _)
              · cases h
          · rcases bindO_eq h with ⟨_, _, e⟩ | ⟨y, hy, h⟩
            · cases e
            rcases bindO_eq h with ⟨_, _, e⟩ | ⟨z, hz, h⟩
            · cases e
            rcases bindO_eq h with ⟨_, _, e⟩ | ⟨u, hu, h⟩
            · cases e
            have h2 := ih hu
            cases h
            exact ⟨h2.1, ⟨good_signed trivial (fun hn => by cases hn), h2.2.1⟩, h2.2.2.1, h2.2.2.2.1, h2.2.2.2.2⟩
/-! ### steps -/
inductive St where
  | fin
  | take (s : UInt8 → Bool)
  | mark (slot : Nat)
  | fork (ws : List Nat)
/-- What a step asks for at its place: it goes on at the one behind it, if nothing else is said. -/
def kindAt (n : Nat) : St → Kind
  | .fin => .fin
  | .take s => .take s (n + 1)
  | .mark sl => .mark sl (n + 1)
  | .fork ws => .fork ws
/-- What the nodes of laid out steps ask for. -/
def kinds (S : List St) (n : Nat) : Kind := match S[n]? with | some st => kindAt n st | none => .fin
def again (sg : Nat) : Nat := if sg = 42 ∨ sg = 43 then 1 else 0
def passed (sg : Nat) : Bool := sg = 42 || sg = 63
def sz : Tr → Nat
  | .nil => 0
  | .set _ sg rest => 2 + again sg + sz rest
  | .grp _ rows sg rest => 4 + again sg + sz rows + sz rest
  | .row r rest => sz r + 1 + sz rest
def starts : Tr → Nat → List Nat
  | .row r rest, b => b :: starts rest (b + sz r + 1)
  | _, _ => []
/-- A piece at a place: a fork, its body, and a fork behind it if it is repeated. -/
def pieceC (b sg : Nat) (body : List St) : List St :=
  .fork (if passed sg then [b + 1, b + 1 + body.length + again sg] else [b + 1]) :: (body ++ if again sg = 1 then [.fork [b + 1, b + 2 + body.length]] else [])
/-- The steps of a row, or of rows that go on at `e`, at a place. -/
def comp : Tr → Nat → Nat → List St
  | .nil, _, _ => []
  | .set s sg rest, b, e => pieceC b sg [.take s] ++ comp rest (b + 2 + again sg) e
  | .grp n rows sg rest, b, e =>
    pieceC b sg (.mark (2 * n) :: .fork (starts rows (b + 3)) :: (comp rows (b + 3) (b + 3 + sz rows) ++ [.mark (2 * n + 1)])) ++ comp rest (b + 4 + again sg + sz rows) e
  | .row r rest, b, e => comp r b 0 ++ .fork [e] :: comp rest (b + sz r + 1) e
theorem again_le (sg) : again sg ≤ 1 := by unfold again; split <;> omega
theorem pieceC_length (b sg body) : (pieceC b sg body).length = 1 + body.length + again sg := by
  unfold pieceC
  by_cases h : again sg = 1
  · simp [h]; omega
  · have := again_le sg
    have h0 : again sg = 0 := by omega
    simp [h0]; omega
theorem comp_length : ∀ T b e, (comp T b e).length = sz T := by
  intro T
  induction T with
  | nil => intro b e; rfl
  | set s sg rest ih => intro b e; simp [comp, sz, pieceC_length, ih]
  | grp n rows sg rest ih1 ih2 => intro b e; simp [comp, sz, pieceC_length, ih1, ih2]; omega
  | row r rest ih1 ih2 => intro b e; simp [comp, sz, ih1, ih2]; omega
/-- What is known of nodes: these steps stand from here on. -/
def Gat (b : Nat) (L : List St) (n : Nat) (k : Kind) : Prop := ∃ i st, L[i]? = some st ∧ n = b + i ∧ k = kindAt n st
theorem Gat.left {b L L' n k} (h : Gat b L n k) : Gat b (L ++ L') n k := by
  obtain ⟨i, st, h, rfl, rfl⟩ := h
  exact ⟨i, st, by rw [List.getElem?_append_left (List.getElem?_eq_some_iff.1 h).1]; exact h, rfl, rfl⟩
theorem Gat.right {b L L' n k c} (hc : c = b + L.length) (h : Gat c L' n k) : Gat b (L ++ L') n k := by
  obtain ⟨i, st, h, rfl, rfl⟩ := h
  exact ⟨L.length + i, st, by rw [List.getElem?_append_right (by omega)]; simpa using h, by omega, rfl⟩
theorem Gat.head {b st L n k} (hn : n = b) (hk : k = kindAt b st) : Gat b (st :: L) n k := ⟨0, st, rfl, by omega, by subst hn; exact hk⟩
theorem Gat.tail {b st L n k c} (hc : c = b + 1) (h : Gat c L n k) : Gat b (st :: L) n k := Gat.right (L := [st]) (by simp [hc]) h
theorem Gat.at {b L n k S} (h : Gat b L n k) (hS : ∀ i st, L[i]? = some st → S[b + i]? = some st) : kinds S n = k := by
  obtain ⟨i, st, h, rfl, rfl⟩ := h
  simp [kinds, hS i st h]
theorem code_piece {b sg : Nat} {body : List St} {r : Re} (h : Code (Gat (b + 1) body) [b + 1] (b + 1 + body.length) r) :
    Code (Gat b (pieceC b sg body)) [b] (b + 1 + body.length + again sg) (signed sg r) := by
  have hb : Code (Gat b (pieceC b sg body)) [b + 1] (b + 1 + body.length) r := h.mono (fun n k g => (Gat.left g).tail rfl)
  unfold signed
  split
  · rename_i e
    have e1 : again sg = 1 := by simp [again, e]
    refine .star (c := b + 1) (e := b + 1 + body.length) (.head rfl ?_) hb ?_
    · simp [kindAt, passed, e]
    · refine Gat.tail rfl (Gat.right (c := b + 1 + body.length) (by omega) ?_)
      rw [if_pos e1]
      exact .head rfl (by simp [kindAt, e1]; omega)
  · split
    · rename_i e0 e
      have e1 : again sg = 1 := by simp [again, e]
      refine .jump (ws := [b + 1]) (.head rfl ?_) (.plus (e := b + 1 + body.length) hb ?_)
      · simp [kindAt, passed, e]
      · refine Gat.tail rfl (Gat.right (c := b + 1 + body.length) (by omega) ?_)
        rw [if_pos e1]
        exact .head rfl (by simp [kindAt, e1]; omega)
    · rename_i e0 e2
      have e1 : again sg = 0 := by simp [again, e0, e2]
      rw [e1]
      split
      · rename_i e
        exact .jump (ws := [b + 1, b + 1 + body.length]) (.head rfl (by simp [kindAt, passed, e, again])) (.alt hb .here)
      · rename_i e3
        exact .jump (ws := [b + 1]) (.head rfl (by simp [kindAt, passed, e0, e3])) hb
theorem comp_code : ∀ T, (wf false T → ∀ b e, Code (Gat b (comp T b e)) [b] (b + sz T) (re T)) ∧ (wf true T → ∀ b e, Code (Gat b (comp T b e)) (starts T b) e (re T)) := by
  intro T
  induction T with
  | nil => exact ⟨fun _ b e => .here, fun h => h.elim⟩
  | set s sg rest ih =>
    refine ⟨fun h b e => ?_, fun h => by cases h⟩
    refine .seq (k := b + 2 + again sg) ?_ ?_
    · have := code_piece (b := b) (sg := sg) (body := [.take s]) (r := .set s) (.set (.head rfl rfl))
      have := this.mono (fun n k g => Gat.left (L' := comp rest (b + 2 + again sg) e) g)
      simpa [comp, Nat.add_assoc] using this
    · have := (ih.1 h (b + 2 + again sg) e).mono (fun n k g => Gat.right (b := b) (L := pieceC b sg [.take s]) (by simp [pieceC_length]; omega) g)
      have e2 : b + 2 + again sg + sz rest = b + sz (.set s sg rest) := by simp [sz]; omega
      rw [e2] at this
      exact this
  | grp n rows sg rest ih1 ih2 =>
    refine ⟨fun h b e => ?_, fun h => by cases h⟩
    refine .seq (k := b + 4 + again sg + sz rows) ?_ ?_
    · have hb : Code (Gat (b + 1) (.mark (2 * n) :: .fork (starts rows (b + 3)) :: (comp rows (b + 3) (b + 3 + sz rows) ++ [.mark (2 * n + 1)]))) [b + 1]
          (b + 1 + (.mark (2 * n) :: .fork (starts rows (b + 3)) :: (comp rows (b + 3) (b + 3 + sz rows) ++ [.mark (2 * n + 1)]) : List St).length) (grpRe n (re rows)) := by
        refine .seq (k := b + 2) (.mk (.head rfl rfl)) (.seq (k := b + 3 + sz rows) (.jump (.tail rfl (.head rfl rfl)) ?_) (.mk ?_))
        · exact (ih1.2 h.1 (b + 3) (b + 3 + sz rows)).mono (fun n k g => Gat.tail (c := b + 2) (by omega) (Gat.tail (c := b + 3) (by omega) (Gat.left g)))
        · refine Gat.tail (c := b + 2) (by omega) (Gat.tail (c := b + 3) (by omega) (Gat.right (c := b + 3 + sz rows) (by rw [comp_length]) (.head rfl ?_)))
          simp [kindAt, comp_length]; omega
      have := code_piece (b := b) (sg := sg) hb
      have := this.mono (fun n k g => Gat.left (L' := comp rest (b + 4 + again sg + sz rows) e) g)
      have e2 : b + 1 + (.mark (2 * n) :: .fork (starts rows (b + 3)) :: (comp rows (b + 3) (b + 3 + sz rows) ++ [.mark (2 * n + 1)]) : List St).length + again sg = b + 4 + again sg + sz rows := by simp [comp_length]; omega
      rw [e2] at this
      exact this
    · have := (ih2.1 h.2 (b + 4 + again sg + sz rows) e).mono (fun n' k g => Gat.right (b := b) (L := pieceC b sg (.mark (2 * n) :: .fork (starts rows (b + 3)) :: (comp rows (b + 3) (b + 3 + sz rows) ++ [.mark (2 * n + 1)]))) (by simp [pieceC_length, comp_length]; omega) g)
      have e2 : b + 4 + again sg + sz rows + sz rest = b + sz (.grp n rows sg rest) := by simp [sz]; omega
      rw [e2] at this
      exact this
  | row r rest ih1 ih2 =>
    refine ⟨fun h => h.elim, fun h b e => ?_⟩
    have hr : wf false r := by
      cases rest with
      | nil => exact h
      | set s sg rest => exact h.1
      | grp n rows sg rest => exact h.1
      | row a b => exact h.1
    have hfirst : Code (Gat b (comp (.row r rest) b e)) [b] e (re r) :=
      .land ((ih1.1 hr b 0).mono (fun n k g => Gat.left g)) (Gat.right (c := b + sz r) (by rw [comp_length]) (.head rfl rfl))
    by_cases hn : wf true rest
    · rw [re_row hn]
      exact .alt hfirst ((ih2.2 hn (b + sz r + 1) e).mono (fun n k g => Gat.right (c := b + sz r) (by rw [comp_length]) (Gat.tail rfl g)))
    · have : rest = .nil := by
        cases rest with
        | nil => rfl
        | set s sg rest => exact (hn h.2).elim
        | grp n rows sg rest => exact (hn h.2).elim
        | row a b => exact (hn h.2).elim
      subst this
      exact hfirst
/-- A whole mask's steps. -/
def layC (T : Tr) : List St := .fork (starts T 1) :: (comp T 1 (1 + sz T) ++ [.fin])
theorem layC_length (T) : (layC T).length = 2 + sz T := by simp [layC, comp_length]; omega
/-- WHAT IS LAID OUT FOR A MASK ANSWERS AS THE MASK DOES. -/
theorem layC_answers {T : Tr} (h : wf true T) {t : List UInt8} {f x} (hr : run t f [re T] 0 = some x) : ∃ f', den (kinds (layC T)) t f' 0 0 = some x := by
  have c : Code (Gat 0 (layC T)) [0] (1 + sz T) (re T) :=
    .jump (.head rfl rfl) (((comp_code T).2 h 1 (1 + sz T)).mono (fun n k g => Gat.tail rfl (Gat.left g)))
  refine c.answers (fun n k g => g.at (fun i st h => by simpa using h)) ?_ hr
  have : (layC T)[1 + sz T]? = some .fin := by
    rw [layC, Nat.add_comm, List.getElem?_cons_succ, List.getElem?_append_right (by rw [comp_length]; omega)]
    simp [comp_length]
  simp [kinds, this, kindAt]
/-! ### no step leads out of them -/
/-- Marks are below so many, ways are not beyond a step. -/
def stOk (g last : Nat) : St → Prop
  | .mark sl => sl < 2 * g
  | .fork ws => ∀ w ∈ ws, w ≤ last
  | _ => True
theorem starts_le {T b} : ∀ w ∈ starts T b, w < b + sz T := by
  induction T generalizing b with
  | nil => simp [starts]
  | set => simp [starts]
  | grp => simp [starts]
  | row r rest ih1 ih2 =>
    intro w hw
    simp only [starts, List.mem_cons] at hw
    rcases hw with rfl | hw
    · simp [sz]; omega
    · have := ih2 w hw
      simp [sz]; omega
theorem piece_ok {g last b sg body} (h : ∀ st ∈ body, stOk g last st) (hl : b + 1 + body.length + again sg ≤ last) : ∀ st ∈ pieceC b sg body, stOk g last st := by
  intro st hst
  unfold pieceC at hst
  simp only [List.mem_cons, List.mem_append] at hst
  rcases hst with rfl | hst | hst
  · intro w hw
    split at hw
    · simp only [List.mem_cons, List.mem_nil_iff, or_false] at hw; omega
    · simp only [List.mem_cons, List.mem_nil_iff, or_false] at hw; omega
  · exact h st hst
  · split at hst
    · rename_i e
      simp only [List.mem_cons, List.mem_nil_iff, or_false] at hst
      subst hst
      intro w hw
      simp only [List.mem_cons, List.mem_nil_iff, or_false] at hw; omega
    · simp at hst
theorem comp_ok {g last : Nat} : ∀ T b e, within 0 g T → b + sz T ≤ last → e ≤ last → ∀ st ∈ comp T b e, stOk g last st := by
  intro T
  induction T with
  | nil => intro b e _ _ _ st h; simp [comp] at h
  | set s sg rest ih =>
    intro b e hw hl he st h
    simp only [comp, List.mem_append] at h
    simp only [sz] at hl
    rcases h with h | h
    · exact piece_ok (fun st h => by simp at h; subst h; trivial) (by simp; omega) st h
    · exact ih _ _ hw (by omega) he st h
  | grp n rows sg rest ih1 ih2 =>
    intro b e hw hl he st h
    simp only [comp, List.mem_append] at h
    simp only [sz] at hl
    rcases h with h | h
    · refine piece_ok (fun st h => ?_) (by simp [comp_length]; omega) st h
      simp only [List.mem_cons, List.mem_append, List.mem_nil_iff, or_false] at h
      have := hw.2.1
      rcases h with rfl | rfl | h | rfl
      · simp [stOk]; omega
      · intro w hw'
        have := starts_le w hw'
        omega
      · exact ih1 _ _ hw.2.2.1 (by omega) (by omega) st h
      · simp [stOk]; omega
    · exact ih2 _ _ hw.2.2.2 (by omega) he st h
  | row r rest ih1 ih2 =>
    intro b e hw hl he st h
    simp only [comp, List.mem_append, List.mem_cons] at h
    simp only [sz] at hl
    rcases h with h | rfl | h
    · exact ih1 _ _ hw.1 (by omega) (by omega) st h
    · intro w hw'
      simp only [List.mem_cons, List.mem_nil_iff, or_false] at hw'; omega
    · exact ih2 _ _ hw.2 (by omega) he st h
/-- All places lie from the one to the other, and rise. -/
def rising : Nat → Nat → Evs → Prop
  | lo, hi, [] => lo ≤ hi
  | lo, hi, (_, p) :: l => lo ≤ p ∧ rising p hi l
theorem rising.ge {hi : Nat} : ∀ {l lo}, rising lo hi l → lo ≤ hi
  | [], _, h => h
  | (_, p) :: l, _, h => Nat.le_trans h.1 (rising.ge h.2)
theorem rising.less {hi : Nat} : ∀ {l lo lo'}, rising lo hi l → lo' ≤ lo → rising lo' hi l
  | [], _, _, h, k => Nat.le_trans k h
  | (_, p) :: l, _, _, h, k => ⟨Nat.le_trans k h.1, h.2⟩
theorem rising.append {lo mid hi : Nat} : ∀ {l l'}, rising lo mid l → rising mid hi l' → rising lo hi (l ++ l')
  | [], l', h, k => k.less h
  | (_, p) :: l, l', h, k => ⟨h.1, rising.append (lo := p) h.2 k⟩
theorem rising.mem {hi : Nat} : ∀ {l lo}, rising lo hi l → ∀ e ∈ l, lo ≤ e.2 ∧ e.2 ≤ hi
  | [], _, _, e, he => by cases he
  | (s, p) :: l, _, h, e, he => by
    rcases List.mem_cons.1 he with rfl | he
    · exact ⟨h.1, h.2.ge⟩
    · have := rising.mem h.2 e he
      exact ⟨Nat.le_trans h.1 this.1, this.2⟩
theorem rising.part {hi : Nat} : ∀ {a b lo}, rising lo hi (a ++ b) → rising lo hi b
  | [], b, _, h => h
  | (s, p) :: a, b, _, h => rising.less (rising.part (a := a) h.2) h.1
/-- Where a group begins, it ends behind that. -/
def closed (l : Evs) : Prop := ∀ a b n p, l = a ++ (2 * n, p) :: b → ∃ q, (2 * n + 1, q) ∈ b
theorem closed_nil : closed [] := fun a b n p h => by simp at h
theorem closed.append {l l' : Evs} (h : closed l) (k : closed l') : closed (l ++ l') := by
  intro a b n p e
  rcases List.append_eq_append_iff.1 e with ⟨c, rfl, e2⟩ | ⟨c, rfl, e2⟩
  · exact k c b n p e2
  · cases c with
    | nil =>
      simp at e2
      exact k [] b n p (by simpa using e2.symm)
    | cons x c =>
      simp at e2
      obtain ⟨rfl, rfl⟩ := e2
      obtain ⟨q, hq⟩ := h a c n p rfl
      exact ⟨q, by simp [hq]⟩
theorem closed_group {n p q : Nat} {l : Evs} (h : closed l) : closed ((2 * n, p) :: (l ++ [(2 * n + 1, q)])) := by
  intro a b m p' e
  cases a with
  | nil =>
    simp at e
    obtain ⟨⟨hn, _⟩, rfl⟩ := e
    obtain rfl : n = m := by omega
    exact ⟨q, by simp⟩
  | cons x a =>
    simp at e
    obtain ⟨rfl, e⟩ := e
    rcases List.append_eq_append_iff.1 e with ⟨c, rfl, e2⟩ | ⟨c, rfl, e2⟩
    · cases c with
      | nil => simp at e2; omega
      | cons y c => simp at e2
    · cases c with
      | nil => simp at e2; omega
      | cons y c =>
        simp at e2
        obtain ⟨rfl, rfl⟩ := e2
        obtain ⟨q', hq⟩ := h a c m p' rfl
        exact ⟨q', by simp [hq]⟩
/-- A part's way: it rises, its groups end, and what is behind goes on where it ends. -/
def Goes (t : List UInt8) (r : Re) : Prop := ∀ f ks p l, run t f (r :: ks) p = some (some l) → p ≤ t.length → ∃ f' l1 l2 q, f' < f ∧ l = l1 ++ l2 ∧ rising p q l1 ∧ q ≤ t.length ∧ closed l1 ∧ run t f' ks q = some (some l2)
theorem goes_eps (t : List UInt8) : Goes t .eps := by
  intro f ks p l h hp
  obtain _ | f := f
  · cases h
  exact ⟨f, [], l, p, by omega, rfl, Nat.le_refl _, hp, closed_nil, h⟩
theorem goes_set (t : List UInt8) (s) : Goes t (.set s) := by
  intro f ks p l h hp
  obtain _ | f := f
  · cases h
  rw [run] at h
  split at h
  · rename_i c
    exact ⟨f, [], l, p + 1, by omega, rfl, Nat.le_succ _, hits_lt c, closed_nil, h⟩
  · cases h
theorem first_got {a b : Ans} {e : Evs} (h : first a b = some (some e)) : a = some (some e) ∨ b = some (some e) := by
  rcases first_eq h with ⟨e', h1, h2⟩ | ⟨h1, h2⟩
  · cases h2; exact .inl h1
  · exact .inr h2
theorem goes_alt {t : List UInt8} {a b : Re} (ha : Goes t a) (hb : Goes t b) : Goes t (.alt a b) := by
  intro f ks p l h hp
  obtain _ | f := f
  · cases h
  rw [run] at h
  rcases first_got h with h | h
  · obtain ⟨f', l1, l2, q, h0, h1⟩ := ha f ks p l h hp
    exact ⟨f', l1, l2, q, by omega, h1⟩
  · obtain ⟨f', l1, l2, q, h0, h1⟩ := hb f ks p l h hp
    exact ⟨f', l1, l2, q, by omega, h1⟩
theorem goes_seq {t : List UInt8} {a b : Re} (ha : Goes t a) (hb : Goes t b) : Goes t (.seq a b) := by
  intro f ks p l h hp
  obtain _ | f := f
  · cases h
  rw [run] at h
  obtain ⟨f1, l1, l2, q, h0, rfl, h1, h2, h3, h4⟩ := ha f _ p l h hp
  obtain ⟨f2, l3, l4, q', k0, rfl, k1, k2, k3, k4⟩ := hb f1 _ q l2 h4 h2
  exact ⟨f2, l1 ++ l3, l4, q', by omega, by simp, h1.append k1, k2, h3.append k3, k4⟩
theorem goes_star {t : List UInt8} {r : Re} (hr : Goes t r) : ∀ f ks p l, run t f (.star r :: ks) p = some (some l) → p ≤ t.length → ∃ f' l1 l2 q, f' < f ∧ l = l1 ++ l2 ∧ rising p q l1 ∧ q ≤ t.length ∧ closed l1 ∧ run t f' ks q = some (some l2) := by
  intro f
  induction f using Nat.strongRecOn with
  | _ f ih =>
    intro ks p l h hp
    obtain _ | f := f
    · cases h
    rw [run] at h
    rcases first_got h with h | h
    · obtain ⟨f1, l1, l2, q, h0, rfl, h1, h2, h3, h4⟩ := hr f _ p l h hp
      obtain ⟨f2, l3, l4, q', k0, rfl, k1, k2, k3, k4⟩ := ih f1 (by omega) ks q l2 h4 h2
      exact ⟨f2, l1 ++ l3, l4, q', by omega, by simp, h1.append k1, k2, h3.append k3, k4⟩
    · exact ⟨f, [], l, p, by omega, rfl, Nat.le_refl _, hp, closed_nil, h⟩
theorem goes_plus {t : List UInt8} {r : Re} (hr : Goes t r) : Goes t (.plus r) := by
  intro f ks p l h hp
  obtain _ | f := f
  · cases h
  rw [run] at h
  obtain ⟨f1, l1, l2, q, h0, rfl, h1, h2, h3, h4⟩ := hr f _ p l h hp
  obtain ⟨f2, l3, l4, q', k0, rfl, k1, k2, k3, k4⟩ := goes_star hr f1 ks q l2 h4 h2
  exact ⟨f2, l1 ++ l3, l4, q', by omega, by simp, h1.append k1, k2, h3.append k3, k4⟩
theorem goes_signed {t : List UInt8} {sg : Nat} {r : Re} (h : Goes t r) : Goes t (signed sg r) := by
  unfold signed
  split
  · exact goes_star h
  · split
    · exact goes_plus h
    · split
      · exact goes_alt h (goes_eps t)
      · exact h
theorem goes_group {t : List UInt8} {n : Nat} {r : Re} (h : Goes t r) : Goes t (grpRe n r) := by
  intro f ks p l e hp
  obtain _ | f := f
  · cases e
  rw [grpRe, run] at e
  obtain _ | f := f
  · cases e
  rw [run] at e
  obtain ⟨y, hy, e⟩ := map_some e
  cases y with
  | none => cases e
  | some y =>
    simp [marked] at e
    subst e
    obtain _ | f := f
    · cases hy
    rw [run] at hy
    obtain ⟨f1, l1, l2, q, h0, rfl, h1, h2, h3, h4⟩ := h f _ p y hy hp
    obtain _ | f1 := f1
    · cases h4
    rw [run] at h4
    obtain ⟨z, hz, e⟩ := map_some h4
    cases z with
    | none => cases e
    | some z =>
      simp [marked] at e
      subst e
      refine ⟨f1, (2 * n, p) :: (l1 ++ [(2 * n + 1, q)]), z, q, by omega, by simp, ⟨Nat.le_refl _, h1.append ⟨Nat.le_refl _, Nat.le_refl _⟩⟩, h2, closed_group h3, hz⟩
theorem goes_re (t : List UInt8) : ∀ T, Goes t (re T)
  | .nil => goes_eps t
  | .set s sg rest => goes_seq (goes_signed (goes_set t s)) (goes_re t rest)
  | .grp n rows sg rest => goes_seq (goes_signed (goes_group (goes_re t rows))) (goes_re t rest)
  | .row r rest => by
    cases h : rest with
    | nil => exact goes_re t r
    | set s sg rest' => exact goes_alt (goes_re t r) (h ▸ goes_re t rest)
    | grp n rows sg rest' => exact goes_alt (goes_re t r) (h ▸ goes_re t rest)
    | row a b => exact goes_alt (goes_re t r) (h ▸ goes_re t rest)
/-- A whole mask's way. -/
theorem way_is {t : List UInt8} {T : Tr} {f l} (h : run t f [re T] 0 = some (some l)) : rising 0 t.length l ∧ closed l := by
  obtain ⟨f', l1, l2, q, h0, rfl, h1, h2, h3, h4⟩ := goes_re t T f [] 0 l h (Nat.zero_le _)
  obtain _ | f' := f'
  · cases h4
  rw [run] at h4
  split at h4
  · cases h4
    simp
    exact ⟨by simpa using h1.append (l' := []) h2, h3⟩
  · cases h4
/-- The last place of each slot. -/
theorem lastOf_append (sl : Nat) : ∀ (a b : Evs) (d : Int), lastOf d sl (a ++ b) = lastOf (lastOf d sl a) sl b
  | [], b, d => rfl
  | (s, p) :: a, b, d => lastOf_append sl a b _
theorem lastOf_not {sl : Nat} : ∀ {l : Evs} {d : Int}, (∀ p, (sl, p) ∉ l) → lastOf d sl l = d
  | [], d, _ => rfl
  | (s, p) :: l, d, h => by
    rw [lastOf, if_neg (fun e => h p (by simp [e])), lastOf_not fun q hq => h q (by simp [hq])]
/-- Either there is none, or the last one stands there and none behind it. -/
theorem lastOf_cases (sl : Nat) (d : Int) : ∀ l : Evs, ((∀ p : Nat, (sl, p) ∉ l) ∧ lastOf d sl l = d) ∨ ∃ (a b : Evs) (p : Nat), l = a ++ (sl, p) :: b ∧ (∀ q, (sl, q) ∉ b) ∧ lastOf d sl l = (p : Int)
  | [] => .inl ⟨fun p h => (by cases h), rfl⟩
  | (s, p) :: l => by
    by_cases e : s = sl
    · subst e
      rcases lastOf_cases s (p : Int) l with ⟨h1, h2⟩ | ⟨a, b, q, rfl, h1, h2⟩
      · exact .inr ⟨[], l, p, rfl, h1, by rw [lastOf, if_pos rfl, h2]⟩
      · exact .inr ⟨(s, p) :: a, b, q, rfl, h1, by rw [lastOf, if_pos rfl, h2]⟩
    · rcases lastOf_cases sl d l with ⟨h1, h2⟩ | ⟨a, b, q, rfl, h1, h2⟩
      · refine .inl ⟨fun q hq => ?_, by rw [lastOf, if_neg e, h2]⟩
        rcases List.mem_cons.1 hq with hq | hq
        · cases hq; exact e rfl
        · exact h1 q hq
      · exact .inr ⟨(s, p) :: a, b, q, rfl, h1, by rw [lastOf, if_neg e, h2]⟩
/-- A group's places: nowhere, or from the one to the other. -/
theorem group_places {len : Nat} {l : Evs} (h : rising 0 len l) (hc : closed l) (n : Nat) :
    lastOf (-1) (2 * n) l = -1 ∨ ∃ a b : Nat, lastOf (-1) (2 * n) l = a ∧ lastOf (-1) (2 * n + 1) l = b ∧ a ≤ b ∧ b ≤ len := by
  rcases lastOf_cases (2 * n) (-1) l with ⟨h1, h2⟩ | ⟨a, b, p, rfl, h1, h2⟩
  · exact .inl h2
  · right
    obtain ⟨q, hq⟩ := hc a b n p rfl
    have hr := rising.part h
    rw [show a ++ (2 * n, p) :: b = (a ++ [(2 * n, p)]) ++ b by simp, lastOf_append (2 * n + 1)]
    rcases lastOf_cases (2 * n + 1) (lastOf (-1) (2 * n + 1) (a ++ [(2 * n, p)])) b with ⟨k1, k2⟩ | ⟨c, d, u, rfl, k1, k2⟩
    · exact absurd hq (k1 q)
    · have := rising.mem hr.2 (2 * n + 1, u) (by simp)
      exact ⟨p, u, by simpa using h2, k2, this.1, this.2⟩
end Go.Proofs.YtndpjdmfkhjiiaaGreatDoor
namespace Go.Proofs.YtndpjdmfkhjiiaaGreatDoor.Lb
/-- A label: name and value. -/
abbrev Lab := List UInt8 × List UInt8
/-! ### the order of texts -/
theorem bl_irrefl : ∀ x : List UInt8, Op.bytesLess x x = false
  | [] => rfl
  | a :: x => by simp [Op.bytesLess, bl_irrefl x]
theorem bl_trans : ∀ {x y z : List UInt8}, Op.bytesLess x y = true → Op.bytesLess y z = true → Op.bytesLess x z = true
  | _, [], _, h, _ => by cases ‹List UInt8› <;> simp [Op.bytesLess] at h
  | _, _ :: _, [], _, h => by simp [Op.bytesLess] at h
  | [], _ :: _, _ :: _, _, _ => rfl
  | a :: x, b :: y, c :: z, h, k => by
    simp only [Op.bytesLess, Bool.or_eq_true, Bool.and_eq_true, decide_eq_true_eq, beq_iff_eq] at h k ⊢
    rcases h with h | ⟨rfl, h⟩
    · rcases k with k | ⟨rfl, k⟩
      · exact .inl (UInt8.lt_trans h k)
      · exact .inl h
    · rcases k with k | ⟨rfl, k⟩
      · exact .inl k
      · exact .inr ⟨rfl, bl_trans h k⟩
theorem bl_tri : ∀ {x y : List UInt8}, Op.bytesLess x y = false → Op.bytesLess y x = false → x = y
  | [], [], _, _ => rfl
  | [], _ :: _, h, _ => by simp [Op.bytesLess] at h
  | _ :: _, [], _, h => by simp [Op.bytesLess] at h
  | a :: x, b :: y, h, k => by
    simp only [Op.bytesLess, Bool.or_eq_false_iff, Bool.and_eq_false_iff, decide_eq_false_iff_not, beq_eq_false_iff_ne] at h k
    have e : a = b := UInt8.toNat_inj.1 (by have h1 := h.1; have k1 := k.1; rw [UInt8.lt_iff_toNat_lt] at h1 k1; omega)
    subst e
    rw [bl_tri (h.2.resolve_left (by simp)) (k.2.resolve_left (by simp))]
theorem bl_asymm {x y : List UInt8} (h : Op.bytesLess x y = true) : Op.bytesLess y x = false := by
  cases e : Op.bytesLess y x with
  | false => rfl
  | true => have := bl_trans h e; rw [bl_irrefl] at this; cases this
theorem bl_ne {x y : List UInt8} (h : Op.bytesLess x y = true) : x ≠ y := by
  rintro rfl; rw [bl_irrefl] at h; cases h
/-! ### names -/
def letB (c : UInt8) : Bool := (decide (97 ≤ c.toNat) && decide (c.toNat ≤ 122)) || (decide (65 ≤ c.toNat) && decide (c.toNat ≤ 90)) || decide (c.toNat = 95)
def digB (c : UInt8) : Bool := decide (48 ≤ c.toNat) && decide (c.toNat ≤ 57)
def nameB (s : List UInt8) : Bool := decide (1 ≤ s.length) && decide (s.length ≤ 40) && s.all (fun c => letB c || digB c) && !digB (s.getD 0 0)
theorem nameB_iff (s : List UInt8) : nameB s = true ↔ (1 ≤ s.length ∧ s.length ≤ 40 ∧ (∀ i (h : i < s.length), letB s[i] = true ∨ digB s[i] = true) ∧ digB (s.getD 0 0) = false) := by
  simp only [nameB, Bool.and_eq_true, decide_eq_true_eq, List.all_eq_true, Bool.or_eq_true, Bool.not_eq_true']
  constructor
  · rintro ⟨⟨⟨h1, h2⟩, h3⟩, h4⟩
    exact ⟨h1, h2, fun i h => h3 _ (List.getElem_mem h), h4⟩
  · rintro ⟨h1, h2, h3, h4⟩
    refine ⟨⟨⟨h1, h2⟩, fun x hx => ?_⟩, h4⟩
    obtain ⟨i, hi, rfl⟩ := List.getElem_of_mem hx
    exact h3 i hi
theorem nameB_no {s : List UInt8} (h : ¬ (1 ≤ s.length ∧ s.length ≤ 40 ∧ (∀ i (h : i < s.length), letB s[i] = true ∨ digB s[i] = true) ∧ digB (s.getD 0 0) = false)) : nameB s = false := by
  cases e : nameB s with
  | false => rfl
  | true => exact absurd ((nameB_iff s).1 e) h
theorem nameB_len {s : List UInt8} (h : nameB s = true) : 1 ≤ s.length ∧ s.length ≤ 40 := ⟨((nameB_iff s).1 h).1, ((nameB_iff s).1 h).2.1⟩
/-! ### checks -/
/-- What is wrong with a label by itself, if a value has so many bytes at least. -/
def labErr (least : Nat) (x : Lab) : Nat := if nameB x.1 = true ∧ least ≤ x.2.length then (if x.2.length ≤ 100 then 0 else 2) else 1
def eachB (least : Nat) : List Lab → Nat
  | [] => 0
  | x :: l => if labErr least x = 0 then eachB least l else labErr least x
def eachErr (least : Nat) (l : List Lab) : Nat := if l.length ≤ 20 then eachB least l else 2
def twiceB (l : List Lab) : Bool := !decide ((l.map (·.1)).Nodup)
def riseB : List Lab → Bool
  | x :: y :: l => Op.bytesLess x.1 y.1 && riseB (y :: l)
  | _ => true
def checkB (l : List Lab) : Nat := if eachErr 1 l = 0 then (if twiceB l = false then (if riseB l = true then 0 else 4) else 6) else eachErr 1 l
def makeErr (l : List Lab) : Nat := if eachErr 0 l = 0 then (if twiceB l = false then 0 else 6) else eachErr 0 l
theorem eachB_zero {least : Nat} {l : List Lab} : eachB least l = 0 ↔ ∀ x ∈ l, labErr least x = 0 := by
  induction l with
  | nil => simp [eachB]
  | cons x l ih =>
    unfold eachB
    by_cases h : labErr least x = 0
    · rw [if_pos h, ih]; simp [h]
    · rw [if_neg h]; simp [h]
/-- The first fault. -/
theorem eachB_at {least : Nat} {l : List Lab} {k : Nat} (hk : k < l.length) (h : ∀ j (hj : j < l.length), j < k → labErr least l[j] = 0) (hf : labErr least l[k] ≠ 0) : eachB least l = labErr least l[k] := by
  induction l generalizing k with
  | nil => simp at hk
  | cons x l ih =>
    unfold eachB
    cases k with
    | zero => rw [if_neg (show ¬ labErr least x = 0 from hf)]; rfl
    | succ k =>
      rw [if_pos (show labErr least x = 0 from h 0 (by simp) (by omega))]
      exact ih (k := k) (Nat.lt_of_succ_lt_succ hk) (fun j hj hjk => h (j + 1) (Nat.succ_lt_succ hj) (by omega)) hf
theorem eachB_all {least : Nat} {l : List Lab} (h : ∀ j (hj : j < l.length), labErr least l[j] = 0) : eachB least l = 0 :=
  eachB_zero.2 fun x hx => by obtain ⟨i, hi, rfl⟩ := List.getElem_of_mem hx; exact h i hi
theorem labErr_zero {least : Nat} {x : Lab} : labErr least x = 0 ↔ (nameB x.1 = true ∧ least ≤ x.2.length ∧ x.2.length ≤ 100) := by
  unfold labErr
  by_cases h : nameB x.1 = true ∧ least ≤ x.2.length
  · rw [if_pos h]
    by_cases h2 : x.2.length ≤ 100
    · rw [if_pos h2]; simp [h, h2]
    · rw [if_neg h2]; simp [h2]
  · rw [if_neg h]
    constructor
    · intro h; omega
    · rintro ⟨h1, h2, h3⟩; exact absurd ⟨h1, h2⟩ h
theorem eachErr_zero {least : Nat} {l : List Lab} : eachErr least l = 0 ↔ (l.length ≤ 20 ∧ ∀ x ∈ l, nameB x.1 = true ∧ least ≤ x.2.length ∧ x.2.length ≤ 100) := by
  unfold eachErr
  by_cases h : l.length ≤ 20
  · rw [if_pos h, eachB_zero]; simp [labErr_zero, h]
  · rw [if_neg h]; simp [h]
theorem eachErr_names {least : Nat} {l : List Lab} (h : eachErr least l = 0) : l.length ≤ 20 ∧ ∀ x ∈ l, x.1.length ≤ 40 ∧ x.2.length ≤ 100 := by
  obtain ⟨h1, h2⟩ := eachErr_zero.1 h
  exact ⟨h1, fun x hx => ⟨(nameB_len (h2 x hx).1).2, (h2 x hx).2.2⟩⟩
theorem twiceB_false {l : List Lab} : twiceB l = false ↔ ∀ i j (hi : i < l.length) (hj : j < l.length), i < j → l[i].1 ≠ l[j].1 := by
  unfold twiceB
  rw [Bool.not_eq_false', decide_eq_true_iff]
  unfold List.Nodup
  rw [List.pairwise_map, List.pairwise_iff_getElem]
theorem twiceB_true {l : List Lab} {i j : Nat} (hi : i < l.length) (hj : j < l.length) (hij : i < j) (h : l[i].1 = l[j].1) : twiceB l = true := by
  cases e : twiceB l with
  | true => rfl
  | false => exact absurd h (twiceB_false.1 e i j hi hj hij)
theorem riseB_iff : ∀ {l : List Lab}, riseB l = true ↔ ∀ i (hi : i + 1 < l.length), Op.bytesLess l[i].1 l[i + 1].1 = true
  | [] => by simp [riseB]
  | [x] => by simp [riseB]
  | x :: y :: l => by
    rw [riseB, Bool.and_eq_true, riseB_iff]
    constructor
    · rintro ⟨h1, h2⟩ i hi
      cases i with
      | zero => exact h1
      | succ i => exact h2 i (by simpa using hi)
    · intro h
      exact ⟨h 0 (by simp), fun i hi => h (i + 1) (by simpa using hi)⟩
theorem riseB_no {l : List Lab} {i : Nat} (hi : i + 1 < l.length) (h : Op.bytesLess l[i].1 l[i + 1].1 = false) : riseB l = false := by
  cases e : riseB l with
  | false => rfl
  | true => have := riseB_iff.1 e i hi; rw [h] at this; cases this
theorem riseB_far {l : List Lab} (h : riseB l = true) : ∀ i j (hi : i < l.length) (hj : j < l.length), i < j → Op.bytesLess l[i].1 l[j].1 = true := by
  intro i j hi hj hij
  induction j with
  | zero => omega
  | succ j ih =>
    have h1 := riseB_iff.1 h j hj
    by_cases e : i = j
    · subst e; exact h1
    · exact bl_trans (ih (by omega) (by omega)) h1
theorem rise_once {l : List Lab} (h : riseB l = true) : twiceB l = false :=
  twiceB_false.2 fun i j hi hj hij => bl_ne (riseB_far h i j hi hj hij)
theorem checkB_zero {l : List Lab} : checkB l = 0 ↔ (eachErr 1 l = 0 ∧ riseB l = true) := by
  unfold checkB
  by_cases h : eachErr 1 l = 0
  · rw [if_pos h]
    by_cases h2 : riseB l = true
    · rw [if_pos (rise_once h2), if_pos h2]; simp [h, h2]
    · rw [if_neg h2]
      constructor
      · intro h; split at h <;> omega
      · intro h; exact absurd h.2 h2
  · rw [if_neg h]; simp [h]
/-- Labels that rise, as a property that is handy to lead through lists. -/
def Rise (l : List Lab) : Prop := l.Pairwise fun x y => Op.bytesLess x.1 y.1 = true
theorem rise_iff {l : List Lab} : Rise l ↔ riseB l = true := by
  unfold Rise
  rw [List.pairwise_iff_getElem]
  constructor
  · intro h; exact riseB_iff.2 fun i hi => h i (i + 1) (by omega) hi (by omega)
  · intro h i j hi hj hij; exact riseB_far h i j hi hj hij
theorem rise_ext : ∀ {a b : List Lab}, Rise a → Rise b → (∀ y, y ∈ a ↔ y ∈ b) → a = b
  | [], [], _, _, _ => rfl
  | [], y :: b, _, _, h => by have := (h y).2 (by simp); simp at this
  | x :: a, [], _, _, h => by have := (h x).1 (by simp); simp at this
  | x :: a, y :: b, ha, hb, h => by
    unfold Rise at ha hb
    rw [List.pairwise_cons] at ha hb
    have e : x = y := by
      have h1 := (h x).1 (by simp)
      have h2 := (h y).2 (by simp)
      rw [List.mem_cons] at h1 h2
      rcases h1 with h1 | h1
      · exact h1
      · rcases h2 with h2 | h2
        · exact h2.symm
        · have k1 := hb.1 x h1
          have k2 := ha.1 y h2
          rw [bl_asymm k1] at k2
          cases k2
    subst e
    have e2 : a = b := rise_ext ha.2 hb.2 fun z => by
      have hz := h z
      rw [List.mem_cons, List.mem_cons] at hz
      constructor
      · intro hm
        rcases hz.1 (.inr hm) with e | e
        · subst e; have := ha.1 z hm; rw [bl_irrefl] at this; cases this
        · exact e
      · intro hm
        rcases hz.2 (.inr hm) with e | e
        · subst e; have := hb.1 z hm; rw [bl_irrefl] at this; cases this
        · exact e
    rw [e2]
/-! ### a label has a value -/
/-- As the document's package goes: put: is it there already (or not to be there)? -/
def putGo (n v : List UInt8) : Bool → List Lab → List Lab
  | put, [] => if put = true then [] else [(n, v)]
  | put, x :: l =>
    if put = false ∧ Op.bytesLess x.1 n = false then (n, v) :: (if x.1 = n then putGo n v true l else x :: putGo n v true l)
    else if x.1 = n then putGo n v put l else x :: putGo n v put l
def putB (l : List Lab) (n v : List UInt8) : List Lab := putGo n v (decide (v = [])) l
theorem putGo_true (n v : List UInt8) : ∀ l, putGo n v true l = l.filter fun x => decide (x.1 ≠ n)
  | [] => rfl
  | x :: l => by
    have ih := putGo_true n v l
    by_cases e : x.1 = n
    · simp [putGo, e, ih]
    · simp [putGo, e, ih]
theorem putGo_mem (n v : List UInt8) : ∀ (l : List Lab) (put : Bool) (y : Lab), y ∈ putGo n v put l ↔ (y ∈ l ∧ y.1 ≠ n) ∨ (put = false ∧ y = (n, v))
  | [], put, y => by cases put <;> simp [putGo]
  | x :: l, put, y => by
    unfold putGo
    by_cases h : put = false ∧ Op.bytesLess x.1 n = false
    · rw [if_pos h]
      by_cases e : x.1 = n
      · rw [if_pos e, List.mem_cons, putGo_mem n v l true y]
        constructor
        · rintro (rfl | ⟨hm, hn⟩ | ⟨hf, _⟩)
          · exact .inr ⟨h.1, rfl⟩
          · exact .inl ⟨List.mem_cons_of_mem _ hm, hn⟩
          · cases hf
        · rintro (⟨hm, hn⟩ | ⟨_, rfl⟩)
          · rw [List.mem_cons] at hm
            rcases hm with rfl | hm
            · exact absurd e hn
            · exact .inr (.inl ⟨hm, hn⟩)
          · exact .inl rfl
      · rw [if_neg e, List.mem_cons, List.mem_cons, putGo_mem n v l true y]
        constructor
        · rintro (rfl | rfl | ⟨hm, hn⟩ | ⟨hf, _⟩)
          · exact .inr ⟨h.1, rfl⟩
          · exact .inl ⟨List.mem_cons_self .., e⟩
          · exact .inl ⟨List.mem_cons_of_mem _ hm, hn⟩
          · cases hf
        · rintro (⟨hm, hn⟩ | ⟨_, rfl⟩)
          · rw [List.mem_cons] at hm
            rcases hm with rfl | hm
            · exact .inr (.inl rfl)
            · exact .inr (.inr (.inl ⟨hm, hn⟩))
          · exact .inl rfl
    · rw [if_neg h]
      by_cases e : x.1 = n
      · rw [if_pos e, putGo_mem n v l put y]
        constructor
        · rintro (⟨hm, hn⟩ | h)
          · exact .inl ⟨List.mem_cons_of_mem _ hm, hn⟩
          · exact .inr h
        · rintro (⟨hm, hn⟩ | h)
          · rw [List.mem_cons] at hm
            rcases hm with rfl | hm
            · exact absurd e hn
            · exact .inl ⟨hm, hn⟩
          · exact .inr h
      · rw [if_neg e, List.mem_cons, putGo_mem n v l put y]
        constructor
        · rintro (rfl | ⟨hm, hn⟩ | h)
          · exact .inl ⟨List.mem_cons_self .., e⟩
          · exact .inl ⟨List.mem_cons_of_mem _ hm, hn⟩
          · exact .inr h
        · rintro (⟨hm, hn⟩ | h)
          · rw [List.mem_cons] at hm
            rcases hm with rfl | hm
            · exact .inl rfl
            · exact .inr (.inl ⟨hm, hn⟩)
          · exact .inr (.inr h)
theorem putB_mem (l : List Lab) (n v : List UInt8) (y : Lab) : y ∈ putB l n v ↔ (y ∈ l ∧ y.1 ≠ n) ∨ (v ≠ [] ∧ y = (n, v)) := by
  unfold putB
  rw [putGo_mem]
  simp
theorem putGo_rise (n v : List UInt8) : ∀ (l : List Lab) (put : Bool), Rise l → Rise (putGo n v put l)
  | [], put, _ => by cases put <;> simp [putGo, Rise]
  | x :: l, put, hr => by
    have hr' := hr
    unfold Rise at hr'
    rw [List.pairwise_cons] at hr'
    unfold putGo
    by_cases h : put = false ∧ Op.bytesLess x.1 n = false
    · rw [if_pos h]
      by_cases e : x.1 = n
      · rw [if_pos e]
        unfold Rise
        rw [List.pairwise_cons]
        refine ⟨fun y hy => ?_, putGo_rise n v l true hr'.2⟩
        rw [putGo_mem] at hy
        rcases hy with ⟨hm, _⟩ | ⟨hf, _⟩
        · have := hr'.1 y hm; rw [e] at this; exact this
        · cases hf
      · rw [if_neg e]
        have hxn : Op.bytesLess n x.1 = true := by
          cases k : Op.bytesLess n x.1 with
          | true => rfl
          | false => exact absurd (bl_tri h.2 k) e
        unfold Rise
        rw [List.pairwise_cons, List.pairwise_cons]
        refine ⟨fun y hy => ?_, fun y hy => ?_, putGo_rise n v l true hr'.2⟩
        · rw [List.mem_cons] at hy
          rcases hy with rfl | hy
          · exact hxn
          · rw [putGo_mem] at hy
            rcases hy with ⟨hm, _⟩ | ⟨hf, _⟩
            · exact bl_trans hxn (hr'.1 y hm)
            · cases hf
        · rw [putGo_mem] at hy
          rcases hy with ⟨hm, _⟩ | ⟨hf, _⟩
          · exact hr'.1 y hm
          · cases hf
    · rw [if_neg h]
      by_cases e : x.1 = n
      · rw [if_pos e]; exact putGo_rise n v l put hr'.2
      · rw [if_neg e]
        unfold Rise
        rw [List.pairwise_cons]
        refine ⟨fun y hy => ?_, putGo_rise n v l put hr'.2⟩
        rw [putGo_mem] at hy
        rcases hy with ⟨hm, _⟩ | ⟨hf, rfl⟩
        · exact hr'.1 y hm
        · cases k : Op.bytesLess x.1 n with
          | true => rfl
          | false => exact absurd ⟨hf, k⟩ h
theorem putB_rise {l : List Lab} (h : Rise l) (n v : List UInt8) : Rise (putB l n v) := putGo_rise n v l _ h
def makeStep (out : List Lab) (x : Lab) : List Lab := if x.2 = [] then out else putB out x.1 x.2
def makeL (l : List Lab) : List Lab := l.foldl makeStep []
theorem makeStep_rise {out : List Lab} (h : Rise out) (x : Lab) : Rise (makeStep out x) := by
  unfold makeStep; split; exact h; exact putB_rise h _ _
theorem foldl_rise : ∀ (l out : List Lab), Rise out → Rise (l.foldl makeStep out)
  | [], _, h => h
  | x :: l, out, h => foldl_rise l _ (makeStep_rise h x)
theorem makeL_rise (l : List Lab) : Rise (makeL l) := foldl_rise l [] List.Pairwise.nil
theorem foldl_mem : ∀ (l out : List Lab), (∀ x ∈ l, ∀ y ∈ out, x.1 ≠ y.1) → (l.map (·.1)).Nodup → ∀ y, y ∈ l.foldl makeStep out ↔ y ∈ out ∨ (y ∈ l ∧ y.2 ≠ [])
  | [], out, _, _, y => by simp
  | x :: l, out, h, hn, y => by
    rw [List.map_cons, List.nodup_cons] at hn
    have hx : ∀ z ∈ l, z.1 ≠ x.1 := fun z hz e => hn.1 (e ▸ List.mem_map_of_mem hz)
    have hmem : ∀ z, z ∈ makeStep out x ↔ z ∈ out ∨ (z = x ∧ x.2 ≠ []) := by
      intro z
      unfold makeStep
      split
      · rename_i e; simp [e]
      · rename_i e
        rw [putB_mem]
        constructor
        · rintro (⟨hm, _⟩ | ⟨_, rfl⟩)
          · exact .inl hm
          · exact .inr ⟨rfl, e⟩
        · rintro (hm | ⟨rfl, _⟩)
          · exact .inl ⟨hm, fun e => h x (List.mem_cons_self ..) z hm e.symm⟩
          · exact .inr ⟨e, rfl⟩
    rw [List.foldl_cons, foldl_mem l (makeStep out x) (fun z hz w hw => ?_) hn.2 y, hmem]
    · constructor
      · rintro ((hm | ⟨rfl, hne⟩) | ⟨hm, hne⟩)
        · exact .inl hm
        · exact .inr ⟨List.mem_cons_self .., hne⟩
        · exact .inr ⟨List.mem_cons_of_mem _ hm, hne⟩
      · rintro (hm | ⟨hm, hne⟩)
        · exact .inl (.inl hm)
        · rw [List.mem_cons] at hm
          rcases hm with rfl | hm
          · exact .inl (.inr ⟨rfl, hne⟩)
          · exact .inr ⟨hm, hne⟩
    · rw [hmem] at hw
      rcases hw with hw | ⟨rfl, _⟩
      · exact h z (List.mem_cons_of_mem _ hz) w hw
      · exact hx z hz
theorem makeL_mem {l : List Lab} (h : twiceB l = false) (y : Lab) : y ∈ makeL l ↔ y ∈ l ∧ y.2 ≠ [] := by
  have hn : (l.map (·.1)).Nodup := by simpa [twiceB] using h
  rw [makeL, foldl_mem l [] (by simp) hn y]
  simp
/-- What is left out and sorted is what the document makes. -/
theorem makeL_uniq {l d : List Lab} (h : twiceB l = false) (hd : Rise d) (hm : ∀ y, y ∈ d ↔ y ∈ l ∧ y.2 ≠ []) : d = makeL l :=
  rise_ext hd (makeL_rise l) fun y => by rw [hm, makeL_mem h]
theorem putB_uniq {l d : List Lab} (n v : List UInt8) (h : Rise l) (hd : Rise d) (hm : ∀ y, y ∈ d ↔ (y ∈ l ∧ y.1 ≠ n) ∨ (v ≠ [] ∧ y = (n, v))) : d = putB l n v :=
  rise_ext hd (putB_rise h n v) fun y => by rw [hm, putB_mem]
/-! ### values -/
def valueB (l : List Lab) (n : List UInt8) : List UInt8 := match l.find? (fun x => decide (x.1 = n)) with | some x => x.2 | none => []
theorem valueB_at {l : List Lab} {n : List UInt8} {k : Nat} (hk : k < l.length) (h : ∀ j (hj : j < l.length), j < k → l[j].1 ≠ n) (he : l[k].1 = n) : valueB l n = l[k].2 := by
  have : l.find? (fun x => decide (x.1 = n)) = some l[k] := by
    rw [List.find?_eq_some_iff_getElem]
    exact ⟨by simpa using he, k, hk, rfl, fun j hj => by simpa using h j (by omega) hj⟩
  simp [valueB, this]
theorem valueB_none {l : List Lab} {n : List UInt8} (h : ∀ j (hj : j < l.length), l[j].1 ≠ n) : valueB l n = [] := by
  have : l.find? (fun x => decide (x.1 = n)) = none := by
    rw [List.find?_eq_none]
    intro x hx
    obtain ⟨i, hi, rfl⟩ := List.getElem_of_mem hx
    simpa using h i hi
  simp [valueB, this]
theorem valueB_mem {l : List Lab} (hr : Rise l) {x : Lab} (hx : x ∈ l) : valueB l x.1 = x.2 := by
  obtain ⟨k, hk, rfl⟩ := List.getElem_of_mem hx
  exact valueB_at hk (fun j hj hjk => bl_ne (riseB_far (rise_iff.1 hr) j k hj hk hjk)) rfl
theorem valueB_not {l : List Lab} {n : List UInt8} (h : ∀ x ∈ l, x.1 ≠ n) : valueB l n = [] := valueB_none fun j hj => h _ (List.getElem_mem hj)
theorem valueB_le {l : List Lab} {n : List UInt8} {m : Nat} (h : ∀ x ∈ l, x.2.length ≤ m) : (valueB l n).length ≤ m := by
  unfold valueB
  split
  · rename_i x hx
    exact h x (List.mem_of_find?_eq_some hx)
  · simp
/-- What Get, With answer. -/
def getErr (l : List Lab) (n : List UInt8) : Nat := if checkB l = 0 then (if nameB n = true then 0 else 1) else checkB l
def getAns (l : List Lab) (n : List UInt8) : List UInt8 := if getErr l n = 0 then valueB l n else []
def withErr (l : List Lab) (n v : List UInt8) : Nat :=
  if getErr l n = 0 then (if v.length ≤ 100 then (if (putB l n v).length ≤ 20 then 0 else 2) else 2) else getErr l n
def withAns (l : List Lab) (n v : List UInt8) : List Lab := if withErr l n v = 0 then putB l n v else []
def makeAns (l : List Lab) : List Lab := if makeErr l = 0 then makeL l else []
/-! ### sums -/
def sumStep (h : Nat) (c : Nat) : Nat := (h ^^^ c) * 1099511628211 % 18446744073709551616
def sumTxt (h : Nat) (s : List UInt8) : Nat := sumStep (s.foldl (fun h c => sumStep h c.toNat) h) 255
def sumGo (h : Nat) : List Lab → Nat
  | [] => h
  | x :: l => sumGo (sumTxt (sumTxt h x.1) x.2) l
def sum0 : Nat := 14695981039346656037
theorem sum0_int : ((sum0 : Nat) : Int) = 14695981039346656037 := by unfold sum0; omega
theorem sum0_lt : sum0 < 18446744073709551616 := by unfold sum0; omega
def sumB (l : List Lab) : Nat := sumGo sum0 l
/-- What Sum answers beside the error. -/
def sumAns (l : List Lab) : Nat := if checkB l = 0 then sumB l else 0
theorem sumAns_ok {l : List Lab} (h : checkB l = 0) : sumAns l = sumB l := by unfold sumAns; rw [if_pos h]
theorem sumAns_no {l : List Lab} (h : checkB l ≠ 0) : sumAns l = 0 := by unfold sumAns; rw [if_neg h]
theorem sumGo_append (h : Nat) : ∀ (a b : List Lab), sumGo h (a ++ b) = sumGo (sumGo h a) b
  | [], _ => rfl
  | x :: a, b => by simp only [List.cons_append, sumGo, sumGo_append _ a b]
theorem sumStep_lt (h c : Nat) : sumStep h c < 18446744073709551616 := Nat.mod_lt _ (by decide)
theorem sumTxt_lt (h : Nat) (s : List UInt8) : sumTxt h s < 18446744073709551616 := sumStep_lt _ _
theorem sumGo_lt {h : Nat} (h0 : h < 18446744073709551616) : ∀ l, sumGo h l < 18446744073709551616
  | [] => h0
  | x :: l => sumGo_lt (sumTxt_lt _ _) l
/-! ### the order of labels -/
def cmpStr (x y : List UInt8) : Int := if Op.bytesLess x y = true then -1 else if Op.bytesLess y x = true then 1 else 0
theorem cmpStr_zero {x y : List UInt8} : cmpStr x y = 0 ↔ x = y := by
  unfold cmpStr
  constructor
  · intro h
    cases h1 : Op.bytesLess x y <;> cases h2 : Op.bytesLess y x <;> simp [h1, h2] at h
    exact bl_tri h1 h2
  · rintro rfl; simp [bl_irrefl]
theorem cmpStr_lt {x y : List UInt8} : cmpStr x y < 0 ↔ Op.bytesLess x y = true := by
  unfold cmpStr
  cases h1 : Op.bytesLess x y <;> cases h2 : Op.bytesLess y x <;> simp
end Go.Proofs.YtndpjdmfkhjiiaaGreatDoor.Lb
