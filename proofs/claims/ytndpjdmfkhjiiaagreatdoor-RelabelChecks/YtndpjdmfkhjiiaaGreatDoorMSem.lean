/- What masks are like, as mathematics: ways along a text in their order, graphs that are walked, and that a graph that is laid out for a mask walks its ways. No program. -/
import Derived.WalkKit
set_option linter.unusedVariables false
set_option linter.unusedSimpArgs false
namespace Go.Proofs.YtndpjdmfkhjiiaaGreatDoor

/-- Where groups begin and end on a way: slots and places, in the order of the way. -/
abbrev Evs := List (Nat × Nat)
/-- An answer that is known: a way, or that there is none. `none` ahead of it: not known with so much fuel. -/
abbrev Ans := Option (Option Evs)

/-- The first of two: the second one is asked if the first leads to nothing. -/
def first : Ans → Ans → Ans
  | none, _ => none
  | some (some e), _ => some (some e)
  | some none, b => b

theorem first_none (b : Ans) : first (some none) b = b := rfl
theorem first_some (e : Evs) (b : Ans) : first (some (some e)) b = some (some e) := rfl
theorem first_eq {a b : Ans} {x : Option Evs} (h : first a b = some x) : (∃ e, a = some (some e) ∧ x = some e) ∨ (a = some none ∧ b = some x) := by
  match a, h with
  | some (some e), h => exact .inl ⟨e, rfl, by simpa [first] using h.symm⟩
  | some none, h => exact .inr ⟨rfl, h⟩

def marked (sl p : Nat) (x : Option Evs) : Option Evs := x.map ((sl, p) :: ·)

/-- Parts of a mask. -/
inductive Re where
  | eps
  | set (s : UInt8 → Bool)
  | mk (slot : Nat)
  | seq (a b : Re)
  | alt (a b : Re)
  | star (r : Re)
  | plus (r : Re)

/-- Does a byte of the set stand there? -/
def hits (t : List UInt8) (s : UInt8 → Bool) (p : Nat) : Bool := match t[p]? with | some c => s c | none => false
theorem hits_lt {t : List UInt8} {s p} (h : hits t s p = true) : p < t.length := by
  unfold hits at h
  split at h
  · rename_i c e; exact (List.getElem?_eq_some_iff.1 e).1
  · cases h
theorem hits_get {t : List UInt8} {s : UInt8 → Bool} {p} (h : p < t.length) : hits t s p = s t[p] := by simp [hits, h]
theorem hits_ge {t : List UInt8} {s : UInt8 → Bool} {p} (h : ¬ p < t.length) : hits t s p = false := by simp [hits, List.getElem?_eq_none_iff.2 (by omega : t.length ≤ p)]

/-- The first way along parts, one behind the other, from a place on. -/
def run (t : List UInt8) : Nat → List Re → Nat → Ans
  | 0, _, _ => none
  | _ + 1, [], p => some (if p = t.length then some [] else none)
  | f + 1, .eps :: ks, p => run t f ks p
  | f + 1, .set s :: ks, p => if hits t s p then run t f ks (p + 1) else some none
  | f + 1, .mk n :: ks, p => (run t f ks p).map (marked n p)
  | f + 1, .seq a b :: ks, p => run t f (a :: b :: ks) p
  | f + 1, .alt a b :: ks, p => first (run t f (a :: ks) p) (run t f (b :: ks) p)
  | f + 1, .star r :: ks, p => first (run t f (r :: .star r :: ks) p) (run t f ks p)
  | f + 1, .plus r :: ks, p => run t f (r :: .star r :: ks) p

theorem map_some {a : Ans} {f : Option Evs → Option Evs} {x} (h : a.map f = some x) : ∃ y, a = some y ∧ x = f y := by
  cases a with
  | none => cases h
  | some y => exact ⟨y, rfl, by simpa using h.symm⟩

theorem first_mono {a b a' b' : Ans} (ha : ∀ x, a = some x → a' = some x) (hb : ∀ x, b = some x → b' = some x) {x} (h : first a b = some x) : first a' b' = some x := by
  rcases first_eq h with ⟨e, rfl, rfl⟩ | ⟨rfl, h⟩
  · rw [ha _ rfl]; rfl
  · rw [ha _ rfl]; exact hb _ h

theorem run_succ (t : List UInt8) : ∀ f ks p x, run t f ks p = some x → run t (f + 1) ks p = some x := by
  intro f
  induction f with
  | zero => intro ks p x h; cases h
  | succ f ih =>
    intro ks p x h
    match ks, h with
    | [], h => exact h
    | .eps :: ks, h => exact ih _ _ _ h
    | .set s :: ks, h =>
      rw [run] at h ⊢
      split at h
      · rename_i e; rw [if_pos e]; exact ih _ _ _ h
      · rename_i e; rw [if_neg e]; exact h
    | .mk n :: ks, h =>
      rw [run] at h ⊢
      obtain ⟨y, hy, rfl⟩ := map_some h
      rw [ih _ _ _ hy]; rfl
    | .seq a b :: ks, h => exact ih _ _ _ h
    | .alt a b :: ks, h => exact first_mono (ih _ _) (ih _ _) h
    | .star r :: ks, h => exact first_mono (ih _ _) (ih _ _) h
    | .plus r :: ks, h => exact ih _ _ _ h
theorem run_mono (t : List UInt8) {f f' ks p x} (h : run t f ks p = some x) (hf : f ≤ f') : run t f' ks p = some x := by
  obtain ⟨d, rfl⟩ := Nat.exists_eq_add_of_le hf
  induction d with
  | zero => exact h
  | succ d ih => exact run_succ t _ _ _ _ (ih (by omega))

/-- May a part take nothing? -/
def nullable : Re → Bool
  | .eps => true
  | .set _ => false
  | .mk _ => true
  | .seq a b => nullable a && nullable b
  | .alt a b => nullable a || nullable b
  | .star _ => true
  | .plus r => nullable r
/-- What is repeated takes a byte at least. -/
def good : Re → Prop
  | .eps => True
  | .set _ => True
  | .mk _ => True
  | .seq a b => good a ∧ good b
  | .alt a b => good a ∧ good b
  | .star r => good r ∧ nullable r = false
  | .plus r => good r ∧ nullable r = false

def Tot (t : List UInt8) (ks : List Re) (p : Nat) : Prop := ∃ f x, run t f ks p = some x

theorem Tot.first {t : List UInt8} {ks ls : List Re} {p q : Nat} (h : Tot t ks p) (k : Tot t ls q) : ∃ f x, first (run t f ks p) (run t f ls q) = some x := by
  obtain ⟨f, x, h⟩ := h
  obtain ⟨g, y, k⟩ := k
  have h' := run_mono t h (Nat.le_max_left f g)
  have k' := run_mono t k (Nat.le_max_right f g)
  cases x with
  | some e => exact ⟨_, some e, by rw [h']; rfl⟩
  | none => exact ⟨_, y, by rw [h', k']; rfl⟩

theorem tot_star (t : List UInt8) (r : Re) (ks : List Re)
    (hr : ∀ ks p, p ≤ t.length → (∀ q, p < q → q ≤ t.length → Tot t ks q) → Tot t (r :: ks) p) :
    ∀ d p, t.length - p = d → p ≤ t.length → (∀ q, p ≤ q → q ≤ t.length → Tot t ks q) → Tot t (.star r :: ks) p := by
  intro d
  induction d using Nat.strongRecOn with
  | _ d ih =>
    intro p hd hp h
    have b := hr (.star r :: ks) p hp (fun q h1 h2 => ih (t.length - q) (by omega) q rfl h2 (fun q' h3 h4 => h q' (by omega) h4))
    obtain ⟨f, x, e⟩ := b.first (h p (Nat.le_refl _) hp)
    exact ⟨f + 1, x, e⟩

/-- Each part that is good has its answer, if what comes behind it has. -/
theorem tot_re (t : List UInt8) : ∀ r, good r →
    (∀ ks p, p ≤ t.length → (∀ q, p ≤ q → q ≤ t.length → Tot t ks q) → Tot t (r :: ks) p) ∧
    (nullable r = false → ∀ ks p, p ≤ t.length → (∀ q, p < q → q ≤ t.length → Tot t ks q) → Tot t (r :: ks) p) := by
  intro r
  induction r with
  | eps => exact fun _ => ⟨fun ks p hp h => let ⟨f, x, e⟩ := h p (Nat.le_refl _) hp; ⟨f + 1, x, e⟩, fun h => by cases h⟩
  | set s =>
    intro _
    have : ∀ ks p, p ≤ t.length → (∀ q, p < q → q ≤ t.length → Tot t ks q) → Tot t (.set s :: ks) p := by
      intro ks p hp h
      by_cases c : hits t s p = true
      · obtain ⟨f, x, e⟩ := h (p + 1) (by omega) (hits_lt c)
        exact ⟨f + 1, x, by rw [run, if_pos c]; exact e⟩
      · exact ⟨1, none, by rw [run, if_neg c]⟩
    exact ⟨fun ks p hp h => this ks p hp (fun q h1 h2 => h q (by omega) h2), fun _ => this⟩
  | mk n =>
    refine fun _ => ⟨fun ks p hp h => ?_, fun h => by cases h⟩
    obtain ⟨f, x, e⟩ := h p (Nat.le_refl _) hp
    exact ⟨f + 1, marked n p x, by rw [run, e]; rfl⟩
  | seq a b iha ihb =>
    intro g
    refine ⟨fun ks p hp h => ?_, fun hn ks p hp h => ?_⟩
    · obtain ⟨f, x, e⟩ := (iha g.1).1 (b :: ks) p hp (fun q h1 h2 => (ihb g.2).1 ks q h2 (fun q' h3 h4 => h q' (by omega) h4))
      exact ⟨f + 1, x, e⟩
    · have : Tot t (a :: b :: ks) p := by
        cases na : nullable a with
        | false => exact (iha g.1).2 na (b :: ks) p hp (fun q h1 h2 => (ihb g.2).1 ks q h2 (fun q' h3 h4 => h q' (by omega) h4))
        | true =>
          have nb : nullable b = false := by simpa [nullable, na] using hn
          exact (iha g.1).1 (b :: ks) p hp (fun q h1 h2 => (ihb g.2).2 nb ks q h2 (fun q' h3 h4 => h q' (by omega) h4))
      obtain ⟨f, x, e⟩ := this
      exact ⟨f + 1, x, e⟩
  | alt a b iha ihb =>
    intro g
    refine ⟨fun ks p hp h => ?_, fun hn ks p hp h => ?_⟩
    · obtain ⟨f, x, e⟩ := ((iha g.1).1 ks p hp h).first ((ihb g.2).1 ks p hp h)
      exact ⟨f + 1, x, e⟩
    · have hn : nullable a = false ∧ nullable b = false := by simpa [nullable] using hn
      obtain ⟨f, x, e⟩ := ((iha g.1).2 hn.1 ks p hp h).first ((ihb g.2).2 hn.2 ks p hp h)
      exact ⟨f + 1, x, e⟩
  | star r ih =>
    exact fun g => ⟨fun ks p hp h => tot_star t r ks ((ih g.1).2 g.2) _ p rfl hp h, fun h => by cases h⟩
  | plus r ih =>
    intro g
    have : ∀ ks p, p ≤ t.length → (∀ q, p < q → q ≤ t.length → Tot t ks q) → Tot t (.plus r :: ks) p := by
      intro ks p hp h
      obtain ⟨f, x, e⟩ := (ih g.1).2 g.2 (.star r :: ks) p hp (fun q h1 h2 => tot_star t r ks ((ih g.1).2 g.2) _ q rfl h2 (fun q' h3 h4 => h q' (by omega) h4))
      exact ⟨f + 1, x, e⟩
    exact ⟨fun ks p hp h => this ks p hp (fun q h1 h2 => h q (by omega) h2), fun _ => this⟩

/-- What a mask answers of a text. -/
theorem run_total (t : List UInt8) {r : Re} (g : good r) : ∃ f x, run t f [r] 0 = some x :=
  (tot_re t r g).1 [] 0 (Nat.zero_le _) (fun q _ _ => ⟨1, _, rfl⟩)

/-! ### graphs -/

/-- What a node of a graph asks for. -/
inductive Kind where
  | fin
  | take (s : UInt8 → Bool) (n : Nat)
  | mark (slot n : Nat)
  | fork (ws : List Nat)

def ways (d : Nat → Ans) : List Nat → Ans
  | [] => some none
  | w :: ws => first (d w) (ways d ws)

/-- The first way along a graph. -/
def den (g : Nat → Kind) (t : List UInt8) : Nat → Nat → Nat → Ans
  | 0, _, _ => none
  | f + 1, n, p => match g n with
    | .fin => some (if p = t.length then some [] else none)
    | .take s m => if hits t s p then den g t f m (p + 1) else some none
    | .mark sl m => (den g t f m p).map (marked sl p)
    | .fork ws => ways (fun w => den g t f w p) ws

theorem ways_mono {d d' : Nat → Ans} (h : ∀ w x, d w = some x → d' w = some x) : ∀ {ws x}, ways d ws = some x → ways d' ws = some x
  | [], _, e => e
  | w :: ws, _, e => first_mono (h w) (fun _ => ways_mono h) e

theorem den_succ (g : Nat → Kind) (t : List UInt8) : ∀ f n p x, den g t f n p = some x → den g t (f + 1) n p = some x := by
  intro f
  induction f with
  | zero => intro n p x h; cases h
  | succ f ih =>
    intro n p x h
    rw [den] at h ⊢
    split at h
    · exact h
    · split at h
      · rename_i e; rw [if_pos e]; exact ih _ _ _ h
      · rename_i e; rw [if_neg e]; exact h
    · obtain ⟨y, hy, rfl⟩ := map_some h
      rw [ih _ _ _ hy]; rfl
    · exact ways_mono (fun w x => ih w p x) h
theorem den_mono {g : Nat → Kind} {t : List UInt8} {f f' n p x} (h : den g t f n p = some x) (hf : f ≤ f') : den g t f' n p = some x := by
  obtain ⟨d, rfl⟩ := Nat.exists_eq_add_of_le hf
  induction d with
  | zero => exact h
  | succ d ih => exact den_succ g t _ _ _ _ (ih (by omega))
theorem den_det {g : Nat → Kind} {t : List UInt8} {f f' n p x y} (h : den g t f n p = some x) (k : den g t f' n p = some y) : x = y := by
  have h' := den_mono h (Nat.le_max_left f f')
  have k' := den_mono k (Nat.le_max_right f f')
  rw [h'] at k'; exact Option.some.inj k'

/-- Parts as a graph has them: from one of these nodes (the first first) a part is gone through up to a node. `G n k`: node n asks for k. -/
inductive Code (G : Nat → Kind → Prop) : List Nat → Nat → Re → Prop where
  | here {n} : Code G [n] n .eps
  | jump {n ws m r} : G n (.fork ws) → Code G ws m r → Code G [n] m r
  | land {ws k m r} : Code G ws k r → G k (.fork [m]) → Code G ws m r
  | set {n s m} : G n (.take s m) → Code G [n] m (.set s)
  | mk {n sl m} : G n (.mark sl m) → Code G [n] m (.mk sl)
  | seq {ws k m a b} : Code G ws k a → Code G [k] m b → Code G ws m (.seq a b)
  | alt {w ws m a b} : Code G [w] m a → Code G ws m b → Code G (w :: ws) m (.alt a b)
  | star {n c e m r} : G n (.fork [c, m]) → Code G [c] e r → G e (.fork [c, m]) → Code G [n] m (.star r)
  | plus {c e m r} : Code G [c] e r → G e (.fork [c, m]) → Code G [c] m (.plus r)

theorem Code.mono {G G' : Nat → Kind → Prop} (h : ∀ n k, G n k → G' n k) {ws m r} (c : Code G ws m r) : Code G' ws m r := by
  induction c with
  | here => exact .here
  | jump a _ ih => exact .jump (h _ _ a) ih
  | land _ a ih => exact .land ih (h _ _ a)
  | set a => exact .set (h _ _ a)
  | mk a => exact .mk (h _ _ a)
  | seq _ _ i j => exact .seq i j
  | alt _ _ i j => exact .alt i j
  | star a _ b ih => exact .star (h _ _ a) ih (h _ _ b)
  | plus _ b ih => exact .plus ih (h _ _ b)

/-- From these nodes on, parts are answered, as far as so much fuel tells their answers. -/
def Real (g : Nat → Kind) (t : List UInt8) (k : Nat) (ks : List Re) (ws : List Nat) : Prop :=
  ∀ f, f ≤ k → ∀ p x, run t f ks p = some x → ∃ f', ways (fun w => den g t f' w p) ws = some x

theorem Real.le {g t k k' ks ws} (h : Real g t k ks ws) (hk : k' ≤ k) : Real g t k' ks ws := fun f hf => h f (by omega)
theorem ways_one {d : Nat → Ans} {w x} (h : d w = some x) : ways d [w] = some x := by
  cases x <;> simp [ways, h, first]
theorem ways_one_inv {d : Nat → Ans} {w x} (h : ways d [w] = some x) : d w = some x := by
  rcases first_eq (show first (d w) (some none) = some x from h) with ⟨e, h1, rfl⟩ | ⟨h1, k1⟩
  · exact h1
  · rw [h1]; exact k1
theorem Real.fork {g t k ks ws n} (hg : g n = .fork ws) (h : Real g t k ks ws) : Real g t k ks [n] := by
  intro f hf p x e
  obtain ⟨f', e⟩ := h f hf p x e
  exact ⟨f' + 1, ways_one (by rw [den, hg]; exact e)⟩
theorem ways_cons {g : Nat → Kind} {t : List UInt8} {p : Nat} {w ws} {f f'} {a b : Ans} {x} (h : first a b = some x)
    (ha : ∀ y, a = some y → ways (fun w => den g t f w p) [w] = some y) (hb : ∀ y, b = some y → ways (fun w => den g t f' w p) ws = some y) :
    ∃ f'', ways (fun w => den g t f'' w p) (w :: ws) = some x := by
  refine ⟨max f f', ?_⟩
  rw [ways]
  rcases first_eq h with ⟨e, ea, rfl⟩ | ⟨ea, eb⟩
  · rw [den_mono (ways_one_inv (ha _ ea)) (Nat.le_max_left f f')]; rfl
  · rw [den_mono (ways_one_inv (ha _ ea)) (Nat.le_max_left f f'), first_none]
    exact ways_mono (fun w x h => den_mono h (Nat.le_max_right f f')) (hb _ eb)

theorem Real.two {g : Nat → Kind} {t : List UInt8} {f p : Nat} {as bs : List Re} {w ws} {x} (h : first (run t f as p) (run t f bs p) = some x)
    (ha : Real g t f as [w]) (hb : Real g t f bs ws) : ∃ f', ways (fun w => den g t f' w p) (w :: ws) = some x := by
  rcases first_eq h with ⟨e, ea, rfl⟩ | ⟨ea, eb⟩
  · obtain ⟨f1, e1⟩ := ha f (Nat.le_refl _) p _ ea
    exact ⟨f1, by rw [ways, ways_one_inv e1]; rfl⟩
  · obtain ⟨f1, e1⟩ := ha f (Nat.le_refl _) p _ ea
    obtain ⟨f2, e2⟩ := hb f (Nat.le_refl _) p _ eb
    exact ways_cons (f := f1) (f' := f2) (a := some none) (b := some x) rfl (fun y h => by cases h; exact e1) (fun y h => by cases h; exact e2)

theorem real_star {g : Nat → Kind} {t : List UInt8} {r : Re} {ks : List Re} {c e m : Nat} (he : g e = .fork [c, m])
    (ih : ∀ k ks, Real g t k ks [e] → Real g t k (r :: ks) [c]) :
    ∀ k, Real g t k ks [m] → Real g t k (.star r :: ks) [e] := by
  intro k
  induction k with
  | zero =>
    intro _ f hf p x h
    obtain rfl : f = 0 := by omega
    rw [run] at h; cases h
  | succ k ihk =>
    intro hm f hf p x h
    obtain _ | f := f
    · cases h
    have b : Real g t f (r :: .star r :: ks) [c] := (ih k _ (ihk (hm.le (by omega)))).le (by omega)
    obtain ⟨f', e'⟩ := Real.two (w := c) (ws := [m]) (show first (run t f (r :: .star r :: ks) p) (run t f ks p) = some x from h) b (hm.le (by omega))
    exact ⟨f' + 1, ways_one (by rw [den, he]; exact e')⟩

/-- WHAT IS LAID OUT ANSWERS AS ITS PARTS DO, whatever comes behind. -/
theorem Code.real {g : Nat → Kind} {t : List UInt8} {G : Nat → Kind → Prop} (hG : ∀ n k, G n k → g n = k) {ws m r} (c : Code G ws m r) :
    ∀ k ks, Real g t k ks [m] → Real g t k (r :: ks) ws := by
  induction c with
  | here =>
    intro k ks h f hf p x e
    obtain _ | f := f
    · cases e
    · exact h f (by omega) p x e
  | jump a _ ih => exact fun k ks h => (ih k ks h).fork (hG _ _ a)
  | land _ a ih => exact fun k ks h => ih k ks (h.fork (hG _ _ a))
  | @set n s m a =>
    intro k ks h f hf p x e
    obtain _ | f := f
    · cases e
    rw [run] at e
    split at e
    · rename_i c
      obtain ⟨f', e'⟩ := h f (by omega) (p + 1) x e
      exact ⟨f' + 1, ways_one (by rw [den, hG _ _ a]; simp only; rw [if_pos c]; exact ways_one_inv e')⟩
    · rename_i c
      exact ⟨1, ways_one (by rw [den, hG _ _ a]; simp only; rw [if_neg c]; exact e)⟩
  | @mk n sl m a =>
    intro k ks h f hf p x e
    obtain _ | f := f
    · cases e
    rw [run] at e
    obtain ⟨y, ey, rfl⟩ := map_some e
    obtain ⟨f', e'⟩ := h f (by omega) p y ey
    exact ⟨f' + 1, ways_one (by rw [den, hG _ _ a]; simp only; rw [ways_one_inv e']; rfl)⟩
  | seq _ _ i j =>
    intro k ks h f hf p x e
    obtain _ | f := f
    · cases e
    exact i k _ (j k ks h) f (by omega) p x e
  | alt _ _ i j =>
    intro k ks h f hf p x e
    obtain _ | f := f
    · cases e
    exact Real.two (show first (run t f (_ :: ks) p) (run t f (_ :: ks) p) = some x from e) ((i k ks h).le (by omega)) ((j k ks h).le (by omega))
  | star a _ b ih =>
    intro k ks h f hf p x e
    obtain _ | f := f
    · cases e
    have hs := real_star (hG _ _ b) (fun k ks => ih k ks) k h
    obtain ⟨f', e'⟩ := Real.two (show first (run t f (_ :: .star _ :: ks) p) (run t f ks p) = some x from e) ((ih k _ hs).le (by omega)) (h.le (by omega))
    exact ⟨f' + 1, ways_one (by rw [den, hG _ _ a]; exact e')⟩
  | plus _ b ih =>
    intro k ks h f hf p x e
    obtain _ | f := f
    · cases e
    exact ih k _ (real_star (hG _ _ b) (fun k ks => ih k ks) k h) f (by omega) p x e

/-- A whole mask's graph: what is asked at its beginning is what the mask answers. -/
theorem Code.answers {g : Nat → Kind} {t : List UInt8} {G : Nat → Kind → Prop} (hG : ∀ n k, G n k → g n = k) {n m r} (c : Code G [n] m r)
    (hm : g m = .fin) {f x} (h : run t f [r] 0 = some x) : ∃ f', den g t f' n 0 = some x := by
  obtain ⟨f', e⟩ := c.real hG (t := t) f [] (by
    intro f hf p x e
    obtain _ | f := f
    · cases e
    exact ⟨1, ways_one (by rw [den, hm]; exact e)⟩) f (Nat.le_refl _) 0 x h
  exact ⟨f', ways_one_inv e⟩

/-! ### where the groups are: the last place of each slot -/
/-- The last place of a slot on a way; `d`, if it has none. -/
def lastOf (d : Int) (sl : Nat) : Evs → Int
  | [] => d
  | (s, p) :: l => lastOf (if s = sl then (p : Int) else d) sl l

end Go.Proofs.YtndpjdmfkhjiiaaGreatDoor
