/- The document's own graph for a mask, laid out from its end on, as mathematics: it walks the mask's ways. -/
import Derived.Test.YtaijakomgkageaaMSem
import Derived.Test.YtaijakomgkageaaMPar
import Derived.Test.YtaijakomgkageaaMLay
set_option linter.unusedVariables false
set_option linter.unusedSimpArgs false
namespace Go.Proofs.Ytaijakomgkageaa

/-- A piece with its sign: what is laid behind so many spots, and where it begins. -/
def layPiece (sg : Nat) (once : Nat → Nat → List Kind × Nat) (b nx : Nat) : List Kind × Nat :=
  if sg = 63 then ((once b nx).1 ++ [.fork [(once b nx).2, nx]], b + (once b nx).1.length)
  else if sg = 42 then (.fork [(once (b + 1) b).2, nx] :: (once (b + 1) b).1, b)
  else if sg = 43 then (.fork [(once (b + 1) b).2, nx] :: (once (b + 1) b).1, (once (b + 1) b).2)
  else once b nx

/-- A group without its sign: its rows are laid by `f`. -/
def layGroup (n : Nat) (f : Nat → Nat → List Kind × Nat) (b nx : Nat) : List Kind × Nat :=
  (.mark (2 * n + 1) nx :: ((f (b + 1) b).1 ++ [.mark (2 * n) (f (b + 1) b).2]), b + 1 + (f (b + 1) b).1.length)

def layK : Tr → Nat → Nat → List Kind × Nat
  | .nil, _, nx => ([], nx)
  | .set s sg rest, b, nx =>
    let x := layK rest b nx
    let y := layPiece sg (fun b nx => ([.take s nx], b)) (b + x.1.length) x.2
    (x.1 ++ y.1, y.2)
  | .grp n rows sg rest, b, nx =>
    let x := layK rest b nx
    let y := layPiece sg (layGroup n (layK rows)) (b + x.1.length) x.2
    (x.1 ++ y.1, y.2)
  | .row r .nil, b, nx => layK r b nx
  | .row r rest, b, nx =>
    let x := layK rest b nx
    let y := layK r (b + x.1.length) nx
    (x.1 ++ (y.1 ++ [.fork [y.2, x.2]]), b + x.1.length + y.1.length)

theorem layK_row {r rest : Tr} (h : wf true rest) (b nx : Nat) : layK (.row r rest) b nx =
    ((layK rest b nx).1 ++ ((layK r (b + (layK rest b nx).1.length) nx).1 ++ [.fork [(layK r (b + (layK rest b nx).1.length) nx).2, (layK rest b nx).2]]), b + (layK rest b nx).1.length + (layK r (b + (layK rest b nx).1.length) nx).1.length) := by
  cases rest with
  | nil => exact h.elim
  | set s sg rest => rfl
  | grp n rows sg rest => rfl
  | row a c => rfl

/-- What is known of spots: these stand from here on. -/
def GatK (b : Nat) (L : List Kind) (n : Nat) (k : Kind) : Prop := ∃ i, L[i]? = some k ∧ n = b + i
theorem GatK.left {b L L' n k} (h : GatK b L n k) : GatK b (L ++ L') n k := by
  obtain ⟨i, h, rfl⟩ := h
  exact ⟨i, by rw [List.getElem?_append_left (List.getElem?_eq_some_iff.1 h).1]; exact h, rfl⟩
theorem GatK.right {b L L' n k c} (hc : c = b + L.length) (h : GatK c L' n k) : GatK b (L ++ L') n k := by
  obtain ⟨i, h, rfl⟩ := h
  exact ⟨L.length + i, by rw [List.getElem?_append_right (by omega)]; simpa using h, by omega⟩
theorem GatK.head {b k L n} (hn : n = b) : GatK b (k :: L) n k := ⟨0, rfl, by omega⟩
theorem GatK.tail {b k' L n k c} (hc : c = b + 1) (h : GatK c L n k) : GatK b (k' :: L) n k := GatK.right (L := [k']) (by simp [hc]) h

/-- Spots that are laid out answer as a part. -/
def LaysK (f : Nat → Nat → List Kind × Nat) (r : Re) : Prop := ∀ b nx, Code (GatK b (f b nx).1) [(f b nx).2] nx r

theorem laysK_piece {sg : Nat} {once : Nat → Nat → List Kind × Nat} {r : Re} (h : LaysK once r) : LaysK (layPiece sg once) (signed sg r) := by
  intro b nx
  unfold layPiece signed
  by_cases h63 : sg = 63
  · subst h63
    simp only [if_true, show ¬ (63 : Nat) = 42 by decide, show ¬ (63 : Nat) = 43 by decide, if_false]
    exact .jump (ws := [(once b nx).2, nx]) (.right rfl (.head rfl)) (.alt ((h b nx).mono fun n k g => g.left) .here)
  · by_cases h42 : sg = 42
    · subst h42
      simp only [if_true, if_false, show ¬ (42 : Nat) = 63 by decide]
      exact .star (e := b) (c := (once (b + 1) b).2) (.head rfl) ((h (b + 1) b).mono fun n k g => g.tail rfl) (.head rfl)
    · by_cases h43 : sg = 43
      · subst h43
        simp only [if_true, if_false, show ¬ (43 : Nat) = 63 by decide, show ¬ (43 : Nat) = 42 by decide]
        exact .plus (e := b) ((h (b + 1) b).mono fun n k g => g.tail rfl) (.head rfl)
      · simp only [if_neg h63, if_neg h42, if_neg h43]
        exact h b nx

theorem laysK_set (s : UInt8 → Bool) : LaysK (fun b nx => ([.take s nx], b)) (.set s) := fun b nx => .set (.head rfl)
theorem laysK_group {n : Nat} {f : Nat → Nat → List Kind × Nat} {r : Re} (h : LaysK f r) : LaysK (layGroup n f) (grpRe n r) := by
  intro b nx
  refine .seq (k := (f (b + 1) b).2) (.mk (.tail rfl (.right rfl (.head rfl)))) (.seq (k := b) ?_ (.mk (.head rfl)))
  exact (h (b + 1) b).mono fun n k g => .tail rfl g.left

theorem layK_code : ∀ T, (wf false T → LaysK (layK T) (re T)) ∧ (wf true T → LaysK (layK T) (re T)) := by
  intro T
  induction T with
  | nil => exact ⟨fun _ b nx => .here, fun h => h.elim⟩
  | set s sg rest ih =>
    refine ⟨fun h b nx => ?_, fun h => by cases h⟩
    refine .seq (k := (layK rest b nx).2) ?_ ((ih.1 h b nx).mono fun n k g => .left g)
    exact (laysK_piece (laysK_set s) (b + (layK rest b nx).1.length) (layK rest b nx).2).mono fun n k g => .right rfl g
  | grp n rows sg rest ih1 ih2 =>
    refine ⟨fun h b nx => ?_, fun h => by cases h⟩
    refine .seq (k := (layK rest b nx).2) ?_ ((ih2.1 h.2 b nx).mono fun n k g => .left g)
    exact (laysK_piece (laysK_group (ih1.2 h.1)) (b + (layK rest b nx).1.length) (layK rest b nx).2).mono fun n k g => .right rfl g
  | row r rest ih1 ih2 =>
    refine ⟨fun h => h.elim, fun h b nx => ?_⟩
    have hr : wf false r := by
      cases rest with
      | nil => exact h
      | set s sg rest => exact h.1
      | grp n rows sg rest => exact h.1
      | row a b => exact h.1
    by_cases hn : wf true rest
    · rw [re_row hn, layK_row hn]
      refine .jump (ws := [(layK r (b + (layK rest b nx).1.length) nx).2, (layK rest b nx).2]) (.right rfl (.right rfl (.head rfl))) (.alt ?_ ?_)
      · exact (ih1.1 hr (b + (layK rest b nx).1.length) nx).mono fun n k g => .right rfl g.left
      · exact (ih2.2 hn b nx).mono fun n k g => .left g
    · have : rest = .nil := by
        cases rest with
        | nil => rfl
        | set s sg rest => exact (hn h.2).elim
        | grp n rows sg rest => exact (hn h.2).elim
        | row a b => exact (hn h.2).elim
      subst this
      exact ih1.1 hr b nx

/-- What a spot asks for. -/
def spots (L : List Kind) (n : Nat) : Kind := match L[n]? with | some k => k | none => .fin
/-- A whole mask's spots: its end first. -/
def gra (T : Tr) : List Kind := .fin :: (layK T 1 0).1
def graAt (T : Tr) : Nat := (layK T 1 0).2
theorem gra_answers {T : Tr} (h : wf true T) {t : List UInt8} {f x} (hr : run t f [re T] 0 = some x) : ∃ f', den (spots (gra T)) t f' (graAt T) 0 = some x := by
  refine Code.answers (G := GatK 0 (gra T)) (fun n k g => ?_) (((layK_code T).2 h 1 0).mono fun n k g => GatK.tail rfl g) rfl hr
  obtain ⟨i, hi, rfl⟩ := g
  simp [spots, hi]

/-! ### no spot leads out of them -/
/-- Ways are below so many, marks too. -/
def kOk (g top : Nat) : Kind → Prop
  | .fin => True
  | .take _ n => n < top
  | .mark sl n => sl < 2 * g ∧ n < top
  | .fork ws => ∃ a b, ws = [a, b] ∧ a < top ∧ b < top

theorem kOk.le {g top top' : Nat} (h : top ≤ top') : ∀ {k}, kOk g top k → kOk g top' k
  | .fin, _ => trivial
  | .take _ _, hk => by simp only [kOk] at *; omega
  | .mark _ _, hk => by simp only [kOk] at *; omega
  | .fork _, ⟨a, b, e, h1, h2⟩ => ⟨a, b, e, by omega, by omega⟩

def OkK (g : Nat) (f : Nat → Nat → List Kind × Nat) (room : Nat) : Prop := ∀ b nx, nx < b → (∀ k ∈ (f b nx).1, kOk g (b + (f b nx).1.length) k) ∧ (f b nx).2 < b + (f b nx).1.length ∧ (f b nx).1.length ≤ room

theorem okK_piece {g sg room : Nat} {once : Nat → Nat → List Kind × Nat} (h : OkK g once room) : OkK g (layPiece sg once) (room + 1) := by
  intro b nx hnx
  unfold layPiece
  split
  · obtain ⟨h1, h2, h3⟩ := h b nx hnx
    refine ⟨fun k hk => ?_, by simp, by simp; omega⟩
    simp only [List.length_append, List.length_cons, List.length_nil]
    rw [List.mem_append] at hk
    rcases hk with hk | hk
    · exact (h1 k hk).le (by omega)
    · simp at hk; subst hk; exact ⟨_, _, rfl, by omega, by omega⟩
  · obtain ⟨h1, h2, h3⟩ := h (b + 1) b (by omega)
    split
    · refine ⟨fun k hk => ?_, by simp, by simp; omega⟩
      simp only [List.length_cons]
      rw [List.mem_cons] at hk
      rcases hk with rfl | hk
      · exact ⟨_, _, rfl, by omega, by omega⟩
      · exact (h1 k hk).le (by omega)
    · split
      · refine ⟨fun k hk => ?_, by simp; omega, by simp; omega⟩
        simp only [List.length_cons]
        rw [List.mem_cons] at hk
        rcases hk with rfl | hk
        · exact ⟨_, _, rfl, by omega, by omega⟩
        · exact (h1 k hk).le (by omega)
      · obtain ⟨h1, h2, h3⟩ := h b nx hnx
        exact ⟨h1, h2, by omega⟩
theorem okK_group {g n room : Nat} {f : Nat → Nat → List Kind × Nat} (h : OkK g f room) (hn : n < g) : OkK g (layGroup n f) (room + 2) := by
  intro b nx hnx
  unfold layGroup
  obtain ⟨h1, h2, h3⟩ := h (b + 1) b (by omega)
  refine ⟨fun k hk => ?_, by simp; omega, by simp; omega⟩
  simp only [List.length_cons, List.length_append, List.length_nil]
  simp only [List.mem_cons, List.mem_append, List.mem_nil_iff, or_false] at hk
  rcases hk with rfl | hk | rfl
  · exact ⟨by omega, by omega⟩
  · exact (h1 k hk).le (by omega)
  · exact ⟨by omega, by omega⟩

/-- How many spots at most. -/
def szK : Tr → Nat
  | .nil => 0
  | .set _ _ rest => 2 + szK rest
  | .grp _ rows _ rest => 3 + szK rows + szK rest
  | .row r rest => szK r + 1 + szK rest

theorem layK_ok {g : Nat} : ∀ T, within 0 g T → ∀ b nx, nx < b → (∀ k ∈ (layK T b nx).1, kOk g (b + (layK T b nx).1.length) k) ∧ (layK T b nx).2 < b + (layK T b nx).1.length ∧ (layK T b nx).1.length ≤ szK T := by
  intro T
  induction T with
  | nil => intro _ b nx h; exact ⟨by simp [layK], by simpa [layK] using h, by simp [layK]⟩
  | set s sg rest ih =>
    intro hw b nx hnx
    obtain ⟨h1, h2, h3⟩ := ih hw b nx hnx
    obtain ⟨k1, k2, k3⟩ := okK_piece (sg := sg) (g := g) (room := 1) (once := fun b nx => ([.take s nx], b)) (fun b nx h => ⟨fun k hk => by simp at hk; subst hk; simp [kOk]; omega, by simp, by simp⟩) (b + (layK rest b nx).1.length) (layK rest b nx).2 h2
    simp only [layK, szK, List.length_append]
    refine ⟨fun k hk => ?_, by omega, by omega⟩
    rw [List.mem_append] at hk
    rcases hk with hk | hk
    · exact (h1 k hk).le (by omega)
    · exact (k1 k hk).le (by omega)
  | grp n rows sg rest ih1 ih2 =>
    intro hw b nx hnx
    have hn : n < g := hw.2.1
    obtain ⟨h1, h2, h3⟩ := ih2 hw.2.2.2 b nx hnx
    obtain ⟨k1, k2, k3⟩ := okK_piece (sg := sg) (okK_group (n := n) (ih1 hw.2.2.1) hn) (b + (layK rest b nx).1.length) (layK rest b nx).2 h2
    simp only [layK, szK, List.length_append]
    refine ⟨fun k hk => ?_, by omega, by omega⟩
    rw [List.mem_append] at hk
    rcases hk with hk | hk
    · exact (h1 k hk).le (by omega)
    · exact (k1 k hk).le (by omega)
  | row r rest ih1 ih2 =>
    intro hw b nx hnx
    by_cases hr : rest = .nil
    · subst hr
      obtain ⟨h1, h2, h3⟩ := ih1 hw.1 b nx hnx
      simp only [layK, szK]
      exact ⟨h1, h2, by omega⟩
    · obtain ⟨h1, h2, h3⟩ := ih2 hw.2 b nx hnx
      obtain ⟨k1, k2, k3⟩ := ih1 hw.1 (b + (layK rest b nx).1.length) nx (by omega)
      have e : layK (.row r rest) b nx = ((layK rest b nx).1 ++ ((layK r (b + (layK rest b nx).1.length) nx).1 ++ [.fork [(layK r (b + (layK rest b nx).1.length) nx).2, (layK rest b nx).2]]), b + (layK rest b nx).1.length + (layK r (b + (layK rest b nx).1.length) nx).1.length) := by
        cases rest with
        | nil => exact absurd rfl hr
        | set s sg rest => rfl
        | grp n rows sg rest => rfl
        | row a c => rfl
      rw [e]
      simp only [szK, List.length_append, List.length_cons, List.length_nil]
      refine ⟨fun k hk => ?_, by omega, by omega⟩
      simp only [List.mem_append, List.mem_cons, List.mem_nil_iff, or_false] at hk
      rcases hk with hk | hk | rfl
      · exact (h1 k hk).le (by omega)
      · exact (k1 k hk).le (by omega)
      · exact ⟨_, _, rfl, by omega, by omega⟩

/-- Each spot goes on at one that is there. -/
theorem gra_ok {g : Nat} {T : Tr} (h : within 0 g T) : (∀ k ∈ gra T, kOk g (gra T).length k) ∧ graAt T < (gra T).length ∧ (gra T).length ≤ szK T + 1 := by
  obtain ⟨h1, h2, h3⟩ := layK_ok T h 1 0 (by omega)
  refine ⟨fun k hk => ?_, by simp [gra, graAt]; omega, by simp [gra]; omega⟩
  simp only [gra, List.mem_cons] at hk
  rcases hk with rfl | hk
  · trivial
  · exact (h1 k hk).le (by simp [gra]; omega)

theorem szK_sz : ∀ T, szK T ≤ sz T
  | .nil => Nat.le_refl _
  | .set s sg rest => by have := szK_sz rest; simp [szK, sz]; omega
  | .grp n rows sg rest => by have := szK_sz rest; have := szK_sz rows; simp [szK, sz]; omega
  | .row r rest => by have := szK_sz rest; have := szK_sz r; simp [szK, sz]; omega

end Go.Proofs.Ytaijakomgkageaa
