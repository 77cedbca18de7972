/- The steps that are laid out for a mask, and that they are its parts. Plain mathematics, no program. -/
import Derived.Test.YtndpjdmfkhjiiaaGreatDoorMPar
set_option linter.unusedVariables false
set_option linter.unusedSimpArgs false
namespace Go.Proofs.YtndpjdmfkhjiiaaGreatDoor

/-- Rows (true) or a row (false)? -/
def wf : Bool → Tr → Prop
  | true, .row r .nil => wf false r
  | true, .row r rest => wf false r ∧ wf true rest
  | true, _ => False
  | false, .nil => True
  | false, .set _ _ rest => wf false rest
  | false, .grp _ rows _ rest => wf true rows ∧ wf false rest
  | false, .row _ _ => False
/-- All groups' numbers are from the one to below the other. -/
def within (lo hi : Nat) : Tr → Prop
  | .nil => True
  | .set _ _ rest => within lo hi rest
  | .grp n rows _ rest => lo ≤ n ∧ n < hi ∧ within lo hi rows ∧ within lo hi rest
  | .row r rest => within lo hi r ∧ within lo hi rest
theorem within.le {lo hi lo' hi' : Nat} (h1 : lo' ≤ lo) (h2 : hi ≤ hi') : ∀ {T}, within lo hi T → within lo' hi' T
  | .nil, _ => trivial
  | .set _ _ rest, h => within.le (T := rest) h1 h2 h
  | .grp n rows _ rest, h => ⟨by have := h.1; omega, by have := h.2.1; omega, within.le h1 h2 h.2.2.1, within.le h1 h2 h.2.2.2⟩
  | .row r rest, h => ⟨within.le h1 h2 h.1, within.le h1 h2 h.2⟩

theorem pSign_sg {m n i x} (h : pSign m n i = some (.ok x)) : (x.1 = 0 ∨ x.1 = 42 ∨ x.1 = 43 ∨ x.1 = 63) ∧ (n = true → x.1 = 0 ∨ x.1 = 63) := by
  unfold pSign at h
  split at h
  · rename_i c e
    split at h
    · rename_i hs
      simp only [isSign, Bool.or_eq_true, decide_eq_true_eq] at hs
      split at h
      · cases h
      · rename_i hn
        cases h
        simp only
        refine ⟨by omega, fun hn' => ?_⟩
        subst hn'
        simp at hn
        exact .inr hn
    · cases h; simp
  · cases h; simp
theorem good_signed {sg : Nat} {r : Re} (hr : good r) (hn : nullable r = true → sg = 0 ∨ sg = 63) : good (signed sg r) := by
  unfold signed
  split
  · rename_i h
    refine ⟨hr, ?_⟩
    cases e : nullable r with
    | false => rfl
    | true => have := hn e; omega
  · split
    · rename_i h
      refine ⟨hr, ?_⟩
      cases e : nullable r with
      | false => rfl
      | true => have := hn e; omega
    · split
      · exact ⟨hr, trivial⟩
      · exact hr

theorem wf_row {r rest : Tr} (h1 : wf false r) (h2 : wf true rest) : wf true (.row r rest) := by
  cases rest with
  | nil => exact h1
  | set s sg rest => exact ⟨h1, h2⟩
  | grp n rows sg rest => exact ⟨h1, h2⟩
  | row a b => exact ⟨h1, h2⟩
theorem re_row {r rest : Tr} (h : wf true rest) : re (.row r rest) = .alt (re r) (re rest) := by
  cases rest with
  | nil => exact h.elim
  | set s sg rest => rfl
  | grp n rows sg rest => rfl
  | row a b => rfl

/-- What is read is rows of pieces, each repeated part takes a byte, and the groups are counted. -/
theorem pM_is {m} : ∀ {f rows i g x}, pM m f rows i g = some (.ok x) → wf rows x.1 ∧ good (re x.1) ∧ g ≤ x.2.2 ∧ (g ≤ 9 → x.2.2 ≤ 9) ∧ within g x.2.2 x.1 := by
  intro f
  induction f with
  | zero => intro rows i g x h; cases h
  | succ f ih =>
    intro rows i g x h
    cases rows with
    | true =>
      rw [pM] at h
      rcases bindO_eq h with ⟨_, _, e⟩ | ⟨y, hy, h⟩
      · cases e
      have h1 := ih hy
      split at h
      · rcases bindO_eq h with ⟨_, _, e⟩ | ⟨z, hz, h⟩
        · cases e
        have h2 := ih hz
        cases h
        refine ⟨wf_row h1.1 h2.1, by rw [re_row h2.1]; exact ⟨h1.2.1, h2.2.1⟩, ?_, ?_, ?_, ?_⟩
        · simp only; omega
        · simp only; omega
        · exact h1.2.2.2.2.le (Nat.le_refl _) h2.2.2.1
        · exact h2.2.2.2.2.le h1.2.2.1 (Nat.le_refl _)
      · cases h
        exact ⟨h1.1, h1.2.1, h1.2.2.1, h1.2.2.2.1, h1.2.2.2.2, trivial⟩
    | false =>
      rw [pM] at h
      split at h
      · cases h; exact ⟨trivial, trivial, Nat.le_refl _, fun h => h, trivial⟩
      · rename_i c hc
        split at h
        · cases h; exact ⟨trivial, trivial, Nat.le_refl _, fun h => h, trivial⟩
        · split at h
          · split at h
            · cases h
            · rename_i hg
              rcases bindO_eq h with ⟨_, _, e⟩ | ⟨y, hy, h⟩
              · cases e
              have h1 := ih hy
              split at h
              · rcases bindO_eq h with ⟨_, _, e⟩ | ⟨z, hz, h⟩
                · cases e
                have hz := pSign_sg hz
                rcases bindO_eq h with ⟨_, _, e⟩ | ⟨u, hu, h⟩
                · cases e
                have h2 := ih hu
                cases h
                refine ⟨⟨h1.1, h2.1⟩, ⟨good_signed ⟨trivial, h1.2.1, trivial⟩ ?_, h2.2.1⟩, ?_, ?_, ⟨?_, ?_, ?_, ?_⟩⟩
                · intro hn
                  have hn : nullable (re y.1) = true := by simpa [grpRe, nullable] using hn
                  rw [nothing_re] at hn
                  exact hz.2 hn
                · simp only; omega
                · simp only; omega
                · exact Nat.le_refl _
                · simp only; omega
                · exact h1.2.2.2.2.le (by omega) h2.2.2.1
                · exact h2.2.2.2.2.le (by omega) (Nat.le_refl _)
              · cases h
          · rcases bindO_eq h with ⟨_, _, e⟩ | ⟨y, hy, h⟩
            · cases e
            rcases bindO_eq h with ⟨_, _, e⟩ | ⟨z, hz, h⟩
            · cases e
            rcases bindO_eq h with ⟨_, _, e⟩ | ⟨u, hu, h⟩
            · cases e
            have h2 := ih hu
            cases h
            exact ⟨h2.1, ⟨good_signed trivial (fun hn => by cases hn), h2.2.1⟩, h2.2.2.1, h2.2.2.2.1, h2.2.2.2.2⟩

/-! ### steps -/
inductive St where
  | fin
  | take (s : UInt8 → Bool)
  | mark (slot : Nat)
  | fork (ws : List Nat)
/-- What a step asks for at its place: it goes on at the one behind it, if nothing else is said. -/
def kindAt (n : Nat) : St → Kind
  | .fin => .fin
  | .take s => .take s (n + 1)
  | .mark sl => .mark sl (n + 1)
  | .fork ws => .fork ws
/-- What the nodes of laid out steps ask for. -/
def kinds (S : List St) (n : Nat) : Kind := match S[n]? with | some st => kindAt n st | none => .fin

def again (sg : Nat) : Nat := if sg = 42 ∨ sg = 43 then 1 else 0
def passed (sg : Nat) : Bool := sg = 42 || sg = 63
def sz : Tr → Nat
  | .nil => 0
  | .set _ sg rest => 2 + again sg + sz rest
  | .grp _ rows sg rest => 4 + again sg + sz rows + sz rest
  | .row r rest => sz r + 1 + sz rest
def starts : Tr → Nat → List Nat
  | .row r rest, b => b :: starts rest (b + sz r + 1)
  | _, _ => []
/-- A piece at a place: a fork, its body, and a fork behind it if it is repeated. -/
def pieceC (b sg : Nat) (body : List St) : List St :=
  .fork (if passed sg then [b + 1, b + 1 + body.length + again sg] else [b + 1]) :: (body ++ if again sg = 1 then [.fork [b + 1, b + 2 + body.length]] else [])
/-- The steps of a row, or of rows that go on at `e`, at a place. -/
def comp : Tr → Nat → Nat → List St
  | .nil, _, _ => []
  | .set s sg rest, b, e => pieceC b sg [.take s] ++ comp rest (b + 2 + again sg) e
  | .grp n rows sg rest, b, e =>
    pieceC b sg (.mark (2 * n) :: .fork (starts rows (b + 3)) :: (comp rows (b + 3) (b + 3 + sz rows) ++ [.mark (2 * n + 1)])) ++ comp rest (b + 4 + again sg + sz rows) e
  | .row r rest, b, e => comp r b 0 ++ .fork [e] :: comp rest (b + sz r + 1) e

theorem again_le (sg) : again sg ≤ 1 := by unfold again; split <;> omega
theorem pieceC_length (b sg body) : (pieceC b sg body).length = 1 + body.length + again sg := by
  unfold pieceC
  by_cases h : again sg = 1
  · simp [h]; omega
  · have := again_le sg
    have h0 : again sg = 0 := by omega
    simp [h0]; omega
theorem comp_length : ∀ T b e, (comp T b e).length = sz T := by
  intro T
  induction T with
  | nil => intro b e; rfl
  | set s sg rest ih => intro b e; simp [comp, sz, pieceC_length, ih]
  | grp n rows sg rest ih1 ih2 => intro b e; simp [comp, sz, pieceC_length, ih1, ih2]; omega
  | row r rest ih1 ih2 => intro b e; simp [comp, sz, ih1, ih2]; omega

/-- What is known of nodes: these steps stand from here on. -/
def Gat (b : Nat) (L : List St) (n : Nat) (k : Kind) : Prop := ∃ i st, L[i]? = some st ∧ n = b + i ∧ k = kindAt n st

theorem Gat.left {b L L' n k} (h : Gat b L n k) : Gat b (L ++ L') n k := by
  obtain ⟨i, st, h, rfl, rfl⟩ := h
  exact ⟨i, st, by rw [List.getElem?_append_left (List.getElem?_eq_some_iff.1 h).1]; exact h, rfl, rfl⟩
theorem Gat.right {b L L' n k c} (hc : c = b + L.length) (h : Gat c L' n k) : Gat b (L ++ L') n k := by
  obtain ⟨i, st, h, rfl, rfl⟩ := h
  exact ⟨L.length + i, st, by rw [List.getElem?_append_right (by omega)]; simpa using h, by omega, rfl⟩
theorem Gat.head {b st L n k} (hn : n = b) (hk : k = kindAt b st) : Gat b (st :: L) n k := ⟨0, st, rfl, by omega, by subst hn; exact hk⟩
theorem Gat.tail {b st L n k c} (hc : c = b + 1) (h : Gat c L n k) : Gat b (st :: L) n k := Gat.right (L := [st]) (by simp [hc]) h
theorem Gat.at {b L n k S} (h : Gat b L n k) (hS : ∀ i st, L[i]? = some st → S[b + i]? = some st) : kinds S n = k := by
  obtain ⟨i, st, h, rfl, rfl⟩ := h
  simp [kinds, hS i st h]

theorem code_piece {b sg : Nat} {body : List St} {r : Re} (h : Code (Gat (b + 1) body) [b + 1] (b + 1 + body.length) r) :
    Code (Gat b (pieceC b sg body)) [b] (b + 1 + body.length + again sg) (signed sg r) := by
  have hb : Code (Gat b (pieceC b sg body)) [b + 1] (b + 1 + body.length) r := h.mono (fun n k g => (Gat.left g).tail rfl)
  unfold signed
  split
  · rename_i e
    have e1 : again sg = 1 := by simp [again, e]
    refine .star (c := b + 1) (e := b + 1 + body.length) (.head rfl ?_) hb ?_
    · simp [kindAt, passed, e]
    · refine Gat.tail rfl (Gat.right (c := b + 1 + body.length) (by omega) ?_)
      rw [if_pos e1]
      exact .head rfl (by simp [kindAt, e1]; omega)
  · split
    · rename_i e0 e
      have e1 : again sg = 1 := by simp [again, e]
      refine .jump (ws := [b + 1]) (.head rfl ?_) (.plus (e := b + 1 + body.length) hb ?_)
      · simp [kindAt, passed, e]
      · refine Gat.tail rfl (Gat.right (c := b + 1 + body.length) (by omega) ?_)
        rw [if_pos e1]
        exact .head rfl (by simp [kindAt, e1]; omega)
    · rename_i e0 e2
      have e1 : again sg = 0 := by simp [again, e0, e2]
      rw [e1]
      split
      · rename_i e
        exact .jump (ws := [b + 1, b + 1 + body.length]) (.head rfl (by simp [kindAt, passed, e, again])) (.alt hb .here)
      · rename_i e3
        exact .jump (ws := [b + 1]) (.head rfl (by simp [kindAt, passed, e0, e3])) hb

theorem comp_code : ∀ T, (wf false T → ∀ b e, Code (Gat b (comp T b e)) [b] (b + sz T) (re T)) ∧ (wf true T → ∀ b e, Code (Gat b (comp T b e)) (starts T b) e (re T)) := by
  intro T
  induction T with
  | nil => exact ⟨fun _ b e => .here, fun h => h.elim⟩
  | set s sg rest ih =>
    refine ⟨fun h b e => ?_, fun h => by cases h⟩
    refine .seq (k := b + 2 + again sg) ?_ ?_
    · have := code_piece (b := b) (sg := sg) (body := [.take s]) (r := .set s) (.set (.head rfl rfl))
      have := this.mono (fun n k g => Gat.left (L' := comp rest (b + 2 + again sg) e) g)
      simpa [comp, Nat.add_assoc] using this
    · have := (ih.1 h (b + 2 + again sg) e).mono (fun n k g => Gat.right (b := b) (L := pieceC b sg [.take s]) (by simp [pieceC_length]; omega) g)
      have e2 : b + 2 + again sg + sz rest = b + sz (.set s sg rest) := by simp [sz]; omega
      rw [e2] at this
      exact this
  | grp n rows sg rest ih1 ih2 =>
    refine ⟨fun h b e => ?_, fun h => by cases h⟩
    refine .seq (k := b + 4 + again sg + sz rows) ?_ ?_
    · have hb : Code (Gat (b + 1) (.mark (2 * n) :: .fork (starts rows (b + 3)) :: (comp rows (b + 3) (b + 3 + sz rows) ++ [.mark (2 * n + 1)]))) [b + 1]
          (b + 1 + (.mark (2 * n) :: .fork (starts rows (b + 3)) :: (comp rows (b + 3) (b + 3 + sz rows) ++ [.mark (2 * n + 1)]) : List St).length) (grpRe n (re rows)) := by
        refine .seq (k := b + 2) (.mk (.head rfl rfl)) (.seq (k := b + 3 + sz rows) (.jump (.tail rfl (.head rfl rfl)) ?_) (.mk ?_))
        · exact (ih1.2 h.1 (b + 3) (b + 3 + sz rows)).mono (fun n k g => Gat.tail (c := b + 2) (by omega) (Gat.tail (c := b + 3) (by omega) (Gat.left g)))
        · refine Gat.tail (c := b + 2) (by omega) (Gat.tail (c := b + 3) (by omega) (Gat.right (c := b + 3 + sz rows) (by rw [comp_length]) (.head rfl ?_)))
          simp [kindAt, comp_length]; omega
      have := code_piece (b := b) (sg := sg) hb
      have := this.mono (fun n k g => Gat.left (L' := comp rest (b + 4 + again sg + sz rows) e) g)
      have e2 : b + 1 + (.mark (2 * n) :: .fork (starts rows (b + 3)) :: (comp rows (b + 3) (b + 3 + sz rows) ++ [.mark (2 * n + 1)]) : List St).length + again sg = b + 4 + again sg + sz rows := by simp [comp_length]; omega
      rw [e2] at this
      exact this
    · have := (ih2.1 h.2 (b + 4 + again sg + sz rows) e).mono (fun n' k g => Gat.right (b := b) (L := pieceC b sg (.mark (2 * n) :: .fork (starts rows (b + 3)) :: (comp rows (b + 3) (b + 3 + sz rows) ++ [.mark (2 * n + 1)]))) (by simp [pieceC_length, comp_length]; omega) g)
      have e2 : b + 4 + again sg + sz rows + sz rest = b + sz (.grp n rows sg rest) := by simp [sz]; omega
      rw [e2] at this
      exact this
  | row r rest ih1 ih2 =>
    refine ⟨fun h => h.elim, fun h b e => ?_⟩
    have hr : wf false r := by
      cases rest with
      | nil => exact h
      | set s sg rest => exact h.1
      | grp n rows sg rest => exact h.1
      | row a b => exact h.1
    have hfirst : Code (Gat b (comp (.row r rest) b e)) [b] e (re r) :=
      .land ((ih1.1 hr b 0).mono (fun n k g => Gat.left g)) (Gat.right (c := b + sz r) (by rw [comp_length]) (.head rfl rfl))
    by_cases hn : wf true rest
    · rw [re_row hn]
      exact .alt hfirst ((ih2.2 hn (b + sz r + 1) e).mono (fun n k g => Gat.right (c := b + sz r) (by rw [comp_length]) (Gat.tail rfl g)))
    · have : rest = .nil := by
        cases rest with
        | nil => rfl
        | set s sg rest => exact (hn h.2).elim
        | grp n rows sg rest => exact (hn h.2).elim
        | row a b => exact (hn h.2).elim
      subst this
      exact hfirst

/-- A whole mask's steps. -/
def layC (T : Tr) : List St := .fork (starts T 1) :: (comp T 1 (1 + sz T) ++ [.fin])
theorem layC_length (T) : (layC T).length = 2 + sz T := by simp [layC, comp_length]; omega

/-- WHAT IS LAID OUT FOR A MASK ANSWERS AS THE MASK DOES. -/
theorem layC_answers {T : Tr} (h : wf true T) {t : List UInt8} {f x} (hr : run t f [re T] 0 = some x) : ∃ f', den (kinds (layC T)) t f' 0 0 = some x := by
  have c : Code (Gat 0 (layC T)) [0] (1 + sz T) (re T) :=
    .jump (.head rfl rfl) (((comp_code T).2 h 1 (1 + sz T)).mono (fun n k g => Gat.tail rfl (Gat.left g)))
  refine c.answers (fun n k g => g.at (fun i st h => by simpa using h)) ?_ hr
  have : (layC T)[1 + sz T]? = some .fin := by
    rw [layC, Nat.add_comm, List.getElem?_cons_succ, List.getElem?_append_right (by rw [comp_length]; omega)]
    simp [comp_length]
  simp [kinds, this, kindAt]

/-! ### no step leads out of them -/
/-- Marks are below so many, ways are not beyond a step. -/
def stOk (g last : Nat) : St → Prop
  | .mark sl => sl < 2 * g
  | .fork ws => ∀ w ∈ ws, w ≤ last
  | _ => True
theorem starts_le {T b} : ∀ w ∈ starts T b, w < b + sz T := by
  induction T generalizing b with
  | nil => simp [starts]
  | set => simp [starts]
  | grp => simp [starts]
  | row r rest ih1 ih2 =>
    intro w hw
    simp only [starts, List.mem_cons] at hw
    rcases hw with rfl | hw
    · simp [sz]; omega
    · have := ih2 w hw
      simp [sz]; omega
theorem piece_ok {g last b sg body} (h : ∀ st ∈ body, stOk g last st) (hl : b + 1 + body.length + again sg ≤ last) : ∀ st ∈ pieceC b sg body, stOk g last st := by
  intro st hst
  unfold pieceC at hst
  simp only [List.mem_cons, List.mem_append] at hst
  rcases hst with rfl | hst | hst
  · intro w hw
    split at hw
    · simp only [List.mem_cons, List.mem_nil_iff, or_false] at hw; omega
    · simp only [List.mem_cons, List.mem_nil_iff, or_false] at hw; omega
  · exact h st hst
  · split at hst
    · rename_i e
      simp only [List.mem_cons, List.mem_nil_iff, or_false] at hst
      subst hst
      intro w hw
      simp only [List.mem_cons, List.mem_nil_iff, or_false] at hw; omega
    · simp at hst
theorem comp_ok {g last : Nat} : ∀ T b e, within 0 g T → b + sz T ≤ last → e ≤ last → ∀ st ∈ comp T b e, stOk g last st := by
  intro T
  induction T with
  | nil => intro b e _ _ _ st h; simp [comp] at h
  | set s sg rest ih =>
    intro b e hw hl he st h
    simp only [comp, List.mem_append] at h
    simp only [sz] at hl
    rcases h with h | h
    · exact piece_ok (fun st h => by simp at h; subst h; trivial) (by simp; omega) st h
    · exact ih _ _ hw (by omega) he st h
  | grp n rows sg rest ih1 ih2 =>
    intro b e hw hl he st h
    simp only [comp, List.mem_append] at h
    simp only [sz] at hl
    rcases h with h | h
    · refine piece_ok (fun st h => ?_) (by simp [comp_length]; omega) st h
      simp only [List.mem_cons, List.mem_append, List.mem_nil_iff, or_false] at h
      have := hw.2.1
      rcases h with rfl | rfl | h | rfl
      · simp [stOk]; omega
      · intro w hw'
        have := starts_le w hw'
        omega
      · exact ih1 _ _ hw.2.2.1 (by omega) (by omega) st h
      · simp [stOk]; omega
    · exact ih2 _ _ hw.2.2.2 (by omega) he st h
  | row r rest ih1 ih2 =>
    intro b e hw hl he st h
    simp only [comp, List.mem_append, List.mem_cons] at h
    simp only [sz] at hl
    rcases h with h | rfl | h
    · exact ih1 _ _ hw.1 (by omega) (by omega) st h
    · intro w hw'
      simp only [List.mem_cons, List.mem_nil_iff, or_false] at hw'; omega
    · exact ih2 _ _ hw.2 (by omega) he st h

end Go.Proofs.YtndpjdmfkhjiiaaGreatDoor
