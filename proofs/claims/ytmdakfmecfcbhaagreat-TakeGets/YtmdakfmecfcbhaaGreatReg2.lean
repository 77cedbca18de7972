/- A region that draws its order, one operation of which changes what the others may read: as Reg, with the state ahead of it and behind it. Over any program. -/
import Derived.WalkKit
import Derived.Test.YtmdakfmecfcbhaaGreatKit
import Derived.Test.YtmdakfmecfcbhaaGreatReg
set_option linter.unusedVariables false
set_option linter.unusedSimpArgs false
namespace Go.Proofs.YtmdakfmecfcbhaaGreat
open Go.RowKit

section
variable {P : Program} {ops : Array Oper}

theorem wpAny_state {Q : Exit → Act → World → Prop} {a0 : Act} {w0 : World} (m : Nat) (hB : freeB ops m a0.tmps.size = true)
    (J : (Nat → Bool) → (Nat → Value) → World → Prop)
    (Φ : Nat → Value → Prop)
    (QP : List PanicEntry → World → Prop) (hQP : ∀ ch a w, a.defers = a0.defers → QP ch w → Q (.panic ch) a w)
    (hcond : ∀ i, i < m → ∀ o, ops[i]? = some o → ∀ a w (L : Nat → Bool) (vals : Nat → Value), L i = false → (∀ k, L k = true → ∀ j ∈ edgesB ops k, L j = true) → (∀ j ∈ edgesB ops i, L j = true) → J L vals w → (∀ t, (∀ k, k < m → dstOf ops k ≠ some t) → a.tmps.getD t undef = a0.tmps.getD t undef) → (∀ k ∈ edgesB ops i, slotOf ops a k = vals k) → (∀ k ∈ edgesB ops i, Φ k (slotOf ops a k)) → opYields P ops o a w QP fun v w' => J (fun k => decide (k = i) || L k) (fun k => if k = i then v else vals k) w' ∧ Φ i v)
    (hend : ∀ (vals : Nat → Value) w (L : Nat → Bool), (∀ i, i < m → L i = true) → J L vals w → (∀ i, i < m → Φ i (vals i)) → wpList P ops Q (ops.toList.drop m) (over ops (fun _ => true) vals m a0) w) :
    ∀ (fuel : Nat) (listed : Array Bool) (vals : Nat → Value) (w : World), listed.size = ops.size → (List.range ops.size).countP (fun k => !listed.getD k false) = fuel →
      (∀ i, m ≤ i → listed.getD i false = false) → (∀ i, listed.getD i false = true → ∀ k ∈ edgesB ops i, listed.getD k false = true) → J (fun k => listed.getD k false) vals w → (∀ i, i < m → listed.getD i false = true → Φ i (vals i)) →
      wpAny P .any ops Q fuel listed (over ops (fun k => listed.getD k false) vals m a0) w := by
  have hB' := hB
  simp only [freeB, Bool.and_eq_true, List.all_eq_true, List.mem_range, decide_eq_true_eq, Bool.or_eq_true, List.contains_iff_mem] at hB
  obtain ⟨⟨⟨⟨h1, h2⟩, h3⟩, h4⟩, h5⟩ := hB
  have hdst : ∀ i, i < m → ∃ d, dstOf ops i = some d ∧ d < a0.tmps.size ∧ ∀ k, k < m → k ≠ i → dstOf ops k ≠ some d := by
    intro i hi
    have hh := h3 i hi
    cases hd : dstOf ops i with
    | none => rw [hd] at hh; simp at hh
    | some d =>
      rw [hd] at hh
      simp only [Bool.and_eq_true, decide_eq_true_eq, List.all_eq_true, List.mem_range, bne_iff_ne] at hh
      refine ⟨d, rfl, hh.1, fun k hk hne => ?_⟩
      rcases Nat.lt_or_gt_of_ne hne with hlt | hgt
      · exact hh.2 k hlt
      · intro e
        have hk' := h3 k hk
        rw [e] at hk'
        simp only [Bool.and_eq_true, decide_eq_true_eq, List.all_eq_true, List.mem_range, bne_iff_ne] at hk'
        exact hk'.2 i hgt hd
  intro fuel
  induction fuel with
  | zero =>
    intro listed vals w hs hc hge hcl hG hΦ
    have hall : ∀ k, k < ops.size → listed.getD k false = true := by
      intro k hk
      rw [List.countP_eq_zero] at hc
      have := hc k (by simpa using hk)
      simpa using this
    have hmn : m = ops.size := by
      rcases Nat.lt_or_ge m ops.size with h | h
      · have := hall m h
        rw [hge m (Nat.le_refl _)] at this
        cases this
      · omega
    refine wpAny_forced hB' 0 m listed _ w (Nat.le_refl _) (by omega) hs (fun k hk => by rw [hall k hk]; simp; omega) ?_
    rw [over_congr (L' := fun _ => true) (vals' := vals) a0 m (fun k hk => hall k (by omega)) (fun _ _ => rfl)]
    exact hend vals w _ (fun i hi => hall i (by omega)) hG fun i hi => hΦ i hi (hall i (by omega))
  | succ fuel ih =>
    intro listed vals w hs hc hge hcl hG hΦ
    by_cases hall : ∀ k, k < m → listed.getD k false = true
    · refine wpAny_forced hB' (fuel + 1) m listed _ w (Nat.le_refl _) ?_ hs (fun k hk => ?_) ?_
      · have hcount : (List.range ops.size).countP (fun k => !listed.getD k false) = (List.range ops.size).countP (fun k => decide (m ≤ k)) := by
          apply List.countP_congr
          intro k hk
          by_cases h : k < m
          · simp [hall k h, h]
          · have := hge k (by omega)
            simp [this]; omega
        have hsplit : ∀ n, m ≤ n → (List.range n).countP (fun k => decide (m ≤ k)) = n - m := by
          intro n
          induction n with
          | zero => intro h; simp
          | succ n ihn =>
            intro h
            rw [List.range_succ, List.countP_append]
            by_cases h' : m ≤ n
            · rw [ihn h']; simp [h']; omega
            · have e : m = n + 1 := by omega
              have : (List.range n).countP (fun k => decide (m ≤ k)) = 0 := by
                rw [List.countP_eq_zero]
                intro k hk
                simp at hk ⊢; omega
              rw [this]; simp [h']; omega
        rw [hcount, hsplit _ h1] at hc
        omega
      · by_cases h : k < m
        · rw [hall k h]; simp [h]
        · rw [hge k (by omega)]; simp [h]
      · rw [over_congr (L' := fun _ => true) (vals' := vals) a0 m (fun k hk => hall k hk) (fun _ _ => rfl)]
        exact hend vals w _ (fun i hi => hall i hi) hG fun i hi => hΦ i hi (hall i hi)
    · -- one that is ready is among the first m
      have hlow : ∀ i, i ∈ Region.ready .any ops listed → i < m := by
        intro i hi
        obtain ⟨h0, hlt, he⟩ := ready_iff.1 hi
        rcases Nat.lt_or_ge i m with h | h
        · exact h
        · exfalso
          by_cases e : i = m
          · subst e
            rcases h4 with h4 | h4
            · omega
            · exact hall fun k hk => anc_listed hcl i i k he (h4 k hk)
          · have hmem := (h5 i hlt).resolve_left (by omega)
            have := he _ hmem
            rw [hge _ (by omega)] at this
            cases this
      have hfull : ∀ i, i < ops.size → listed.getD i true = listed.getD i false := fun i hi => by simp [Array.getD, hs, hi]
      refine ⟨fun h0 => ?_, fun i hi => ?_⟩
      · exfalso
        -- the least that is not listed is ready
        have hex : ∃ k, k < m ∧ listed.getD k false = false := by
          rcases Classical.em (∃ k, k < m ∧ listed.getD k false = false) with h | h
          · exact h
          · exfalso
            apply hall
            intro k hk
            cases hv : listed.getD k false with
            | true => rfl
            | false => exact absurd ⟨k, hk, hv⟩ h
        have least : ∀ n, (∃ k, k < n ∧ k < m ∧ listed.getD k false = false) → ∃ k, k < m ∧ listed.getD k false = false ∧ ∀ j, j < k → listed.getD j false = true := by
          intro n
          induction n with
          | zero => rintro ⟨k, hk, _⟩; omega
          | succ n ihn =>
            rintro ⟨k, hk, hkm, hv⟩
            by_cases h : ∃ k, k < n ∧ k < m ∧ listed.getD k false = false
            · exact ihn h
            · refine ⟨k, hkm, hv, fun j hj => ?_⟩
              cases hvj : listed.getD j false with
              | true => rfl
              | false => exact absurd ⟨j, by omega, by omega, hvj⟩ h
        obtain ⟨k, hk, hv⟩ := hex
        obtain ⟨k, hk, hv, hle⟩ := least m ⟨k, hk, hk, hv⟩
        have : k ∈ Region.ready .any ops listed := ready_iff.2 ⟨by rw [hfull k (by omega)]; exact hv, by omega, fun j hj => hle j (h2 k (by omega) j hj)⟩
        rw [h0] at this
        cases this
      · have him := hlow i hi
        obtain ⟨h0, hlt, he⟩ := ready_iff.1 hi
        rw [hfull i hlt] at h0
        have ho : ops[i]? = some ops[i] := Array.getElem?_eq_getElem hlt
        obtain ⟨d, hd, hds, hdn⟩ := hdst i him
        have hdo : ops[i].dst = dstOf ops i := by simp [dstOf, ho]
        refine wpOp_of_yields ho (hcond i him _ ho _ w (fun k => listed.getD k false) vals h0 hcl he hG (fun t ht => over_off a0 t m ht) (fun k hk => ?_) (fun k hk => ?_)) (fun v w' ⟨hJJ, hp⟩ => ?_) (fun ch w' hq => hQP ch _ w' (over_defers a0 m) hq)
        · have hki := h2 i hlt k hk
          obtain ⟨d', hd', hds', hdn'⟩ := hdst k (by omega)
          have hLk := he k hk
          have := over_at (vals := vals) (L := fun k => listed.getD k false) a0 k d' hLk hd' hds' m (by omega) hdn'
          simp only [slotOf, hd', this]
        · have hki := h2 i hlt k hk
          obtain ⟨d', hd', hds', hdn'⟩ := hdst k (by omega)
          have hLk := he k hk
          have := over_at (vals := vals) (L := fun k => listed.getD k false) a0 k d' hLk hd' hds' m (by omega) hdn'
          simp only [slotOf, hd', this]
          exact hΦ k (by omega) hLk
        · have hL : (fun k => (listed.setIfInBounds i true).getD k false) = fun k => if k = i then true else listed.getD k false := by
            funext k
            by_cases e : k = i
            · subst e; simp [hs, hlt]
            · rw [getD_set_ne false (fun h => e h.symm), if_neg e]
          rw [hdo, ← over_put a0 i v h0 m him (fun k hk hn d2 h2' => by rw [hd] at h2'; cases h2'; exact hdn k hk hn), ← hL]
          refine ih (listed.setIfInBounds i true) (fun k => if k = i then v else vals k) w' (by simpa using hs) ?_ ?_ ?_ (by
            have e : (fun k => (listed.setIfInBounds i true).getD k false) = fun k => decide (k = i) || listed.getD k false := by
              rw [hL]
              funext k
              by_cases e : k = i <;> simp [e]
            rw [e]
            exact hJJ) ?_
          · have := countP_upd (p := fun k => !listed.getD k false) (p' := fun k => !(listed.setIfInBounds i true).getD k false) (List.range ops.size) List.nodup_range (by simpa using hlt) (by simp [h0]) (by simp [hs, hlt]) (fun k hk => by rw [getD_set_ne false (fun h => hk h.symm)])
            omega
          · intro k hk
            rw [getD_set_ne false (by omega)]
            exact hge k hk
          · intro k hk j hj
            by_cases e : k = i
            · subst e
              exact getD_set_true (he j hj)
            · rw [getD_set_ne false (fun h => e h.symm)] at hk
              exact getD_set_true (hcl k hk j hj)
          · intro k hk hLk
            by_cases e : k = i
            · subst e; simp only [if_true]; exact hp
            · rw [getD_set_ne false (fun h => e h.symm)] at hLk
              simp only [e, if_false]
              exact hΦ k hk hLk

/-- A region that draws its order. -/
theorem wp_region_state {id : Nat} {l : List Oper} {Q : Exit → Act → World → Prop} {a0 : Act} {w0 : World} (m sz : Nat) (hm : P.follows .mixedOrders = true) (hsz : a0.tmps.size = sz) (hB : freeB l.toArray m sz = true)
    (J : (Nat → Bool) → (Nat → Value) → World → Prop) (hG0 : ∀ L vals, (∀ i, L i = false) → J L vals w0.drew)
    (Φ : Nat → Value → Prop)
    (QP : List PanicEntry → World → Prop) (hQP : ∀ ch a w, a.defers = a0.defers → QP ch w → Q (.panic ch) a w)
    (hcond : ∀ i, i < m → ∀ o, l.toArray[i]? = some o → ∀ a w (L : Nat → Bool) (vals : Nat → Value), L i = false → (∀ k, L k = true → ∀ j ∈ edgesB l.toArray k, L j = true) → (∀ j ∈ edgesB l.toArray i, L j = true) → J L vals w → (∀ t, (∀ k, k < m → dstOf l.toArray k ≠ some t) → a.tmps.getD t undef = a0.tmps.getD t undef) → (∀ k ∈ edgesB l.toArray i, slotOf l.toArray a k = vals k) → (∀ k ∈ edgesB l.toArray i, Φ k (slotOf l.toArray a k)) → opYields P l.toArray o a w QP fun v w' => J (fun k => decide (k = i) || L k) (fun k => if k = i then v else vals k) w' ∧ Φ i v)
    (hend : ∀ (vals : Nat → Value) w (L : Nat → Bool), (∀ i, i < m → L i = true) → J L vals w → (∀ i, i < m → Φ i (vals i)) → wpList P l.toArray Q (l.drop m) (over l.toArray (fun _ => true) vals m a0) w) :
    (Code.region id l.toArray true).wp P Q a0 w0 := by
  subst hsz
  refine wp_region_any hm ?_
  have h := wpAny_state (P := P) (ops := l.toArray) (Q := Q) (a0 := a0) (w0 := w0.drew) m hB J Φ QP hQP hcond (by simpa using hend) l.toArray.size (Array.replicate l.toArray.size false) (fun _ => undef) w0.drew (by simp)
    (by
      rw [List.countP_eq_length.2]
      · simp
      · intro k hk
        simp [Array.getD])
    (by intro i _; simp [Array.getD])
    (by intro i hi; simp [Array.getD] at hi) (hG0 _ _ (fun i => by simp [Array.getD])) (by intro i _ hi; simp [Array.getD] at hi)
  have e : over l.toArray (fun k => (Array.replicate l.toArray.size false).getD k false) (fun _ => undef) m a0 = a0 := by
    have : ∀ m, over l.toArray (fun k => (Array.replicate l.toArray.size false).getD k false) (fun _ => undef) m a0 = a0 := by
      intro m
      induction m with
      | zero => rfl
      | succ m ih =>
        simp only [over]
        rw [if_neg (by simp [Array.getD]), ih]
    exact this m
  rw [e] at h
  exact h
/-- An append among them. -/
theorem yields_append {o : Oper} {a : Act} {w : World} {QP : List PanicEntry → World → Prop} {R : Value → World → Prop} (hgd : o.guard = none) (s x : Operand) (t u : TypeId)
    (ho : o.op = .call { callee := .builtin .append, args := #[s, x], argTypes := #[t, u] }) {v1 v2 v' : Value} {w' : World} (hs : a.eval s = v1) (hx : a.eval x = v2)
    (hr : (Builtin.append_ #[t, u] o.type #[v1, v2]).run P w = .ok v' w') (h : R v' w') : opYields P ops o a w QP R := by
  unfold opYields
  rw [if_pos (by simp [Region.wanted, hgd])]
  unfold execOp
  simp only [ho, resolve, invoke, builtin, Sem.run_bind, Sem.run_pure, Result.andThen_ok, List.map_toArray, List.map_cons, List.map_nil, hs, hx, hr]
  exact h
end
end Go.Proofs.YtmdakfmecfcbhaaGreat
