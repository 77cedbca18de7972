/- 3 texts in one. -/
import Derived.Lib.Join
import Derived.Test.YtkaeogldielkfaaGreatProg
import Derived.Test.YtkaeogldielkfaaGreatKabe2b5f
import Derived.Test.YtkaeogldielkfaaGreatKa96aaab
import Derived.Test.YtkaeogldielkfaaGreatK8b95b1a
import Derived.Test.YtkaeogldielkfaaGreatKa7e3600
import Derived.Test.YtkaeogldielkfaaGreatK7731767
import Derived.Test.YtkaeogldielkfaaGreatKd1f2bd3
import Derived.Laws.OwnMore
import Derived.BigQuiet
set_option linter.unusedVariables false
set_option linter.unusedSimpArgs false
namespace Go.Proofs.YtkaeogldielkfaaGreat.Rc
open Go.RowKit Lb
theorem text_form {a : List Lab} (ha : checkB a = 0) (na : a ≠ []) : (others a = [] ∧ Lb.textB a = escB (valueB a ownN)) ∨
    ∃ x q, x ∈ others a ∧ Lb.textB a = escB (valueB a ownN ++ 123 :: (x.1 ++ [61])) ++ 34 :: q ∧ q ≠ [] ∧ Lb.textB a = escB (valueB a ownN) ++ ([123] ++ (Lib.join (othersB a) [44] ++ [125])) := by
  cases ho : others a with
  | nil =>
    refine .inl ⟨rfl, ?_⟩
    unfold Lb.textB
    rw [if_pos ⟨by unfold othersB; rw [ho]; rfl, na⟩]
  | cons x r =>
    have hx : x ∈ others a := by rw [ho]; simp
    have hn := others_name ha x hx
    have e0 : Lb.textB a = escB (valueB a ownN) ++ ([123] ++ (Lib.join (othersB a) [44] ++ [125])) := by
      unfold Lb.textB
      rw [if_neg (fun h => by have := h.1; unfold othersB at this; rw [ho] at this; simp at this)]
    refine .inr ⟨x, escB x.2 ++ 34 :: (Lib.joinTail [44] (r.map itemB) ++ [125]), by simp, ?_, by simp, e0⟩
    rw [e0]
    have e1 : othersB a = itemB x :: r.map itemB := by unfold othersB; rw [ho]; rfl
    rw [e1, Lib.join_cons, escB_append, escB_cons, escB_append, name_esc hn]
    have h1 : escC 123 = [123] := by decide
    have h2 : escB [61] = [61] := by decide
    rw [h1, h2]
    unfold itemB
    simp
theorem esc_one {u v : List UInt8} (h : escB u = escB v) : u = v := (escB_inj (u := u) (v := v) (x := []) (y := []) (by rw [h])).1
theorem split_last {c : UInt8} {a b x y : List UInt8} (hx : c ∉ x) (hy : c ∉ y) (h : a ++ c :: x = b ++ c :: y) : a = b := by
  have h2 := congrArg List.reverse h
  simp only [List.reverse_append, List.reverse_cons, List.append_assoc, List.cons_append, List.nil_append] at h2
  have := (split_at (c := c) (by simpa using hx) (by simpa using hy) h2).2
  exact List.reverse_inj.1 this
/-- Labels that are right, and some, have a text of their own. -/
theorem text_inj2 {a b : List Lab} (ha : checkB a = 0) (hb : checkB b = 0) (na : a ≠ []) (nb : b ≠ []) (h : Lb.textB a = Lb.textB b) : a = b := by
  rcases text_form ha na with ⟨oa, ta⟩ | ⟨x, q, hx, ta, hq, ja⟩ <;> rcases text_form hb nb with ⟨ob, tb⟩ | ⟨y, r, hy, tb, hr, jb⟩
  · rw [ta, tb] at h
    exact by_parts ha hb (by rw [oa, ob]) (esc_one h)
  · exfalso
    rw [ta, tb] at h
    have h2 : escB (valueB a ownN) ++ 34 :: [] = escB (valueB b ownN ++ 123 :: (y.1 ++ [61])) ++ 34 :: (r ++ [34]) := by rw [h]; simp
    have := (escB_inj h2).2
    simp at this
  · exfalso
    rw [ta, tb] at h
    have h2 : escB (valueB b ownN) ++ 34 :: [] = escB (valueB a ownN ++ 123 :: (x.1 ++ [61])) ++ 34 :: (q ++ [34]) := by rw [← h]; simp
    have := (escB_inj h2).2
    simp at this
  · have hv : valueB a ownN = valueB b ownN := by
      rw [ta, tb] at h
      have h1 := (escB_inj h).1
      have hnx : (123 : UInt8) ∉ x.1 ++ [61] := by
        have := name_not (c := 123) (others_name ha x hx) (by decide) (by decide)
        simp [this]
      have hny : (123 : UInt8) ∉ y.1 ++ [61] := by
        have := name_not (c := 123) (others_name hb y hy) (by decide) (by decide)
        simp [this]
      exact split_last hnx hny h1
    rw [ja, jb, hv] at h
    have h3 := List.append_cancel_left (List.append_cancel_left h)
    have h4 := List.append_cancel_right h3
    exact by_parts ha hb (join_inj (others_name ha) (others_name hb) h4) hv
theorem textAns_inj {a b : List Lab} (ha : checkB a = 0) (hb : checkB b = 0) (na : 0 < a.length) (nb : 0 < b.length) (h : textAns a = textAns b) : a = b := by
  rw [textAns_ok ha, textAns_ok hb] at h
  exact text_inj2 ha hb (List.length_pos_iff.1 na) (List.length_pos_iff.1 nb) h
/-! ### what is known -/
structure Knw where
  refs : List RefL
  lasts : List Int
  has : List Bool
def readsInt (w : World) (B : Nat) (v : Value) (ns : List Int) : Prop := ∃ ao cp, v = .slice ao ns.length cp ∧ ∀ i (h : i < ns.length), ∃ b o, ao = some ⟨b, o, none⟩ ∧ b < B ∧ w.cell? ⟨b, o + i, none⟩ = some (.int .i64 ns[i])
def readsBool (w : World) (B : Nat) (v : Value) (ns : List Bool) : Prop := ∃ ao cp, v = .slice ao ns.length cp ∧ ∀ i (h : i < ns.length), ∃ b o, ao = some ⟨b, o, none⟩ ∧ b < B ∧ w.cell? ⟨b, o + i, none⟩ = some (.bool ns[i])
theorem readsInt.keep {w w' : World} {B : Nat} {v : Value} {ns : List Int} (h : readsInt w B v ns) (g : Below B w w') : readsInt w' B v ns := by
  obtain ⟨ao, cp, hv, h⟩ := h
  refine ⟨ao, cp, hv, fun i hi => ?_⟩
  obtain ⟨b, o, e, hb, c⟩ := h i hi
  exact ⟨b, o, e, hb, (g.cell (p := ⟨b, _, none⟩) hb).trans c⟩
theorem readsInt.more {w : World} {B B' : Nat} {v : Value} {ns : List Int} (h : readsInt w B v ns) (hB : B ≤ B') : readsInt w B' v ns := by
  obtain ⟨ao, cp, hv, h⟩ := h
  exact ⟨ao, cp, hv, fun i hi => by obtain ⟨b, o, e, hb, c⟩ := h i hi; exact ⟨b, o, e, by omega, c⟩⟩
theorem readsBool.keep {w w' : World} {B : Nat} {v : Value} {ns : List Bool} (h : readsBool w B v ns) (g : Below B w w') : readsBool w' B v ns := by
  obtain ⟨ao, cp, hv, h⟩ := h
  refine ⟨ao, cp, hv, fun i hi => ?_⟩
  obtain ⟨b, o, e, hb, c⟩ := h i hi
  exact ⟨b, o, e, hb, (g.cell (p := ⟨b, _, none⟩) hb).trans c⟩
theorem readsBool.more {w : World} {B B' : Nat} {v : Value} {ns : List Bool} (h : readsBool w B v ns) (hB : B ≤ B') : readsBool w B' v ns := by
  obtain ⟨ao, cp, hv, h⟩ := h
  exact ⟨ao, cp, hv, fun i hi => by obtain ⟨b, o, e, hb, c⟩ := h i hi; exact ⟨b, o, e, by omega, c⟩⟩
/-- What is wrong with the i-th one. -/
def oneErr (k : Knw) (i : Nat) : Nat :=
  if refErr (k.refs.getD i (0, [])) ≠ 0 then refErr (k.refs.getD i (0, []))
  else if timeErr (k.lasts.getD i 0) ≠ 0 then 3
  else if k.has.getD i false = false ∧ k.lasts.getD i 0 ≠ 0 then 1
  else if 0 < i ∧ (k.refs.getD i (0, [])).1 ≤ (k.refs.getD (i - 1) (0, [])).1 then 4 else 0
def firstErr (k : Knw) : Nat → Nat
  | 0 => 0
  | n + 1 => if firstErr k n ≠ 0 then firstErr k n else oneErr k n
/-- Have two the same labels? -/
def dupB (l : List RefL) : Bool := !decide ((l.map (·.2)).Nodup)
theorem dupB_false {l : List RefL} : dupB l = false ↔ ∀ i j (hi : i < l.length) (hj : j < l.length), i < j → l[i].2 ≠ l[j].2 := by
  unfold dupB
  rw [Bool.not_eq_false', decide_eq_true_iff]
  unfold List.Nodup
  rw [List.pairwise_map, List.pairwise_iff_getElem]
def knwErr (k : Knw) : Nat :=
  if k.lasts.length ≠ k.refs.length ∨ k.has.length ≠ k.refs.length then 1
  else if 1000 < k.refs.length then 2
  else if firstErr k k.refs.length ≠ 0 then firstErr k k.refs.length
  else if dupB k.refs = true then 6 else 0
theorem firstErr_none {k : Knw} : ∀ {n : Nat}, (∀ i, i < n → oneErr k i = 0) → firstErr k n = 0
  | 0, _ => rfl
  | n + 1, h => by
    rw [firstErr, firstErr_none (n := n) fun i hi => h i (by omega), if_neg (by simp)]
    exact h n (by omega)
theorem oneErr_of {k : Knw} {n : Nat} (h : firstErr k n = 0) : ∀ i, i < n → oneErr k i = 0 := by
  induction n with
  | zero => intro i hi; omega
  | succ n ih =>
    intro i hi
    rw [firstErr] at h
    by_cases h0 : firstErr k n = 0
    · rw [if_neg (by omega)] at h
      by_cases e : i = n
      · subst e; exact h
      · exact ih h0 i (by omega)
    · rw [if_pos h0] at h; exact absurd h h0
theorem oneErr_ref {k : Knw} {i : Nat} (h : oneErr k i = 0) : refErr (k.refs.getD i (0, [])) = 0 := by
  unfold oneErr at h
  by_cases h0 : refErr (k.refs.getD i (0, [])) = 0
  · exact h0
  · rw [if_pos h0] at h; exact h
def readsKnw (w : World) (B : Nat) (vr vl vh : Value) (k : Knw) : Prop := readsRefs w B vr k.refs ∧ readsInt w B vl k.lasts ∧ readsBool w B vh k.has
theorem readsKnw.keep {w w' : World} {B : Nat} {vr vl vh : Value} {k : Knw} (h : readsKnw w B vr vl vh k) (g : Below B w w') : readsKnw w' B vr vl vh k := ⟨h.1.keep g, h.2.1.keep g, h.2.2.keep g⟩
theorem readsKnw.more {w : World} {B B' : Nat} {vr vl vh : Value} {k : Knw} (h : readsKnw w B vr vl vh k) (hB : B ≤ B') : readsKnw w B' vr vl vh k := ⟨h.1.more hB, h.2.1.more hB, h.2.2.more hB⟩
/-- A ref, its last time, and if it has one. -/
abbrev Kp := RefL × Int × Bool
structure Dist (M : List Kp) : Prop where
  num : (M.map (·.1.1)).Nodup
  lab : (M.map (·.1.2)).Nodup
def rightM (M : List Kp) : Prop := ∀ x ∈ M, refErr x.1 = 0
/-- Is a ref known? 0: no. 1: yes. 2: its number is known with other labels, or its labels with another number. -/
def knowsR (M : List Kp) (x : RefL) : Nat := if x ∈ M.map (·.1) then 1 else if ∃ y ∈ M, y.1.1 = x.1 ∨ y.1.2 = x.2 then 2 else 0
def idxNum (M : List Kp) (n : Int) : Option Nat := M.findIdx? fun y => y.1.1 == n
def idxTxt (M : List Kp) (T : List UInt8) : Option Nat := M.findIdx? fun y => textAns y.1.2 == T
theorem idxNum_some {M : List Kp} {n : Int} {i : Nat} (h : idxNum M n = some i) : ∃ hi : i < M.length, M[i].1.1 = n := by
  obtain ⟨hi, h1, _⟩ := List.findIdx?_eq_some_iff_getElem.1 h
  exact ⟨hi, by simpa using h1⟩
theorem idxNum_none {M : List Kp} {n : Int} (h : idxNum M n = none) : ∀ y ∈ M, y.1.1 ≠ n := fun y hy => by simpa using List.findIdx?_eq_none_iff.1 h y hy
theorem idxTxt_some {M : List Kp} {T : List UInt8} {i : Nat} (h : idxTxt M T = some i) : ∃ hi : i < M.length, textAns M[i].1.2 = T := by
  obtain ⟨hi, h1, _⟩ := List.findIdx?_eq_some_iff_getElem.1 h
  exact ⟨hi, by simpa using h1⟩
theorem idxTxt_none {M : List Kp} {T : List UInt8} (h : idxTxt M T = none) : ∀ y ∈ M, textAns y.1.2 ≠ T := fun y hy => by simpa using List.findIdx?_eq_none_iff.1 h y hy
theorem idxNum_snoc (M : List Kp) (x : Kp) (n : Int) : idxNum (M ++ [x]) n = (idxNum M n).or (if x.1.1 = n then some M.length else none) := by
  unfold idxNum
  rw [List.findIdx?_append]
  congr 1
  by_cases h : x.1.1 = n
  · simp [List.findIdx?_cons, h]
  · simp [List.findIdx?_cons, h]
theorem idxTxt_snoc (M : List Kp) (x : Kp) (T : List UInt8) : idxTxt (M ++ [x]) T = (idxTxt M T).or (if textAns x.1.2 = T then some M.length else none) := by
  unfold idxTxt
  rw [List.findIdx?_append]
  congr 1
  by_cases h : textAns x.1.2 = T
  · simp [List.findIdx?_cons, h]
  · simp [List.findIdx?_cons, h]
theorem Dist.numEq {M : List Kp} (h : Dist M) {i j : Nat} (hi : i < M.length) (hj : j < M.length) (e : M[i].1.1 = M[j].1.1) : i = j := by
  have h1 : (M.map (·.1.1))[i]'(by simpa using hi) = (M.map (·.1.1))[j]'(by simpa using hj) := by simpa using e
  exact (List.getElem_inj h.num).1 h1
theorem Dist.labEq {M : List Kp} (h : Dist M) {i j : Nat} (hi : i < M.length) (hj : j < M.length) (e : M[i].1.2 = M[j].1.2) : i = j := by
  have h1 : (M.map (·.1.2))[i]'(by simpa using hi) = (M.map (·.1.2))[j]'(by simpa using hj) := by simpa using e
  exact (List.getElem_inj h.lab).1 h1
theorem text_inj3 {x y : RefL} (hx : refErr x = 0) (hy : refErr y = 0) (h : textAns x.2 = textAns y.2) : x.2 = y.2 := by
  obtain ⟨_, nx, cx⟩ := refErr_zero hx
  obtain ⟨_, ny, cy⟩ := refErr_zero hy
  exact textAns_inj cx cy nx ny h
/-- What two look-ups tell. -/
theorem knows_ways {M : List Kp} {x : RefL} (hd : Dist M) (hr : rightM M) (hx : refErr x = 0) :
    (knowsR M x = 1 ∧ ∃ i, idxNum M x.1 = some i ∧ idxTxt M (textAns x.2) = some i) ∨ (knowsR M x = 0 ∧ idxNum M x.1 = none ∧ idxTxt M (textAns x.2) = none) ∨
    (knowsR M x = 2 ∧ ((∃ i, idxNum M x.1 = some i ∧ idxTxt M (textAns x.2) = none) ∨ (∃ i, idxNum M x.1 = none ∧ idxTxt M (textAns x.2) = some i) ∨ ∃ i j, idxNum M x.1 = some i ∧ idxTxt M (textAns x.2) = some j ∧ i ≠ j)) := by
  have mem_of : ∀ {i : Nat} (hi : i < M.length), M[i].1.1 = x.1 → M[i].1.2 = x.2 → x ∈ M.map (·.1) := fun hi e1 e2 => List.mem_map.2 ⟨M[_], List.getElem_mem hi, Prod.ext e1 e2⟩
  have two_of : x ∉ M.map (·.1) → (∃ y ∈ M, y.1.1 = x.1 ∨ y.1.2 = x.2) → knowsR M x = 2 := fun h1 h2 => by unfold knowsR; rw [if_neg h1, if_pos h2]
  cases hn : idxNum M x.1 with
  | none =>
    have h1 := idxNum_none hn
    have hno : x ∉ M.map (·.1) := fun h => by
      obtain ⟨y, hy, e⟩ := List.mem_map.1 h
      exact h1 y hy (by rw [e])
    cases ht : idxTxt M (textAns x.2) with
    | none =>
      have h2 := idxTxt_none ht
      refine .inr (.inl ⟨?_, rfl, rfl⟩)
      unfold knowsR
      rw [if_neg hno, if_neg]
      rintro ⟨y, hy, e | e⟩
      · exact h1 y hy e
      · exact h2 y hy (by rw [e])
    | some j =>
      obtain ⟨hj, e⟩ := idxTxt_some ht
      refine .inr (.inr ⟨two_of hno ⟨M[j], List.getElem_mem hj, .inr (text_inj3 (hr _ (List.getElem_mem hj)) hx e)⟩, .inr (.inl ⟨j, rfl, rfl⟩)⟩)
  | some i =>
    obtain ⟨hi, ei⟩ := idxNum_some hn
    cases ht : idxTxt M (textAns x.2) with
    | none =>
      have h2 := idxTxt_none ht
      refine .inr (.inr ⟨two_of (fun h => ?_) ⟨M[i], List.getElem_mem hi, .inl ei⟩, .inl ⟨i, rfl, rfl⟩⟩)
      obtain ⟨y, hy, e⟩ := List.mem_map.1 h
      exact h2 y hy (by rw [e])
    | some j =>
      obtain ⟨hj, ej⟩ := idxTxt_some ht
      have ej2 := text_inj3 (hr _ (List.getElem_mem hj)) hx ej
      by_cases e : i = j
      · subst e
        refine .inl ⟨?_, i, rfl, rfl⟩
        unfold knowsR
        rw [if_pos (mem_of hi ei ej2)]
      · refine .inr (.inr ⟨two_of (fun h => ?_) ⟨M[i], List.getElem_mem hi, .inl ei⟩, .inr (.inr ⟨i, j, rfl, rfl, e⟩)⟩)
        obtain ⟨y, hy, e2⟩ := List.mem_map.1 h
        obtain ⟨k, hk, rfl⟩ := List.getElem_of_mem hy
        exact e ((hd.numEq hi hk (by rw [ei, e2])).trans (hd.labEq hk hj (by rw [ej2, e2])))
theorem knowsR_new {M : List Kp} {x : RefL} (h : knowsR M x = 0) : ∀ y ∈ M, y.1.1 ≠ x.1 ∧ y.1.2 ≠ x.2 := by
  unfold knowsR at h
  split at h
  · cases h
  · split at h
    · cases h
    · rename_i hn
      intro y hy
      exact ⟨fun e => hn ⟨y, hy, .inl e⟩, fun e => hn ⟨y, hy, .inr e⟩⟩
theorem knowsR_of {M : List Kp} {x : RefL} (h : ∀ y ∈ M, y.1.1 ≠ x.1 ∧ y.1.2 ≠ x.2) : knowsR M x = 0 := by
  unfold knowsR
  rw [if_neg, if_neg]
  · rintro ⟨y, hy, e | e⟩
    · exact (h y hy).1 e
    · exact (h y hy).2 e
  · intro hm
    obtain ⟨y, hy, e⟩ := List.mem_map.1 hm
    exact (h y hy).1 (by rw [e])
theorem knowsR_mem {M : List Kp} {x : RefL} : knowsR M x = 1 ↔ x ∈ M.map (·.1) := by
  unfold knowsR
  constructor
  · intro h
    split at h
    · assumption
    · split at h <;> cases h
  · intro h; rw [if_pos h]
theorem knowsR_lt (M : List Kp) (x : RefL) : knowsR M x = 0 ∨ knowsR M x = 1 ∨ knowsR M x = 2 := by
  unfold knowsR
  split
  · exact .inr (.inl rfl)
  · split
    · exact .inr (.inr rfl)
    · exact .inl rfl
theorem Dist.snoc {M : List Kp} {x : Kp} (hd : Dist M) (h : knowsR M x.1 = 0) : Dist (M ++ [x]) := by
  have hn := knowsR_new h
  refine ⟨?_, ?_⟩
  · rw [List.map_append, List.nodup_append]
    refine ⟨hd.num, by simp, fun a ha b hb e => ?_⟩
    obtain ⟨y, hy, rfl⟩ := List.mem_map.1 ha
    simp at hb
    exact (hn y hy).1 (by rw [e, hb])
  · rw [List.map_append, List.nodup_append]
    refine ⟨hd.lab, by simp, fun a ha b hb e => ?_⟩
    obtain ⟨y, hy, rfl⟩ := List.mem_map.1 ha
    simp at hb
    exact (hn y hy).2 (by rw [e, hb])
theorem Dist.nil : Dist [] := ⟨by simp, by simp⟩
theorem rightM.snoc {M : List Kp} {x : Kp} (hr : rightM M) (h : refErr x.1 = 0) : rightM (M ++ [x]) := fun y hy => by
  rcases List.mem_append.1 hy with hy | hy
  · exact hr y hy
  · simp at hy; subst hy; exact h
/-- Those that are new, one by one: C is what came so far. -/
def seriesGo (M : List Kp) : List Kp → List RefL → Option (List Kp)
  | C, [] => some C
  | C, x :: l => if knowsR M x = 2 then none else if knowsR M x = 1 then seriesGo M C l else if knowsR C x = 2 then none else if knowsR C x = 1 then seriesGo M C l else seriesGo M (C ++ [(x, 0, false)]) l
/-- What comes of what is known, and of what is learnt: an error, and what is known then. -/
def learnS (M : List Kp) (l : List RefL) : Nat × List Kp := match seriesGo M [] l with
  | none => (6, M)
  | some C => if 1000 < M.length + C.length then (2, M) else (0, M ++ C)
def updP (M : List Kp) (p : Pnt) : List Kp := M.map fun y => if y.1.1 = p.1 ∧ (y.2.2 = false ∨ y.2.1 < p.2.1) then (y.1, p.2.1, true) else y
def learnP (M : List Kp) (ps : List Pnt) : Nat × List Kp := if ∃ p ∈ ps, p.1 ∉ M.map (·.1.1) then (5, M) else (0, ps.foldl updP M)
def learnR (M : List Kp) (r : Rcd) : Nat × List Kp := if r.kind = 1 then learnS M r.refs else learnP M r.points
theorem updP_refs (M : List Kp) (p : Pnt) : (updP M p).map (·.1) = M.map (·.1) := by
  unfold updP
  rw [List.map_map]
  apply List.map_congr_left
  intro y _
  simp only [Function.comp]
  split <;> rfl
theorem updAll_refs (ps : List Pnt) : ∀ M : List Kp, (ps.foldl updP M).map (·.1) = M.map (·.1) := by
  induction ps with
  | nil => intro M; rfl
  | cons p ps ih => intro M; rw [List.foldl_cons, ih, updP_refs]
theorem Dist.refs {M M' : List Kp} (h : M'.map (·.1) = M.map (·.1)) (hd : Dist M) : Dist M' := by
  have e1 : M'.map (·.1.1) = M.map (·.1.1) := by
    have := congrArg (List.map (·.1)) h
    rw [List.map_map, List.map_map] at this
    exact this
  have e2 : M'.map (·.1.2) = M.map (·.1.2) := by
    have := congrArg (List.map (·.2)) h
    rw [List.map_map, List.map_map] at this
    exact this
  exact ⟨by rw [e1]; exact hd.num, by rw [e2]; exact hd.lab⟩
theorem rightM.refs {M M' : List Kp} (h : M'.map (·.1) = M.map (·.1)) (hr : rightM M) : rightM M' := fun y hy => by
  have : y.1 ∈ M.map (·.1) := by rw [← h]; exact List.mem_map.2 ⟨y, hy, rfl⟩
  obtain ⟨z, hz, e⟩ := List.mem_map.1 this
  rw [← e]; exact hr z hz
/-- What came is right, tells numbers and labels apart, and is known to nobody else. -/
structure Came (M C : List Kp) : Prop where
  dist : Dist (M ++ C)
  right : rightM (M ++ C)
theorem Dist.left {A B : List Kp} (h : Dist (A ++ B)) : Dist A := ⟨by have := h.num; rw [List.map_append] at this; exact (List.nodup_append.1 this).1, by have := h.lab; rw [List.map_append] at this; exact (List.nodup_append.1 this).1⟩
theorem Dist.behind {A B : List Kp} (h : Dist (A ++ B)) : Dist B := ⟨by have := h.num; rw [List.map_append] at this; exact (List.nodup_append.1 this).2.1, by have := h.lab; rw [List.map_append] at this; exact (List.nodup_append.1 this).2.1⟩
theorem Came.step {M C : List Kp} {x : RefL} (h : Came M C) (h1 : knowsR M x = 0) (h2 : knowsR C x = 0) (hx : refErr x = 0) : Came M (C ++ [(x, 0, false)]) := by
  have h3 : knowsR (M ++ C) x = 0 := knowsR_of fun y hy => by
    rcases List.mem_append.1 hy with hy | hy
    · exact knowsR_new h1 y hy
    · exact knowsR_new h2 y hy
  refine ⟨?_, ?_⟩
  · rw [← List.append_assoc]; exact h.dist.snoc h3
  · rw [← List.append_assoc]; exact h.right.snoc hx
theorem seriesGo_came {M : List Kp} : ∀ {l : List RefL} {C C' : List Kp}, seriesGo M C l = some C' → Came M C → (∀ x ∈ l, refErr x = 0) → Came M C' ∧ C'.length ≤ C.length + l.length
  | [], C, C', h, hc, _ => by
    obtain rfl : C = C' := by simpa [seriesGo] using h
    exact ⟨hc, by simp⟩
  | x :: l, C, C', h, hc, hx => by
    have hl := fun y hy => hx y (List.mem_cons_of_mem _ hy)
    unfold seriesGo at h
    have key : ∀ {D : List Kp}, D.length ≤ C.length + 1 → seriesGo M D l = some C' → Came M D → Came M C' ∧ C'.length ≤ C.length + (x :: l).length := fun hD h1 h2 => by
      obtain ⟨k1, k2⟩ := seriesGo_came h1 h2 hl
      exact ⟨k1, by rw [List.length_cons]; omega⟩
    split at h
    · cases h
    · split at h
      · exact key (by omega) h hc
      · split at h
        · cases h
        · split at h
          · exact key (by omega) h hc
          · rename_i a b c d
            refine key (by simp) h (hc.step ?_ ?_ (hx x (by simp)))
            · rcases knowsR_lt M x with e | e | e
              · exact e
              · exact absurd e b
              · exact absurd e a
            · rcases knowsR_lt C x with e | e | e
              · exact e
              · exact absurd e d
              · exact absurd e c
theorem learnR_right {M M' : List Kp} {r : Rcd} {e : Nat} (h : learnR M r = (e, M')) (hd : Dist M) (hr : rightM M) (hx : ∀ x ∈ r.refs, refErr x = 0) : Dist M' ∧ rightM M' := by
  unfold learnR at h
  split at h
  · unfold learnS at h
    split at h
    · cases h; exact ⟨hd, hr⟩
    · rename_i C hC
      split at h
      · cases h; exact ⟨hd, hr⟩
      · cases h
        have hc := (seriesGo_came hC ⟨by simpa using hd, by simpa using hr⟩ hx).1
        exact ⟨hc.dist, hc.right⟩
  · unfold learnP at h
    split at h
    · cases h; exact ⟨hd, hr⟩
    · cases h; exact ⟨hd.refs (updAll_refs _ _), hr.refs (updAll_refs _ _)⟩
theorem learnR_no {M M' : List Kp} {r : Rcd} {e : Nat} (h : learnR M r = (e, M')) (he : e ≠ 0) : M' = M := by
  unfold learnR at h
  split at h
  · unfold learnS at h
    split at h
    · cases h; rfl
    · split at h
      · cases h; rfl
      · cases h; exact absurd rfl he
  · unfold learnP at h
    split at h
    · cases h; rfl
    · cases h; exact absurd rfl he
theorem learnR_len {M M' : List Kp} {r : Rcd} {e : Nat} (h : learnR M r = (e, M')) (hl : M.length ≤ 1000) : M'.length ≤ 1000 := by
  unfold learnR at h
  split at h
  · unfold learnS at h
    split at h
    · cases h; exact hl
    · split at h
      · cases h; exact hl
      · cases h; rw [List.length_append]; omega
  · unfold learnP at h
    split at h
    · cases h; exact hl
    · cases h
      have := congrArg List.length (updAll_refs r.points M)
      rw [List.length_map, List.length_map] at this
      omega
end Go.Proofs.YtkaeogldielkfaaGreat.Rc
namespace Go.Proofs.YtkaeogldielkfaaGreat.Rc
open Go.RowKit Lb
attribute [local go_sem] bs_size bs_toList bs_append bs_get bs_extract
/-- The place of a number; -1: it is not there. -/
def refAt (rs : List RefL) (n : Int) : Int := match rs.findIdx? (fun x => x.1 == n) with | some i => i | none => -1
theorem refAt_some {rs : List RefL} {n : Int} {i : Nat} (hi : i < rs.length) (h : rs[i].1 = n) (hn : ∀ j (hj : j < i), (rs[j]'(by omega)).1 ≠ n) : refAt rs n = i := by
  have : rs.findIdx? (fun x => x.1 == n) = some i := List.findIdx?_eq_some_iff_getElem.2 ⟨hi, by simpa using h, fun j hj => by simpa using hn j hj⟩
  unfold refAt
  rw [this]
theorem refAt_none {rs : List RefL} {n : Int} (hn : ∀ j (hj : j < rs.length), rs[j].1 ≠ n) : refAt rs n = -1 := by
  have : rs.findIdx? (fun x => x.1 == n) = none := List.findIdx?_eq_none_iff.2 fun x hx => by
    obtain ⟨j, hj, rfl⟩ := List.getElem_of_mem hx
    simpa using hn j hj
  unfold refAt
  rw [this]
set_option maxRecDepth 20000 in
set_option maxHeartbeats 600000 in
theorem refAt_any (w : World) (vr : Value) (lo : Option Addr) (ln lc : Nat) (ho : Option Addr) (hn hc : Nat) (rs : List RefL) (n : Int) (hr : readsRefs w w.heap.size vr rs) (hl : rs.length ≤ 1000000) :
    Calls Tryz.prog 32 #[.agg #[vr, .slice lo ln lc, .slice ho hn hc], .int .i64 n] w fun e w' => e = .returned (.int .i64 (refAt rs n)) ∧ Grow w w' := by
  obtain ⟨ao, cp, rfl, hrd⟩ := id hr
  have HR := hide hr
  obtain ⟨V1, e1, g1, b1⟩ := laid_at w #[.slice ao rs.length cp, .slice lo ln lc, .slice ho hn hc] 26
  have HG1 := hide g1
  have HRD := hide hrd
  obtain ⟨k0, -, -⟩ := three_of b1
  clear hr hrd b1
  go_enter Tryz.func32, Tryz.ntmps32
  go_wp2
  go_loopw [5] (fun x5 wr => ∃ i : Nat, i ≤ rs.length ∧ x5 = .int .i64 i ∧ wr = V1 ∧ Hid (∀ j (hj : j < rs.length), j < i → rs[j].1 ≠ n)) (fun x5 _ => rs.length - (intOf x5).toNat)
  case atStart => exact ⟨0, by omega, rfl, rfl, hide fun j hj h => by omega⟩
  case round =>
    obtain ⟨i, hi, rfl, hwr, HN⟩ := hrel
    rename World => wr
    subst hwr
    by_cases hlt : i < rs.length
    · have hlti : (i : Int) < (rs.length : Int) := by omega
      obtain ⟨b, o, vl, rfl, hb, -, c0, -⟩ := HRD.out i hlt
      have d0 := (HG1.out.cell (p := ⟨b, o + i * 2, none⟩) hb).trans c0
      obtain ⟨m, HM⟩ : ∃ m, Hid (rs[i].1 = m) := ⟨_, hide rfl⟩
      rw [HM.out] at d0
      clear c0
      by_cases he : m = n
      · subst he
        have HA : Hid (refAt rs m = i) := hide (refAt_some hlt HM.out fun j hj => HN.out j (by omega) hj)
        go_wp2
        go_ret
        refine ⟨?_, HG1.out⟩; rw [HA.out]; rfl
      · go_wp2
        go_roundw
        case rel => exact ⟨i + 1, by omega, by go_num, trivial, hide fun j hj h => by
          by_cases e : j = i
          · subst e; rw [HM.out]; exact he
          · exact HN.out j hj (by omega)⟩
        case measure => simp [intOf]; omega
    · obtain rfl : i = rs.length := by omega
      have HA : Hid (refAt rs n = -1) := hide (refAt_none fun j hj => HN.out j hj hj)
      go_wp2
      go_ret
      refine ⟨?_, HG1.out⟩; rw [HA.out]; rfl
end Go.Proofs.YtkaeogldielkfaaGreat.Rc
