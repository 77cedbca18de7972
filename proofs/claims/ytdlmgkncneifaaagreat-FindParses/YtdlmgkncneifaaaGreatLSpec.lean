/- What the labels functions compute, on lists of bytes: plain mathematics, no program. -/
import Derived.WalkKit
set_option linter.unusedVariables false
set_option linter.unusedSimpArgs false
namespace Go.Proofs.YtdlmgkncneifaaaGreat.Lb

/-- A label: name and value. -/
abbrev Lab := List UInt8 × List UInt8

/-! ### the order of texts -/
theorem bl_irrefl : ∀ x : List UInt8, Op.bytesLess x x = false
  | [] => rfl
  | a :: x => by simp [Op.bytesLess, bl_irrefl x]
theorem bl_trans : ∀ {x y z : List UInt8}, Op.bytesLess x y = true → Op.bytesLess y z = true → Op.bytesLess x z = true
  | _, [], _, h, _ => by cases ‹List UInt8› <;> simp [Op.bytesLess] at h
  | _, _ :: _, [], _, h => by simp [Op.bytesLess] at h
  | [], _ :: _, _ :: _, _, _ => rfl
  | a :: x, b :: y, c :: z, h, k => by
    simp only [Op.bytesLess, Bool.or_eq_true, Bool.and_eq_true, decide_eq_true_eq, beq_iff_eq] at h k ⊢
    rcases h with h | ⟨rfl, h⟩
    · rcases k with k | ⟨rfl, k⟩
      · exact .inl (UInt8.lt_trans h k)
      · exact .inl h
    · rcases k with k | ⟨rfl, k⟩
      · exact .inl k
      · exact .inr ⟨rfl, bl_trans h k⟩
theorem bl_tri : ∀ {x y : List UInt8}, Op.bytesLess x y = false → Op.bytesLess y x = false → x = y
  | [], [], _, _ => rfl
  | [], _ :: _, h, _ => by simp [Op.bytesLess] at h
  | _ :: _, [], _, h => by simp [Op.bytesLess] at h
  | a :: x, b :: y, h, k => by
    simp only [Op.bytesLess, Bool.or_eq_false_iff, Bool.and_eq_false_iff, decide_eq_false_iff_not, beq_eq_false_iff_ne] at h k
    have e : a = b := UInt8.toNat_inj.1 (by have h1 := h.1; have k1 := k.1; rw [UInt8.lt_iff_toNat_lt] at h1 k1; omega)
    subst e
    rw [bl_tri (h.2.resolve_left (by simp)) (k.2.resolve_left (by simp))]
theorem bl_asymm {x y : List UInt8} (h : Op.bytesLess x y = true) : Op.bytesLess y x = false := by
  cases e : Op.bytesLess y x with
  | false => rfl
  | true => have := bl_trans h e; rw [bl_irrefl] at this; cases this
theorem bl_ne {x y : List UInt8} (h : Op.bytesLess x y = true) : x ≠ y := by
  rintro rfl; rw [bl_irrefl] at h; cases h

/-! ### names -/
def letB (c : UInt8) : Bool := (decide (97 ≤ c.toNat) && decide (c.toNat ≤ 122)) || (decide (65 ≤ c.toNat) && decide (c.toNat ≤ 90)) || decide (c.toNat = 95)
def digB (c : UInt8) : Bool := decide (48 ≤ c.toNat) && decide (c.toNat ≤ 57)
def nameB (s : List UInt8) : Bool := decide (1 ≤ s.length) && decide (s.length ≤ 40) && s.all (fun c => letB c || digB c) && !digB (s.getD 0 0)
theorem let_dig (c : UInt8) (h : digB c = true) : letB c = false := by
  simp only [digB, letB, Bool.and_eq_true, decide_eq_true_eq] at *
  simp; omega

theorem nameB_iff (s : List UInt8) : nameB s = true ↔ (1 ≤ s.length ∧ s.length ≤ 40 ∧ (∀ i (h : i < s.length), letB s[i] = true ∨ digB s[i] = true) ∧ digB (s.getD 0 0) = false) := by
  simp only [nameB, Bool.and_eq_true, decide_eq_true_eq, List.all_eq_true, Bool.or_eq_true, Bool.not_eq_true']
  constructor
  · rintro ⟨⟨⟨h1, h2⟩, h3⟩, h4⟩
    exact ⟨h1, h2, fun i h => h3 _ (List.getElem_mem h), h4⟩
  · rintro ⟨h1, h2, h3, h4⟩
    refine ⟨⟨⟨h1, h2⟩, fun x hx => ?_⟩, h4⟩
    obtain ⟨i, hi, rfl⟩ := List.getElem_of_mem hx
    exact h3 i hi
theorem nameB_no {s : List UInt8} (h : ¬ (1 ≤ s.length ∧ s.length ≤ 40 ∧ (∀ i (h : i < s.length), letB s[i] = true ∨ digB s[i] = true) ∧ digB (s.getD 0 0) = false)) : nameB s = false := by
  cases e : nameB s with
  | false => rfl
  | true => exact absurd ((nameB_iff s).1 e) h
theorem nameB_len {s : List UInt8} (h : nameB s = true) : 1 ≤ s.length ∧ s.length ≤ 40 := ⟨((nameB_iff s).1 h).1, ((nameB_iff s).1 h).2.1⟩

/-! ### checks -/
/-- What is wrong with a label by itself, if a value has so many bytes at least. -/
def labErr (least : Nat) (x : Lab) : Nat := if nameB x.1 = true ∧ least ≤ x.2.length then (if x.2.length ≤ 100 then 0 else 2) else 1
def eachB (least : Nat) : List Lab → Nat
  | [] => 0
  | x :: l => if labErr least x = 0 then eachB least l else labErr least x
def eachErr (least : Nat) (l : List Lab) : Nat := if l.length ≤ 20 then eachB least l else 2
def twiceB (l : List Lab) : Bool := !decide ((l.map (·.1)).Nodup)
def riseB : List Lab → Bool
  | x :: y :: l => Op.bytesLess x.1 y.1 && riseB (y :: l)
  | _ => true
def checkB (l : List Lab) : Nat := if eachErr 1 l = 0 then (if twiceB l = false then (if riseB l = true then 0 else 4) else 6) else eachErr 1 l
def makeErr (l : List Lab) : Nat := if eachErr 0 l = 0 then (if twiceB l = false then 0 else 6) else eachErr 0 l

theorem labErr_le (least : Nat) (x : Lab) : labErr least x ≤ 2 := by unfold labErr; split <;> (try split) <;> omega
theorem eachB_le (least : Nat) : ∀ l, eachB least l ≤ 2
  | [] => by simp [eachB]
  | x :: l => by unfold eachB; split; exact eachB_le least l; exact labErr_le least x
theorem eachErr_le (least : Nat) (l : List Lab) : eachErr least l ≤ 2 := by unfold eachErr; split; exact eachB_le _ _; omega
theorem checkB_le (l : List Lab) : checkB l ≤ 6 := by
  have := eachErr_le 1 l
  unfold checkB; split <;> (try split) <;> (try split) <;> omega
theorem makeErr_le (l : List Lab) : makeErr l ≤ 6 := by
  have := eachErr_le 0 l
  unfold makeErr; split <;> (try split) <;> omega

theorem eachB_zero {least : Nat} {l : List Lab} : eachB least l = 0 ↔ ∀ x ∈ l, labErr least x = 0 := by
  induction l with
  | nil => simp [eachB]
  | cons x l ih =>
    unfold eachB
    by_cases h : labErr least x = 0
    · rw [if_pos h, ih]; simp [h]
    · rw [if_neg h]; simp [h]
/-- The first fault. -/
theorem eachB_at {least : Nat} {l : List Lab} {k : Nat} (hk : k < l.length) (h : ∀ j (hj : j < l.length), j < k → labErr least l[j] = 0) (hf : labErr least l[k] ≠ 0) : eachB least l = labErr least l[k] := by
  induction l generalizing k with
  | nil => simp at hk
  | cons x l ih =>
    unfold eachB
    cases k with
    | zero => rw [if_neg (show ¬ labErr least x = 0 from hf)]; rfl
    | succ k =>
      rw [if_pos (show labErr least x = 0 from h 0 (by simp) (by omega))]
      exact ih (k := k) (Nat.lt_of_succ_lt_succ hk) (fun j hj hjk => h (j + 1) (Nat.succ_lt_succ hj) (by omega)) hf
theorem eachB_all {least : Nat} {l : List Lab} (h : ∀ j (hj : j < l.length), labErr least l[j] = 0) : eachB least l = 0 :=
  eachB_zero.2 fun x hx => by obtain ⟨i, hi, rfl⟩ := List.getElem_of_mem hx; exact h i hi
theorem labErr_zero {least : Nat} {x : Lab} : labErr least x = 0 ↔ (nameB x.1 = true ∧ least ≤ x.2.length ∧ x.2.length ≤ 100) := by
  unfold labErr
  by_cases h : nameB x.1 = true ∧ least ≤ x.2.length
  · rw [if_pos h]
    by_cases h2 : x.2.length ≤ 100
    · rw [if_pos h2]; simp [h, h2]
    · rw [if_neg h2]; simp [h2]
  · rw [if_neg h]
    constructor
    · intro h; omega
    · rintro ⟨h1, h2, h3⟩; exact absurd ⟨h1, h2⟩ h
theorem eachErr_zero {least : Nat} {l : List Lab} : eachErr least l = 0 ↔ (l.length ≤ 20 ∧ ∀ x ∈ l, nameB x.1 = true ∧ least ≤ x.2.length ∧ x.2.length ≤ 100) := by
  unfold eachErr
  by_cases h : l.length ≤ 20
  · rw [if_pos h, eachB_zero]; simp [labErr_zero, h]
  · rw [if_neg h]; simp [h]

theorem eachErr_names {least : Nat} {l : List Lab} (h : eachErr least l = 0) : l.length ≤ 20 ∧ ∀ x ∈ l, x.1.length ≤ 40 ∧ x.2.length ≤ 100 := by
  obtain ⟨h1, h2⟩ := eachErr_zero.1 h
  exact ⟨h1, fun x hx => ⟨(nameB_len (h2 x hx).1).2, (h2 x hx).2.2⟩⟩

theorem twiceB_false {l : List Lab} : twiceB l = false ↔ ∀ i j (hi : i < l.length) (hj : j < l.length), i < j → l[i].1 ≠ l[j].1 := by
  unfold twiceB
  rw [Bool.not_eq_false', decide_eq_true_iff]
  unfold List.Nodup
  rw [List.pairwise_map, List.pairwise_iff_getElem]
theorem twiceB_true {l : List Lab} {i j : Nat} (hi : i < l.length) (hj : j < l.length) (hij : i < j) (h : l[i].1 = l[j].1) : twiceB l = true := by
  cases e : twiceB l with
  | true => rfl
  | false => exact absurd h (twiceB_false.1 e i j hi hj hij)
theorem riseB_iff : ∀ {l : List Lab}, riseB l = true ↔ ∀ i (hi : i + 1 < l.length), Op.bytesLess l[i].1 l[i + 1].1 = true
  | [] => by simp [riseB]
  | [x] => by simp [riseB]
  | x :: y :: l => by
    rw [riseB, Bool.and_eq_true, riseB_iff]
    constructor
    · rintro ⟨h1, h2⟩ i hi
      cases i with
      | zero => exact h1
      | succ i => exact h2 i (by simpa using hi)
    · intro h
      exact ⟨h 0 (by simp), fun i hi => h (i + 1) (by simpa using hi)⟩
theorem riseB_no {l : List Lab} {i : Nat} (hi : i + 1 < l.length) (h : Op.bytesLess l[i].1 l[i + 1].1 = false) : riseB l = false := by
  cases e : riseB l with
  | false => rfl
  | true => have := riseB_iff.1 e i hi; rw [h] at this; cases this
theorem riseB_far {l : List Lab} (h : riseB l = true) : ∀ i j (hi : i < l.length) (hj : j < l.length), i < j → Op.bytesLess l[i].1 l[j].1 = true := by
  intro i j hi hj hij
  induction j with
  | zero => omega
  | succ j ih =>
    have h1 := riseB_iff.1 h j hj
    by_cases e : i = j
    · subst e; exact h1
    · exact bl_trans (ih (by omega) (by omega)) h1
theorem rise_once {l : List Lab} (h : riseB l = true) : twiceB l = false :=
  twiceB_false.2 fun i j hi hj hij => bl_ne (riseB_far h i j hi hj hij)
theorem checkB_zero {l : List Lab} : checkB l = 0 ↔ (eachErr 1 l = 0 ∧ riseB l = true) := by
  unfold checkB
  by_cases h : eachErr 1 l = 0
  · rw [if_pos h]
    by_cases h2 : riseB l = true
    · rw [if_pos (rise_once h2), if_pos h2]; simp [h, h2]
    · rw [if_neg h2]
      constructor
      · intro h; split at h <;> omega
      · intro h; exact absurd h.2 h2
  · rw [if_neg h]; simp [h]

/-- Labels that rise, as a property that is handy to lead through lists. -/
def Rise (l : List Lab) : Prop := l.Pairwise fun x y => Op.bytesLess x.1 y.1 = true
theorem rise_iff {l : List Lab} : Rise l ↔ riseB l = true := by
  unfold Rise
  rw [List.pairwise_iff_getElem]
  constructor
  · intro h; exact riseB_iff.2 fun i hi => h i (i + 1) (by omega) hi (by omega)
  · intro h i j hi hj hij; exact riseB_far h i j hi hj hij
theorem rise_ext : ∀ {a b : List Lab}, Rise a → Rise b → (∀ y, y ∈ a ↔ y ∈ b) → a = b
  | [], [], _, _, _ => rfl
  | [], y :: b, _, _, h => by have := (h y).2 (by simp); simp at this
  | x :: a, [], _, _, h => by have := (h x).1 (by simp); simp at this
  | x :: a, y :: b, ha, hb, h => by
    unfold Rise at ha hb
    rw [List.pairwise_cons] at ha hb
    have e : x = y := by
      have h1 := (h x).1 (by simp)
      have h2 := (h y).2 (by simp)
      rw [List.mem_cons] at h1 h2
      rcases h1 with h1 | h1
      · exact h1
      · rcases h2 with h2 | h2
        · exact h2.symm
        · have k1 := hb.1 x h1
          have k2 := ha.1 y h2
          rw [bl_asymm k1] at k2
          cases k2
    subst e
    have e2 : a = b := rise_ext ha.2 hb.2 fun z => by
      have hz := h z
      rw [List.mem_cons, List.mem_cons] at hz
      constructor
      · intro hm
        rcases hz.1 (.inr hm) with e | e
        · subst e; have := ha.1 z hm; rw [bl_irrefl] at this; cases this
        · exact e
      · intro hm
        rcases hz.2 (.inr hm) with e | e
        · subst e; have := hb.1 z hm; rw [bl_irrefl] at this; cases this
        · exact e
    rw [e2]
theorem rise_same {l : List Lab} (h : Rise l) {x y : Lab} (hx : x ∈ l) (hy : y ∈ l) (e : x.1 = y.1) : x = y := by
  obtain ⟨i, hi, rfl⟩ := List.getElem_of_mem hx
  obtain ⟨j, hj, rfl⟩ := List.getElem_of_mem hy
  have hf := riseB_far (rise_iff.1 h)
  rcases Nat.lt_trichotomy i j with hij | hij | hij
  · exact absurd e (bl_ne (hf i j hi hj hij))
  · subst hij; rfl
  · exact absurd e.symm (bl_ne (hf j i hj hi hij))

/-! ### a label has a value -/
/-- As the document's package goes: put: is it there already (or not to be there)? -/
def putGo (n v : List UInt8) : Bool → List Lab → List Lab
  | put, [] => if put = true then [] else [(n, v)]
  | put, x :: l =>
    if put = false ∧ Op.bytesLess x.1 n = false then (n, v) :: (if x.1 = n then putGo n v true l else x :: putGo n v true l)
    else if x.1 = n then putGo n v put l else x :: putGo n v put l
def putB (l : List Lab) (n v : List UInt8) : List Lab := putGo n v (decide (v = [])) l

theorem putGo_true (n v : List UInt8) : ∀ l, putGo n v true l = l.filter fun x => decide (x.1 ≠ n)
  | [] => rfl
  | x :: l => by
    have ih := putGo_true n v l
    by_cases e : x.1 = n
    · simp [putGo, e, ih]
    · simp [putGo, e, ih]
theorem putGo_mem (n v : List UInt8) : ∀ (l : List Lab) (put : Bool) (y : Lab), y ∈ putGo n v put l ↔ (y ∈ l ∧ y.1 ≠ n) ∨ (put = false ∧ y = (n, v))
  | [], put, y => by cases put <;> simp [putGo]
  | x :: l, put, y => by
    unfold putGo
    by_cases h : put = false ∧ Op.bytesLess x.1 n = false
    · rw [if_pos h]
      by_cases e : x.1 = n
      · rw [if_pos e, List.mem_cons, putGo_mem n v l true y]
        constructor
        · rintro (rfl | ⟨hm, hn⟩ | ⟨hf, _⟩)
          · exact .inr ⟨h.1, rfl⟩
          · exact .inl ⟨List.mem_cons_of_mem _ hm, hn⟩
          · cases hf
        · rintro (⟨hm, hn⟩ | ⟨_, rfl⟩)
          · rw [List.mem_cons] at hm
            rcases hm with rfl | hm
            · exact absurd e hn
            · exact .inr (.inl ⟨hm, hn⟩)
          · exact .inl rfl
      · rw [if_neg e, List.mem_cons, List.mem_cons, putGo_mem n v l true y]
        constructor
        · rintro (rfl | rfl | ⟨hm, hn⟩ | ⟨hf, _⟩)
          · exact .inr ⟨h.1, rfl⟩
          · exact .inl ⟨List.mem_cons_self .., e⟩
          · exact .inl ⟨List.mem_cons_of_mem _ hm, hn⟩
          · cases hf
        · rintro (⟨hm, hn⟩ | ⟨_, rfl⟩)
          · rw [List.mem_cons] at hm
            rcases hm with rfl | hm
            · exact .inr (.inl rfl)
            · exact .inr (.inr (.inl ⟨hm, hn⟩))
          · exact .inl rfl
    · rw [if_neg h]
      by_cases e : x.1 = n
      · rw [if_pos e, putGo_mem n v l put y]
        constructor
        · rintro (⟨hm, hn⟩ | h)
          · exact .inl ⟨List.mem_cons_of_mem _ hm, hn⟩
          · exact .inr h
        · rintro (⟨hm, hn⟩ | h)
          · rw [List.mem_cons] at hm
            rcases hm with rfl | hm
            · exact absurd e hn
            · exact .inl ⟨hm, hn⟩
          · exact .inr h
      · rw [if_neg e, List.mem_cons, putGo_mem n v l put y]
        constructor
        · rintro (rfl | ⟨hm, hn⟩ | h)
          · exact .inl ⟨List.mem_cons_self .., e⟩
          · exact .inl ⟨List.mem_cons_of_mem _ hm, hn⟩
          · exact .inr h
        · rintro (⟨hm, hn⟩ | h)
          · rw [List.mem_cons] at hm
            rcases hm with rfl | hm
            · exact .inl rfl
            · exact .inr (.inl ⟨hm, hn⟩)
          · exact .inr (.inr h)
theorem putB_mem (l : List Lab) (n v : List UInt8) (y : Lab) : y ∈ putB l n v ↔ (y ∈ l ∧ y.1 ≠ n) ∨ (v ≠ [] ∧ y = (n, v)) := by
  unfold putB
  rw [putGo_mem]
  simp
theorem putGo_rise (n v : List UInt8) : ∀ (l : List Lab) (put : Bool), Rise l → Rise (putGo n v put l)
  | [], put, _ => by cases put <;> simp [putGo, Rise]
  | x :: l, put, hr => by
    have hr' := hr
    unfold Rise at hr'
    rw [List.pairwise_cons] at hr'
    unfold putGo
    by_cases h : put = false ∧ Op.bytesLess x.1 n = false
    · rw [if_pos h]
      by_cases e : x.1 = n
      · rw [if_pos e]
        unfold Rise
        rw [List.pairwise_cons]
        refine ⟨fun y hy => ?_, putGo_rise n v l true hr'.2⟩
        rw [putGo_mem] at hy
        rcases hy with ⟨hm, _⟩ | ⟨hf, _⟩
        · have := hr'.1 y hm; rw [e] at this; exact this
        · cases hf
      · rw [if_neg e]
        have hxn : Op.bytesLess n x.1 = true := by
          cases k : Op.bytesLess n x.1 with
          | true => rfl
          | false => exact absurd (bl_tri h.2 k) e
        unfold Rise
        rw [List.pairwise_cons, List.pairwise_cons]
        refine ⟨fun y hy => ?_, fun y hy => ?_, putGo_rise n v l true hr'.2⟩
        · rw [List.mem_cons] at hy
          rcases hy with rfl | hy
          · exact hxn
          · rw [putGo_mem] at hy
            rcases hy with ⟨hm, _⟩ | ⟨hf, _⟩
            · exact bl_trans hxn (hr'.1 y hm)
            · cases hf
        · rw [putGo_mem] at hy
          rcases hy with ⟨hm, _⟩ | ⟨hf, _⟩
          · exact hr'.1 y hm
          · cases hf
    · rw [if_neg h]
      by_cases e : x.1 = n
      · rw [if_pos e]; exact putGo_rise n v l put hr'.2
      · rw [if_neg e]
        unfold Rise
        rw [List.pairwise_cons]
        refine ⟨fun y hy => ?_, putGo_rise n v l put hr'.2⟩
        rw [putGo_mem] at hy
        rcases hy with ⟨hm, _⟩ | ⟨hf, rfl⟩
        · exact hr'.1 y hm
        · cases k : Op.bytesLess x.1 n with
          | true => rfl
          | false => exact absurd ⟨hf, k⟩ h
theorem putB_rise {l : List Lab} (h : Rise l) (n v : List UInt8) : Rise (putB l n v) := putGo_rise n v l _ h

def makeStep (out : List Lab) (x : Lab) : List Lab := if x.2 = [] then out else putB out x.1 x.2
def makeL (l : List Lab) : List Lab := l.foldl makeStep []
theorem makeL_snoc (l : List Lab) (x : Lab) : makeL (l ++ [x]) = makeStep (makeL l) x := by simp [makeL, List.foldl_append]
theorem makeStep_rise {out : List Lab} (h : Rise out) (x : Lab) : Rise (makeStep out x) := by
  unfold makeStep; split; exact h; exact putB_rise h _ _
theorem foldl_rise : ∀ (l out : List Lab), Rise out → Rise (l.foldl makeStep out)
  | [], _, h => h
  | x :: l, out, h => foldl_rise l _ (makeStep_rise h x)
theorem makeL_rise (l : List Lab) : Rise (makeL l) := foldl_rise l [] List.Pairwise.nil
theorem foldl_mem : ∀ (l out : List Lab), (∀ x ∈ l, ∀ y ∈ out, x.1 ≠ y.1) → (l.map (·.1)).Nodup → ∀ y, y ∈ l.foldl makeStep out ↔ y ∈ out ∨ (y ∈ l ∧ y.2 ≠ [])
  | [], out, _, _, y => by simp
  | x :: l, out, h, hn, y => by
    rw [List.map_cons, List.nodup_cons] at hn
    have hx : ∀ z ∈ l, z.1 ≠ x.1 := fun z hz e => hn.1 (e ▸ List.mem_map_of_mem hz)
    have hmem : ∀ z, z ∈ makeStep out x ↔ z ∈ out ∨ (z = x ∧ x.2 ≠ []) := by
      intro z
      unfold makeStep
      split
      · rename_i e; simp [e]
      · rename_i e
        rw [putB_mem]
        constructor
        · rintro (⟨hm, _⟩ | ⟨_, rfl⟩)
          · exact .inl hm
          · exact .inr ⟨rfl, e⟩
        · rintro (hm | ⟨rfl, _⟩)
          · exact .inl ⟨hm, fun e => h x (List.mem_cons_self ..) z hm e.symm⟩
          · exact .inr ⟨e, rfl⟩
    rw [List.foldl_cons, foldl_mem l (makeStep out x) (fun z hz w hw => ?_) hn.2 y, hmem]
    · constructor
      · rintro ((hm | ⟨rfl, hne⟩) | ⟨hm, hne⟩)
        · exact .inl hm
        · exact .inr ⟨List.mem_cons_self .., hne⟩
        · exact .inr ⟨List.mem_cons_of_mem _ hm, hne⟩
      · rintro (hm | ⟨hm, hne⟩)
        · exact .inl (.inl hm)
        · rw [List.mem_cons] at hm
          rcases hm with rfl | hm
          · exact .inl (.inr ⟨rfl, hne⟩)
          · exact .inr ⟨hm, hne⟩
    · rw [hmem] at hw
      rcases hw with hw | ⟨rfl, _⟩
      · exact h z (List.mem_cons_of_mem _ hz) w hw
      · exact hx z hz
theorem makeL_mem {l : List Lab} (h : twiceB l = false) (y : Lab) : y ∈ makeL l ↔ y ∈ l ∧ y.2 ≠ [] := by
  have hn : (l.map (·.1)).Nodup := by simpa [twiceB] using h
  rw [makeL, foldl_mem l [] (by simp) hn y]
  simp
/-- What is left out and sorted is what the document makes. -/
theorem makeL_uniq {l d : List Lab} (h : twiceB l = false) (hd : Rise d) (hm : ∀ y, y ∈ d ↔ y ∈ l ∧ y.2 ≠ []) : d = makeL l :=
  rise_ext hd (makeL_rise l) fun y => by rw [hm, makeL_mem h]
theorem putB_uniq {l d : List Lab} (n v : List UInt8) (h : Rise l) (hd : Rise d) (hm : ∀ y, y ∈ d ↔ (y ∈ l ∧ y.1 ≠ n) ∨ (v ≠ [] ∧ y = (n, v))) : d = putB l n v :=
  rise_ext hd (putB_rise h n v) fun y => by rw [hm, putB_mem]

/-! ### values -/
def valueB (l : List Lab) (n : List UInt8) : List UInt8 := match l.find? (fun x => decide (x.1 = n)) with | some x => x.2 | none => []
theorem valueB_at {l : List Lab} {n : List UInt8} {k : Nat} (hk : k < l.length) (h : ∀ j (hj : j < l.length), j < k → l[j].1 ≠ n) (he : l[k].1 = n) : valueB l n = l[k].2 := by
  have : l.find? (fun x => decide (x.1 = n)) = some l[k] := by
    rw [List.find?_eq_some_iff_getElem]
    exact ⟨by simpa using he, k, hk, rfl, fun j hj => by simpa using h j (by omega) hj⟩
  simp [valueB, this]
theorem valueB_none {l : List Lab} {n : List UInt8} (h : ∀ j (hj : j < l.length), l[j].1 ≠ n) : valueB l n = [] := by
  have : l.find? (fun x => decide (x.1 = n)) = none := by
    rw [List.find?_eq_none]
    intro x hx
    obtain ⟨i, hi, rfl⟩ := List.getElem_of_mem hx
    simpa using h i hi
  simp [valueB, this]
theorem valueB_mem {l : List Lab} (hr : Rise l) {x : Lab} (hx : x ∈ l) : valueB l x.1 = x.2 := by
  obtain ⟨k, hk, rfl⟩ := List.getElem_of_mem hx
  exact valueB_at hk (fun j hj hjk => bl_ne (riseB_far (rise_iff.1 hr) j k hj hk hjk)) rfl
theorem valueB_not {l : List Lab} {n : List UInt8} (h : ∀ x ∈ l, x.1 ≠ n) : valueB l n = [] := valueB_none fun j hj => h _ (List.getElem_mem hj)

theorem valueB_le {l : List Lab} {n : List UInt8} {m : Nat} (h : ∀ x ∈ l, x.2.length ≤ m) : (valueB l n).length ≤ m := by
  unfold valueB
  split
  · rename_i x hx
    exact h x (List.mem_of_find?_eq_some hx)
  · simp

/-- What Get, With answer. -/
def getErr (l : List Lab) (n : List UInt8) : Nat := if checkB l = 0 then (if nameB n = true then 0 else 1) else checkB l
def getAns (l : List Lab) (n : List UInt8) : List UInt8 := if getErr l n = 0 then valueB l n else []
def withErr (l : List Lab) (n v : List UInt8) : Nat :=
  if getErr l n = 0 then (if v.length ≤ 100 then (if (putB l n v).length ≤ 20 then 0 else 2) else 2) else getErr l n
def withAns (l : List Lab) (n v : List UInt8) : List Lab := if withErr l n v = 0 then putB l n v else []
def makeAns (l : List Lab) : List Lab := if makeErr l = 0 then makeL l else []

/-! ### sums -/
def sumStep (h : Nat) (c : Nat) : Nat := (h ^^^ c) * 1099511628211 % 18446744073709551616
def sumTxt (h : Nat) (s : List UInt8) : Nat := sumStep (s.foldl (fun h c => sumStep h c.toNat) h) 255
def sumGo (h : Nat) : List Lab → Nat
  | [] => h
  | x :: l => sumGo (sumTxt (sumTxt h x.1) x.2) l
def sum0 : Nat := 14695981039346656037
theorem sum0_int : ((sum0 : Nat) : Int) = 14695981039346656037 := by unfold sum0; omega
theorem sum0_lt : sum0 < 18446744073709551616 := by unfold sum0; omega
def sumB (l : List Lab) : Nat := sumGo sum0 l
/-- What Sum answers beside the error. -/
def sumAns (l : List Lab) : Nat := if checkB l = 0 then sumB l else 0
theorem sumAns_ok {l : List Lab} (h : checkB l = 0) : sumAns l = sumB l := by unfold sumAns; rw [if_pos h]
theorem sumAns_no {l : List Lab} (h : checkB l ≠ 0) : sumAns l = 0 := by unfold sumAns; rw [if_neg h]
theorem sumGo_append (h : Nat) : ∀ (a b : List Lab), sumGo h (a ++ b) = sumGo (sumGo h a) b
  | [], _ => rfl
  | x :: a, b => by simp only [List.cons_append, sumGo, sumGo_append _ a b]
theorem sumStep_lt (h c : Nat) : sumStep h c < 18446744073709551616 := Nat.mod_lt _ (by decide)
theorem sumTxt_lt (h : Nat) (s : List UInt8) : sumTxt h s < 18446744073709551616 := sumStep_lt _ _
theorem sumGo_lt {h : Nat} (h0 : h < 18446744073709551616) : ∀ l, sumGo h l < 18446744073709551616
  | [] => h0
  | x :: l => sumGo_lt (sumTxt_lt _ _) l

/-! ### the order of labels -/
def cmpStr (x y : List UInt8) : Int := if Op.bytesLess x y = true then -1 else if Op.bytesLess y x = true then 1 else 0
def cmpLab (x y : Lab) : Int := if x.1 = y.1 then cmpStr x.2 y.2 else cmpStr x.1 y.1
def ordB : List Lab → List Lab → Int
  | [], [] => 0
  | [], _ :: _ => -1
  | _ :: _, [] => 1
  | x :: a, y :: b => if cmpLab x y = 0 then ordB a b else cmpLab x y

theorem cmpStr_zero {x y : List UInt8} : cmpStr x y = 0 ↔ x = y := by
  unfold cmpStr
  constructor
  · intro h
    cases h1 : Op.bytesLess x y <;> cases h2 : Op.bytesLess y x <;> simp [h1, h2] at h
    exact bl_tri h1 h2
  · rintro rfl; simp [bl_irrefl]
theorem cmpStr_neg (x y : List UInt8) : cmpStr y x = -cmpStr x y := by
  unfold cmpStr
  cases h1 : Op.bytesLess x y <;> cases h2 : Op.bytesLess y x <;> simp
  have := bl_asymm h1; rw [h2] at this; cases this
theorem cmpStr_lt {x y : List UInt8} : cmpStr x y < 0 ↔ Op.bytesLess x y = true := by
  unfold cmpStr
  cases h1 : Op.bytesLess x y <;> cases h2 : Op.bytesLess y x <;> simp
theorem cmpStr_vals (x y : List UInt8) : cmpStr x y = -1 ∨ cmpStr x y = 0 ∨ cmpStr x y = 1 := by
  unfold cmpStr; split; exact .inl rfl; split; exact .inr (.inr rfl); exact .inr (.inl rfl)
theorem cmpLab_vals (x y : Lab) : cmpLab x y = -1 ∨ cmpLab x y = 0 ∨ cmpLab x y = 1 := by
  unfold cmpLab; split <;> exact cmpStr_vals _ _
theorem cmpLab_zero {x y : Lab} : cmpLab x y = 0 ↔ x = y := by
  unfold cmpLab
  split
  · rename_i h
    rw [cmpStr_zero]
    exact ⟨fun e => Prod.ext h e, fun e => by rw [e]⟩
  · rename_i h
    rw [cmpStr_zero]
    exact ⟨fun e => absurd e h, fun e => by rw [e]⟩
theorem cmpLab_neg (x y : Lab) : cmpLab y x = -cmpLab x y := by
  unfold cmpLab
  by_cases h : x.1 = y.1
  · rw [if_pos h.symm, if_pos h, cmpStr_neg]
  · rw [if_neg (fun e => h e.symm), if_neg h, cmpStr_neg]
theorem cmpStr_trans {x y z : List UInt8} (h : cmpStr x y < 0) (k : cmpStr y z < 0) : cmpStr x z < 0 := by
  rw [cmpStr_lt] at *; exact bl_trans h k
theorem cmpLab_trans {x y z : Lab} (h : cmpLab x y < 0) (k : cmpLab y z < 0) : cmpLab x z < 0 := by
  unfold cmpLab at *
  by_cases e1 : x.1 = y.1 <;> by_cases e2 : y.1 = z.1
  · rw [if_pos e1] at h; rw [if_pos e2] at k; rw [if_pos (e1.trans e2)]; exact cmpStr_trans h k
  · rw [if_neg e2] at k
    rw [if_neg (by rw [e1]; exact e2), e1]; exact k
  · rw [if_neg e1] at h
    rw [if_neg (by rw [← e2]; exact e1), ← e2]; exact h
  · rw [if_neg e1] at h; rw [if_neg e2] at k
    have := cmpStr_trans h k
    rw [if_neg (fun e => by rw [e, cmpStr_neg] at h; omega)]; exact this
theorem ordB_vals : ∀ a b : List Lab, ordB a b = -1 ∨ ordB a b = 0 ∨ ordB a b = 1
  | [], [] => .inr (.inl rfl)
  | [], _ :: _ => .inl rfl
  | _ :: _, [] => .inr (.inr rfl)
  | x :: a, y :: b => by unfold ordB; split; exact ordB_vals a b; exact cmpLab_vals x y
theorem ordB_neg : ∀ a b : List Lab, ordB b a = -ordB a b
  | [], [] => rfl
  | [], _ :: _ => rfl
  | _ :: _, [] => rfl
  | x :: a, y :: b => by
    unfold ordB
    by_cases h : cmpLab x y = 0
    · rw [if_pos h, if_pos (by rw [cmpLab_neg, h]; rfl), ordB_neg a b]
    · rw [if_neg h, if_neg (by rw [cmpLab_neg]; omega), cmpLab_neg]
theorem ordB_zero : ∀ {a b : List Lab}, ordB a b = 0 ↔ a = b
  | [], [] => by simp [ordB]
  | [], _ :: _ => by simp [ordB]
  | _ :: _, [] => by simp [ordB]
  | x :: a, y :: b => by
    unfold ordB
    by_cases h : cmpLab x y = 0
    · rw [if_pos h, ordB_zero, List.cons_eq_cons]; simp [cmpLab_zero.1 h]
    · rw [if_neg h, List.cons_eq_cons]
      exact ⟨fun e => absurd e h, fun e => cmpLab_zero.2 e.1⟩
theorem ordB_trans : ∀ {a b c : List Lab}, ordB a b < 0 → ordB b c < 0 → ordB a c < 0
  | [], [], _, h, _ => by simp [ordB] at h
  | [], _ :: _, [], _, k => by simp [ordB] at k
  | [], _ :: _, _ :: _, _, _ => by simp [ordB]
  | _ :: _, [], _, h, _ => by simp [ordB] at h
  | _ :: _, _ :: _, [], _, k => by simp [ordB] at k
  | x :: a, y :: b, z :: c, h, k => by
    unfold ordB at *
    by_cases h1 : cmpLab x y = 0 <;> by_cases h2 : cmpLab y z = 0
    · rw [if_pos h1] at h; rw [if_pos h2] at k
      rw [if_pos (by rw [cmpLab_zero.1 h1]; exact h2)]; exact ordB_trans h k
    · rw [if_neg h2] at k
      rw [cmpLab_zero.1 h1, if_neg h2]; exact k
    · rw [if_neg h1] at h
      rw [← cmpLab_zero.1 h2, if_neg h1]; exact h
    · rw [if_neg h1] at h; rw [if_neg h2] at k
      have := cmpLab_trans h k
      rw [if_neg (by omega)]; exact this
/-- What is not greater than what is not greater. -/
theorem ordB_order {a b c : List Lab} (h : ordB a b ≤ 0) (k : ordB b c ≤ 0) : ordB a c ≤ 0 ∧ (ordB a c < 0 ∨ (ordB a b = 0 ∧ ordB b c = 0)) := by
  by_cases h1 : ordB a b = 0
  · rw [ordB_zero.1 h1]
    by_cases h2 : ordB b c = 0
    · exact ⟨by omega, .inr ⟨ordB_zero.2 rfl, h2⟩⟩
    · exact ⟨k, .inl (by omega)⟩
  · by_cases h2 : ordB b c = 0
    · rw [← ordB_zero.1 h2]; exact ⟨h, .inl (by omega)⟩
    · have := ordB_trans (a := a) (b := b) (c := c) (by omega) (by omega)
      exact ⟨by omega, .inl this⟩

def cmpErr (a b : List Lab) : Nat := if checkB a = 0 then checkB b else checkB a
def cmpAns (a b : List Lab) : Int := if cmpErr a b = 0 then ordB a b else 0

end Go.Proofs.YtdlmgkncneifaaaGreat.Lb
