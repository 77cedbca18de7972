/- Of two texts behind one another the fields, and the series, are those of both: plain mathematics. -/
import Derived.Test.YtojljbgopknbcaaKit
import Derived.Test.YtojljbgopknbcaaSpec
import Derived.Test.YtojljbgopknbcaaSpec2
import Derived.Test.YtojljbgopknbcaaWSer
import Derived.Test.YtojljbgopknbcaaWTop
import Derived.Test.YtojljbgopknbcaaRdF
import Derived.Test.YtojljbgopknbcaaRdG
set_option linter.unusedVariables false
set_option linter.unusedSimpArgs false
namespace Go.Proofs.Ytojljbgopknbcaa

theorem numSize_append (l b : List UInt8) (h : numSize l ≠ 0) : numSize (l ++ b) = numSize l := by
  induction l with
  | nil => exact absurd rfl h
  | cons c l ih =>
    rw [List.cons_append, numSize_cons, numSize_cons]
    rw [numSize_cons] at h
    by_cases hc : c.toNat < 128
    · simp [hc]
    · simp only [hc, if_false] at h ⊢
      have hl : numSize l ≠ 0 := fun e => h (by simp [e])
      rw [ih hl]
theorem readNum_append (l b : List UInt8) (h : (readNum l).2.2 = 0) : readNum (l ++ b) = readNum l := by
  have hs := numSize_le l
  unfold readNum at h ⊢
  split at h
  · simp at h
  · rename_i h0
    split at h
    · simp at h
    · rename_i h1
      have hd : numSize l = 10 → (l ++ b).getD 9 0 = l.getD 9 0 := fun e => by
        rw [List.getD_eq_getElem?_getD, List.getD_eq_getElem?_getD, List.getElem?_append_left (by omega)]
      rw [numSize_append l b h0, if_neg h0, if_neg h0, if_neg h1, if_neg (fun k => h1 (k.imp id (fun k => ⟨k.1, by rw [← hd k.1]; exact k.2⟩))), List.take_append_of_le_length hs]
theorem cutNum_append {l r : List UInt8} {n : Nat} (b : List UInt8) (h : cutNum l = some (n, r)) : cutNum (l ++ b) = some (n, r ++ b) := by
  unfold cutNum at h ⊢
  split at h
  · rename_i h0
    have hr := readNum_le l
    simp at h
    obtain ⟨rfl, rfl⟩ := h
    rw [readNum_append l b h0, if_pos h0, List.drop_append_of_le_length hr.1]
  · simp at h
theorem oneField_append {l r : List UInt8} {f : Fld} (b : List UInt8) (h : oneField l = some (f, r)) : oneField (l ++ b) = some (f, r ++ b) := by
  unfold oneField at h ⊢
  split at h
  · simp at h
  · rename_i hd r0 h0
    rw [cutNum_append b h0]
    simp only
    split at h
    · simp at h
    · rename_i c0
      rw [if_neg c0]
      split at h
      · rename_i c1
        rw [if_pos c1]
        split at h
        · simp at h
        · rename_i n r1 h1
          rw [cutNum_append b h1]
          simp at h ⊢
          exact ⟨h.1, by rw [h.2]⟩
      · rename_i c1
        rw [if_neg c1]
        split at h
        · rename_i c2
          rw [if_pos c2]
          split at h
          · rename_i hle
            rw [if_pos (by simp; omega), List.take_append_of_le_length hle, List.drop_append_of_le_length hle]
            simp at h ⊢
            exact ⟨h.1, by rw [h.2]⟩
          · simp at h
        · rename_i c2
          rw [if_neg c2]
          split at h
          · rename_i c3
            rw [if_pos c3]
            split at h
            · simp at h
            · rename_i n r1 h1
              rw [cutNum_append b h1]
              simp only
              split at h
              · rename_i hle
                rw [if_pos (by simp; omega), List.take_append_of_le_length hle, List.drop_append_of_le_length hle]
                simp at h ⊢
                exact ⟨h.1, by rw [h.2]⟩
              · simp at h
          · rename_i c3
            rw [if_neg c3]
            split at h
            · rename_i c4
              rw [if_pos c4]
              split at h
              · rename_i hle
                rw [if_pos (by simp; omega), List.drop_append_of_le_length hle]
                simp at h ⊢
                exact ⟨h.1, by rw [h.2]⟩
              · simp at h
            · simp at h
theorem fields_append (b : List UInt8) : ∀ (k : Nat) (l : List UInt8), l.length ≤ k → (fields l).2 = true → fields (l ++ b) = ((fields l).1 ++ (fields b).1, (fields b).2)
  | 0, l, hk, _ => by
    have : l = [] := List.eq_nil_of_length_eq_zero (by omega)
    subst this
    simp [fields_nil]
  | k + 1, l, hk, h => by
    by_cases h0 : l = []
    · subst h0; simp [fields_nil]
    · cases hf : oneField l with
      | none => rw [fields_none h0 hf] at h; simp at h
      | some fr =>
        obtain ⟨f, r⟩ := fr
        have hs := (oneField_shorter hf).1
        rw [fields_some h0 hf] at h ⊢
        have hne : l ++ b ≠ [] := fun e => h0 (List.append_eq_nil_iff.1 e).1
        rw [fields_some hne (oneField_append b hf), fields_append b k r (by omega) h]
        simp
theorem allStep_app (x : List Ser) (f : Fld) : allStep x f = x ++ allStep [] f := by
  unfold allStep
  split
  · split <;> simp
  · simp
theorem allFold_app : ∀ (l : List Fld) (x : List Ser), l.foldl allStep x = x ++ l.foldl allStep []
  | [], x => by simp
  | f :: l, x => by
    rw [List.foldl_cons, List.foldl_cons, allFold_app l (allStep x f), allFold_app l (allStep [] f), allStep_app x f, List.append_assoc]
theorem allRead_append {a b : List UInt8} {l m : List Ser} (ha : allRead a = some l) (hb : allRead b = some m) : allRead (a ++ b) = some (l ++ m) := by
  unfold allRead at ha hb ⊢
  split at ha
  · rename_i h1
    split at hb
    · rename_i h2
      simp only [fieldsOk, Bool.and_eq_true] at h1 h2
      have hf := fields_append b a.length a (Nat.le_refl _) h1.1
      simp at ha hb
      have hok : fieldsOk allOk (a ++ b) = true := by
        simp only [fieldsOk, hf, List.all_append, h1.2, h2.1, h2.2, Bool.and_self]
      rw [if_pos hok, hf]
      unfold allOf at ha hb ⊢
      rw [List.foldl_append, allFold_app, ha, hb]
    · simp at hb
  · simp at ha

theorem countsB_append (l m : List Ser) (hl : countsB l = true) (hm : countsB m = true) : countsB (l ++ m) = decide (l.length + m.length ≤ 200) := by
  unfold countsB at hl hm ⊢
  rw [Bool.and_eq_true] at hl hm
  rw [List.all_append, hl.2, hm.2, List.length_append]
  simp
theorem timesB_append (l m : List Ser) (hl : timesB l = true) (hm : timesB m = true) : timesB (l ++ m) = true := by
  unfold timesB at hl hm ⊢
  rw [List.all_append, hl, hm]
  rfl
theorem readErr_none {s : List UInt8} {x : List Ser} (h : readErr s = 0) (hx : allRead s = some x) : countsB x = true ∧ timesB x = true ∧ s.length ≤ 20000 := by
  unfold readErr rdErr at h
  rw [hx] at h
  simp only at h
  split at h
  · split at h
    · split at h
      · exact ⟨by assumption, by assumption, by assumption⟩
      · simp at h
    · simp at h
  · simp at h
/-- The error with which two texts behind one another are read. -/
theorem readErr_append {a b : List UInt8} {l m : List Ser} (ha : readErr a = 0) (hb : readErr b = 0) (hl : allRead a = some l) (hm : allRead b = some m) :
    readErr (a ++ b) = if a.length + b.length ≤ 20000 ∧ l.length + m.length ≤ 200 then 0 else 2 := by
  have h1 := readErr_none ha hl
  have h2 := readErr_none hb hm
  have h3 := countsB_append l m h1.1 h2.1
  have h4 := timesB_append l m h1.2.1 h2.2.1
  unfold readErr rdErr
  rw [allRead_append hl hm, List.length_append]
  simp only [h3, h4]
  by_cases c1 : a.length + b.length ≤ 20000
  · by_cases c2 : l.length + m.length ≤ 200
    · simp [c1, c2]
    · simp [c1, c2]
  · simp [c1]

end Go.Proofs.Ytojljbgopknbcaa
