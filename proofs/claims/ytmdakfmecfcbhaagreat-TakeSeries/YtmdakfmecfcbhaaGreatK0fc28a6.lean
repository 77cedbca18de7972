/- 1 texts in one. -/
import Derived.Test.YtmdakfmecfcbhaaGreatK7e06493
import Derived.Test.YtmdakfmecfcbhaaGreatK85cc7d6
import Derived.Test.YtmdakfmecfcbhaaGreatK6271d58
import Derived.Test.YtmdakfmecfcbhaaGreatKcd6d4df
import Derived.Test.YtmdakfmecfcbhaaGreatKe26850f
set_option linter.unusedVariables false
set_option linter.unusedSimpArgs false
namespace Go.Proofs.YtmdakfmecfcbhaaGreat
theorem cutNum_numB (n : Nat) (h : n < 18446744073709551616) (r : List UInt8) : cutNum (numB n ++ r) = some (n, r) := by
  unfold cutNum
  rw [numB_read n h r]
  simp
theorem numB_ne (n : Nat) (r : List UInt8) : numB n ++ r ≠ [] := by
  intro e
  have h := congrArg List.length e
  have := (numB_length n).1
  rw [List.length_append, List.length_nil] at h
  omega
theorem oneField_bytes (h : Nat) (s r : List UInt8) (h2 : h % 8 = 2) (h1 : 1 ≤ h / 8) (h3 : h / 8 ≤ 536870911) (hs : s.length < 18446744073709551616) : oneField (fieldB h s ++ r) = some ((h, 0, s), r) := by
  unfold oneField fieldB
  rw [List.append_assoc, cutNum_numB h (by omega)]
  simp only
  rw [if_neg (by omega), if_neg (by omega), if_neg (by omega), if_pos h2, List.append_assoc, cutNum_numB s.length hs]
  simp
theorem oneField_num (h n : Nat) (r : List UInt8) (h2 : h % 8 = 0) (h1 : 1 ≤ h / 8) (h3 : h / 8 ≤ 536870911) (hn : n < 18446744073709551616) : oneField (numB h ++ (numB n ++ r)) = some ((h, n, []), r) := by
  unfold oneField
  rw [cutNum_numB h (by omega)]
  simp only
  rw [if_neg (by omega), if_pos h2, cutNum_numB n hn]
theorem lowB_wordF : ∀ (f n : Nat), n < 256 ^ f → lowB (wordF f n) = n
  | 0, n, h => by simp at h; subst h; rfl
  | f + 1, n, h => by
    have e : lowB (wordF (f + 1) n) = (UInt8.ofNat n).toNat + 256 * lowB (wordF f (n / 256)) := rfl
    rw [e, lowB_wordF f (n / 256) (by rw [Nat.pow_succ] at h; omega)]
    simp
    omega
theorem oneField_eight (h n : Nat) (r : List UInt8) (h2 : h % 8 = 1) (h1 : 1 ≤ h / 8) (h3 : h / 8 ≤ 536870911) (hn : n < 18446744073709551616) : oneField (numB h ++ (wordB n ++ r)) = some ((h, n, []), r) := by
  unfold oneField
  rw [cutNum_numB h (by omega)]
  have hw := wordB_length n
  have hv : lowB (wordB n) = n := lowB_wordF 8 n (by simpa using hn)
  simp only
  rw [if_neg (by omega), if_neg (by omega), if_pos h2, if_pos (by simp; omega), List.take_append_of_le_length (by omega), List.take_of_length_le (by omega), hv, List.drop_append_of_le_length (by omega), List.drop_of_length_le (by omega)]
  rfl
theorem fields_bytes (h : Nat) (s r : List UInt8) (h2 : h % 8 = 2) (h1 : 1 ≤ h / 8) (h3 : h / 8 ≤ 536870911) (hs : s.length < 18446744073709551616) : fields (fieldB h s ++ r) = ((h, 0, s) :: (fields r).1, (fields r).2) :=
  fields_some (by unfold fieldB; rw [List.append_assoc]; exact numB_ne _ _) (oneField_bytes h s r h2 h1 h3 hs)
theorem fields_num (h n : Nat) (r : List UInt8) (h2 : h % 8 = 0) (h1 : 1 ≤ h / 8) (h3 : h / 8 ≤ 536870911) (hn : n < 18446744073709551616) : fields (numB h ++ (numB n ++ r)) = ((h, n, []) :: (fields r).1, (fields r).2) :=
  fields_some (numB_ne _ _) (oneField_num h n r h2 h1 h3 hn)
theorem fields_eight (h n : Nat) (r : List UInt8) (h2 : h % 8 = 1) (h1 : 1 ≤ h / 8) (h3 : h / 8 ≤ 536870911) (hn : n < 18446744073709551616) : fields (numB h ++ (wordB n ++ r)) = ((h, n, []) :: (fields r).1, (fields r).2) :=
  fields_some (numB_ne _ _) (oneField_eight h n r h2 h1 h3 hn)
theorem fieldB_length (h : Nat) (s : List UInt8) : s.length + 2 ≤ (fieldB h s).length := by
  have h1 := (numB_length h).1
  have h2 := (numB_length s.length).1
  simp [fieldB]
  omega
theorem fields_label (x : Lab) (h : (labelIn x).length < 18446744073709551616) : fields (labelIn x) = ([(10, 0, x.1), (18, 0, x.2)], true) := by
  have h1 := fieldB_length 10 x.1
  have h2 := fieldB_length 18 x.2
  simp [labelIn] at h
  unfold labelIn
  rw [fields_bytes 10 x.1 _ (by omega) (by omega) (by omega) (by omega)]
  have e := fields_bytes 18 x.2 [] (by omega) (by omega) (by omega) (by omega)
  rw [List.append_nil] at e
  rw [e, fields_nil]
theorem labRead_label (x : Lab) (h : (labelIn x).length < 18446744073709551616) : labRead (labelIn x) = some x := by
  unfold labRead
  rw [fields_label x h]
  simp [labOf, labStep]
theorem sgn_unsig (t : Int) (h0 : -9223372036854775808 ≤ t) (h1 : t < 9223372036854775808) : sgn (unsig t) = t := by
  unfold sgn unsig
  split <;> omega
theorem fields_sample (x : Sam) (h : x.2 < 18446744073709551616) : fields (sampleIn x) = ([(9, x.2, []), (16, unsig x.1, [])], true) := by
  unfold sampleIn
  rw [fields_eight 9 x.2 _ (by omega) (by omega) (by omega) h]
  have e := fields_num 16 (unsig x.1) [] (by omega) (by omega) (by omega) (unsig_lt x.1)
  rw [List.append_nil] at e
  rw [e, fields_nil]
theorem samRead_sample (x : Sam) (h : x.2 < 18446744073709551616) (h0 : -9223372036854775808 ≤ x.1) (h1 : x.1 < 9223372036854775808) : samRead (sampleIn x) = some x := by
  unfold samRead
  rw [fields_sample x h]
  simp [samOf, samStep, sgn_unsig x.1 h0 h1]
theorem fields_labels : ∀ (l : List Lab) (r : List UInt8), (labelsB l).length < 18446744073709551616 → fields (labelsB l ++ r) = (l.map (fun x => ((10, 0, labelIn x) : Fld)) ++ (fields r).1, (fields r).2)
  | [], r, _ => by simp [labelsB]
  | x :: l, r, h => by
    have h1 := fieldB_length 10 (labelIn x)
    simp [labelsB] at h
    simp only [labelsB, List.append_assoc]
    rw [fields_bytes 10 (labelIn x) _ (by omega) (by omega) (by omega) (by omega), fields_labels l r (by omega)]
    simp
theorem fields_samples : ∀ (l : List Sam) (r : List UInt8), (samplesB l).length < 18446744073709551616 → fields (samplesB l ++ r) = (l.map (fun x => ((18, 0, sampleIn x) : Fld)) ++ (fields r).1, (fields r).2)
  | [], r, _ => by simp [samplesB]
  | x :: l, r, h => by
    have h1 := fieldB_length 18 (sampleIn x)
    simp [samplesB] at h
    simp only [samplesB, List.append_assoc]
    rw [fields_bytes 18 (sampleIn x) _ (by omega) (by omega) (by omega) (by omega), fields_samples l r (by omega)]
    simp
def inSer (x : Ser) : List UInt8 := labelsB x.1 ++ samplesB x.2
theorem fields_series : ∀ (l : List Ser) (r : List UInt8), (seriesB l).length < 18446744073709551616 → fields (seriesB l ++ r) = (l.map (fun x => ((10, 0, inSer x) : Fld)) ++ (fields r).1, (fields r).2)
  | [], r, _ => by simp [seriesB]
  | x :: l, r, h => by
    have h1 := fieldB_length 10 (inSer x)
    have e : seriesB (x :: l) = fieldB 10 (inSer x) ++ seriesB l := rfl
    rw [e] at h ⊢
    simp at h
    rw [List.append_assoc, fields_bytes 10 (inSer x) _ (by omega) (by omega) (by omega) (by omega), fields_series l r (by omega)]
    simp
theorem ser_labels : ∀ (l : List Lab) (x : Ser), (labelsB l).length < 18446744073709551616 → (l.map (fun x => ((10, 0, labelIn x) : Fld))).foldl serStep x = (x.1 ++ l, x.2) ∧ (l.map (fun x => ((10, 0, labelIn x) : Fld))).all serOk = true
  | [], x, _ => by simp
  | y :: l, x, h => by
    have h1 := fieldB_length 10 (labelIn y)
    simp [labelsB] at h
    have hr := labRead_label y (by omega)
    have ih := ser_labels l (x.1 ++ [y], x.2) (by omega)
    have e : serStep x (10, 0, labelIn y) = (x.1 ++ [y], x.2) := by simp [serStep, hr]
    have e2 : serOk (10, 0, labelIn y) = true := by simp [serOk, hr]
    simp only [List.map_cons, List.foldl_cons, List.all_cons, e, e2, ih.1, ih.2]
    simp
def samFit (x : Sam) : Prop := x.2 < 18446744073709551616 ∧ -9223372036854775808 ≤ x.1 ∧ x.1 < 9223372036854775808
theorem ser_samples : ∀ (l : List Sam) (x : Ser), (∀ y ∈ l, samFit y) → (l.map (fun x => ((18, 0, sampleIn x) : Fld))).foldl serStep x = (x.1, x.2 ++ l) ∧ (l.map (fun x => ((18, 0, sampleIn x) : Fld))).all serOk = true
  | [], x, _ => by simp
  | y :: l, x, h => by
    have hy := h y (by simp)
    have hr := samRead_sample y hy.1 hy.2.1 hy.2.2
    have ih := ser_samples l (x.1, x.2 ++ [y]) (fun z hz => h z (by simp [hz]))
    have e : serStep x (18, 0, sampleIn y) = (x.1, x.2 ++ [y]) := by simp [serStep, hr]
    have e2 : serOk (18, 0, sampleIn y) = true := by simp [serOk, hr]
    simp only [List.map_cons, List.foldl_cons, List.all_cons, e, e2, ih.1, ih.2]
    simp
theorem serRead_series (x : Ser) (h : (inSer x).length < 18446744073709551616) (hs : ∀ y ∈ x.2, samFit y) : serRead (inSer x) = some x := by
  have hl : (labelsB x.1).length < 18446744073709551616 := by simp [inSer] at h; omega
  have hm : (samplesB x.2).length < 18446744073709551616 := by simp [inSer] at h; omega
  have e : fields (inSer x) = (x.1.map (fun x => ((10, 0, labelIn x) : Fld)) ++ x.2.map (fun x => ((18, 0, sampleIn x) : Fld)), true) := by
    unfold inSer
    rw [fields_labels x.1 _ hl]
    have := fields_samples x.2 [] hm
    rw [List.append_nil] at this
    rw [this, fields_nil]
    simp
  have k1 := ser_labels x.1 ([], []) hl
  have k2 := ser_samples x.2 (([], []) : Ser) hs
  have k3 := ser_samples x.2 (x.1, []) hs
  unfold serRead fieldsOk serOf
  rw [e]
  simp only [List.foldl_append, List.all_append, k1.1, k1.2, k2.2, Bool.and_self, if_true]
  simp only [List.nil_append]
  rw [k3.1]
  simp
theorem all_series : ∀ (l : List Ser) (x : List Ser), (seriesB l).length < 18446744073709551616 → (∀ y ∈ l, ∀ z ∈ y.2, samFit z) → (l.map (fun x => ((10, 0, inSer x) : Fld))).foldl allStep x = x ++ l ∧ (l.map (fun x => ((10, 0, inSer x) : Fld))).all allOk = true
  | [], x, _, _ => by simp
  | y :: l, x, h, hs => by
    have h1 := fieldB_length 10 (inSer y)
    have e0 : seriesB (y :: l) = fieldB 10 (inSer y) ++ seriesB l := rfl
    rw [e0] at h
    simp at h
    have hr := serRead_series y (by omega) (hs y (by simp))
    have ih := all_series l (x ++ [y]) (by omega) (fun z hz => hs z (by simp [hz]))
    have e : allStep x (10, 0, inSer y) = x ++ [y] := by simp [allStep, hr]
    have e2 : allOk (10, 0, inSer y) = true := by simp [allOk, hr]
    simp only [List.map_cons, List.foldl_cons, List.all_cons, e, e2, ih.1, ih.2]
    simp
/-- WHAT IS WRITTEN IS READ AS IT WAS. -/
theorem allRead_series (l : List Ser) (h : (seriesB l).length < 18446744073709551616) (hs : ∀ y ∈ l, ∀ z ∈ y.2, samFit z) : allRead (seriesB l) = some l := by
  have k := all_series l [] h hs
  have e := fields_series l [] h
  rw [List.append_nil] at e
  unfold allRead fieldsOk allOf
  rw [e, fields_nil]
  simp only [List.append_nil, k.1, k.2, Bool.and_self, if_true]
  simp
theorem readErr_series (l : List Ser) (hw : writeErr l = 0) (hb : ∀ x ∈ l, bitsFit x) : allRead (seriesB l) = some l ∧ readErr (seriesB l) = 0 := by
  have h : countsB l = true ∧ timesB l = true ∧ (seriesB l).length ≤ 20000 := by
    unfold writeErr at hw
    split at hw
    · split at hw
      · split at hw
        · exact ⟨by assumption, by assumption, by assumption⟩
        · simp at hw
      · simp at hw
    · simp at hw
  have ht := (timesB_iff l).2 h.2.1
  have k := allRead_series l (by have := h.2.2; omega) (fun y hy z hz => by
    have h1 := ht y hy z hz
    exact ⟨hb y hy z hz, by omega, by omega⟩)
  exact ⟨k, by simp [readErr, rdErr, k, h.1, h.2.1, h.2.2]⟩
end Go.Proofs.YtmdakfmecfcbhaaGreat
