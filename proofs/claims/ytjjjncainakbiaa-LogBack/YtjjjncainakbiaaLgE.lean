/- Logs: the document's own way to read a part; plain mathematics. -/
import Derived.Test.YtjjjncainakbiaaKit
import Derived.Test.YtjjjncainakbiaaLgS
import Derived.Test.YtjjjncainakbiaaLgP
import Derived.Test.YtjjjncainakbiaaLgT
set_option linter.unusedVariables false
set_option linter.unusedSimpArgs false
namespace Go.Proofs.Ytjjjncainakbiaa.Lg

theorem lowN_cons (c : UInt8) (l : List UInt8) : lowN (c :: l) = c.toNat + 256 * lowN l := rfl
theorem byte_back (c : UInt8) (n : Nat) (h : n = c.toNat) : UInt8.ofNat n = c := by subst h; simp
theorem byte_back2 (c : UInt8) (n : Nat) (h : n % 256 = c.toNat) : UInt8.ofNat n = c := by
  apply UInt8.toNat_inj.1
  simpa using h
theorem le4_low (a b c d : UInt8) : le4 (lowN [a, b, c, d]) = [a, b, c, d] := by
  have ha := a.toNat_lt
  have hb := b.toNat_lt
  have hc := c.toNat_lt
  have hd := d.toNat_lt
  simp only [le4, lowN_cons]
  have e : lowN [] = 0 := rfl
  rw [e, byte_back2 a _ (by omega), byte_back2 b _ (by omega), byte_back2 c _ (by omega), byte_back2 d _ (by omega)]
theorem low_le4 (n : Nat) (h : n < 4294967296) : lowN (le4 n) = n := by
  simp only [le4, lowN_cons]
  have e : lowN [] = 0 := rfl
  rw [e]
  simp
  omega
theorem drop_get (l : List UInt8) (i : Nat) (h : i < l.length) : l.drop i = l[i] :: l.drop (i + 1) := List.drop_eq_getElem_cons h
theorem take_succ (l : List UInt8) (i k : Nat) (h : i < l.length) : (l.drop i).take (k + 1) = l[i] :: (l.drop (i + 1)).take k := by rw [drop_get l i h]; rfl
/-- The bytes of a head and what is behind it. -/
theorem head_is (l : List UInt8) (a n : Nat) (h : a + 7 + n ≤ l.length) : (l.drop a).take (7 + n) = [l[a], l[a + 1], l[a + 2], l[a + 3], l[a + 4], l[a + 5], l[a + 6]] ++ (l.drop (a + 7)).take n := by
  rw [show 7 + n = n + 6 + 1 from by omega, take_succ l a _ (by omega), take_succ l (a + 1) _ (by omega), take_succ l (a + 1 + 1) _ (by omega), take_succ l (a + 1 + 1 + 1) _ (by omega), take_succ l (a + 1 + 1 + 1 + 1) _ (by omega), take_succ l (a + 1 + 1 + 1 + 1 + 1) _ (by omega), take_succ l (a + 1 + 1 + 1 + 1 + 1 + 1) _ (by omega)]
  rfl
theorem low_one (l : List UInt8) (a : Nat) (h : a < l.length) : lowN ((l.drop a).take 1) = l[a].toNat := by
  rw [take_succ l a 0 h]; rfl
theorem low_two (l : List UInt8) (a : Nat) (h : a + 1 < l.length) : lowN ((l.drop a).take 2) = l[a].toNat + 256 * l[a + 1].toNat := by
  rw [take_succ l a 1 (by omega), take_succ l (a + 1) 0 h]; rfl
theorem low_four (l : List UInt8) (a : Nat) (h : a + 3 < l.length) : (l.drop a).take 4 = [l[a], l[a + 1], l[a + 2], l[a + 3]] := by
  rw [take_succ l a 3 (by omega), take_succ l (a + 1) 2 (by omega), take_succ l (a + 1 + 1) 1 (by omega), take_succ l (a + 1 + 1 + 1) 0 (by omega)]; rfl

/-- A part stands there just if its own bytes do. -/
theorem partAt_ref {l : List UInt8} {p a : Nat} (ha : a = p + (padL p).length) (hz : (l.drop p).take (padL p).length = padL p) (h7 : a + 7 ≤ l.length) :
    partAt l p = if l.length < a + 7 + (l[a + 1].toNat + 256 * l[a + 2].toNat) ∨ 128 < a % 128 + 7 + (l[a + 1].toNat + 256 * l[a + 2].toNat) then none
      else if partB l[a].toNat ((l.drop (a + 7)).take (l[a + 1].toNat + 256 * l[a + 2].toNat)) = (l.drop a).take (7 + (l[a + 1].toNat + 256 * l[a + 2].toNat)) then some (l[a].toNat, (l.drop (a + 7)).take (l[a + 1].toNat + 256 * l[a + 2].toNat), a + 7 + (l[a + 1].toNat + 256 * l[a + 2].toNat)) else none := by
  have hm := (pad_le p).2
  rw [← ha] at hm
  unfold partAt
  rw [if_neg (fun h => h hz), ← ha, if_neg (by omega), low_two l (a + 1) (by omega), low_one l a (by omega), low_four l (a + 3) (by omega)]
  generalize hn : l[a + 1].toNat + 256 * l[a + 2].toNat = n
  by_cases h1 : l.length < a + 7 + n ∨ 128 < a % 128 + 7 + n
  · rw [if_pos h1, if_pos (by omega)]
  · rw [if_neg h1, if_neg (by omega)]
    have hlen : ((l.drop (a + 7)).take n).length = n := by rw [List.length_take, List.length_drop]; omega
    have hpb : partB l[a].toNat ((l.drop (a + 7)).take n) = [l[a], l[a + 1], l[a + 2]] ++ le4 (ckSum ((l.drop (a + 7)).take n)) ++ (l.drop (a + 7)).take n := by
      unfold partB headB
      rw [hlen, byte_back l[a] _ rfl, byte_back2 l[a + 1] n (by have := l[a + 1].toNat_lt; omega), byte_back2 l[a + 2] (n / 256) (by have := l[a + 1].toNat_lt; have := l[a + 2].toNat_lt; omega)]
      rfl
    rw [hpb, head_is l a n (by omega)]
    have hiff : ([l[a], l[a + 1], l[a + 2]] ++ le4 (ckSum ((l.drop (a + 7)).take n)) ++ (l.drop (a + 7)).take n = [l[a], l[a + 1], l[a + 2], l[a + 3], l[a + 4], l[a + 5], l[a + 6]] ++ (l.drop (a + 7)).take n) ↔ ckSum ((l.drop (a + 7)).take n) = lowN [l[a + 3], l[a + 3 + 1], l[a + 3 + 2], l[a + 3 + 3]] := by
      constructor
      · intro h
        have h2 := List.append_cancel_right h
        have h3 : le4 (ckSum ((l.drop (a + 7)).take n)) = [l[a + 3], l[a + 4], l[a + 5], l[a + 6]] := by
          have := congrArg (List.drop 3) h2
          exact this
        have h4 := low_le4 _ (ckSum_lt ((l.drop (a + 7)).take n))
        rw [h3] at h4
        exact h4.symm
      · intro h
        rw [h, le4_low]
        rfl
    by_cases hc : ckSum ((l.drop (a + 7)).take n) = lowN [l[a + 3], l[a + 3 + 1], l[a + 3 + 2], l[a + 3 + 3]]
    · rw [if_neg (fun h => h hc), if_pos (hiff.2 hc)]
    · rw [if_pos hc, if_neg (fun h => hc (hiff.1 h))]

/-- What is still to be read, with what has been read of a record. -/
def restE (l : List UInt8) (p : Nat) (inn : Bool) (opn : List UInt8) : List (List UInt8 × Nat) := match recA l p (!inn) with
  | none => []
  | some (r, e) => (opn ++ r, e) :: entA l e
theorem restE_none {l : List UInt8} {p : Nat} {inn : Bool} {opn : List UInt8} (h : partAt l p = none) : restE l p inn opn = [] := by
  unfold restE
  rw [recA_eq, h]
theorem restE_bad {l : List UInt8} {p k e : Nat} {inn : Bool} {opn s : List UInt8} (h : partAt l p = some (k, s, e)) (hm : mayB k (!inn) = false) : restE l p inn opn = [] := by
  unfold restE
  rw [recA_eq, h]
  simp [hm]
theorem restE_end {l : List UInt8} {p k e : Nat} {inn : Bool} {opn s : List UInt8} (h : partAt l p = some (k, s, e)) (hm : mayB k (!inn) = true) (he : endsB k = true) : restE l p inn opn = (opn ++ s, e) :: entA l e := by
  unfold restE
  rw [recA_eq, h]
  simp [hm, he]
theorem restE_on {l : List UInt8} {p k e : Nat} {inn : Bool} {opn s : List UInt8} (h : partAt l p = some (k, s, e)) (hm : mayB k (!inn) = true) (he : endsB k = false) : restE l p inn opn = restE l e true (opn ++ s) := by
  unfold restE
  rw [recA_eq, h]
  simp only [hm, he, if_true, Bool.not_true, Bool.false_eq_true, if_false]
  cases recA l e false with
  | none => rfl
  | some x => simp [List.append_assoc]
theorem restE_new (l : List UInt8) (p : Nat) : restE l p false [] = entA l p := by
  unfold restE
  rw [entA_eq]
  simp only [Bool.not_false, List.nil_append]
  cases recA l p true <;> rfl
end Go.Proofs.Ytjjjncainakbiaa.Lg
