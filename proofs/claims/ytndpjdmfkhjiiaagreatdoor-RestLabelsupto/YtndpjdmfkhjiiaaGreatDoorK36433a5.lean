/- 2 texts in one. -/
import Derived.Test.YtndpjdmfkhjiiaaGreatDoorProg
import Derived.Test.YtndpjdmfkhjiiaaGreatDoorK97fdc06
import Derived.Test.YtndpjdmfkhjiiaaGreatDoorK3fb6336
import Derived.Test.YtndpjdmfkhjiiaaGreatDoorK395e834
import Derived.Test.YtndpjdmfkhjiiaaGreatDoorKb8b36ab
import Derived.ProofKit
import Derived.Deep.Slices
import Derived.Lib.IndexLaws
import Derived.Test.YtndpjdmfkhjiiaaGreatDoorKbff346a
import Derived.Test.YtndpjdmfkhjiiaaGreatDoorKbd7ef7d
set_option linter.unusedVariables false
set_option linter.unusedSimpArgs false
namespace Go.Proofs.YtndpjdmfkhjiiaaGreatDoor
open Go.RowKit Go.ChangeShapes Go.WideShapes
theorem Tryz.ocells9 : Tryz.prog.cellsOf 9 = 1 := by kernel_rfl
/-- Numbers that can be read. -/
def readsInts (w : World) (B : Nat) (v : Value) (ns : List Int) : Prop :=
  ∃ ao cp, v = .slice ao ns.length cp ∧ ∀ i (h : i < ns.length), ∃ b o, ao = some ⟨b, o, none⟩ ∧ b < B ∧ w.cell? ⟨b, o + i, none⟩ = some (.int .i64 ns[i])
theorem readsInts.keep {w w' : World} {B : Nat} {v : Value} {ns : List Int} (h : readsInts w B v ns) (g : Below B w w') : readsInts w' B v ns := by
  obtain ⟨ao, cp, hv, h⟩ := h
  refine ⟨ao, cp, hv, fun i hi => ?_⟩
  obtain ⟨b, o, h1, h2, h3⟩ := h i hi
  exact ⟨b, o, h1, h2, (cell_keep (g.block b h2)).trans h3⟩
theorem readsInts.more {w : World} {B B' : Nat} {v : Value} {ns : List Int} (h : readsInts w B v ns) (hB : B ≤ B') : readsInts w B' v ns := by
  obtain ⟨ao, cp, hv, h⟩ := h
  refine ⟨ao, cp, hv, fun i hi => ?_⟩
  obtain ⟨b, o, h1, h2, h3⟩ := h i hi
  exact ⟨b, o, h1, by omega, h3⟩
/-- From an element for each index to a list of them. -/
theorem olist_of {α : Type} {n : Nat} {p : Nat → α → Prop} (h : ∀ i, i < n → ∃ x, p i x) : ∃ l : List α, l.length = n ∧ ∀ i (hi : i < l.length), p i l[i] := by
  induction n with
  | zero => exact ⟨[], rfl, fun i hi => by simp at hi⟩
  | succ n ih =>
    obtain ⟨l, hl, hp⟩ := ih fun i hi => h i (by omega)
    obtain ⟨x, hx⟩ := h n (by omega)
    refine ⟨l ++ [x], by simp [hl], fun i hi => ?_⟩
    by_cases e : i < l.length
    · rw [List.getElem_append_left e]; exact hp i e
    · have : i = n := by simp at hi; omega
      subst this
      rw [List.getElem_append_right (by omega)]
      simpa using hx
theorem oadd_at {b o : Nat} {sp : Option Nat} {w : World} {i : Nat} {v : Value} (h : w.cell? ((Addr.add ⟨b, o, sp⟩ i).add 0) = some v) : w.cell? ⟨b, o + i, none⟩ = some v ∧ (i = 0 → sp = none) := by
  unfold Addr.add at h
  by_cases hi : i = 0
  · subst hi
    cases sp with
    | none => simpa using h
    | some k => exfalso; simp [World.cell?] at h; split at h <;> simp at h
  · simp [hi] at h
    exact ⟨by simpa using h, fun e => absurd e hi⟩
section
variable {H : Type} {enc : TypeId × Value → H} {w : World} {spare : Nat → Bool} {held : Bool}
theorem ocells1 {base : Nat} {a : Addr} {cs : List Value} (h : w.cells? base a 1 = some cs) : ∃ x, cs = [x] ∧ w.cell? (a.add 0) = some x := by
  obtain ⟨_, hl, hc⟩ := World.cells?_some h
  match cs, hl with
  | [x], _ => exact ⟨x, rfl, hc 0 (by omega)⟩
set_option maxRecDepth 20000 in
theorem open_texts {fuel : Nat} {v : Value} {x : DataW H × List MemPlace} (h : DataW.trod enc Tryz.prog w 0 spare held fuel 22 [v] = some x) :
    ∃ ls, readsStrs w w.heap.size v ls ∧ ls.length ≤ 9223372036854775807 ∧ ∀ y ∈ ls, y.length ≤ 9223372036854775807 := by
  rcases Go.Deep.open_slice Tryz.underlying22 h with ⟨h1, _⟩ | ⟨a, len, cap, m, n, D, Pl, h1, _, hl, hm, hmm, _, hx⟩
  · simp at h1
    subst h1
    exact ⟨[], ⟨none, 0, rfl, fun i hi => by simp at hi⟩, by simp, by simp⟩
  · simp at h1
    subst h1
    have hle : len ≤ m := by rw [hmm]; split <;> omega
    obtain ⟨ls, hlen, hp⟩ := olist_of (n := len) (p := fun i (y : List UInt8) => y.length ≤ maxLen ∧ w.cell? ⟨a.block, a.off + i, none⟩ = some (.string (bs y)) ∧ (i = 0 → a = ⟨a.block, a.off, none⟩)) (fun i hi => by
      obtain ⟨cs', c1, c2⟩ := hx i (by omega)
      rw [Tryz.ocells9] at c1
      obtain ⟨p, rfl, e0⟩ := ocells1 c1
      obtain ⟨s0, h0, _, l0⟩ := DataW.trod_string Tryz.underlying9 c2
      simp at h0
      subst h0
      obtain ⟨ab, ao, asp⟩ := a
      rw [Nat.mul_one] at e0
      obtain ⟨e1, e2⟩ := oadd_at e0
      exact ⟨s0.data.toList, by rw [Array.length_toList]; exact l0, by rw [← bs_surj]; exact e1, fun h => by rw [e2 h]⟩)
    refine ⟨ls, ⟨some a, cap, by rw [hlen], fun i hi => ?_⟩, by unfold maxLen at hm; omega, fun y hy => ?_⟩
    · obtain ⟨_, h1, _⟩ := hp i hi
      obtain ⟨_, _, h2⟩ := hp 0 (by omega)
      obtain ⟨ab, ao, asp⟩ := a
      have h3 := h2 rfl
      simp at h3
      subst h3
      exact ⟨ab, ao, rfl, World.block_lt_of_cell? _ _ h1, h1⟩
    · obtain ⟨i, hi, rfl⟩ := List.getElem_of_mem hy
      have := (hp i hi).1
      unfold maxLen at this
      omega
end
end Go.Proofs.YtndpjdmfkhjiiaaGreatDoor
namespace Go.Proofs.YtndpjdmfkhjiiaaGreatDoor
/-- Texts, and groups (-1: a text). -/
def tmR : Nat → List UInt8 → Option (List (List UInt8 × Int))
  | _, [] => some []
  | 0, _ :: _ => none
  | f + 1, c :: t =>
    if c.toNat ≠ 36 then (tmR f t).map (([c], -1) :: ·)
    else if (t.getD 0 0).toNat = 36 then (tmR f (t.drop 1)).map (([36], -1) :: ·)
    else if isNu (t.getD 0 0) = true then (tmR f (t.drop 1)).map (([], ((t.getD 0 0).toNat : Int) - 48) :: ·)
    else if (t.getD 0 0).toNat = 123 ∧ isNu (t.getD 1 0) = true ∧ (t.getD 2 0).toNat = 125 then (tmR f (t.drop 3)).map (([], ((t.getD 1 0).toNat : Int) - 48) :: ·)
    else none
theorem tmR_nil (f : Nat) : tmR f [] = some [] := by cases f <;> rfl
theorem tmR_fuel : ∀ (n f f' : Nat) (t : List UInt8), t.length ≤ n → t.length ≤ f → t.length ≤ f' → tmR f t = tmR f' t := by
  intro n
  induction n with
  | zero =>
    intro f f' t hn _ _
    obtain rfl : t = [] := List.eq_nil_of_length_eq_zero (by omega)
    rw [tmR_nil, tmR_nil]
  | succ n ih =>
    intro f f' t hn h1 h2
    cases t with
    | nil => rw [tmR_nil, tmR_nil]
    | cons c t =>
      simp at hn h1 h2
      obtain ⟨f, rfl⟩ : ∃ k, f = k + 1 := ⟨f - 1, by omega⟩
      obtain ⟨f', rfl⟩ : ∃ k, f' = k + 1 := ⟨f' - 1, by omega⟩
      rw [tmR, tmR, ih f f' t (by omega) (by omega) (by omega), ih f f' (t.drop 1) (by simp; omega) (by simp; omega) (by simp; omega), ih f f' (t.drop 3) (by simp; omega) (by simp; omega) (by simp; omega)]
/-- What a text or a group stands for. -/
def valT (whole : List UInt8) (gs : List (List UInt8)) (x : List UInt8 × Int) : List UInt8 :=
  if x.2 = 0 then whole else if 0 < x.2 ∧ x.2 ≤ gs.length then gs.getD (x.2.toNat - 1) [] else x.1
def valsT (whole : List UInt8) (gs : List (List UInt8)) (l : List (List UInt8 × Int)) : List UInt8 := (l.map (valT whole gs)).flatten
theorem valsT_cons (whole : List UInt8) (gs : List (List UInt8)) (x : List UInt8 × Int) (l : List (List UInt8 × Int)) : valsT whole gs (x :: l) = valT whole gs x ++ valsT whole gs l := rfl
theorem valT_text (whole : List UInt8) (gs : List (List UInt8)) (s : List UInt8) : valT whole gs (s, -1) = s := by simp [valT]
theorem valT_group (whole : List UInt8) (gs : List (List UInt8)) (c : UInt8) (h : isNu c = true) : valT whole gs ([], (c.toNat : Int) - 48) = if c.toNat = 48 then whole else gs.getD (c.toNat - 49) [] := by
  have hc : 48 ≤ c.toNat ∧ c.toNat ≤ 57 := by simpa [isNu] using h
  unfold valT
  simp only
  by_cases h0 : c.toNat = 48
  · rw [if_pos (by omega), if_pos h0]
  · rw [if_neg (by omega), if_neg h0]
    have he : ((c.toNat : Int) - 48).toNat - 1 = c.toNat - 49 := by omega
    rw [he]
    by_cases hl : c.toNat - 49 < gs.length
    · rw [if_pos (by omega)]
    · rw [if_neg (by omega), List.getD_eq_getElem?_getD, List.getElem?_eq_none_iff.2 (by omega)]
      rfl
theorem tm_pre (whole : List UInt8) (gs : List (List UInt8)) : ∀ (a r : List UInt8) (f : Nat), (∀ c ∈ a, c.toNat ≠ 36) → (a ++ r).length ≤ f →
    (tmR f (a ++ r)).map (valsT whole gs) = ((tmR f r).map (valsT whole gs)).map (a ++ ·)
  | [], r, f, _, _ => by rw [List.nil_append]; cases tmR f r <;> simp
  | c :: a, r, f, h, hf => by
    simp at hf
    obtain ⟨f, rfl⟩ : ∃ k, f = k + 1 := ⟨f - 1, by omega⟩
    have ih := tm_pre whole gs a r f (fun x hx => h x (by simp [hx])) (by simp; omega)
    show (tmR (f + 1) (c :: (a ++ r))).map _ = _
    rw [tmR, if_pos (h c (by simp)), tmR_fuel r.length (f + 1) f r (Nat.le_refl _) (by omega) (by omega)]
    cases hx : tmR f (a ++ r) with
    | none =>
      rw [hx] at ih
      cases hy : tmR f r with
      | none => rfl
      | some y => rw [hy] at ih; cases ih
    | some x =>
      rw [hx] at ih
      cases hy : tmR f r with
      | none => rw [hy] at ih; cases ih
      | some y =>
        rw [hy] at ih
        simp only [Option.map_some, Option.some.injEq] at ih ⊢
        rw [valsT_cons, valT_text, ih]
        simp
theorem getD_lt {t : List UInt8} {k : Nat} (h : 0 < (t.getD k 0).toNat) : k < t.length := by
  by_cases c : k < t.length
  · exact c
  · rw [List.getD_eq_getElem?_getD, List.getElem?_eq_none_iff.2 (by omega)] at h
    simp at h
theorem isNu_lt {t : List UInt8} {k : Nat} (h : isNu (t.getD k 0) = true) : k < t.length := by
  have : 48 ≤ (t.getD k 0).toNat ∧ (t.getD k 0).toNat ≤ 57 := by simpa [isNu] using h
  exact getD_lt (by omega)
/-- THE SAME STANDS FOR A TEMPLATE, byte by byte and piece by piece. -/
theorem tm_ex (whole : List UInt8) (gs : List (List UInt8)) : ∀ (n : Nat) (t : List UInt8) (f : Nat), t.length ≤ n → t.length ≤ f → (tmR f t).map (valsT whole gs) = exP whole gs f t := by
  intro n
  induction n with
  | zero =>
    intro t f hn _
    obtain rfl : t = [] := List.eq_nil_of_length_eq_zero (by omega)
    cases f <;> rfl
  | succ n ih =>
    intro t f hn hf
    cases t with
    | nil => cases f <;> rfl
    | cons c t =>
      have hn' : t.length ≤ n := by simpa using hn
      simp at hf
      obtain ⟨f, rfl⟩ : ∃ k, f = k + 1 := ⟨f - 1, by omega⟩
      rw [exP_step (by simp)]
      by_cases h36 : c.toNat = 36
      · have g0 : (c :: t).getD 0 0 = c := rfl
        have g1 : (c :: t).getD 1 0 = t.getD 0 0 := by simp
        have g2 : (c :: t).getD 2 0 = t.getD 1 0 := by simp
        have g3 : (c :: t).getD 3 0 = t.getD 2 0 := by simp
        rw [tmR, if_neg (by omega)]
        by_cases hd : (t.getD 0 0).toNat = 36
        · have hl : 0 < t.length := getD_lt (by omega)
          have hs : sizeT (c :: t) = 2 := by
            unfold sizeT
            rw [g0, g1, if_neg (by omega), if_pos ⟨by simp; omega, .inl hd⟩]
          have hp : pieceB ((c :: t).take 2) whole gs = [36] := by
            unfold pieceB
            have e0 : ((c :: t).take 2).getD 0 0 = c := rfl
            have e1 : ((c :: t).take 2).getD 1 0 = t.getD 0 0 := by cases t <;> rfl
            rw [e0, e1, if_neg (by omega), if_pos hd]
          rw [if_pos hd, hs, if_neg (by decide), hp, show (c :: t).drop 2 = t.drop 1 from rfl, ← ih (t.drop 1) f (by simp; omega) (by simp; omega)]
          cases tmR f (t.drop 1) with
          | none => rfl
          | some y => simp [valsT_cons, valT_text]
        · rw [if_neg hd]
          by_cases hnu : isNu (t.getD 0 0) = true
          · have hl : 0 < t.length := isNu_lt hnu
            have hs : sizeT (c :: t) = 2 := by
              unfold sizeT
              rw [g0, g1, if_neg (by omega), if_pos ⟨by simp; omega, .inr hnu⟩]
            have hp : pieceB ((c :: t).take 2) whole gs = valT whole gs ([], ((t.getD 0 0).toNat : Int) - 48) := by
              unfold pieceB
              have e0 : ((c :: t).take 2).getD 0 0 = c := rfl
              have e1 : ((c :: t).take 2).getD 1 0 = t.getD 0 0 := by cases t <;> rfl
              have e2 : ((c :: t).take 2).length / 2 = 1 := by rw [List.length_take]; simp; omega
              rw [e2, e0, e1, if_neg (by omega), if_neg hd, valT_group _ _ _ hnu]
            rw [if_pos hnu, hs, if_neg (by decide), hp, show (c :: t).drop 2 = t.drop 1 from rfl, ← ih (t.drop 1) f (by simp; omega) (by simp; omega)]
            cases tmR f (t.drop 1) with
            | none => rfl
            | some y => simp [valsT_cons]
          · rw [if_neg hnu]
            by_cases hb : (t.getD 0 0).toNat = 123 ∧ isNu (t.getD 1 0) = true ∧ (t.getD 2 0).toNat = 125
            · have hl : 2 < t.length := getD_lt (by omega)
              have hs : sizeT (c :: t) = 4 := by
                unfold sizeT
                rw [g0, g1, g2, g3, if_neg (by omega), if_neg (by rintro ⟨_, h | h⟩; exact hd h; exact hnu h), if_pos ⟨by simp; omega, hb⟩]
              have hp : pieceB ((c :: t).take 4) whole gs = valT whole gs ([], ((t.getD 1 0).toNat : Int) - 48) := by
                unfold pieceB
                have e0 : ((c :: t).take 4).getD 0 0 = c := rfl
                have e1 : ((c :: t).take 4).getD 1 0 = t.getD 0 0 := by cases t <;> rfl
                have e3 : ((c :: t).take 4).getD 2 0 = t.getD 1 0 := by
                  match t, hl with
                  | a :: b :: l, _ => rfl
                have e2 : ((c :: t).take 4).length / 2 = 2 := by rw [List.length_take]; simp; omega
                rw [e2, e0, e1, e3, if_neg (by omega), if_neg hd, valT_group _ _ _ hb.2.1]
              rw [if_pos hb, hs, if_neg (by decide), hp, show (c :: t).drop 4 = t.drop 3 from rfl, ← ih (t.drop 3) f (by simp; omega) (by simp; omega)]
              cases tmR f (t.drop 3) with
              | none => rfl
              | some y => simp [valsT_cons]
            · have hs : sizeT (c :: t) = 0 := by
                unfold sizeT
                rw [g0, g1, g2, g3, if_neg (by omega), if_neg (by rintro ⟨_, h | h⟩; exact hd h; exact hnu h), if_neg (by rintro ⟨_, h⟩; exact hb h)]
              rw [if_neg hb, hs, if_pos rfl]
              rfl
      · have hfirst : ∃ k, sizeT (c :: t) = k ∧ 0 < k ∧ k ≤ (c :: t).length ∧ ∀ x ∈ (c :: t).take k, x.toNat ≠ 36 := by
          have g0 : (c :: t).getD 0 0 = c := rfl
          by_cases hi : 0 ≤ Lib.indexByte (c :: t) 36
          · obtain ⟨o, ho⟩ := Int.eq_ofNat_of_zero_le hi
            obtain ⟨h1, h2⟩ := Lib.indexByte_some ho
            refine ⟨o, by unfold sizeT; rw [g0, if_pos h36, if_pos hi, ho]; rfl, ?_, ?_, ?_⟩
            · rcases Nat.eq_zero_or_pos o with rfl | h
              · simp at h1
                rw [h1] at h36
                exact absurd rfl h36
              · exact h
            · have := (List.getElem?_eq_some_iff.1 h1).1
              omega
            · intro x hx h
              obtain ⟨j, hj, rfl⟩ := List.getElem_of_mem hx
              have hj' : j < o := by rw [List.length_take] at hj; omega
              have hxx : (c :: t)[j]? = some 36 := by
                rw [List.getElem_take] at h
                rw [List.getElem?_eq_getElem (by rw [List.length_take] at hj; omega)]
                congr 1
                exact UInt8.toNat_inj.1 h
              exact h2 j hj' hxx
          · refine ⟨(c :: t).length, by unfold sizeT; rw [g0, if_pos h36, if_neg hi], by simp, Nat.le_refl _, ?_⟩
            intro x hx h
            rw [List.take_length] at hx
            have hx36 : x = 36 := UInt8.toNat_inj.1 h
            subst hx36
            have hge := Lib.indexByte_ge (c :: t) 36
            obtain ⟨j, hj, hjx⟩ := List.getElem_of_mem hx
            exact Lib.indexByte_none (l := c :: t) (c := 36) (by omega) j (by rw [List.getElem?_eq_getElem hj, hjx])
        obtain ⟨k, hk, hk0, hkl, hno⟩ := hfirst
        rw [hk, if_neg (by omega)]
        have hp : pieceB ((c :: t).take k) whole gs = (c :: t).take k := by
          unfold pieceB
          have e0 : ((c :: t).take k).getD 0 0 = c := by
            obtain ⟨k, rfl⟩ : ∃ j, k = j + 1 := ⟨k - 1, by omega⟩
            rfl
          rw [e0, if_pos h36]
        have hsp := tm_pre whole gs ((c :: t).take k) ((c :: t).drop k) (f + 1) hno (by rw [List.take_append_drop]; simpa using hf)
        rw [List.take_append_drop] at hsp
        rw [hsp, hp, ← ih ((c :: t).drop k) f (by simp at hkl ⊢; omega) (by simp at hkl ⊢; omega), tmR_fuel ((c :: t).drop k).length (f + 1) f _ (Nat.le_refl _) (by simp; omega) (by simp at hkl ⊢; omega)]
/-- From a byte on. -/
def tmAt (t : List UInt8) (i : Nat) : Option (List (List UInt8 × Int)) := tmR t.length (t.drop i)
end Go.Proofs.YtndpjdmfkhjiiaaGreatDoor
