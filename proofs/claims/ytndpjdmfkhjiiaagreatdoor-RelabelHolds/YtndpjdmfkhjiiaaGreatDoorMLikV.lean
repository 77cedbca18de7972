/- What Match answers, by what masks take; some masks that the statements build. -/
import Derived.Test.YtndpjdmfkhjiiaaGreatDoorProg
import Derived.Test.YtndpjdmfkhjiiaaGreatDoorQ74d152
import Derived.Test.YtndpjdmfkhjiiaaGreatDoorQ3d7cfc
import Derived.Test.YtndpjdmfkhjiiaaGreatDoorMLngV
import Derived.Test.YtndpjdmfkhjiiaaGreatDoorMMatV
set_option linter.unusedVariables false
set_option linter.unusedSimpArgs false
namespace Go.Proofs.YtndpjdmfkhjiiaaGreatDoor
open Go.RowKit

/-- Is a text like a mask that is right? -/
noncomputable def likeB (T : Tr) (t : List UInt8) : Bool := (wayOf T t).isSome
theorem likeB_iff {T : Tr} {t : List UInt8} (g : good (re T)) : likeB T t = true ↔ Mt t (re T) 0 t.length := by
  obtain ⟨f, h⟩ := wayOf_is (t := t) g
  rw [likeB, run_iff h]
  exact ⟨fun ⟨q, h1, h2⟩ => h2 ▸ h1, fun h => ⟨_, h, rfl⟩⟩

theorem match_short (w : World) (m t : List UInt8) {T : Tr} {g : Nat} (h : maskIs m = .ok (T, g)) (ht : t.length ≤ 2000) :
    Calls Tryz.prog 27 #[.string (bs m), .string (bs t)] w fun e w' => Grow w w' ∧ ∃ v, e = .returned (.tuple #[.bool (likeB T t), v, .int .i64 0]) := by
  have hm := (maskIs_ok h).2.2.2.2.2
  refine (match_any w m t (by omega) (by omega)).mono ?_
  rintro e w' ⟨hg, ha⟩
  refine ⟨hg, ?_⟩
  unfold matchAns at ha
  rw [h] at ha
  simp only at ha
  unfold matchOk at ha
  rw [if_neg (by omega)] at ha
  unfold likeB
  cases hw : wayOf T t with
  | none => rw [hw] at ha; exact ⟨_, ha⟩
  | some l => rw [hw] at ha; obtain ⟨v, h1, _⟩ := ha; exact ⟨v, h1⟩
theorem match_long (w : World) (m t : List UInt8) {T : Tr} {g : Nat} (h : maskIs m = .ok (T, g)) (ht : 2000 < t.length) (htl : t.length ≤ 9223372036854775807) :
    Calls Tryz.prog 27 #[.string (bs m), .string (bs t)] w fun e w' => Grow w w' ∧ e = .returned (.tuple #[.bool false, .slice none 0 0, .int .i64 2]) := by
  have hm := (maskIs_ok h).2.2.2.2.2
  refine (match_any w m t (by omega) htl).mono ?_
  rintro e w' ⟨hg, ha⟩
  refine ⟨hg, ?_⟩
  unfold matchAns at ha
  rw [h] at ha
  simp only at ha
  unfold matchOk at ha
  rw [if_pos ht] at ha
  exact ha
theorem match_wrong (w : World) (m t : List UInt8) {x : Nat × Nat} (h : maskIs m = .error x) (hml : m.length ≤ 9223372036854775807) (htl : t.length ≤ 9223372036854775807) :
    Calls Tryz.prog 27 #[.string (bs m), .string (bs t)] w fun e w' => Grow w w' ∧ e = .returned (.tuple #[.bool false, .slice none 0 0, .int .i64 x.1]) := by
  refine (match_any w m t hml htl).mono ?_
  rintro e w' ⟨hg, ha⟩
  refine ⟨hg, ?_⟩
  unfold matchAns at ha
  rw [h] at ha
  exact ha

def letter (k : Nat) : UInt8 := UInt8.ofNat (97 + k)
def starT (s : UInt8 → Bool) (sg : Nat) : Tr := .row (.set s sg .nil) .nil
theorem star_is (k : Nat) (h : k < 26) : maskIs [letter k, 42] = .ok (starT (between (letter k) (letter k)) 42, 0) := by
  match k, h with
  | 0, _ => rfl
  | 1, _ => rfl
  | 2, _ => rfl
  | 3, _ => rfl
  | 4, _ => rfl
  | 5, _ => rfl
  | 6, _ => rfl
  | 7, _ => rfl
  | 8, _ => rfl
  | 9, _ => rfl
  | 10, _ => rfl
  | 11, _ => rfl
  | 12, _ => rfl
  | 13, _ => rfl
  | 14, _ => rfl
  | 15, _ => rfl
  | 16, _ => rfl
  | 17, _ => rfl
  | 18, _ => rfl
  | 19, _ => rfl
  | 20, _ => rfl
  | 21, _ => rfl
  | 22, _ => rfl
  | 23, _ => rfl
  | 24, _ => rfl
  | 25, _ => rfl
  | k + 26, h => exact absurd h (by omega)
theorem plus_is (k : Nat) (h : k < 26) : maskIs [letter k, 43] = .ok (starT (between (letter k) (letter k)) 43, 0) := by
  match k, h with
  | 0, _ => rfl
  | 1, _ => rfl
  | 2, _ => rfl
  | 3, _ => rfl
  | 4, _ => rfl
  | 5, _ => rfl
  | 6, _ => rfl
  | 7, _ => rfl
  | 8, _ => rfl
  | 9, _ => rfl
  | 10, _ => rfl
  | 11, _ => rfl
  | 12, _ => rfl
  | 13, _ => rfl
  | 14, _ => rfl
  | 15, _ => rfl
  | 16, _ => rfl
  | 17, _ => rfl
  | 18, _ => rfl
  | 19, _ => rfl
  | 20, _ => rfl
  | 21, _ => rfl
  | 22, _ => rfl
  | 23, _ => rfl
  | 24, _ => rfl
  | 25, _ => rfl
  | k + 26, h => exact absurd h (by omega)
theorem any_is : maskIs [46, 42] = .ok (starT (fun _ => true) 42, 0) := rfl

theorem good_star (s : UInt8 → Bool) : good (re (starT s 42)) := ⟨⟨trivial, rfl⟩, trivial⟩
theorem good_plus (s : UInt8 → Bool) : good (re (starT s 43)) := ⟨⟨trivial, rfl⟩, trivial⟩
theorem star_takes {t : List UInt8} {s : UInt8 → Bool} : ∀ d p, p + d = t.length → (∀ i, p ≤ i → i < t.length → hits t s i = true) → Mt t (.star (.set s)) p t.length := by
  intro d
  induction d with
  | zero => intro p h _; obtain rfl : p = t.length := by omega
            exact .star0
  | succ d ih =>
    intro p h hall
    exact .star1 (.set (hall p (Nat.le_refl _) (by omega))) (ih (p + 1) (by omega) fun i h1 h2 => hall i (by omega) h2)
theorem star_like {t : List UInt8} {s : UInt8 → Bool} (h : ∀ i, i < t.length → hits t s i = true) : likeB (starT s 42) t = true := by
  rw [likeB_iff (good_star s)]
  exact .seq (star_takes t.length 0 (by omega) fun i _ h2 => h i h2) .eps
theorem plus_like {t : List UInt8} {s : UInt8 → Bool} (h : ∀ i, i < t.length → hits t s i = true) : likeB (starT s 43) t = !decide (t = []) := by
  cases t with
  | nil =>
    have : ¬ likeB (starT s 43) [] = true := by
      rw [likeB_iff (good_plus s)]
      intro h
      cases h with
      | seq h1 h2 =>
        cases h1 with
        | plus h1 h3 =>
          cases h1 with
          | set e => simp [hits] at e
    simpa using this
  | cons c t =>
    have : likeB (starT s 43) (c :: t) = true := by
      rw [likeB_iff (good_plus s)]
      exact .seq (.plus (.set (h 0 (by simp))) (star_takes t.length 1 (by simp; omega) fun i _ h2 => h i h2)) .eps
    rw [this]
    rfl
theorem hits_replicate {c : UInt8} {n i : Nat} (h : i < (List.replicate n c).length) : hits (List.replicate n c) (between c c) i = true := by
  rw [hits_get h]
  simp [between]
theorem hits_true {t : List UInt8} {i : Nat} (h : i < t.length) : hits t (fun _ => true) i = true := by rw [hits_get h]

end Go.Proofs.YtndpjdmfkhjiiaaGreatDoor
