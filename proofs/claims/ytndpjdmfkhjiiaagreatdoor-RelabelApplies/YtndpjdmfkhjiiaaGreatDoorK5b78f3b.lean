/- 1 texts in one. -/
import Derived.Test.YtndpjdmfkhjiiaaGreatDoorProg
import Derived.Test.YtndpjdmfkhjiiaaGreatDoorK06d19db
import Derived.Test.YtndpjdmfkhjiiaaGreatDoorK0690efd
import Derived.Test.YtndpjdmfkhjiiaaGreatDoorK2fdbf70
import Derived.Test.YtndpjdmfkhjiiaaGreatDoorK34decd3
import Derived.BigFrame
set_option linter.unusedVariables false
set_option linter.unusedSimpArgs false
namespace Go.Proofs.YtndpjdmfkhjiiaaGreatDoor.Rl
open Go.RowKit
attribute [local go_sem] bs_size bs_toList bs_append bs_get bs_extract
structure Rul where
 kind : Int
 sources : List (List UInt8)
 between : List UInt8
 mask : List UInt8
 modulus : Int
 target : List UInt8
 repl : List UInt8
def ruleC (r : Rul) (v : Value) : List Value := [.int .i64 r.kind, v, .string (bs r.between), .string (bs r.mask), .int .i64 r.modulus, .string (bs r.target), .string (bs r.repl)]
def tmB (t : List UInt8) : Bool := (tmAt t 0).isSome
theorem tmR_is : ∀ {f : Nat} {t : List UInt8} {l : List (List UInt8 × Int)}, tmR f t = some l → l.length ≤ t.length ∧ ∀ x ∈ l, x.1.length ≤ 1 := by
 intro f
 induction f with
 | zero =>
  intro t l h
  cases t with
  | nil => cases h; exact ⟨Nat.le_refl _, fun x hx => by simp at hx⟩
  | cons c t => cases h
 | succ f ih =>
  intro t l h
  cases t with
  | nil => cases h; exact ⟨Nat.le_refl _, fun x hx => by simp at hx⟩
  | cons c t =>
   have key : ∀ (r : List UInt8) (x : List UInt8 × Int), x.1.length ≤ 1 → r.length ≤ t.length → (tmR f r).map (x :: ·) = some l → l.length ≤ (c :: t).length ∧ ∀ y ∈ l, y.1.length ≤ 1 := by
    intro r x hx hr hm
    cases hq : tmR f r with
    | none => rw [hq] at hm; cases hm
    | some l2 =>
     rw [hq] at hm
     cases hm
     obtain ⟨h1, h2⟩ := ih hq
     refine ⟨by simp; omega, fun y hy => ?_⟩
     rcases List.mem_cons.1 hy with rfl | hy
     ·
      exact hx
     ·
      exact h2 y hy
   rw [tmR] at h
   split at h
   ·
    exact key _ _ (by simp) (Nat.le_refl _) h
   ·
    split at h
    ·
     exact key _ _ (by simp) (by simp) h
    ·
     split at h
     ·
      exact key _ _ (by simp) (by simp) h
     ·
      split at h
      ·
       exact key _ _ (by simp) (by simp) h
      ·
       cases h
theorem valT_len {M : Nat} {whole : List UInt8} {gs : List (List UInt8)} {x : List UInt8 × Int} (hw : whole.length ≤ M) (hg : ∀ s ∈ gs, s.length ≤ M) (hx : x.1.length ≤ M) : (valT whole gs x).length ≤ M := by
 unfold valT
 split
 ·
  exact hw
 ·
  split
  ·
   rw [List.getD_eq_getElem?_getD]
   cases hq : gs[x.2.toNat - 1]? with
   | none => simp
   | some s => exact hg s (List.mem_of_getElem? hq)
  ·
   omega
theorem valsT_len {M : Nat} {whole : List UInt8} {gs : List (List UInt8)} : ∀ {l : List (List UInt8 × Int)}, (∀ x ∈ l, (valT whole gs x).length ≤ M) → (valsT whole gs l).length ≤ M * l.length
 | [], _ => by simp [valsT]
 | x :: l, h => by
  have h1 := h x (by simp)
  have h2 := valsT_len fun y hy => h y (List.mem_cons_of_mem _ hy)
  rw [valsT_cons, List.length_append, List.length_cons, Nat.mul_succ]
  omega
theorem exAns_is {t whole : List UInt8} {gs : List (List UInt8)} {M : Nat} (hM : 1 ≤ M) (ht : M * t.length ≤ 20000) (hw : whole.length ≤ M) (hg : ∀ s ∈ gs, s.length ≤ M) :
  exAns t whole gs = match tmAt t 0 with | none => ([], 1) | some l => (valsT whole gs l, 0) := by
 have hte : (tmAt t 0).map (valsT whole gs) = exP whole gs t.length t := tm_ex whole gs t.length t t.length (Nat.le_refl _) (Nat.le_refl _)
 unfold exAns
 rw [← hte]
 cases h : tmAt t 0 with
 | none => rfl
 | some l =>
  obtain ⟨h1, h2⟩ := tmR_is (show tmR t.length (t.drop 0) = some l from h)
  have h3 : (valsT whole gs l).length ≤ M * l.length := valsT_len fun x hx => valT_len hw hg (Nat.le_trans (h2 x hx) hM)
  have h4 : M * l.length ≤ M * t.length := Nat.mul_le_mul_left _ (by simpa using h1)
  show (if 20000 < _ then _ else _) = _
  rw [if_neg (by omega)]
set_option maxHeartbeats 1000000 in
theorem cut_any (s : List UInt8) (w : World) (hs : s.length ≤ 9223372036854775807) : Calls Tryz.prog 103 #[.string (bs s)] w fun e w' => e = .returned (.string (bs (s.take 100))) ∧ w' = w := by
 by_cases h : s.length ≤ 100
 ·
  have h1 : min (s.length : Int) 100 = s.length := by omega
  have h2 : s.take 100 = s := List.take_of_length_le h
  rw [h2]
  go_enter Tryz.func103, Tryz.ntmps103
  go_wp2
  go_ret
  refine ⟨?_, rfl⟩
  simp [h1]
 ·
  have h1 : min (s.length : Int) 100 = 100 := by omega
  go_enter Tryz.func103, Tryz.ntmps103
  go_wp2
  go_ret
  refine ⟨?_, rfl⟩
  simp [h1]
set_option maxHeartbeats 1000000 in
theorem isTemplate_any (s : List UInt8) (w : World) (hs : s.length ≤ 100) : Calls Tryz.prog 72 #[.string (bs s)] w fun e w' => e = .returned (.bool (tmB s)) ∧ Grow w w' := by
 have HE := hide fun W => expand_any s [] [] (.slice none 0 0) W (by omega) (by simp) (by simp) (fun _ h => by simp at h) ⟨none, 0, rfl, fun i h => absurd h (by simp)⟩
 have hx := exAns_is (t := s) (whole := []) (gs := []) (M := 1) (Nat.le_refl _) (by omega) (by simp) (fun _ h => by simp at h)
 rw [hx] at HE
 clear hx
 unfold tmB
 cases hN : tmAt s 0 with
 | none =>
  rw [hN] at HE
  clear hN
  go_enter Tryz.func72, Tryz.ntmps72
  go_wp2_with fail
  refine (HE.out w).mono ?_
  rintro e w' ⟨rfl, hg⟩
  go_wp2
  go_ret
  exact ⟨rfl, hg⟩
 | some l =>
  rw [hN] at HE
  clear hN
  go_enter Tryz.func72, Tryz.ntmps72
  go_wp2_with fail
  refine (HE.out w).mono ?_
  rintro e w' ⟨rfl, hg⟩
  go_wp2
  go_ret
  exact ⟨rfl, hg⟩
noncomputable def likeR (T : Tr) (t : List UInt8) : Bool := (wayOf T t).isSome
set_option maxHeartbeats 1000000 in
theorem like_any (w : World) (m t : List UInt8) {T : Tr} {g : Nat} (h : maskIs m = .ok (T, g)) (ht : t.length ≤ 2000) :
  Calls Tryz.prog 62 #[.string (bs m), .string (bs t)] w fun e w' => e = .returned (.bool (likeR T t)) ∧ Grow w w' := by
 have hm := (maskIs_ok h).2.2.2.2.2
 have HM : Hid (∀ W, Calls Tryz.prog 27 #[.string (bs m), .string (bs t)] W fun e w' => Grow W w' ∧ ∃ ao k cp, e = .returned (.tuple #[.bool (likeR T t), .slice ao k cp, .int .i64 0])) := by
  intro W
  refine (match_any W m t (by omega) (by omega)).mono ?_
  rintro e w' ⟨hg, ha⟩
  refine ⟨hg, ?_⟩
  unfold matchAns at ha
  rw [h] at ha
  simp only at ha
  unfold matchOk at ha
  rw [if_neg (by omega)] at ha
  unfold likeR
  cases hw : wayOf T t with
  | none => rw [hw] at ha; exact ⟨_, _, _, ha⟩
  | some l =>
   rw [hw] at ha
   obtain ⟨v, h1, h2⟩ := ha
   obtain ⟨ao, cp, rfl⟩ := own_shape h2
   exact ⟨ao, _, cp, h1⟩
 generalize likeR T t = b at HM ⊢
 clear h hm
 go_enter Tryz.func62, Tryz.ntmps62
 go_wp2_with fail
 refine (HM.out w).mono ?_
 rintro e w' ⟨hg, ao, k, cp, rfl⟩
 go_wp2
 go_ret
 exact ⟨rfl, hg⟩
end Go.Proofs.YtndpjdmfkhjiiaaGreatDoor.Rl
