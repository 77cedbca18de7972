/- 1 texts in one. -/
import Derived.Test.YtndpjdmfkhjiiaaGreatDoorProg
import Derived.Test.YtndpjdmfkhjiiaaGreatDoorK06d19db
import Derived.Test.YtndpjdmfkhjiiaaGreatDoorK5b78f3b
import Derived.Test.YtndpjdmfkhjiiaaGreatDoorKe104cae
import Derived.Test.YtndpjdmfkhjiiaaGreatDoorKd930502
import Derived.Test.YtndpjdmfkhjiiaaGreatDoorK5464446
set_option linter.unusedVariables false
set_option linter.unusedSimpArgs false
namespace Go.Proofs.YtndpjdmfkhjiiaaGreatDoor.Rl
open Go.RowKit
def FitPost (w : World) (T : Tr) (g : Nat) (t : List UInt8) (e : Ending) (w' : World) : Prop :=
 Grow w w' ∧ ∃ go gn gc, e = .returned (.tuple #[.bool (likeR T t), .slice go gn gc]) ∧ ∀ l, wayOf T t = some l → readsStrs w' w'.heap.size (.slice go gn gc) (tookL t l g)
theorem fit_any {m : List UInt8} {T : Tr} {g : Nat} (hm : maskIs m = .ok (T, g)) (w : World) (v : Value) (k : Nat) (ys : List Value) (t : List UInt8) (ht : t.length ≤ 2000) (hv : w.ownsRow 0 153 1 v k ys) (hc : cellsAt w (fun _ => True) T ys) :
  Calls Tryz.prog 39 #[v, .int .i64 g, .string (bs t)] w (FitPost w T g t) := by
 obtain ⟨hwf, hgd, hg9, hwi, hsz, hm60⟩ := maskIs_ok hm
 refine (fitOf_any w T v k ys g t hv hc hwf hgd hwi hsz hg9 ht).mono ?_
 rintro e w' ⟨hg, h⟩
 refine ⟨hg, ?_⟩
 unfold likeR
 cases hw : wayOf T t with
 | none =>
  rw [hw] at h
  exact ⟨none, 0, 0, h, fun l hl => by cases hl⟩
 | some l =>
  rw [hw] at h
  obtain ⟨v', rfl, ho⟩ := h
  obtain ⟨ao, cp, rfl⟩ := own_shape ho
  exact ⟨ao, _, cp, rfl, fun l' hl => by cases hl; exact readsStrs_own ho⟩
theorem expandR_any (w : World) (rp src : List UInt8) (gs : List (List UInt8)) (v : Value) (tm : List (List UInt8 × Int)) (h : tmAt rp 0 = some tm) (hrp : rp.length ≤ 100) (hsrc : src.length ≤ 2000) (hgl : gs.length ≤ 9) (hgs : ∀ s ∈ gs, s.length ≤ 2000) (hv : readsStrs w w.heap.size v gs) :
  Calls Tryz.prog 40 #[.string (bs rp), .string (bs src), v, .int .i64 100] w fun e w' => Grow w w' ∧ ∃ n : Int, e = .returned (.tuple #[.string (bs ((valsT src gs tm).take 100)), .int .i64 n]) := by
 obtain ⟨h1, h2⟩ := tmR_is (show tmR rp.length (rp.drop 0) = some tm from h)
 have hx : ∀ x ∈ tm, (valT src gs x).length ≤ 2000 := fun x hx => valT_len hsrc hgs (Nat.le_trans (h2 x hx) (by decide))
 simp only [List.drop_zero] at h1
 refine (expandOf_any rp src gs v w 100 tm (by omega) h (by omega) (by omega) (fun s hs => by have := hgs s hs; omega) (by omega) hv (by omega) (fun x hm => by have := hx x hm; omega) (fun k => ?_)).mono ?_
 ·
  have h3 := valsT_len (M := 2000) (whole := src) (gs := gs) (l := tm.take k) fun x hm => hx x (List.mem_of_mem_take hm)
  have h4 : (tm.take k).length ≤ k := by rw [List.length_take]; omega
  have h5 : 2000 * (tm.take k).length ≤ 2000000 * k := Nat.mul_le_mul (by decide) h4
  omega
 ·
  rintro e w' ⟨rfl, hg⟩
  exact ⟨hg, _, rfl⟩
end Go.Proofs.YtndpjdmfkhjiiaaGreatDoor.Rl
