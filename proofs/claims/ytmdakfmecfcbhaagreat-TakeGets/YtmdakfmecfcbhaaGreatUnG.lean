/- Unpack. -/
import Derived.Test.YtmdakfmecfcbhaaGreatProg
import Derived.Test.YtmdakfmecfcbhaaGreatKit
import Derived.Test.YtmdakfmecfcbhaaGreatSpec
import Derived.Test.YtmdakfmecfcbhaaGreatSpec2
import Derived.Test.YtmdakfmecfcbhaaGreatReg
import Derived.Test.YtmdakfmecfcbhaaGreatWNum
import Derived.Test.YtmdakfmecfcbhaaGreatWWri
import Derived.Test.YtmdakfmecfcbhaaGreatRowK
import Derived.Test.YtmdakfmecfcbhaaGreatUnA
import Derived.Test.YtmdakfmecfcbhaaGreatUnF
set_option linter.unusedVariables false
set_option linter.unusedSimpArgs false
namespace Go.Proofs.YtmdakfmecfcbhaaGreat
open Go.RowKit
attribute [local go_sem] bs_size bs_toList bs_append bs_get bs_extract

/-- What Unpack answers: an error (0 is none) and a text. -/
def unpackB (s : List UInt8) (most : Int) : Int × List UInt8 :=
  if most < 0 ∨ 20000 < most then (3, [])
  else
    match cutNum s with
    | none => (1, [])
    | some (n, r) =>
      if most < n then (2, [])
      else
        match unpB n r [] with
        | none => (1, [])
        | some m => (0, m)

set_option maxRecDepth 20000 in
set_option maxHeartbeats 2000000 in
theorem unpack_any (w : World) (s : List UInt8) (most : Int) (hs : s.length ≤ 140737488355328) (h0 : -9223372036854775808 ≤ most) (h1 : most ≤ 9223372036854775807) :
    Calls Tryz.prog 36 #[.string (bs s), .int .i64 most] w fun e w' => e = .returned (.tuple #[.string (bs (unpackB s most).2), .int .i64 (unpackB s most).1]) ∧ Below w.heap.size w w' := by
  go_enter Tryz.func36, Tryz.ntmps36
  by_cases c1 : most < 0
  · have HE : Hid (unpackB s most = (3, [])) := by show _ = _; unfold unpackB; rw [if_pos (.inl c1)]
    go_wp2
    go_ret2
    exact ⟨by rw [HE.out]; rfl, Below.refl _ _⟩
  · by_cases c2 : 20000 < most
    · have HE : Hid (unpackB s most = (3, [])) := by show _ = _; unfold unpackB; rw [if_pos (.inr c2)]
      go_wp2
      go_ret2
      exact ⟨by rw [HE.out]; rfl, Below.refl _ _⟩
    · have HU : Hid (unpackB s most = match cutNum s with | none => (1, []) | some (n, r) => if most < n then (2, []) else match unpB n r [] with | none => (1, []) | some m => (0, m)) := by
        show _ = _; unfold unpackB; rw [if_neg (by omega)]
      go_wp2_with fail
      refine (readNumber_any s w (by unfold maxLen; omega)).mono ?_
      rintro e w1 ⟨rfl, rfl⟩
      rename World => w
      by_cases hc : (readNum s).2.2 = 0
      · have hcut : cutNum s = some ((readNum s).1, s.drop (readNum s).2.1) := by unfold cutNum; rw [if_pos hc]
        have hle := readNum_le s
        obtain ⟨n, size, e, hrd⟩ : ∃ n size e, readNum s = (n, size, e) := ⟨_, _, _, rfl⟩
        rw [hrd] at hc hcut hle ⊢
        simp only at hc hcut hle
        subst hc
        have h64 := hle.2.2
        have hsz := hle.1
        have HC := hide hcut
        clear hcut hle hrd
        have hwm : IntKind.u64.wrap most = most := wrap_u64_small _ (by omega) (by omega)
        by_cases c3 : most < n
        · have HE : Hid (unpackB s most = (2, [])) := by show _ = _; rw [HU.out, HC.out]; simp only; rw [if_pos c3]
          go_wp2
          go_ret2
          exact ⟨by rw [HE.out]; rfl, Below.refl _ _⟩
        · have hwn : IntKind.i64.wrap (n : Int) = n := wrap_i64_small _ (by omega) (by omega)
          have hq : (s.drop size).take (s.length - size) = s.drop size := List.take_of_length_le (by rw [List.length_drop]; exact Nat.le_refl _)
          have hdl : (s.drop size).length ≤ 140737488355328 := by rw [List.length_drop]; omega
          have hE : Hid (unpackB s most = match unpB n (s.drop size) [] with | none => (1, []) | some m => (0, m)) := by show _ = _; rw [HU.out, HC.out]; simp only; rw [if_neg c3]
          have hub := heap_alloc_new w (.cells #[.string (bs (s.drop size)), .int .i64 n, .slice none 0 0] 92)
          have hbW : Below w.heap.size w (w.alloc (.cells #[.string (bs (s.drop size)), .int .i64 n, .slice none 0 0] 92)) := (Below.refl _ _).alloc (Nat.le_refl _) _
          have hsW : (w.alloc (.cells #[.string (bs (s.drop size)), .int .i64 n, .slice none 0 0] 92)).heap.size = w.heap.size + 1 := by simp
          go_wp2_with fail
          refine (unpAll_any _ w.heap.size n (s.drop size) hub hdl (by omega)).mono ?_
          rintro e w2 ⟨hk, (⟨m, v, hm, rfl, ⟨st, hblk⟩, ho⟩ | ⟨hm, rfl⟩)⟩
          · have hb2 : Below w.heap.size w w2 := hbW.trans (hk.below (by omega) (Nat.le_refl _))
            have HM : Hid (unpackB s most = (0, m)) := by show _ = _; rw [hE.out, hm]
            obtain ⟨ao, cp, rfl⟩ := own_shape ho
            obtain ⟨c0, c1, c2, _⟩ := three_cells hblk
            have hcv := run_bytesStr (P := Tryz.prog) Tryz.underlying63 Tryz.underlying5 Tryz.underlying9 ho
            clear hub hbW hsW hm
            go_wp2
            go_ret2
            exact ⟨by rw [HM.out]; rfl, hb2⟩
          · have hb2 : Below w.heap.size w w2 := hbW.trans (hk.below (by omega) (Nat.le_refl _))
            have HM : Hid (unpackB s most = (1, [])) := by show _ = _; rw [hE.out, hm]
            clear hub hbW hsW hm
            go_wp2
            go_ret2
            exact ⟨by rw [HM.out]; rfl, hb2⟩
      · have hcut : cutNum s = none := by unfold cutNum; rw [if_neg hc]
        have HE : Hid (unpackB s most = (1, [])) := by show _ = _; rw [HU.out, hcut]
        obtain ⟨n, size, e, hrd⟩ : ∃ n size e, readNum s = (n, size, e) := ⟨_, _, _, rfl⟩
        rw [hrd] at hc ⊢
        simp only at hc
        have hne : ((e : Int) != 0) = true := by simp; omega
        clear hcut hrd hc
        go_wp2
        go_ret2
        exact ⟨by rw [HE.out]; rfl, Below.refl _ _⟩

end Go.Proofs.YtmdakfmecfcbhaaGreat
