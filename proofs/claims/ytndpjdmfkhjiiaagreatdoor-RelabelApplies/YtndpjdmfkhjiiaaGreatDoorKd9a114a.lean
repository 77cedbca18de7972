/- 1 texts in one. -/
import Derived.Test.YtndpjdmfkhjiiaaGreatDoorProg
import Derived.Test.YtndpjdmfkhjiiaaGreatDoorK06d19db
import Derived.Test.YtndpjdmfkhjiiaaGreatDoorKf4a3d8c
import Derived.Test.YtndpjdmfkhjiiaaGreatDoorK00c22be
import Derived.BigQuiet
set_option linter.unusedVariables false
set_option linter.unusedSimpArgs false
namespace Go.Proofs.YtndpjdmfkhjiiaaGreatDoor
open Go.RowKit
attribute [local go_sem] bs_size bs_toList bs_append bs_get bs_extract
theorem isNu_true {c : UInt8} : isNu c = true ↔ (48 ≤ (c.toNat : Int) ∧ (c.toNat : Int) ≤ 57) := by
 simp only [isNu, Bool.and_eq_true, decide_eq_true_eq]; omega
theorem isAl_true {c : UInt8} : isAl c = true ↔ ((97 ≤ (c.toNat : Int) ∧ (c.toNat : Int) ≤ 122) ∨ (65 ≤ (c.toNat : Int) ∧ (c.toNat : Int) ≤ 90)) := by
 simp only [isAl, Bool.or_eq_true, Bool.and_eq_true, decide_eq_true_eq]; omega
theorem isNu_eq {c : UInt8} {b : Bool} (h : b = true ↔ (48 ≤ (c.toNat : Int) ∧ (c.toNat : Int) ≤ 57)) : isNu c = b := Bool.eq_iff_iff.2 (isNu_true.trans h.symm)
theorem isAl_eq {c : UInt8} {b : Bool} (h : b = true ↔ ((97 ≤ (c.toNat : Int) ∧ (c.toNat : Int) ≤ 122) ∨ (65 ≤ (c.toNat : Int) ∧ (c.toNat : Int) ≤ 90))) : isAl c = b := Bool.eq_iff_iff.2 (isAl_true.trans h.symm)
/-- A letter, or `_`. -/
def isAlU (c : UInt8) : Bool := isAl c || decide (c.toNat = 95)
theorem isAlU_eq {c : UInt8} {b : Bool} (h : b = true ↔ ((97 ≤ (c.toNat : Int) ∧ (c.toNat : Int) ≤ 122) ∨ (65 ≤ (c.toNat : Int) ∧ (c.toNat : Int) ≤ 90) ∨ (c.toNat : Int) = 95)) : isAlU c = b := by
 apply Bool.eq_iff_iff.2
 rw [h]
 simp only [isAlU, Bool.or_eq_true, isAl_true, decide_eq_true_eq]
 omega
set_option maxHeartbeats 400000 in
theorem isDigit_any (c : UInt8) (w : World) : Calls Tryz.prog 115 #[.int .u8 (c.toNat : Int)] w fun e w' => e = .returned (.bool (isNu c)) ∧ w' = w := by
 have hc := c.toNat_lt
 by_cases h1 : 48 ≤ (c.toNat : Int)
 all_goals
  go_enter Tryz.func115, Tryz.ntmps115
  go_wp2
  go_ret
  exact ⟨ret_bool (Eq.symm (isNu_eq (by simp; omega))), rfl⟩
set_option maxHeartbeats 400000 in
theorem isLetter_any (c : UInt8) (w : World) : Calls Tryz.prog 172 #[.int .u8 (c.toNat : Int)] w fun e w' => e = .returned (.bool (isAl c)) ∧ w' = w := by
 have hc := c.toNat_lt
 go_enter Tryz.func172, Tryz.ntmps172
 go_wp2
 all_goals
  go_ret
  exact ⟨ret_bool (Eq.symm (isAl_eq (by simp; omega))), rfl⟩
set_option maxHeartbeats 400000 in
theorem rIsNumeral_any (c : UInt8) (w : World) : Calls Tryz.prog 20 #[.int .u8 (c.toNat : Int)] w fun e w' => e = .returned (.bool (isNu c)) ∧ w' = w := by
 have hc := c.toNat_lt
 by_cases h1 : 48 ≤ (c.toNat : Int)
 all_goals
  go_enter Tryz.func20, Tryz.ntmps20
  go_wp2
  go_ret
  exact ⟨ret_bool (Eq.symm (isNu_eq (by simp; omega))), rfl⟩
set_option maxHeartbeats 400000 in
theorem rIsLetter_any (c : UInt8) (w : World) : Calls Tryz.prog 73 #[.int .u8 (c.toNat : Int)] w fun e w' => e = .returned (.bool (isAlU c)) ∧ w' = w := by
 have hc := c.toNat_lt
 go_enter Tryz.func73, Tryz.ntmps73
 go_wp2
 all_goals
  go_ret
  exact ⟨ret_bool (Eq.symm (isAlU_eq (by simp; omega))), rfl⟩
/-- How many bytes the first piece of a template has: up to the next `$`, or what a `$` begins; 0: it is none. -/
def sizeT (l : List UInt8) : Nat :=
 if (l.getD 0 0).toNat ≠ 36 then (if 0 ≤ Lib.indexByte l 36 then (Lib.indexByte l 36).toNat else l.length)
 else if 2 ≤ l.length ∧ ((l.getD 1 0).toNat = 36 ∨ isNu (l.getD 1 0) = true) then 2
 else if 4 ≤ l.length ∧ (l.getD 1 0).toNat = 123 ∧ isNu (l.getD 2 0) = true ∧ (l.getD 3 0).toNat = 125 then 4
 else 0
set_option maxRecDepth 20000 in
set_option maxHeartbeats 8000000 in
theorem pieceSize_any (l : List UInt8) (w : World) (h0 : 0 < l.length) (hl : l.length ≤ maxLen) : Calls Tryz.prog 93 #[.string (bs l)] w fun e w' => e = .returned (.int .i64 (sizeT l)) ∧ w' = w := by
 unfold maxLen at hl
 obtain ⟨c0, hc0⟩ : ∃ c, l[0] = c := ⟨_, rfl⟩
 have g0 : l.getD 0 0 = c0 := by simp [List.getD, h0, hc0]
 by_cases hd : (c0.toNat : Int) = 36
 ·
  have hd' : ((c0.toNat : Int) != 36) = false := by simp [hd]
  by_cases h2 : 2 ≤ l.length
  ·
   obtain ⟨c1, hc1⟩ : ∃ c, l[1] = c := ⟨_, rfl⟩
   have g1 : l.getD 1 0 = c1 := by simp [List.getD, show 1 < l.length from h2, hc1]
   have hb1 := c1.toNat_lt
   by_cases hd1 : (c1.toNat : Int) = 36
   ·
    have HZ : Hid (sizeT l = 2) := by
     show _ = _
     unfold sizeT
     rw [g0, g1, if_neg (by omega), if_pos ⟨h2, .inl (by omega)⟩]
    go_enter Tryz.func93, Tryz.ntmps93
    go_wp2
    go_ret
    exact ⟨ret_int (by rw [HZ.out]; rfl), rfl⟩
   ·
    cases hn1 : isNu c1 with
    | true =>
     have HZ : Hid (sizeT l = 2) := by
      show _ = _
      unfold sizeT
      rw [g0, g1, if_neg (by omega), if_pos ⟨h2, .inr hn1⟩]
     have HN1 := hide hn1
     clear hn1
     go_enter Tryz.func93, Tryz.ntmps93
     go_wp2_with (go_at_call 115; refine (isDigit_any _ _).mono ?_; rintro e w' ⟨rfl, rfl⟩; rw [HN1.out])
     go_ret
     exact ⟨ret_int (by rw [HZ.out]; rfl), rfl⟩
    | false =>
     have HN1 := hide hn1
     have hfst : ¬ (2 ≤ l.length ∧ (c1.toNat = 36 ∨ isNu c1 = true)) := by
      rintro ⟨_, h | h⟩
      ·
       omega
      ·
       rw [hn1] at h; cases h
     clear hn1
     by_cases h4 : 4 ≤ l.length
     ·
      obtain ⟨c2, hc2⟩ : ∃ c, l[2] = c := ⟨_, rfl⟩
      obtain ⟨c3, hc3⟩ : ∃ c, l[3] = c := ⟨_, rfl⟩
      have g2 : l.getD 2 0 = c2 := by simp [List.getD, show 2 < l.length from by omega, hc2]
      have g3 : l.getD 3 0 = c3 := by simp [List.getD, show 3 < l.length from by omega, hc3]
      have hb2 := c2.toNat_lt
      have hb3 := c3.toNat_lt
      by_cases h123 : (c1.toNat : Int) = 123
      ·
       have q123 : ((c1.toNat : Int) == 123) = true := by simp [h123]
       have H123 := hide h123
       have t123 : c1.toNat = 123 := by omega
       have T123 := hide t123
       clear h123 t123
       cases hn2 : isNu c2 with
       | true =>
        have HN2 := hide hn2
        by_cases h125 : (c3.toNat : Int) = 125
        ·
         have HZ : Hid (sizeT l = 4) := by
          show _ = _
          unfold sizeT
          rw [g0, g1, g2, g3, if_neg (by omega), if_neg hfst, if_pos ⟨h4, T123.out, hn2, by omega⟩]
         clear hn2 hfst
         go_enter Tryz.func93, Tryz.ntmps93
         go_wp2_with (go_at_call 115; refine (isDigit_any _ _).mono ?_; rintro e w' ⟨rfl, rfl⟩; first | rw [HN1.out] | rw [HN2.out])
         go_ret
         exact ⟨ret_int (by rw [HZ.out]; rfl), rfl⟩
        ·
         have HZ : Hid (sizeT l = 0) := by
          show _ = _
          unfold sizeT
          rw [g0, g1, g2, g3, if_neg (by omega), if_neg hfst, if_neg (fun h => by omega)]
         clear hn2 hfst
         go_enter Tryz.func93, Tryz.ntmps93
         go_wp2_with (go_at_call 115; refine (isDigit_any _ _).mono ?_; rintro e w' ⟨rfl, rfl⟩; first | rw [HN1.out] | rw [HN2.out])
         go_ret
         exact ⟨ret_int (by rw [HZ.out]; rfl), rfl⟩
       | false =>
        have HN2 := hide hn2
        have HZ : Hid (sizeT l = 0) := by
         show _ = _
         unfold sizeT
         rw [g0, g1, g2, g3, if_neg (by omega), if_neg hfst, if_neg (fun h => by have := h.2.2.1; rw [hn2] at this; cases this)]
        clear hn2 hfst
        go_enter Tryz.func93, Tryz.ntmps93
        go_wp2_with (go_at_call 115; refine (isDigit_any _ _).mono ?_; rintro e w' ⟨rfl, rfl⟩; first | rw [HN1.out] | rw [HN2.out])
        go_ret
        exact ⟨ret_int (by rw [HZ.out]; rfl), rfl⟩
      ·
       have HZ : Hid (sizeT l = 0) := by
        show _ = _
        unfold sizeT
        rw [g0, g1, if_neg (by omega), if_neg hfst, if_neg (fun h => by omega)]
       clear hfst
       go_enter Tryz.func93, Tryz.ntmps93
       go_wp2_with (go_at_call 115; refine (isDigit_any _ _).mono ?_; rintro e w' ⟨rfl, rfl⟩; rw [HN1.out])
       go_ret
       exact ⟨ret_int (by rw [HZ.out]; rfl), rfl⟩
     ·
      have HZ : Hid (sizeT l = 0) := by
       show _ = _
       unfold sizeT
       rw [g0, g1, if_neg (by omega), if_neg hfst, if_neg (fun h => h4 h.1)]
      clear hfst
      go_enter Tryz.func93, Tryz.ntmps93
      go_wp2_with (go_at_call 115; refine (isDigit_any _ _).mono ?_; rintro e w' ⟨rfl, rfl⟩; rw [HN1.out])
      go_ret
      exact ⟨ret_int (by rw [HZ.out]; rfl), rfl⟩
  ·
   have HZ : Hid (sizeT l = 0) := by
    show _ = _
    unfold sizeT
    rw [g0, if_neg (by omega), if_neg (fun h => h2 h.1), if_neg (fun h => by omega)]
   go_enter Tryz.func93, Tryz.ntmps93
   go_wp2
   go_ret
   exact ⟨ret_int (by rw [HZ.out]; rfl), rfl⟩
 ·
  have hd' : ((c0.toNat : Int) != 36) = true := by simp [hd]
  have HS := hide (Tryz.strings_IndexByte (bs l) 36 w)
  by_cases hi : 0 ≤ Lib.indexByte l 36
  ·
   have HZ : Hid (sizeT l = (Lib.indexByte l 36).toNat) := by
    show _ = _
    unfold sizeT
    rw [g0, if_pos (by omega), if_pos hi]
   obtain ⟨X, hX⟩ : ∃ X, Lib.indexByte l 36 = X := ⟨_, rfl⟩
   have hX' : Lib.indexByte (bs l).data.toList (Int.toNat 36).toUInt8 = X := by rw [bs_data]; exact hX
   rw [hX'] at HS
   rw [hX] at hi HZ
   clear hX hX'
   go_enter Tryz.func93, Tryz.ntmps93
   go_wp2_with (go_at_call 114; refine HS.out.mono ?_; rintro e w' ⟨rfl, rfl⟩)
   go_ret
   exact ⟨ret_int (by rw [HZ.out]; omega), rfl⟩
  ·
   have HZ : Hid (sizeT l = l.length) := by
    show _ = _
    unfold sizeT
    rw [g0, if_pos (by omega), if_neg hi]
   obtain ⟨X, hX⟩ : ∃ X, Lib.indexByte l 36 = X := ⟨_, rfl⟩
   have hX' : Lib.indexByte (bs l).data.toList (Int.toNat 36).toUInt8 = X := by rw [bs_data]; exact hX
   rw [hX'] at HS
   rw [hX] at hi
   clear hX hX'
   go_enter Tryz.func93, Tryz.ntmps93
   go_wp2_with (go_at_call 114; refine HS.out.mono ?_; rintro e w' ⟨rfl, rfl⟩)
   go_ret
   exact ⟨ret_int (by rw [HZ.out]), rfl⟩
end Go.Proofs.YtndpjdmfkhjiiaaGreatDoor
