/- record: the writer's texts, times and words. -/
import Derived.Laws.OwnMore
import Derived.Test.YtnlkfehnmijimaaProg
import Derived.Test.YtnlkfehnmijimaaKit
import Derived.Test.YtnlkfehnmijimaaSpec
import Derived.Test.YtnlkfehnmijimaaReg
import Derived.Test.YtnlkfehnmijimaaReg2
import Derived.Test.YtnlkfehnmijimaaWNum
import Derived.Test.YtnlkfehnmijimaaLRow
import Derived.Test.YtnlkfehnmijimaaRcA
import Derived.Test.YtnlkfehnmijimaaRcW
import Derived.BigQuiet
set_option linter.unusedVariables false
set_option linter.unusedSimpArgs false
namespace Go.Proofs.Ytnlkfehnmijimaa.Rc
open Go.RowKit
attribute [local go_sem] bs_size bs_toList bs_append bs_get bs_extract

theorem wrote_then {B b : Nat} {l o1 o2 : List UInt8} {w w1 w2 : World} {e : Ending} (h1 : KeptX B b w w1) (h2 : wrote B b (l ++ o1) o2 w1 e w2) : wrote B b l (o1 ++ o2) w e w2 :=
  ⟨h1.trans h2.1, h2.2.1, by rw [← List.append_assoc]; exact h2.2.2⟩
/-- A text, and ahead of it how many bytes it has. -/
def textB (s : List UInt8) : List UInt8 := numB s.length ++ s

set_option maxRecDepth 20000 in
set_option maxHeartbeats 2000000 in
theorem bytes_w (w : World) (B b : Nat) (l s : List UInt8) (hh : holdsW w B b l) (hl : l.length ≤ 1900000) (hs : s.length ≤ 1000) :
    Calls Try.prog 53 #[.pointer (some ⟨b, 0, none⟩), .string (bs s)] w (wrote B b l (textB s) w) := by
  obtain ⟨i0, hi, hz0, hz1, hz2⟩ := info_parts Try.info5
  have hnl := numB_length s.length
  have HN := hide (number_w w B b s.length l hh (by omega) (by omega))
  clear hh
  go_enter Try.func53, Try.ntmps53
  go_wp2_with fail
  refine HN.out.mono ?_
  rintro e w1 ⟨hk1, rfl, hB1, v, hb, hown⟩
  obtain ⟨l1, HL1⟩ : ∃ l1, Hid (l ++ numB s.length = l1) := ⟨_, hide rfl⟩
  have hll : (l ++ numB s.length).length ≤ 1900010 := by rw [List.length_append]; omega
  rw [HL1.out] at hown hll
  have hc := cell_of_one hb
  have hf := free_of_one hb
  have hne := own_apart hown hb (by decide)
  obtain ⟨ao, cp, rfl⟩ := own_shape hown
  go_wp2_with (at_builtin; refine Lib.wpList_append_own_string _ rfl _ _ 45 9 rfl B 5 i0 Try.underlying45 Try.underlying9 hi hz0 hz1 hz2 _ l1.length (bytesV l1) rfl hown (bs s) rfl (by rw [bs_size]; unfold maxLen; omega) (by rw [bs_size]; omega) (by omega) ?_; intro v' w2 hown' hgrow _; obtain ⟨ao', cp', rfl⟩ := own_shape hown'; have hb2 := grown_block hgrow hb hne; have hc2 := cell_of_one hb2; have hf2 := free_of_one hb2; clear hc hf)
  go_end0
  have hbel : Below B w1 w2 := (Below.refl B w1).grown hgrow hB1 (fun k hk => (hown.lt k hk).1)
  rw [bs_size, strCells_bs, ← bytesV_append] at hown'
  refine wrote_then hk1 (by rw [HL1.out]; exact ⟨(keptX_app hbel hown hgrow).setCell _, rfl, by have := hbel.size; simp [World.setCell]; omega, _, one_setCell hb2, by rw [List.length_append]; exact ownsRow_setCell_other hown' (own_apart hown' hb2 (by decide)) _⟩)

/-- A time's number. -/
def timeN (n : Int) : Nat := if n < 0 then (-2 * n - 1).toNat else (2 * n).toNat
set_option maxHeartbeats 1000000 in
theorem time_w (w : World) (B b : Nat) (n : Int) (l : List UInt8) (hh : holdsW w B b l) (hl : l.length ≤ 1900000) (h0 : timeErr n = 0) :
    Calls Try.prog 54 #[.pointer (some ⟨b, 0, none⟩), .int .i64 n] w (wrote B b l (numB (timeN n)) w) := by
  have hb : -9007199254740991 ≤ n ∧ n ≤ 9007199254740991 := by
    unfold timeErr at h0
    by_cases h : -9007199254740991 ≤ n ∧ n ≤ 9007199254740991
    · exact h
    · rw [if_neg h] at h0; cases h0
  obtain ⟨hb1, hb2⟩ := hb
  unfold timeN
  by_cases hn : n < 0
  · rw [if_pos hn]
    obtain ⟨m, hm⟩ : ∃ m, (-2 * n - 1).toNat = m := ⟨_, rfl⟩
    have hmi : -2 * n - 1 = (m : Int) := by omega
    rw [hm]
    have HN := hide (number_w w B b m l hh (by omega) (by omega))
    have HMI := hide hmi
    clear hh hm hmi h0
    go_enter Try.func54, Try.ntmps54
    go_wp2_with fail
    rw [HMI.out]
    refine HN.out.mono ?_
    rintro e w1 ⟨hk1, rfl, hh1⟩
    go_wp2
    go_end0
    exact ⟨hk1, rfl, hh1⟩
  · rw [if_neg hn]
    obtain ⟨m, hm⟩ : ∃ m, (2 * n).toNat = m := ⟨_, rfl⟩
    have hmi : 2 * n = (m : Int) := by omega
    rw [hm]
    have HN := hide (number_w w B b m l hh (by omega) (by omega))
    have HMI := hide hmi
    clear hh hm hmi h0
    go_enter Try.func54, Try.ntmps54
    go_wp2_with fail
    rw [HMI.out]
    refine HN.out.mono ?_
    rintro e w1 ⟨hk1, rfl, hh1⟩
    go_wp2
    go_end0
    exact ⟨hk1, rfl, hh1⟩
end Go.Proofs.Ytnlkfehnmijimaa.Rc
