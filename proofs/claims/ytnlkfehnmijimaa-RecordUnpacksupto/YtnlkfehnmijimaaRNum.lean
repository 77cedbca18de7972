/- The reference's NumberAt. -/
import Derived.Test.YtnlkfehnmijimaaProg
import Derived.Test.YtnlkfehnmijimaaKit
import Derived.Test.YtnlkfehnmijimaaSpec
import Derived.Test.YtnlkfehnmijimaaWNum
set_option linter.unusedVariables false
set_option linter.unusedSimpArgs false
namespace Go.Proofs.Ytnlkfehnmijimaa
open Go.RowKit
attribute [local go_sem] bs_size bs_toList bs_append bs_get bs_extract

theorem takeWhile_len (p : UInt8 → Bool) : ∀ (l : List UInt8) (k : Nat), k ≤ l.length → (∀ j (h : j < l.length), j < k → p l[j] = true) → (k = l.length ∨ ∃ h : k < l.length, p l[k] = false) → (l.takeWhile p).length = k
  | [], k, hk, _, _ => by simp at hk; simp [hk]
  | c :: l, 0, hk, ha, hs => by
    rcases hs with hs | ⟨h, hs⟩
    · simp at hs
    · simp at hs
      simp [List.takeWhile_cons, hs]
  | c :: l, k + 1, hk, ha, hs => by
    have h0 := ha 0 (by simp) (by omega)
    simp at h0
    have ih := takeWhile_len p l k (by simpa using hk) (fun j h hj => by have := ha (j + 1) (by simp; omega) (by omega); simpa using this) (by
      rcases hs with hs | ⟨h, hs⟩
      · exact .inl (by simpa using hs)
      · exact .inr ⟨by simpa using h, by simpa using hs⟩)
    simp [List.takeWhile_cons, h0, ih]
theorem numMany_eq (l : List UInt8) (k : Nat) (hk : k ≤ l.length) (h9 : k ≤ 9) (ha : ∀ j (h : j < l.length), j < k → 128 ≤ l[j].toNat) (hs : k = l.length ∨ k = 9 ∨ ∃ h : k < l.length, l[k].toNat < 128) : numMany l = k := by
  unfold numMany
  refine takeWhile_len _ _ k (by simp; omega) (fun j h hj => ?_) ?_
  · simp at h
    simp [List.getElem_take, ha j (by omega) hj]
  · by_cases e : k = (l.take 9).length
    · exact .inl e
    · rw [List.length_take] at e
      right
      refine ⟨by simp; omega, ?_⟩
      rcases hs with hs | hs | ⟨h, hs⟩
      · omega
      · omega
      · simp [List.getElem_take]; omega

set_option maxRecDepth 20000 in
set_option maxHeartbeats 2000000 in
theorem numberAt_any (l : List UInt8) (w : World) (hs : l.length ≤ 9223372036854775807) :
    Calls Try.prog 49 #[.string (bs l)] w fun e w' => e = .returned (.tuple #[.int .u64 (numAt l).1, .int .i64 (numAt l).2.1, .int .i64 (numAt l).2.2]) ∧ w' = w := by
  go_enter Try.func49, Try.ntmps49
  go_wp2
  go_loop [5] (fun i => ∃ k : Nat, k ≤ l.length ∧ k ≤ 9 ∧ i = .int .i64 k ∧ Hid (∀ j (h : j < l.length), j < k → 128 ≤ l[j].toNat)) (fun i => 9 - (intOf i).toNat)
  case atStart => exact ⟨0, by omega, by omega, rfl, hide (fun j _ h => by omega)⟩
  case round =>
    obtain ⟨k, hk, hk9, rfl, HA⟩ := hrel
    by_cases hgo : ∃ h : k < l.length, 128 ≤ l[k].toNat ∧ k < 9
    · obtain ⟨h1, h2, h3⟩ := hgo
      have t1 : (128 : Int) ≤ (l[k].toNat : Int) := by omega
      go_wp2
      go_round
      case rel => exact ⟨k + 1, by omega, by omega, by go_num, hide (fun j hj h => by
        by_cases e : j = k
        · subst e; exact h2
        · exact HA.out j hj (by omega))⟩
      case measure => simp [intOf]; omega
    · have hstop : k = l.length ∨ k = 9 ∨ ∃ h : k < l.length, l[k].toNat < 128 := by
        by_cases c1 : k = l.length
        · exact .inl c1
        · by_cases c2 : k = 9
          · exact .inr (.inl c2)
          · refine .inr (.inr ⟨by omega, ?_⟩)
            by_cases c3 : l[k].toNat < 128
            · exact c3
            · exact absurd ⟨by omega, by omega, by omega⟩ hgo
      have HM := hide (numMany_eq l k hk hk9 HA.out hstop)
      by_cases c1 : k = l.length
      · have HN : Hid (numAt l = (0, 0, 1)) := by show _ = _; simp [numAt, HM.out, c1]
        go_wp2
        go_ret3
        exact ⟨by rw [HN.out]; rfl, rfl⟩
      · have hkl : k < l.length := by omega
        have c1' : ((k : Int) == (l.length : Int)) = false := by rw [beq_eq_false_iff_ne]; omega
        have HT : Hid ((l.take (k + 1)).length = k + 1) := by show _ = _; rw [List.length_take]; omega
        have HG : Hid (∀ j (hj : j < k + 1) (hl : j < l.length), (l.take (k + 1))[j]'(by rw [HT.out]; exact hj) = l[j]) := fun j hj hl => List.getElem_take ..
        by_cases c2 : k = 9
        · subst c2
          have t9 : ((9 : Int) == (l.length : Int)) = false := by rw [beq_eq_false_iff_ne]; omega
          by_cases d : 1 < l[9].toNat
          · have d' : (1 : Int) < (l[9].toNat : Int) := by omega
            have HN : Hid (numAt l = (0, 0, 3)) := by show _ = _; unfold numAt; rw [HM.out, if_neg c1, if_pos ⟨rfl, by rw [getD_get _ _ hkl]; exact d⟩]
            clear c1 d hgo hstop
            go_wp2
            all_goals go_ret3
            all_goals exact ⟨by rw [HN.out]; rfl, rfl⟩
          · have d' : ¬ (1 : Int) < (l[9].toNat : Int) := by omega
            have HO : Hid (numAt l = (numVal (l.take 10), 10, 0)) := by show _ = _; unfold numAt; rw [HM.out, if_neg c1, if_neg (fun h => d (by have := h.2; rw [getD_get _ _ hkl] at this; exact this))]
            have HV : Hid (numVal (l.take 10) < 18446744073709551616) := numVal_ten _ HT.out (by rw [List.getD_eq_getElem?_getD, List.getElem?_take_of_lt (by omega), ← List.getD_eq_getElem?_getD, getD_get _ _ hkl]; exact d)
            clear c1 d hgo hstop
            generalize l.take 10 = T at HT HG HO HV
            go_wp2
            go_loop [6, 7] (fun n i => ∃ (m : Int) (N : Nat), -1 ≤ m ∧ m < 10 ∧ i = .int .i64 m ∧ n = .int .u64 N ∧ Hid (N = numVal (T.drop (m + 1).toNat))) (fun _ i => (intOf i + 1).toNat)
            case atStart => exact ⟨9, 0, by omega, by omega, rfl, rfl, by show _ = _; rw [List.drop_eq_nil_of_le (by rw [HT.out]; omega)]; rfl⟩
            case round =>
              obtain ⟨m, N, hm1, hm2, rfl, rfl, HN⟩ := hrel
              by_cases hm : 0 ≤ m
              · obtain ⟨j, rfl⟩ := Int.eq_ofNat_of_zero_le hm
                have hjl : j < l.length := by omega
                have HD : Hid (IntKind.u64.wrap (IntKind.u64.wrap ((N : Int) * 128) + (l[j].toNat : Int) % 128) = ((numVal (T.drop j) : Nat) : Int)) := by
                  have e := numVal_drop T j (by rw [HT.out]; omega)
                  have e2 := numVal_drop_le T j
                  have e3 := HV.out
                  have e4 : N = numVal (T.drop (j + 1)) := HN.out
                  rw [HG.out j (by omega) hjl] at e
                  show _ = _
                  rw [wrap_u64_small ((N : Int) * 128) (by omega) (by omega), wrap_u64_small _ (by omega) (by omega)]
                  omega
                go_wp2
                go_round
                case rel => exact ⟨(j : Int) - 1, numVal (T.drop j), by omega, by omega, rfl, by rw [HD.out], by show _ = _; rw [show ((j : Int) - 1 + 1).toNat = j from by omega]⟩
                case measure => simp [intOf]
              · go_wp2
                go_ret3
                obtain rfl : m = -1 := by omega
                exact ⟨by rw [HO.out, HN.out]; rfl, rfl⟩
        · have hlow : l[k].toNat < 128 := by
            rcases hstop with h | h | ⟨_, h⟩
            · omega
            · omega
            · exact h
          have t1 : ¬ (128 : Int) ≤ (l[k].toNat : Int) := by omega
          have t9 : ((k : Int) == 9) = false := by rw [beq_eq_false_iff_ne]; omega
          have HO : Hid (numAt l = (numVal (l.take (k + 1)), k + 1, 0)) := by show _ = _; simp [numAt, HM.out, c1, c2]
          have HV : Hid (numVal (l.take (k + 1)) < 18446744073709551616) := numVal_nine _ (by rw [HT.out]; omega)
          have C2 := hide c2
          clear c1 hgo hstop c2
          generalize l.take (k + 1) = T at HT HG HO HV
          go_wp2
          go_loop [6, 7] (fun n i => ∃ (m : Int) (N : Nat), -1 ≤ m ∧ m < k + 1 ∧ i = .int .i64 m ∧ n = .int .u64 N ∧ Hid (N = numVal (T.drop (m + 1).toNat))) (fun _ i => (intOf i + 1).toNat)
          case atStart => exact ⟨k, 0, by omega, by omega, rfl, rfl, by show _ = _; rw [List.drop_eq_nil_of_le (by rw [HT.out]; omega)]; rfl⟩
          case round =>
            obtain ⟨m, N, hm1, hm2, rfl, rfl, HN⟩ := hrel
            by_cases hm : 0 ≤ m
            · obtain ⟨j, rfl⟩ := Int.eq_ofNat_of_zero_le hm
              have hjl : j < l.length := by omega
              have HD : Hid (IntKind.u64.wrap (IntKind.u64.wrap ((N : Int) * 128) + (l[j].toNat : Int) % 128) = ((numVal (T.drop j) : Nat) : Int)) := by
                have e := numVal_drop T j (by rw [HT.out]; omega)
                have e2 := numVal_drop_le T j
                have e3 := HV.out
                have e4 : N = numVal (T.drop (j + 1)) := HN.out
                rw [HG.out j (by omega) hjl] at e
                show _ = _
                rw [wrap_u64_small ((N : Int) * 128) (by omega) (by omega), wrap_u64_small _ (by omega) (by omega)]
                omega
              go_wp2
              go_round
              case rel => exact ⟨(j : Int) - 1, numVal (T.drop j), by omega, by omega, rfl, by rw [HD.out], by show _ = _; rw [show ((j : Int) - 1 + 1).toNat = j from by omega]⟩
              case measure => simp [intOf]
            · go_wp2
              go_ret3
              obtain rfl : m = -1 := by omega
              exact ⟨by rw [HO.out, HN.out]; rfl, rfl⟩

end Go.Proofs.Ytnlkfehnmijimaa
