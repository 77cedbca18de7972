/- The reader's part and record, and Read. -/
import Derived.Test.YtjjjncainakbiaaProg
import Derived.Test.YtjjjncainakbiaaKit
import Derived.Test.YtjjjncainakbiaaLgS
import Derived.Test.YtjjjncainakbiaaLgT
import Derived.Test.YtjjjncainakbiaaLgP
import Derived.Test.YtjjjncainakbiaaLgC
import Derived.Test.YtjjjncainakbiaaLgW
import Derived.Test.YtjjjncainakbiaaLgV
import Derived.Test.YtjjjncainakbiaaReg
import Derived.BigQuiet
set_option linter.unusedVariables false
set_option linter.unusedSimpArgs false
namespace Go.Proofs.Ytjjjncainakbiaa.Lg
open Go.RowKit
attribute [local go_sem] bs_size bs_toList bs_append bs_get bs_extract

/-- What 'part' answers. -/
def partPost (w : World) (b at' : Nat) (l : List UInt8) (e : Ending) (w' : World) : Prop :=
  ∃ (kk : Nat) (ss : List UInt8) (bb : Bool), e = .returned (.tuple #[.int .u8 kk, .string (bs ss), .bool bb]) ∧ KeptB w.heap.size b w w' ∧
    ((partAt l at' = none ∧ bb = false) ∨ ∃ en, partAt l at' = some (kk, ss, en) ∧ bb = true ∧ rdr w' b l en)

set_option maxRecDepth 20000 in
set_option maxHeartbeats 2000000 in
theorem lgPart_any (w : World) (b at' : Nat) (l : List UInt8) (hb : rdr w b l at') (hn : at' ≤ l.length) (hl : l.length ≤ 140737488355328) :
    Calls Try.prog 31 #[.pointer (some ⟨b, 0, none⟩)] w (partPost w b at' l) := by
  have HB := hide hb
  clear hb
  have hpl := (pad_le at').1
  have HPM := hide (pad_le at').2
  obtain ⟨P, HPd⟩ : ∃ P, Hid (P = padL at') := ⟨_, hide rfl⟩
  go_enter Try.func31, Try.ntmps31
  go_wp2_with fail
  refine (lgNoughts_any w b at' l HB.out hn hl).mono ?_
  rintro e w1 ⟨rfl, hk1, hb1⟩
  by_cases hz : (l.drop at').take (padL at').length = padL at'
  · have hb1 := hb1 hz
    rw [decide_eq_true hz]
    have hlen : at' + (padL at').length ≤ l.length := by
      have := congrArg List.length hz
      rw [List.length_take, List.length_drop] at this
      omega
    obtain ⟨a1, ha1⟩ : ∃ a1, a1 = at' + (padL at').length := ⟨_, rfl⟩
    have HPA : Hid (partAt l at' = if min (a1 + (128 - a1 % 128)) l.length < a1 + 7 then none else if min (a1 + (128 - a1 % 128)) l.length < a1 + 7 + lowN ((l.drop (a1 + 1)).take 2) then none else if ckSum ((l.drop (a1 + 7)).take (lowN ((l.drop (a1 + 1)).take 2))) ≠ lowN ((l.drop (a1 + 3)).take 4) then none else some (lowN ((l.drop a1).take 1), (l.drop (a1 + 7)).take (lowN ((l.drop (a1 + 1)).take 2)), a1 + 7 + lowN ((l.drop (a1 + 1)).take 2))) := hide (by
      rw [ha1]
      unfold partAt
      rw [if_neg (fun h => h hz)])
    rw [← ha1] at hb1 hlen
    have HK1 := hide hk1
    have HB1 := hide hb1
    obtain ⟨c0, c1, z0, z1⟩ := lgTwo hb1
    clear hk1 hb1 ha1 hz
    by_cases hcmp : a1 + (128 - a1 % 128) ≤ l.length
    · have hE : min (a1 + (128 - a1 % 128)) l.length = a1 + (128 - a1 % 128) := by omega
      rw [hE] at HPA
      have hR1 : 128 - a1 % 128 ≤ 128 := by omega
      clear hE
      by_cases h7 : a1 + (128 - a1 % 128) < a1 + 7
      · rw [if_pos h7] at HPA
        have hk1 := HK1.out
        go_wp2_with fail
        go_quiet (exact Calls.quiet_of_same (left_any_i _ a1 _ (by omega) (by omega)))
        go_wp2_with fail
        go_ret3
        exact ⟨0, [], false, rfl, hk1.drew _, .inl ⟨HPA.out, rfl⟩⟩
      · rw [if_neg h7] at HPA
        go_wp2_with fail
        go_quiet (exact Calls.quiet_of_same (left_any_i _ a1 _ (by omega) (by omega)))
        go_wp2_with fail
        generalize hW : World.drewN _ _ = w2
        have HK2 : Hid (KeptB w.heap.size b w w2) := hide (by rw [← hW]; exact HK1.out.drew _)
        have hb2 : rdr w2 b l a1 := by rw [← hW]; exact HB1.out
        clear hW
        refine (lgNumber_any w2 b a1 1 l hb2 (by omega) (by omega) hl).mono ?_
        rintro e w3 ⟨rfl, hk3, hb3⟩
        have HK3 := hide (HK2.out.more hk3 (by have := HK1.out.size; omega))
        clear hk3
        have hkl : lowN ((l.drop a1).take 1) < 256 := by
          have h9 := lowN_lt ((l.drop a1).take 1)
          have h10 : 256 ^ ((l.drop a1).take 1).length ≤ 256 ^ 1 := Nat.pow_le_pow_right (by decide) (by rw [List.length_take]; omega)
          omega
        generalize lowN ((l.drop a1).take 1) = K at HPA hkl ⊢
        have hK1 : (K : Int) % 256 = K := by omega
        go_wp2_with fail
        refine (lgNumber_any w3 b (a1 + 1) 2 l hb3 (by omega) (by omega) hl).mono ?_
        rintro e w4 ⟨rfl, hk4, hb4⟩
        have HK4 := hide (HK3.out.more hk4 (by have := HK3.out.size; omega))
        clear hk4
        have hnl : lowN ((l.drop (a1 + 1)).take 2) < 65536 := by
          have h9 := lowN_lt ((l.drop (a1 + 1)).take 2)
          have h10 : 256 ^ ((l.drop (a1 + 1)).take 2).length ≤ 256 ^ 2 := Nat.pow_le_pow_right (by decide) (by rw [List.length_take]; omega)
          omega
        generalize lowN ((l.drop (a1 + 1)).take 2) = n at HPA hnl ⊢
        go_wp2_with fail
        refine (lgNumber_any w4 b (a1 + 1 + 2) 4 l hb4 (by omega) (by omega) hl).mono ?_
        rintro e w5 ⟨rfl, hk5, hb5⟩
        have HK5 := hide (HK4.out.more hk5 (by have := HK4.out.size; omega))
        clear hk5
        rw [show a1 + 1 + 2 = a1 + 3 from by omega] at *
        have hb5' : rdr w5 b l (a1 + 7) := hb5
        have HB5 := hide hb5'
        obtain ⟨d0, d1, y0, y1⟩ := lgTwo hb5'
        clear hb5 hb5' hb4 hb3 hb2
        generalize lowN ((l.drop (a1 + 3)).take 4) = c at HPA ⊢
        by_cases hov : a1 + (128 - a1 % 128) < a1 + 7 + n
        · rw [if_pos hov] at HPA
          have hk5 := HK5.out
          go_wp2_with fail
          go_ret3
          exact ⟨0, [], false, rfl, hk5, .inl ⟨HPA.out, rfl⟩⟩
        · rw [if_neg hov] at HPA
          go_wp2_with fail
          refine (lgTake_any w5 b (a1 + 7) n l HB5.out (by omega) hl).mono ?_
          rintro e w6 ⟨rfl, hk6, hb6⟩
          have hl121 : ((l.drop (a1 + 7)).take n).length ≤ 65536 := by rw [List.length_take]; omega
          have HK6 := hide (HK5.out.more hk6 (by have := HK5.out.size; omega))
          have HB6 := hide hb6
          clear hk6 hb6 d0 d1 y0 y1
          generalize (l.drop (a1 + 7)).take n = s at HPA hl121 ⊢
          go_wp2_with fail
          refine (logCheck_any s w6 (by omega)).mono ?_
          rintro e w7 ⟨rfl, rfl⟩
          by_cases hck : ckSum s = c
          · rw [if_neg (fun h => h hck)] at HPA
            have hckI : ((ckSum s : Int) == (c : Int)) = true := by simp [hck]
            go_wp2_with fail
            go_ret3
            exact ⟨K, s, true, rfl, HK6.out, .inr ⟨_, HPA.out, rfl, HB6.out⟩⟩
          · rw [if_pos hck] at HPA
            have hckI : ((ckSum s : Int) == (c : Int)) = false := by rw [beq_eq_false_iff_ne]; omega
            go_wp2_with fail
            go_ret3
            exact ⟨K, s, false, rfl, HK6.out, .inl ⟨HPA.out, rfl⟩⟩
    · have hE : min (a1 + (128 - a1 % 128)) l.length = l.length := by omega
      rw [hE] at HPA
      have hR1 : 128 - a1 % 128 ≤ 128 := by omega
      clear hE
      by_cases h7 : l.length < a1 + 7
      · rw [if_pos h7] at HPA
        have hk1 := HK1.out
        go_wp2_with fail
        go_quiet (exact Calls.quiet_of_same (left_any_i _ a1 _ (by omega) (by omega)))
        go_wp2_with fail
        go_ret3
        exact ⟨0, [], false, rfl, hk1.drew _, .inl ⟨HPA.out, rfl⟩⟩
      · rw [if_neg h7] at HPA
        go_wp2_with fail
        go_quiet (exact Calls.quiet_of_same (left_any_i _ a1 _ (by omega) (by omega)))
        go_wp2_with fail
        generalize hW : World.drewN _ _ = w2
        have HK2 : Hid (KeptB w.heap.size b w w2) := hide (by rw [← hW]; exact HK1.out.drew _)
        have hb2 : rdr w2 b l a1 := by rw [← hW]; exact HB1.out
        clear hW
        refine (lgNumber_any w2 b a1 1 l hb2 (by omega) (by omega) hl).mono ?_
        rintro e w3 ⟨rfl, hk3, hb3⟩
        have HK3 := hide (HK2.out.more hk3 (by have := HK1.out.size; omega))
        clear hk3
        have hkl : lowN ((l.drop a1).take 1) < 256 := by
          have h9 := lowN_lt ((l.drop a1).take 1)
          have h10 : 256 ^ ((l.drop a1).take 1).length ≤ 256 ^ 1 := Nat.pow_le_pow_right (by decide) (by rw [List.length_take]; omega)
          omega
        generalize lowN ((l.drop a1).take 1) = K at HPA hkl ⊢
        have hK1 : (K : Int) % 256 = K := by omega
        go_wp2_with fail
        refine (lgNumber_any w3 b (a1 + 1) 2 l hb3 (by omega) (by omega) hl).mono ?_
        rintro e w4 ⟨rfl, hk4, hb4⟩
        have HK4 := hide (HK3.out.more hk4 (by have := HK3.out.size; omega))
        clear hk4
        have hnl : lowN ((l.drop (a1 + 1)).take 2) < 65536 := by
          have h9 := lowN_lt ((l.drop (a1 + 1)).take 2)
          have h10 : 256 ^ ((l.drop (a1 + 1)).take 2).length ≤ 256 ^ 2 := Nat.pow_le_pow_right (by decide) (by rw [List.length_take]; omega)
          omega
        generalize lowN ((l.drop (a1 + 1)).take 2) = n at HPA hnl ⊢
        go_wp2_with fail
        refine (lgNumber_any w4 b (a1 + 1 + 2) 4 l hb4 (by omega) (by omega) hl).mono ?_
        rintro e w5 ⟨rfl, hk5, hb5⟩
        have HK5 := hide (HK4.out.more hk5 (by have := HK4.out.size; omega))
        clear hk5
        rw [show a1 + 1 + 2 = a1 + 3 from by omega] at *
        have hb5' : rdr w5 b l (a1 + 7) := hb5
        have HB5 := hide hb5'
        obtain ⟨d0, d1, y0, y1⟩ := lgTwo hb5'
        clear hb5 hb5' hb4 hb3 hb2
        generalize lowN ((l.drop (a1 + 3)).take 4) = c at HPA ⊢
        by_cases hov : l.length < a1 + 7 + n
        · rw [if_pos hov] at HPA
          have hk5 := HK5.out
          go_wp2_with fail
          go_ret3
          exact ⟨0, [], false, rfl, hk5, .inl ⟨HPA.out, rfl⟩⟩
        · rw [if_neg hov] at HPA
          go_wp2_with fail
          refine (lgTake_any w5 b (a1 + 7) n l HB5.out (by omega) hl).mono ?_
          rintro e w6 ⟨rfl, hk6, hb6⟩
          have hl121 : ((l.drop (a1 + 7)).take n).length ≤ 65536 := by rw [List.length_take]; omega
          have HK6 := hide (HK5.out.more hk6 (by have := HK5.out.size; omega))
          have HB6 := hide hb6
          clear hk6 hb6 d0 d1 y0 y1
          generalize (l.drop (a1 + 7)).take n = s at HPA hl121 ⊢
          go_wp2_with fail
          refine (logCheck_any s w6 (by omega)).mono ?_
          rintro e w7 ⟨rfl, rfl⟩
          by_cases hck : ckSum s = c
          · rw [if_neg (fun h => h hck)] at HPA
            have hckI : ((ckSum s : Int) == (c : Int)) = true := by simp [hck]
            go_wp2_with fail
            go_ret3
            exact ⟨K, s, true, rfl, HK6.out, .inr ⟨_, HPA.out, rfl, HB6.out⟩⟩
          · rw [if_pos hck] at HPA
            have hckI : ((ckSum s : Int) == (c : Int)) = false := by rw [beq_eq_false_iff_ne]; omega
            go_wp2_with fail
            go_ret3
            exact ⟨K, s, false, rfl, HK6.out, .inl ⟨HPA.out, rfl⟩⟩
  · rw [decide_eq_false hz]
    have HPA : Hid (partAt l at' = none) := hide (by unfold partAt; rw [if_pos hz])
    have HK1 := hide hk1
    clear hk1 hz hb1
    go_wp2
    go_ret3
    exact ⟨0, [], false, rfl, HK1.out, .inl ⟨HPA.out, rfl⟩⟩

end Go.Proofs.Ytjjjncainakbiaa.Lg
