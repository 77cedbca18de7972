/- 3 texts in one. -/
import Derived.Test.YtkaeogldielkfaaGreatProg
import Derived.Test.YtkaeogldielkfaaGreatKabe2b5f
import Derived.Test.YtkaeogldielkfaaGreatKa96aaab
import Derived.Test.YtkaeogldielkfaaGreatK1e38180
import Derived.Test.YtkaeogldielkfaaGreatKd42f439
import Derived.BigQuiet
import Derived.Laws.BitsAllLaws
import Derived.Laws.MakeOwn
import Derived.Test.YtkaeogldielkfaaGreatKc40ae49
import Derived.Lib.AppendStr
set_option linter.unusedVariables false
set_option linter.unusedSimpArgs false
namespace Go.Proofs.YtkaeogldielkfaaGreat.Lg
open Go.RowKit
attribute [local go_sem] bs_size bs_toList bs_append bs_get bs_extract
/-- A reader of a log, in a block. -/
abbrev rdr (w : World) (b : Nat) (l : List UInt8) (at' : Nat) : Prop := w.heap[b]? = some (.cells #[.string (bs l), .int .i64 at'] 109 (0, 0))
theorem KeptB.mono {B A b : Nat} {w w' : World} (h : KeptB B b w w') (hA : A ≤ B) : KeptB A b w w' := ⟨h.os, h.tape, h.output, h.size, fun k hk hn => h.block k (by omega) hn⟩
theorem KeptB.more {B b : Nat} {a c d : World} (h : KeptB B b a c) (k : KeptB c.heap.size b c d) (hB : B ≤ a.heap.size) : KeptB B b a d := h.trans (k.mono (by have := h.size; omega))
theorem KeptB.drew {B b : Nat} {a c : World} (h : KeptB B b a c) (n : Nat) : KeptB B b a (c.drewN n) := ⟨h.os, h.tape, h.output, h.size, h.block⟩
set_option maxRecDepth 20000 in
theorem lgTake_any (w : World) (b at' n : Nat) (l : List UInt8) (hb : rdr w b l at') (hn : at' + n ≤ l.length) (hl : l.length ≤ 140737488355328) :
    Calls Tryz.prog 124 #[.pointer (some ⟨b, 0, none⟩), .int .i64 n] w fun e w' => e = .returned (.string (bs ((l.drop at').take n))) ∧ KeptB w.heap.size b w w' ∧ rdr w' b l (at' + n) := by
  obtain ⟨c0, c1, z0, z1⟩ := lgTwo hb
  have hk : KeptB w.heap.size b w (w.setCell ⟨b, 1, none⟩ (.int .i64 ((at' : Int) + n))) := (KeptB.refl _ _ _).setCell 1 _
  have hb2 : rdr (w.setCell ⟨b, 1, none⟩ (.int .i64 ((at' : Int) + n))) b l (at' + n) := by
    have := lgSet (i := 1) hb (.int .i64 ((at' : Int) + n))
    unfold rdr
    rw [this]
    simp
  obtain ⟨w1, hw1⟩ : ∃ w1, w.setCell ⟨b, 1, none⟩ (.int .i64 ((at' : Int) + n)) = w1 := ⟨_, rfl⟩
  rw [hw1] at hk hb2
  obtain ⟨d0, d1, y0, y1⟩ := lgTwo hb2
  have HK := hide hk
  have HB := hide hb2
  clear hk hb2 hb
  go_enter Tryz.func124, Tryz.ntmps124
  go_wp2
  go_quiet (fail)
  go_wp2
  go_ret
  refine ⟨?_, HK.out.drew _, HB.out⟩
  show Ending.returned (Value.string (bs (List.take (at' + n - at') (List.drop at' l)))) = _
  rw [Nat.add_sub_cancel_left]
set_option maxRecDepth 20000 in
theorem lgNumber_any (w : World) (b at' n : Nat) (l : List UInt8) (hb : rdr w b l at') (hn : at' + n ≤ l.length) (hn4 : n ≤ 4) (hl : l.length ≤ 140737488355328) :
    Calls Tryz.prog 123 #[.pointer (some ⟨b, 0, none⟩), .int .i64 n] w fun e w' => e = .returned (.int .u32 (lowN ((l.drop at').take n))) ∧ KeptB w.heap.size b w w' ∧ rdr w' b l (at' + n) := by
  have HB := hide hb
  clear hb
  go_enter Tryz.func123, Tryz.ntmps123
  go_wp2_with fail
  refine (lgTake_any w b at' n l HB.out hn hl).mono ?_
  rintro e w1 ⟨rfl, hk1, hb1⟩
  have HK1 := hide hk1
  have HB1 := hide hb1
  clear hk1 hb1
  have HT : Hid (((l.drop at').take n).length = n) := hide (by rw [List.length_take, List.length_drop]; omega)
  obtain ⟨T, HTd⟩ : ∃ T, Hid (T = (l.drop at').take n) := ⟨_, hide rfl⟩
  rw [← HTd.out] at HT ⊢
  have hT := HT.out
  go_wp2
  go_loop [6, 7] (fun x i => ∃ (m : Int) (N : Nat), -1 ≤ m ∧ m < n ∧ i = .int .i64 m ∧ x = .int .u32 N ∧ Hid (N = lowN (T.drop (m + 1).toNat))) (fun _ i => (intOf i + 1).toNat)
  case atStart => exact ⟨(n : Int) - 1, 0, by omega, by omega, rfl, rfl, hide (by rw [List.drop_eq_nil_of_le (by omega)]; rfl)⟩
  case round =>
    obtain ⟨m, N, hm1, hm2, rfl, rfl, HN⟩ := hrel
    by_cases hm : 0 ≤ m
    · obtain ⟨j, rfl⟩ := Int.eq_ofNat_of_zero_le hm
      have hjT : j < T.length := by omega
      have hc := T[j].toNat_lt
      have hNl : lowN (T.drop (j + 1)) < 256 ^ 3 := Nat.lt_of_lt_of_le (lowN_lt _) (Nat.pow_le_pow_right (by decide) (by rw [List.length_drop]; omega))
      have HD : Hid (bits .or .u32 ((N : Int) * 256 % 4294967296) (T[j].toNat : Int) = ((lowN (T.drop j) : Nat) : Int)) := hide (by
        have e1 := lowN_drop T j hjT
        have e2 : N = lowN (T.drop (j + 1)) := HN.out
        rw [← e2] at e1 hNl
        have e3 := u32_or_nat (N * 256) T[j].toNat (by omega) (by omega)
        rw [or_add_256n _ _ hc] at e3
        rw [e1, ← e3]
        congr 1
        omega)
      go_wp2
      go_round
      case rel => exact ⟨(j : Int) - 1, lowN (T.drop j), by omega, by omega, rfl, by rw [HD.out], hide (by rw [show ((j : Int) - 1 + 1).toNat = j from by omega])⟩
      case measure => simp [intOf]
    · obtain rfl : m = -1 := by omega
      go_wp2
      go_ret
      exact ⟨by rw [HN.out, ← HTd.out]; rfl, HK1.out, HB1.out⟩
theorem made_bytes (n : Nat) : madeCells (Value.int .u8 0).cells n = (bytesV (List.replicate n 0)).toArray := by
  apply Array.ext'
  simp only [madeCells, bytesV, Value.cells]
  simp
  exact List.ext_getElem (by simp) (fun i h1 h2 => by simp [Nat.mod_one])
/-- What stands where 'noughts' compares: the reader, and the noughts that it makes. -/
def zJ (w0 : World) (b : Nat) (l : List UInt8) (at' n : Nat) (L2 L4 : Bool) (v4 : Value) (w : World) : Prop :=
  KeptB w0.heap.size b w0 w ∧ b < w0.heap.size ∧ rdr w b l (if L2 then at' + n else at') ∧ (L4 = true → ∃ g, v4 = .slice (some ⟨g, 0, none⟩) n n ∧ g ≠ b ∧ w.heap[g]? = some (.cells (bytesV (List.replicate n 0)).toArray 5 (0, 0)))
set_option maxRecDepth 20000 in
set_option maxHeartbeats 1000000 in
theorem lgNoughts_any (w : World) (b at' : Nat) (l : List UInt8) (hb : rdr w b l at') (hn : at' ≤ l.length) (hl : l.length ≤ 140737488355328) :
    Calls Tryz.prog 122 #[.pointer (some ⟨b, 0, none⟩)] w fun e w' => e = .returned (.bool (decide ((l.drop at').take (padL at').length = padL at'))) ∧ KeptB w.heap.size b w w' ∧ ((l.drop at').take (padL at').length = padL at' → rdr w' b l (at' + (padL at').length)) := by
  obtain ⟨i0, hinf, hz0, hz1, hz2⟩ := info_parts Tryz.info5l
  have hlt := lt_of_block hb
  obtain ⟨c0, c1, z0, z1⟩ := lgTwo hb
  have HB := hide hb
  clear hb
  obtain ⟨k, hk⟩ : ∃ k, k = 128 - at' % 128 := ⟨_, rfl⟩
  have HP := hide (show padL at' = if k < 7 then List.replicate k 0 else [] from by rw [hk]; rfl)
  go_enter Tryz.func122, Tryz.ntmps122
  go_wp2_with fail
  refine (left_any_i _ at' _ (by omega) (by omega)).mono ?_
  rintro e w1 ⟨rfl, rfl⟩
  rw [← hk]
  have hk0 : 0 < k := by omega
  clear hk
  by_cases hk7 : k < 7
  · rw [if_pos hk7] at HP
    have hk7' : ¬ (7 : Int) ≤ k := by omega
    by_cases hfit : at' + k ≤ l.length
    · have hfit' : ¬ (l.length : Int) - (at' : Int) < k := by omega
      go_wp2_with fail
      go_quiet (fail)
      go_wp2_with fail
      generalize hW : World.drewN _ _ = w2
      have hk2 : KeptB w1.heap.size b w1 w2 := by rw [← hW]; exact (KeptB.refl _ _ _).drew _
      have hb2 : rdr w2 b l at' := by rw [← hW]; exact HB.out
      have hlt2 : b < w2.heap.size := lt_of_block hb2
      clear hW
      refine wp_region_state 7 30 Tryz.mixed3 rfl (by decide +kernel) (fun L vals w' => zJ w2 b l at' k (L 2) (L 4) (vals 4) w') (fun L vals h => ?_)
        (fun i v => match i with
          | 0 => v = .pointer (some ⟨b, 0, none⟩)
          | 1 => v = .int .i64 k
          | 2 => v = .string (bs ((l.drop at').take k))
          | 3 => v = .int .i64 k
          | 4 => ∃ g, v = .slice (some ⟨g, 0, none⟩) k k
          | 5 => v = .string (bs (List.replicate k 0))
          | _ => v = .bool (decide ((l.drop at').take k = List.replicate k 0)))
        (fun _ _ => False) (fun _ _ _ _ h => h.elim) (fun i hi o ho a w3 L vals hLi hLc hLe hJ hoff hval hdep => ?_) (fun vals w3 L hL hJ hvals => ?_)
      · simp only [h]
        exact ⟨(KeptB.refl _ _ _).drew 1, hlt2, hb2, fun h => by cases h⟩
      · obtain ⟨hk3, hlt3, hblk, hg4⟩ := id hJ
        match i, hi with
        | 0, _ =>
          obtain rfl := Option.some.inj ho
          have o0 := hoff 0 (by decide +kernel)
          simp at o0
          simp [opYields, go_sem, o0]
          exact hJ
        | 1, _ =>
          obtain rfl := Option.some.inj ho
          have o3 := hoff 3 (by decide +kernel)
          simp at o3
          simp [opYields, go_sem, o3]
          exact hJ
        | 2, _ =>
          rw [hLi] at hblk
          obtain rfl := Option.some.inj ho
          have d0 := hdep 0 (by decide +kernel)
          have d1 := hdep 1 (by decide +kernel)
          simp [slotOf, dstOf] at d0 d1
          simp [opYields, go_sem, d0, d1]
          refine (lgTake_any w3 b at' k l hblk hfit hl).mono ?_
          rintro e w4 ⟨rfl, hk4, hb4⟩
          refine ⟨⟨hk3.more hk4 (Nat.le_refl _), hlt3, hb4, fun h => ?_⟩, rfl⟩
          obtain ⟨g, e1, e2, e3⟩ := hg4 h
          exact ⟨g, e1, e2, (hk4.block g (lt_of_block e3) e2).trans e3⟩
        | 3, _ =>
          obtain rfl := Option.some.inj ho
          have o3 := hoff 3 (by decide +kernel)
          simp at o3
          simp [opYields, go_sem, o3]
          exact hJ
        | 4, _ =>
          have hmk := run_make (P := Tryz.prog) w3 77 5 i0 (.int .u8 0) Tryz.underlying77 hinf hz0 .i64 .i64 (k : Int) (k : Int) (by omega) (by omega) (by rw [hz2]; omega) (by omega)
          rw [hz1, Nat.mul_one, Int.toNat_natCast, made_bytes] at hmk
          obtain rfl := Option.some.inj ho
          have d3 := hdep 3 (by decide +kernel)
          simp [slotOf, dstOf] at d3
          simp [opYields, go_sem, d3, hmk]
          have hsz := hk3.size
          refine ⟨hk3.trans (keptB_of (Below.mono ((Below.refl _ _).alloc (Nat.le_refl _) _) hsz)), hlt3, ?_, fun _ => ⟨_, rfl, by omega, heap_alloc_new _ _⟩⟩
          show rdr _ b l _
          unfold rdr
          rw [Below.heap_alloc _ _ _ (lt_of_block hblk)]
          exact hblk
        | 5, _ =>
          have h4 := hLe 4 (by decide +kernel)
          obtain ⟨g, e1, e2, e3⟩ := hg4 h4
          have s4 := hval 4 (by decide +kernel)
          rw [e1] at s4
          obtain rfl := Option.some.inj ho
          simp [slotOf, dstOf] at s4
          have hcv := run_bytesStr (P := Tryz.prog) (w := w3) (base := 0) (v := .slice (some ⟨g, 0, none⟩) k k) (l := List.replicate k 0) (dst := 9) Tryz.underlying77 Tryz.underlying5 Tryz.underlying9 ⟨by rw [bytesV_length, Nat.mul_one], .inr ⟨g, k, _, by rw [List.length_replicate], Nat.zero_le _, e3, by rw [List.length_replicate]; exact Nat.le_refl _, by unfold maxLen; omega, by simp [bytesV_length], by simp; rw [List.take_of_length_le (by rw [bytesV_length, List.length_replicate]; exact Nat.le_refl _)]⟩⟩
          simp [opYields, go_sem, s4, hcv]
          exact hJ
        | 6, _ =>
          obtain rfl := Option.some.inj ho
          have d2 := hdep 2 (by decide +kernel)
          have d5 := hdep 5 (by decide +kernel)
          simp [slotOf, dstOf] at d2 d5
          simp [opYields, go_sem, d2, d5]
          exact ⟨hJ, Bool.eq_iff_iff.2 (by simp)⟩
      · have v6 := hvals 6 (by omega)
        simp only at v6
        obtain ⟨hk3, hlt3, hblk, hg4⟩ := id hJ
        rw [hL 2 (by omega)] at hblk
        have HK3 := hide (hk2.more hk3 (Nat.le_refl _))
        have HB3 := hide hblk
        clear hvals hJ hk3 hblk hg4
        simp [over, dstOf, Act.put, v6]
        have HZ : Hid ((l.drop at').take (padL at').length = (l.drop at').take k) := hide (by rw [HP.out, List.length_replicate])
        go_wp2
        go_ret
        refine ⟨ret_bool (by rw [HZ.out, HP.out]), HK3.out, fun _ => ?_⟩
        rw [HP.out, List.length_replicate]
        exact HB3.out
    · have hfit' : (l.length : Int) - (at' : Int) < k := by omega
      have HZ : Hid (¬ (l.drop at').take (padL at').length = padL at') := hide (by
        rw [HP.out, List.length_replicate]
        intro h
        have := congrArg List.length h
        simp at this
        omega)
      have hzf := HZ.out
      go_wp2_with fail
      go_quiet (fail)
      go_wp2
      go_ret
      exact ⟨ret_bool (by simp [hzf]), (KeptB.refl _ _ _).drew _, fun h => absurd h hzf⟩
  · rw [if_neg hk7] at HP
    have hk7' : (7 : Int) ≤ k := by omega
    go_wp2
    go_ret
    exact ⟨ret_bool (by rw [HP.out]; simp), KeptB.refl _ _ _, fun _ => by rw [HP.out]; exact HB.out⟩
/-- What 'part' answers. -/
def partPost (w : World) (b at' : Nat) (l : List UInt8) (e : Ending) (w' : World) : Prop :=
  ∃ (kk : Nat) (ss : List UInt8) (bb : Bool), e = .returned (.tuple #[.int .u8 kk, .string (bs ss), .bool bb]) ∧ KeptB w.heap.size b w w' ∧
    ((partAt l at' = none ∧ bb = false) ∨ ∃ en, partAt l at' = some (kk, ss, en) ∧ bb = true ∧ rdr w' b l en)
set_option maxRecDepth 20000 in
set_option maxHeartbeats 2000000 in
theorem lgPart_any (w : World) (b at' : Nat) (l : List UInt8) (hb : rdr w b l at') (hn : at' ≤ l.length) (hl : l.length ≤ 140737488355328) :
    Calls Tryz.prog 93 #[.pointer (some ⟨b, 0, none⟩)] w (partPost w b at' l) := by
  have HB := hide hb
  clear hb
  have hpl := (pad_le at').1
  have HPM := hide (pad_le at').2
  obtain ⟨P, HPd⟩ : ∃ P, Hid (P = padL at') := ⟨_, hide rfl⟩
  go_enter Tryz.func93, Tryz.ntmps93
  go_wp2_with fail
  refine (lgNoughts_any w b at' l HB.out hn hl).mono ?_
  rintro e w1 ⟨rfl, hk1, hb1⟩
  by_cases hz : (l.drop at').take (padL at').length = padL at'
  · have hb1 := hb1 hz
    rw [decide_eq_true hz]
    have hlen : at' + (padL at').length ≤ l.length := by
      have := congrArg List.length hz
      rw [List.length_take, List.length_drop] at this
      omega
    obtain ⟨a1, ha1⟩ : ∃ a1, a1 = at' + (padL at').length := ⟨_, rfl⟩
    have HPA : Hid (partAt l at' = if min (a1 + (128 - a1 % 128)) l.length < a1 + 7 then none else if min (a1 + (128 - a1 % 128)) l.length < a1 + 7 + lowN ((l.drop (a1 + 1)).take 2) then none else if ckSum ((l.drop (a1 + 7)).take (lowN ((l.drop (a1 + 1)).take 2))) ≠ lowN ((l.drop (a1 + 3)).take 4) then none else some (lowN ((l.drop a1).take 1), (l.drop (a1 + 7)).take (lowN ((l.drop (a1 + 1)).take 2)), a1 + 7 + lowN ((l.drop (a1 + 1)).take 2))) := hide (by
      rw [ha1]
      unfold partAt
      rw [if_neg (fun h => h hz)])
    rw [← ha1] at hb1 hlen
    have HK1 := hide hk1
    have HB1 := hide hb1
    obtain ⟨c0, c1, z0, z1⟩ := lgTwo hb1
    clear hk1 hb1 ha1 hz
    by_cases hcmp : a1 + (128 - a1 % 128) ≤ l.length
    · have hE : min (a1 + (128 - a1 % 128)) l.length = a1 + (128 - a1 % 128) := by omega
      rw [hE] at HPA
      have hR1 : 128 - a1 % 128 ≤ 128 := by omega
      clear hE
      by_cases h7 : a1 + (128 - a1 % 128) < a1 + 7
      · rw [if_pos h7] at HPA
        have hk1 := HK1.out
        go_wp2_with fail
        go_quiet (exact Calls.quiet_of_same (left_any_i _ a1 _ (by omega) (by omega)))
        go_wp2_with fail
        go_ret3
        exact ⟨0, [], false, rfl, hk1.drew _, .inl ⟨HPA.out, rfl⟩⟩
      · rw [if_neg h7] at HPA
        go_wp2_with fail
        go_quiet (exact Calls.quiet_of_same (left_any_i _ a1 _ (by omega) (by omega)))
        go_wp2_with fail
        generalize hW : World.drewN _ _ = w2
        have HK2 : Hid (KeptB w.heap.size b w w2) := hide (by rw [← hW]; exact HK1.out.drew _)
        have hb2 : rdr w2 b l a1 := by rw [← hW]; exact HB1.out
        clear hW
        refine (lgNumber_any w2 b a1 1 l hb2 (by omega) (by omega) hl).mono ?_
        rintro e w3 ⟨rfl, hk3, hb3⟩
        have HK3 := hide (HK2.out.more hk3 (by have := HK1.out.size; omega))
        clear hk3
        have hkl : lowN ((l.drop a1).take 1) < 256 := by
          have h9 := lowN_lt ((l.drop a1).take 1)
          have h10 : 256 ^ ((l.drop a1).take 1).length ≤ 256 ^ 1 := Nat.pow_le_pow_right (by decide) (by rw [List.length_take]; omega)
          omega
        generalize lowN ((l.drop a1).take 1) = K at HPA hkl ⊢
        have hK1 : (K : Int) % 256 = K := by omega
        go_wp2_with fail
        refine (lgNumber_any w3 b (a1 + 1) 2 l hb3 (by omega) (by omega) hl).mono ?_
        rintro e w4 ⟨rfl, hk4, hb4⟩
        have HK4 := hide (HK3.out.more hk4 (by have := HK3.out.size; omega))
        clear hk4
        have hnl : lowN ((l.drop (a1 + 1)).take 2) < 65536 := by
          have h9 := lowN_lt ((l.drop (a1 + 1)).take 2)
          have h10 : 256 ^ ((l.drop (a1 + 1)).take 2).length ≤ 256 ^ 2 := Nat.pow_le_pow_right (by decide) (by rw [List.length_take]; omega)
          omega
        generalize lowN ((l.drop (a1 + 1)).take 2) = n at HPA hnl ⊢
        go_wp2_with fail
        refine (lgNumber_any w4 b (a1 + 1 + 2) 4 l hb4 (by omega) (by omega) hl).mono ?_
        rintro e w5 ⟨rfl, hk5, hb5⟩
        have HK5 := hide (HK4.out.more hk5 (by have := HK4.out.size; omega))
        clear hk5
        rw [show a1 + 1 + 2 = a1 + 3 from by omega] at *
        have hb5' : rdr w5 b l (a1 + 7) := hb5
        have HB5 := hide hb5'
        obtain ⟨d0, d1, y0, y1⟩ := lgTwo hb5'
        clear hb5 hb5' hb4 hb3 hb2
        generalize lowN ((l.drop (a1 + 3)).take 4) = c at HPA ⊢
        by_cases hov : a1 + (128 - a1 % 128) < a1 + 7 + n
        · rw [if_pos hov] at HPA
          have hk5 := HK5.out
          go_wp2_with fail
          go_ret3
          exact ⟨0, [], false, rfl, hk5, .inl ⟨HPA.out, rfl⟩⟩
        · rw [if_neg hov] at HPA
          go_wp2_with fail
          refine (lgTake_any w5 b (a1 + 7) n l HB5.out (by omega) hl).mono ?_
          rintro e w6 ⟨rfl, hk6, hb6⟩
          have hl121 : ((l.drop (a1 + 7)).take n).length ≤ 65536 := by rw [List.length_take]; omega
          have HK6 := hide (HK5.out.more hk6 (by have := HK5.out.size; omega))
          have HB6 := hide hb6
          clear hk6 hb6 d0 d1 y0 y1
          generalize (l.drop (a1 + 7)).take n = s at HPA hl121 ⊢
          go_wp2_with fail
          refine (logCheck_any s w6 (by omega)).mono ?_
          rintro e w7 ⟨rfl, rfl⟩
          by_cases hck : ckSum s = c
          · rw [if_neg (fun h => h hck)] at HPA
            have hckI : ((ckSum s : Int) == (c : Int)) = true := by simp [hck]
            go_wp2_with fail
            go_ret3
            exact ⟨K, s, true, rfl, HK6.out, .inr ⟨_, HPA.out, rfl, HB6.out⟩⟩
          · rw [if_pos hck] at HPA
            have hckI : ((ckSum s : Int) == (c : Int)) = false := by rw [beq_eq_false_iff_ne]; omega
            go_wp2_with fail
            go_ret3
            exact ⟨K, s, false, rfl, HK6.out, .inl ⟨HPA.out, rfl⟩⟩
    · have hE : min (a1 + (128 - a1 % 128)) l.length = l.length := by omega
      rw [hE] at HPA
      have hR1 : 128 - a1 % 128 ≤ 128 := by omega
      clear hE
      by_cases h7 : l.length < a1 + 7
      · rw [if_pos h7] at HPA
        have hk1 := HK1.out
        go_wp2_with fail
        go_quiet (exact Calls.quiet_of_same (left_any_i _ a1 _ (by omega) (by omega)))
        go_wp2_with fail
        go_ret3
        exact ⟨0, [], false, rfl, hk1.drew _, .inl ⟨HPA.out, rfl⟩⟩
      · rw [if_neg h7] at HPA
        go_wp2_with fail
        go_quiet (exact Calls.quiet_of_same (left_any_i _ a1 _ (by omega) (by omega)))
        go_wp2_with fail
        generalize hW : World.drewN _ _ = w2
        have HK2 : Hid (KeptB w.heap.size b w w2) := hide (by rw [← hW]; exact HK1.out.drew _)
        have hb2 : rdr w2 b l a1 := by rw [← hW]; exact HB1.out
        clear hW
        refine (lgNumber_any w2 b a1 1 l hb2 (by omega) (by omega) hl).mono ?_
        rintro e w3 ⟨rfl, hk3, hb3⟩
        have HK3 := hide (HK2.out.more hk3 (by have := HK1.out.size; omega))
        clear hk3
        have hkl : lowN ((l.drop a1).take 1) < 256 := by
          have h9 := lowN_lt ((l.drop a1).take 1)
          have h10 : 256 ^ ((l.drop a1).take 1).length ≤ 256 ^ 1 := Nat.pow_le_pow_right (by decide) (by rw [List.length_take]; omega)
          omega
        generalize lowN ((l.drop a1).take 1) = K at HPA hkl ⊢
        have hK1 : (K : Int) % 256 = K := by omega
        go_wp2_with fail
        refine (lgNumber_any w3 b (a1 + 1) 2 l hb3 (by omega) (by omega) hl).mono ?_
        rintro e w4 ⟨rfl, hk4, hb4⟩
        have HK4 := hide (HK3.out.more hk4 (by have := HK3.out.size; omega))
        clear hk4
        have hnl : lowN ((l.drop (a1 + 1)).take 2) < 65536 := by
          have h9 := lowN_lt ((l.drop (a1 + 1)).take 2)
          have h10 : 256 ^ ((l.drop (a1 + 1)).take 2).length ≤ 256 ^ 2 := Nat.pow_le_pow_right (by decide) (by rw [List.length_take]; omega)
          omega
        generalize lowN ((l.drop (a1 + 1)).take 2) = n at HPA hnl ⊢
        go_wp2_with fail
        refine (lgNumber_any w4 b (a1 + 1 + 2) 4 l hb4 (by omega) (by omega) hl).mono ?_
        rintro e w5 ⟨rfl, hk5, hb5⟩
        have HK5 := hide (HK4.out.more hk5 (by have := HK4.out.size; omega))
        clear hk5
        rw [show a1 + 1 + 2 = a1 + 3 from by omega] at *
        have hb5' : rdr w5 b l (a1 + 7) := hb5
        have HB5 := hide hb5'
        obtain ⟨d0, d1, y0, y1⟩ := lgTwo hb5'
        clear hb5 hb5' hb4 hb3 hb2
        generalize lowN ((l.drop (a1 + 3)).take 4) = c at HPA ⊢
        by_cases hov : l.length < a1 + 7 + n
        · rw [if_pos hov] at HPA
          have hk5 := HK5.out
          go_wp2_with fail
          go_ret3
          exact ⟨0, [], false, rfl, hk5, .inl ⟨HPA.out, rfl⟩⟩
        · rw [if_neg hov] at HPA
          go_wp2_with fail
          refine (lgTake_any w5 b (a1 + 7) n l HB5.out (by omega) hl).mono ?_
          rintro e w6 ⟨rfl, hk6, hb6⟩
          have hl121 : ((l.drop (a1 + 7)).take n).length ≤ 65536 := by rw [List.length_take]; omega
          have HK6 := hide (HK5.out.more hk6 (by have := HK5.out.size; omega))
          have HB6 := hide hb6
          clear hk6 hb6 d0 d1 y0 y1
          generalize (l.drop (a1 + 7)).take n = s at HPA hl121 ⊢
          go_wp2_with fail
          refine (logCheck_any s w6 (by omega)).mono ?_
          rintro e w7 ⟨rfl, rfl⟩
          by_cases hck : ckSum s = c
          · rw [if_neg (fun h => h hck)] at HPA
            have hckI : ((ckSum s : Int) == (c : Int)) = true := by simp [hck]
            go_wp2_with fail
            go_ret3
            exact ⟨K, s, true, rfl, HK6.out, .inr ⟨_, HPA.out, rfl, HB6.out⟩⟩
          · rw [if_pos hck] at HPA
            have hckI : ((ckSum s : Int) == (c : Int)) = false := by rw [beq_eq_false_iff_ne]; omega
            go_wp2_with fail
            go_ret3
            exact ⟨K, s, false, rfl, HK6.out, .inl ⟨HPA.out, rfl⟩⟩
  · rw [decide_eq_false hz]
    have HPA : Hid (partAt l at' = none) := hide (by unfold partAt; rw [if_pos hz])
    have HK1 := hide hk1
    clear hk1 hz hb1
    go_wp2
    go_ret3
    exact ⟨0, [], false, rfl, HK1.out, .inl ⟨HPA.out, rfl⟩⟩
theorem mayCome_any (k : Nat) (first : Bool) (w : World) (hk : k < 256) :
    Calls Tryz.prog 94 #[.int .u8 k, .bool first] w fun e w' => e = .returned (.bool (mayB k first)) ∧ w' = w := by
  by_cases h : k = 1 ∨ k = 2 ∨ k = 3 ∨ k = 4
  · rcases h with rfl | rfl | rfl | rfl
    all_goals
      go_enter Tryz.func94, Tryz.ntmps94
      go_wp2
      go_ret
      exact ⟨rfl, rfl⟩
  · have h1 : ((k : Int) == 1) = false := by rw [beq_eq_false_iff_ne]; omega
    have h2 : ((k : Int) == 2) = false := by rw [beq_eq_false_iff_ne]; omega
    have h3 : ((k : Int) == 3) = false := by rw [beq_eq_false_iff_ne]; omega
    have h4 : ((k : Int) == 4) = false := by rw [beq_eq_false_iff_ne]; omega
    have HM : Hid (mayB k first = false) := hide (by unfold mayB; rw [if_neg (by omega), if_neg (by omega)])
    go_enter Tryz.func94, Tryz.ntmps94
    go_wp2
    go_ret
    exact ⟨by rw [HM.out]; rfl, rfl⟩
theorem logEnds_any (k : Nat) (w : World) (hk : k < 256) :
    Calls Tryz.prog 95 #[.int .u8 k] w fun e w' => e = .returned (.bool (endsB k)) ∧ w' = w := by
  by_cases h1 : k = 1
  · subst h1
    go_enter Tryz.func95, Tryz.ntmps95
    go_wp2
    go_ret
    exact ⟨rfl, rfl⟩
  · by_cases h4 : k = 4
    · subst h4
      go_enter Tryz.func95, Tryz.ntmps95
      go_wp2
      go_ret
      exact ⟨rfl, rfl⟩
    · have h1' : ((k : Int) == 1) = false := by rw [beq_eq_false_iff_ne]; omega
      have h4' : ((k : Int) == 4) = false := by rw [beq_eq_false_iff_ne]; omega
      have HM : Hid (endsB k = false) := hide (by simp [endsB]; omega)
      go_enter Tryz.func95, Tryz.ntmps95
      go_wp2
      go_ret
      exact ⟨by rw [HM.out]; rfl, rfl⟩
theorem ownsRow_kept {w w' : World} {base e size n b : Nat} {v : Value} {xs : List Value} (h : w.ownsRow base e size v n xs) (hk : KeptB w.heap.size b w w') (hne : v.ownBlock ≠ some b) : w'.ownsRow base e size v n xs := by
  obtain ⟨h1, h2⟩ := h
  refine ⟨h1, ?_⟩
  rcases h2 with h2 | ⟨g, cap, cur, rfl, hg, hh, r⟩
  · exact .inl h2
  · exact .inr ⟨g, cap, cur, rfl, hg, (hk.block g (lt_of_block hh) (fun e => hne (by simp [Value.ownBlock, e]))).trans hh, r⟩
def atR (w : World) (b : Nat) : Nat := match w.heap[b]? with | some (.cells c _ _) => (intOf (c.getD 1 undef)).toNat | _ => 0
theorem atR_of {w : World} {b at' : Nat} {l : List UInt8} (h : rdr w b l at') : atR w b = at' := by
  unfold atR
  rw [show w.heap[b]? = _ from h]
  simp [intOf]
def recPost (w : World) (b at' : Nat) (l : List UInt8) (e : Ending) (w' : World) : Prop :=
  ∃ (rr : List UInt8) (bb : Bool), e = .returned (.tuple #[.string (bs rr), .bool bb]) ∧ KeptB w.heap.size b w w' ∧
    ((recA l at' true = none ∧ bb = false) ∨ ∃ en, recA l at' true = some (rr, en) ∧ bb = true ∧ rdr w' b l en)
set_option maxRecDepth 20000 in
set_option maxHeartbeats 2000000 in
theorem lgRecord_any (w : World) (b at' : Nat) (l : List UInt8) (hb : rdr w b l at') (hn : at' ≤ l.length) (hl : l.length ≤ 70000000000000) :
    Calls Tryz.prog 63 #[.pointer (some ⟨b, 0, none⟩)] w (recPost w b at' l) := by
  obtain ⟨i0, hinf, hz0, hz1, hz2⟩ := info_parts Tryz.info5l
  have HB := hide hb
  clear hb
  go_enter Tryz.func63, Tryz.ntmps63
  go_wp2
  go_loopw [4, 5] (fun v f wr => ∃ (made : List UInt8) (first : Bool) (p : Nat) (ao : Option Addr) (n cp : Nat), v = .slice ao n cp ∧ f = .bool first ∧ p ≤ l.length ∧ made.length ≤ p ∧ Hid (n = made.length) ∧ Hid (KeptB w.heap.size b w wr) ∧ Hid (rdr wr b l p) ∧ Hid (wr.ownsRow w.heap.size 5 1 (.slice ao n cp) made.length (bytesV made)) ∧ Hid (recA l at' true = (recA l p first).map fun r => (made ++ r.1, r.2))) (fun _ _ wr => l.length - atR wr b)
  case atStart => exact ⟨[], true, at', none, 0, 0, rfl, rfl, hn, Nat.zero_le _, hide rfl, hide (KeptB.refl _ _ _), HB, hide (World.ownsRow_nil _ _ _ _), hide (by simp)⟩
  case round =>
    obtain ⟨made, first, p, ao, n, cp, rfl, rfl, hp, hml, HN, HK, HR, HO, HE⟩ := hrel
    rename World => wr
    have hws := HK.out.size
    have hm1 := atR_of HR.out
    have hne := own_apart HO.out HR.out (by decide)
    go_wp2_with fail
    refine (lgPart_any wr b p l HR.out hp (by omega)).mono ?_
    rintro e w1 ⟨kk, ss, bb, rfl, hk1, hcase⟩
    have HK1 := hide (HK.out.more hk1 (Nat.le_refl _))
    have HO1 := hide (ownsRow_kept HO.out hk1 hne)
    clear hk1
    rcases hcase with ⟨hnone, rfl⟩ | ⟨en, hsome, rfl, hr1⟩
    · have HF : Hid (recA l at' true = none) := hide (by rw [HE.out, recA_eq, hnone]; rfl)
      clear hnone
      go_wp2_with fail
      go_ret2
      exact ⟨[], false, rfl, HK1.out, .inl ⟨HF.out, rfl⟩⟩
    · have hpe := partAt_end hsome
      have HR1 := hide hr1
      have HS := hide hsome
      clear hsome hr1
      go_wp2_with fail
      refine (mayCome_any kk first _ hpe.2.2.2).mono ?_
      rintro e w2 ⟨rfl, rfl⟩
      cases hmay : mayB kk first with
      | false =>
        have HF : Hid (recA l at' true = none) := hide (by rw [HE.out, recA_eq, HS.out]; simp [hmay])
        clear hmay
        go_wp2_with fail
        go_ret2
        exact ⟨[], false, rfl, HK1.out, .inl ⟨HF.out, rfl⟩⟩
      | true =>
        have HE2 : Hid (recA l at' true = if endsB kk then some (made ++ ss, en) else (recA l en false).map fun r => ((made ++ ss) ++ r.1, r.2)) := hide (by
          rw [HE.out, recA_eq, HS.out]
          simp only [hmay, if_true]
          split
          · rfl
          · rw [Option.map_map]
            congr 1
            funext r
            simp [List.append_assoc])
        clear hmay
        have hne1 := own_apart HO1.out HR1.out (by decide)
        have hmn := HN.out
        have HM1 : Hid (made.length + (bs ss).size ≤ maxLen) := hide (by rw [bs_size]; unfold maxLen; omega)
        have HM2 : Hid (made.length + (bs ss).size ≤ 140737488355328) := hide (by rw [bs_size]; omega)
        have hB1 : w.heap.size ≤ w2.heap.size := HK1.out.size
        clear hmn
        go_wp2_with (at_builtin; refine Lib.wpList_append_own_string _ rfl (.tmp 23) (.tmp 24) 77 9 rfl w.heap.size 5 i0 Tryz.underlying77 Tryz.underlying9 hinf hz0 hz1 hz2 (.slice ao n cp) made.length (bytesV made) rfl HO1.out (bs ss) rfl HM1.out HM2.out hB1 ?_; intro v9 w9 hown9 hgrow9 _; obtain ⟨ao9, cp9, rfl⟩ := own_shape hown9; have HO9 := hide hown9; have HR9 := hide (grown_block hgrow9 HR1.out hne1); have HG9 := hide hgrow9; clear hown9 hgrow9)
        refine (logEnds_any kk _ hpe.2.2.2).mono ?_
        rintro e w10 ⟨rfl, rfl⟩
        have HK9 : Hid (KeptB w.heap.size b w w10) := hide (HK1.out.trans (keptB_of ((Below.refl w.heap.size _).grown HG9.out hB1 (fun k hk => (HO1.out.lt k hk).1))))
        have ho9 := HO9.out
        rw [bs_size, strCells_bs, ← bytesV_append, ← List.length_append] at ho9
        cases hends : endsB kk with
        | false =>
          have HE3 := HE2.out
          rw [hends] at HE3
          simp only [Bool.false_eq_true, if_false] at HE3
          have HE4 := hide HE3
          have HO10 := hide ho9
          have hm2 := atR_of HR9.out
          clear HE3 hends ho9
          go_wp2_with fail
          go_roundw
          case rel => exact ⟨made ++ ss, false, en, ao9, _, cp9, rfl, rfl, hpe.2.1, by rw [List.length_append]; omega, hide (by rw [List.length_append]), HK9, HR9, hide (by rw [← List.length_append]; exact HO10.out), HE4⟩
          case measure => rw [hm1, hm2]; omega
        | true =>
          have HE3 := HE2.out
          rw [hends] at HE3
          simp only [if_true] at HE3
          have HE4 := hide HE3
          have hcv := run_bytesStr (P := Tryz.prog) (dst := 9) Tryz.underlying77 Tryz.underlying5 Tryz.underlying9 ho9
          rw [List.length_append] at hcv
          clear HE3 hends ho9
          go_wp2_with fail
          go_ret2
          exact ⟨made ++ ss, true, rfl, HK9.out, .inr ⟨en, HE4.out, rfl, HR9.out⟩⟩
end Go.Proofs.YtkaeogldielkfaaGreat.Lg
