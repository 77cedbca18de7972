/- 2 texts in one. -/
import Derived.Test.YtndpjdmfkhjiiaaGreatDoorProg
import Derived.Test.YtndpjdmfkhjiiaaGreatDoorK06d19db
import Derived.Test.YtndpjdmfkhjiiaaGreatDoorKb1922dc
import Derived.Test.YtndpjdmfkhjiiaaGreatDoorK962ac2a
import Derived.Test.YtndpjdmfkhjiiaaGreatDoorK38a6253
import Derived.Laws.OwnMore
import Derived.BigFrame
set_option linter.unusedVariables false
set_option linter.unusedSimpArgs false
namespace Go.Proofs.YtndpjdmfkhjiiaaGreatDoor.Rl
open Go.RowKit
theorem trimL_one (r : Nat) : trimL [r] = if r = 0 then [] else [r] := by
 by_cases h : r = 0
 ·
  subst h; rfl
 ·
  rw [if_neg h]
  exact trimL_pos [] h
theorem trimL_cons {x : Nat} {l : List Nat} (h : trimL l ≠ []) : trimL (x :: l) = x :: trimL l := by
 unfold trimL at h ⊢
 rw [List.reverse_cons, List.dropWhile_append]
 have h2 : l.reverse.dropWhile (· == 0) ≠ [] := fun e => h (by rw [e]; rfl)
 cases hd : l.reverse.dropWhile (· == 0) with
 | nil => exact absurd hd h2
 | cons a t => simp
theorem trimL_cons_nil {x : Nat} {l : List Nat} (h : trimL l = []) : trimL (x :: l) = if x = 0 then [] else [x] := by
 unfold trimL at h ⊢
 have h2 : l.reverse.dropWhile (· == 0) = [] := by simpa using h
 rw [List.reverse_cons, List.dropWhile_append, h2]
 by_cases hx : x = 0
 ·
  subst hx; simp
 ·
  simp [hx, List.dropWhile_cons]
theorem limbs_into (m : Nat) : trimL (intoL (limbs m)).1 = limbs (m / 10000) ∧ (intoL (limbs m)).2 = m % 10000 := by
 induction m using Nat.strongRecOn with
 | _ m ih =>
  by_cases h : m = 0
  ·
   subst h
   rw [limbs_zero]
   exact ⟨rfl, rfl⟩
  ·
   obtain ⟨h1, h2⟩ := ih (m / 65536) (by omega)
   rw [limbs_pos (by omega)]
   simp only [intoL]
   rw [h2]
   refine ⟨?_, by omega⟩
   have e1 : (65536 * (m / 65536 % 10000) + m % 65536) / 10000 = m / 10000 % 65536 := by omega
   rw [e1]
   have e2 : m / 10000 / 65536 = m / 65536 / 10000 := by omega
   by_cases hq : m / 65536 / 10000 = 0
   ·
    rw [hq, limbs_zero] at h1
    rw [trimL_cons_nil h1]
    by_cases h3 : m / 10000 % 65536 = 0
    ·
     rw [if_pos h3, show m / 10000 = 0 by omega, limbs_zero]
    ·
     rw [if_neg h3, limbs_pos (show 0 < m / 10000 by omega), e2, hq, limbs_zero]
   ·
    have h4 : limbs (m / 65536 / 10000) ≠ [] := by rw [limbs_pos (by omega)]; simp
    rw [trimL_cons (by rw [h1]; exact h4), h1, limbs_pos (show 0 < m / 10000 by omega), e2]
theorem limbs_lt (m : Nat) : ∀ x ∈ limbs m, x < 65536 := by
 induction m using Nat.strongRecOn with
 | _ m ih =>
  by_cases h : m = 0
  ·
   subst h; rw [limbs_zero]; simp
  ·
   rw [limbs_pos (by omega)]
   intro x hx
   rcases List.mem_cons.1 hx with rfl | hx
   ·
    omega
   ·
    exact ih (m / 65536) (by omega) x hx
def padD : Nat → Nat → List UInt8
 | 0, _ => []
 | k + 1, n => padD k (n / 10) ++ [UInt8.ofNat (48 + n % 10)]
theorem padD_len : ∀ k n, (padD k n).length = k
 | 0, _ => rfl
 | k + 1, n => by simp [padD, padD_len k]
theorem padD_next : ∀ (k n : Nat), UInt8.ofNat (48 + n / 10 ^ k % 10) :: padD k n = padD (k + 1) n
 | 0, n => by simp [padD]
 | k + 1, n => by
  rw [padD, padD, ← List.cons_append, ← padD_next k (n / 10), Nat.div_div_eq_div_mul, Nat.pow_succ, Nat.mul_comm (10 ^ k) 10]
theorem padD_add : ∀ (k j n : Nat), padD (j + k) n = padD j (n / 10 ^ k) ++ padD k n
 | 0, j, n => by simp [padD]
 | k + 1, j, n => by
  rw [← Nat.add_assoc, padD, padD, padD_add k j (n / 10), Nat.div_div_eq_div_mul, Nat.pow_succ, Nat.mul_comm (10 ^ k) 10, List.append_assoc]
theorem padD_mod : ∀ (k n : Nat), padD k (n % 10 ^ k) = padD k n
 | 0, n => rfl
 | k + 1, n => by
  rw [padD, padD, ← padD_mod k (n / 10)]
  have h1 : n % 10 ^ (k + 1) / 10 = n / 10 % 10 ^ k := by
   rw [Nat.pow_succ, Nat.mul_comm, Nat.mod_mul_right_div_self]
  have h2 : n % 10 ^ (k + 1) % 10 = n % 10 := Nat.mod_mod_of_dvd _ (by rw [Nat.pow_succ]; exact Nat.dvd_mul_left _ _)
  rw [h1, h2]
theorem padD_zero : ∀ k, padD k 0 = List.replicate k 48
 | 0 => rfl
 | k + 1 => by rw [padD, Nat.zero_div, padD_zero k, List.replicate_succ']; rfl
def stripZ : List UInt8 → List UInt8
 | [] => []
 | [c] => [c]
 | c :: d :: t => if c = 48 then stripZ (d :: t) else c :: d :: t
theorem stripZ_snoc : ∀ (s : List UInt8) (c : UInt8), s ≠ [] → (stripZ s).head? ≠ some 48 → stripZ (s ++ [c]) = stripZ s ++ [c]
 | [], _, h, _ => absurd rfl h
 | [x], c, _, h => by
  have hx : x ≠ 48 := fun e => h (by rw [e]; rfl)
  simp [stripZ, hx]
 | x :: y :: t, c, _, h => by
  show stripZ (x :: y :: (t ++ [c])) = _
  by_cases hx : x = 48
  ·
   simp only [stripZ, if_pos hx] at h ⊢
   exact stripZ_snoc (y :: t) c (by simp) h
  ·
   simp only [stripZ, if_neg hx]
   rfl
theorem stripZ_zeros (c : UInt8) : ∀ k, stripZ (List.replicate k 48 ++ [c]) = [c]
 | 0 => rfl
 | k + 1 => by
  rw [List.replicate_succ, List.cons_append]
  cases hk : List.replicate k (48 : UInt8) ++ [c] with
  | nil => simp at hk
  | cons a t =>
   rw [stripZ, if_pos rfl, ← hk]
   exact stripZ_zeros c k
theorem dec_head {n : Nat} (h : 0 < n) : (Lib.decDigits n).head? ≠ some 48 := by
 induction n using Nat.strongRecOn with
 | _ n ih =>
  rw [Lib.decDigits]
  by_cases h1 : n < 10
  ·
   rw [dif_pos h1]
   have hn : n = 1 ∨ n = 2 ∨ n = 3 ∨ n = 4 ∨ n = 5 ∨ n = 6 ∨ n = 7 ∨ n = 8 ∨ n = 9 := by omega
   rcases hn with rfl | rfl | rfl | rfl | rfl | rfl | rfl | rfl | rfl <;> decide
  ·
   rw [dif_neg h1]
   have h2 := ih (n / 10) (by omega) (by omega)
   cases hd : Lib.decDigits (n / 10) with
   | nil =>
    have := Lib.decDigits_length (n / 10)
    rw [hd] at this
    have := Lib.nDigits_pos (n / 10)
    simp at *
    omega
   | cons a t =>
    rw [hd] at h2
    simpa using h2
theorem strip_pad : ∀ (k n : Nat), n < 10 ^ (k + 1) → stripZ (padD (k + 1) n) = Lib.decDigits n
 | 0, n, h => by
  rw [Lib.decDigits, dif_pos (by simpa using h)]
  have : n % 10 = n := Nat.mod_eq_of_lt (by simpa using h)
  simp [padD, this, stripZ]
 | k + 1, n, h => by
  rw [padD]
  by_cases h1 : n < 10
  ·
   rw [show n / 10 = 0 by omega, padD_zero, stripZ_zeros, Lib.decDigits, dif_pos h1, show n % 10 = n by omega]
  ·
   have h2 := strip_pad k (n / 10) (by rw [Nat.div_lt_iff_lt_mul (by decide)]; rw [Nat.pow_succ] at h; exact h)
   rw [stripZ_snoc _ _ (by intro e; have := padD_len (k + 1) (n / 10); rw [e] at this; simp at this) (by rw [h2]; exact dec_head (by omega)), h2]
   conv => rhs; rw [Lib.decDigits, dif_neg h1]
theorem strip_drop {T : List UInt8} {k : Nat} (h : k + 1 < T.length) (hc : T[k] = 48) : stripZ (T.drop k) = stripZ (T.drop (k + 1)) := by
 rw [List.drop_eq_getElem_cons (show k < T.length by omega), List.drop_eq_getElem_cons h, stripZ, if_pos hc]
theorem strip_stop {T : List UInt8} {k : Nat} (h : k + 1 < T.length) (hc : T[k] ≠ 48) : stripZ (T.drop k) = T.drop k := by
 rw [List.drop_eq_getElem_cons (show k < T.length by omega), List.drop_eq_getElem_cons h, stripZ, if_neg hc]
theorem strip_last {T : List UInt8} {k : Nat} (h : k + 1 = T.length) : stripZ (T.drop k) = T.drop k := by
 rw [List.drop_eq_getElem_cons (show k < T.length by omega), List.drop_of_length_le (by omega)]
 rfl
end Go.Proofs.YtndpjdmfkhjiiaaGreatDoor.Rl
namespace Go.Proofs.YtndpjdmfkhjiiaaGreatDoor.Rl
open Go.RowKit Lb
attribute [local go_sem] bs_size bs_toList bs_append bs_get bs_extract
theorem one_text (w : World) (c : Nat) (hc : c < 256) : (convert 89 9 (.slice (some ⟨w.heap.size, 0, none⟩) 1 1)).run Tryz.prog (w.alloc (.cells #[.int .u8 (c : Int)] 5)) = .ok (.string (bs [UInt8.ofNat c])) (w.alloc (.cells #[.int .u8 (c : Int)] 5)) := by
 have h := run_convert_bytes_back (P := Tryz.prog) (w.alloc (.cells #[.int .u8 (c : Int)] 5)) 89 9 5 ⟨w.heap.size, 0, none⟩ 1 [UInt8.ofNat c] Tryz.underlying89 Tryz.underlying5 Tryz.underlying9 (fun j hj => by
  have hj0 : j = 0 := by simpa using hj
  subst hj0
  have e : ((UInt8.ofNat c).toNat : Int) = (c : Int) := by
   rw [UInt8.toNat_ofNat', Nat.mod_eq_of_lt (by omega)]
  simp only [List.getElem_cons_zero]
  rw [e]
  exact cell_in (heap_alloc_new w _) rfl)
 exact h
def strLen : Value → Nat
 | .string s => s.size
 | _ => 0
set_option maxRecDepth 20000 in
set_option maxHeartbeats 4000000 in
theorem decimals_any (w : World) (n J : Nat) (hJ : n < 10000 ^ J) (hJ1 : 1 ≤ J) (hJ2 : J ≤ 100) (va : Value) (hr : readsLim w w.heap.size va (limbs n)) (hl : ∀ m, m ≤ n → (limbs m).length ≤ 1000) :
  Calls Tryz.prog 21 #[va] w fun e w' => Grow w w' ∧ e = .returned (.string (bs (Lib.decDigits n))) := by
 have HR := hide hr
 have HJ := hide hJ
 have HL := hide hl
 clear hr hJ hl
 go_enter Tryz.func21, Tryz.ntmps21
 go_wp2
 go_loopw [0, 3] (fun av sv wr => ∃ j : Nat, j < J ∧ sv = .string (bs (padD (4 * j) n)) ∧ Hid (readsLim wr wr.heap.size av (limbs (n / 10000 ^ j))) ∧ Hid (Grow w wr)) (fun _ sv _ => 4 * J - strLen sv)
 case atStart => exact ⟨0, by omega, rfl, hide (by simpa using HR.out), hide (Grow.refl _)⟩
 case round =>
  obtain ⟨j, hj, rfl, HA, HG⟩ := hrel
  obtain ⟨m, HM⟩ : ∃ m, Hid (n / 10000 ^ j = m) := ⟨_, hide rfl⟩
  have HML : Hid (m ≤ n) := hide (by rw [← HM.out]; exact Nat.div_le_self _ _)
  have hA := HA.out
  rw [HM.out] at hA
  have g1 := (Grow.refl wr).alloc (.cells #[.int .i64 10000] 3)
  have hI := into_any (wr.alloc (.cells #[.int .i64 10000] 3)) (limbs m) _ ((hA.keep g1).more g1.size) (HL.out m HML.out) (limbs_lt m) wr.heap.size (cell_in (heap_alloc_new _ _) rfl) (by simp)
  rw [(limbs_into m).1, (limbs_into m).2, trimL_one] at hI
  obtain ⟨ao, cp, rfl, _⟩ := id hA
  have HI := hide hI
  have HG1 := hide (HG.out.trans g1)
  obtain ⟨S, HS⟩ : ∃ S, Hid (padD (4 * j) n = S) := ⟨_, hide rfl⟩
  have hSl : S.length = 4 * j := by rw [← HS.out, padD_len]
  rw [HS.out]
  clear hA g1 hI
  go_wp2_with fail
  refine HI.out.mono ?_
  rintro e w2 ⟨hg2, v1, v2, rfl, hq, hrem⟩
  have HG2 := hide (HG1.out.trans hg2)
  have HQ := hide hq
  obtain ⟨r, HRM⟩ : ∃ r, Hid (m % 10000 = r) := ⟨_, hide rfl⟩
  have hrl : r < 10000 := by rw [← HRM.out]; omega
  rw [HRM.out] at hrem
  obtain ⟨qo, qc, rfl, _⟩ := id hq
  have hv2 : (r = 0 ∧ ∃ o c, v2 = .slice o 0 c) ∨ (r ≠ 0 ∧ ∃ b o c, v2 = .slice (some ⟨b, o, none⟩) 1 c ∧ w2.cell? ⟨b, o, none⟩ = some (.int .i64 (r : Nat))) := by
   by_cases h0 : r = 0
   ·
    rw [if_pos h0] at hrem
    obtain ⟨o, c, e, _⟩ := hrem
    exact .inl ⟨h0, o, c, e⟩
   ·
    rw [if_neg h0] at hrem
    obtain ⟨o, c, e, _, h⟩ := hrem
    obtain ⟨b, o2, e2, _, h2⟩ := h 0 (by simp)
    subst e2
    exact .inr ⟨h0, b, o2, c, e, by simpa using h2⟩
  clear hg2 hq hrem
  have HPOW : Hid (n / 10 ^ (4 * j) = n / 10000 ^ j) := hide (by rw [Nat.pow_mul])
  have HPOW : Hid (n / 10 ^ (4 * j) = n / 10000 ^ j) := hide (by rw [Nat.pow_mul])
  have HPOW : Hid (n / 10 ^ (4 * j) = n / 10000 ^ j) := hide (by rw [Nat.pow_mul])
  have HPOW : Hid (n / 10 ^ (4 * j) = n / 10000 ^ j) := hide (by rw [Nat.pow_mul])
  have HPOW : Hid (n / 10 ^ (4 * j) = n / 10000 ^ j) := hide (by rw [Nat.pow_mul])
  rcases hv2 with ⟨h0, o2, c2, rfl⟩ | ⟨h0, b2, o2, c2, rfl, d2⟩
  ·
   subst h0
   go_wp2
   go_loopw [3, 6, 7] (fun sv dv iv wi => ∃ k : Nat, k ≤ 4 ∧ iv = .int .i64 k ∧ dv = .int .i64 ((0 / 10 ^ k : Nat) : Int) ∧ sv = .string (bs (padD k 0 ++ S)) ∧ Hid (Grow w2 wi)) (fun _ _ iv _ => 4 - (intOf iv).toNat)
   case atStart => exact ⟨0, by omega, rfl, by simp, by simp [padD], hide (Grow.refl _)⟩
   case round =>
    obtain ⟨k, hk, rfl, rfl, rfl, HGI⟩ := hrel
    rename World => wi
    by_cases hk4 : k < 4
    ·
     obtain ⟨D, HD⟩ : ∃ D, Hid (0 / 10 ^ k = D) := ⟨_, hide rfl⟩
     have HDn : Hid (0 / 10 ^ (k + 1) = D / 10) := hide (by rw [← HD.out, Nat.pow_succ, Nat.div_div_eq_div_mul])
     have HPn : Hid ([UInt8.ofNat (48 + D % 10)] ++ (padD k 0 ++ S) = padD (k + 1) 0 ++ S) := hide (by rw [← HD.out, ← padD_next]; rfl)
     obtain ⟨c8, HC8⟩ : ∃ c8, Hid (UInt8.ofNat (48 + D % 10) = c8) := ⟨_, hide rfl⟩
     rw [HC8.out] at HPn
     have hDl : D < 10000 := by
      rw [← HD.out]
      exact Nat.lt_of_le_of_lt (Nat.div_le_self _ _) (by omega)
     have hPl : (padD k 0 ++ S).length = k + 4 * j := by rw [List.length_append, padD_len, hSl]
     rw [HD.out]
     obtain ⟨T, HT⟩ : ∃ T, Hid (padD k 0 ++ S = T) := ⟨_, hide rfl⟩
     rw [HT.out] at HPn hPl ⊢
     have hcv : (convert 89 9 (.slice (some ⟨wi.heap.size, 0, none⟩) 1 1)).run Tryz.prog (wi.alloc (.cells #[.int .u8 (48 + (D : Int) % 10)] 5)) = .ok (.string (bs [c8])) (wi.alloc (.cells #[.int .u8 (48 + (D : Int) % 10)] 5)) := by rw [← HC8.out]; exact one_text wi (48 + D % 10) (by omega)
     go_wp2
     go_roundw
     case rel => exact ⟨k + 1, by omega, by go_num, by rw [HDn.out]; rfl, by rw [← HPn.out]; rfl, hide (HGI.out.trans ((Grow.refl wi).alloc _))⟩
     case measure => simp [intOf]; omega
    ·
     obtain rfl : k = 4 := by omega
     have HTX : Hid (padD 4 0 ++ S = padD (4 * (j + 1)) n) := hide (by
      rw [← HS.out, show 4 * (j + 1) = 4 * j + 4 by omega, Nat.add_comm (4 * j) 4, padD_add, HPOW.out, HM.out, ← padD_mod 4 m, show 10 ^ 4 = 10000 by decide, HRM.out])
     rw [HTX.out, show ((4 : Nat) : Int) = 4 from rfl]
     generalize ((0 / 10 ^ 4 : Nat) : Int) = dd
     have HQ4 := hide ((HQ.out.keep HGI.out).more HGI.out.size)
     have HG4 := hide (HG2.out.trans HGI.out)
     by_cases hq0 : m / 10000 = 0
     ·
      have eL : (limbs (m / 10000)).length = 0 := by rw [hq0, limbs_zero]; rfl
      rw [eL]
      clear eL
      have hT0 : n < 10 ^ (4 * j + 3 + 1) := by
       have h1 : n / 10000 ^ j / 10000 = 0 := by rw [HM.out]; exact hq0
       rw [Nat.div_div_eq_div_mul, ← Nat.pow_succ] at h1
       have h2 : n < 10000 ^ (j + 1) := by
        rcases Nat.lt_or_ge n (10000 ^ (j + 1)) with h | h
        ·
         exact h
        ·
         exact absurd h1 (Nat.ne_of_gt (Nat.div_pos h (Nat.pow_pos (by decide))))
       rw [show 4 * j + 3 + 1 = 4 * (j + 1) by omega, Nat.pow_mul]
       exact h2
      have hST := strip_pad (4 * j + 3) n hT0
      rw [show 4 * j + 3 + 1 = 4 * (j + 1) by omega] at hST
      have hTL := padD_len (4 * (j + 1)) n
      obtain ⟨T, HT⟩ : ∃ T, Hid (padD (4 * (j + 1)) n = T) := ⟨_, hide rfl⟩
      rw [HT.out] at hST hTL ⊢
      have HST := hide hST
      clear hST hT0
      go_wp2
      go_loopw [8] (fun iv wx => ∃ k : Nat, k + 1 ≤ T.length ∧ iv = .int .i64 k ∧ Hid (stripZ (T.drop k) = Lib.decDigits n) ∧ wx = wi) (fun iv _ => T.length - (intOf iv).toNat)
      case atStart => exact ⟨0, by omega, rfl, hide (by rw [List.drop_zero]; exact HST.out), rfl⟩
      case round =>
       obtain ⟨k, hk, rfl, HK, rfl⟩ := hrel
       have HTK : Hid (List.take (4 * (j + 1) - k) (T.drop k) = T.drop k) := hide (List.take_of_length_le (by rw [List.length_drop]; omega))
       by_cases hl1 : k + 1 = T.length
       ·
        have hx : ¬ (k : Int) < (T.length : Int) - 1 := by omega
        have HE := hide (strip_last hl1)
        rw [HE.out] at HK
        clear hl1
        go_wp2
        go_ret
        exact ⟨HG4.out, by rw [← HK.out]; exact congrArg (fun x => Ending.returned (Value.string (bs x))) HTK.out⟩
       ·
        have hx : (k : Int) < (T.length : Int) - 1 := by omega
        have hkl : k < T.length := by omega
        by_cases hc : T[k] = 48
        ·
         have HD := hide (strip_drop (by omega) hc)
         have hcn : T[k].toNat = 48 := by rw [hc]; rfl
         clear hc hl1
         go_wp2
         go_roundw
         case rel => exact ⟨k + 1, by omega, by go_num, hide (by rw [← HD.out]; exact HK.out), trivial⟩
         case measure => simp [intOf]; omega
        ·
         have HD := hide (strip_stop (by omega) hc)
         have hcn : ¬ T[k].toNat = 48 := fun e => hc (UInt8.toNat_inj.1 e)
         rw [HD.out] at HK
         clear hc hl1
         go_wp2
         go_ret
         exact ⟨HG4.out, by rw [← HK.out]; exact congrArg (fun x => Ending.returned (Value.string (bs x))) HTK.out⟩
     ·
      have hql : 0 < (limbs (m / 10000)).length := by rw [limbs_pos (by omega)]; simp
      have hjJ : j + 1 < J := by
       rcases Nat.lt_or_ge (j + 1) J with h | h
       ·
        exact h
       ·
        exfalso
        have h1 : 10000 ^ J ≤ 10000 ^ (j + 1) := Nat.pow_le_pow_right (by decide) h
        have h2 : n / 10000 ^ (j + 1) = 0 := Nat.div_eq_of_lt (Nat.lt_of_lt_of_le HJ.out h1)
        rw [Nat.pow_succ, ← Nat.div_div_eq_div_mul, HM.out] at h2
        exact hq0 h2
      have HNX : Hid (n / 10000 ^ (j + 1) = m / 10000) := hide (by rw [Nat.pow_succ, ← Nat.div_div_eq_div_mul, HM.out])
      have hqne : ¬ (((limbs (m / 10000)).length : Int) = 0) := by omega
      go_wp2
      go_roundw
      case rel => exact ⟨j + 1, hjJ, rfl, hide (by rw [HNX.out]; exact HQ4.out), HG4⟩
      case measure => simp [strLen, padD_len, bs_size, hSl]; omega
  ·
   go_wp2
   go_loopw [3, 6, 7] (fun sv dv iv wi => ∃ k : Nat, k ≤ 4 ∧ iv = .int .i64 k ∧ dv = .int .i64 ((r / 10 ^ k : Nat) : Int) ∧ sv = .string (bs (padD k r ++ S)) ∧ Hid (Grow w2 wi)) (fun _ _ iv _ => 4 - (intOf iv).toNat)
   case atStart => exact ⟨0, by omega, rfl, by simp, by simp [padD], hide (Grow.refl _)⟩
   case round =>
    obtain ⟨k, hk, rfl, rfl, rfl, HGI⟩ := hrel
    rename World => wi
    by_cases hk4 : k < 4
    ·
     obtain ⟨D, HD⟩ : ∃ D, Hid (r / 10 ^ k = D) := ⟨_, hide rfl⟩
     have HDn : Hid (r / 10 ^ (k + 1) = D / 10) := hide (by rw [← HD.out, Nat.pow_succ, Nat.div_div_eq_div_mul])
     have HPn : Hid ([UInt8.ofNat (48 + D % 10)] ++ (padD k r ++ S) = padD (k + 1) r ++ S) := hide (by rw [← HD.out, ← padD_next]; rfl)
     obtain ⟨c8, HC8⟩ : ∃ c8, Hid (UInt8.ofNat (48 + D % 10) = c8) := ⟨_, hide rfl⟩
     rw [HC8.out] at HPn
     have hDl : D < 10000 := by
      rw [← HD.out]
      exact Nat.lt_of_le_of_lt (Nat.div_le_self _ _) (by omega)
     have hPl : (padD k r ++ S).length = k + 4 * j := by rw [List.length_append, padD_len, hSl]
     rw [HD.out]
     obtain ⟨T, HT⟩ : ∃ T, Hid (padD k r ++ S = T) := ⟨_, hide rfl⟩
     rw [HT.out] at HPn hPl ⊢
     have hcv : (convert 89 9 (.slice (some ⟨wi.heap.size, 0, none⟩) 1 1)).run Tryz.prog (wi.alloc (.cells #[.int .u8 (48 + (D : Int) % 10)] 5)) = .ok (.string (bs [c8])) (wi.alloc (.cells #[.int .u8 (48 + (D : Int) % 10)] 5)) := by rw [← HC8.out]; exact one_text wi (48 + D % 10) (by omega)
     go_wp2
     go_roundw
     case rel => exact ⟨k + 1, by omega, by go_num, by rw [HDn.out]; rfl, by rw [← HPn.out]; rfl, hide (HGI.out.trans ((Grow.refl wi).alloc _))⟩
     case measure => simp [intOf]; omega
    ·
     obtain rfl : k = 4 := by omega
     have HTX : Hid (padD 4 r ++ S = padD (4 * (j + 1)) n) := hide (by
      rw [← HS.out, show 4 * (j + 1) = 4 * j + 4 by omega, Nat.add_comm (4 * j) 4, padD_add, HPOW.out, HM.out, ← padD_mod 4 m, show 10 ^ 4 = 10000 by decide, HRM.out])
     rw [HTX.out, show ((4 : Nat) : Int) = 4 from rfl]
     generalize ((r / 10 ^ 4 : Nat) : Int) = dd
     have HQ4 := hide ((HQ.out.keep HGI.out).more HGI.out.size)
     have HG4 := hide (HG2.out.trans HGI.out)
     by_cases hq0 : m / 10000 = 0
     ·
      have eL : (limbs (m / 10000)).length = 0 := by rw [hq0, limbs_zero]; rfl
      rw [eL]
      clear eL
      have hT0 : n < 10 ^ (4 * j + 3 + 1) := by
       have h1 : n / 10000 ^ j / 10000 = 0 := by rw [HM.out]; exact hq0
       rw [Nat.div_div_eq_div_mul, ← Nat.pow_succ] at h1
       have h2 : n < 10000 ^ (j + 1) := by
        rcases Nat.lt_or_ge n (10000 ^ (j + 1)) with h | h
        ·
         exact h
        ·
         exact absurd h1 (Nat.ne_of_gt (Nat.div_pos h (Nat.pow_pos (by decide))))
       rw [show 4 * j + 3 + 1 = 4 * (j + 1) by omega, Nat.pow_mul]
       exact h2
      have hST := strip_pad (4 * j + 3) n hT0
      rw [show 4 * j + 3 + 1 = 4 * (j + 1) by omega] at hST
      have hTL := padD_len (4 * (j + 1)) n
      obtain ⟨T, HT⟩ : ∃ T, Hid (padD (4 * (j + 1)) n = T) := ⟨_, hide rfl⟩
      rw [HT.out] at hST hTL ⊢
      have HST := hide hST
      clear hST hT0
      go_wp2
      go_loopw [8] (fun iv wx => ∃ k : Nat, k + 1 ≤ T.length ∧ iv = .int .i64 k ∧ Hid (stripZ (T.drop k) = Lib.decDigits n) ∧ wx = wi) (fun iv _ => T.length - (intOf iv).toNat)
      case atStart => exact ⟨0, by omega, rfl, hide (by rw [List.drop_zero]; exact HST.out), rfl⟩
      case round =>
       obtain ⟨k, hk, rfl, HK, rfl⟩ := hrel
       have HTK : Hid (List.take (4 * (j + 1) - k) (T.drop k) = T.drop k) := hide (List.take_of_length_le (by rw [List.length_drop]; omega))
       by_cases hl1 : k + 1 = T.length
       ·
        have hx : ¬ (k : Int) < (T.length : Int) - 1 := by omega
        have HE := hide (strip_last hl1)
        rw [HE.out] at HK
        clear hl1
        go_wp2
        go_ret
        exact ⟨HG4.out, by rw [← HK.out]; exact congrArg (fun x => Ending.returned (Value.string (bs x))) HTK.out⟩
       ·
        have hx : (k : Int) < (T.length : Int) - 1 := by omega
        have hkl : k < T.length := by omega
        by_cases hc : T[k] = 48
        ·
         have HD := hide (strip_drop (by omega) hc)
         have hcn : T[k].toNat = 48 := by rw [hc]; rfl
         clear hc hl1
         go_wp2
         go_roundw
         case rel => exact ⟨k + 1, by omega, by go_num, hide (by rw [← HD.out]; exact HK.out), trivial⟩
         case measure => simp [intOf]; omega
        ·
         have HD := hide (strip_stop (by omega) hc)
         have hcn : ¬ T[k].toNat = 48 := fun e => hc (UInt8.toNat_inj.1 e)
         rw [HD.out] at HK
         clear hc hl1
         go_wp2
         go_ret
         exact ⟨HG4.out, by rw [← HK.out]; exact congrArg (fun x => Ending.returned (Value.string (bs x))) HTK.out⟩
     ·
      have hql : 0 < (limbs (m / 10000)).length := by rw [limbs_pos (by omega)]; simp
      have hjJ : j + 1 < J := by
       rcases Nat.lt_or_ge (j + 1) J with h | h
       ·
        exact h
       ·
        exfalso
        have h1 : 10000 ^ J ≤ 10000 ^ (j + 1) := Nat.pow_le_pow_right (by decide) h
        have h2 : n / 10000 ^ (j + 1) = 0 := Nat.div_eq_of_lt (Nat.lt_of_lt_of_le HJ.out h1)
        rw [Nat.pow_succ, ← Nat.div_div_eq_div_mul, HM.out] at h2
        exact hq0 h2
      have HNX : Hid (n / 10000 ^ (j + 1) = m / 10000) := hide (by rw [Nat.pow_succ, ← Nat.div_div_eq_div_mul, HM.out])
      have hqne : ¬ (((limbs (m / 10000)).length : Int) = 0) := by omega
      go_wp2
      go_roundw
      case rel => exact ⟨j + 1, hjJ, rfl, hide (by rw [HNX.out]; exact HQ4.out), HG4⟩
      case measure => simp [strLen, padD_len, bs_size, hSl]; omega
end Go.Proofs.YtndpjdmfkhjiiaaGreatDoor.Rl
