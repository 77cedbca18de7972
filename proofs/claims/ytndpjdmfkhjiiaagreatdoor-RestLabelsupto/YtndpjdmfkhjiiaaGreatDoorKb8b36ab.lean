/- 1 texts in one. -/
import Derived.Laws.OwnMore
import Derived.Deep.AppendLies
import Derived.Lib.IndexLaws
import Derived.Test.YtndpjdmfkhjiiaaGreatDoorProg
import Derived.Test.YtndpjdmfkhjiiaaGreatDoorK97fdc06
import Derived.Test.YtndpjdmfkhjiiaaGreatDoorKbff346a
import Derived.Test.YtndpjdmfkhjiiaaGreatDoorK395e834
import Derived.Test.YtndpjdmfkhjiiaaGreatDoorKac5e9b6
import Derived.Test.YtndpjdmfkhjiiaaGreatDoorKbd7ef7d
import Derived.Test.YtndpjdmfkhjiiaaGreatDoorKa2d19b0
import Derived.BigQuiet
set_option linter.unusedVariables false
set_option linter.unusedSimpArgs false
namespace Go.Proofs.YtndpjdmfkhjiiaaGreatDoor
open Go.RowKit
attribute [local go_sem] bs_size bs_toList bs_append bs_get bs_extract
theorem Tryz.infoU8 : (Tryz.prog.info? 5).map (fun i => (i.zero, i.size, i.bytes)) = some (some (.int .u8 0), 1, 1) := by kernel_rfl
/-- Texts that can be read. -/
def readsStrs (w : World) (B : Nat) (v : Value) (gs : List (List UInt8)) : Prop :=
  ∃ ao cp, v = .slice ao gs.length cp ∧ ∀ i (h : i < gs.length), ∃ b o, ao = some ⟨b, o, none⟩ ∧ b < B ∧ w.cell? ⟨b, o + i, none⟩ = some (.string (bs gs[i]))
theorem readsStrs.keep {w w' : World} {B : Nat} {v : Value} {gs : List (List UInt8)} (h : readsStrs w B v gs) (g : Below B w w') : readsStrs w' B v gs := by
  obtain ⟨ao, cp, hv, h⟩ := h
  refine ⟨ao, cp, hv, fun i hi => ?_⟩
  obtain ⟨b, o, h1, h2, h3⟩ := h i hi
  exact ⟨b, o, h1, h2, (cell_keep (g.block b h2)).trans h3⟩
theorem readsStrs.more {w : World} {B B' : Nat} {v : Value} {gs : List (List UInt8)} (h : readsStrs w B v gs) (hB : B ≤ B') : readsStrs w B' v gs := by
  obtain ⟨ao, cp, hv, h⟩ := h
  refine ⟨ao, cp, hv, fun i hi => ?_⟩
  obtain ⟨b, o, h1, h2, h3⟩ := h i hi
  exact ⟨b, o, h1, by omega, h3⟩
theorem readsStrs_own {w : World} {B : Nat} {v : Value} {gs : List (List UInt8)} (h : ownStrs w B v gs) : readsStrs w w.heap.size v gs := by
  obtain ⟨ao, cp, hv⟩ := own_shape h
  subst hv
  refine ⟨ao, cp, rfl, fun i hi => ?_⟩
  rcases h.2 with ⟨_, h0⟩ | ⟨b, cap, cur, e1, _, e3, _⟩
  · omega
  · have hlt := lt_of_block e3
    have e1' := e1
    simp at e1'
    obtain ⟨rfl, rfl⟩ := e1'
    refine ⟨b, 0, rfl, hlt, ?_⟩
    have := own_cell h (i := i) (u := .string (bs gs[i])) (by simp [strsV, hi])
    simpa using this
/-- What a piece of a template stands for. -/
def pieceB (p whole : List UInt8) (gs : List (List UInt8)) : List UInt8 :=
  if (p.getD 0 0).toNat ≠ 36 then p
  else if (p.getD 1 0).toNat = 36 then [36]
  else if (p.getD (p.length / 2) 0).toNat = 48 then whole
  else gs.getD ((p.getD (p.length / 2) 0).toNat - 49) []
set_option maxRecDepth 20000 in
set_option maxHeartbeats 4000000 in
theorem pieceText_any (p whole : List UInt8) (gs : List (List UInt8)) (v : Value) (w : World) (h0 : 0 < p.length) (hl : p.length ≤ 9223372036854775807) (hgl : gs.length ≤ 9223372036854775807)
    (hp : (p.getD 0 0).toNat = 36 → 2 ≤ p.length ∧ ((p.getD 1 0).toNat = 36 ∨ isNu (p.getD (p.length / 2) 0) = true)) (hv : readsStrs w w.heap.size v gs) :
    Calls Tryz.prog 94 #[.string (bs p), .string (bs whole), v] w fun e w' => e = .returned (.string (bs (pieceB p whole gs))) ∧ w' = w := by
  obtain ⟨c0, hc0⟩ : ∃ c, p[0] = c := ⟨_, rfl⟩
  have g0 : p.getD 0 0 = c0 := by simp [List.getD, h0, hc0]
  obtain ⟨ao, cp, rfl, hcell⟩ := hv
  have HC := hide hcell
  clear hcell
  by_cases hd : (c0.toNat : Int) = 36
  · have hd' : ((c0.toNat : Int) != 36) = false := by simp [hd]
    obtain ⟨h2, hp⟩ := hp (by rw [g0]; omega)
    obtain ⟨c1, hc1⟩ : ∃ c, p[1] = c := ⟨_, rfl⟩
    have g1 : p.getD 1 0 = c1 := by simp [List.getD, show 1 < p.length from h2, hc1]
    have h1 : 1 < p.length := h2
    by_cases hd1 : (c1.toNat : Int) = 36
    · have HZ : Hid (pieceB p whole gs = [36]) := by
        show _ = _
        unfold pieceB
        rw [g0, g1, if_neg (by omega), if_pos (by omega)]
      have hd1' : ((c1.toNat : Int) == 36) = true := by simp [hd1]
      clear hd hd1 hp g0 g1
      go_enter Tryz.func94, Tryz.ntmps94
      go_wp2
      go_ret
      exact ⟨by rw [HZ.out]; rfl, rfl⟩
    · have hd1' : ((c1.toNat : Int) == 36) = false := by simpa using hd1
      have hhalf : p.length / 2 < p.length := by omega
      obtain ⟨c2, hc2⟩ : ∃ c, p[p.length / 2] = c := ⟨_, rfl⟩
      have g2 : p.getD (p.length / 2) 0 = c2 := by simp [List.getD, hhalf, hc2]
      have hn : isNu c2 = true := by
        rcases hp with h | h
        · rw [g1] at h; omega
        · rw [g2] at h; exact h
      have hn2 := isNu_true.1 hn
      obtain ⟨n, hn3⟩ : ∃ n : Nat, c2.toNat = 48 + n := ⟨c2.toNat - 48, by omega⟩
      have hn9 : n ≤ 9 := by omega
      have HZ : Hid (pieceB p whole gs = if n = 0 then whole else gs.getD (n - 1) []) := by
        show _ = _
        unfold pieceB
        rw [g0, g1, g2, if_neg (by omega), if_neg (by omega), hn3]
        by_cases hz : n = 0
        · subst hz; rfl
        · rw [if_neg (by omega), if_neg hz, show 48 + n - 49 = n - 1 by omega]
      have hsb : (48 : Int) + (n : Int) - 48 = (n : Int) := by omega
      clear hd hd1 hp g0 g1 g2 hn hn2
      by_cases hz : n = 0
      · subst hz
        have hZ := HZ.out
        rw [if_pos rfl] at hZ
        have HZ2 := hide hZ
        clear hZ HZ
        go_enter Tryz.func94, Tryz.ntmps94
        go_wp2
        go_ret
        exact ⟨by rw [HZ2.out]; rfl, rfl⟩
      · obtain ⟨k, rfl⟩ : ∃ k, n = k + 1 := ⟨n - 1, by omega⟩
        have hZ := HZ.out
        rw [if_neg hz, Nat.add_sub_cancel] at hZ
        have hne : (((k + 1 : Nat) : Int) == 0) = false := by simp; omega
        have hne2 : ((k : Int) + 1 == 0) = false := by simp; omega
        have hk1 : (k : Int) + 1 - 1 = (k : Int) := by omega
        by_cases hgt : gs.length < k + 1
        · have HZ2 : Hid (pieceB p whole gs = []) := by
            show _ = _
            rw [hZ]
            simp [List.getD, List.getElem?_eq_none_iff.2 (show gs.length ≤ k by omega)]
          have hgt2 : (gs.length : Int) < (k : Int) + 1 := by omega
          clear hZ HZ hz
          go_enter Tryz.func94, Tryz.ntmps94
          go_wp2
          go_ret
          exact ⟨by rw [HZ2.out]; rfl, rfl⟩
        · have hkl : k < gs.length := by omega
          obtain ⟨b, o, rfl, hb, hcell⟩ := HC.out k hkl
          have HZ2 : Hid (pieceB p whole gs = gs[k]) := by
            show _ = _
            rw [hZ]
            simp [List.getD, hkl]
          have hgt2 : ¬ (gs.length : Int) < (k : Int) + 1 := by omega
          have hkl2 : (k : Int) < (gs.length : Int) := by omega
          clear hZ HZ hz
          go_enter Tryz.func94, Tryz.ntmps94
          go_wp2
          go_ret
          exact ⟨by rw [HZ2.out]; rfl, rfl⟩
  · have hd' : ((c0.toNat : Int) != 36) = true := by simpa using hd
    have HZ : Hid (pieceB p whole gs = p) := by
      show _ = _
      unfold pieceB
      rw [g0, if_pos (by omega)]
    clear hd hp g0
    go_enter Tryz.func94, Tryz.ntmps94
    go_wp2
    go_ret
    exact ⟨by rw [HZ.out]; rfl, rfl⟩
/-- A template that is filled; `none`: it is none. -/
def exP (whole : List UInt8) (gs : List (List UInt8)) : Nat → List UInt8 → Option (List UInt8)
  | _, [] => some []
  | 0, _ => none
  | f + 1, t => if sizeT t = 0 then none else (exP whole gs f (t.drop (sizeT t))).map (pieceB (t.take (sizeT t)) whole gs ++ ·)
/-- What Expand answers: a text, and an error. -/
def exAns (t whole : List UInt8) (gs : List (List UInt8)) : List UInt8 × Nat := match exP whole gs t.length t with
  | none => ([], 1)
  | some s => if 20000 < s.length then ([], 2) else (s, 0)
theorem byteIx_lt {l : List UInt8} {c : UInt8} (h : 0 ≤ Lib.indexByte l c) : (Lib.indexByte l c).toNat < l.length := by
  obtain ⟨o, ho⟩ := Int.eq_ofNat_of_zero_le h
  have := (Lib.indexByte_some ho).1
  rw [ho]
  exact (List.getElem?_eq_some_iff.1 this).1
theorem sizeT_le {t : List UInt8} : sizeT t ≤ t.length := by
  unfold sizeT
  split
  · split
    · rename_i h
      have := byteIx_lt h
      omega
    · exact Nat.le_refl _
  · split
    · omega
    · split
      · omega
      · omega
/-- The first piece of a template is one. -/
theorem piece_is {t : List UInt8} (h : sizeT t ≠ 0) : ((t.take (sizeT t)).getD 0 0).toNat = 36 → 2 ≤ (t.take (sizeT t)).length ∧ (((t.take (sizeT t)).getD 1 0).toNat = 36 ∨ isNu ((t.take (sizeT t)).getD ((t.take (sizeT t)).length / 2) 0) = true) := by
  have hle := sizeT_le (t := t)
  have hget : ∀ k, k < sizeT t → (t.take (sizeT t)).getD k 0 = t.getD k 0 := fun k hk => by simp [List.getD, List.getElem?_take, hk]
  have hlen : (t.take (sizeT t)).length = sizeT t := by rw [List.length_take]; omega
  rw [hget 0 (by omega), hlen]
  intro h36
  by_cases h2 : 2 ≤ t.length ∧ ((t.getD 1 0).toNat = 36 ∨ isNu (t.getD 1 0) = true)
  · have hs : sizeT t = 2 := by unfold sizeT; rw [if_neg (by omega), if_pos h2]
    rw [hs] at hget ⊢
    rw [hget 1 (by omega)]
    exact ⟨by omega, h2.2⟩
  · by_cases h4 : 4 ≤ t.length ∧ (t.getD 1 0).toNat = 123 ∧ isNu (t.getD 2 0) = true ∧ (t.getD 3 0).toNat = 125
    · have hs : sizeT t = 4 := by unfold sizeT; rw [if_neg (by omega), if_neg h2, if_pos h4]
      rw [hs] at hget ⊢
      rw [hget 2 (by omega)]
      exact ⟨by omega, .inr h4.2.2.1⟩
    · exact absurd (by unfold sizeT; rw [if_neg (by omega), if_neg h2, if_neg h4]) h
theorem exP_step {whole : List UInt8} {gs : List (List UInt8)} {f : Nat} {t : List UInt8} (h : t ≠ []) : exP whole gs (f + 1) t = if sizeT t = 0 then none else (exP whole gs f (t.drop (sizeT t))).map (pieceB (t.take (sizeT t)) whole gs ++ ·) := by
  cases t with
  | nil => exact absurd rfl h
  | cons c t => rfl
set_option maxRecDepth 20000 in
set_option maxHeartbeats 4000000 in
theorem expand_any (t whole : List UInt8) (gs : List (List UInt8)) (v : Value) (w : World) (hl : t.length ≤ 9223372036854775807) (hwl : whole.length ≤ 9223372036854775807) (hgl : gs.length ≤ 9223372036854775807)
    (hgs : ∀ s ∈ gs, s.length ≤ 9223372036854775807) (hv : readsStrs w w.heap.size v gs) :
    Calls Tryz.prog 52 #[.string (bs t), .string (bs whole), v] w fun e w' => e = .returned (.tuple #[.string (bs (exAns t whole gs).1), .int .i64 (exAns t whole gs).2]) ∧ Grow w w' := by
  obtain ⟨i0, hi, hz0, hz1, hz2⟩ := info_parts Tryz.infoU8
  obtain ⟨ao, cp, hvv, _⟩ := id hv
  have HV := hide hv
  have HGS := hide hgs
  clear hv hgs
  subst hvv
  have HX : Hid (∀ s, exP whole gs t.length t = s → exAns t whole gs = match s with | none => ([], 1) | some s => if 20000 < s.length then ([], 2) else (s, 0)) := hide fun s h => by unfold exAns; rw [h]
  have htl : t.length ≤ t.length := Nat.le_refl _
  obtain ⟨N, HN⟩ : ∃ N, Hid (exP whole gs t.length t = N) := ⟨_, hide rfl⟩
  rw [HN.out] at HX
  go_enter Tryz.func52, Tryz.ntmps52
  go_wp2
  go_loopw [0, 8, 9] (fun tv mv bv wr => ∃ (r done q : List UInt8) (f : Nat) (big : Bool), tv = .string (bs r) ∧ bv = .bool big ∧ Hid (big = decide (20000 < done.length)) ∧ r.length ≤ f ∧ r.length ≤ t.length ∧ Hid (N = (exP whole gs f r).map (done ++ ·)) ∧ wr.ownsRow w.heap.size 5 1 mv q.length (bytesV q) ∧ Hid (done.length ≤ 20000 → q = done) ∧ q.length ≤ 20000 ∧ Hid (Grow w wr)) (fun tv _ _ _ => match tv with | .string s => s.size | _ => 0)
  case atStart =>
    refine ⟨t, [], [], t.length, false, rfl, rfl, hide rfl, Nat.le_refl _, Nat.le_refl _, ?_, World.ownsRow_nil _ _ _ _, hide fun _ => rfl, by simp, hide (Grow.refl _)⟩
    rw [HN.out]
    exact hide (by cases N <;> simp)
  case round =>
    obtain ⟨r, done, q, f, big, rfl, rfl, HBG, hrf, hrt, HE, hown, HQ, hq, HG⟩ := hrel
    obtain ⟨mo, mc, rfl⟩ := own_shape hown
    have HO := hide hown
    clear hown
    by_cases h0 : r.length = 0
    · have HN2 : Hid (N = some done) := by
        have h := HE.out
        obtain rfl : r = [] := List.eq_nil_of_length_eq_zero h0
        cases f <;> simpa [exP] using hide h
      have hr0 : (r.length : Int) = 0 := by omega
      cases big with
      | true =>
        have hb : 20000 < done.length := by have h := HBG.out; simpa using h.symm
        have HA : Hid (exAns t whole gs = ([], 2)) := by
          have h := HX.out _ HN2.out
          show _ = _
          rw [h]
          simp [hb]
        clear hb
        go_wp2
        go_ret2
        exact ⟨by rw [HA.out]; rfl, HG.out⟩
      | false =>
        have hb : ¬ 20000 < done.length := by have h := HBG.out; simpa using h.symm
        have hqd := HQ.out (by omega)
        have HA : Hid (exAns t whole gs = (q, 0)) := by
          have h := HX.out _ HN2.out
          show _ = _
          rw [h, hqd]
          simp [hb]
        have hcv := run_bytesStr (P := Tryz.prog) Tryz.underlying89 Tryz.underlying5 Tryz.underlying9 HO.out
        clear hb hqd
        go_wp2
        go_ret2
        exact ⟨by rw [HA.out]; rfl, HG.out⟩
    · have hr0 : (0 : Int) < (r.length : Int) := by omega
      have hne : r ≠ [] := fun e => h0 (by rw [e]; rfl)
      obtain ⟨f, rfl⟩ : ∃ k, f = k + 1 := ⟨f - 1, by omega⟩
      have HE2 : Hid (N = (if sizeT r = 0 then none else (exP whole gs f (r.drop (sizeT r))).map (pieceB (r.take (sizeT r)) whole gs ++ ·)).map (done ++ ·)) := by
        have h := HE.out
        rw [exP_step hne] at h
        exact hide h
      have hsl := sizeT_le (t := r)
      have HPI := hide (piece_is (t := r))
      have HPS : Hid (∀ w, Calls Tryz.prog 93 #[.string (bs r)] w fun e w' => e = .returned (.int .i64 (sizeT r)) ∧ w' = w) := hide fun w => pieceSize_any r w (by omega) (by unfold maxLen; omega)
      clear hne HE
      obtain ⟨z, hzz⟩ : ∃ z, sizeT r = z := ⟨_, rfl⟩
      rw [hzz] at hsl HPI HPS HE2
      clear hzz
      by_cases hz : z = 0
      · subst hz
        have HA : Hid (exAns t whole gs = ([], 1)) := by
          have h := HX.out none (by have h := HE2.out; simpa using h)
          exact hide h
        go_wp2_with (go_at_call 93; refine (HPS.out _).mono ?_; rintro e w' ⟨rfl, rfl⟩)
        go_ret2
        exact ⟨by rw [HA.out]; rfl, HG.out⟩
      · have hzn : ((z : Int) == 0) = false := by simp; omega
        obtain ⟨p, HPP⟩ : ∃ p, Hid (r.take z = p) := ⟨_, hide rfl⟩
        have hpl : p.length = z := by rw [← HPP.out, List.length_take]; omega
        obtain ⟨x, HXX⟩ : ∃ x, Hid (pieceB p whole gs = x) := ⟨_, hide rfl⟩
        have HE3 : Hid (N = (exP whole gs f (r.drop z)).map ((done ++ x) ++ ·)) := by
          have h := HE2.out
          rw [if_neg hz, HPP.out, HXX.out] at h
          rw [h]
          cases exP whole gs f (r.drop z) <;> simp [Hid]
        have hxl : x.length ≤ 9223372036854775807 := by
          rw [← HXX.out]
          unfold pieceB
          split
          · omega
          · split
            · simp
            · split
              · exact hwl
              · rw [List.getD]
                cases hc : gs[(p.getD (p.length / 2) 0).toNat - 49]? with
                | none => simp
                | some s => exact HGS.out s (List.mem_of_getElem? hc)
        have HPT : Hid (∀ W, Grow w W → Calls Tryz.prog 94 #[.string (bs p), .string (bs whole), .slice ao gs.length cp] W fun e w' => e = .returned (.string (bs x)) ∧ w' = W) := hide fun W hW => by
          rw [← HXX.out]
          refine pieceText_any p whole gs _ W (by omega) (by omega) hgl (fun h => ?_) ((HV.out.keep hW).more hW.size)
          have := HPI.out hz (by rw [HPP.out]; exact h)
          rw [HPP.out] at this
          exact this
        have hdl : (r.drop z).length = r.length - z := List.length_drop
        have HTK : Hid (List.take (r.length - z) (List.drop z r) = List.drop z r) := List.take_of_length_le (by omega)
        have hs1 := HG.out.size
        have hzle : (z : Int) ≤ (r.length : Int) := by omega
        clear HPI HE2
        cases big with
        | true =>
          have hb : 20000 < done.length := by have h := HBG.out; simpa using h.symm
          have HB2 : Hid (true = decide (20000 < (done ++ x).length)) := hide (by rw [List.length_append]; symm; simp; omega)
          have HQ2 : Hid ((done ++ x).length ≤ 20000 → q = done ++ x) := hide (by rw [List.length_append]; intro h; omega)
          clear hb
          go_wp2_with (first | (go_at_call 93; refine (HPS.out _).mono ?_; rintro e w' ⟨rfl, rfl⟩) | (go_at_call 94; go_loud (rw [HPP.out]); refine (HPT.out _ HG.out).mono ?_; rintro e w' ⟨rfl, rfl⟩))
          refine ⟨⟨r.drop z, done ++ x, q, f, true, ?_, rfl, HB2, by omega, by omega, HE3, HO.out, HQ2, hq, HG⟩, ?_⟩
          · rw [HTK.out]
          · show (bs _).size < (bs r).size
            rw [bs_size, bs_size, HTK.out]
            omega
        | false =>
          have hb : ¬ 20000 < done.length := by have h := HBG.out; simpa using h.symm
          have hqd := HQ.out (by omega)
          have hql : q.length = done.length := by rw [hqd]
          by_cases hbig : 20000 < done.length + x.length
          · have HB2 : Hid (true = decide (20000 < (done ++ x).length)) := hide (by rw [List.length_append]; symm; simp; omega)
            have HQ2 : Hid ((done ++ x).length ≤ 20000 → q = done ++ x) := hide (by rw [List.length_append]; intro h; omega)
            have hgt : (20000 : Int) - (q.length : Int) < (x.length : Int) := by omega
            clear hb hqd hbig hql
            go_wp2_with (first | (go_at_call 93; refine (HPS.out _).mono ?_; rintro e w' ⟨rfl, rfl⟩) | (go_at_call 94; go_loud (rw [HPP.out]); refine (HPT.out _ HG.out).mono ?_; rintro e w' ⟨rfl, rfl⟩))
            refine ⟨⟨r.drop z, done ++ x, q, f, true, ?_, rfl, HB2, by omega, by omega, HE3, HO.out, HQ2, hq, HG⟩, ?_⟩
            · rw [HTK.out]
            · show (bs _).size < (bs r).size
              rw [bs_size, bs_size, HTK.out]
              omega
          · have HB2 : Hid (false = decide (20000 < (done ++ x).length)) := hide (by rw [List.length_append]; symm; simp; omega)
            have HQ2 : Hid ((done ++ x).length ≤ 20000 → q ++ x = done ++ x) := hide (fun _ => by rw [hqd])
            have hgt : ¬ (20000 : Int) - (q.length : Int) < (x.length : Int) := by omega
            have hgt2 : decide ((20000 : Int) - (q.length : Int) < (x.length : Int)) = false := by simpa using hgt
            have hown := HO.out
            have hxl2 : x.length ≤ 20000 := by omega
            have hqx : q.length + x.length ≤ 20000 := by omega
            clear hb hqd hql hbig
            go_wp2_with (first | (go_at_call 93; refine (HPS.out _).mono ?_; rintro e w' ⟨rfl, rfl⟩) | (go_at_call 94; go_loud (rw [HPP.out]); refine (HPT.out _ HG.out).mono ?_; rintro e w' ⟨rfl, rfl⟩) | (at_builtin; go_loud (refine Lib.wpList_append_own_string _ rfl _ _ 89 9 rfl w.heap.size 5 i0 Tryz.underlying89 Tryz.underlying9 hi hz0 hz1 hz2 (.slice mo q.length mc) q.length (bytesV q) rfl hown (bs x) rfl (by rw [bs_size]; unfold maxLen; omega) (by rw [bs_size]; omega) (by omega) ?_); intro v' w1 hown' hgrow _))
            refine ⟨⟨r.drop z, done ++ x, q ++ x, f, false, ?_, rfl, HB2, by omega, by omega, HE3, ?_, HQ2, by rw [List.length_append]; omega, hide (Below.grown HG.out hgrow hs1 (fun j hj => (hown.lt j hj).1))⟩, ?_⟩
            · rw [HTK.out]
            · rw [bs_size, strCells_bs, ← bytesV_append] at hown'
              rw [List.length_append]
              exact hown'
            · show (bs _).size < (bs r).size
              rw [bs_size, bs_size, HTK.out]
              omega
end Go.Proofs.YtndpjdmfkhjiiaaGreatDoor
