/- 2 texts in one. -/
import Derived.Laws.OwnMore
import Derived.Deep.AppendLies
import Derived.Lib.IndexLaws
import Derived.Test.YtndpjdmfkhjiiaaGreatDoorProg
import Derived.Test.YtndpjdmfkhjiiaaGreatDoorK06d19db
import Derived.Test.YtndpjdmfkhjiiaaGreatDoorKf4a3d8c
import Derived.Test.YtndpjdmfkhjiiaaGreatDoorKd196569
import Derived.Test.YtndpjdmfkhjiiaaGreatDoorKab9fbe2
import Derived.Test.YtndpjdmfkhjiiaaGreatDoorKf9caae4
import Derived.Test.YtndpjdmfkhjiiaaGreatDoorKd9a114a
import Derived.Test.YtndpjdmfkhjiiaaGreatDoorKc0b2946
import Derived.BigQuiet
set_option linter.unusedVariables false
set_option linter.unusedSimpArgs false
namespace Go.Proofs.YtndpjdmfkhjiiaaGreatDoor
open Go.RowKit
attribute [local go_sem] bs_size bs_toList bs_append bs_get bs_extract
theorem Tryz.infoU8 : (Tryz.prog.info? 5).map (fun i => (i.zero, i.size, i.bytes)) = some (some (.int .u8 0), 1, 1) := by kernel_rfl
/-- Texts that can be read. -/
def readsStrs (w : World) (B : Nat) (v : Value) (gs : List (List UInt8)) : Prop :=
 ∃ ao cp, v = .slice ao gs.length cp ∧ ∀ i (h : i < gs.length), ∃ b o, ao = some ⟨b, o, none⟩ ∧ b < B ∧ w.cell? ⟨b, o + i, none⟩ = some (.string (bs gs[i]))
theorem readsStrs.keep {w w' : World} {B : Nat} {v : Value} {gs : List (List UInt8)} (h : readsStrs w B v gs) (g : Below B w w') : readsStrs w' B v gs := by
 obtain ⟨ao, cp, hv, h⟩ := h
 refine ⟨ao, cp, hv, fun i hi => ?_⟩
 obtain ⟨b, o, h1, h2, h3⟩ := h i hi
 exact ⟨b, o, h1, h2, (cell_keep (g.block b h2)).trans h3⟩
theorem readsStrs.more {w : World} {B B' : Nat} {v : Value} {gs : List (List UInt8)} (h : readsStrs w B v gs) (hB : B ≤ B') : readsStrs w B' v gs := by
 obtain ⟨ao, cp, hv, h⟩ := h
 refine ⟨ao, cp, hv, fun i hi => ?_⟩
 obtain ⟨b, o, h1, h2, h3⟩ := h i hi
 exact ⟨b, o, h1, by omega, h3⟩
theorem readsStrs_own {w : World} {B : Nat} {v : Value} {gs : List (List UInt8)} (h : ownStrs w B v gs) : readsStrs w w.heap.size v gs := by
 obtain ⟨ao, cp, hv⟩ := own_shape h
 subst hv
 refine ⟨ao, cp, rfl, fun i hi => ?_⟩
 rcases h.2 with ⟨_, h0⟩ | ⟨b, cap, cur, e1, _, e3, _⟩
 ·
  omega
 ·
  have hlt := lt_of_block e3
  have e1' := e1
  simp at e1'
  obtain ⟨rfl, rfl⟩ := e1'
  refine ⟨b, 0, rfl, hlt, ?_⟩
  have := own_cell h (i := i) (u := .string (bs gs[i])) (by simp [strsV, hi])
  simpa using this
/-- What a piece of a template stands for. -/
def pieceB (p whole : List UInt8) (gs : List (List UInt8)) : List UInt8 :=
 if (p.getD 0 0).toNat ≠ 36 then p
 else if (p.getD 1 0).toNat = 36 then [36]
 else if (p.getD (p.length / 2) 0).toNat = 48 then whole
 else gs.getD ((p.getD (p.length / 2) 0).toNat - 49) []
set_option maxRecDepth 20000 in
set_option maxHeartbeats 4000000 in
theorem pieceText_any (p whole : List UInt8) (gs : List (List UInt8)) (v : Value) (w : World) (h0 : 0 < p.length) (hl : p.length ≤ 9223372036854775807) (hgl : gs.length ≤ 9223372036854775807)
  (hp : (p.getD 0 0).toNat = 36 → 2 ≤ p.length ∧ ((p.getD 1 0).toNat = 36 ∨ isNu (p.getD (p.length / 2) 0) = true)) (hv : readsStrs w w.heap.size v gs) :
  Calls Tryz.prog 94 #[.string (bs p), .string (bs whole), v] w fun e w' => e = .returned (.string (bs (pieceB p whole gs))) ∧ w' = w := by
 obtain ⟨c0, hc0⟩ : ∃ c, p[0] = c := ⟨_, rfl⟩
 have g0 : p.getD 0 0 = c0 := by simp [List.getD, h0, hc0]
 obtain ⟨ao, cp, rfl, hcell⟩ := hv
 have HC := hide hcell
 clear hcell
 by_cases hd : (c0.toNat : Int) = 36
 ·
  have hd' : ((c0.toNat : Int) != 36) = false := by simp [hd]
  obtain ⟨h2, hp⟩ := hp (by rw [g0]; omega)
  obtain ⟨c1, hc1⟩ : ∃ c, p[1] = c := ⟨_, rfl⟩
  have g1 : p.getD 1 0 = c1 := by simp [List.getD, show 1 < p.length from h2, hc1]
  have h1 : 1 < p.length := h2
  by_cases hd1 : (c1.toNat : Int) = 36
  ·
   have HZ : Hid (pieceB p whole gs = [36]) := by
    show _ = _
    unfold pieceB
    rw [g0, g1, if_neg (by omega), if_pos (by omega)]
   have hd1' : ((c1.toNat : Int) == 36) = true := by simp [hd1]
   clear hd hd1 hp g0 g1
   go_enter Tryz.func94, Tryz.ntmps94
   go_wp2
   go_ret
   exact ⟨by rw [HZ.out]; rfl, rfl⟩
  ·
   have hd1' : ((c1.toNat : Int) == 36) = false := by simpa using hd1
   have hhalf : p.length / 2 < p.length := by omega
   obtain ⟨c2, hc2⟩ : ∃ c, p[p.length / 2] = c := ⟨_, rfl⟩
   have g2 : p.getD (p.length / 2) 0 = c2 := by simp [List.getD, hhalf, hc2]
   have hn : isNu c2 = true := by
    rcases hp with h | h
    ·
     rw [g1] at h; omega
    ·
     rw [g2] at h; exact h
   have hn2 := isNu_true.1 hn
   obtain ⟨n, hn3⟩ : ∃ n : Nat, c2.toNat = 48 + n := ⟨c2.toNat - 48, by omega⟩
   have hn9 : n ≤ 9 := by omega
   have HZ : Hid (pieceB p whole gs = if n = 0 then whole else gs.getD (n - 1) []) := by
    show _ = _
    unfold pieceB
    rw [g0, g1, g2, if_neg (by omega), if_neg (by omega), hn3]
    by_cases hz : n = 0
    ·
     subst hz; rfl
    ·
     rw [if_neg (by omega), if_neg hz, show 48 + n - 49 = n - 1 by omega]
   have hsb : (48 : Int) + (n : Int) - 48 = (n : Int) := by omega
   clear hd hd1 hp g0 g1 g2 hn hn2
   by_cases hz : n = 0
   ·
    subst hz
    have hZ := HZ.out
    rw [if_pos rfl] at hZ
    have HZ2 := hide hZ
    clear hZ HZ
    go_enter Tryz.func94, Tryz.ntmps94
    go_wp2
    go_ret
    exact ⟨by rw [HZ2.out]; rfl, rfl⟩
   ·
    obtain ⟨k, rfl⟩ : ∃ k, n = k + 1 := ⟨n - 1, by omega⟩
    have hZ := HZ.out
    rw [if_neg hz, Nat.add_sub_cancel] at hZ
    have hne : (((k + 1 : Nat) : Int) == 0) = false := by simp; omega
    have hne2 : ((k : Int) + 1 == 0) = false := by simp; omega
    have hk1 : (k : Int) + 1 - 1 = (k : Int) := by omega
    by_cases hgt : gs.length < k + 1
    ·
     have HZ2 : Hid (pieceB p whole gs = []) := by
      show _ = _
      rw [hZ]
      simp [List.getD, List.getElem?_eq_none_iff.2 (show gs.length ≤ k by omega)]
     have hgt2 : (gs.length : Int) < (k : Int) + 1 := by omega
     clear hZ HZ hz
     go_enter Tryz.func94, Tryz.ntmps94
     go_wp2
     go_ret
     exact ⟨by rw [HZ2.out]; rfl, rfl⟩
    ·
     have hkl : k < gs.length := by omega
     obtain ⟨b, o, rfl, hb, hcell⟩ := HC.out k hkl
     have HZ2 : Hid (pieceB p whole gs = gs[k]) := by
      show _ = _
      rw [hZ]
      simp [List.getD, hkl]
     have hgt2 : ¬ (gs.length : Int) < (k : Int) + 1 := by omega
     have hkl2 : (k : Int) < (gs.length : Int) := by omega
     clear hZ HZ hz
     go_enter Tryz.func94, Tryz.ntmps94
     go_wp2
     go_ret
     exact ⟨by rw [HZ2.out]; rfl, rfl⟩
 ·
  have hd' : ((c0.toNat : Int) != 36) = true := by simpa using hd
  have HZ : Hid (pieceB p whole gs = p) := by
   show _ = _
   unfold pieceB
   rw [g0, if_pos (by omega)]
  clear hd hp g0
  go_enter Tryz.func94, Tryz.ntmps94
  go_wp2
  go_ret
  exact ⟨by rw [HZ.out]; rfl, rfl⟩
/-- A template that is filled; `none`: it is none. -/
def exP (whole : List UInt8) (gs : List (List UInt8)) : Nat → List UInt8 → Option (List UInt8)
 | _, [] => some []
 | 0, _ => none
 | f + 1, t => if sizeT t = 0 then none else (exP whole gs f (t.drop (sizeT t))).map (pieceB (t.take (sizeT t)) whole gs ++ ·)
/-- What Expand answers: a text, and an error. -/
def exAns (t whole : List UInt8) (gs : List (List UInt8)) : List UInt8 × Nat := match exP whole gs t.length t with
 | none => ([], 1)
 | some s => if 20000 < s.length then ([], 2) else (s, 0)
theorem byteIx_lt {l : List UInt8} {c : UInt8} (h : 0 ≤ Lib.indexByte l c) : (Lib.indexByte l c).toNat < l.length := by
 obtain ⟨o, ho⟩ := Int.eq_ofNat_of_zero_le h
 have := (Lib.indexByte_some ho).1
 rw [ho]
 exact (List.getElem?_eq_some_iff.1 this).1
theorem sizeT_le {t : List UInt8} : sizeT t ≤ t.length := by
 unfold sizeT
 split
 ·
  split
  ·
   rename_i h
   have := byteIx_lt h
   omega
  ·
   exact Nat.le_refl _
 ·
  split
  ·
   omega
  ·
   split
   ·
    omega
   ·
    omega
/-- The first piece of a template is one. -/
theorem piece_is {t : List UInt8} (h : sizeT t ≠ 0) : ((t.take (sizeT t)).getD 0 0).toNat = 36 → 2 ≤ (t.take (sizeT t)).length ∧ (((t.take (sizeT t)).getD 1 0).toNat = 36 ∨ isNu ((t.take (sizeT t)).getD ((t.take (sizeT t)).length / 2) 0) = true) := by
 have hle := sizeT_le (t := t)
 have hget : ∀ k, k < sizeT t → (t.take (sizeT t)).getD k 0 = t.getD k 0 := fun k hk => by simp [List.getD, List.getElem?_take, hk]
 have hlen : (t.take (sizeT t)).length = sizeT t := by rw [List.length_take]; omega
 rw [hget 0 (by omega), hlen]
 intro h36
 by_cases h2 : 2 ≤ t.length ∧ ((t.getD 1 0).toNat = 36 ∨ isNu (t.getD 1 0) = true)
 ·
  have hs : sizeT t = 2 := by unfold sizeT; rw [if_neg (by omega), if_pos h2]
  rw [hs] at hget ⊢
  rw [hget 1 (by omega)]
  exact ⟨by omega, h2.2⟩
 ·
  by_cases h4 : 4 ≤ t.length ∧ (t.getD 1 0).toNat = 123 ∧ isNu (t.getD 2 0) = true ∧ (t.getD 3 0).toNat = 125
  ·
   have hs : sizeT t = 4 := by unfold sizeT; rw [if_neg (by omega), if_neg h2, if_pos h4]
   rw [hs] at hget ⊢
   rw [hget 2 (by omega)]
   exact ⟨by omega, .inr h4.2.2.1⟩
  ·
   exact absurd (by unfold sizeT; rw [if_neg (by omega), if_neg h2, if_neg h4]) h
theorem exP_step {whole : List UInt8} {gs : List (List UInt8)} {f : Nat} {t : List UInt8} (h : t ≠ []) : exP whole gs (f + 1) t = if sizeT t = 0 then none else (exP whole gs f (t.drop (sizeT t))).map (pieceB (t.take (sizeT t)) whole gs ++ ·) := by
 cases t with
 | nil => exact absurd rfl h
 | cons c t => rfl
set_option maxRecDepth 20000 in
set_option maxHeartbeats 4000000 in
theorem expand_any (t whole : List UInt8) (gs : List (List UInt8)) (v : Value) (w : World) (hl : t.length ≤ 9223372036854775807) (hwl : whole.length ≤ 9223372036854775807) (hgl : gs.length ≤ 9223372036854775807)
  (hgs : ∀ s ∈ gs, s.length ≤ 9223372036854775807) (hv : readsStrs w w.heap.size v gs) :
  Calls Tryz.prog 52 #[.string (bs t), .string (bs whole), v] w fun e w' => e = .returned (.tuple #[.string (bs (exAns t whole gs).1), .int .i64 (exAns t whole gs).2]) ∧ Grow w w' := by
 obtain ⟨i0, hi, hz0, hz1, hz2⟩ := info_parts Tryz.infoU8
 obtain ⟨ao, cp, hvv, _⟩ := id hv
 have HV := hide hv
 have HGS := hide hgs
 clear hv hgs
 subst hvv
 have HX : Hid (∀ s, exP whole gs t.length t = s → exAns t whole gs = match s with | none => ([], 1) | some s => if 20000 < s.length then ([], 2) else (s, 0)) := hide fun s h => by unfold exAns; rw [h]
 have htl : t.length ≤ t.length := Nat.le_refl _
 obtain ⟨N, HN⟩ : ∃ N, Hid (exP whole gs t.length t = N) := ⟨_, hide rfl⟩
 rw [HN.out] at HX
 go_enter Tryz.func52, Tryz.ntmps52
 go_wp2
 go_loopw [0, 8, 9] (fun tv mv bv wr => ∃ (r done q : List UInt8) (f : Nat) (big : Bool), tv = .string (bs r) ∧ bv = .bool big ∧ Hid (big = decide (20000 < done.length)) ∧ r.length ≤ f ∧ r.length ≤ t.length ∧ Hid (N = (exP whole gs f r).map (done ++ ·)) ∧ wr.ownsRow w.heap.size 5 1 mv q.length (bytesV q) ∧ Hid (done.length ≤ 20000 → q = done) ∧ q.length ≤ 20000 ∧ Hid (Grow w wr)) (fun tv _ _ _ => match tv with | .string s => s.size | _ => 0)
 case atStart =>
  refine ⟨t, [], [], t.length, false, rfl, rfl, hide rfl, Nat.le_refl _, Nat.le_refl _, ?_, World.ownsRow_nil _ _ _ _, hide fun _ => rfl, by simp, hide (Grow.refl _)⟩
  rw [HN.out]
  exact hide (by cases N <;> simp)
 case round =>
  obtain ⟨r, done, q, f, big, rfl, rfl, HBG, hrf, hrt, HE, hown, HQ, hq, HG⟩ := hrel
  obtain ⟨mo, mc, rfl⟩ := own_shape hown
  have HO := hide hown
  clear hown
  by_cases h0 : r.length = 0
  ·
   have HN2 : Hid (N = some done) := by
    have h := HE.out
    obtain rfl : r = [] := List.eq_nil_of_length_eq_zero h0
    cases f <;> simpa [exP] using hide h
   have hr0 : (r.length : Int) = 0 := by omega
   cases big with
   | true =>
    have hb : 20000 < done.length := by have h := HBG.out; simpa using h.symm
    have HA : Hid (exAns t whole gs = ([], 2)) := by
     have h := HX.out _ HN2.out
     show _ = _
     rw [h]
     simp [hb]
    clear hb
    go_wp2
    go_ret2
    exact ⟨by rw [HA.out]; rfl, HG.out⟩
   | false =>
    have hb : ¬ 20000 < done.length := by have h := HBG.out; simpa using h.symm
    have hqd := HQ.out (by omega)
    have HA : Hid (exAns t whole gs = (q, 0)) := by
     have h := HX.out _ HN2.out
     show _ = _
     rw [h, hqd]
     simp [hb]
    have hcv := run_bytesStr (P := Tryz.prog) Tryz.underlying89 Tryz.underlying5 Tryz.underlying9 HO.out
    clear hb hqd
    go_wp2
    go_ret2
    exact ⟨by rw [HA.out]; rfl, HG.out⟩
  ·
   have hr0 : (0 : Int) < (r.length : Int) := by omega
   have hne : r ≠ [] := fun e => h0 (by rw [e]; rfl)
   obtain ⟨f, rfl⟩ : ∃ k, f = k + 1 := ⟨f - 1, by omega⟩
   have HE2 : Hid (N = (if sizeT r = 0 then none else (exP whole gs f (r.drop (sizeT r))).map (pieceB (r.take (sizeT r)) whole gs ++ ·)).map (done ++ ·)) := by
    have h := HE.out
    rw [exP_step hne] at h
    exact hide h
   have hsl := sizeT_le (t := r)
   have HPI := hide (piece_is (t := r))
   have HPS : Hid (∀ w, Calls Tryz.prog 93 #[.string (bs r)] w fun e w' => e = .returned (.int .i64 (sizeT r)) ∧ w' = w) := hide fun w => pieceSize_any r w (by omega) (by unfold maxLen; omega)
   clear hne HE
   obtain ⟨z, hzz⟩ : ∃ z, sizeT r = z := ⟨_, rfl⟩
   rw [hzz] at hsl HPI HPS HE2
   clear hzz
   by_cases hz : z = 0
   ·
    subst hz
    have HA : Hid (exAns t whole gs = ([], 1)) := by
     have h := HX.out none (by have h := HE2.out; simpa using h)
     exact hide h
    go_wp2_with (go_at_call 93; refine (HPS.out _).mono ?_; rintro e w' ⟨rfl, rfl⟩)
    go_ret2
    exact ⟨by rw [HA.out]; rfl, HG.out⟩
   ·
    have hzn : ((z : Int) == 0) = false := by simp; omega
    obtain ⟨p, HPP⟩ : ∃ p, Hid (r.take z = p) := ⟨_, hide rfl⟩
    have hpl : p.length = z := by rw [← HPP.out, List.length_take]; omega
    obtain ⟨x, HXX⟩ : ∃ x, Hid (pieceB p whole gs = x) := ⟨_, hide rfl⟩
    have HE3 : Hid (N = (exP whole gs f (r.drop z)).map ((done ++ x) ++ ·)) := by
     have h := HE2.out
     rw [if_neg hz, HPP.out, HXX.out] at h
     rw [h]
     cases exP whole gs f (r.drop z) <;> simp [Hid]
    have hxl : x.length ≤ 9223372036854775807 := by
     rw [← HXX.out]
     unfold pieceB
     split
     ·
      omega
     ·
      split
      ·
       simp
      ·
       split
       ·
        exact hwl
       ·
        rw [List.getD]
        cases hc : gs[(p.getD (p.length / 2) 0).toNat - 49]? with
        | none => simp
        | some s => exact HGS.out s (List.mem_of_getElem? hc)
    have HPT : Hid (∀ W, Grow w W → Calls Tryz.prog 94 #[.string (bs p), .string (bs whole), .slice ao gs.length cp] W fun e w' => e = .returned (.string (bs x)) ∧ w' = W) := hide fun W hW => by
     rw [← HXX.out]
     refine pieceText_any p whole gs _ W (by omega) (by omega) hgl (fun h => ?_) ((HV.out.keep hW).more hW.size)
     have := HPI.out hz (by rw [HPP.out]; exact h)
     rw [HPP.out] at this
     exact this
    have hdl : (r.drop z).length = r.length - z := List.length_drop
    have HTK : Hid (List.take (r.length - z) (List.drop z r) = List.drop z r) := List.take_of_length_le (by omega)
    have hs1 := HG.out.size
    have hzle : (z : Int) ≤ (r.length : Int) := by omega
    clear HPI HE2
    cases big with
    | true =>
     have hb : 20000 < done.length := by have h := HBG.out; simpa using h.symm
     have HB2 : Hid (true = decide (20000 < (done ++ x).length)) := hide (by rw [List.length_append]; symm; simp; omega)
     have HQ2 : Hid ((done ++ x).length ≤ 20000 → q = done ++ x) := hide (by rw [List.length_append]; intro h; omega)
     clear hb
     go_wp2_with (first | (go_at_call 93; refine (HPS.out _).mono ?_; rintro e w' ⟨rfl, rfl⟩) | (go_at_call 94; go_loud (rw [HPP.out]); refine (HPT.out _ HG.out).mono ?_; rintro e w' ⟨rfl, rfl⟩))
     refine ⟨⟨r.drop z, done ++ x, q, f, true, ?_, rfl, HB2, by omega, by omega, HE3, HO.out, HQ2, hq, HG⟩, ?_⟩
     ·
      rw [HTK.out]
     ·
      show (bs _).size < (bs r).size
      rw [bs_size, bs_size, HTK.out]
      omega
    | false =>
     have hb : ¬ 20000 < done.length := by have h := HBG.out; simpa using h.symm
     have hqd := HQ.out (by omega)
     have hql : q.length = done.length := by rw [hqd]
     by_cases hbig : 20000 < done.length + x.length
     ·
      have HB2 : Hid (true = decide (20000 < (done ++ x).length)) := hide (by rw [List.length_append]; symm; simp; omega)
      have HQ2 : Hid ((done ++ x).length ≤ 20000 → q = done ++ x) := hide (by rw [List.length_append]; intro h; omega)
      have hgt : (20000 : Int) - (q.length : Int) < (x.length : Int) := by omega
      clear hb hqd hbig hql
      go_wp2_with (first | (go_at_call 93; refine (HPS.out _).mono ?_; rintro e w' ⟨rfl, rfl⟩) | (go_at_call 94; go_loud (rw [HPP.out]); refine (HPT.out _ HG.out).mono ?_; rintro e w' ⟨rfl, rfl⟩))
      refine ⟨⟨r.drop z, done ++ x, q, f, true, ?_, rfl, HB2, by omega, by omega, HE3, HO.out, HQ2, hq, HG⟩, ?_⟩
      ·
       rw [HTK.out]
      ·
       show (bs _).size < (bs r).size
       rw [bs_size, bs_size, HTK.out]
       omega
     ·
      have HB2 : Hid (false = decide (20000 < (done ++ x).length)) := hide (by rw [List.length_append]; symm; simp; omega)
      have HQ2 : Hid ((done ++ x).length ≤ 20000 → q ++ x = done ++ x) := hide (fun _ => by rw [hqd])
      have hgt : ¬ (20000 : Int) - (q.length : Int) < (x.length : Int) := by omega
      have hgt2 : decide ((20000 : Int) - (q.length : Int) < (x.length : Int)) = false := by simpa using hgt
      have hown := HO.out
      have hxl2 : x.length ≤ 20000 := by omega
      have hqx : q.length + x.length ≤ 20000 := by omega
      clear hb hqd hql hbig
      go_wp2_with (first | (go_at_call 93; refine (HPS.out _).mono ?_; rintro e w' ⟨rfl, rfl⟩) | (go_at_call 94; go_loud (rw [HPP.out]); refine (HPT.out _ HG.out).mono ?_; rintro e w' ⟨rfl, rfl⟩) | (at_builtin; go_loud (refine Lib.wpList_append_own_string _ rfl _ _ 89 9 rfl w.heap.size 5 i0 Tryz.underlying89 Tryz.underlying9 hi hz0 hz1 hz2 (.slice mo q.length mc) q.length (bytesV q) rfl hown (bs x) rfl (by rw [bs_size]; unfold maxLen; omega) (by rw [bs_size]; omega) (by omega) ?_); intro v' w1 hown' hgrow _))
      refine ⟨⟨r.drop z, done ++ x, q ++ x, f, false, ?_, rfl, HB2, by omega, by omega, HE3, ?_, HQ2, by rw [List.length_append]; omega, hide (Below.grown HG.out hgrow hs1 (fun j hj => (hown.lt j hj).1))⟩, ?_⟩
      ·
       rw [HTK.out]
      ·
       rw [bs_size, strCells_bs, ← bytesV_append] at hown'
       rw [List.length_append]
       exact hown'
      ·
       show (bs _).size < (bs r).size
       rw [bs_size, bs_size, HTK.out]
       omega
end Go.Proofs.YtndpjdmfkhjiiaaGreatDoor
namespace Go.Proofs.YtndpjdmfkhjiiaaGreatDoor
/-- Texts, and groups (-1: a text). -/
def tmR : Nat → List UInt8 → Option (List (List UInt8 × Int))
 | _, [] => some []
 | 0, _ :: _ => none
 | f + 1, c :: t =>
  if c.toNat ≠ 36 then (tmR f t).map (([c], -1) :: ·)
  else if (t.getD 0 0).toNat = 36 then (tmR f (t.drop 1)).map (([36], -1) :: ·)
  else if isNu (t.getD 0 0) = true then (tmR f (t.drop 1)).map (([], ((t.getD 0 0).toNat : Int) - 48) :: ·)
  else if (t.getD 0 0).toNat = 123 ∧ isNu (t.getD 1 0) = true ∧ (t.getD 2 0).toNat = 125 then (tmR f (t.drop 3)).map (([], ((t.getD 1 0).toNat : Int) - 48) :: ·)
  else none
theorem tmR_nil (f : Nat) : tmR f [] = some [] := by cases f <;> rfl
theorem tmR_fuel : ∀ (n f f' : Nat) (t : List UInt8), t.length ≤ n → t.length ≤ f → t.length ≤ f' → tmR f t = tmR f' t := by
 intro n
 induction n with
 | zero =>
  intro f f' t hn _ _
  obtain rfl : t = [] := List.eq_nil_of_length_eq_zero (by omega)
  rw [tmR_nil, tmR_nil]
 | succ n ih =>
  intro f f' t hn h1 h2
  cases t with
  | nil => rw [tmR_nil, tmR_nil]
  | cons c t =>
   simp at hn h1 h2
   obtain ⟨f, rfl⟩ : ∃ k, f = k + 1 := ⟨f - 1, by omega⟩
   obtain ⟨f', rfl⟩ : ∃ k, f' = k + 1 := ⟨f' - 1, by omega⟩
   rw [tmR, tmR, ih f f' t (by omega) (by omega) (by omega), ih f f' (t.drop 1) (by simp; omega) (by simp; omega) (by simp; omega), ih f f' (t.drop 3) (by simp; omega) (by simp; omega) (by simp; omega)]
/-- What a text or a group stands for. -/
def valT (whole : List UInt8) (gs : List (List UInt8)) (x : List UInt8 × Int) : List UInt8 :=
 if x.2 = 0 then whole else if 0 < x.2 ∧ x.2 ≤ gs.length then gs.getD (x.2.toNat - 1) [] else x.1
def valsT (whole : List UInt8) (gs : List (List UInt8)) (l : List (List UInt8 × Int)) : List UInt8 := (l.map (valT whole gs)).flatten
theorem valsT_cons (whole : List UInt8) (gs : List (List UInt8)) (x : List UInt8 × Int) (l : List (List UInt8 × Int)) : valsT whole gs (x :: l) = valT whole gs x ++ valsT whole gs l := rfl
theorem valT_text (whole : List UInt8) (gs : List (List UInt8)) (s : List UInt8) : valT whole gs (s, -1) = s := by simp [valT]
theorem valT_group (whole : List UInt8) (gs : List (List UInt8)) (c : UInt8) (h : isNu c = true) : valT whole gs ([], (c.toNat : Int) - 48) = if c.toNat = 48 then whole else gs.getD (c.toNat - 49) [] := by
 have hc : 48 ≤ c.toNat ∧ c.toNat ≤ 57 := by simpa [isNu] using h
 unfold valT
 simp only
 by_cases h0 : c.toNat = 48
 ·
  rw [if_pos (by omega), if_pos h0]
 ·
  rw [if_neg (by omega), if_neg h0]
  have he : ((c.toNat : Int) - 48).toNat - 1 = c.toNat - 49 := by omega
  rw [he]
  by_cases hl : c.toNat - 49 < gs.length
  ·
   rw [if_pos (by omega)]
  ·
   rw [if_neg (by omega), List.getD_eq_getElem?_getD, List.getElem?_eq_none_iff.2 (by omega)]
   rfl
theorem tm_pre (whole : List UInt8) (gs : List (List UInt8)) : ∀ (a r : List UInt8) (f : Nat), (∀ c ∈ a, c.toNat ≠ 36) → (a ++ r).length ≤ f →
  (tmR f (a ++ r)).map (valsT whole gs) = ((tmR f r).map (valsT whole gs)).map (a ++ ·)
 | [], r, f, _, _ => by rw [List.nil_append]; cases tmR f r <;> simp
 | c :: a, r, f, h, hf => by
  simp at hf
  obtain ⟨f, rfl⟩ : ∃ k, f = k + 1 := ⟨f - 1, by omega⟩
  have ih := tm_pre whole gs a r f (fun x hx => h x (by simp [hx])) (by simp; omega)
  show (tmR (f + 1) (c :: (a ++ r))).map _ = _
  rw [tmR, if_pos (h c (by simp)), tmR_fuel r.length (f + 1) f r (Nat.le_refl _) (by omega) (by omega)]
  cases hx : tmR f (a ++ r) with
  | none =>
   rw [hx] at ih
   cases hy : tmR f r with
   | none => rfl
   | some y => rw [hy] at ih; cases ih
  | some x =>
   rw [hx] at ih
   cases hy : tmR f r with
   | none => rw [hy] at ih; cases ih
   | some y =>
    rw [hy] at ih
    simp only [Option.map_some, Option.some.injEq] at ih ⊢
    rw [valsT_cons, valT_text, ih]
    simp
theorem getD_lt {t : List UInt8} {k : Nat} (h : 0 < (t.getD k 0).toNat) : k < t.length := by
 by_cases c : k < t.length
 ·
  exact c
 ·
  rw [List.getD_eq_getElem?_getD, List.getElem?_eq_none_iff.2 (by omega)] at h
  simp at h
theorem isNu_lt {t : List UInt8} {k : Nat} (h : isNu (t.getD k 0) = true) : k < t.length := by
 have : 48 ≤ (t.getD k 0).toNat ∧ (t.getD k 0).toNat ≤ 57 := by simpa [isNu] using h
 exact getD_lt (by omega)
/-- THE SAME STANDS FOR A TEMPLATE, byte by byte and piece by piece. -/
theorem tm_ex (whole : List UInt8) (gs : List (List UInt8)) : ∀ (n : Nat) (t : List UInt8) (f : Nat), t.length ≤ n → t.length ≤ f → (tmR f t).map (valsT whole gs) = exP whole gs f t := by
 intro n
 induction n with
 | zero =>
  intro t f hn _
  obtain rfl : t = [] := List.eq_nil_of_length_eq_zero (by omega)
  cases f <;> rfl
 | succ n ih =>
  intro t f hn hf
  cases t with
  | nil => cases f <;> rfl
  | cons c t =>
   have hn' : t.length ≤ n := by simpa using hn
   simp at hf
   obtain ⟨f, rfl⟩ : ∃ k, f = k + 1 := ⟨f - 1, by omega⟩
   rw [exP_step (by simp)]
   by_cases h36 : c.toNat = 36
   ·
    have g0 : (c :: t).getD 0 0 = c := rfl
    have g1 : (c :: t).getD 1 0 = t.getD 0 0 := by simp
    have g2 : (c :: t).getD 2 0 = t.getD 1 0 := by simp
    have g3 : (c :: t).getD 3 0 = t.getD 2 0 := by simp
    rw [tmR, if_neg (by omega)]
    by_cases hd : (t.getD 0 0).toNat = 36
    ·
     have hl : 0 < t.length := getD_lt (by omega)
     have hs : sizeT (c :: t) = 2 := by
      unfold sizeT
      rw [g0, g1, if_neg (by omega), if_pos ⟨by simp; omega, .inl hd⟩]
     have hp : pieceB ((c :: t).take 2) whole gs = [36] := by
      unfold pieceB
      have e0 : ((c :: t).take 2).getD 0 0 = c := rfl
      have e1 : ((c :: t).take 2).getD 1 0 = t.getD 0 0 := by cases t <;> rfl
      rw [e0, e1, if_neg (by omega), if_pos hd]
     rw [if_pos hd, hs, if_neg (by decide), hp, show (c :: t).drop 2 = t.drop 1 from rfl, ← ih (t.drop 1) f (by simp; omega) (by simp; omega)]
     cases tmR f (t.drop 1) with
     | none => rfl
     | some y => simp [valsT_cons, valT_text]
    ·
     rw [if_neg hd]
     by_cases hnu : isNu (t.getD 0 0) = true
     ·
      have hl : 0 < t.length := isNu_lt hnu
      have hs : sizeT (c :: t) = 2 := by
       unfold sizeT
       rw [g0, g1, if_neg (by omega), if_pos ⟨by simp; omega, .inr hnu⟩]
      have hp : pieceB ((c :: t).take 2) whole gs = valT whole gs ([], ((t.getD 0 0).toNat : Int) - 48) := by
       unfold pieceB
       have e0 : ((c :: t).take 2).getD 0 0 = c := rfl
       have e1 : ((c :: t).take 2).getD 1 0 = t.getD 0 0 := by cases t <;> rfl
       have e2 : ((c :: t).take 2).length / 2 = 1 := by rw [List.length_take]; simp; omega
       rw [e2, e0, e1, if_neg (by omega), if_neg hd, valT_group _ _ _ hnu]
      rw [if_pos hnu, hs, if_neg (by decide), hp, show (c :: t).drop 2 = t.drop 1 from rfl, ← ih (t.drop 1) f (by simp; omega) (by simp; omega)]
      cases tmR f (t.drop 1) with
      | none => rfl
      | some y => simp [valsT_cons]
     ·
      rw [if_neg hnu]
      by_cases hb : (t.getD 0 0).toNat = 123 ∧ isNu (t.getD 1 0) = true ∧ (t.getD 2 0).toNat = 125
      ·
       have hl : 2 < t.length := getD_lt (by omega)
       have hs : sizeT (c :: t) = 4 := by
        unfold sizeT
        rw [g0, g1, g2, g3, if_neg (by omega), if_neg (by rintro ⟨_, h | h⟩; exact hd h; exact hnu h), if_pos ⟨by simp; omega, hb⟩]
       have hp : pieceB ((c :: t).take 4) whole gs = valT whole gs ([], ((t.getD 1 0).toNat : Int) - 48) := by
        unfold pieceB
        have e0 : ((c :: t).take 4).getD 0 0 = c := rfl
        have e1 : ((c :: t).take 4).getD 1 0 = t.getD 0 0 := by cases t <;> rfl
        have e3 : ((c :: t).take 4).getD 2 0 = t.getD 1 0 := by
         match t, hl with
         | a :: b :: l, _ => rfl
        have e2 : ((c :: t).take 4).length / 2 = 2 := by rw [List.length_take]; simp; omega
        rw [e2, e0, e1, e3, if_neg (by omega), if_neg hd, valT_group _ _ _ hb.2.1]
       rw [if_pos hb, hs, if_neg (by decide), hp, show (c :: t).drop 4 = t.drop 3 from rfl, ← ih (t.drop 3) f (by simp; omega) (by simp; omega)]
       cases tmR f (t.drop 3) with
       | none => rfl
       | some y => simp [valsT_cons]
      ·
       have hs : sizeT (c :: t) = 0 := by
        unfold sizeT
        rw [g0, g1, g2, g3, if_neg (by omega), if_neg (by rintro ⟨_, h | h⟩; exact hd h; exact hnu h), if_neg (by rintro ⟨_, h⟩; exact hb h)]
       rw [if_neg hb, hs, if_pos rfl]
       rfl
   ·
    have hfirst : ∃ k, sizeT (c :: t) = k ∧ 0 < k ∧ k ≤ (c :: t).length ∧ ∀ x ∈ (c :: t).take k, x.toNat ≠ 36 := by
     have g0 : (c :: t).getD 0 0 = c := rfl
     by_cases hi : 0 ≤ Lib.indexByte (c :: t) 36
     ·
      obtain ⟨o, ho⟩ := Int.eq_ofNat_of_zero_le hi
      obtain ⟨h1, h2⟩ := Lib.indexByte_some ho
      refine ⟨o, by unfold sizeT; rw [g0, if_pos h36, if_pos hi, ho]; rfl, ?_, ?_, ?_⟩
      ·
       rcases Nat.eq_zero_or_pos o with rfl | h
       ·
        simp at h1
        rw [h1] at h36
        exact absurd rfl h36
       ·
        exact h
      ·
       have := (List.getElem?_eq_some_iff.1 h1).1
       omega
      ·
       intro x hx h
       obtain ⟨j, hj, rfl⟩ := List.getElem_of_mem hx
       have hj' : j < o := by rw [List.length_take] at hj; omega
       have hxx : (c :: t)[j]? = some 36 := by
        rw [List.getElem_take] at h
        rw [List.getElem?_eq_getElem (by rw [List.length_take] at hj; omega)]
        congr 1
        exact UInt8.toNat_inj.1 h
       exact h2 j hj' hxx
     ·
      refine ⟨(c :: t).length, by unfold sizeT; rw [g0, if_pos h36, if_neg hi], by simp, Nat.le_refl _, ?_⟩
      intro x hx h
      rw [List.take_length] at hx
      have hx36 : x = 36 := UInt8.toNat_inj.1 h
      subst hx36
      have hge := Lib.indexByte_ge (c :: t) 36
      obtain ⟨j, hj, hjx⟩ := List.getElem_of_mem hx
      exact Lib.indexByte_none (l := c :: t) (c := 36) (by omega) j (by rw [List.getElem?_eq_getElem hj, hjx])
    obtain ⟨k, hk, hk0, hkl, hno⟩ := hfirst
    rw [hk, if_neg (by omega)]
    have hp : pieceB ((c :: t).take k) whole gs = (c :: t).take k := by
     unfold pieceB
     have e0 : ((c :: t).take k).getD 0 0 = c := by
      obtain ⟨k, rfl⟩ : ∃ j, k = j + 1 := ⟨k - 1, by omega⟩
      rfl
     rw [e0, if_pos h36]
    have hsp := tm_pre whole gs ((c :: t).take k) ((c :: t).drop k) (f + 1) hno (by rw [List.take_append_drop]; simpa using hf)
    rw [List.take_append_drop] at hsp
    rw [hsp, hp, ← ih ((c :: t).drop k) f (by simp at hkl ⊢; omega) (by simp at hkl ⊢; omega), tmR_fuel ((c :: t).drop k).length (f + 1) f _ (Nat.le_refl _) (by simp; omega) (by simp at hkl ⊢; omega)]
/-- From a byte on. -/
def tmAt (t : List UInt8) (i : Nat) : Option (List (List UInt8 × Int)) := tmR t.length (t.drop i)
theorem tmAt_end {t : List UInt8} {i : Nat} (h : t.length ≤ i) : tmAt t i = some [] := by
 unfold tmAt
 rw [List.drop_eq_nil_of_le h, tmR_nil]
theorem tmAt_step {t : List UInt8} {i : Nat} {c : UInt8} (hc : t[i]? = some c) : tmAt t i =
  if c.toNat ≠ 36 then (tmAt t (i + 1)).map (([c], -1) :: ·)
  else if (t.getD (i + 1) 0).toNat = 36 then (tmAt t (i + 2)).map (([36], -1) :: ·)
  else if isNu (t.getD (i + 1) 0) = true then (tmAt t (i + 2)).map (([], ((t.getD (i + 1) 0).toNat : Int) - 48) :: ·)
  else if (t.getD (i + 1) 0).toNat = 123 ∧ isNu (t.getD (i + 2) 0) = true ∧ (t.getD (i + 3) 0).toNat = 125 then (tmAt t (i + 4)).map (([], ((t.getD (i + 2) 0).toNat : Int) - 48) :: ·)
  else none := by
 obtain ⟨hi, hc⟩ := List.getElem?_eq_some_iff.1 hc
 have hd : t.drop i = c :: t.drop (i + 1) := by rw [List.drop_eq_getElem_cons hi, hc]
 have hg : ∀ k, (t.drop (i + 1)).getD k 0 = t.getD (i + 1 + k) 0 := fun k => by rw [List.getD_eq_getElem?_getD, List.getD_eq_getElem?_getD, List.getElem?_drop]
 have hq : ∀ k, tmR (t.length - 1) (t.drop (i + 1 + k)) = tmAt t (i + 1 + k) := fun k => tmR_fuel _ _ _ _ (Nat.le_refl _) (by rw [List.length_drop]; omega) (by rw [List.length_drop]; omega)
 obtain ⟨f, hf⟩ : ∃ f, t.length = f + 1 := ⟨t.length - 1, by omega⟩
 have hf' : t.length - 1 = f := by omega
 rw [hf'] at hq
 rw [tmAt, hd, hf, tmR, hg, hg, hg, List.drop_drop, List.drop_drop, hq 0, hq 1, hq 3]
end Go.Proofs.YtndpjdmfkhjiiaaGreatDoor
