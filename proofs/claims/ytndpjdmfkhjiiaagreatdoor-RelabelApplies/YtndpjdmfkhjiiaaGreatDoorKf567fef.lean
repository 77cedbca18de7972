/- 1 texts in one. -/
import Derived.Laws.OwnMore
import Derived.Test.YtndpjdmfkhjiiaaGreatDoorProg
import Derived.Test.YtndpjdmfkhjiiaaGreatDoorK06d19db
import Derived.Test.YtndpjdmfkhjiiaaGreatDoorKb583056
import Derived.Test.YtndpjdmfkhjiiaaGreatDoorKf25e925
import Derived.Test.YtndpjdmfkhjiiaaGreatDoorKbcd5023
import Derived.Test.YtndpjdmfkhjiiaaGreatDoorKab9fbe2
import Derived.Test.YtndpjdmfkhjiiaaGreatDoorKa585d5f
import Derived.Test.YtndpjdmfkhjiiaaGreatDoorKf8fa243
import Derived.Test.YtndpjdmfkhjiiaaGreatDoorK0690efd
import Derived.Test.YtndpjdmfkhjiiaaGreatDoorKfdb3b36
import Derived.Test.YtndpjdmfkhjiiaaGreatDoorKb639f27
import Derived.BigQuiet
set_option linter.unusedVariables false
set_option linter.unusedSimpArgs false
namespace Go.Proofs.YtndpjdmfkhjiiaaGreatDoor
open Go.RowKit
attribute [local go_sem] bs_size bs_toList bs_append bs_get bs_extract
theorem wk_cells {w : World} {wb lb sb bb fb tb : Nat} {K : List Kind} {t : List UInt8} {bn gn : Nat} (h : wkAt w wb lb sb bb fb tb K t bn gn) :
  ∃ scp bcp, w.cell? ⟨wb, 0, none⟩ = some (.pointer (some ⟨lb, 0, none⟩)) ∧ w.cell? ⟨wb, 1, none⟩ = some (.string (bs t)) ∧ w.cell? ⟨wb, 2, none⟩ = some (.slice (some ⟨bb, 0, none⟩) bn bcp) ∧ w.cell? ⟨lb, 0, none⟩ = some (.slice (some ⟨sb, 0, none⟩) K.length scp) := by
 obtain ⟨scp, bcp, fcp, tcp, h1, h2, _⟩ := h
 obtain ⟨c0, c1, c2, c3, c4⟩ := five_cells h1
 exact ⟨scp, bcp, c0, c1, c2, cell_of_one h2⟩
theorem wk_head {w : World} {wb lb sb bb fb tb : Nat} {K : List Kind} {t : List UInt8} {bn gn : Nat} (h : wkAt w wb lb sb bb fb tb K t bn gn) :
  ∃ bcp, w.cell? ⟨wb, 1, none⟩ = some (.string (bs t)) ∧ w.cell? ⟨wb, 2, none⟩ = some (.slice (some ⟨bb, 0, none⟩) bn bcp) := by
 obtain ⟨scp, bcp, fcp, tcp, h1, h2, _⟩ := h
 obtain ⟨c0, c1, c2, c3, c4⟩ := five_cells h1
 exact ⟨bcp, c1, c2⟩
theorem wk_from {w : World} {wb lb sb bb fb tb : Nat} {K : List Kind} {t : List UInt8} {bn gn : Nat} (h : wkAt w wb lb sb bb fb tb K t bn gn) : ∃ cp, w.cell? ⟨wb, 3, none⟩ = some (.slice (some ⟨fb, 0, none⟩) gn cp) := by
 obtain ⟨scp, bcp, fcp, tcp, h1, h2, _⟩ := h
 obtain ⟨c0, c1, c2, c3, c4⟩ := five_cells h1
 exact ⟨_, c3⟩
theorem wk_to {w : World} {wb lb sb bb fb tb : Nat} {K : List Kind} {t : List UInt8} {bn gn : Nat} (h : wkAt w wb lb sb bb fb tb K t bn gn) : ∃ cp, w.cell? ⟨wb, 4, none⟩ = some (.slice (some ⟨tb, 0, none⟩) gn cp) := by
 obtain ⟨scp, bcp, fcp, tcp, h1, h2, _⟩ := h
 obtain ⟨c0, c1, c2, c3, c4⟩ := five_cells h1
 exact ⟨_, c4⟩
theorem wk_lt {w : World} {wb lb sb bb fb tb : Nat} {K : List Kind} {t : List UInt8} {bn gn : Nat} (h : wkAt w wb lb sb bb fb tb K t bn gn) : wb < w.heap.size := by
 obtain ⟨scp, bcp, fcp, tcp, h1, h2, _⟩ := h
 exact lt_of_block h1
theorem set_back {α : Type} {l : List α} {k : Nat} {v : α} (h : l[k]? = some v) : l.set k v = l := by
 apply List.ext_getElem?
 intro j
 by_cases e : k = j
 ·
  subst e
  rw [List.getElem?_set_self (List.getElem?_eq_some_iff.1 h).1, h]
 ·
  rw [List.getElem?_set_ne e]
def wJ (K : List Kind) (t : List UInt8) (bb fb tb : Nat) (bad : List Bool) (F G : List Int) (x : Option Evs) (P : World) (b : Bool) (w' : World) : Prop :=
 KB (own3 bb fb tb) P w' ∧ (b = false → boolsAt w' bb bad ∧ marksAt w' fb F ∧ marksAt w' tb G) ∧
  (b = true → ∃ bad', bad'.length = bad.length ∧ boolsAt w' bb bad' ∧ (x = none → marksAt w' fb F ∧ marksAt w' tb G ∧ vainG (spots K) t bad bad') ∧ (∀ l, x = some l → marksAt w' fb (putE 0 F l) ∧ marksAt w' tb (putE 1 G l)))
set_option maxRecDepth 20000 in
set_option maxHeartbeats 8000000 in
theorem rwalk_any (K : List Kind) (t : List UInt8) (wb lb sb bb fb tb g : Nat) (hK : K.length ≤ 100000) (hL : t.length ≤ 2000) (hok : ∀ k ∈ K, kOk g K.length k) :
  ∀ f n p x w bad F G, wkAt w wb lb sb bb fb tb K t bad.length (g + 1) → boolsAt w bb bad → marksAt w fb F → marksAt w tb G → bad.length = K.length * (t.length + 1) → F.length = g + 1 → G.length = g + 1 →
   den (spots K) t f n p = some x → n < K.length → p ≤ t.length → spentG (spots K) t bad f →
   Calls Tryz.prog 80 #[.pointer (some ⟨wb, 0, none⟩), .int .i64 n, .int .i64 p] w (wpost K t bb fb tb bad F G x w) := by
 intro f
 induction f with
 | zero => intro n p x w bad F G _ _ _ _ _ _ _ h; cases h
 | succ f ih =>
  intro n p x w bad F G hw hb hF hG hbl hFl hGl hd hn hp hsp
  cases hdf : den (spots K) t f n p with
  | some y =>
   obtain rfl := den_det hdf hd
   exact ih n p y w bad F G hw hb hF hG hbl hFl hGl hdf hn hp hsp.down
  | none =>
   obtain ⟨kd, hkd⟩ : ∃ kd, K[n]? = some kd := ⟨_, List.getElem?_eq_getElem hn⟩
   have hspot : spots K n = kd := by simp [spots, hkd]
   have hkok := hok kd (List.mem_of_getElem? hkd)
   have hidx := idx_lt hn hp
   rw [← hbl] at hidx
   obtain ⟨M, hM⟩ : ∃ M, n * (t.length + 1) = M := ⟨_, rfl⟩
   have hMi : (n : Int) * ((t.length : Int) + 1) = (M : Int) := by rw [← hM]; simp
   have hMle : M ≤ 200100000 := by
    have h1 : n * (t.length + 1) ≤ 100000 * 2001 := Nat.mul_le_mul (by omega) (by omega)
    omega
   rw [hM] at hidx
   obtain ⟨scp, bcp, fcp, tcp, hwb, hlb, hsteps, hx1, hx2, hx3, hne1, hne2, hne3⟩ := id hw
   obtain ⟨ys, hspo, hcl0⟩ := hsteps n kd hkd
   have hcl : ∀ j u, j < 5 → ys[j]? = some u → w.cell? ⟨sb, n * 5 + j, none⟩ = some u := hcl0
   obtain ⟨c0, c1, c2, c3, c4⟩ := five_cells hwb
   have cl := cell_of_one hlb
   have hget : bad[M + p]? = some bad[M + p] := List.getElem?_eq_getElem hidx
   have ct := hb.cell hget
   have hni : (n : Int) < (K.length : Int) := by omega
   have hidxi : (M : Int) + (p : Int) < (bad.length : Int) := by omega
   have HW := hide hw
   have HB := hide hb
   have HF := hide hF
   have HG := hide hG
   have IH := hide ih
   have D := hide hd
   have DF := hide hdf
   have SP := hide hsp
   have HS := hide hspot
   have HM := hide hM
   have LB := hide hbl
   have LF := hide hFl
   have LG := hide hGl
   have GT := hide hget
   have HOK := hide hkok
   clear hw hb hF hG ih hd hdf hsp hspot hM hbl hFl hGl hget hkok hwb hlb hsteps hx1 hx2 hx3 hcl0 hkd
   cases hbv : bad[M + p] with
   | true =>
    rw [hbv] at ct GT
    have hx : x = none := by
     have h := SP.out n p hp (by rw [HM.out]; exact GT.out)
     rcases h with h | ⟨f', h⟩
     ·
      rw [D.out] at h; cases h
     ·
      exact den_det D.out h
    subst hx
    clear hbv
    go_enter Tryz.func80, Tryz.ntmps80
    go_wp2
    go_ret
    exact ⟨rfl, .refl _ _, bad, rfl, HB.out, fun _ => ⟨HF.out, HG.out, .refl _ _ _⟩, fun l h => by cases h⟩
   | false =>
    rw [hbv] at ct GT
    clear hbv
    cases kd with
    | fin =>
     have hys : ys = _ := hspo
     subst hys
     have s0 := hcl 0 _ (by omega) rfl
     rw [Nat.add_zero] at s0
     have s1 := hcl 1 _ (by omega) rfl
     have s2 := hcl 2 _ (by omega) rfl
     have s3 := hcl 3 _ (by omega) rfl
     have s4 := hcl 4 _ (by omega) rfl
     clear hcl
     have hx : x = if p = t.length then some [] else none := by
      have h := D.out
      rw [den, HS.out] at h
      exact (Option.some.inj h).symm
     obtain ⟨P0, e0⟩ : ∃ P0, w.alloc (.cells #[.int .i64 0, .int .i64 0, .int .i64 0, .int .i64 0, .slice none 0 0] 122) = P0 := ⟨_, rfl⟩
     have hP0 : P0.heap[w.heap.size]? = some (.cells #[.int .i64 0, .int .i64 0, .int .i64 0, .int .i64 0, .slice none 0 0] 122 (0, 0)) := by rw [← e0]; exact heap_alloc_new _ _
     have gP0 : Grow w P0 := by rw [← e0]; exact (Grow.refl _).alloc _
     obtain ⟨x0, x1, x2, x3, x4⟩ := five_cells hP0
     have z0 := not_frozen (k := 0) hP0
     have z1 := not_frozen (k := 1) hP0
     have z2 := not_frozen (k := 2) hP0
     have z3 := not_frozen (k := 3) hP0
     have z4 := not_frozen (k := 4) hP0
     have hP := set_five hP0 (.int .i64 0) (.int .i64 0) (.int .i64 0) (.int .i64 0) (.slice none 0 0)
     have gP : Grow w _ := grow_five gP0 (Nat.le_refl _) (.int .i64 0) (.int .i64 0) (.int .i64 0) (.int .i64 0) (.slice none 0 0)
     obtain ⟨P1, eP⟩ : ∃ P1, (((((P0.setCell ⟨w.heap.size, 0, none⟩ (.int .i64 0)).setCell ⟨w.heap.size, 1, none⟩ (.int .i64 0)).setCell ⟨w.heap.size, 2, none⟩ (.int .i64 0)).setCell ⟨w.heap.size, 3, none⟩ (.int .i64 0)).setCell ⟨w.heap.size, 4, none⟩ (.slice none 0 0)) = P1 := ⟨_, rfl⟩
     rw [eP] at hP gP
     obtain ⟨p0, p1, p2, p3, p4⟩ := five_cells hP
     have KQ : Hid (KB (own3 bb fb tb) w P1) := hide (.grow gP)
     have HWQ := hide (HW.out.keep KQ.out)
     have HBQ : Hid (boolsAt P1 bb bad) := hide (gP.get HB.out)
     have HFQ : Hid (marksAt P1 fb F) := hide (gP.get HF.out)
     have HGQ : Hid (marksAt P1 tb G) := hide (gP.get HG.out)
     have hspx : ¬ own3 bb fb tb w.heap.size := fun h => by
      have h1 := lt_of_block HB.out
      have h2 := lt_of_block HF.out
      have h3 := lt_of_block HG.out
      unfold own3 at h
      omega
     have HPB := hide hP
     have HPX := hide hspx
     clear hP hP0 gP0 gP hspx
     obtain ⟨a3, a4, a0, a1, a2, a5⟩ := wk_cells HWQ.out
     by_cases hpl : p = t.length
     ·
      rw [if_pos hpl] at hx
      subst hx
      have hpe : ((p : Int) == (t.length : Int)) = true := by simp [hpl]
      have HLT : Hid (M + p < bad.length) := hide hidx
      clear hpl
      go_enter Tryz.func80, Tryz.ntmps80
      obtain ⟨a3, a4, a0, a1, a2, a5⟩ := wk_cells HWQ.out
      have hbm := HLT.out
      have hgb := List.getElem?_eq_getElem hbm
      have bq := HBQ.out.cell hgb
      have fbq := not_frozen (k := M + p) HBQ.out
      clear hgb
      go_wp2
      go_ret
      exact ⟨ret_bool (by simp), KQ.out.trans (KB.set (.inl rfl) _), _, by rw [List.length_set], HBQ.out.set _ _, fun h => (by cases h), fun l h => by cases h; exact ⟨marks_apart HFQ.out _ (fun e => hne1 e.symm), marks_apart HGQ.out _ (fun e => hne2 e.symm)⟩⟩
     ·
      rw [if_neg hpl] at hx
      subst hx
      have hpe : ((p : Int) == (t.length : Int)) = false := by simp; omega
      have HV : Hid (vainG (spots K) t bad bad) := hide (.refl _ _ _)
      have HLT : Hid (M + p < bad.length) := hide hidx
      clear hpl
      go_enter Tryz.func80, Tryz.ntmps80
      obtain ⟨a3, a4, a0, a1, a2, a5⟩ := wk_cells HWQ.out
      have hbm := HLT.out
      have hgb := List.getElem?_eq_getElem hbm
      have bq := HBQ.out.cell hgb
      have fbq := not_frozen (k := M + p) HBQ.out
      clear hgb
      go_wp2
      go_ret
      exact ⟨ret_bool (by simp), KQ.out.trans (KB.set (.inl rfl) _), _, by rw [List.length_set], HBQ.out.set _ _, fun _ => ⟨marks_apart HFQ.out _ (fun e => hne1 e.symm), marks_apart HGQ.out _ (fun e => hne2 e.symm), by rw [← HM.out]; exact HV.out.note hp D.out⟩, fun l h => by cases h⟩
    | take s nx =>
     obtain ⟨sbk, hys, hsx, hsb⟩ := hspo
     subst hys
     have s0 := hcl 0 _ (by omega) rfl
     rw [Nat.add_zero] at s0
     have s1 := hcl 1 _ (by omega) rfl
     have s2 := hcl 2 _ (by omega) rfl
     have s3 := hcl 3 _ (by omega) rfl
     have s4 := hcl 4 _ (by omega) rfl
     have HSB := hide hsb
     have HSX := hide hsx
     have hnx : nx < K.length := HOK.out
     have hd : (if hits t s p = true then den (spots K) t f nx (p + 1) else some none) = some x := by
      have h := D.out
      rw [den, HS.out] at h
      exact h
     clear hsb hsx hcl
     obtain ⟨P0, e0⟩ : ∃ P0, w.alloc (.cells #[.int .i64 0, .int .i64 0, .int .i64 0, .int .i64 0, .slice none 0 0] 122) = P0 := ⟨_, rfl⟩
     have hP0 : P0.heap[w.heap.size]? = some (.cells #[.int .i64 0, .int .i64 0, .int .i64 0, .int .i64 0, .slice none 0 0] 122 (0, 0)) := by rw [← e0]; exact heap_alloc_new _ _
     have gP0 : Grow w P0 := by rw [← e0]; exact (Grow.refl _).alloc _
     obtain ⟨x0, x1, x2, x3, x4⟩ := five_cells hP0
     have z0 := not_frozen (k := 0) hP0
     have z1 := not_frozen (k := 1) hP0
     have z2 := not_frozen (k := 2) hP0
     have z3 := not_frozen (k := 3) hP0
     have z4 := not_frozen (k := 4) hP0
     have hP := set_five hP0 (.int .i64 1) (.int .i64 nx) (.int .i64 0) (.int .i64 0) (.slice (some ⟨sbk, 0, none⟩) 256 256)
     have gP : Grow w _ := grow_five gP0 (Nat.le_refl _) (.int .i64 1) (.int .i64 nx) (.int .i64 0) (.int .i64 0) (.slice (some ⟨sbk, 0, none⟩) 256 256)
     obtain ⟨P1, eP⟩ : ∃ P1, (((((P0.setCell ⟨w.heap.size, 0, none⟩ (.int .i64 1)).setCell ⟨w.heap.size, 1, none⟩ (.int .i64 nx)).setCell ⟨w.heap.size, 2, none⟩ (.int .i64 0)).setCell ⟨w.heap.size, 3, none⟩ (.int .i64 0)).setCell ⟨w.heap.size, 4, none⟩ (.slice (some ⟨sbk, 0, none⟩) 256 256)) = P1 := ⟨_, rfl⟩
     rw [eP] at hP gP
     obtain ⟨p0, p1, p2, p3, p4⟩ := five_cells hP
     have KQ : Hid (KB (own3 bb fb tb) w P1) := hide (.grow gP)
     have HWQ := hide (HW.out.keep KQ.out)
     have HBQ : Hid (boolsAt P1 bb bad) := hide (gP.get HB.out)
     have HFQ : Hid (marksAt P1 fb F) := hide (gP.get HF.out)
     have HGQ : Hid (marksAt P1 tb G) := hide (gP.get HG.out)
     have hspx : ¬ own3 bb fb tb w.heap.size := fun h => by
      have h1 := lt_of_block HB.out
      have h2 := lt_of_block HF.out
      have h3 := lt_of_block HG.out
      unfold own3 at h
      omega
     have HPB := hide hP
     have HPX := hide hspx
     clear hP hP0 gP0 gP hspx
     obtain ⟨a3, a4, a0, a1, a2, a5⟩ := wk_cells HWQ.out
     have HSQ : Hid (boolsAt P1 sbk (boolRow s)) := hide (KQ.out.get HSB.out HSX.out)
     by_cases hpl : p < t.length
     ·
      have hpl' : decide ((p : Int) < (t.length : Int)) = true := by simpa using hpl
      have hpi : (p : Int) < (t.length : Int) := by omega
      obtain ⟨c, hcc⟩ : ∃ c, t[p] = c := ⟨_, rfl⟩
      have hc256 := c.toNat_lt
      have hci : (c.toNat : Int) < 256 := by omega
      have hsc := HSQ.out.cell (boolRow_at s c)
      rw [hits_get hpl, hcc] at hd
      cases hsv : s c with
      | true =>
       rw [hsv, if_pos rfl] at hd
       rw [hsv] at hsc
       have HD := hide hd
       have HIH := hide fun W Fx Gx badx (h1 : KB (own3 bb fb tb) w W) (h2 : boolsAt W bb badx) (h3 : marksAt W fb Fx) (h4 : marksAt W tb Gx) (h5 : badx.length = bad.length) (h6 : Fx.length = g + 1) (h7 : Gx.length = g + 1) (h8 : spentG (spots K) t badx f) => IH.out nx (p + 1) x W badx Fx Gx (by rw [h5]; exact HW.out.keep h1) h2 h3 h4 (by rw [h5]; exact LB.out) h6 h7 hd hnx hpl h8
       have HSC := hide hsc
       clear hd hsc hsv
       go_enter Tryz.func80, Tryz.ntmps80
       go_wp2
       clear a0 a1 a2 a5 p0 p1 p2 p3 p4 e0 eP x0 x1 x2 x3 x4 z0 z1 z2 z3 z4 s0 s1 s2 s3 s4
       refine wp_region_state 27 174 Tryz.mixed2 rfl (by decide +kernel) (fun L vals w' => wJ K t bb fb tb bad F G x P1 (L 25) w')
        (fun L vals h => ?_)
        (fun i v => match i with
         | 0 => v = .int .i64 (p : Nat)
         | 1 => v = .pointer (some ⟨wb, 0, none⟩)
         | 2 => v = .pointer (some ⟨wb, 0, none⟩)
         | 3 => v = .pointer (some ⟨wb, 1, none⟩)
         | 4 => v = .string (bs t)
         | 5 => v = .int .i64 t.length
         | 6 => v = .bool true
         | 7 => v = .bool true
         | 8 => v = .pointer (some ⟨w.heap.size, 4, none⟩)
         | 9 => v = .slice (some ⟨sbk, 0, none⟩) 256 256
         | 10 => v = .pointer (some ⟨wb, 0, none⟩)
         | 11 => v = .pointer (some ⟨wb, 0, none⟩)
         | 12 => v = .pointer (some ⟨wb, 1, none⟩)
         | 13 => v = .string (bs t)
         | 14 => v = .int .i64 (p : Nat)
         | 15 => v = .int .u8 (c.toNat : Nat)
         | 16 => v = .pointer (some ⟨sbk, c.toNat, none⟩)
         | 17 => v = .bool true
         | 18 => v = .bool true
         | 19 => v = .bool true
         | 20 => v = .pointer (some ⟨wb, 0, none⟩)
         | 21 => v = .pointer (some ⟨w.heap.size, 1, none⟩)
         | 22 => v = .int .i64 (nx : Nat)
         | 23 => v = .int .i64 (p : Nat)
         | 24 => v = .int .i64 ((p : Int) + 1)
         | 25 => v = .bool x.isSome
         | _ => v = .bool x.isSome)
        (fun _ _ => False) (fun _ _ _ _ h => h.elim) (fun i hi o ho a w2 L vals hLi hLc hLe hJ hoff hval hdep => ?_) (fun vals w2 L hL hJ hvals => ?_)
       ·
        rw [h]
        exact ⟨⟨rfl, rfl, rfl, Nat.le_refl _, fun _ _ _ => rfl⟩, fun _ => ⟨HBQ.out, HFQ.out, HGQ.out⟩, fun h => (nomatch h)⟩
       ·
        obtain ⟨b3, b4, b0, b1, b2, b5⟩ := wk_cells (HW.out.keep (KQ.out.trans hJ.1))
        obtain ⟨q0, q1, q2, q3, q4⟩ := five_cells (hJ.1.get HPB.out HPX.out)
        have qs := hJ.1.cell HSC.out HSX.out
        match i, hi with
        | 0, _ =>
         obtain rfl := Option.some.inj ho
         have o2 := hoff 2 (by decide +kernel)
         simp at o2
         simp [opYields, go_sem, o2]
         exact hJ
        | 1, _ =>
         obtain rfl := Option.some.inj ho
         have o0 := hoff 0 (by decide +kernel)
         simp at o0
         simp [opYields, go_sem, o0]
         exact hJ
        | 2, _ =>
         obtain rfl := Option.some.inj ho
         have d1 := hdep 1 (by decide +kernel)
         simp [slotOf, dstOf] at d1
         simp [opYields, go_sem, d1]
         exact hJ
        | 3, _ =>
         obtain rfl := Option.some.inj ho
         have d2 := hdep 2 (by decide +kernel)
         simp [slotOf, dstOf] at d2
         simp [opYields, go_sem, d2]
         exact hJ
        | 4, _ =>
         obtain rfl := Option.some.inj ho
         have d3 := hdep 3 (by decide +kernel)
         simp [slotOf, dstOf] at d3
         simp [opYields, go_sem, d3, b1]
         exact hJ
        | 5, _ =>
         obtain rfl := Option.some.inj ho
         have d4 := hdep 4 (by decide +kernel)
         simp [slotOf, dstOf] at d4
         simp [opYields, go_sem, d4]
         exact hJ
        | 6, _ =>
         obtain rfl := Option.some.inj ho
         have d0 := hdep 0 (by decide +kernel)
         simp [slotOf, dstOf] at d0
         have d5 := hdep 5 (by decide +kernel)
         simp [slotOf, dstOf] at d5
         simp [opYields, go_sem, d0, d5, hpl]
         exact hJ
        | 7, _ =>
         obtain rfl := Option.some.inj ho
         have d6 := hdep 6 (by decide +kernel)
         simp [slotOf, dstOf] at d6
         simp [opYields, go_sem, d6]
         exact hJ
        | 8, _ =>
         have hwt := wanted_yes ho (g := 7) (by rfl) (hdep 7 (by decide +kernel))
         unfold opYields
         rw [if_pos hwt]
         obtain rfl := Option.some.inj ho
         have o8 := hoff 8 (by decide +kernel)
         simp at o8
         simp [go_sem, o8]
         exact hJ
        | 9, _ =>
         have hwt := wanted_yes ho (g := 7) (by rfl) (hdep 7 (by decide +kernel))
         unfold opYields
         rw [if_pos hwt]
         obtain rfl := Option.some.inj ho
         have d8 := hdep 8 (by decide +kernel)
         simp [slotOf, dstOf] at d8
         simp [go_sem, d8, q4]
         exact hJ
        | 10, _ =>
         have hwt := wanted_yes ho (g := 7) (by rfl) (hdep 7 (by decide +kernel))
         unfold opYields
         rw [if_pos hwt]
         obtain rfl := Option.some.inj ho
         have o0 := hoff 0 (by decide +kernel)
         simp at o0
         simp [go_sem, o0]
         exact hJ
        | 11, _ =>
         have hwt := wanted_yes ho (g := 7) (by rfl) (hdep 7 (by decide +kernel))
         unfold opYields
         rw [if_pos hwt]
         obtain rfl := Option.some.inj ho
         have d10 := hdep 10 (by decide +kernel)
         simp [slotOf, dstOf] at d10
         simp [go_sem, d10]
         exact hJ
        | 12, _ =>
         have hwt := wanted_yes ho (g := 7) (by rfl) (hdep 7 (by decide +kernel))
         unfold opYields
         rw [if_pos hwt]
         obtain rfl := Option.some.inj ho
         have d11 := hdep 11 (by decide +kernel)
         simp [slotOf, dstOf] at d11
         simp [go_sem, d11]
         exact hJ
        | 13, _ =>
         have hwt := wanted_yes ho (g := 7) (by rfl) (hdep 7 (by decide +kernel))
         unfold opYields
         rw [if_pos hwt]
         obtain rfl := Option.some.inj ho
         have d12 := hdep 12 (by decide +kernel)
         simp [slotOf, dstOf] at d12
         simp [go_sem, d12, b1]
         exact hJ
        | 14, _ =>
         have hwt := wanted_yes ho (g := 7) (by rfl) (hdep 7 (by decide +kernel))
         unfold opYields
         rw [if_pos hwt]
         obtain rfl := Option.some.inj ho
         have o2 := hoff 2 (by decide +kernel)
         simp at o2
         simp [go_sem, o2]
         exact hJ
        | 15, _ =>
         have hwt := wanted_yes ho (g := 7) (by rfl) (hdep 7 (by decide +kernel))
         unfold opYields
         rw [if_pos hwt]
         obtain rfl := Option.some.inj ho
         have d13 := hdep 13 (by decide +kernel)
         simp [slotOf, dstOf] at d13
         have d14 := hdep 14 (by decide +kernel)
         simp [slotOf, dstOf] at d14
         simp [go_sem, d13, d14, hpl, hcc]
         exact hJ
        | 16, _ =>
         have hwt := wanted_yes ho (g := 7) (by rfl) (hdep 7 (by decide +kernel))
         unfold opYields
         rw [if_pos hwt]
         obtain rfl := Option.some.inj ho
         have d9 := hdep 9 (by decide +kernel)
         simp [slotOf, dstOf] at d9
         have d15 := hdep 15 (by decide +kernel)
         simp [slotOf, dstOf] at d15
         simp [go_sem, d9, d15, hci]
         exact hJ
        | 17, _ =>
         have hwt := wanted_yes ho (g := 7) (by rfl) (hdep 7 (by decide +kernel))
         unfold opYields
         rw [if_pos hwt]
         obtain rfl := Option.some.inj ho
         have d16 := hdep 16 (by decide +kernel)
         simp [slotOf, dstOf] at d16
         simp [go_sem, d16, qs]
         exact hJ
        | 18, _ =>
         obtain rfl := Option.some.inj ho
         have d7 := hdep 7 (by decide +kernel)
         simp [slotOf, dstOf] at d7
         have d17 := hdep 17 (by decide +kernel)
         simp [slotOf, dstOf] at d17
         simp [opYields, go_sem, d7, d17]
         exact hJ
        | 19, _ =>
         obtain rfl := Option.some.inj ho
         have d18 := hdep 18 (by decide +kernel)
         simp [slotOf, dstOf] at d18
         simp [opYields, go_sem, d18]
         exact hJ
        | 20, _ =>
         have hwt := wanted_yes ho (g := 19) (by rfl) (hdep 19 (by decide +kernel))
         unfold opYields
         rw [if_pos hwt]
         obtain rfl := Option.some.inj ho
         have o0 := hoff 0 (by decide +kernel)
         simp at o0
         simp [go_sem, o0]
         exact hJ
        | 21, _ =>
         have hwt := wanted_yes ho (g := 19) (by rfl) (hdep 19 (by decide +kernel))
         unfold opYields
         rw [if_pos hwt]
         obtain rfl := Option.some.inj ho
         have o8 := hoff 8 (by decide +kernel)
         simp at o8
         simp [go_sem, o8]
         exact hJ
        | 22, _ =>
         have hwt := wanted_yes ho (g := 19) (by rfl) (hdep 19 (by decide +kernel))
         unfold opYields
         rw [if_pos hwt]
         obtain rfl := Option.some.inj ho
         have d21 := hdep 21 (by decide +kernel)
         simp [slotOf, dstOf] at d21
         simp [go_sem, d21, q1]
         exact hJ
        | 23, _ =>
         have hwt := wanted_yes ho (g := 19) (by rfl) (hdep 19 (by decide +kernel))
         unfold opYields
         rw [if_pos hwt]
         obtain rfl := Option.some.inj ho
         have o2 := hoff 2 (by decide +kernel)
         simp at o2
         simp [go_sem, o2]
         exact hJ
        | 24, _ =>
         have hwt := wanted_yes ho (g := 19) (by rfl) (hdep 19 (by decide +kernel))
         unfold opYields
         rw [if_pos hwt]
         obtain rfl := Option.some.inj ho
         have d23 := hdep 23 (by decide +kernel)
         simp [slotOf, dstOf] at d23
         simp [go_sem, d23]
         exact ⟨hJ, wrap_i64_small _ (by omega) (by omega)⟩
        | 25, _ =>
         have hwt := wanted_yes ho (g := 19) (by rfl) (hdep 19 (by decide +kernel))
         unfold opYields
         rw [if_pos hwt]
         obtain rfl := Option.some.inj ho
         have d20 := hdep 20 (by decide +kernel)
         simp [slotOf, dstOf] at d20
         have d22 := hdep 22 (by decide +kernel)
         simp [slotOf, dstOf] at d22
         have d24 := hdep 24 (by decide +kernel)
         simp [slotOf, dstOf] at d24
         simp [go_sem, d20, d22, d24]
         rw [hLi] at hJ
         obtain ⟨hj1, hj2, _⟩ := hJ
         obtain ⟨hj3, hj4, hj5⟩ := hj2 rfl
         refine (HIH.out w2 F G bad (KQ.out.trans hj1) hj3 hj4 hj5 rfl LF.out LG.out SP.out.down).mono ?_
         rintro e w3 ⟨rfl, hk3, hrest⟩
         exact ⟨⟨hj1.trans hk3, fun h => (nomatch h), fun _ => hrest⟩, rfl⟩
        | 26, _ =>
         obtain rfl := Option.some.inj ho
         have d19 := hdep 19 (by decide +kernel)
         simp [slotOf, dstOf] at d19
         have d25 := hdep 25 (by decide +kernel)
         simp [slotOf, dstOf] at d25
         simp [opYields, go_sem, d19, d25]
         exact hJ
        | k + 27, h => exact absurd h (by omega)
       ·
        have v26 := hvals 26 (by omega)
        simp only at v26
        rw [hL 25 (by omega)] at hJ
        obtain ⟨hj1, _, hj2⟩ := hJ
        obtain ⟨bad1, hl1, hb1, hn1, hs1⟩ := hj2 rfl
        have KQ := hide (KQ.out.trans hj1)
        have HWQ := hide (HW.out.keep KQ.out)
        have HBQ := hide hb1
        have HN1 := hide hn1
        have HS1 := hide hs1
        have HLB2 := hide hl1
        have HLT : Hid (M + p < bad1.length) := by rw [hl1]; exact hide hidx
        clear hvals hb1 hn1 hs1 hl1 hj1 hj2
        simp [over, dstOf, Act.put, v26]
        cases x with
        | none =>
         obtain ⟨hf1, hg1, hv1⟩ := HN1.out rfl
         have HFQ := hide hf1
         have HGQ := hide hg1
         have HV := hide hv1
         clear hf1 hg1 hv1
         obtain ⟨a3, a4, a0, a1, a2, a5⟩ := wk_cells HWQ.out
         have hbm := HLT.out
         have hgb := List.getElem?_eq_getElem hbm
         have bq := HBQ.out.cell hgb
         have fbq := not_frozen (k := M + p) HBQ.out
         clear hgb
         go_wp2
         go_ret
         exact ⟨ret_bool (by simp), KQ.out.trans (KB.set (.inl rfl) _), _, List.length_set.trans HLB2.out, HBQ.out.set _ _, fun _ => ⟨marks_apart HFQ.out _ (fun e => hne1 e.symm), marks_apart HGQ.out _ (fun e => hne2 e.symm), by rw [← HM.out]; exact HV.out.note hp D.out⟩, fun l h => by cases h⟩
        | some lv =>
         obtain ⟨hf1, hg1⟩ := HS1.out lv rfl
         have HFQ := hide hf1
         have HGQ := hide hg1
         clear hf1 hg1
         obtain ⟨a3, a4, a0, a1, a2, a5⟩ := wk_cells HWQ.out
         have hbm := HLT.out
         have hgb := List.getElem?_eq_getElem hbm
         have bq := HBQ.out.cell hgb
         have fbq := not_frozen (k := M + p) HBQ.out
         clear hgb
         go_wp2
         go_ret
         exact ⟨ret_bool (by simp), KQ.out.trans (KB.set (.inl rfl) _), _, List.length_set.trans HLB2.out, HBQ.out.set _ _, fun h => (by cases h), fun l h => by cases h; exact ⟨marks_apart HFQ.out _ (fun e => hne1 e.symm), marks_apart HGQ.out _ (fun e => hne2 e.symm)⟩⟩
      | false =>
       rw [hsv, if_neg (by decide)] at hd
       obtain rfl : x = none := (Option.some.inj hd).symm
       rw [hsv] at hsc
       have HV : Hid (vainG (spots K) t bad bad) := hide (.refl _ _ _)
       have HLT : Hid (M + p < bad.length) := hide hidx
       clear hd hsv
       go_enter Tryz.func80, Tryz.ntmps80
       go_wp2
       go_quiet (fail)
       clear a0 a1 a2 a5
       obtain ⟨Q1, HQ1⟩ : ∃ Q1, Hid (Q1 = World.drewN P1 nq) := ⟨_, hide rfl⟩
       rw [← HQ1.out]
       have gQ : Grow P1 Q1 := by rw [HQ1.out]; exact ⟨rfl, rfl, rfl, Nat.le_refl _, fun _ _ => rfl⟩
       have KQ := hide (KQ.out.trans (.grow gQ))
       have HWQ := hide (HW.out.keep KQ.out)
       have HBQ : Hid (boolsAt Q1 bb bad) := hide (gQ.get HBQ.out)
       have HFQ : Hid (marksAt Q1 fb F) := hide (gQ.get HFQ.out)
       have HGQ : Hid (marksAt Q1 tb G) := hide (gQ.get HGQ.out)
       obtain ⟨p0, p1, p2, p3, p4⟩ := five_cells (gQ.get HPB.out)
       have HPB := hide (gQ.get HPB.out)
       clear HQ1 gQ
       obtain ⟨a3, a4, a0, a1, a2, a5⟩ := wk_cells HWQ.out
       have hbm := HLT.out
       have hgb := List.getElem?_eq_getElem hbm
       have bq := HBQ.out.cell hgb
       have fbq := not_frozen (k := M + p) HBQ.out
       clear hgb
       go_wp2
       go_ret
       exact ⟨ret_bool (by simp), KQ.out.trans (KB.set (.inl rfl) _), _, by rw [List.length_set], HBQ.out.set _ _, fun _ => ⟨marks_apart HFQ.out _ (fun e => hne1 e.symm), marks_apart HGQ.out _ (fun e => hne2 e.symm), by rw [← HM.out]; exact HV.out.note hp D.out⟩, fun l h => by cases h⟩
     ·
      rw [hits_ge hpl, if_neg (by decide)] at hd
      obtain rfl : x = none := (Option.some.inj hd).symm
      have hpl' : decide ((p : Int) < (t.length : Int)) = false := by simp; omega
      have HV : Hid (vainG (spots K) t bad bad) := hide (.refl _ _ _)
      have HLT : Hid (M + p < bad.length) := hide hidx
      clear hd
      go_enter Tryz.func80, Tryz.ntmps80
      go_wp2
      go_quiet (fail)
      clear a0 a1 a2 a5
      obtain ⟨Q1, HQ1⟩ : ∃ Q1, Hid (Q1 = World.drewN P1 nq) := ⟨_, hide rfl⟩
      rw [← HQ1.out]
      have gQ : Grow P1 Q1 := by rw [HQ1.out]; exact ⟨rfl, rfl, rfl, Nat.le_refl _, fun _ _ => rfl⟩
      have KQ := hide (KQ.out.trans (.grow gQ))
      have HWQ := hide (HW.out.keep KQ.out)
      have HBQ : Hid (boolsAt Q1 bb bad) := hide (gQ.get HBQ.out)
      have HFQ : Hid (marksAt Q1 fb F) := hide (gQ.get HFQ.out)
      have HGQ : Hid (marksAt Q1 tb G) := hide (gQ.get HGQ.out)
      obtain ⟨p0, p1, p2, p3, p4⟩ := five_cells (gQ.get HPB.out)
      have HPB := hide (gQ.get HPB.out)
      clear HQ1 gQ
      obtain ⟨a3, a4, a0, a1, a2, a5⟩ := wk_cells HWQ.out
      have hbm := HLT.out
      have hgb := List.getElem?_eq_getElem hbm
      have bq := HBQ.out.cell hgb
      have fbq := not_frozen (k := M + p) HBQ.out
      clear hgb
      go_wp2
      go_ret
      exact ⟨ret_bool (by simp), KQ.out.trans (KB.set (.inl rfl) _), _, by rw [List.length_set], HBQ.out.set _ _, fun _ => ⟨marks_apart HFQ.out _ (fun e => hne1 e.symm), marks_apart HGQ.out _ (fun e => hne2 e.symm), by rw [← HM.out]; exact HV.out.note hp D.out⟩, fun l h => by cases h⟩
    | fork ws =>
     obtain ⟨fa, fbb, hws, hfa, hfb⟩ := HOK.out
     subst hws
     have hys : ys = _ := hspo
     subst hys
     have s0 := hcl 0 _ (by omega) rfl
     rw [Nat.add_zero] at s0
     have s1 := hcl 1 _ (by omega) rfl
     have s2 := hcl 2 _ (by omega) rfl
     have s3 := hcl 3 _ (by omega) rfl
     have s4 := hcl 4 _ (by omega) rfl
     have hd : first (den (spots K) t f fa p) (first (den (spots K) t f fbb p) (some none)) = some x := by
      have h := D.out
      rw [den, HS.out] at h
      exact h
     clear hcl
     obtain ⟨P0, e0⟩ : ∃ P0, w.alloc (.cells #[.int .i64 0, .int .i64 0, .int .i64 0, .int .i64 0, .slice none 0 0] 122) = P0 := ⟨_, rfl⟩
     have hP0 : P0.heap[w.heap.size]? = some (.cells #[.int .i64 0, .int .i64 0, .int .i64 0, .int .i64 0, .slice none 0 0] 122 (0, 0)) := by rw [← e0]; exact heap_alloc_new _ _
     have gP0 : Grow w P0 := by rw [← e0]; exact (Grow.refl _).alloc _
     obtain ⟨x0, x1, x2, x3, x4⟩ := five_cells hP0
     have z0 := not_frozen (k := 0) hP0
     have z1 := not_frozen (k := 1) hP0
     have z2 := not_frozen (k := 2) hP0
     have z3 := not_frozen (k := 3) hP0
     have z4 := not_frozen (k := 4) hP0
     have hP := set_five hP0 (.int .i64 2) (.int .i64 fa) (.int .i64 fbb) (.int .i64 0) (.slice none 0 0)
     have gP : Grow w _ := grow_five gP0 (Nat.le_refl _) (.int .i64 2) (.int .i64 fa) (.int .i64 fbb) (.int .i64 0) (.slice none 0 0)
     obtain ⟨P1, eP⟩ : ∃ P1, (((((P0.setCell ⟨w.heap.size, 0, none⟩ (.int .i64 2)).setCell ⟨w.heap.size, 1, none⟩ (.int .i64 fa)).setCell ⟨w.heap.size, 2, none⟩ (.int .i64 fbb)).setCell ⟨w.heap.size, 3, none⟩ (.int .i64 0)).setCell ⟨w.heap.size, 4, none⟩ (.slice none 0 0)) = P1 := ⟨_, rfl⟩
     rw [eP] at hP gP
     obtain ⟨p0, p1, p2, p3, p4⟩ := five_cells hP
     have KQ : Hid (KB (own3 bb fb tb) w P1) := hide (.grow gP)
     have HWQ := hide (HW.out.keep KQ.out)
     have HBQ : Hid (boolsAt P1 bb bad) := hide (gP.get HB.out)
     have HFQ : Hid (marksAt P1 fb F) := hide (gP.get HF.out)
     have HGQ : Hid (marksAt P1 tb G) := hide (gP.get HG.out)
     have hspx : ¬ own3 bb fb tb w.heap.size := fun h => by
      have h1 := lt_of_block HB.out
      have h2 := lt_of_block HF.out
      have h3 := lt_of_block HG.out
      unfold own3 at h
      omega
     have HPB := hide hP
     have HPX := hide hspx
     clear hP hP0 gP0 gP hspx
     obtain ⟨a3, a4, a0, a1, a2, a5⟩ := wk_cells HWQ.out
     have hgq := HBQ.out.cell GT.out
     have fgq := not_frozen (k := M + p) HBQ.out
     obtain ⟨P2, eP2⟩ : ∃ P2, P1.setCell ⟨bb, M + p, none⟩ (.bool true) = P2 := ⟨_, rfl⟩
     have KQ2 : Hid (KB (own3 bb fb tb) w P2) := by rw [← eP2]; exact hide (KQ.out.trans (KB.set (.inl rfl) _))
     have HWQ2 := hide (HW.out.keep KQ2.out)
     have HBQ2 : Hid (boolsAt P2 bb (bad.set (M + p) true)) := by rw [← eP2]; exact hide (HBQ.out.set _ _)
     have HFQ2 : Hid (marksAt P2 fb F) := by rw [← eP2]; exact hide (marks_apart HFQ.out _ (fun e => hne1 e.symm))
     have HGQ2 : Hid (marksAt P2 tb G) := by rw [← eP2]; exact hide (marks_apart HGQ.out _ (fun e => hne2 e.symm))
     have HPB2 : Hid (P2.heap[w.heap.size]? = some (.cells #[.int .i64 2, .int .i64 (fa : Nat), .int .i64 (fbb : Nat), .int .i64 0, .slice none 0 0] 122 (0, 0))) := by rw [← eP2]; exact hide ((KB.set (X := own3 bb fb tb) (.inl rfl) _).get HPB.out HPX.out)
     obtain ⟨q0, q1, q2, q3, q4⟩ := five_cells HPB2.out
     have HSP2 : Hid (spentG (spots K) t (bad.set (M + p) true) f) := by rw [← HM.out]; exact hide (SP.out.put hp DF.out)
     have HIH := hide fun fz z (hfz : fz < K.length) (hdz : den (spots K) t f fz p = some z) W badx (h1 : KB (own3 bb fb tb) w W) (h2 : boolsAt W bb badx) (h3 : marksAt W fb F) (h4 : marksAt W tb G) (h5 : badx.length = bad.length) (h8 : spentG (spots K) t badx f) => IH.out fz p z W badx F G (by rw [h5]; exact HW.out.keep h1) h2 h3 h4 (by rw [h5]; exact LB.out) LF.out LG.out hdz hfz hp h8
     rcases first_eq hd with ⟨lv, hda, rfl⟩ | ⟨hda, hdb⟩
     ·
      have HDA := hide hda
      clear hd hda
      go_enter Tryz.func80, Tryz.ntmps80
      go_wp2_with fail
      refine (HIH.out fa (some lv) hfa HDA.out P2 _ KQ2.out HBQ2.out HFQ2.out HGQ2.out (by simp) HSP2.out).mono ?_
      rintro e W3 ⟨rfl, hk3, bad1, hl1, hb1, _, hs1⟩
      obtain ⟨hf1, hg1⟩ := hs1 lv rfl
      have KQ := hide (KQ2.out.trans hk3)
      have HWQ := hide (HW.out.keep KQ.out)
      have HBQ := hide hb1
      have HFQ := hide hf1
      have HGQ := hide hg1
      rw [List.length_set] at hl1
      have HLB2 := hide hl1
      have HLT : Hid (M + p < bad1.length) := by rw [hl1]; exact hide hidx
      clear hk3 hl1 hb1 hs1 hf1 hg1 a0 a1 a2 a5 q0 q1 q2 q3 q4 p0 p1 p2 p3 p4 e0 eP eP2 x0 x1 x2 x3 x4 z0 z1 z2 z3 z4 s0 s1 s2 s3 s4 hgq fgq
      simp only [Option.isSome_some]
      obtain ⟨a3, a4, a0, a1, a2, a5⟩ := wk_cells HWQ.out
      have hbm := HLT.out
      have hgb := List.getElem?_eq_getElem hbm
      have bq := HBQ.out.cell hgb
      have fbq := not_frozen (k := M + p) HBQ.out
      clear hgb
      go_wp2
      go_ret
      exact ⟨ret_bool (by simp), KQ.out.trans (KB.set (.inl rfl) _), _, List.length_set.trans HLB2.out, HBQ.out.set _ _, fun h => (by cases h), fun l h => by cases h; exact ⟨marks_apart HFQ.out _ (fun e => hne1 e.symm), marks_apart HGQ.out _ (fun e => hne2 e.symm)⟩⟩
     ·
      have hdb : den (spots K) t f fbb p = some x := by
       rcases first_eq hdb with ⟨lv, h1, rfl⟩ | ⟨h1, h2⟩
       ·
        exact h1
       ·
        rw [h1, ← h2]
      have HDA := hide hda
      have HDB := hide hdb
      clear hd hda hdb
      go_enter Tryz.func80, Tryz.ntmps80
      go_wp2_with fail
      refine (HIH.out fa none hfa HDA.out P2 _ KQ2.out HBQ2.out HFQ2.out HGQ2.out (by simp) HSP2.out).mono ?_
      rintro e W3 ⟨rfl, hk3, bad1, hl1, hb1, hn1, _⟩
      obtain ⟨hf1, hg1, hv1⟩ := hn1 rfl
      have KQ := hide (KQ2.out.trans hk3)
      have HBQ := hide hb1
      have HFQ := hide hf1
      have HGQ := hide hg1
      have HV1 := hide hv1
      rw [List.length_set] at hl1
      have HL1 := hide hl1
      obtain ⟨q0, q1, q2, q3, q4⟩ := five_cells (hk3.get HPB2.out HPX.out)
      clear hk3 hl1 hb1 hn1 hf1 hg1 hv1 a0 a1 a2 a5 p0 p1 p2 p3 p4 e0 eP eP2 x0 x1 x2 x3 x4 z0 z1 z2 z3 z4 s0 s1 s2 s3 s4 hgq fgq
      simp only [Option.isSome_none]
      go_wp2_with fail
      refine (HIH.out fbb x hfb HDB.out W3 _ KQ.out HBQ.out HFQ.out HGQ.out HL1.out (HSP2.out.vain HV1.out)).mono ?_
      rintro e W4 ⟨rfl, hk4, bad2, hl2, hb2, hn2, hs2⟩
      have KQ := hide (KQ.out.trans hk4)
      have HWQ := hide (HW.out.keep KQ.out)
      have HBQ := hide hb2
      have HLB2 : Hid (bad2.length = bad.length) := hide (hl2.trans HL1.out)
      have HLT : Hid (M + p < bad2.length) := by rw [HLB2.out]; exact hide hidx
      have HN2 := hide hn2
      have HS2 := hide hs2
      clear hk4 hl2 hb2 hn2 hs2 q0 q1 q2 q3 q4
      cases x with
      | none =>
       obtain ⟨hf1, hg1, hv1⟩ := HN2.out rfl
       have HFQ := hide hf1
       have HGQ := hide hg1
       have HV : Hid (vainG (spots K) t bad bad2) := by
        have h := HV1.out.trans hv1
        rw [← HM.out] at h
        exact hide (h.noted hp D.out)
       clear hf1 hg1 hv1
       simp only [Option.isSome_none]
       obtain ⟨a3, a4, a0, a1, a2, a5⟩ := wk_cells HWQ.out
       have hbm := HLT.out
       have hgb := List.getElem?_eq_getElem hbm
       have bq := HBQ.out.cell hgb
       have fbq := not_frozen (k := M + p) HBQ.out
       clear hgb
       go_wp2
       go_ret
       exact ⟨ret_bool (by simp), KQ.out.trans (KB.set (.inl rfl) _), _, List.length_set.trans HLB2.out, HBQ.out.set _ _, fun _ => ⟨marks_apart HFQ.out _ (fun e => hne1 e.symm), marks_apart HGQ.out _ (fun e => hne2 e.symm), by rw [← HM.out]; exact HV.out.note hp D.out⟩, fun l h => by cases h⟩
      | some lv =>
       obtain ⟨hf1, hg1⟩ := HS2.out lv rfl
       have HFQ := hide hf1
       have HGQ := hide hg1
       clear hf1 hg1
       simp only [Option.isSome_some]
       obtain ⟨a3, a4, a0, a1, a2, a5⟩ := wk_cells HWQ.out
       have hbm := HLT.out
       have hgb := List.getElem?_eq_getElem hbm
       have bq := HBQ.out.cell hgb
       have fbq := not_frozen (k := M + p) HBQ.out
       clear hgb
       go_wp2
       go_ret
       exact ⟨ret_bool (by simp), KQ.out.trans (KB.set (.inl rfl) _), _, List.length_set.trans HLB2.out, HBQ.out.set _ _, fun h => (by cases h), fun l h => by cases h; exact ⟨marks_apart HFQ.out _ (fun e => hne1 e.symm), marks_apart HGQ.out _ (fun e => hne2 e.symm)⟩⟩
    | mark sl nx =>
     by_cases hsl : sl % 2 = 0
     ·
      have hys : ys = _ := hspo
      rw [if_pos (by omega)] at hys
      subst hys
      have s0 := hcl 0 _ (by omega) rfl
      rw [Nat.add_zero] at s0
      have s1 := hcl 1 _ (by omega) rfl
      have s2 := hcl 2 _ (by omega) rfl
      have s3 := hcl 3 _ (by omega) rfl
      have s4 := hcl 4 _ (by omega) rfl
      obtain ⟨n1, hn1⟩ : ∃ n1 : Nat, sl / 2 + 1 = n1 := ⟨_, rfl⟩
      rw [hn1] at s3
      have hnx : nx < K.length := HOK.out.2
      have hn1g : n1 < g + 1 := by have := HOK.out.1; omega
      have hn1i : (n1 : Int) < ((g + 1 : Nat) : Int) := by omega
      have hn1i2 : (n1 : Int) < (g : Int) + 1 := by omega
      obtain ⟨y, hy, hxy⟩ : ∃ y, den (spots K) t f nx p = some y ∧ x = marked sl p y := by
       have h := D.out
       rw [den, HS.out] at h
       obtain ⟨y, h1, h2⟩ := map_some h
       exact ⟨y, h1, h2⟩
      have HDY := hide hy
      have HSL := hide hsl
      have HN1 := hide hn1
      clear hcl hy hn1
      obtain ⟨P0, e0⟩ : ∃ P0, w.alloc (.cells #[.int .i64 0, .int .i64 0, .int .i64 0, .int .i64 0, .slice none 0 0] 122) = P0 := ⟨_, rfl⟩
      have hP0 : P0.heap[w.heap.size]? = some (.cells #[.int .i64 0, .int .i64 0, .int .i64 0, .int .i64 0, .slice none 0 0] 122 (0, 0)) := by rw [← e0]; exact heap_alloc_new _ _
      have gP0 : Grow w P0 := by rw [← e0]; exact (Grow.refl _).alloc _
      obtain ⟨x0, x1, x2, x3, x4⟩ := five_cells hP0
      have z0 := not_frozen (k := 0) hP0
      have z1 := not_frozen (k := 1) hP0
      have z2 := not_frozen (k := 2) hP0
      have z3 := not_frozen (k := 3) hP0
      have z4 := not_frozen (k := 4) hP0
      have hP := set_five hP0 (.int .i64 3) (.int .i64 nx) (.int .i64 0) (.int .i64 n1) (.slice none 0 0)
      have gP : Grow w _ := grow_five gP0 (Nat.le_refl _) (.int .i64 3) (.int .i64 nx) (.int .i64 0) (.int .i64 n1) (.slice none 0 0)
      obtain ⟨P1, eP⟩ : ∃ P1, (((((P0.setCell ⟨w.heap.size, 0, none⟩ (.int .i64 3)).setCell ⟨w.heap.size, 1, none⟩ (.int .i64 nx)).setCell ⟨w.heap.size, 2, none⟩ (.int .i64 0)).setCell ⟨w.heap.size, 3, none⟩ (.int .i64 n1)).setCell ⟨w.heap.size, 4, none⟩ (.slice none 0 0)) = P1 := ⟨_, rfl⟩
      rw [eP] at hP gP
      obtain ⟨p0, p1, p2, p3, p4⟩ := five_cells hP
      have KQ : Hid (KB (own3 bb fb tb) w P1) := hide (.grow gP)
      have HWQ := hide (HW.out.keep KQ.out)
      have HBQ : Hid (boolsAt P1 bb bad) := hide (gP.get HB.out)
      have HFQ : Hid (marksAt P1 fb F) := hide (gP.get HF.out)
      have HGQ : Hid (marksAt P1 tb G) := hide (gP.get HG.out)
      have hspx : ¬ own3 bb fb tb w.heap.size := fun h => by
       have h1 := lt_of_block HB.out
       have h2 := lt_of_block HF.out
       have h3 := lt_of_block HG.out
       unfold own3 at h
       omega
      have HPB := hide hP
      have HPX := hide hspx
      clear hP hP0 gP0 gP hspx
      obtain ⟨fcp, a3⟩ := wk_from HWQ.out
      obtain ⟨bcp0, a1, a2⟩ := wk_head HWQ.out
      obtain ⟨was, hwas⟩ : ∃ v, F[n1]? = some v := ⟨_, List.getElem?_eq_getElem (by rw [LF.out]; exact hn1g)⟩
      have hwc := HFQ.out.cell hwas
      have HWAS := hide hwas
      have HIH := hide fun W badx Fx Gx (h1 : KB (own3 bb fb tb) w W) (h2 : boolsAt W bb badx) (h3 : marksAt W fb Fx) (h4 : marksAt W tb Gx) (h5 : badx.length = bad.length) (h6 : Fx.length = g + 1) (h7 : Gx.length = g + 1) (h8 : spentG (spots K) t badx f) => IH.out nx p y W badx Fx Gx (by rw [h5]; exact HW.out.keep h1) h2 h3 h4 (by rw [h5]; exact LB.out) h6 h7 HDY.out hnx hp h8
      clear hwas
      go_enter Tryz.func80, Tryz.ntmps80
      go_wp2
      go_quiet (fail)
      obtain ⟨Q1, HQ1⟩ : ∃ Q1, Hid (Q1 = World.drewN P1 nq) := ⟨_, hide rfl⟩
      rw [← HQ1.out]
      have gQ : Grow P1 Q1 := by rw [HQ1.out]; exact ⟨rfl, rfl, rfl, Nat.le_refl _, fun _ _ => rfl⟩
      have KQ := hide (KQ.out.trans (.grow gQ))
      have HWQ := hide (HW.out.keep KQ.out)
      have HBQ : Hid (boolsAt Q1 bb bad) := hide (gQ.get HBQ.out)
      have HFQ : Hid (marksAt Q1 fb F) := hide (gQ.get HFQ.out)
      have HGQ : Hid (marksAt Q1 tb G) := hide (gQ.get HGQ.out)
      have HPB := hide (gQ.get HPB.out)
      clear HQ1 gQ a3 a1 a2 p0 p1 p2 p3 p4 e0 eP x0 x1 x2 x3 x4 z0 z1 z2 z3 z4 s0 s1 s2 s3 s4 hwc
      obtain ⟨fcp, a3⟩ := wk_from HWQ.out
      go_wp2
      refine wp_region_free 8 174 Tryz.mixed2 rfl (by decide +kernel) Grow (fun _ _ _ => Grow.trans) (Grow.refl _)
       (fun i v w' => match i with
        | 0 => v = .pointer (some ⟨wb, 0, none⟩)
        | 1 => v = .pointer (some ⟨wb, 0, none⟩)
        | 2 => v = .pointer (some ⟨wb, 3, none⟩)
        | 3 => v = .slice (some ⟨fb, 0, none⟩) (g + 1) fcp
        | 4 => v = .pointer (some ⟨w.heap.size, 3, none⟩)
        | 5 => v = .int .i64 (n1 : Nat)
        | 6 => v = .int .i64 (p : Nat)
        | _ => v = .pointer (some ⟨fb, n1, none⟩))
       (fun i v w1 w2 h hg => h) (fun _ _ => False) (fun _ _ _ _ h => h.elim) (fun i hi o ho a w2 hG hoff hdep => ?_) (fun vals w2 hG hvals => ?_)
      ·
       have gg : Grow Q1 w2 := hG.undrew
       have b3 := (cell_keep (sp := none) (o := 3) (gg.block wb (wk_lt HWQ.out))).trans a3
       obtain ⟨q0, q1, q2, q3, q4⟩ := five_cells (gg.get HPB.out)
       match i, hi with
       | 0, _ =>
        obtain rfl := Option.some.inj ho
        have o0 := hoff 0 (by decide +kernel)
        simp at o0
        simp [opYields, go_sem, o0]
        exact Grow.refl _
       | 1, _ =>
        obtain rfl := Option.some.inj ho
        have d0 := hdep 0 (by decide +kernel)
        simp [slotOf, dstOf] at d0
        simp [opYields, go_sem, d0]
        exact Grow.refl _
       | 2, _ =>
        obtain rfl := Option.some.inj ho
        have d1 := hdep 1 (by decide +kernel)
        simp [slotOf, dstOf] at d1
        simp [opYields, go_sem, d1]
        exact Grow.refl _
       | 3, _ =>
        obtain rfl := Option.some.inj ho
        have d2 := hdep 2 (by decide +kernel)
        simp [slotOf, dstOf] at d2
        simp [opYields, go_sem, d2, b3]
        exact Grow.refl _
       | 4, _ =>
        obtain rfl := Option.some.inj ho
        have o8 := hoff 8 (by decide +kernel)
        simp at o8
        simp [opYields, go_sem, o8]
        exact Grow.refl _
       | 5, _ =>
        obtain rfl := Option.some.inj ho
        have d4 := hdep 4 (by decide +kernel)
        simp [slotOf, dstOf] at d4
        simp [opYields, go_sem, d4, q3]
        exact Grow.refl _
       | 6, _ =>
        obtain rfl := Option.some.inj ho
        have o2 := hoff 2 (by decide +kernel)
        simp at o2
        simp [opYields, go_sem, o2]
        exact Grow.refl _
       | 7, _ =>
        obtain rfl := Option.some.inj ho
        have d3 := hdep 3 (by decide +kernel)
        simp [slotOf, dstOf] at d3
        have d5 := hdep 5 (by decide +kernel)
        simp [slotOf, dstOf] at d5
        simp [opYields, go_sem, d3, d5, hn1g, hn1i, hn1i2]
        exact Grow.refl _
       | k + 8, h => exact absurd h (by omega)
      ·
       have v6 := hvals 6 (by omega)
       have v7 := hvals 7 (by omega)
       simp only at v6 v7
       have gg : Grow Q1 w2 := hG.undrew
       obtain ⟨c0, hc0⟩ : ∃ v, F[n1]? = some v := ⟨_, HWAS.out⟩
       have hcc := (show marksAt w2 fb F from gg.get HFQ.out).cell HWAS.out
       have hfz := not_frozen (k := n1) (gg.get HFQ.out)
       obtain ⟨Q2, eQ2⟩ : ∃ Q2, w2.setCell ⟨fb, n1, none⟩ (.int .i64 (p : Nat)) = Q2 := ⟨_, rfl⟩
       have KQ : Hid (KB (own3 bb fb tb) w Q2) := by rw [← eQ2]; exact hide ((KQ.out.trans (.grow gg)).trans (KB.set (.inr (.inl rfl)) _))
       have HWQ := hide (HW.out.keep KQ.out)
       have HBQ : Hid (boolsAt Q2 bb bad) := by rw [← eQ2]; exact hide (bools_apart (gg.get HBQ.out) _ hne1)
       have HGQ : Hid (marksAt Q2 tb G) := by rw [← eQ2]; exact hide (marks_apart (gg.get HGQ.out) _ (fun e => hne3 e.symm))
       have HFQ : Hid (marksAt Q2 fb (F.set n1 (p : Nat))) := by rw [← eQ2]; exact hide ((show marksAt w2 fb F from gg.get HFQ.out).set _ _)
       have HPB : Hid (Q2.heap[w.heap.size]? = some (.cells #[.int .i64 3, .int .i64 (nx : Nat), .int .i64 0, .int .i64 (n1 : Nat), .slice none 0 0] 122 (0, 0))) := by rw [← eQ2]; exact hide ((KB.set (X := own3 bb fb tb) (.inr (.inl rfl)) _).get (gg.get HPB.out) HPX.out)
       obtain ⟨q0, q1, q2, q3, q4⟩ := five_cells HPB.out
       clear hG gg hvals c0 hc0 a3
       simp [over, dstOf, Act.put, v6, v7]
       go_wp2_with fail
       clear eQ2
       refine (HIH.out Q2 bad (F.set n1 (p : Nat)) G KQ.out HBQ.out HFQ.out HGQ.out rfl (by simp [LF.out]) (by simp [LG.out]) SP.out.down).mono ?_
       rintro e W3 ⟨rfl, hk3, bad1, hl1, hb1, hn1, hs1⟩
       have KQ := hide (KQ.out.trans hk3)
       have HWQ := hide (HW.out.keep KQ.out)
       have HBQ := hide hb1
       have HLB2 := hide hl1
       have HLT : Hid (M + p < bad1.length) := by rw [hl1]; exact hide hidx
       have HPB := hide (hk3.get HPB.out HPX.out)
       have HNN := hide hn1
       have HSS := hide hs1
       clear hk3 hl1 hb1 hn1 hs1 q0 q1 q2 q3 q4 hcc hfz
       cases y with
       | none =>
        obtain rfl : x = none := hxy
        obtain ⟨hf1, hg1, hv1⟩ := HNN.out rfl
        have HFQ := hide hf1
        have HGQ := hide hg1
        have HV := hide hv1
        clear hf1 hg1 hv1
        simp only [Option.isSome_none]
        obtain ⟨fcp, a3⟩ := wk_from HWQ.out
        go_wp2
        refine wp_region_free 8 174 Tryz.mixed2 rfl (by decide +kernel) Grow (fun _ _ _ => Grow.trans) (Grow.refl _)
         (fun i v w' => match i with
          | 0 => v = .pointer (some ⟨wb, 0, none⟩)
          | 1 => v = .pointer (some ⟨wb, 0, none⟩)
          | 2 => v = .pointer (some ⟨wb, 3, none⟩)
          | 3 => v = .slice (some ⟨fb, 0, none⟩) (g + 1) fcp
          | 4 => v = .pointer (some ⟨w.heap.size, 3, none⟩)
          | 5 => v = .int .i64 (n1 : Nat)
          | 6 => v = .int .i64 was
          | _ => v = .pointer (some ⟨fb, n1, none⟩))
         (fun i v w1 w2 h hg => h) (fun _ _ => False) (fun _ _ _ _ h => h.elim) (fun i hi o ho a w2 hG hoff hdep => ?_) (fun vals w2 hG hvals => ?_)
        ·
         have gg : Grow W3 w2 := hG.undrew
         have b3 := (cell_keep (sp := none) (o := 3) (gg.block wb (wk_lt HWQ.out))).trans a3
         obtain ⟨q0, q1, q2, q3, q4⟩ := five_cells (gg.get HPB.out)
         match i, hi with
         | 0, _ =>
          obtain rfl := Option.some.inj ho
          have o0 := hoff 0 (by decide +kernel)
          simp at o0
          simp [opYields, go_sem, o0]
          exact Grow.refl _
         | 1, _ =>
          obtain rfl := Option.some.inj ho
          have d0 := hdep 0 (by decide +kernel)
          simp [slotOf, dstOf] at d0
          simp [opYields, go_sem, d0]
          exact Grow.refl _
         | 2, _ =>
          obtain rfl := Option.some.inj ho
          have d1 := hdep 1 (by decide +kernel)
          simp [slotOf, dstOf] at d1
          simp [opYields, go_sem, d1]
          exact Grow.refl _
         | 3, _ =>
          obtain rfl := Option.some.inj ho
          have d2 := hdep 2 (by decide +kernel)
          simp [slotOf, dstOf] at d2
          simp [opYields, go_sem, d2, b3]
          exact Grow.refl _
         | 4, _ =>
          obtain rfl := Option.some.inj ho
          have o8 := hoff 8 (by decide +kernel)
          simp at o8
          simp [opYields, go_sem, o8]
          exact Grow.refl _
         | 5, _ =>
          obtain rfl := Option.some.inj ho
          have d4 := hdep 4 (by decide +kernel)
          simp [slotOf, dstOf] at d4
          simp [opYields, go_sem, d4, q3]
          exact Grow.refl _
         | 6, _ =>
          obtain rfl := Option.some.inj ho
          have o10 := hoff 10 (by decide +kernel)
          simp at o10
          simp [opYields, go_sem, o10]
          exact Grow.refl _
         | 7, _ =>
          obtain rfl := Option.some.inj ho
          have d3 := hdep 3 (by decide +kernel)
          simp [slotOf, dstOf] at d3
          have d5 := hdep 5 (by decide +kernel)
          simp [slotOf, dstOf] at d5
          simp [opYields, go_sem, d3, d5, hn1g, hn1i, hn1i2]
          exact Grow.refl _
         | k + 8, h => exact absurd h (by omega)
        ·
         have v6 := hvals 6 (by omega)
         have v7 := hvals 7 (by omega)
         simp only at v6 v7
         have gg : Grow W3 w2 := hG.undrew
         have hcc := (show marksAt w2 fb (F.set n1 (p : Nat)) from gg.get HFQ.out).cell (k := n1) (List.getElem?_set_self (by rw [LF.out]; exact hn1g))
         have hfz := not_frozen (k := n1) (gg.get HFQ.out)
         obtain ⟨Q3, eQ3⟩ : ∃ Q3, w2.setCell ⟨fb, n1, none⟩ (.int .i64 was) = Q3 := ⟨_, rfl⟩
         have KQ : Hid (KB (own3 bb fb tb) w Q3) := by rw [← eQ3]; exact hide ((KQ.out.trans (.grow gg)).trans (KB.set (.inr (.inl rfl)) _))
         have HWQ := hide (HW.out.keep KQ.out)
         have HBQ : Hid (boolsAt Q3 bb bad1) := by rw [← eQ3]; exact hide (bools_apart (gg.get HBQ.out) _ hne1)
         have HGQ : Hid (marksAt Q3 tb G) := by rw [← eQ3]; exact hide (marks_apart (gg.get HGQ.out) _ (fun e => hne3 e.symm))
         have HFQ : Hid (marksAt Q3 fb F) := by
          have h := (show marksAt w2 fb (F.set n1 (p : Nat)) from gg.get HFQ.out).set n1 was
          rw [eQ3, List.set_set, set_back HWAS.out] at h
          exact hide h
         clear hG gg hvals a3
         simp [over, dstOf, Act.put, v6, v7]
         obtain ⟨a3, a4, a0, a1, a2, a5⟩ := wk_cells HWQ.out
         have hbm := HLT.out
         have hgb := List.getElem?_eq_getElem hbm
         have bq := HBQ.out.cell hgb
         have fbq := not_frozen (k := M + p) HBQ.out
         clear hgb
         go_wp2
         go_ret
         exact ⟨ret_bool (by simp), KQ.out.trans (KB.set (.inl rfl) _), _, List.length_set.trans HLB2.out, HBQ.out.set _ _, fun _ => ⟨marks_apart HFQ.out _ (fun e => hne1 e.symm), marks_apart HGQ.out _ (fun e => hne2 e.symm), by rw [← HM.out]; exact HV.out.note hp D.out⟩, fun l h => by cases h⟩
       | some lv =>
        obtain rfl : x = some ((sl, p) :: lv) := hxy
        obtain ⟨hf1, hg1⟩ := HSS.out lv rfl
        have HFQ := hide hf1
        have HGQ := hide hg1
        clear hf1 hg1
        have HPF : Hid (putE 0 F ((sl, p) :: lv) = putE 0 (F.set n1 (p : Nat)) lv) := by
         refine hide ?_
         rw [putE, if_pos (by omega), HN1.out]
        have HPG : Hid (putE 1 G ((sl, p) :: lv) = putE 1 G lv) := by
         refine hide ?_
         rw [putE, if_neg (by omega)]
        rw [← HPF.out] at HFQ
        rw [← HPG.out] at HGQ
        simp only [Option.isSome_some]
        obtain ⟨a3, a4, a0, a1, a2, a5⟩ := wk_cells HWQ.out
        have hbm := HLT.out
        have hgb := List.getElem?_eq_getElem hbm
        have bq := HBQ.out.cell hgb
        have fbq := not_frozen (k := M + p) HBQ.out
        clear hgb
        go_wp2
        go_ret
        exact ⟨ret_bool (by simp), KQ.out.trans (KB.set (.inl rfl) _), _, List.length_set.trans HLB2.out, HBQ.out.set _ _, fun h => (by cases h), fun l h => by cases h; exact ⟨marks_apart HFQ.out _ (fun e => hne1 e.symm), marks_apart HGQ.out _ (fun e => hne2 e.symm)⟩⟩
     ·
      have hys : ys = _ := hspo
      rw [if_neg (by omega)] at hys
      subst hys
      have s0 := hcl 0 _ (by omega) rfl
      rw [Nat.add_zero] at s0
      have s1 := hcl 1 _ (by omega) rfl
      have s2 := hcl 2 _ (by omega) rfl
      have s3 := hcl 3 _ (by omega) rfl
      have s4 := hcl 4 _ (by omega) rfl
      obtain ⟨n1, hn1⟩ : ∃ n1 : Nat, sl / 2 + 1 = n1 := ⟨_, rfl⟩
      rw [hn1] at s3
      have hnx : nx < K.length := HOK.out.2
      have hn1g : n1 < g + 1 := by have := HOK.out.1; omega
      have hn1i : (n1 : Int) < ((g + 1 : Nat) : Int) := by omega
      have hn1i2 : (n1 : Int) < (g : Int) + 1 := by omega
      obtain ⟨y, hy, hxy⟩ : ∃ y, den (spots K) t f nx p = some y ∧ x = marked sl p y := by
       have h := D.out
       rw [den, HS.out] at h
       obtain ⟨y, h1, h2⟩ := map_some h
       exact ⟨y, h1, h2⟩
      have HDY := hide hy
      have HSL := hide hsl
      have HN1 := hide hn1
      clear hcl hy hn1
      obtain ⟨P0, e0⟩ : ∃ P0, w.alloc (.cells #[.int .i64 0, .int .i64 0, .int .i64 0, .int .i64 0, .slice none 0 0] 122) = P0 := ⟨_, rfl⟩
      have hP0 : P0.heap[w.heap.size]? = some (.cells #[.int .i64 0, .int .i64 0, .int .i64 0, .int .i64 0, .slice none 0 0] 122 (0, 0)) := by rw [← e0]; exact heap_alloc_new _ _
      have gP0 : Grow w P0 := by rw [← e0]; exact (Grow.refl _).alloc _
      obtain ⟨x0, x1, x2, x3, x4⟩ := five_cells hP0
      have z0 := not_frozen (k := 0) hP0
      have z1 := not_frozen (k := 1) hP0
      have z2 := not_frozen (k := 2) hP0
      have z3 := not_frozen (k := 3) hP0
      have z4 := not_frozen (k := 4) hP0
      have hP := set_five hP0 (.int .i64 4) (.int .i64 nx) (.int .i64 0) (.int .i64 n1) (.slice none 0 0)
      have gP : Grow w _ := grow_five gP0 (Nat.le_refl _) (.int .i64 4) (.int .i64 nx) (.int .i64 0) (.int .i64 n1) (.slice none 0 0)
      obtain ⟨P1, eP⟩ : ∃ P1, (((((P0.setCell ⟨w.heap.size, 0, none⟩ (.int .i64 4)).setCell ⟨w.heap.size, 1, none⟩ (.int .i64 nx)).setCell ⟨w.heap.size, 2, none⟩ (.int .i64 0)).setCell ⟨w.heap.size, 3, none⟩ (.int .i64 n1)).setCell ⟨w.heap.size, 4, none⟩ (.slice none 0 0)) = P1 := ⟨_, rfl⟩
      rw [eP] at hP gP
      obtain ⟨p0, p1, p2, p3, p4⟩ := five_cells hP
      have KQ : Hid (KB (own3 bb fb tb) w P1) := hide (.grow gP)
      have HWQ := hide (HW.out.keep KQ.out)
      have HBQ : Hid (boolsAt P1 bb bad) := hide (gP.get HB.out)
      have HFQ : Hid (marksAt P1 fb F) := hide (gP.get HF.out)
      have HGQ : Hid (marksAt P1 tb G) := hide (gP.get HG.out)
      have hspx : ¬ own3 bb fb tb w.heap.size := fun h => by
       have h1 := lt_of_block HB.out
       have h2 := lt_of_block HF.out
       have h3 := lt_of_block HG.out
       unfold own3 at h
       omega
      have HPB := hide hP
      have HPX := hide hspx
      clear hP hP0 gP0 gP hspx
      obtain ⟨fcp, a4⟩ := wk_to HWQ.out
      obtain ⟨bcp0, a1, a2⟩ := wk_head HWQ.out
      obtain ⟨was, hwas⟩ : ∃ v, G[n1]? = some v := ⟨_, List.getElem?_eq_getElem (by rw [LG.out]; exact hn1g)⟩
      have hwc := HGQ.out.cell hwas
      have HWAS := hide hwas
      have HIH := hide fun W badx Fx Gx (h1 : KB (own3 bb fb tb) w W) (h2 : boolsAt W bb badx) (h3 : marksAt W fb Fx) (h4 : marksAt W tb Gx) (h5 : badx.length = bad.length) (h6 : Fx.length = g + 1) (h7 : Gx.length = g + 1) (h8 : spentG (spots K) t badx f) => IH.out nx p y W badx Fx Gx (by rw [h5]; exact HW.out.keep h1) h2 h3 h4 (by rw [h5]; exact LB.out) h6 h7 HDY.out hnx hp h8
      clear hwas
      go_enter Tryz.func80, Tryz.ntmps80
      go_wp2
      go_quiet (fail)
      obtain ⟨Q1, HQ1⟩ : ∃ Q1, Hid (Q1 = World.drewN P1 nq) := ⟨_, hide rfl⟩
      rw [← HQ1.out]
      have gQ : Grow P1 Q1 := by rw [HQ1.out]; exact ⟨rfl, rfl, rfl, Nat.le_refl _, fun _ _ => rfl⟩
      have KQ := hide (KQ.out.trans (.grow gQ))
      have HWQ := hide (HW.out.keep KQ.out)
      have HBQ : Hid (boolsAt Q1 bb bad) := hide (gQ.get HBQ.out)
      have HFQ : Hid (marksAt Q1 fb F) := hide (gQ.get HFQ.out)
      have HGQ : Hid (marksAt Q1 tb G) := hide (gQ.get HGQ.out)
      have HPB := hide (gQ.get HPB.out)
      clear HQ1 gQ a4 a1 a2 p0 p1 p2 p3 p4 e0 eP x0 x1 x2 x3 x4 z0 z1 z2 z3 z4 s0 s1 s2 s3 s4 hwc
      obtain ⟨fcp, a4⟩ := wk_to HWQ.out
      go_wp2
      refine wp_region_free 8 174 Tryz.mixed2 rfl (by decide +kernel) Grow (fun _ _ _ => Grow.trans) (Grow.refl _)
       (fun i v w' => match i with
        | 0 => v = .pointer (some ⟨wb, 0, none⟩)
        | 1 => v = .pointer (some ⟨wb, 0, none⟩)
        | 2 => v = .pointer (some ⟨wb, 4, none⟩)
        | 3 => v = .slice (some ⟨tb, 0, none⟩) (g + 1) fcp
        | 4 => v = .pointer (some ⟨w.heap.size, 3, none⟩)
        | 5 => v = .int .i64 (n1 : Nat)
        | 6 => v = .int .i64 (p : Nat)
        | _ => v = .pointer (some ⟨tb, n1, none⟩))
       (fun i v w1 w2 h hg => h) (fun _ _ => False) (fun _ _ _ _ h => h.elim) (fun i hi o ho a w2 hG hoff hdep => ?_) (fun vals w2 hG hvals => ?_)
      ·
       have gg : Grow Q1 w2 := hG.undrew
       have b4 := (cell_keep (sp := none) (o := 4) (gg.block wb (wk_lt HWQ.out))).trans a4
       obtain ⟨q0, q1, q2, q3, q4⟩ := five_cells (gg.get HPB.out)
       match i, hi with
       | 0, _ =>
        obtain rfl := Option.some.inj ho
        have o0 := hoff 0 (by decide +kernel)
        simp at o0
        simp [opYields, go_sem, o0]
        exact Grow.refl _
       | 1, _ =>
        obtain rfl := Option.some.inj ho
        have d0 := hdep 0 (by decide +kernel)
        simp [slotOf, dstOf] at d0
        simp [opYields, go_sem, d0]
        exact Grow.refl _
       | 2, _ =>
        obtain rfl := Option.some.inj ho
        have d1 := hdep 1 (by decide +kernel)
        simp [slotOf, dstOf] at d1
        simp [opYields, go_sem, d1]
        exact Grow.refl _
       | 3, _ =>
        obtain rfl := Option.some.inj ho
        have d2 := hdep 2 (by decide +kernel)
        simp [slotOf, dstOf] at d2
        simp [opYields, go_sem, d2, b4]
        exact Grow.refl _
       | 4, _ =>
        obtain rfl := Option.some.inj ho
        have o8 := hoff 8 (by decide +kernel)
        simp at o8
        simp [opYields, go_sem, o8]
        exact Grow.refl _
       | 5, _ =>
        obtain rfl := Option.some.inj ho
        have d4 := hdep 4 (by decide +kernel)
        simp [slotOf, dstOf] at d4
        simp [opYields, go_sem, d4, q3]
        exact Grow.refl _
       | 6, _ =>
        obtain rfl := Option.some.inj ho
        have o2 := hoff 2 (by decide +kernel)
        simp at o2
        simp [opYields, go_sem, o2]
        exact Grow.refl _
       | 7, _ =>
        obtain rfl := Option.some.inj ho
        have d3 := hdep 3 (by decide +kernel)
        simp [slotOf, dstOf] at d3
        have d5 := hdep 5 (by decide +kernel)
        simp [slotOf, dstOf] at d5
        simp [opYields, go_sem, d3, d5, hn1g, hn1i, hn1i2]
        exact Grow.refl _
       | k + 8, h => exact absurd h (by omega)
      ·
       have v6 := hvals 6 (by omega)
       have v7 := hvals 7 (by omega)
       simp only at v6 v7
       have gg : Grow Q1 w2 := hG.undrew
       obtain ⟨c0, hc0⟩ : ∃ v, G[n1]? = some v := ⟨_, HWAS.out⟩
       have hcc := (show marksAt w2 tb G from gg.get HGQ.out).cell HWAS.out
       have hfz := not_frozen (k := n1) (gg.get HGQ.out)
       obtain ⟨Q2, eQ2⟩ : ∃ Q2, w2.setCell ⟨tb, n1, none⟩ (.int .i64 (p : Nat)) = Q2 := ⟨_, rfl⟩
       have KQ : Hid (KB (own3 bb fb tb) w Q2) := by rw [← eQ2]; exact hide ((KQ.out.trans (.grow gg)).trans (KB.set (.inr (.inr rfl)) _))
       have HWQ := hide (HW.out.keep KQ.out)
       have HBQ : Hid (boolsAt Q2 bb bad) := by rw [← eQ2]; exact hide (bools_apart (gg.get HBQ.out) _ hne2)
       have HFQ : Hid (marksAt Q2 fb F) := by rw [← eQ2]; exact hide (marks_apart (gg.get HFQ.out) _ hne3)
       have HGQ : Hid (marksAt Q2 tb (G.set n1 (p : Nat))) := by rw [← eQ2]; exact hide ((show marksAt w2 tb G from gg.get HGQ.out).set _ _)
       have HPB : Hid (Q2.heap[w.heap.size]? = some (.cells #[.int .i64 4, .int .i64 (nx : Nat), .int .i64 0, .int .i64 (n1 : Nat), .slice none 0 0] 122 (0, 0))) := by rw [← eQ2]; exact hide ((KB.set (X := own3 bb fb tb) (.inr (.inr rfl)) _).get (gg.get HPB.out) HPX.out)
       obtain ⟨q0, q1, q2, q3, q4⟩ := five_cells HPB.out
       clear hG gg hvals c0 hc0 a4
       simp [over, dstOf, Act.put, v6, v7]
       go_wp2_with fail
       clear eQ2
       refine (HIH.out Q2 bad F (G.set n1 (p : Nat)) KQ.out HBQ.out HFQ.out HGQ.out rfl (by simp [LF.out]) (by simp [LG.out]) SP.out.down).mono ?_
       rintro e W3 ⟨rfl, hk3, bad1, hl1, hb1, hn1, hs1⟩
       have KQ := hide (KQ.out.trans hk3)
       have HWQ := hide (HW.out.keep KQ.out)
       have HBQ := hide hb1
       have HLB2 := hide hl1
       have HLT : Hid (M + p < bad1.length) := by rw [hl1]; exact hide hidx
       have HPB := hide (hk3.get HPB.out HPX.out)
       have HNN := hide hn1
       have HSS := hide hs1
       clear hk3 hl1 hb1 hn1 hs1 q0 q1 q2 q3 q4 hcc hfz
       cases y with
       | none =>
        obtain rfl : x = none := hxy
        obtain ⟨hf1, hg1, hv1⟩ := HNN.out rfl
        have HFQ := hide hf1
        have HGQ := hide hg1
        have HV := hide hv1
        clear hf1 hg1 hv1
        simp only [Option.isSome_none]
        obtain ⟨fcp, a4⟩ := wk_to HWQ.out
        go_wp2
        refine wp_region_free 8 174 Tryz.mixed2 rfl (by decide +kernel) Grow (fun _ _ _ => Grow.trans) (Grow.refl _)
         (fun i v w' => match i with
          | 0 => v = .pointer (some ⟨wb, 0, none⟩)
          | 1 => v = .pointer (some ⟨wb, 0, none⟩)
          | 2 => v = .pointer (some ⟨wb, 4, none⟩)
          | 3 => v = .slice (some ⟨tb, 0, none⟩) (g + 1) fcp
          | 4 => v = .pointer (some ⟨w.heap.size, 3, none⟩)
          | 5 => v = .int .i64 (n1 : Nat)
          | 6 => v = .int .i64 was
          | _ => v = .pointer (some ⟨tb, n1, none⟩))
         (fun i v w1 w2 h hg => h) (fun _ _ => False) (fun _ _ _ _ h => h.elim) (fun i hi o ho a w2 hG hoff hdep => ?_) (fun vals w2 hG hvals => ?_)
        ·
         have gg : Grow W3 w2 := hG.undrew
         have b4 := (cell_keep (sp := none) (o := 4) (gg.block wb (wk_lt HWQ.out))).trans a4
         obtain ⟨q0, q1, q2, q3, q4⟩ := five_cells (gg.get HPB.out)
         match i, hi with
         | 0, _ =>
          obtain rfl := Option.some.inj ho
          have o0 := hoff 0 (by decide +kernel)
          simp at o0
          simp [opYields, go_sem, o0]
          exact Grow.refl _
         | 1, _ =>
          obtain rfl := Option.some.inj ho
          have d0 := hdep 0 (by decide +kernel)
          simp [slotOf, dstOf] at d0
          simp [opYields, go_sem, d0]
          exact Grow.refl _
         | 2, _ =>
          obtain rfl := Option.some.inj ho
          have d1 := hdep 1 (by decide +kernel)
          simp [slotOf, dstOf] at d1
          simp [opYields, go_sem, d1]
          exact Grow.refl _
         | 3, _ =>
          obtain rfl := Option.some.inj ho
          have d2 := hdep 2 (by decide +kernel)
          simp [slotOf, dstOf] at d2
          simp [opYields, go_sem, d2, b4]
          exact Grow.refl _
         | 4, _ =>
          obtain rfl := Option.some.inj ho
          have o8 := hoff 8 (by decide +kernel)
          simp at o8
          simp [opYields, go_sem, o8]
          exact Grow.refl _
         | 5, _ =>
          obtain rfl := Option.some.inj ho
          have d4 := hdep 4 (by decide +kernel)
          simp [slotOf, dstOf] at d4
          simp [opYields, go_sem, d4, q3]
          exact Grow.refl _
         | 6, _ =>
          obtain rfl := Option.some.inj ho
          have o11 := hoff 11 (by decide +kernel)
          simp at o11
          simp [opYields, go_sem, o11]
          exact Grow.refl _
         | 7, _ =>
          obtain rfl := Option.some.inj ho
          have d3 := hdep 3 (by decide +kernel)
          simp [slotOf, dstOf] at d3
          have d5 := hdep 5 (by decide +kernel)
          simp [slotOf, dstOf] at d5
          simp [opYields, go_sem, d3, d5, hn1g, hn1i, hn1i2]
          exact Grow.refl _
         | k + 8, h => exact absurd h (by omega)
        ·
         have v6 := hvals 6 (by omega)
         have v7 := hvals 7 (by omega)
         simp only at v6 v7
         have gg : Grow W3 w2 := hG.undrew
         have hcc := (show marksAt w2 tb (G.set n1 (p : Nat)) from gg.get HGQ.out).cell (k := n1) (List.getElem?_set_self (by rw [LG.out]; exact hn1g))
         have hfz := not_frozen (k := n1) (gg.get HGQ.out)
         obtain ⟨Q3, eQ3⟩ : ∃ Q3, w2.setCell ⟨tb, n1, none⟩ (.int .i64 was) = Q3 := ⟨_, rfl⟩
         have KQ : Hid (KB (own3 bb fb tb) w Q3) := by rw [← eQ3]; exact hide ((KQ.out.trans (.grow gg)).trans (KB.set (.inr (.inr rfl)) _))
         have HWQ := hide (HW.out.keep KQ.out)
         have HBQ : Hid (boolsAt Q3 bb bad1) := by rw [← eQ3]; exact hide (bools_apart (gg.get HBQ.out) _ hne2)
         have HFQ : Hid (marksAt Q3 fb F) := by rw [← eQ3]; exact hide (marks_apart (gg.get HFQ.out) _ hne3)
         have HGQ : Hid (marksAt Q3 tb G) := by
          have h := (show marksAt w2 tb (G.set n1 (p : Nat)) from gg.get HGQ.out).set n1 was
          rw [eQ3, List.set_set, set_back HWAS.out] at h
          exact hide h
         clear hG gg hvals a4
         simp [over, dstOf, Act.put, v6, v7]
         obtain ⟨a3, a4, a0, a1, a2, a5⟩ := wk_cells HWQ.out
         have hbm := HLT.out
         have hgb := List.getElem?_eq_getElem hbm
         have bq := HBQ.out.cell hgb
         have fbq := not_frozen (k := M + p) HBQ.out
         clear hgb
         go_wp2
         go_ret
         exact ⟨ret_bool (by simp), KQ.out.trans (KB.set (.inl rfl) _), _, List.length_set.trans HLB2.out, HBQ.out.set _ _, fun _ => ⟨marks_apart HFQ.out _ (fun e => hne1 e.symm), marks_apart HGQ.out _ (fun e => hne2 e.symm), by rw [← HM.out]; exact HV.out.note hp D.out⟩, fun l h => by cases h⟩
       | some lv =>
        obtain rfl : x = some ((sl, p) :: lv) := hxy
        obtain ⟨hf1, hg1⟩ := HSS.out lv rfl
        have HFQ := hide hf1
        have HGQ := hide hg1
        clear hf1 hg1
        have HPF : Hid (putE 0 F ((sl, p) :: lv) = putE 0 F lv) := by
         refine hide ?_
         rw [putE, if_neg (by omega)]
        have HPG : Hid (putE 1 G ((sl, p) :: lv) = putE 1 (G.set n1 (p : Nat)) lv) := by
         refine hide ?_
         rw [putE, if_pos (by omega), HN1.out]
        rw [← HPF.out] at HFQ
        rw [← HPG.out] at HGQ
        simp only [Option.isSome_some]
        obtain ⟨a3, a4, a0, a1, a2, a5⟩ := wk_cells HWQ.out
        have hbm := HLT.out
        have hgb := List.getElem?_eq_getElem hbm
        have bq := HBQ.out.cell hgb
        have fbq := not_frozen (k := M + p) HBQ.out
        clear hgb
        go_wp2
        go_ret
        exact ⟨ret_bool (by simp), KQ.out.trans (KB.set (.inl rfl) _), _, List.length_set.trans HLB2.out, HBQ.out.set _ _, fun h => (by cases h), fun l h => by cases h; exact ⟨marks_apart HFQ.out _ (fun e => hne1 e.symm), marks_apart HGQ.out _ (fun e => hne2 e.symm)⟩⟩
end Go.Proofs.YtndpjdmfkhjiiaaGreatDoor
