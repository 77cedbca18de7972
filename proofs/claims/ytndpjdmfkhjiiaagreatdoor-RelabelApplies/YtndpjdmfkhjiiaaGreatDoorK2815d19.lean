/- 1 texts in one. -/
import Derived.Laws.OwnMore
import Derived.Test.YtndpjdmfkhjiiaaGreatDoorProg
import Derived.Test.YtndpjdmfkhjiiaaGreatDoorK06d19db
import Derived.Test.YtndpjdmfkhjiiaaGreatDoorKb583056
import Derived.Test.YtndpjdmfkhjiiaaGreatDoorKf25e925
import Derived.Test.YtndpjdmfkhjiiaaGreatDoorKbcd5023
import Derived.Test.YtndpjdmfkhjiiaaGreatDoorKab9fbe2
import Derived.Test.YtndpjdmfkhjiiaaGreatDoorK98fb42d
import Derived.Test.YtndpjdmfkhjiiaaGreatDoorKa585d5f
import Derived.Test.YtndpjdmfkhjiiaaGreatDoorKd930502
import Derived.Test.YtndpjdmfkhjiiaaGreatDoorKf8fa243
import Derived.Test.YtndpjdmfkhjiiaaGreatDoorK0690efd
import Derived.Test.YtndpjdmfkhjiiaaGreatDoorKfdb3b36
import Derived.BigQuiet
set_option linter.unusedVariables false
set_option linter.unusedSimpArgs false
namespace Go.Proofs.YtndpjdmfkhjiiaaGreatDoor
open Go.RowKit
attribute [local go_sem] bs_size bs_toList bs_append bs_get bs_extract
def layD (rs : List Tr) (b nx : Nat) : List Kind × Nat := if rs = [] then ([], 0) else layK (rowsOf rs .nil) b nx
theorem layD_one (r : Tr) (b nx : Nat) : layD [r] b nx = layK r b nx := rfl
theorem wf_rowsOf : ∀ {rs : List Tr}, rs ≠ [] → (∀ r ∈ rs, wf false r) → wf true (rowsOf rs .nil)
 | [], h, _ => absurd rfl h
 | [r], _, h => h r (by simp)
 | r :: x :: rs, _, h => wf_row (h r (by simp)) (wf_rowsOf (rs := x :: rs) (by simp) fun y hy => h y (List.mem_cons_of_mem _ hy))
theorem layD_cons {r : Tr} {rs : List Tr} (hn : rs ≠ []) (h : ∀ r ∈ rs, wf false r) (b nx : Nat) : layD (r :: rs) b nx =
  ((layD rs b nx).1 ++ ((layK r (b + (layD rs b nx).1.length) nx).1 ++ [.fork [(layK r (b + (layD rs b nx).1.length) nx).2, (layD rs b nx).2]]), b + (layD rs b nx).1.length + (layK r (b + (layD rs b nx).1.length) nx).1.length) := by
 unfold layD
 rw [if_neg (by simp), if_neg hn]
 exact layK_row (wf_rowsOf hn h) b nx
theorem layD_len (rs : List Tr) (b nx : Nat) : (layD rs b nx).1.length ≤ szK (rowsOf rs .nil) := by
 unfold layD
 split
 ·
  simp
 ·
  exact layK_len _ _ _
theorem szK_rows (r : Tr) (rs : List Tr) : szK (rowsOf (r :: rs) .nil) = szK r + 1 + szK (rowsOf rs .nil) := rfl
theorem szK_rows_drop (rs : List Tr) : ∀ j, szK (rowsOf (rs.drop j) .nil) ≤ szK (rowsOf rs .nil) := by
 induction rs with
 | nil => intro j; simp
 | cons r rs ih =>
  intro j
  cases j with
  | zero => exact Nat.le_refl _
  | succ j =>
   have := ih j
   rw [szK_rows]
   simp only [List.drop_succ_cons]
   omega
theorem szK_row (it : Item) (l : List Item) : szK (rowT (it :: l) .nil) = szI it + szK (rowT l .nil) := szK_on it _
theorem szK_row_drop (l : List Item) : ∀ q, szK (rowT (l.drop q) .nil) ≤ szK (rowT l .nil) := by
 induction l with
 | nil => intro q; simp
 | cons it l ih =>
  intro q
  cases q with
  | zero => exact Nat.le_refl _
  | succ q =>
   have := ih q
   rw [szK_row]
   simp only [List.drop_succ_cons]
   omega
theorem rowT_lenK : ∀ l : List Item, l.length ≤ szK (rowT l .nil)
 | [] => Nat.zero_le _
 | it :: l => by
  have := rowT_lenK l
  rw [szK_row, List.length_cons]
  cases it <;> simp only [szI] <;> omega
theorem rowsOf_lenK : ∀ rs : List Tr, rs.length ≤ szK (rowsOf rs .nil)
 | [] => Nat.zero_le _
 | r :: rs => by
  have := rowsOf_lenK rs
  rw [szK_rows, List.length_cons]
  omega
theorem drop_get {α : Type} {l : List α} {q : Nat} {x : α} (h : l[q]? = some x) : l.drop q = x :: l.drop (q + 1) := by
 obtain ⟨h1, rfl⟩ := List.getElem?_eq_some_iff.1 h
 exact List.drop_eq_getElem_cons h1
set_option maxRecDepth 20000 in
set_option maxHeartbeats 8000000 in
theorem rlay_any : ∀ (n : Nat) (T : Tr), sz T ≤ n → wf true T → RLay T := by
 intro n
 induction n using Nat.strongRecOn with
 | _ n ih =>
  intro T hn hwf w B lb L v k ys nx hl hv hc hL
  obtain ⟨rs, hrs, rfl, hparts⟩ := (wf_parts T).2 hwf
  obtain ⟨hlen, hrows⟩ := cellsAt_rows hc
  have hyk := own_len hv
  have hrk : k = rs.length := by omega
  subst hrk
  have hrl := rowsOf_lenK rs
  have hk0 : 0 < rs.length := List.length_pos_iff.2 hrs
  obtain ⟨vb, vc, rfl, hvb, _⟩ := own_first hv hk0
  have HVC : Hid (∀ W, LFrame B w W → ∀ i u, ys[i]? = some u → W.cell? ⟨vb, i, none⟩ = some u) := hide fun W hf i u hu => own_cell (own_frame hv hf (by decide) (by decide)) hu
  have HIH : Hid (∀ T', sz T' < sz (rowsOf rs .nil) → wf true T' → RLay T') := hide fun T' h1 h2 => ih (sz T') (by omega) T' (Nat.le_refl _) h2
  have HP := hide hparts
  have HR := hide hrows
  have HL0 := hide hl
  have hne : Hid (rs ≠ []) := hide hrs
  have HFIN : Hid (layK (rowsOf rs .nil) L.length nx = layD rs L.length nx) := hide (by unfold layD; rw [if_neg hrs])
  clear ih hc hv hparts hrows hl hrs hlen hyk hn
  rw [HFIN.out]
  go_enter Tryz.func78, Tryz.ntmps78
  go_wp2
  go_loopw [7, 8] (fun av iv W => ∃ (j : Nat) (z : Int), j ≤ rs.length ∧ iv = .int .i64 z ∧ z = (j : Int) - 1 ∧ (∃ a : Int, av = .int .i64 a ∧ Hid (a = if j = rs.length then (-1 : Int) else (((layD (rs.drop j) L.length nx).2 : Nat) : Int))) ∧ Hid (LFrame B w W) ∧ Hid (layAt W B lb (L ++ (layD (rs.drop j) L.length nx).1))) (fun _ iv _ => (intOf iv + 1).toNat)
  case atStart =>
   refine ⟨rs.length, (rs.length : Int) - 1, Nat.le_refl _, by go_num, rfl, ⟨-1, rfl, hide (by simp)⟩, hide (.refl _ _), ?_⟩
   rw [List.drop_length]
   exact hide (by simpa [layD] using HL0.out)
  case round =>
   obtain ⟨j, z, hj, rfl, hz, ⟨a, rfl, HA⟩, HF, HLY⟩ := hrel
   rename World => W
   cases j with
   | zero =>
    have hz1 : z = -1 := by omega
    subst hz1
    have ha : a = ((layD rs L.length nx).2 : Nat) := by
     have h := HA.out
     rw [if_neg (by omega)] at h
     exact h
    subst ha
    clear hz HA
    go_wp2
    go_ret
    exact ⟨rfl, HF.out, HLY.out⟩
   | succ j =>
    have hz1 : z = (j : Int) := by omega
    subst hz1
    clear hz
    have hji : (j : Int) < (rs.length : Int) := by omega
    obtain ⟨r, hr⟩ : ∃ r, rs[j]? = some r := ⟨_, List.getElem?_eq_getElem (by omega)⟩
    obtain ⟨rv, hyi, kr, zs, hrow, _, hcr⟩ := HR.out j r hr
    obtain ⟨hwr, hsr⟩ := HP.out r (List.mem_of_getElem? hr)
    obtain ⟨l, rfl, hits⟩ := (wf_parts r).1 hwr
    obtain ⟨hzl, hitem⟩ := cellsAt_item hcr
    have hzk := own_len hrow
    have hkl : kr = l.length := by omega
    subst hkl
    obtain ⟨ro, rc, rfl⟩ := own_shape hrow
    have HI := hide hitem
    have HITS := hide hits
    have HROW := hide hrow
    have hrc := HVC.out W HF.out j _ hyi
    have HYI := hide hyi
    have hdrop := drop_get hr
    have hs1 := szK_rows_drop rs j
    rw [hdrop, szK_rows] at hs1
    have hs2 := layD_len (rs.drop (j + 1)) L.length nx
    obtain ⟨X, HX⟩ : ∃ X, Hid (layD (rs.drop (j + 1)) L.length nx = X) := ⟨_, hide rfl⟩
    rw [HX.out] at hs2 HLY HA
    obtain ⟨L1, hL1⟩ : ∃ L1, L ++ X.1 = L1 := ⟨_, rfl⟩
    have hL1n : L1.length = L.length + X.1.length := by rw [← hL1, List.length_append]
    rw [hL1] at HLY
    have HL1 := hide hL1
    have HDROP := hide hdrop
    have hll := rowT_lenK l
    clear hits hitem hrow hcr hyi hzl hzk hwr hL1 hdrop
    go_wp2
    go_loopw [9, 10] (fun rowv kv W2 => ∃ (q : Nat) (z2 : Int), q ≤ l.length ∧ kv = .int .i64 z2 ∧ z2 = (q : Int) - 1 ∧ rowv = .int .i64 ((layK (rowT (l.drop q) .nil) L1.length nx).2 : Nat) ∧ Hid (LFrame B w W2) ∧ Hid (layAt W2 B lb (L1 ++ (layK (rowT (l.drop q) .nil) L1.length nx).1))) (fun _ kv _ => (intOf kv + 1).toNat)
    case atStart =>
     refine ⟨l.length, (l.length : Int) - 1, Nat.le_refl _, by go_num, rfl, ?_, HF, ?_⟩
     ·
      rw [List.drop_length]; rfl
     ·
      rw [List.drop_length]
      exact hide (by simpa [rowT, layK] using HLY.out)
    case round =>
     obtain ⟨q, z2, hq, rfl, hz2, rfl, HF2, HLY2⟩ := hrel
     rename World => W2
     have hrc2 := HVC.out W2 HF2.out j _ HYI.out
     cases q with
     | zero =>
      have hz3 : z2 = -1 := by omega
      subst hz3
      clear hz2
      rw [List.drop_zero] at HLY2 ⊢
      have hlr := layK_len (rowT l .nil) L1.length nx
      obtain ⟨Y, HY⟩ : ∃ Y, Hid (layK (rowT l .nil) L1.length nx = Y) := ⟨_, hide rfl⟩
      rw [HY.out] at HLY2 hlr ⊢
      have hsum : L1.length + Y.1.length ≤ 100000 := by omega
      by_cases hlast : j + 1 = rs.length
      ·
       have hd1 : rs.drop (j + 1) = [] := List.drop_eq_nil_of_le (by omega)
       have hX : X = ([], 0) := by rw [← HX.out, hd1]; rfl
       have ha : a = -1 := by
        have h := HA.out
        rw [if_pos hlast] at h
        exact h
       have HE : Hid (layD (rs.drop j) L.length nx = Y) := by
        rw [HDROP.out, hd1, layD_one, ← HY.out]
        have h := hL1n
        rw [hX] at h
        rw [show L.length = L1.length by simpa using h.symm]
        exact hide rfl
       have HLL : Hid (L1 = L) := by
        have h := HL1.out
        rw [hX] at h
        exact hide (by simpa using h.symm)
       subst ha
       clear hX hd1
       go_wp2
       refine ⟨⟨j, (j : Int) - 1, by omega, by go_num, rfl, ⟨_, rfl, hide (by rw [if_neg (by omega), HE.out])⟩, HF2, by rw [HE.out]; have h := HLY2; rw [HLL.out] at h; exact h⟩, ?_⟩
       simp [intOf]
      ·
       have ha : a = (X.2 : Nat) := by
        have h := HA.out
        rw [if_neg hlast] at h
        exact h
       have hdn : rs.drop (j + 1) ≠ [] := fun e => by have := congrArg List.length e; simp at this; omega
       have HE : Hid (layD (rs.drop j) L.length nx = (X.1 ++ (Y.1 ++ [.fork [Y.2, X.2]]), L1.length + Y.1.length)) := by
        rw [HDROP.out, layD_cons hdn (fun x hx => (HP.out x (List.mem_of_mem_drop hx)).1), HX.out, ← hL1n, HY.out]
        exact hide rfl
       have HPUT := hide (put_any W2 B lb (L1 ++ Y.1) (.fork [Y.2, X.2]) 2 Y.2 X.2 0 none 0 0 HLY2.out rfl (by rw [List.length_append]; omega))
       have hlen2 : (L1 ++ Y.1).length = L1.length + Y.1.length := List.length_append
       rw [hlen2] at HPUT
       subst ha
       clear hdn hL1n hlen2
       go_wp2_with fail
       refine HPUT.out.mono ?_
       rintro e W3 ⟨rfl, hf3, hl3⟩
       have HF3 : Hid (LFrame B w W3) := hide (HF2.out.trans hf3)
       have HL3 : Hid (layAt W3 B lb (L ++ (layD (rs.drop j) L.length nx).1)) := by
        rw [HE.out, ← List.append_assoc, HL1.out, ← List.append_assoc]
        exact hide hl3
       clear hf3 hl3
       go_wp2
       refine ⟨⟨j, (j : Int) - 1, by omega, by go_num, rfl, ⟨_, rfl, hide (by rw [if_neg (by omega), HE.out]; simp)⟩, HF3, HL3⟩, ?_⟩
       simp [intOf]
     | succ q =>
      have hz3 : z2 = (q : Int) := by omega
      subst hz3
      clear hz2
      have hqi : (q : Int) < (l.length : Int) := by omega
      obtain ⟨it, hit⟩ : ∃ it, l[q]? = some it := ⟨_, List.getElem?_eq_getElem (by omega)⟩
      obtain ⟨xs5, hia, hcells⟩ := HI.out q it hit
      obtain ⟨rb, rc', hre, hrb, _⟩ := own_first HROW.out (by omega)
      simp at hre
      obtain ⟨rfl, rfl⟩ := hre
      have hpc : ∀ i, i < 5 → ∀ u, xs5[i]? = some u → W2.cell? ⟨rb, q * 5 + i, none⟩ = some u := fun i hi u hu => own_cell (own_frame HROW.out HF2.out (by decide) (by decide)) ((hcells i hi).trans hu)
      have hiaw := hia.frame HF2.out
      obtain ⟨gr, so, sn, sc, nm, po, pn, pc, rfl⟩ : ∃ gr so sn sc nm po pn pc, xs5 = pieceC5 gr (.slice so sn sc) nm (.slice po pn pc) (it.sig : Nat) := by
       cases it with
       | set s sg =>
        obtain ⟨b, h1, _⟩ := hia
        exact ⟨false, _, _, _, 0, none, 0, 0, h1⟩
       | grp n' rows sg =>
        obtain ⟨rv', kk, yy, h1, h2, _⟩ := hia
        obtain ⟨o3, c3, rfl⟩ := own_shape h2
        exact ⟨true, none, 0, 0, _, o3, kk, c3, h1⟩
      have p0 := hpc 0 (by omega) _ rfl
      rw [Nat.add_zero] at p0
      have p1 := hpc 1 (by omega) _ rfl
      have p2 := hpc 2 (by omega) _ rfl
      have p3 := hpc 3 (by omega) _ rfl
      have p4 := hpc 4 (by omega) _ rfl
      have hdq := drop_get hit
      have hs3 := szK_row_drop l q
      rw [hdq, szK_row] at hs3
      have hs4 := layK_len (rowT (l.drop (q + 1)) .nil) L1.length nx
      obtain ⟨Y, HY⟩ : ∃ Y, Hid (layK (rowT (l.drop (q + 1)) .nil) L1.length nx = Y) := ⟨_, hide rfl⟩
      rw [HY.out] at HLY2 hs4 ⊢
      obtain ⟨sg, hsg⟩ : ∃ sg, it.sig = sg := ⟨_, rfl⟩
      have HNX : Hid (layK (rowT (l.drop q) .nil) L1.length nx = (Y.1 ++ (layPiece sg (onceF it) (L1.length + Y.1.length) Y.2).1, (layPiece sg (onceF it) (L1.length + Y.1.length) Y.2).2)) := by
       rw [hdq]
       show Hid (layK (it.on (rowT (l.drop (q + 1)) .nil)) L1.length nx = _)
       rw [layK_on, HY.out, hsg]
       exact hide rfl
      rw [hsg] at p4 hiaw
      have HPC := hide (lpiece_any W2 B lb (L1 ++ Y.1) it gr so sn sc nm po pn pc sg Y.2 hsg HLY2.out hiaw (fun n' rows k e => by
       subst e
       obtain ⟨h1, h2⟩ := HITS.out n' rows k (List.mem_of_getElem? hit)
       exact HIH.out rows (by omega) h1) (by rw [List.length_append]; omega))
      rw [show (L1 ++ Y.1).length = L1.length + Y.1.length from List.length_append] at HPC
      clear hL1n hpc hia hiaw hcells hdq hsg hit hs3 hs4
      go_wp2_with fail
      refine HPC.out.mono ?_
      rintro e W3 ⟨rfl, hf3, hl3⟩
      have HF3 : Hid (LFrame B w W3) := hide (HF2.out.trans hf3)
      have HL3 := hide hl3
      clear hf3 hl3
      go_wp2
      refine ⟨⟨q, (q : Int) - 1, by omega, by go_num, rfl, by rw [HNX.out], HF3, by rw [HNX.out, ← List.append_assoc]; exact HL3⟩, ?_⟩
      simp [intOf]
end Go.Proofs.YtndpjdmfkhjiiaaGreatDoor
