/- The document's own MayNothing: may rows take nothing? -/
import Derived.Laws.OwnMore
import Derived.Test.YtndpjdmfkhjiiaaGreatDoorProg
import Derived.Test.YtndpjdmfkhjiiaaGreatDoorKit
import Derived.Test.YtndpjdmfkhjiiaaGreatDoorMPar
import Derived.Test.YtndpjdmfkhjiiaaGreatDoorMLay
import Derived.Test.YtndpjdmfkhjiiaaGreatDoorMWlk
import Derived.Test.YtndpjdmfkhjiiaaGreatDoorMPrA
import Derived.Test.YtndpjdmfkhjiiaaGreatDoorMPrK
import Derived.Test.YtndpjdmfkhjiiaaGreatDoorMRdA
import Derived.Test.YtndpjdmfkhjiiaaGreatDoorMRdB
import Derived.Test.YtndpjdmfkhjiiaaGreatDoorMRdC
import Derived.Test.YtndpjdmfkhjiiaaGreatDoorMRdF
import Derived.BigQuiet
set_option linter.unusedVariables false
set_option linter.unusedSimpArgs false
namespace Go.Proofs.YtndpjdmfkhjiiaaGreatDoor
open Go.RowKit
attribute [local go_sem] bs_size bs_toList bs_append bs_get bs_extract

theorem own_len {w : World} {B e size n : Nat} {v : Value} {xs : List Value} (h : w.ownsRow B e size v n xs) : xs.length = n * size := by simpa using h.1
/-- A row that has something lies in a block. -/
theorem own_block {w : World} {B e size n : Nat} {v : Value} {xs : List Value} (h : w.ownsRow B e size v n xs) (hn : 0 < n) : ∃ b cp, v = .slice (some ⟨b, 0, none⟩) n cp ∧ b < w.heap.size ∧ ∀ i u, xs[i]? = some u → w.cell? ⟨b, i, none⟩ = some u := by
  rcases h.2 with ⟨_, h0⟩ | ⟨g, cap, cur, rfl, _, h2, _⟩
  · omega
  · exact ⟨g, cap, rfl, lt_of_block h2, fun i u hu => own_cell h hu⟩
theorem rowT_len : ∀ l : List Item, l.length ≤ sz (rowT l .nil)
  | [] => Nat.le_refl _
  | .set s sg :: l => by
    have := rowT_len l
    show l.length + 1 ≤ 2 + again sg + sz (rowT l .nil)
    omega
  | .grp n rows sg :: l => by
    have := rowT_len l
    show l.length + 1 ≤ 4 + again sg + sz rows + sz (rowT l .nil)
    omega
theorem rowsOf_len : ∀ rs : List Tr, rs.length ≤ sz (rowsOf rs .nil)
  | [] => Nat.le_refl _
  | r :: rs => by
    have := rowsOf_len rs
    show rs.length + 1 ≤ sz r + 1 + sz (rowsOf rs .nil)
    omega
theorem laid_five (w : World) (x0 x1 x2 x3 x4 : Value) (t : TypeId) : ∃ W : World, w.alloc (.cells #[x0, x1, x2, x3, x4] t) = W ∧ Grow w W ∧ W.heap[w.heap.size]? = some (.cells #[x0, x1, x2, x3, x4] t (0, 0)) := ⟨_, rfl, (Grow.refl _).alloc _, heap_alloc_new _ _⟩

set_option maxRecDepth 20000 in
set_option maxHeartbeats 4000000 in
theorem mayNothing_any : ∀ (n : Nat) (T : Tr), sz T ≤ n → wf true T → ∀ (w : World) (A : Nat → Prop) (v : Value) (k : Nat) (ys : List Value), w.ownsRow 0 153 1 v k ys → cellsAt w A T ys → k ≤ 1000000 →
    (∀ r ∈ [T], sz r ≤ 1000000) →
    Calls Tryz.prog 108 #[v] w fun e w' => e = .returned (.bool (nothing T)) ∧ Grow w w' := by
  intro n
  induction n using Nat.strongRecOn with
  | _ n ih =>
    intro T hn hwf w A v k ys hv hc hk hsz
    obtain ⟨rs, hrs, rfl, hparts⟩ := (wf_parts T).2 hwf
    obtain ⟨hlen, hrows⟩ := cellsAt_rows hc
    have hyk := own_len hv
    have hrk : rs.length = k := by omega
    have hszT : sz (rowsOf rs .nil) ≤ 1000000 := hsz _ (by simp)
    have HP := hide hparts
    have HR := hide hrows
    have HT := hide (nothing_rows rs hrs)
    have hk0 : 0 < k := by
      rw [← hrk]
      exact List.length_pos_iff.2 hrs
    obtain ⟨vb, vc, rfl, hvb, hvcell⟩ := own_block hv hk0
    have HVC := hide hvcell
    have HIH : Hid (∀ m T', m < n → sz T' ≤ m → wf true T' → ∀ (w : World) (A : Nat → Prop) (v : Value) (k : Nat) (ys : List Value), w.ownsRow 0 153 1 v k ys → cellsAt w A T' ys → k ≤ 1000000 → sz T' ≤ 1000000 →
        Calls Tryz.prog 108 #[v] w fun e w' => e = .returned (.bool (nothing T')) ∧ Grow w w') := hide fun m T' hm h1 h2 w A v k ys h3 h4 h5 h6 => ih m hm T' h1 h2 w A v k ys h3 h4 h5 (by simpa using h6)
    clear ih hc hv hparts hrows hvcell hrs hsz
    go_enter Tryz.func108, Tryz.ntmps108
    go_wp2
    go_loopw [3] (fun iv wr => ∃ i : Nat, i ≤ k ∧ iv = .int .i64 i ∧ Hid (Grow w wr) ∧ Hid (∀ j r, j < i → rs[j]? = some r → nothing r = false)) (fun iv _ => k - (intOf iv).toNat)
    case atStart => exact ⟨0, by omega, rfl, hide (Grow.refl _), hide fun j r hj => by omega⟩
    case round =>
      obtain ⟨i, hi, rfl, HG, HN⟩ := hrel
      by_cases hlt : i < k
      · have hlt2 : (i : Int) < (k : Int) := by omega
        obtain ⟨r, hr⟩ : ∃ r, rs[i]? = some r := ⟨_, List.getElem?_eq_getElem (by omega)⟩
        obtain ⟨rv, hyi, kr, zs, hrow, _, hcr⟩ := HR.out i r hr
        obtain ⟨hwr, hsr⟩ := HP.out r (List.mem_of_getElem? hr)
        obtain ⟨l, rfl, hits⟩ := (wf_parts r).1 hwr
        obtain ⟨hzl, hitem⟩ := cellsAt_item hcr
        have hzk := own_len hrow
        have hkl : kr = l.length := by omega
        subst hkl
        obtain ⟨ro, rc, rfl⟩ := own_shape hrow
        have HI := hide hitem
        have HITS := hide hits
        have HROW := hide hrow
        have hrc := HVC.out i _ hyi
        have hrcr := (cell_keep (sp := none) (o := i) (HG.out.block vb hvb)).trans hrc
        have HRC := hide hrc
        have HIR := hide hr
        have hll : l.length ≤ 1000000 := by
          have h1 := rowT_len l
          omega
        clear hits hitem hrow hcr hrc hr hyi hzl hzk hwr
        go_wp2
        go_loopw [4, 5] (fun av kv wr2 => ∃ q : Nat, q ≤ l.length ∧ kv = .int .i64 q ∧ av = .bool ((l.take q).all Item.nothing) ∧ Hid (Grow w wr2)) (fun _ kv _ => l.length - (intOf kv).toNat)
        case atStart => exact ⟨0, by omega, rfl, rfl, HG⟩
        case round =>
          obtain ⟨q, hq, rfl, rfl, HG2⟩ := hrel
          rename World => wr2
          have hrc2 := (cell_keep (sp := none) (o := i) (HG2.out.block vb hvb)).trans HRC.out
          by_cases hql : q < l.length
          · have hql2 : (q : Int) < (l.length : Int) := by omega
            obtain ⟨it, hit⟩ : ∃ it, l[q]? = some it := ⟨_, List.getElem?_eq_getElem hql⟩
            have HTK : Hid ((l.take (q + 1)).all Item.nothing = ((l.take q).all Item.nothing && it.nothing)) := by
              show _ = _
              rw [List.take_add_one, hit]
              simp
            obtain ⟨xs, hia, hcells⟩ := HI.out q it hit
            obtain ⟨rb, rc', hre, hrb, hrcell⟩ := own_block HROW.out (by omega)
            simp at hre
            obtain ⟨rfl, rfl⟩ := hre
            have hpc : ∀ j, j < 5 → ∀ u, xs[j]? = some u → wr2.cell? ⟨rb, q * 5 + j, none⟩ = some u := fun j hj u hu =>
              (cell_keep (sp := none) (o := q * 5 + j) (HG2.out.block rb hrb)).trans (hrcell _ _ ((hcells j hj).trans hu))
            generalize (l.take q).all Item.nothing = av at HTK ⊢
            cases it with
            | set s sg =>
              obtain ⟨b, hxs, _, _⟩ := hia
              have p0 := hpc 0 (by omega) _ (by rw [hxs]; rfl)
              rw [Nat.add_zero] at p0
              have p1 := hpc 1 (by omega) _ (by rw [hxs]; rfl)
              have p2 := hpc 2 (by omega) _ (by rw [hxs]; rfl)
              have p3 := hpc 3 (by omega) _ (by rw [hxs]; rfl)
              have p4 := hpc 4 (by omega) _ (by rw [hxs]; rfl)
              obtain ⟨W, eW, gW, hW⟩ := laid_five wr2 (.bool false) (.slice (some ⟨b, 0, none⟩) 256 256) (.int .i64 0) (.slice none 0 0) (.int .u8 (sg : Int)) 155
              obtain ⟨q0, q1, q2, q3, q4⟩ := five_cells hW
              have HGW : Hid (Grow w W) := hide (HG2.out.trans gW)
              clear hW gW
              cases av with
              | false =>
                clear hpc HI HITS
                go_wp2
                refine ⟨⟨q + 1, by omega, by go_num, by rw [HTK.out]; rfl, HGW⟩, ?_⟩
                simp [intOf]; omega
              | true =>
                by_cases h42 : sg = 42
                · have e42 : ((sg : Int) == 42) = true := by simp [h42]
                  have H42 := hide h42
                  clear h42
                  clear hpc HI HITS
                  go_wp2
                  refine ⟨⟨q + 1, by omega, by go_num, by rw [HTK.out]; simp [Item.nothing, H42.out], HGW⟩, ?_⟩
                  simp [intOf]; omega
                · have e42 : ((sg : Int) == 42) = false := by simp; omega
                  have H42 := hide h42
                  clear h42
                  by_cases h63 : sg = 63
                  · have e63 : ((sg : Int) == 63) = true := by simp [h63]
                    have H63 := hide h63
                    clear h63
                    clear hpc HI HITS
                    go_wp2
                    refine ⟨⟨q + 1, by omega, by go_num, by rw [HTK.out]; simp [Item.nothing, H63.out], HGW⟩, ?_⟩
                    simp [intOf]; omega
                  · have e63 : ((sg : Int) == 63) = false := by simp; omega
                    have H63 := hide h63
                    clear h63
                    clear hpc HI HITS
                    go_wp2
                    refine ⟨⟨q + 1, by omega, by go_num, by rw [HTK.out]; simp [Item.nothing, H42.out, H63.out], HGW⟩, ?_⟩
                    simp [intOf]; omega
            | grp n' rows sg =>
              obtain ⟨rv, kq, yq, hxs, hown, _, hcq⟩ := hia
              obtain ⟨rvo, rvc, rfl⟩ := own_shape hown
              obtain ⟨nn, hnn⟩ : ∃ nn : Nat, n' + 1 = nn := ⟨_, rfl⟩
              rw [hnn] at hxs
              have p0 := hpc 0 (by omega) _ (by rw [hxs]; rfl)
              rw [Nat.add_zero] at p0
              have p1 := hpc 1 (by omega) _ (by rw [hxs]; rfl)
              have p2 := hpc 2 (by omega) _ (by rw [hxs]; rfl)
              have p3 := hpc 3 (by omega) _ (by rw [hxs]; rfl)
              have p4 := hpc 4 (by omega) _ (by rw [hxs]; rfl)
              obtain ⟨W, eW, gW, hW⟩ := laid_five wr2 (.bool true) (.slice none 0 0) (.int .i64 (nn : Int)) (.slice rvo kq rvc) (.int .u8 (sg : Int)) 155
              obtain ⟨q0, q1, q2, q3, q4⟩ := five_cells hW
              have HGW : Hid (Grow w W) := hide (HG2.out.trans gW)
              clear hW gW
              cases av with
              | false =>
                clear hpc HI HITS
                go_wp2
                refine ⟨⟨q + 1, by omega, by go_num, by rw [HTK.out]; rfl, HGW⟩, ?_⟩
                simp [intOf]; omega
              | true =>
                by_cases h42 : sg = 42
                · have e42 : ((sg : Int) == 42) = true := by simp [h42]
                  have H42 := hide h42
                  clear h42
                  clear hpc HI HITS
                  go_wp2
                  refine ⟨⟨q + 1, by omega, by go_num, by rw [HTK.out]; simp [Item.nothing, H42.out], HGW⟩, ?_⟩
                  simp [intOf]; omega
                · have e42 : ((sg : Int) == 42) = false := by simp; omega
                  have H42 := hide h42
                  clear h42
                  by_cases h63 : sg = 63
                  · have e63 : ((sg : Int) == 63) = true := by simp [h63]
                    have H63 := hide h63
                    clear h63
                    clear hpc HI HITS
                    go_wp2
                    refine ⟨⟨q + 1, by omega, by go_num, by rw [HTK.out]; simp [Item.nothing, H63.out], HGW⟩, ?_⟩
                    simp [intOf]; omega
                  · have e63 : ((sg : Int) == 63) = false := by simp; omega
                    have H63 := hide h63
                    clear h63
                    have hmem : Item.grp n' rows sg ∈ l := List.mem_of_getElem? hit
                    obtain ⟨hwr2, hsz2⟩ := HITS.out n' rows sg hmem
                    have hkq : kq ≤ 1000000 := by
                      obtain ⟨rs2, _, rfl, _⟩ := (wf_parts rows).2 hwr2
                      have h1 := (cellsAt_rows hcq).1
                      have h2 := own_len hown
                      have h3 := rowsOf_len rs2
                      omega
                    have HREC : Hid (∀ _ : World, Calls Tryz.prog 108 #[.slice rvo kq rvc] W fun e w' => e = .returned (.bool (nothing rows)) ∧ Grow W w') := hide fun _ =>
                      HIH.out (sz rows) rows (by omega) (Nat.le_refl _) hwr2 W A _ kq yq (own_grow hown (HGW.out)) (hcq.grow HGW.out) hkq (by omega)
                    clear hpc HI HITS
                    go_wp2_with fail
                    refine (HREC.out W).mono ?_
                    rintro e W2 ⟨rfl, hg5⟩
                    have HGV : Hid (Grow w W2) := hide (HGW.out.trans hg5)
                    clear hg5
                    obtain ⟨nb, HNB⟩ : ∃ nb, Hid (nothing rows = nb) := ⟨_, hide rfl⟩
                    rw [HNB.out]
                    go_wp2
                    refine ⟨⟨q + 1, by omega, by go_num, by rw [HTK.out]; simp [Item.nothing, H42.out, H63.out, HNB.out], HGV⟩, ?_⟩
                    simp [intOf]; omega
          · obtain rfl : q = l.length := by omega
            have hql2 : ¬ (l.length : Int) < (l.length : Int) := by omega
            have hall := nothing_rowT l
            rw [List.take_length]
            cases hb : nothing (rowT l .nil) with
            | true =>
              rw [hb] at hall
              rw [← hall]
              have HTT : Hid (nothing (rowsOf rs .nil) = true) := by
                show _ = _
                rw [HT.out, List.any_eq_true]
                exact ⟨_, List.mem_of_getElem? HIR.out, hb⟩
              clear hb hall
              go_wp2
              go_ret
              exact ⟨ret_bool HTT.out.symm, HG2.out⟩
            | false =>
              rw [hb] at hall
              rw [← hall]
              have HN2 : Hid (∀ j r, j < i + 1 → rs[j]? = some r → nothing r = false) := hide fun j r hj hr => by
                by_cases e : j = i
                · subst e
                  rw [HIR.out] at hr
                  cases hr
                  exact hb
                · exact HN.out j r (by omega) hr
              clear hb hall
              go_wp2
              refine ⟨⟨i + 1, by omega, by go_num, HG2, HN2⟩, ?_⟩
              simp [intOf]; omega
      · obtain rfl : i = k := by omega
        have hlt2 : ¬ (i : Int) < (i : Int) := by omega
        have HTT : Hid (nothing (rowsOf rs .nil) = false) := by
          show _ = _
          rw [HT.out, List.any_eq_false]
          intro r hr
          obtain ⟨j, hj, rfl⟩ := List.getElem_of_mem hr
          rw [HN.out j _ (by omega) (List.getElem?_eq_getElem hj)]
          simp
        go_wp2
        go_ret
        exact ⟨ret_bool HTT.out.symm, HG.out⟩

end Go.Proofs.YtndpjdmfkhjiiaaGreatDoor
