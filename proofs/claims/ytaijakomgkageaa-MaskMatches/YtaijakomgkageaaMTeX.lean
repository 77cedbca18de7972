/- The document's own filling of templates. -/
import Derived.Laws.OwnMore
import Derived.Test.YtaijakomgkageaaProg
import Derived.Test.YtaijakomgkageaaKit
import Derived.Test.YtaijakomgkageaaMPar
import Derived.Test.YtaijakomgkageaaMWlk
import Derived.Test.YtaijakomgkageaaReg
import Derived.Test.YtaijakomgkageaaMGrp
import Derived.Test.YtaijakomgkageaaMExq
import Derived.Test.YtaijakomgkageaaMTem
import Derived.Test.YtaijakomgkageaaMTeR
import Derived.BigQuiet
set_option linter.unusedVariables false
set_option linter.unusedSimpArgs false
namespace Go.Proofs.Ytaijakomgkageaa
open Go.RowKit
attribute [local go_sem] bs_size bs_toList bs_append bs_get bs_extract

theorem own_first {w : World} {B e size n : Nat} {v : Value} {xs : List Value} (h : w.ownsRow B e size v n xs) (hn : 0 < n) : ∃ b cp, v = .slice (some ⟨b, 0, none⟩) n cp ∧ b < w.heap.size ∧ ∀ i u, xs[i]? = some u → w.cell? ⟨b, i, none⟩ = some u := by
  rcases h.2 with ⟨_, h0⟩ | ⟨g, cap, cur, rfl, _, h2, _⟩
  · omega
  · exact ⟨g, cap, rfl, lt_of_block h2, fun i u hu => own_cell h hu⟩
theorem valsT_snoc (whole : List UInt8) (gs : List (List UInt8)) (l : List (List UInt8 × Int)) (x : List UInt8 × Int) : valsT whole gs (l ++ [x]) = valsT whole gs l ++ valT whole gs x := by simp [valsT]
theorem take_more {q v x : List UInt8} {most : Nat} (h : q.take most = v.take most) (hq : most ≤ q.length) : q.take most = (v ++ x).take most := by
  have hv : most ≤ v.length := by
    have h1 := congrArg List.length h
    rw [List.length_take, List.length_take] at h1
    omega
  rw [h, List.take_append_of_le_length hv]

set_option maxRecDepth 20000 in
set_option maxHeartbeats 8000000 in
theorem expandOf_any (t whole : List UInt8) (gs : List (List UInt8)) (v : Value) (w : World) (most : Nat) (l : List (List UInt8 × Int)) (ht : t.length ≤ 2000000) (hN : tmAt t 0 = some l) (hwl : whole.length ≤ 2000000) (hgl : gs.length ≤ 2000000)
    (hgs : ∀ s ∈ gs, s.length ≤ 2000000) (hmost : most ≤ 2000000) (hv : readsStrs w w.heap.size v gs) (hlen : l.length ≤ 2000000) (hxl : ∀ x ∈ l, (valT whole gs x).length ≤ 2000000) (htot : ∀ k, (valsT whole gs (l.take k)).length ≤ 2000000 * k) :
    Calls Try.prog 17 #[.string (bs t), .string (bs whole), v, .int .i64 most] w fun e w' => e = .returned (.tuple #[.string (bs ((valsT whole gs l).take most)), .int .i64 ((valsT whole gs l).length : Nat)]) ∧ Grow w w' := by
  have hT := template_any t w ht
  rw [hN] at hT
  have HTM := hide hT
  obtain ⟨ao, cp, hvv, hcell⟩ := hv
  have HC := hide hcell
  have HXL := hide hxl
  have HTOT := hide htot
  have hgl2 : (gs.length : Int) ≤ 2000000 := by omega
  subst hvv
  clear hT hcell hxl htot hgs hN
  go_enter Try.func17, Try.ntmps17
  go_wp2_with fail
  refine HTM.out.mono ?_
  rintro e w1 ⟨v1, v2, b, rfl, hg, rfl, h1, h2⟩
  have HG := hide hg
  have H1 := hide h1
  have H2 := hide h2
  obtain ⟨o1, c1, rfl⟩ := own_shape h1
  obtain ⟨o2, c2, rfl⟩ := own_shape h2
  clear hg h1 h2 HTM
  obtain ⟨n, hn⟩ : ∃ n, l.length = n := ⟨_, rfl⟩
  have hm1 : (l.map (·.1)).length = n := by simp [hn]
  have hm2 : (l.map (·.2)).length = n := by simp [hn]
  go_wp2
  go_loopw [13, 14, 15] (fun sv mv iv wr => ∃ (k : Nat) (q V : List UInt8), k ≤ n ∧ iv = .int .i64 k ∧ sv = .string (bs q) ∧ mv = .int .i64 V.length ∧ wr = w1 ∧ Hid (V = valsT whole gs (l.take k)) ∧ Hid (q.take most = V.take most) ∧ Hid (q.length < most → q = V) ∧ q.length ≤ 4000000 ∧ V.length ≤ 2000000 * k) (fun _ _ iv _ => n - (intOf iv).toNat)
  case atStart => exact ⟨0, [], [], by omega, rfl, rfl, rfl, rfl, hide (by simp [valsT]), hide rfl, hide fun _ => rfl, by simp, by simp⟩
  case round =>
    obtain ⟨k, q, V, hk, rfl, rfl, rfl, rfl, HV, HQ, HQE, hql, hVl⟩ := hrel
    by_cases hlt : k < n
    · have hlt2 : (k : Int) < (n : Int) := by omega
      obtain ⟨⟨x, g⟩, hx⟩ : ∃ x, l[k]? = some x := ⟨_, List.getElem?_eq_getElem (by omega)⟩
      obtain ⟨b1, cp1, e1, _, cc1⟩ := own_first H1.out (by rw [hm1]; omega)
      obtain ⟨b2, cp2, e2, _, cc2⟩ := own_first H2.out (by rw [hm2]; omega)
      simp at e1 e2
      obtain ⟨rfl, rfl⟩ := e1
      obtain ⟨rfl, rfl⟩ := e2
      have d1 := cc1 k (.string (bs x)) (by simp [strsV, hx])
      have d2 := cc2 k (.int .i64 g) (by simp [numsV, hx])
      have HY : Hid (valsT whole gs (l.take (k + 1)) = V ++ valT whole gs (x, g)) := by
        show _ = _
        rw [List.take_add_one, hx, HV.out]
        exact valsT_snoc _ _ _ _
      have hyl := HXL.out _ (List.mem_of_getElem? hx)
      have htk := HTOT.out (k + 1)
      have HX := hide hx
      clear hx cc1 cc2
      -- what it stands for
      obtain ⟨y, hy⟩ : ∃ y, valT whole gs (x, g) = y := ⟨_, rfl⟩
      rw [hy] at hyl HY
      rw [HY.out, List.length_append] at htk
      have HYY := hide hy
      have hsum : ∀ W : World, q.length < most → (Op.stringOp .add (bs q) (bs y)).run Try.prog W = .ok (.string (bs (q ++ y))) W := fun W hq => by
        rw [run_string_add_sum W _ _ (by rw [bs_size, bs_size]; omega), bs_append]
      have HSUM := hide hsum
      clear hy hsum
      have hwm : IntKind.i64.wrap ((V.length : Int) + (y.length : Int)) = (V.length : Int) + (y.length : Int) := wrap_i64_small _ (by omega) (by omega)
      by_cases h0 : g = 0
      · subst h0
        have hy : y = whole := by rw [← HYY.out]; simp [valT]
        subst hy
        by_cases hq : q.length < most
        · have hq2 : (q.length : Int) < (most : Int) := by omega
          have hs1 := fun W => HSUM.out W hq
          have HQ3 : Hid ((q ++ y).take most = (V ++ y).take most) := hide (by rw [HQE.out hq])
          have HQ4 : Hid ((q ++ y).length < most → q ++ y = V ++ y) := hide (fun _ => by rw [HQE.out hq])
          clear HQ HQE
          go_wp2
          refine ⟨⟨k + 1, q ++ y, V ++ y, by omega, by go_num, by first | rfl | trivial, by first | rfl | simp, by first | rfl | trivial, hide HY.out.symm, HQ3, HQ4, by simp; omega, by simp; omega⟩, ?_⟩
          simp [intOf]; omega
        · have hq2 : ¬ (q.length : Int) < (most : Int) := by omega
          have HQ3 : Hid (q.take most = (V ++ y).take most) := hide (take_more HQ.out (by omega))
          have HQ4 : Hid (q.length < most → q = V ++ y) := hide (fun h => absurd h hq)
          clear HQ HQE
          go_wp2
          refine ⟨⟨k + 1, q, V ++ y, by omega, by go_num, by first | rfl | trivial, by first | rfl | simp, by first | rfl | trivial, hide HY.out.symm, HQ3, HQ4, by omega, by simp; omega⟩, ?_⟩
          simp [intOf]; omega
      · have h0b : (g == 0) = false := by simpa using h0
        by_cases hgp : 0 < g ∧ g ≤ gs.length
        · obtain ⟨j, rfl⟩ : ∃ j : Nat, g = (j : Int) + 1 := ⟨(g - 1).toNat, by omega⟩
          have hj : j < gs.length := by omega
          obtain ⟨bb, oo, rfl, hbb, hcg⟩ := HC.out j hj
          have hcg2 := (cell_keep (sp := none) (o := oo + j) (HG.out.block bb hbb)).trans hcg
          have hy : y = gs[j] := by
            rw [← HYY.out]
            unfold valT
            simp only
            rw [if_neg h0, if_pos hgp, show ((j : Int) + 1).toNat - 1 = j by omega]
            simp [List.getD, hj]
          rw [← hy] at hcg2
          have hg1 : (0 : Int) < (j : Int) + 1 := by omega
          have hg2 : (j : Int) + 1 ≤ (gs.length : Int) := by omega
          have hgd : decide ((0 : Int) < (j : Int) + 1) = true := by simp
          have hj1 : (j : Int) + 1 - 1 = (j : Int) := by omega
          have hwj : IntKind.i64.wrap ((j : Int) + 1 - 1) = (j : Int) := by rw [wrap_i64_small _ (by omega) (by omega)]; omega
          have hji : (j : Int) < (gs.length : Int) := by omega
          clear hy hgp hcg
          by_cases hq : q.length < most
          · have hq2 : (q.length : Int) < (most : Int) := by omega
            have hs1 := fun W => HSUM.out W hq
            have HQ3 : Hid ((q ++ y).take most = (V ++ y).take most) := hide (by rw [HQE.out hq])
            have HQ4 : Hid ((q ++ y).length < most → q ++ y = V ++ y) := hide (fun _ => by rw [HQE.out hq])
            clear HQ HQE
            go_wp2
            refine ⟨⟨k + 1, q ++ y, V ++ y, by omega, by go_num, by first | rfl | trivial, by first | rfl | simp, by first | rfl | trivial, hide HY.out.symm, HQ3, HQ4, by simp; omega, by simp; omega⟩, ?_⟩
            simp [intOf]; omega
          · have hq2 : ¬ (q.length : Int) < (most : Int) := by omega
            have HQ3 : Hid (q.take most = (V ++ y).take most) := hide (take_more HQ.out (by omega))
            have HQ4 : Hid (q.length < most → q = V ++ y) := hide (fun h => absurd h hq)
            clear HQ HQE
            go_wp2
            refine ⟨⟨k + 1, q, V ++ y, by omega, by go_num, by first | rfl | trivial, by first | rfl | simp, by first | rfl | trivial, hide HY.out.symm, HQ3, HQ4, by omega, by simp; omega⟩, ?_⟩
            simp [intOf]; omega
        · have hy : y = x := by
            rw [← HYY.out]
            unfold valT
            rw [if_neg h0, if_neg hgp]
          subst hy
          by_cases hg1 : 0 < g
          · have hg2 : ¬ g ≤ (gs.length : Int) := fun h => hgp ⟨hg1, h⟩
            clear hgp
            by_cases hq : q.length < most
            · have hq2 : (q.length : Int) < (most : Int) := by omega
              have hs1 := fun W => HSUM.out W hq
              have HQ3 : Hid ((q ++ y).take most = (V ++ y).take most) := hide (by rw [HQE.out hq])
              have HQ4 : Hid ((q ++ y).length < most → q ++ y = V ++ y) := hide (fun _ => by rw [HQE.out hq])
              clear HQ HQE
              go_wp2
              refine ⟨⟨k + 1, q ++ y, V ++ y, by omega, by go_num, by first | rfl | trivial, by first | rfl | simp, by first | rfl | trivial, hide HY.out.symm, HQ3, HQ4, by simp; omega, by simp; omega⟩, ?_⟩
              simp [intOf]; omega
            · have hq2 : ¬ (q.length : Int) < (most : Int) := by omega
              have HQ3 : Hid (q.take most = (V ++ y).take most) := hide (take_more HQ.out (by omega))
              have HQ4 : Hid (q.length < most → q = V ++ y) := hide (fun h => absurd h hq)
              clear HQ HQE
              go_wp2
              refine ⟨⟨k + 1, q, V ++ y, by omega, by go_num, by first | rfl | trivial, by first | rfl | simp, by first | rfl | trivial, hide HY.out.symm, HQ3, HQ4, by omega, by simp; omega⟩, ?_⟩
              simp [intOf]; omega
          · clear hgp
            by_cases hq : q.length < most
            · have hq2 : (q.length : Int) < (most : Int) := by omega
              have hs1 := fun W => HSUM.out W hq
              have HQ3 : Hid ((q ++ y).take most = (V ++ y).take most) := hide (by rw [HQE.out hq])
              have HQ4 : Hid ((q ++ y).length < most → q ++ y = V ++ y) := hide (fun _ => by rw [HQE.out hq])
              clear HQ HQE
              go_wp2
              refine ⟨⟨k + 1, q ++ y, V ++ y, by omega, by go_num, by first | rfl | trivial, by first | rfl | simp, by first | rfl | trivial, hide HY.out.symm, HQ3, HQ4, by simp; omega, by simp; omega⟩, ?_⟩
              simp [intOf]; omega
            · have hq2 : ¬ (q.length : Int) < (most : Int) := by omega
              have HQ3 : Hid (q.take most = (V ++ y).take most) := hide (take_more HQ.out (by omega))
              have HQ4 : Hid (q.length < most → q = V ++ y) := hide (fun h => absurd h hq)
              clear HQ HQE
              go_wp2
              refine ⟨⟨k + 1, q, V ++ y, by omega, by go_num, by first | rfl | trivial, by first | rfl | simp, by first | rfl | trivial, hide HY.out.symm, HQ3, HQ4, by omega, by simp; omega⟩, ?_⟩
              simp [intOf]; omega
    · obtain rfl : k = n := by omega
      have hlt2 : ¬ (k : Int) < (k : Int) := by omega
      have hV : V = valsT whole gs l := by rw [HV.out, List.take_of_length_le (by omega)]
      by_cases hq : most < q.length
      · have hq2 : (most : Int) < (q.length : Int) := by omega
        have HEQ : Hid (q.take most = (valsT whole gs l).take most) := hide (by rw [HQ.out, hV])
        have HVV := hide hV
        clear hV
        go_wp2
        go_ret2
        exact ⟨by rw [← HEQ.out, ← HVV.out]; rfl, HG.out⟩
      · have hq2 : ¬ (most : Int) < (q.length : Int) := by omega
        have HEQ : Hid (q = (valsT whole gs l).take most) := hide (by rw [← hV, ← HQ.out, List.take_of_length_le (by omega)])
        have HVV := hide hV
        clear hV
        go_wp2
        go_ret2
        exact ⟨by rw [← HEQ.out, ← HVV.out]; rfl, HG.out⟩

end Go.Proofs.Ytaijakomgkageaa
