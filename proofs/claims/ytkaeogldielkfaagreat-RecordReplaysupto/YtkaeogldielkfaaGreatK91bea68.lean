/- 1 texts in one. -/
import Derived.Test.YtkaeogldielkfaaGreatProg
import Derived.Test.YtkaeogldielkfaaGreatKabe2b5f
import Derived.Test.YtkaeogldielkfaaGreatK1e38180
import Derived.Test.YtkaeogldielkfaaGreatKd42f439
import Derived.Test.YtkaeogldielkfaaGreatKa96aaab
import Derived.Test.YtkaeogldielkfaaGreatKc40ae49
import Derived.Lib.AppendZeros
import Derived.Lib.AppendStr
import Derived.BigQuiet
import Derived.Test.YtkaeogldielkfaaGreatK8333cf2
set_option linter.unusedVariables false
set_option linter.unusedSimpArgs false
namespace Go.Proofs.YtkaeogldielkfaaGreat.Lg
open Go.RowKit
attribute [local go_sem] bs_size bs_toList bs_append bs_get bs_extract
theorem Tryz.infoI : (Tryz.prog.info? 3).map (fun i => (i.zero, i.size, i.bytes)) = some (some (.int .i64 0), 1, 8) := by kernel_rfl
def intV (L : List Nat) : List Value := L.map fun n : Nat => Value.int .i64 (n : Int)
theorem intV_snoc (L : List Nat) (n : Nat) : intV (L ++ [n]) = intV L ++ [.int .i64 (n : Int)] := by simp [intV]
abbrev ownNats (w : World) (B : Nat) (v : Value) (L : List Nat) : Prop := w.ownsRow B 3 1 v L.length (intV L)
theorem ownRow_grow {w w' : World} {base e size n : Nat} {v : Value} {xs : List Value} (h : w.ownsRow base e size v n xs) (hg : Grow w w') : w'.ownsRow base e size v n xs := by
  obtain ⟨h3, h4⟩ := h
  refine ⟨h3, ?_⟩
  rcases h4 with h4 | ⟨g, cap, cur, r1, r2, r3, r4⟩
  · exact .inl h4
  · exact .inr ⟨g, cap, cur, r1, r2, hg.get r3, r4⟩
theorem ownRow_grown {w w' : World} {base e size n e2 s2 n2 : Nat} {v v2 : Value} {xs x2 : List Value} (h : w.ownsRow base e size v n xs) (h2 : w.ownsRow base e2 s2 v2 n2 x2) (hg : w.grownBy w' v2.ownBlock) (hne : e ≠ e2) : w'.ownsRow base e size v n xs := by
  obtain ⟨h3, h4⟩ := h
  refine ⟨h3, ?_⟩
  rcases h4 with h4 | ⟨g, cap, cur, r1, r2, r3, r4⟩
  · exact .inl h4
  · exact .inr ⟨g, cap, cur, r1, r2, grown_block hg r3 (own_apart h2 r3 (fun e => hne e.symm)), r4⟩
/-- A number more, in a row that a call owns. -/
theorem append_natL {W : World} {v : Value} {ops : Array Oper} {rest : List Oper} {o : Oper} {a : Act} {Q : Exit → Act → World → Prop} (hgd : o.guard = none) (s x : Operand)
    (ho : o.op = .call { callee := .builtin .append, args := #[s, x], argTypes := #[23, 23] })
    (base : Nat) (L : List Nat) (c : Nat) (ci : Int) (hci : ci = c) (hs : a.eval s = v) (hown : ownNats W base v L) (hx : a.eval x = .slice (some ⟨W.heap.size, 0, none⟩) 1 1)
    (hlen : L.length ≤ 100000000) (hbase : base ≤ W.heap.size)
    (h : ∀ ao cp n w', Hid (n = (L ++ [c]).length) → n ≤ 100000001 → ownNats w' base (.slice ao n cp) (L ++ [c]) → W.grownBy w' v.ownBlock → Below base W w' → wpList Tryz.prog ops Q rest (a.put o.dst (.slice ao n cp)) w') :
    wpList Tryz.prog ops Q (o :: rest) a (W.alloc (.cells #[.int .i64 ci] 3)) := by
  subst hci
  obtain ⟨i0, hi0, hz0, hz1, hz2⟩ := info_parts Tryz.infoI
  have hb2 : Below base W (W.alloc (.cells #[.int .i64 (c : Int)] 3)) := (Below.refl _ _).alloc hbase _
  have hg2 : W.grownBy (W.alloc (.cells #[.int .i64 (c : Int)] 3)) v.ownBlock := ⟨rfl, rfl, rfl, by simp, fun k hk _ => Below.heap_alloc _ _ _ hk⟩
  have hnew := heap_alloc_new W (.cells #[.int .i64 (c : Int)] 3)
  have hsz := hb2.size
  have hown' := World.ownsRow.alloc hown (.cells #[.int .i64 (c : Int)] 3)
  generalize (W.alloc (.cells #[.int .i64 (c : Int)] 3)) = V at *
  refine wpList_append_own _ hgd s x 23 ho base 3 i0 (.int .i64 0) 1 8 Tryz.underlying23 hi0 hz0 hz1 hz2 rfl (by omega) v L.length (intV L) hs hown' ⟨W.heap.size, 0, none⟩ 1 1 [.int .i64 (c : Int)] hx rfl (fun j u hu => by
    match j, hu with
    | 0, hu =>
      simp at hu
      subst hu
      rw [Addr.add_lit]
      simp [World.cell?, hnew]) (by simp [Value.oneCell']) (by unfold maxLen; omega) (by omega) (by omega) ?_
  intro v' w' hown2 hgrow _
  rw [← intV_snoc] at hown2
  have hl : (L ++ [c]).length = L.length + 1 := by simp
  rw [← hl] at hown2
  obtain ⟨ao, cp, rfl⟩ := own_shape hown2
  exact h ao cp _ w' (hide rfl) (by rw [hl]; omega) hown2 ⟨hgrow.os.trans hg2.os, hgrow.tape.trans hg2.tape, hgrow.output.trans hg2.output, Nat.le_trans hg2.size hgrow.size, fun i hi hn => (hgrow.block i (Nat.lt_of_lt_of_le hi hg2.size) hn).trans (hg2.block i hi hn)⟩ (hb2.grown hgrow (by omega) (fun k hk => (World.ownsRow.lt hown' k hk).1))
theorem wrap_i64_smallL (x : Int) (h0 : -9223372036854775808 ≤ x) (h : x < 9223372036854775808) : IntKind.i64.wrap x = x := by
  rw [IntKind.wrap_i64]; omega
def entPost (w : World) (l : List UInt8) (e : Ending) (w' : World) : Prop :=
  ∃ v u, e = .returned (.tuple #[v, u]) ∧ ownStrs w' w.heap.size v ((entA l 0).map (·.1)) ∧ ownNats w' w.heap.size u ((entA l 0).map (·.2)) ∧ Below w.heap.size w w'
set_option maxRecDepth 20000 in
set_option maxHeartbeats 4000000 in
theorem rEntries_any (l : List UInt8) (w : World) (hl : l.length ≤ 100000000) :
    Calls Tryz.prog 39 #[.string (bs l)] w (entPost w l) := by
  go_enter Tryz.func39, Tryz.ntmps39
  go_wp2
  go_loopw [4, 5, 6, 7, 8] (fun v u x f q wr => ∃ (done : List (List UInt8 × Nat)) (opn : List UInt8) (inn : Bool) (p : Nat) (ao : Option Addr) (n cp : Nat) (bo : Option Addr) (m bp : Nat), v = .slice ao n cp ∧ u = .slice bo m bp ∧ x = .string (bs opn) ∧ f = .bool inn ∧ q = .int .i64 p ∧ p ≤ l.length ∧ 7 * done.length ≤ p ∧ opn.length ≤ p ∧ Hid (n = done.length) ∧ Hid (m = done.length) ∧ Hid (Grow w wr) ∧ Hid (ownStrs wr w.heap.size (.slice ao n cp) (done.map (·.1))) ∧ Hid (ownNats wr w.heap.size (.slice bo m bp) (done.map (·.2))) ∧ Hid (entA l 0 = done ++ restE l p inn opn)) (fun _ _ _ _ q _ => l.length - (intOf q).toNat)
  case atStart => exact ⟨[], [], false, 0, none, 0, 0, none, 0, 0, rfl, rfl, rfl, rfl, rfl, by omega, by simp, by simp, hide rfl, hide rfl, hide (Grow.refl _), hide (World.ownsRow_nil _ _ _ _), hide (World.ownsRow_nil _ _ _ _), hide (by rw [restE_new]; rfl)⟩
  case round =>
    obtain ⟨done, opn, inn, p, ao, n, cp, bo, m, bp, rfl, rfl, rfl, rfl, rfl, hp, hd7, hol, HN, HM, HG, HO, HI, HE⟩ := hrel
    rename World => wr
    go_wp2_with fail
    refine (rNoughts_any p wr (by omega)).mono ?_
    rintro e w1 ⟨rfl, hg1⟩
    have HG1 : Hid (Grow w w1) := hide (HG.out.trans hg1)
    have HO1 := hide (ownRow_grow HO.out hg1)
    have HI1 := hide (ownRow_grow HI.out hg1)
    clear hg1
    have hpl := (pad_le p).1
    obtain ⟨P, HPd⟩ : ∃ P, Hid (P = padL p) := ⟨_, hide rfl⟩
    have hfin : ∀ (_ : partAt l p = none), entA l 0 = done := fun h => by rw [HE.out, restE_none h, List.append_nil]
    have HFin := hide hfin
    clear hfin
    by_cases hfit : p + (padL p).length ≤ l.length
    · by_cases hz : (l.drop p).take (padL p).length = padL p
      · obtain ⟨a, ha⟩ : ∃ a, a = p + (padL p).length := ⟨_, rfl⟩
        have hA : (p : Int) + (P.length : Int) = (a : Int) := by rw [HPd.out]; omega
        have t1 : decide ((l.length : Int) < (a : Int)) = false := by rw [decide_eq_false_iff_not]; omega
        have t2 : (List.take P.length (List.drop p l) == P) = true := by rw [beq_iff_eq, HPd.out]; exact hz
        have t3 : List.take (a - p) (List.drop p l) = P := by rw [ha, Nat.add_sub_cancel_left, HPd.out]; exact hz
        have hal : a ≤ l.length := by omega
        have t4 : decide (l.length < a) = false := by rw [decide_eq_false_iff_not]; omega
        by_cases h7 : a + 7 ≤ l.length
        · have h1 : a < l.length := by omega
          have h2 : a + 1 < l.length := by omega
          have h3 : a + 2 < l.length := by omega
          obtain ⟨x0, hx0⟩ : ∃ x, l[a] = x := ⟨_, rfl⟩
          obtain ⟨x1, hx1⟩ : ∃ x, l[a + 1] = x := ⟨_, rfl⟩
          obtain ⟨x2, hx2⟩ : ∃ x, l[a + 2] = x := ⟨_, rfl⟩
          obtain ⟨N, hN⟩ : ∃ N, N = x1.toNat + 256 * x2.toNat := ⟨_, rfl⟩
          have HR : Hid (partAt l p = if l.length < a + 7 + N ∨ 128 < a % 128 + 7 + N then none else if partB x0.toNat ((l.drop (a + 7)).take N) = (l.drop a).take (7 + N) then some (x0.toNat, (l.drop (a + 7)).take N, a + 7 + N) else none) := hide (by
            rw [partAt_ref ha hz h7]
            simp only [hx0, hx1, hx2, ← hN])
          have hNi : (x1.toNat : Int) + 256 * (x2.toNat : Int) = N := by omega
          have h2i : (a : Int) + 1 < (l.length : Int) := by omega
          have h3i : (a : Int) + 2 < (l.length : Int) := by omega
          have hi1 : ∀ W, (Instr.index 9 (.string (bs l)) (.int .i64 ((a : Int) + 1))).run Tryz.prog W = .ok (.int .u8 (x1.toNat : Int)) W := fun W => by
            rw [run_index_string (P := Tryz.prog) W 9 (bs l) .i64 ((a : Int) + 1) Tryz.underlying9, dif_pos ⟨by omega, by rw [bs_size]; omega⟩]
            rw [bs_get, ← hx1]
            congr 3
          have hi2 : ∀ W, (Instr.index 9 (.string (bs l)) (.int .i64 ((a : Int) + 2))).run Tryz.prog W = .ok (.int .u8 (x2.toNat : Int)) W := fun W => by
            rw [run_index_string (P := Tryz.prog) W 9 (bs l) .i64 ((a : Int) + 2) Tryz.underlying9, dif_pos ⟨by omega, by rw [bs_size]; omega⟩]
            rw [bs_get, ← hx2]
            congr 3
          have hNl : N < 65536 := by have := x1.toNat_lt; have := x2.toNat_lt; omega
          have hKl := x0.toNat_lt
          have HNi := hide hN
          rw [← HPd.out] at hpl hfit ⊢
          clear hz ha hN
          go_wp2_with fail
          go_quiet (fail)
          generalize hW : World.drewN w1 _ = w2
          have HG2 : Hid (Grow w w2) := hide (by rw [← hW]; exact Go.below_drewN HG1.out _)
          have HO2 : Hid (ownStrs w2 w.heap.size (.slice ao n cp) (done.map (·.1))) := hide (by rw [← hW]; exact HO1.out)
          have HI2 : Hid (ownNats w2 w.heap.size (.slice bo m bp) (done.map (·.2))) := hide (by rw [← hW]; exact HI1.out)
          clear hW
          generalize x0.toNat = K at HR hKl ⊢
          have hbad : ∀ (_ : mayB K (!inn) = false), entA l 0 = done := fun hm => by
            cases hq : partAt l p with
            | none => exact HFin.out hq
            | some x =>
              obtain ⟨k, s, e⟩ := x
              have hk : k = K := by
                have h := HR.out
                rw [hq] at h
                split at h
                · cases h
                · split at h
                  · simp only [Option.some.injEq, Prod.mk.injEq] at h; exact h.1
                  · cases h
              subst hk
              rw [HE.out, restE_bad hq hm, List.append_nil]
          have HBad := hide hbad
          clear hbad hi1 hi2 hx0 hx1 hx2 hNi h2i h3i t1 t2 t3 t4 hA
          by_cases c1 : l.length < a + 7 + N
          · have HF := hide (HFin.out (HR.out.trans (if_pos (.inl c1))))
            have d1 : decide ((l.length : Int) < (a : Int) + 7 + (N : Int)) = true := by rw [decide_eq_true_iff]; omega
            go_wp2_with fail
            go_ret2
            exact ⟨_, _, rfl, by rw [HF.out]; exact HO2.out, by rw [HF.out]; exact HI2.out, HG2.out⟩
          · have d1 : decide ((l.length : Int) < (a : Int) + 7 + (N : Int)) = false := by rw [decide_eq_false_iff_not]; omega
            by_cases c2 : 128 < a % 128 + 7 + N
            · have HF := hide (HFin.out (HR.out.trans (if_pos (.inr c2))))
              have d2 : decide (128 < (a : Int) % 128 + 7 + (N : Int)) = true := by rw [decide_eq_true_iff]; omega
              go_wp2_with fail
              go_ret2
              exact ⟨_, _, rfl, by rw [HF.out]; exact HO2.out, by rw [HF.out]; exact HI2.out, HG2.out⟩
            · have d2 : decide (128 < (a : Int) % 128 + 7 + (N : Int)) = false := by rw [decide_eq_false_iff_not]; omega
              by_cases c3 : K < 1
              · have HF := hide (HBad.out (by unfold mayB; rw [if_neg (by omega), if_neg (by omega)]))
                have d3 : decide ((K : Int) < 1) = true := by rw [decide_eq_true_iff]; omega
                go_wp2_with fail
                go_ret2
                exact ⟨_, _, rfl, by rw [HF.out]; exact HO2.out, by rw [HF.out]; exact HI2.out, HG2.out⟩
              · have d3 : decide ((K : Int) < 1) = false := by rw [decide_eq_false_iff_not]; omega
                by_cases c4 : 4 < K
                · have HF := hide (HBad.out (by unfold mayB; rw [if_neg (by omega), if_neg (by omega)]))
                  have d4 : decide (4 < (K : Int)) = true := by rw [decide_eq_true_iff]; omega
                  go_wp2_with fail
                  go_ret2
                  exact ⟨_, _, rfl, by rw [HF.out]; exact HO2.out, by rw [HF.out]; exact HI2.out, HG2.out⟩
                · have d4 : decide (4 < (K : Int)) = false := by rw [decide_eq_false_iff_not]; omega
                  have hmay : mayB K (!inn) = !(inn != decide (3 ≤ (K : Int))) := by
                    have : K = 1 ∨ K = 2 ∨ K = 3 ∨ K = 4 := by omega
                    rcases this with rfl | rfl | rfl | rfl <;> cases inn <;> rfl
                  cases d5 : (inn != decide (3 ≤ (K : Int))) with
                  | true =>
                    have HF := hide (HBad.out (by rw [hmay, d5]; rfl))
                    have e5 : decide (3 ≤ (K : Int)) = !inn := by revert d5; cases inn <;> cases decide (3 ≤ (K : Int)) <;> simp
                    clear d5
                    clear hmay
                    go_wp2_with fail
                    go_ret2
                    exact ⟨_, _, rfl, by rw [HF.out]; exact HO2.out, by rw [HF.out]; exact HI2.out, HG2.out⟩
                  | false =>
                    have HMay : Hid (mayB K (!inn) = true) := hide (by rw [hmay, d5]; rfl)
                    have e5 : decide (3 ≤ (K : Int)) = inn := by revert d5; cases inn <;> cases decide (3 ≤ (K : Int)) <;> simp
                    clear d5
                    clear hmay
                    obtain ⟨S, hS⟩ : ∃ S, S = (l.drop (a + 7)).take N := ⟨_, rfl⟩
                    obtain ⟨X, hX⟩ : ∃ X, X = (l.drop a).take (7 + N) := ⟨_, rfl⟩
                    have HR2 : Hid (partAt l p = if partB K S = X then some (K, S, a + 7 + N) else none) := hide (by rw [HR.out, if_neg (by omega), hS, hX])
                    have s1 : List.take (a + 7 + N - (a + 7)) (List.drop (a + 7) l) = S := by rw [hS, Nat.add_sub_cancel_left]
                    have s1b : List.take N (List.drop (a + 7) l) = S := hS.symm
                    have s2 : List.take (a + 7 + N - a) (List.drop a l) = X := by rw [hX, show a + 7 + N - a = 7 + N from by omega]
                    have hSl : S.length = N := by rw [hS, List.length_take, List.length_drop]; omega
                    have HSl := hide hSl
                    have hSl2 : S.length ≤ 65536 := by omega
                    have hNl2 : N ≤ 121 := by omega
                    clear hS hX hSl
                    go_wp2_with fail
                    refine wp_region_free 10 137 Tryz.mixed3 rfl (by decide +kernel) Grow (fun _ _ _ => Grow.trans) (Grow.refl _)
                      (fun i v _ => match i with
                        | 0 => v = .int .i64 K
                        | 1 => v = .string (bs S)
                        | 2 => v = .string (bs (partB K S))
                        | 3 => v = .string (bs l)
                        | 4 => v = .int .i64 a
                        | 5 => v = .int .i64 a
                        | 6 => v = .int .i64 ((a : Int) + 7)
                        | 7 => v = .int .i64 N
                        | 8 => v = .int .i64 ((a : Int) + 7 + N)
                        | _ => v = .string (bs X))
                      (fun i v w w' h hg => h) (fun _ _ => False) (fun _ _ _ _ h => h.elim) (fun i hi o ho a' w2' hG hoff hdep => ?_) (fun vals w3 hG hvals => ?_)
                    · have b1 : (a : Int) + 7 + N ≤ l.length := by omega
                      match i, hi with
                      | 0, _ =>
                        obtain rfl := Option.some.inj ho
                        have o10 := hoff 10 (by decide +kernel)
                        simp at o10
                        simp [opYields, go_sem, o10]
                        exact Grow.refl _
                      | 1, _ =>
                        obtain rfl := Option.some.inj ho
                        have o12 := hoff 12 (by decide +kernel)
                        simp at o12
                        simp [opYields, go_sem, o12]
                        first|exact Grow.refl _|exact ⟨Grow.refl _, by rw [s1b]⟩
                      | 2, _ =>
                        obtain rfl := Option.some.inj ho
                        have d0 := hdep 0 (by decide +kernel)
                        simp [slotOf, dstOf] at d0
                        have d1 := hdep 1 (by decide +kernel)
                        simp [slotOf, dstOf] at d1
                        simp [opYields, go_sem, d0, d1]
                        refine (rPartOf_any K S _ hKl (by omega)).mono ?_
                        rintro e w3 ⟨rfl, hg3⟩
                        exact ⟨hg3, rfl⟩
                      | 3, _ =>
                        obtain rfl := Option.some.inj ho
                        have o0 := hoff 0 (by decide +kernel)
                        simp at o0
                        simp [opYields, go_sem, o0]
                        exact Grow.refl _
                      | 4, _ =>
                        obtain rfl := Option.some.inj ho
                        have o8 := hoff 8 (by decide +kernel)
                        simp at o8
                        simp [opYields, go_sem, o8]
                        exact Grow.refl _
                      | 5, _ =>
                        obtain rfl := Option.some.inj ho
                        have o8 := hoff 8 (by decide +kernel)
                        simp at o8
                        simp [opYields, go_sem, o8]
                        exact Grow.refl _
                      | 6, _ =>
                        obtain rfl := Option.some.inj ho
                        have d5 := hdep 5 (by decide +kernel)
                        simp [slotOf, dstOf] at d5
                        simp [opYields, go_sem, d5]
                        exact ⟨Grow.refl _, wrap_i64_smallL _ (by omega) (by omega)⟩
                      | 7, _ =>
                        obtain rfl := Option.some.inj ho
                        have o11 := hoff 11 (by decide +kernel)
                        simp at o11
                        simp [opYields, go_sem, o11]
                        exact Grow.refl _
                      | 8, _ =>
                        obtain rfl := Option.some.inj ho
                        have d6 := hdep 6 (by decide +kernel)
                        simp [slotOf, dstOf] at d6
                        have d7 := hdep 7 (by decide +kernel)
                        simp [slotOf, dstOf] at d7
                        simp [opYields, go_sem, d6, d7]
                        exact ⟨Grow.refl _, wrap_i64_smallL _ (by omega) (by omega)⟩
                      | 9, _ =>
                        obtain rfl := Option.some.inj ho
                        have d3 := hdep 3 (by decide +kernel)
                        simp [slotOf, dstOf] at d3
                        have d4 := hdep 4 (by decide +kernel)
                        simp [slotOf, dstOf] at d4
                        have d8 := hdep 8 (by decide +kernel)
                        simp [slotOf, dstOf] at d8
                        simp [opYields, go_sem, d3, d4, d8]
                        rw [if_pos ⟨by omega, by omega⟩, if_pos (by omega)]
                        exact ⟨Grow.refl _, by rw [show ((a : Int) + 7 + N).toNat - a = a + 7 + N - a from by omega, s2]⟩
                    · have v2 := hvals 2 (by omega)
                      have v9 := hvals 9 (by omega)
                      simp only at v2 v9
                      clear hvals
                      have HG3 := hide (Grow.trans HG2.out hG.undrew)
                      have HO3 := hide (ownRow_grow HO2.out hG.undrew)
                      have HI3 := hide (ownRow_grow HI2.out hG.undrew)
                      simp [over, dstOf, Act.put, v2, v9]
                      by_cases hx : partB K S = X
                      · rw [if_pos hx] at HR2
                        have tx : (partB K S == X) = true := by rw [beq_iff_eq]; exact hx
                        clear hx
                        have hpe := partAt_end HR2.out
                        have hsum : opn.length + S.length ≤ 1000000000 := by omega
                        cases hends : endsB K with
                        | false =>
                          have HE2 : Hid (entA l 0 = done ++ restE l (a + 7 + N) true (opn ++ S)) := hide (by rw [HE.out, restE_on HR2.out HMay.out hends])
                          have hk : K = 2 ∨ K = 3 := by
                            simp [endsB] at hends
                            omega
                          clear hends
                          by_cases hk2 : K = 2
                          · have t2k : ((K : Int) == 2) = true := by rw [beq_iff_eq]; omega
                            clear hk hk2
                            go_wp2_with fail
                            go_roundw
                            case rel => exact ⟨done, opn ++ S, true, a + 7 + N, ao, n, cp, bo, m, bp, rfl, rfl, rfl, rfl, by go_num, hpe.2.1, by omega, by rw [List.length_append]; omega, HN, HM, HG3, HO3, HI3, HE2⟩
                            case measure => simp [intOf]; omega
                          · have t2k : ((K : Int) == 2) = false := by rw [beq_eq_false_iff_ne]; omega
                            have t3k : ((K : Int) == 3) = true := by rw [beq_iff_eq]; omega
                            clear hk hk2
                            go_wp2_with fail
                            go_roundw
                            case rel => exact ⟨done, opn ++ S, true, a + 7 + N, ao, n, cp, bo, m, bp, rfl, rfl, rfl, rfl, by go_num, hpe.2.1, by omega, by rw [List.length_append]; omega, HN, HM, HG3, HO3, HI3, HE2⟩
                            case measure => simp [intOf]; omega
                        | true =>
                          have HE2 : Hid (entA l 0 = (done ++ [(opn ++ S, a + 7 + N)]) ++ restE l (a + 7 + N) false []) := hide (by rw [HE.out, restE_end HR2.out HMay.out hends, restE_new]; simp)
                          have hk : K = 1 ∨ K = 4 := by
                            simp [endsB] at hends
                            omega
                          have t2k : ((K : Int) == 2) = false := by rw [beq_eq_false_iff_ne]; omega
                          have t3k : ((K : Int) == 3) = false := by rw [beq_eq_false_iff_ne]; omega
                          clear hk hends
                          have HL2 : Hid ((done ++ [(opn ++ S, a + 7 + N)]).map (·.1) = done.map (·.1) ++ [opn ++ S]) := hide (by simp)
                          have HL3 : Hid ((done ++ [(opn ++ S, a + 7 + N)]).map (·.2) = done.map (·.2) ++ [a + 7 + N]) := hide (by simp)
                          have HM1 : Hid ((done.map (·.1)).length = done.length) := hide (by simp)
                          have HM2 : Hid ((done.map (·.2)).length = done.length) := hide (by simp)
                          have hB3 : w.heap.size ≤ w3.heap.size := HG3.out.size
                          generalize done.map (·.1) = D1 at HO HO1 HO2 HO3 HL2 HM1
                          generalize done.map (·.2) = D2 at HI HI1 HI2 HI3 HL3 HM2
                          go_wp2_with (first
                            | (at_builtin; refine append_strL rfl (.tmp 129) (.tmp 131) rfl w.heap.size D1 (opn ++ S) rfl HO3.out rfl (by rw [HM1.out]; omega) hB3 ?_; intro ao9 cp9 n9 w9 hn9 hn9l hown9 hgrow9 hbel9; have HI9 := hide (ownRow_grown HI3.out HO3.out hgrow9 (by decide)); have HO9 := hide hown9; have HBel9 := hide hbel9; have hB9 := Nat.le_trans hB3 hbel9.size; clear hown9 hgrow9 hbel9 hn9l)
                            | (at_builtin; refine append_natL rfl (.tmp 133) (.tmp 135) rfl w.heap.size D2 (a + 7 + N) _ (by omega) rfl HI9.out rfl (by rw [HM2.out]; omega) hB9 ?_; intro bo9 bp9 m9 w10 hm9 hm9l hown10 hgrow10 hbel10; have HO10 := hide (ownRow_grown HO9.out HI9.out hgrow10 (by decide)); have HI10 := hide hown10; have HBel10 := hide hbel10; clear hown10 hgrow10 hbel10 hm9l))
                          go_roundw
                          case rel => exact ⟨done ++ [(opn ++ S, a + 7 + N)], [], false, a + 7 + N, ao9, n9, cp9, bo9, m9, bp9, rfl, rfl, rfl, rfl, by go_num, hpe.2.1, by simp; omega, by simp, hide (by rw [hn9.out]; simp [HM1.out]), hide (by rw [hm9.out]; simp [HM2.out]), hide (Below.trans HG3.out (Below.trans HBel9.out HBel10.out)), hide (by rw [HL2.out]; exact HO10.out), hide (by rw [HL3.out]; exact HI10.out), HE2⟩
                          case measure => simp [intOf]; omega
                      · rw [if_neg hx] at HR2
                        have tx : (partB K S == X) = false := by rw [beq_eq_false_iff_ne]; exact hx
                        have HF := hide (HFin.out HR2.out)
                        clear hx
                        go_wp2_with fail
                        go_ret2
                        exact ⟨_, _, rfl, by rw [HF.out]; exact HO3.out, by rw [HF.out]; exact HI3.out, HG3.out⟩
        · have HF := hide (HFin.out (by unfold partAt; rw [if_neg (fun h => h hz), ← ha, if_pos (by omega)]))
          rw [← HPd.out] at hpl hfit ⊢
          clear hz ha
          go_wp2_with fail
          go_ret2
          exact ⟨_, _, rfl, by rw [HF.out]; exact HO1.out, by rw [HF.out]; exact HI1.out, HG1.out⟩
      · have HF := hide (HFin.out (by unfold partAt; rw [if_pos hz]))
        rw [← HPd.out] at hpl hfit hz ⊢
        have t1 : decide ((l.length : Int) < (p : Int) + (P.length : Int)) = false := by rw [decide_eq_false_iff_not]; omega
        have t2 : (List.take P.length (List.drop p l) == P) = false := by rw [beq_eq_false_iff_ne]; exact hz
        clear hz
        go_wp2_with fail
        go_ret2
        exact ⟨_, _, rfl, by rw [HF.out]; exact HO1.out, by rw [HF.out]; exact HI1.out, HG1.out⟩
    · have HF := hide (HFin.out (by
        unfold partAt
        rw [if_pos (fun h => hfit (by
          have := congrArg List.length h
          rw [List.length_take, List.length_drop] at this
          omega))]))
      rw [← HPd.out] at hpl hfit ⊢
      have t1 : decide ((l.length : Int) < (p : Int) + (P.length : Int)) = true := by rw [decide_eq_true_iff]; omega
      go_wp2_with fail
      go_ret2
      exact ⟨_, _, rfl, by rw [HF.out]; exact HO1.out, by rw [HF.out]; exact HI1.out, HG1.out⟩
end Go.Proofs.YtkaeogldielkfaaGreat.Lg
