/- 2 texts in one. -/
import Derived.Test.YtndpjdmfkhjiiaaGreatDoorProg
import Derived.Test.YtndpjdmfkhjiiaaGreatDoorQ74d152
import Derived.Test.YtndpjdmfkhjiiaaGreatDoorQ3d7cfc
import Derived.Test.YtndpjdmfkhjiiaaGreatDoorQaab1cc
import Derived.Test.YtndpjdmfkhjiiaaGreatDoorQfc891e
import Derived.Laws.OwnMore
import Derived.Test.YtndpjdmfkhjiiaaGreatDoorLBegV
import Derived.Test.YtndpjdmfkhjiiaaGreatDoorLGetV
import Derived.Test.YtndpjdmfkhjiiaaGreatDoorLRefAV
import Derived.Test.YtndpjdmfkhjiiaaGreatDoorMChoV
import Derived.Test.YtndpjdmfkhjiiaaGreatDoorQa417bc
import Derived.BigFrame
import Derived.BigQuiet
/- RelabelShares: what two rules of RuleShare make that differ in their modulus alone; digits and their number. -/
set_option linter.unusedVariables false
set_option linter.unusedSimpArgs false
namespace Go.Proofs.YtndpjdmfkhjiiaaGreatDoor.Rl
open Go.RowKit Lb

theorem putGo_len (n v v' : List UInt8) : ∀ (l : List Lab) (b : Bool), (putGo n v b l).length = (putGo n v' b l).length
  | [], b => by unfold putGo; split <;> rfl
  | x :: l, b => by
    have h1 := putGo_len n v v' l true
    have h2 := putGo_len n v v' l b
    unfold putGo
    split
    · split <;> simp [h1]
    · split <;> simp [h2]
def shName : List UInt8 := [115, 104, 97, 114, 101]
theorem shName_is : nameB shName = true := by decide
def shareR (src : List (List UInt8)) (M : Int) : Rul := { kind := 4, sources := src, between := [], mask := [], modulus := M, target := shName, repl := [] }
theorem dec_ne (u : Nat) : Lib.decDigits u ≠ [] := fun e => by
  have h1 := Lib.decDigits_length u
  have h2 := Lib.nDigits_pos u
  rw [e] at h1
  simp at h1
  omega
theorem dec_short {u : Nat} (h : u < 1000) : (Lib.decDigits u).length ≤ 3 := by
  rw [Lib.decDigits_length]
  by_cases h1 : u < 10
  · rw [Lib.nDigits_small h1]; omega
  · rw [Lib.nDigits_big h1]
    by_cases h2 : u / 10 < 10
    · rw [Lib.nDigits_small h2]; omega
    · rw [Lib.nDigits_big h2, Lib.nDigits_small (by omega)]; omega
theorem with_same {ls : List Lab} {v v' : List UInt8} (h1 : v ≠ []) (h2 : v' ≠ []) (h3 : v.length ≤ 100) (h4 : v'.length ≤ 100) : withErr ls shName v = withErr ls shName v' := by
  unfold withErr
  have : (putB ls shName v).length = (putB ls shName v').length := by
    unfold putB
    rw [show decide (v = []) = false by simpa using h1, show decide (v' = []) = false by simpa using h2]
    exact putGo_len _ _ _ _ _
  rw [if_pos h3, if_pos h4, this]
theorem share_apply (ls : List Lab) (src : List (List UInt8)) : (∃ E : Nat, E ≠ 0 ∧ ∀ M : Nat, 1 ≤ M → M ≤ 1000 → applyB ls [shareR src M] = ([], false, E)) ∨
    ∃ S : Nat, ∀ M : Nat, 1 ≤ M → M ≤ 1000 → withErr ls shName (Lib.decDigits (S % M)) = 0 ∧ applyB ls [shareR src M] = (putB ls shName (Lib.decDigits (S % M)), true, 0) := by
  have hre : ∀ M : Nat, 1 ≤ M → M ≤ 1000 → ruleErr (shareR src M) = partsErr (shareR src 1) := by
    intro M h1 h2
    unfold ruleErr
    rw [if_pos (by simp [shareR])]
    have hk : kindErr (shareR src M) = 0 := by
      unfold kindErr
      rw [if_neg (by simp [shareR]), if_pos (by simp [shareR]), if_pos (show nameB (shareR src M).target = true from shName_is), if_neg (by simp only [shareR]; omega)]
    have hp : partsErr (shareR src M) = partsErr (shareR src 1) := rfl
    rw [hk, hp]
    split
    · rfl
    · rename_i h; omega
  have hal : ∀ M : Nat, 1 ≤ M → M ≤ 1000 → allErr ls [shareR src M] = allErr ls [shareR src (1 : Nat)] := by
    intro M h1 h2
    unfold allErr rulesErr
    rw [hre M h1 h2, hre 1 (by omega) (by omega)]
    simp [rulesErr]
  by_cases hA : allErr ls [shareR src (1 : Nat)] = 0
  · have hs : ∀ M : Nat, sourceB (shareR src M) ls = sourceB (shareR src 1) ls := fun M => rfl
    by_cases h2000 : 2000 < (sourceB (shareR src 1) ls).length
    · refine .inl ⟨2, by omega, fun M h1 h2 => ?_⟩
      unfold applyB
      rw [hal M h1 h2, hA, if_neg (by omega)]
      simp only [ruleGo]
      rw [hs M, if_pos h2000]
    · obtain ⟨S, hS⟩ : ∃ S, (if sourceB (shareR src 1) ls = [] then 0 else sumB [([120], (sourceB (shareR src 1) ls).take 100)]) = S := ⟨_, rfl⟩
      have hd : ∀ M : Nat, deedR (shareR src M) ls (sourceB (shareR src 1) ls) = (withAns ls shName (Lib.decDigits (S % M)), true, withErr ls shName (Lib.decDigits (S % M))) := by
        intro M
        unfold deedR deedB
        rw [if_neg (by simp [shareR]), if_neg (by simp [shareR]), if_neg (by simp [shareR]), if_pos (by simp [shareR])]
        have ht : shareT (shareR src M) (sourceB (shareR src 1) ls) = Lib.decDigits (S % M) := by
          unfold shareT shareN
          rw [hS]
          rfl
        rw [ht]
        rfl
      have hw : ∀ M : Nat, 1 ≤ M → M ≤ 1000 → withErr ls shName (Lib.decDigits (S % M)) = withErr ls shName (Lib.decDigits 0) := fun M h1 h2 => by
        have := Nat.mod_lt S (show 0 < M by omega)
        have := dec_short (u := S % M) (by omega)
        have := dec_short (u := 0) (by omega)
        exact with_same (dec_ne _) (dec_ne _) (by omega) (by omega)
      have hgo : ∀ M : Nat, 1 ≤ M → M ≤ 1000 → applyB ls [shareR src M] = if withErr ls shName (Lib.decDigits 0) ≠ 0 then ([], false, withErr ls shName (Lib.decDigits 0)) else (withAns ls shName (Lib.decDigits (S % M)), true, 0) := fun M h1 h2 => by
        unfold applyB
        rw [hal M h1 h2, hA, if_neg (by omega)]
        simp only [ruleGo]
        rw [hs M, if_neg h2000, hd M, hw M h1 h2]
        by_cases h : withErr ls shName (Lib.decDigits 0) = 0
        · simp [h]
        · simp [h]
      by_cases h : withErr ls shName (Lib.decDigits 0) = 0
      · refine .inr ⟨S, fun M h1 h2 => ?_⟩
        have hz := (hw M h1 h2).trans h
        refine ⟨hz, ?_⟩
        rw [hgo M h1 h2, if_neg (by omega), withAns_ok hz]
      · exact .inl ⟨_, h, fun M h1 h2 => by rw [hgo M h1 h2, if_pos h]⟩
  · exact .inl ⟨_, hA, fun M h1 h2 => by
      unfold applyB
      rw [hal M h1 h2, if_pos hA]⟩

/-- The number that digits say. -/
def numOf (l : List UInt8) : Nat := l.foldl (fun n c => 10 * n + (c.toNat - 48)) 0
theorem dec_digits (u : Nat) : (∀ c ∈ Lib.decDigits u, 48 ≤ c.toNat ∧ c.toNat ≤ 57) ∧ numOf (Lib.decDigits u) = u := by
  induction u using Nat.strongRecOn with
  | _ u ih =>
    have hc : ∀ k, k < 10 → (UInt8.ofNat (48 + k)).toNat = 48 + k := fun k hk => by rw [UInt8.toNat_ofNat', Nat.mod_eq_of_lt (by omega)]
    rw [Lib.decDigits]
    by_cases h : u < 10
    · rw [dif_pos h]
      refine ⟨fun c hm => ?_, ?_⟩
      · obtain rfl := List.mem_singleton.1 hm
        rw [hc u h]; omega
      · unfold numOf
        simp only [List.foldl_cons, List.foldl_nil]
        rw [hc u h]; omega
    · rw [dif_neg h]
      obtain ⟨h1, h2⟩ := ih (u / 10) (by omega)
      refine ⟨fun c hm => ?_, ?_⟩
      · rcases List.mem_append.1 hm with hm | hm
        · exact h1 c hm
        · obtain rfl := List.mem_singleton.1 hm
          rw [hc (u % 10) (by omega)]; omega
      · unfold numOf at h2 ⊢
        rw [List.foldl_append, h2]
        simp only [List.foldl_cons, List.foldl_nil]
        rw [hc (u % 10) (by omega)]; omega
theorem num_lt : ∀ (l : List UInt8) (a : Nat), (∀ c ∈ l, c.toNat ≤ 57) → l.foldl (fun n c => 10 * n + (c.toNat - 48)) a < (a + 1) * 10 ^ l.length
  | [], a, _ => by simp
  | c :: l, a, h => by
    have h1 := num_lt l (10 * a + (c.toNat - 48)) (fun x hx => h x (by simp [hx]))
    have h2 := h c (by simp)
    rw [List.foldl_cons, List.length_cons, Nat.pow_succ]
    refine Nat.lt_of_lt_of_le h1 ?_
    rw [Nat.mul_comm (10 ^ l.length) 10, ← Nat.mul_assoc]
    exact Nat.mul_le_mul_right _ (by omega)
theorem numOf_lt {l : List UInt8} (h : ∀ c ∈ l, c.toNat ≤ 57) (hl : l.length ≤ 3) : numOf l < 1000 := by
  have h1 := num_lt l 0 h
  have h2 : 10 ^ l.length ≤ 10 ^ 3 := Nat.pow_le_pow_right (by decide) hl
  unfold numOf
  omega
theorem numOf_take {l : List UInt8} {k : Nat} (h : k < l.length) : numOf (l.take (k + 1)) = 10 * numOf (l.take k) + (l[k].toNat - 48) := by
  unfold numOf
  rw [List.take_succ_eq_append_getElem h, List.foldl_append]
  rfl
end Go.Proofs.YtndpjdmfkhjiiaaGreatDoor.Rl

/- RelabelShares: the law's walk. -/
set_option linter.unusedVariables false
set_option linter.unusedSimpArgs false
namespace Go.Proofs.YtndpjdmfkhjiiaaGreatDoor.Rl
open Go.RowKit Lb
attribute [local go_sem] bs_size bs_toList bs_append bs_get bs_extract

theorem one_ruleS (w : World) (b : Nat) (r : Rul) (u : Value) (h : w.heap[b]? = some (.cells #[.int .i64 r.kind, u, .string (bs r.between), .string (bs r.mask), .int .i64 r.modulus, .string (bs r.target), .string (bs r.repl)] 24 (0, 0))) (hs : readsStrs w w.heap.size u r.sources) : readsRules w w.heap.size (.slice (some ⟨b, 0, none⟩) 1 1) [r] := by
  obtain ⟨c0, c1, c2, c3, c4, c5, c6⟩ := seven_cells h
  refine ⟨_, _, rfl, fun i hi => ?_⟩
  match i, hi with
  | 0, _ => exact ⟨b, 0, u, rfl, lt_of_block h, hs, c0, c1, c2, c3, c4, c5, c6⟩
theorem okR_share {src : List (List UInt8)} {M : Nat} (hsl : src.length ≤ 9223372036854775807) (hsi : ∀ y ∈ src, y.length ≤ 9223372036854775807) : okRs [shareR src M] := by
  intro r hr
  obtain rfl := List.mem_singleton.1 hr
  exact ⟨⟨hsl, hsi, by simp [shareR], by simp [shareR], by simp [shareR, shName], by simp [shareR]⟩, (by decide : (Lit.int .i64 4).wf = true)⟩

set_option maxRecDepth 20000 in
set_option maxHeartbeats 8000000 in
theorem relabelShares_any (w : World) (htab : tabOk w) (va : Value) (ls : List Lab) (ha : readsLabels w w.heap.size va ls) (hlen : ls.length ≤ 9223372036854775807) (hin : ∀ y ∈ ls, y.1.length ≤ 9223372036854775807 ∧ y.2.length ≤ 9223372036854775807)
    (vs : Value) (src : List (List UInt8)) (hs : readsStrs w w.heap.size vs src) (hsl : src.length ≤ 9223372036854775807) (hsi : ∀ y ∈ src, y.length ≤ 9223372036854775807) (c : Int) (h0 : -9223372036854775808 ≤ c) (h1 : c ≤ 9223372036854775807) :
    Calls Tryz.prog 8 #[va, vs, .int .i64 c] w fun e w' => e = .returned (.bool true) ∧ Grow w w' := by
  obtain ⟨k, hk, hch⟩ := choose_is c 1000 w h0 h1 (by decide) (by decide)
  obtain ⟨M, hM⟩ : ∃ M : Nat, 1 + (k : Int) = (M : Int) := ⟨1 + k, rfl⟩
  have hM1 : 1 ≤ M := by omega
  have hM2 : M ≤ 1000 := by omega
  have HTAB := hide htab
  have HA := hide ha
  have HIN := hide hin
  have HS := hide hs
  have HSI := hide hsi
  have HCH : Hid (∀ w, Calls Tryz.prog 18 #[.int .i64 c, .int .i64 1000] w fun e w' => e = .returned (.int .i64 k) ∧ w' = w) := hide hch
  have HAP : Hid (∀ N : Nat, ∀ W, Grow w W → ∀ b, W.heap[b]? = some (.cells #[.int .i64 4, vs, .string { data := #[] }, .string { data := #[] }, .int .i64 N, .string { data := #[115, 104, 97, 114, 101] }, .string { data := #[] }] 24 (0, 0)) → Calls Tryz.prog 13 #[va, .slice (some ⟨b, 0, none⟩) 1 1] W fun e w' => Grow W w' ∧ ApplyPost W.heap.size (applyB ls [shareR src N]) e w') := hide (fun N W hg b hb =>
    apply_at w htab va ls hlen hin _ [shareR src N] (by simp) (okR_share hsl hsi) W hg (readsLabels_mono (readsLabels_below ha hg) hg.size) (one_ruleS W b (shareR src N) vs hb ((hs.keep hg).more hg.size)))
  obtain ⟨lo, lc, rfl⟩ := readsLabels_len ha
  obtain ⟨so, sc, rfl, _⟩ := id hs
  have HSH := hide (share_apply ls src)
  clear ha hin hs hsi htab hch h0 h1
  go_enter Tryz.func8, Tryz.ntmps8
  go_wp2_with fail
  refine (relabelBegun_any w HTAB.out).mono ?_
  rintro e w1 ⟨rfl, hg1⟩
  have HG1 := hide hg1
  clear hg1
  go_wp2_with fail
  refine (labelsBegun_any w1).mono ?_
  rintro e w2 ⟨rfl, hg2⟩
  have HG2 : Hid (Grow w w2) := hide (HG1.out.trans hg2)
  clear hg2
  go_wp2_with fail
  refine (HCH.out w2).mono ?_
  rintro e w3 ⟨rfl, hw3⟩
  subst hw3
  obtain ⟨W, eW, gW, sW, k1, k2, k3⟩ := laid3 w3 #[.int .i64 4, .slice so src.length sc, .string { data := #[] }, .string { data := #[] }, .int .i64 M, .string { data := #[115, 104, 97, 114, 101] }, .string { data := #[] }] #[.int .i64 4, .slice so src.length sc, .string { data := #[] }, .string { data := #[] }, .int .i64 1, .string { data := #[115, 104, 97, 114, 101] }, .string { data := #[] }] #[.int .i64 4, .slice so src.length sc, .string { data := #[] }, .string { data := #[] }, .int .i64 M, .string { data := #[115, 104, 97, 114, 101] }, .string { data := #[] }] 24 24 24
  have HGW := hide (HG2.out.trans gW)
  have HX := hide (HAP.out M W HGW.out _ k3)
  have HK1 := hide k1
  have HK2 := hide k2
  clear gW k1 k2 k3
  go_wp2_with fail
  refine HX.out.mono ?_
  rintro e w4 ⟨hg4, xo, xn, xc, rfl, hownX⟩
  have HOX := hide hownX
  have hk2 := hg4.get HK2.out
  obtain ⟨c0, c1, c2, c3, c4, c5, c6⟩ := seven_cells hk2
  obtain ⟨V, eV, gV, sV, hV⟩ := laid_rule w4 (.int .i64 4) (.slice so src.length sc) (.string { data := #[] }) (.string { data := #[] }) (.int .i64 1) (.string { data := #[115, 104, 97, 114, 101] }) (.string { data := #[] }) 24
  have HGV := hide (HGW.out.trans (hg4.trans gV))
  have HY := hide (HAP.out 1 V HGV.out w4.heap.size hV)
  have HOX2 := hide (own_grow hownX gV)
  have HK1V := hide ((hg4.trans gV).get HK1.out)
  clear hk2 hg4 gV hV hownX
  go_wp2_with fail
  refine HY.out.mono ?_
  rintro e w5 ⟨hg5, yo, yn, yc, rfl, hownY⟩
  have HG5 := hide (HGV.out.trans hg5)
  have HOX5 := hide (own_grow HOX2.out hg5)
  have HOY5 := hide hownY
  have HK5 := hide (hg5.get HK1V.out)
  clear hg5 hownY eV eW c0 c1 c2 c3 c4 c5 c6
  rcases HSH.out with ⟨E, hE, hall⟩ | ⟨S, hall⟩
  · rw [hall M hM1 hM2, hall 1 (by decide) (by decide)]
    have hne : ((E : Int) != 0) = true := by simp; omega
    clear hE hall
    go_wp2
    go_ret
    exact ⟨rfl, HG5.out⟩
  · obtain ⟨hw1, ha1⟩ := hall M hM1 hM2
    obtain ⟨hw2, ha2⟩ := hall 1 (by decide) (by decide)
    obtain ⟨_, b2, b3, b4⟩ := back_put hw1
    obtain ⟨_, d2, d3, d4⟩ := back_put hw2
    rw [Nat.mod_one] at d2 d3 d4 ha2
    have hmod : S % M < M := Nat.mod_lt S (by omega)
    obtain ⟨n, HN⟩ : ∃ n, Hid (S % M = n) := ⟨_, hide rfl⟩
    rw [HN.out] at b2 b3 b4 ha1 hmod
    have hX := HOX5.out
    have hY := HOY5.out
    rw [ha1] at hX ⊢
    rw [ha2] at hY ⊢
    obtain ⟨_, _, ex⟩ := own_shape hX
    obtain ⟨_, _, ey⟩ := own_shape hY
    simp only [Value.slice.injEq] at ex ey
    obtain ⟨-, rfl, -⟩ := ex
    obtain ⟨-, rfl, -⟩ := ey
    have hg1 : getAns (putB ls shName (Lib.decDigits n)) shName = Lib.decDigits n := by unfold getAns; rw [if_pos b3, b4]
    have hg2 : getAns (putB ls shName (Lib.decDigits 0)) shName = [48] := by unfold getAns; rw [if_pos d3, d4, Lib.decDigits_one (by decide)]; rfl
    generalize putB ls shName (Lib.decDigits n) = X at *
    generalize putB ls shName (Lib.decDigits 0) = Y at *
    have hxs := right_small b2
    have hys := right_small d2
    have HGX : Hid (∀ W2, Grow w5 W2 → Calls Tryz.prog 19 #[.slice xo X.length xc, .string { data := #[115, 104, 97, 114, 101] }] W2 fun e w' => e = .returned (.tuple #[.string (bs (Lib.decDigits n)), .int .i64 0]) ∧ Grow W2 w') := hide (fun W2 hg => by
      have h := get_any W2 (.slice xo X.length xc) X shName (reads_ownLabels (own_grow hX hg)) (by omega) (fun x hx => by have := hxs.2 x hx; omega) (by decide)
      rw [hg1, b3] at h
      exact h)
    have HGY : Hid (∀ W2, Grow w5 W2 → Calls Tryz.prog 19 #[.slice yo Y.length yc, .string { data := #[115, 104, 97, 114, 101] }] W2 fun e w' => e = .returned (.tuple #[.string { data := #[48] }, .int .i64 0]) ∧ Grow W2 w') := hide (fun W2 hg => by
      have h := get_any W2 (.slice yo Y.length yc) Y shName (reads_ownLabels (own_grow hY hg)) (by omega) (fun x hx => by have := hys.2 x hx; omega) (by decide)
      rw [hg2, d3] at h
      exact h)
    clear b2 b3 b4 d2 d3 d4 ha1 ha2 hX hY hg1 hg2 hxs hys hw1 hw2 hall
    go_wp2_with fail
    refine (HGX.out w5 (Grow.refl _)).mono ?_
    rintro e w6 ⟨rfl, hg6⟩
    have HG6 := hide hg6
    clear hg6
    go_wp2_with fail
    refine (HGY.out w6 HG6.out).mono ?_
    rintro e w7 ⟨rfl, hg7⟩
    have HG57 := hide (HG6.out.trans hg7)
    have HG7 := hide (HG5.out.trans HG57.out)
    have HK7 := hide (HG57.out.get HK5.out)
    clear hg7
    have hn3 := dec_short (u := n) (by omega)
    have hdn := dec_ne n
    obtain ⟨hdd, hdv⟩ := dec_digits n
    obtain ⟨D, HD⟩ : ∃ D, Hid (Lib.decDigits n = D) := ⟨_, hide rfl⟩
    rw [HD.out] at hn3 hdn hdd hdv ⊢
    have hemp : D.isEmpty = false := by cases D with | nil => exact absurd rfl hdn | cons => rfl
    have HDD := hide hdd
    have HDV := hide hdv
    clear hdn hdd hdv
    have hn1000 : n < 1000 := by omega
    go_wp2
    go_loopw [17, 18] (fun nv iv wr => ∃ k : Nat, k ≤ D.length ∧ iv = .int .i64 k ∧ nv = .int .i64 ((numOf (D.take k) : Nat) : Int) ∧ wr = w7) (fun _ iv _ => D.length - (intOf iv).toNat)
    case atStart => exact ⟨0, by omega, rfl, rfl, rfl⟩
    case round =>
      obtain ⟨k, hk, rfl, rfl, rfl⟩ := hrel
      by_cases hlt : k < D.length
      · have hcd := HDD.out _ (List.getElem_mem hlt)
        have HG : Hid (digB D[k] = true) := hide (by unfold digB; simp [hcd])
        have HNX := hide (numOf_take hlt)
        have hnl := numOf_lt (l := D.take k) (fun c hc => (HDD.out c (List.mem_of_mem_take hc)).2) (by rw [List.length_take]; omega)
        generalize numOf (D.take k) = N at HNX hnl ⊢
        go_wp2_with (go_at_call 20; refine (Lb.rIsNumeral_any D[k] _).mono ?_; rintro e w' ⟨rfl, rfl⟩; rw [HG.out])
        go_roundw
        case rel => exact ⟨k + 1, by omega, by go_num, by rw [HNX.out]; exact congrArg (Value.int .i64) (by omega), trivial⟩
        case measure => simp [intOf]; omega
      · obtain rfl : k = D.length := by omega
        rw [List.take_length, HDV.out]
        obtain ⟨q0, q1, q2, q3, q4, q5, q6⟩ := seven_cells HK7.out
        have HFR := hide (from_any wr n (by omega))
        have hnM : (n : Int) < (M : Int) := by omega
        go_wp2_with fail
        refine HFR.out.mono ?_
        rintro e w8 ⟨hg8, v8, rfl, hown8⟩
        have HG8 := hide (HG7.out.trans hg8)
        have HDE := hide (decimals_any w8 n 1 (by omega) (by decide) (by decide) v8 (own_readsLim hown8) (fun m hm => Nat.le_trans (limbs_len 3 m (by omega)) (by decide)))
        clear hg8 hown8
        go_wp2_with fail
        refine HDE.out.mono ?_
        rintro e w9 ⟨hg9, rfl⟩
        rw [HD.out]
        have HG9 := hide (HG8.out.trans hg9)
        clear hg9
        go_wp2
        go_ret
        exact ⟨by simp, HG9.out⟩
end Go.Proofs.YtndpjdmfkhjiiaaGreatDoor.Rl
