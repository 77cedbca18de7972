/- LogBack, for all records and every place: what is appended is read; cut off anywhere the log has the records that were whole, and no others. No condition. -/
import Derived.Test.YtjjjncainakbiaaRows
import Derived.Test.YtjjjncainakbiaaKit
import Derived.Test.YtjjjncainakbiaaTrod
import Derived.Test.YtjjjncainakbiaaLgT
import Derived.Test.YtjjjncainakbiaaLgG
import Derived.Test.YtjjjncainakbiaaLgI
import Derived.Test.YtjjjncainakbiaaLgO
import Derived.Test.YtjjjncainakbiaaLgB
import Derived.Test.YtjjjncainakbiaaLgF
import Derived.Test.YtjjjncainakbiaaLgOpn
import Derived.Test.YtjjjncainakbiaaLgX
import Derived.Test.YtjjjncainakbiaaLgY
import Derived.ProofKit
import Derived.BigQuiet
import Derived.BigFrame
set_option linter.unusedVariables false
set_option linter.unusedSimpArgs false
namespace Go.Proofs.Ytjjjncainakbiaa
open Go.ChangeShapes Go.WideShapes Go.ChangeAt Go.RowKit
open Go.ChangeMaps (open_string shut_string)
attribute [local go_sem] bs_size bs_toList bs_append bs_get bs_extract

open Lg
set_option maxRecDepth 20000 in
set_option maxHeartbeats 1000000 in
theorem logBack_any (w : World) (v : Value) (l : List (List UInt8)) (hv : readsC w w.heap.size v l) (hl : l.length ≤ 9223372036854775807) (hls : ∀ x ∈ l, x.length ≤ 9223372036854775807) (c : Int) (hc1 : -9223372036854775808 ≤ c) (hc2 : c ≤ 9223372036854775807) :
    Calls Try.prog 6 #[v, .int .i64 c] w fun e w' => e = .returned (.bool true) ∧ Below w.heap.size w w' := by
  obtain ⟨hread, ao, cp, rfl, hcap⟩ := hv
  have HR := hide hread
  have HLS := hide hls
  clear hread hls
  go_enter Try.func6, Try.ntmps6
  go_wp2_with fail
  refine (logBegun_any w).mono ?_
  rintro e w1 ⟨rfl, hb1⟩
  have HB1 := hide hb1
  have HR1 := hide ((HR.out.keep hb1).more hb1.size)
  clear hb1
  by_cases h30 : 30 < l.length
  · have h30i : (30 : Int) < (l.length : Int) := by omega
    have hcap30 : 30 ≤ cp := by omega
    obtain ⟨L, hL⟩ : ∃ L, L = l.take 30 := ⟨_, rfl⟩
    have hLl : L.length = 30 := by rw [hL, List.length_take]; omega
    have HR2 : Hid (readsStrs w1 w1.heap.size (.slice ao 30 cp) L) := hide (by rw [hL]; exact reads_take HR1.out 30 (by omega))
    have HLS2 : Hid (∀ x ∈ L, x.length ≤ 9223372036854775807) := hide (fun x hx => HLS.out x (List.mem_of_mem_take (by rw [← hL]; exact hx)))
    clear hL
    go_wp2_with fail
    obtain ⟨N, hN⟩ : ∃ N, N = 30 := ⟨_, rfl⟩
    rw [show (Value.slice ao 30 cp) = Value.slice ao N cp from by rw [hN]]
    rw [← hN] at hLl HR2
    have hNcp : N ≤ cp := by omega
    have hL30 : L.length ≤ 30 := by omega
    have HNL := hide hLl
    have hNk1 : N ≤ L.length := by omega
    have hNk2 : L.length ≤ N := by omega
    clear hN hLl h30 h30i hcap30
    refine (logOf_any w1 _ L HR2.out hL30 HLS2.out).mono ?_
    rintro e w2 ⟨rfl, hb2⟩
    have HB2 : Hid (Below w.heap.size w w2) := hide (HB1.out.trans (hb2.mono HB1.out.size))
    have HR3 := hide ((HR2.out.keep hb2).more hb2.size)
    clear hb2
    cases hfold : logFold [] L with
    | none =>
      rw [show logOfA L = .tuple #[.string { data := #[] }, .bool false] from by unfold logOfA; rw [hfold]]
      clear hfold
      go_wp2_with fail
      go_ret
      exact ⟨rfl, HB2.out⟩
    | some S =>
      rw [show logOfA L = .tuple #[.string (bs S), .bool true] from by unfold logOfA; rw [hfold]]
      obtain ⟨hSk, hSl⟩ := logFold_some hfold
      have hSl := hSl (by simp)
      have hent : entA S 0 = entsK 0 L := by rw [hSk]; exact entA_logK L []
      have hend : lastE (entsK 0 L) = S.length := by rw [lastE_eq, hSk]; exact entsK_end L []
      have HF := hide hfold
      have HSK := hide hSk
      have HEnt := hide hent
      have HEnd := hide hend
      clear hfold hSk hent hend
      go_wp2_with fail
      refine (logRead_any S w2 (by omega)).mono ?_
      rintro e w3 ⟨v3, rfl, ho3, hb3⟩
      rw [HEnt.out, entsK_fst] at ho3
      rw [HEnt.out, HEnd.out]
      have HB3 : Hid (Below w.heap.size w w3) := hide (HB2.out.trans (hb3.mono HB2.out.size))
      have HR4 := hide ((HR3.out.keep hb3).more hb3.size)
      have HP3 := hide (readsStrs_own ho3)
      obtain ⟨bo, bp, rfl⟩ := own_shape ho3
      clear hb3 ho3
      go_wp2_with fail
      refine (sameTexts_any w3 _ _ L L HR4.out HP3.out (by omega) (by omega)).mono ?_
      rintro e w4 ⟨rfl, n4, rfl⟩
      rw [decide_eq_true (rfl : L = L)]
      have HB4 : Hid (Below w.heap.size w (w3.drewN n4)) := hide (Go.below_drewN HB3.out n4)
      have HR5 : Hid (readsStrs (w3.drewN n4) (w3.drewN n4).heap.size (.slice ao N cp) L) := hide HR4.out
      generalize w3.drewN n4 = w4 at HB4 HR5 ⊢
      go_wp2_with fail
      refine (choose_any c (S.length + 1) w4 (by omega) (by omega) hc1 hc2).mono ?_
      rintro e w5 ⟨rfl, rfl⟩
      obtain ⟨q, hq⟩ : ∃ q, q = chooseN c (S.length + 1) := ⟨_, rfl⟩
      have hqS : q ≤ S.length := by
        have : q < S.length + 1 := by rw [hq]; exact Nat.mod_lt _ (by omega)
        omega
      rw [← hq]
      clear hq
      obtain ⟨k, hk, hcut, hUq, hUt, hnext⟩ := entA_cut L q
      rw [← HSK.out] at hcut hUt
      obtain ⟨U, hU⟩ : ∃ U, U = logK [] (L.take k) := ⟨_, rfl⟩
      have hend2 : lastE (entsK 0 (L.take k)) = U.length := by rw [lastE_eq, hU]; exact entsK_end (L.take k) []
      have hfU : logFold [] (L.take k) = some U := by rw [hU]; exact logFold_take k HF.out
      have hkl : (L.take k).length = k := by rw [List.length_take]; omega
      rw [← hU] at hUq hUt
      have HCut := hide hcut
      have HEnd2 := hide hend2
      have HFU := hide hfU
      have HUt := hide hUt
      have HNext := hide hnext
      clear hcut hend2 hfU hUt hnext hU
      go_wp2_with fail
      refine (logRead_any (S.take q) _ (by rw [List.length_take]; omega)).mono ?_
      rintro e w6 ⟨v6, rfl, ho6, hb6⟩
      rw [HCut.out, entsK_fst] at ho6
      rw [HCut.out, HEnd2.out]
      have HB6 : Hid (Below w.heap.size w w6) := hide (HB4.out.trans (hb6.mono HB4.out.size))
      have HR6 := hide ((HR5.out.keep hb6).more hb6.size)
      have HP6 := hide (readsStrs_own ho6)
      obtain ⟨do6, dp6, rfl⟩ := own_shape ho6
      rw [hkl] at HP6 ⊢
      clear hb6 ho6
      have d1 : decide ((U.length : Int) < 0) = false := by rw [decide_eq_false_iff_not]; omega
      have d2 : decide ((q : Int) < (U.length : Int)) = false := by rw [decide_eq_false_iff_not]; omega
      have d3 : decide ((N : Int) < (k : Int)) = false := by rw [decide_eq_false_iff_not]; omega
      have hkcp : k ≤ cp := by omega
      go_wp2_with fail
      have HR6k := hide (reads_take HR6.out k (by omega))
      refine (sameTexts_any w6 _ _ (L.take k) (L.take k) HP6.out HR6k.out (by rw [hkl]; omega) (by rw [hkl]; omega)).mono ?_
      rintro e w7 ⟨rfl, n7, rfl⟩
      rw [decide_eq_true (rfl : L.take k = L.take k)]
      have HB7 : Hid (Below w.heap.size w (w6.drewN n7)) := hide (Go.below_drewN HB6.out n7)
      have HR7 : Hid (readsStrs (w6.drewN n7) (w6.drewN n7).heap.size (.slice ao N cp) L) := hide HR6.out
      have HP7 : Hid (readsStrs (w6.drewN n7) (w6.drewN n7).heap.size (.slice do6 k dp6) (L.take k)) := hide HP6.out
      generalize w6.drewN n7 = w7 at HB7 HR7 HP7 ⊢
      go_wp2_with fail
      refine (logOf_any w7 _ (L.take k) HP7.out (by rw [hkl]; omega) (fun x hx => HLS2.out x (List.mem_of_mem_take hx))).mono ?_
      rintro e w8 ⟨rfl, hb8⟩
      rw [show logOfA (L.take k) = .tuple #[.string (bs U), .bool true] from by unfold logOfA; rw [HFU.out]]
      have HB8 : Hid (Below w.heap.size w w8) := hide (HB7.out.trans (hb8.mono HB7.out.size))
      have HR8 := hide ((HR7.out.keep hb8).more hb8.size)
      clear hb8
      have hUt2 := HUt.out
      by_cases hkN : k = N
      · have t1 : ((k : Int) == (N : Int)) = true := by rw [beq_iff_eq]; omega
        clear hkN
        go_wp2_with fail
        go_ret
        exact ⟨rfl, HB8.out⟩
      · have t1 : ((k : Int) == (N : Int)) = false := by rw [beq_eq_false_iff_ne]; omega
        have hk1l : (L.take (k + 1)).length = k + 1 := by rw [List.length_take]; omega
        have hk1s : (L.take (k + 1)).length ≤ 30 := by omega
        have HR9 := hide (reads_take HR8.out (k + 1) (by omega))
        obtain ⟨V, hV⟩ : ∃ V, V = logK [] (L.take (k + 1)) := ⟨_, rfl⟩
        have hVq : q < V.length := by rw [hV]; exact HNext.out (by omega)
        have HFV : Hid (logFold [] (L.take (k + 1)) = some V) := hide (by rw [hV]; exact logFold_take (k + 1) HF.out)
        have hVl := (logFold_some HFV.out).2 (by simp)
        have d5 : decide ((q : Int) < (V.length : Int)) = true := by rw [decide_eq_true_iff]; omega
        have hk1cp : k + 1 ≤ cp := by omega
        have hk1cpi : (k : Int) + 1 ≤ cp := by omega
        clear hkN hV
        go_wp2_with fail
        refine (logOf_any w8 _ (L.take (k + 1)) HR9.out hk1s (fun x hx => HLS2.out x (List.mem_of_mem_take hx))).mono ?_
        rintro e w9 ⟨rfl, hb9⟩
        rw [show logOfA (L.take (k + 1)) = .tuple #[.string (bs V), .bool true] from by unfold logOfA; rw [HFV.out]]
        have HB9 : Hid (Below w.heap.size w w9) := hide (HB8.out.trans (hb9.mono HB8.out.size))
        clear hb9
        go_wp2_with fail
        go_ret
        exact ⟨rfl, HB9.out⟩
  · have hL30 : l.length ≤ 30 := by omega
    have h30i : ¬ (30 : Int) < (l.length : Int) := by omega
    obtain ⟨N, hN⟩ : ∃ N, N = l.length := ⟨_, rfl⟩
    have HR2 : Hid (readsStrs w1 w1.heap.size (.slice ao l.length cp) l) := HR1
    have HLS2 := HLS
    rw [← hN] at HR2 h30i hcap ⊢
    have hNcp : N ≤ cp := hcap
    have hNk1 : N ≤ l.length := by omega
    have hNk2 : l.length ≤ N := by omega
    clear hN h30
    go_wp2_with fail
    refine (logOf_any w1 _ l HR2.out hL30 HLS2.out).mono ?_
    rintro e w2 ⟨rfl, hb2⟩
    have HB2 : Hid (Below w.heap.size w w2) := hide (HB1.out.trans (hb2.mono HB1.out.size))
    have HR3 := hide ((HR2.out.keep hb2).more hb2.size)
    clear hb2
    cases hfold : logFold [] l with
    | none =>
      rw [show logOfA l = .tuple #[.string { data := #[] }, .bool false] from by unfold logOfA; rw [hfold]]
      clear hfold
      go_wp2_with fail
      go_ret
      exact ⟨rfl, HB2.out⟩
    | some S =>
      rw [show logOfA l = .tuple #[.string (bs S), .bool true] from by unfold logOfA; rw [hfold]]
      obtain ⟨hSk, hSl⟩ := logFold_some hfold
      have hSl := hSl (by simp)
      have hent : entA S 0 = entsK 0 l := by rw [hSk]; exact entA_logK l []
      have hend : lastE (entsK 0 l) = S.length := by rw [lastE_eq, hSk]; exact entsK_end l []
      have HF := hide hfold
      have HSK := hide hSk
      have HEnt := hide hent
      have HEnd := hide hend
      clear hfold hSk hent hend
      go_wp2_with fail
      refine (logRead_any S w2 (by omega)).mono ?_
      rintro e w3 ⟨v3, rfl, ho3, hb3⟩
      rw [HEnt.out, entsK_fst] at ho3
      rw [HEnt.out, HEnd.out]
      have HB3 : Hid (Below w.heap.size w w3) := hide (HB2.out.trans (hb3.mono HB2.out.size))
      have HR4 := hide ((HR3.out.keep hb3).more hb3.size)
      have HP3 := hide (readsStrs_own ho3)
      obtain ⟨bo, bp, rfl⟩ := own_shape ho3
      clear hb3 ho3
      go_wp2_with fail
      refine (sameTexts_any w3 _ _ l l HR4.out HP3.out (by omega) (by omega)).mono ?_
      rintro e w4 ⟨rfl, n4, rfl⟩
      rw [decide_eq_true (rfl : l = l)]
      have HB4 : Hid (Below w.heap.size w (w3.drewN n4)) := hide (Go.below_drewN HB3.out n4)
      have HR5 : Hid (readsStrs (w3.drewN n4) (w3.drewN n4).heap.size (.slice ao N cp) l) := hide HR4.out
      generalize w3.drewN n4 = w4 at HB4 HR5 ⊢
      go_wp2_with fail
      refine (choose_any c (S.length + 1) w4 (by omega) (by omega) hc1 hc2).mono ?_
      rintro e w5 ⟨rfl, rfl⟩
      obtain ⟨q, hq⟩ : ∃ q, q = chooseN c (S.length + 1) := ⟨_, rfl⟩
      have hqS : q ≤ S.length := by
        have : q < S.length + 1 := by rw [hq]; exact Nat.mod_lt _ (by omega)
        omega
      rw [← hq]
      clear hq
      obtain ⟨k, hk, hcut, hUq, hUt, hnext⟩ := entA_cut l q
      rw [← HSK.out] at hcut hUt
      obtain ⟨U, hU⟩ : ∃ U, U = logK [] (l.take k) := ⟨_, rfl⟩
      have hend2 : lastE (entsK 0 (l.take k)) = U.length := by rw [lastE_eq, hU]; exact entsK_end (l.take k) []
      have hfU : logFold [] (l.take k) = some U := by rw [hU]; exact logFold_take k HF.out
      have hkl : (l.take k).length = k := by rw [List.length_take]; omega
      rw [← hU] at hUq hUt
      have HCut := hide hcut
      have HEnd2 := hide hend2
      have HFU := hide hfU
      have HUt := hide hUt
      have HNext := hide hnext
      clear hcut hend2 hfU hUt hnext hU
      go_wp2_with fail
      refine (logRead_any (S.take q) _ (by rw [List.length_take]; omega)).mono ?_
      rintro e w6 ⟨v6, rfl, ho6, hb6⟩
      rw [HCut.out, entsK_fst] at ho6
      rw [HCut.out, HEnd2.out]
      have HB6 : Hid (Below w.heap.size w w6) := hide (HB4.out.trans (hb6.mono HB4.out.size))
      have HR6 := hide ((HR5.out.keep hb6).more hb6.size)
      have HP6 := hide (readsStrs_own ho6)
      obtain ⟨do6, dp6, rfl⟩ := own_shape ho6
      rw [hkl] at HP6 ⊢
      clear hb6 ho6
      have d1 : decide ((U.length : Int) < 0) = false := by rw [decide_eq_false_iff_not]; omega
      have d2 : decide ((q : Int) < (U.length : Int)) = false := by rw [decide_eq_false_iff_not]; omega
      have d3 : decide ((N : Int) < (k : Int)) = false := by rw [decide_eq_false_iff_not]; omega
      have hkcp : k ≤ cp := by omega
      go_wp2_with fail
      have HR6k := hide (reads_take HR6.out k (by omega))
      refine (sameTexts_any w6 _ _ (l.take k) (l.take k) HP6.out HR6k.out (by rw [hkl]; omega) (by rw [hkl]; omega)).mono ?_
      rintro e w7 ⟨rfl, n7, rfl⟩
      rw [decide_eq_true (rfl : l.take k = l.take k)]
      have HB7 : Hid (Below w.heap.size w (w6.drewN n7)) := hide (Go.below_drewN HB6.out n7)
      have HR7 : Hid (readsStrs (w6.drewN n7) (w6.drewN n7).heap.size (.slice ao N cp) l) := hide HR6.out
      have HP7 : Hid (readsStrs (w6.drewN n7) (w6.drewN n7).heap.size (.slice do6 k dp6) (l.take k)) := hide HP6.out
      generalize w6.drewN n7 = w7 at HB7 HR7 HP7 ⊢
      go_wp2_with fail
      refine (logOf_any w7 _ (l.take k) HP7.out (by rw [hkl]; omega) (fun x hx => HLS2.out x (List.mem_of_mem_take hx))).mono ?_
      rintro e w8 ⟨rfl, hb8⟩
      rw [show logOfA (l.take k) = .tuple #[.string (bs U), .bool true] from by unfold logOfA; rw [HFU.out]]
      have HB8 : Hid (Below w.heap.size w w8) := hide (HB7.out.trans (hb8.mono HB7.out.size))
      have HR8 := hide ((HR7.out.keep hb8).more hb8.size)
      clear hb8
      have hUt2 := HUt.out
      by_cases hkN : k = N
      · have t1 : ((k : Int) == (N : Int)) = true := by rw [beq_iff_eq]; omega
        clear hkN
        go_wp2_with fail
        go_ret
        exact ⟨rfl, HB8.out⟩
      · have t1 : ((k : Int) == (N : Int)) = false := by rw [beq_eq_false_iff_ne]; omega
        have hk1l : (l.take (k + 1)).length = k + 1 := by rw [List.length_take]; omega
        have hk1s : (l.take (k + 1)).length ≤ 30 := by omega
        have HR9 := hide (reads_take HR8.out (k + 1) (by omega))
        obtain ⟨V, hV⟩ : ∃ V, V = logK [] (l.take (k + 1)) := ⟨_, rfl⟩
        have hVq : q < V.length := by rw [hV]; exact HNext.out (by omega)
        have HFV : Hid (logFold [] (l.take (k + 1)) = some V) := hide (by rw [hV]; exact logFold_take (k + 1) HF.out)
        have hVl := (logFold_some HFV.out).2 (by simp)
        have d5 : decide ((q : Int) < (V.length : Int)) = true := by rw [decide_eq_true_iff]; omega
        have hk1cp : k + 1 ≤ cp := by omega
        have hk1cpi : (k : Int) + 1 ≤ cp := by omega
        clear hkN hV
        go_wp2_with fail
        refine (logOf_any w8 _ (l.take (k + 1)) HR9.out hk1s (fun x hx => HLS2.out x (List.mem_of_mem_take hx))).mono ?_
        rintro e w9 ⟨rfl, hb9⟩
        rw [show logOfA (l.take (k + 1)) = .tuple #[.string (bs V), .bool true] from by unfold logOfA; rw [HFV.out]]
        have HB9 : Hid (Below w.heap.size w w9) := hide (HB8.out.trans (hb9.mono HB8.out.size))
        clear hb9
        go_wp2_with fail
        go_ret
        exact ⟨rfl, HB9.out⟩


theorem Try.own : ownKnob Try.prog.godebug = none := by kernel_rfl
theorem Try.laidOut : laidOutB Try.prog = true := by kernel_rfl

set_option maxRecDepth 100000 in
theorem logBack_lifted (os : Os) (started : os.Started) (H : Type) (enc : TypeId × Value → H) :
    ReturnsInHanded {} Try.checked os 6 .any (Rows.logBackSpec.pre6 enc Try.prog Try.f6 Rows.logBackRow.domain false) (Rows.logBackSpec.post enc Try.prog Try.f6 false true false false) := by
  refine returnsInHanded_of_change (C := Try.checked) Try.own started (by kernel_rfl) Try.func6
    (ChangeSpec.witness6 (enc := enc) (C := Try.checked) false ⟨#[], #[.slice none 0 0, .int .i64 0], []⟩ 8 (by kernel_rfl) (by kernel_rfl) (by kernel_rfl) (by kernel_rfl)) ?_
  intro W base args ds gs before hval0 hW hcnd _
  have hval : ∀ (j : Nat) t v, Try.f6.params[j]? = some t → args[j]? = some v → Value.okWide Try.prog W .any base t v := hval0
  have hW' := hW
  obtain ⟨p, q, hA0, hV, rfl, hfz, hnd⟩ := hW
  have hA : DataW.TrodAll enc Try.prog W 0 (fun _ => true) true Try.f6.params.toList args.toList ds p := hA0
  rw [Try.params6] at hA hval
  obtain ⟨v0, v1, d0, d1, p0, p1, rfl, rfl, rfl, h0, h1⟩ := trodAll_two hA
  obtain ⟨rfl, rfl⟩ := trodVars_none hV
  have hk0 := h0
  obtain ⟨a0, len0, cap0, rfl⟩ := okWide_slice Try.underlying32 (hval 0 32 v0 rfl rfl)
  obtain ⟨fuel0, hf0⟩ := h0
  obtain ⟨ls0, hr0, hl0, hi0⟩ := open_texts hf0
  obtain ⟨n1, rfl, rfl, rfl, wn1⟩ := open_int Try.underlying3 (hval 1 3 v1 rfl rfl) h1
  have hbd1 : -9223372036854775808 ≤ n1 ∧ n1 ≤ 9223372036854775807 := by simpa [Lit.wf, IntKind.min, IntKind.max, IntKind.signed, IntKind.bits] using wn1
  clear hA0 hval0
  simp only [List.append_nil, List.nil_append] at hW'
  have hlt := fun x hx => hW'.lt x hx
  have hc := logBack_any W _ ls0 hr0 hl0 hi0 n1 hbd1.1 hbd1.2
  refine hc.mono fun e W' ⟨he, hnx⟩ => ?_
  subst he
  refine ⟨_, rfl, _, _, _, [], (p0), [], hW', ?_, ?_, rfl, hnx.frame _, fun h => by cases h⟩
  · exact trodAll_mk1 (shut_bool Try.underlying4 _)
  · exact trodAll_eq (trodAll_mk2 (Below.trod Try.laidOut (by kernel_rfl) (of_decide_eq_true (by kernel_rfl)) hk0 hnx (fun x hx => hlt x (by simp [hx]))) (shut_int Try.underlying3 wn1)) (by simp)

theorem logBack_holds : Rows.LogBackSaid :=
  OpenClaim.holds_of_wide 6 Try.f6 rfl rfl rfl rfl rfl rfl rfl ⟨rfl, rfl, rfl, rfl, rfl⟩ rfl rfl rfl rfl rfl (by kernel_rfl) Try.func6 (by kernel_rfl)
    (of_decide_eq_true (by kernel_rfl)) (by unfold Func.isWrapper; first | (rw [if_pos (by decide +kernel)]; kernel_rfl) | (rw [if_neg (by decide +kernel)]; exact ⟨rfl, rfl⟩))
    (fun os started H enc _ => logBack_lifted os started H enc)

end Go.Proofs.Ytjjjncainakbiaa
