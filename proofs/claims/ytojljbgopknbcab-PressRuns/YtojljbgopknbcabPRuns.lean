/- PressRuns, for every two numbers: a text of one byte, 64 times or more, becomes less than half as long. No condition. -/
import Derived.Test.YtojljbgopknbcabRows
import Derived.Test.YtojljbgopknbcabKit
import Derived.Test.YtojljbgopknbcabUnG
import Derived.Test.YtojljbgopknbcabRowG
import Derived.Test.YtojljbgopknbcabPBeg
import Derived.ProofKit
import Derived.BigQuiet
import Derived.BigFrame
import Derived.Laws.OwnMore
set_option linter.unusedVariables false
set_option linter.unusedSimpArgs false
namespace Go.Proofs.Ytojljbgopknbcab
open Go.ChangeShapes Go.WideShapes Go.ChangeAt Go.RowKit
open Go.ChangeMaps (open_string shut_string)
attribute [local go_sem] bs_size bs_toList bs_append bs_get bs_extract

set_option maxRecDepth 20000 in
set_option maxHeartbeats 4000000 in
theorem choose_is (c : Int) (n : Nat) (w : World) (h0 : -9223372036854775808 ≤ c) (h1 : c ≤ 9223372036854775807) (hn : 0 < n) (hn2 : n ≤ 100000) : ∃ k : Nat, k < n ∧ ∀ w, Calls Try.prog 11 #[.int .i64 c, .int .i64 n] w fun e w' => e = .returned (.int .i64 k) ∧ w' = w := by
  have hn0 : ((n : Int) == 0) = false := beq_eq_false_iff_ne.2 (by omega)
  have hn1 : ((n : Int) == -1) = false := beq_eq_false_iff_ne.2 (by omega)
  by_cases hc : c < 0
  · have e1 : IntKind.i64.wrap (c + 1) = c + 1 := wrap_i64_small _ (by omega) (by omega)
    have e2 : IntKind.i64.wrap (-(c + 1)) = -(c + 1) := wrap_i64_small _ (by omega) (by omega)
    have h3 := Int.emod_nonneg (-(c + 1)) (show (n : Int) ≠ 0 by omega)
    have h4 := Int.emod_lt_of_pos (-(c + 1)) (show (0 : Int) < n by omega)
    refine ⟨((-(c + 1)) % n).toNat, by omega, fun w => ?_⟩
    have E3 : Hid ((-(c + 1)).tmod n = (((-(c + 1)) % n).toNat : Int)) := by show _ = _; rw [Int.tmod_eq_emod_of_nonneg (by omega)]; omega
    have E4 : Hid ((c + 1).tmod n = -(((-(c + 1)) % n).toNat : Int)) := by
      show _ = _
      have := Int.neg_tmod (-(c + 1)) n
      rw [Int.neg_neg] at this
      rw [this, E3.out]
    generalize ((-(c + 1)) % n).toNat = k at *
    clear h3 h4
    go_enter Try.func11, Try.ntmps11
    go_wp2
    go_ret
    exact ⟨ret_int (by first | rw [E3.out] | (rw [E4.out]; omega)), rfl⟩
  · have h3 := Int.emod_nonneg c (show (n : Int) ≠ 0 by omega)
    have h4 := Int.emod_lt_of_pos c (show (0 : Int) < n by omega)
    refine ⟨(c % n).toNat, by omega, fun w => ?_⟩
    have E3 : Hid (c.tmod n = ((c % n).toNat : Int)) := by show _ = _; rw [Int.tmod_eq_emod_of_nonneg (by omega)]; omega
    have E4 : Hid (c % n = ((c % n).toNat : Int)) := by show _ = _; omega
    generalize (c % n).toNat = k at *
    clear h3 h4
    go_enter Try.func11, Try.ntmps11
    go_wp2
    go_ret
    exact ⟨ret_int (by first | rw [E3.out] | rw [E4.out]), rfl⟩

theorem constB_rep (n : Nat) (c : UInt8) : constB (List.replicate n c) := by
  intro i hi
  rw [List.length_replicate] at hi
  rw [getD_get _ _ (by rw [List.length_replicate]; exact hi), getD_get _ _ (by rw [List.length_replicate]; omega)]
  simp

set_option maxRecDepth 20000 in
set_option maxHeartbeats 4000000 in
theorem pressRuns_any (b many : Int) (w : World) (hb0 : -9223372036854775808 ≤ b) (hb1 : b ≤ 9223372036854775807) (hm0 : -9223372036854775808 ≤ many) (hm1 : many ≤ 9223372036854775807) :
    Calls Try.prog 7 #[.int .i64 b, .int .i64 many] w fun e w' => e = .returned (.bool true) ∧ Below w.heap.size w w' := by
  obtain ⟨k, hk, hK⟩ := choose_is many 3000 w hm0 hm1 (by omega) (by omega)
  obtain ⟨c, hc, hC⟩ := choose_is b 256 w hb0 hb1 (by omega) (by omega)
  have HK := hide hK
  have HC := hide hC
  clear hK hC
  go_enter Try.func7, Try.ntmps7
  go_wp2_with fail
  refine (pressBegun_any w).mono ?_
  rintro e w1 ⟨rfl, hb1⟩
  go_wp2_with fail
  refine (HK.out w1).mono ?_
  rintro e w2 ⟨rfl, rfl⟩
  rename World => w1
  obtain ⟨i0, hi, hz0, hz1, hz2⟩ := info_parts Try.info5
  obtain ⟨n, hn⟩ : ∃ n : Nat, n = 64 + k := ⟨_, rfl⟩
  have hn1 : 64 ≤ n := by omega
  have hn2 : n ≤ 4000 := by omega
  have hnk : (64 : Int) + (k : Int) = (n : Int) := by omega
  clear hn hk
  obtain ⟨M, hM⟩ : ∃ M, M = madeCells (Value.int .u8 0).cells (((n : Nat) : Int).toNat * i0.size) := ⟨_, rfl⟩
  have hMs : M.size = n := by rw [hM, size_madeCells, hz1]; simp
  have hmk : ∀ W : World, (Instr.makeSlice 38 (.int .i64 (n : Int)) (.int .i64 (n : Int))).run Try.prog W = .ok (.slice (some ⟨W.heap.size, 0, none⟩) n n) (W.alloc (.cells M 5)) := fun W => by
    have h := run_make (P := Try.prog) W 38 5 i0 (.int .u8 0) Try.underlying38 hi hz0 .i64 .i64 (n : Int) (n : Int) (by omega) (by omega) (by rw [hz2]; omega) (by omega)
    rw [← hM] at h
    simpa using h
  have hnew := heap_alloc_new w1 (.cells M 5)
  have hbel : Below w.heap.size w (w1.alloc (.cells M 5)) := hb1.alloc hb1.size _
  have HB := hide hbel
  have hs1 := hb1.size
  clear hM hbel
  go_wp2
  go_loopw [7] (fun i wr => ∃ (q : Nat) (cur : Array Value), q ≤ n ∧ i = .int .i64 q ∧ wr.heap[w1.heap.size]? = some (.cells cur 5 (0, 0)) ∧ cur.size = n ∧ Hid (cur.toList.take q = bytesV (List.replicate q (UInt8.ofNat c))) ∧ Below w.heap.size w wr) (fun i _ => n - (intOf i).toNat)
  case atStart => exact ⟨0, M, by omega, rfl, hnew, hMs, hide (by simp [bytesV]), HB.out⟩
  case round =>
    obtain ⟨q, cur, hq, rfl, hg, hcs, HT, hbr⟩ := hrel
    rename World => wr
    by_cases hlt : q < n
    · have hlt' : (q : Int) < n := by omega
      go_wp2_with fail
      refine (HC.out wr).mono ?_
      rintro e w2 ⟨rfl, rfl⟩
      rename World => wr
      have hcell : wr.cell? ⟨w1.heap.size, q, none⟩ = some cur[q] := by simp [World.cell?, hg, hcs, hlt]
      have hfz : wr.frozen? ⟨w1.heap.size, q, none⟩ = false := by simp [World.frozen?, hg]
      have hcc : (c : Int) % 256 = c := by omega
      go_wp2
      go_roundw
      case rel =>
        refine ⟨q + 1, _, by omega, by go_num, set_block hg _, by simp; exact hcs, ?_, hbr.setCell (p := ⟨w1.heap.size, q, none⟩) hs1 _⟩
        show _ = _
        rw [Array.toList_setIfInBounds, List.take_succ_eq_append_getElem (by simp; omega), List.take_set_of_le (Nat.le_refl _), HT.out, List.getElem_set_self, List.replicate_succ', bytesV_append]
        simp [bytesV]
        omega
      case measure => simp [intOf]; omega
    · obtain rfl : q = n := by omega
      have hcap : q ≤ maxLen := by unfold maxLen; omega
      have hrow : rowG wr w1.heap.size (.slice (some ⟨w1.heap.size, 0, none⟩) q q) (List.replicate q (UInt8.ofNat c)) := ⟨w1.heap.size, q, cur, (0, 0), by rw [List.length_replicate], Nat.le_refl _, hg, .inl rfl, by rw [List.length_replicate]; exact Nat.le_refl _, hcap, hcs, by rw [List.length_replicate]; exact HT.out⟩
      have hcv := run_rowG (P := Try.prog) Try.underlying38 Try.underlying5 Try.underlying9 hrow
      have hcon := constB_rep q (UInt8.ofNat c)
      obtain ⟨s, HS⟩ : ∃ s, Hid (List.replicate q (UInt8.ofNat c) = s) := ⟨_, hide rfl⟩
      have hsl : s.length = q := by rw [← HS.out, List.length_replicate]
      rw [HS.out] at hcv hcon
      have HCon := hide hcon
      clear hcon hrow hg
      go_wp2_with fail
      refine (pack_any wr s (by omega)).mono ?_
      rintro e w5 ⟨hb5, (⟨_, E, hE, rfl⟩ | ⟨h, _⟩)⟩
      · have hl := hE.2.2 HCon.out (by omega)
        have hnb := numB_length s.length
        obtain ⟨t, HT2⟩ : ∃ t, Hid (numB s.length ++ E = t) := ⟨_, hide rfl⟩
        have htl : t.length = (numB s.length).length + E.length := by rw [← HT2.out, List.length_append]
        rw [HT2.out]
        have hfin : 2 * (t.length : Int) < q := by omega
        have hw : wrap64 (2 * (t.length : Int)) = 2 * (t.length : Int) := wrap64_small _ (by omega) (by omega)
        have HFin := hide hfin
        have HW := hide hw
        clear htl hl hnb hw hE
        go_wp2
        go_ret
        exact ⟨rfl, hbr.trans (hb5.mono hbr.size)⟩
      · omega

theorem Try.own : ownKnob Try.prog.godebug = none := by kernel_rfl
theorem Try.laidOut : laidOutB Try.prog = true := by kernel_rfl

set_option maxRecDepth 100000 in
theorem pressRuns_lifted (os : Os) (started : os.Started) (H : Type) (enc : TypeId × Value → H) :
    ReturnsInHanded {} Try.checked os 7 .any (Rows.pressRunsSpec.pre6 enc Try.prog Try.f7 Rows.pressRunsRow.domain false) (Rows.pressRunsSpec.post enc Try.prog Try.f7 false true false false) := by
  refine returnsInHanded_of_change_sized (C := Try.checked) Try.own started (by kernel_rfl) Try.func7
    (ChangeSpec.witness6 (enc := enc) (C := Try.checked) false ⟨#[], #[.int .i64 0, .int .i64 0], []⟩ 8 (by kernel_rfl) (by kernel_rfl) (by kernel_rfl) (by kernel_rfl)) ?_
  intro W base args ds gs before hval0 hW hcnd hsz0 _
  have hval : ∀ (j : Nat) t v, Try.f7.params[j]? = some t → args[j]? = some v → Value.okWide Try.prog W .any base t v := hval0
  have hsz : (DataW.weightsEach Try.prog (Try.f7.params.toList ++ Rows.pressRunsSpec.plain.varTypes Try.prog) (ds ++ gs)).all (· ≤ reachBytes) = true := hsz0
  have hW' := hW
  obtain ⟨p, q, hA0, hV, rfl, hfz, hnd⟩ := hW
  have hA : DataW.TrodAll enc Try.prog W 0 (fun _ => true) true Try.f7.params.toList args.toList ds p := hA0
  rw [Try.params7] at hA hval hsz
  obtain ⟨v0, v1, d0, d1, p0, p1, rfl, rfl, rfl, h0, h1⟩ := trodAll_two hA
  obtain ⟨rfl, rfl⟩ := trodVars_none hV
  obtain ⟨b, rfl, rfl, rfl, wb⟩ := open_int Try.underlying3 (hval 0 3 v0 rfl rfl) h0
  obtain ⟨n, rfl, rfl, rfl, wn⟩ := open_int Try.underlying3 (hval 1 3 v1 rfl rfl) h1
  clear hA0 hval0
  simp only [List.append_nil] at hW'
  have hbd : -9223372036854775808 ≤ b ∧ b ≤ 9223372036854775807 := by simpa [Lit.wf, IntKind.min, IntKind.max, IntKind.signed, IntKind.bits] using wb
  have hbn : -9223372036854775808 ≤ n ∧ n ≤ 9223372036854775807 := by simpa [Lit.wf, IntKind.min, IntKind.max, IntKind.signed, IntKind.bits] using wn
  have hc := pressRuns_any b n W hbd.1 hbd.2 hbn.1 hbn.2
  refine hc.mono fun e W' ⟨he, hnx⟩ => ?_
  subst he
  refine ⟨_, rfl, _, _, _, [], [], [], hW', ?_, ?_, rfl, hnx.frame _, fun h => by cases h⟩
  · exact trodAll_mk1 (shut_bool Try.underlying4 _)
  · exact trodAll_mk2 (shut_int Try.underlying3 wb) (shut_int Try.underlying3 wn)

theorem pressRuns_holds : Rows.PressRunsSaid :=
  OpenClaim.holds_of_wide 7 Try.f7 rfl rfl rfl rfl rfl rfl rfl ⟨rfl, rfl, rfl, rfl, rfl⟩ rfl rfl rfl rfl rfl (by kernel_rfl) Try.func7 (by kernel_rfl)
    (of_decide_eq_true (by kernel_rfl)) (by unfold Func.isWrapper; first | (rw [if_pos (by decide +kernel)]; kernel_rfl) | (rw [if_neg (by decide +kernel)]; exact ⟨rfl, rfl⟩))
    (fun os started H enc _ => pressRuns_lifted os started H enc)

end Go.Proofs.Ytojljbgopknbcab
