/- The reference's line: a value in quotes. -/
import Derived.Laws.OwnMore
import Derived.Test.YtdlmgkncneifaaaGreatProg
import Derived.Test.YtdlmgkncneifaaaGreatKit
import Derived.Test.YtdlmgkncneifaaaGreatReg
import Derived.Test.YtdlmgkncneifaaaGreatLSpec
import Derived.Test.YtdlmgkncneifaaaGreatLRow
import Derived.Test.YtdlmgkncneifaaaGreatLRefA
import Derived.Test.YtdlmgkncneifaaaGreatLnA
import Derived.Test.YtdlmgkncneifaaaGreatLnB
import Derived.Test.YtdlmgkncneifaaaGreatLnC
import Derived.Test.YtdlmgkncneifaaaGreatLnD
import Derived.Test.YtdlmgkncneifaaaGreatRnA
import Derived.Test.YtdlmgkncneifaaaGreatRnB
import Derived.BigQuiet
set_option linter.unusedVariables false
set_option linter.unusedSimpArgs false
namespace Go.Proofs.YtdlmgkncneifaaaGreat.Rn
open Go.RowKit Lb Ln
attribute [local go_sem] bs_size bs_toList bs_append bs_get bs_extract

theorem one_row (W : World) (y : UInt8) : (W.alloc (.cells #[.int .u8 (y.toNat : Int)] 5)).ownsRow W.heap.size 5 1 (.slice (some ⟨W.heap.size, 0, none⟩) 1 1) 1 (bytesV [y]) :=
  ⟨rfl, .inr ⟨W.heap.size, 1, #[.int .u8 (y.toNat : Int)], rfl, Nat.le_refl _, heap_alloc_new _ _, Nat.le_refl _, by unfold maxLen; omega, rfl, rfl⟩⟩
theorem byte_eq {c : UInt8} {n : Nat} (h : c.toNat = n) : ((c.toNat : Int) == (n : Int)) = true := by simp [h]
theorem byte_ne {c : UInt8} {n : Nat} (h : c.toNat ≠ n) : ((c.toNat : Int) == (n : Int)) = false := by simp only [beq_eq_false_iff_ne, ne_eq]; omega
theorem RL.alloc {w : World} {b k g : Nat} {s : List UInt8} {e a : Int} (h : RL w b s k g e a) (o : Obj) : RL (w.alloc o) b s k g e a := h.grow ((Grow.refl w).alloc o)
theorem pos_at {s r : List UInt8} {k : Nat} (h : s.drop k = r) (hk : k ≤ s.length) : pos s r = k := by
  rw [← h]; unfold pos; rw [List.length_drop]; omega
theorem drop_next {s r : List UInt8} {k : Nat} {c : UInt8} (h : s.drop k = c :: r) : s.drop (k + 1) = r ∧ k + 1 ≤ s.length := by
  have hlt : k < s.length := by
    rcases Nat.lt_or_ge k s.length with hl | hl
    · exact hl
    · rw [List.drop_eq_nil_of_le hl] at h; cases h
  rw [drop_at hlt] at h
  cases h
  exact ⟨rfl, hlt⟩
theorem vbE_nil : vbE [92] = .error [] := rfl
theorem vbE_esc (d : UInt8) (q : List UInt8) : vbE (92 :: d :: q) = if d = 92 ∨ d = 34 then .ok (d, q) else if d = 110 then .ok (10, q) else .error (d :: q) := rfl
theorem drop_mem {s r : List UInt8} {k : Nat} (h : s.drop k = r) : ∀ c ∈ r, c ∈ s := fun c hc => List.drop_subset k s (by rw [h]; exact hc)
set_option maxRecDepth 20000 in
set_option maxHeartbeats 2400000 in
theorem rquoted_any (w : World) (b k g : Nat) (s : List UInt8) (hk : k ≤ s.length) (hn : ∀ c ∈ s, c ≠ 10) (h : RL w b s k g 0 0) :
    Calls Tryz.prog 47 #[.pointer (some ⟨b, 0, none⟩)] w (rlAs b g s (fun x => .string (bs x)) (fun v => ∃ x, v = .string (bs x)) (valE (s.drop k)) w) := by
  have S1 := hide (rmust_any w b k g s 0 34 (by decide) hk h)
  have HN := hide hn
  have hl := h.len
  obtain ⟨O, HO⟩ : ∃ O, Hid (valE (s.drop k) = O) := ⟨_, hide rfl⟩
  have hcv : ∀ (W : World) (n : Nat) (y : UInt8), n = W.heap.size → Sem.run Tryz.prog (convert 91 9 (.slice (some ⟨n, 0, none⟩) 1 1)) (W.alloc (.cells #[.int .u8 (y.toNat : Int)] 5)) = .ok (.string (bs [y])) (W.alloc (.cells #[.int .u8 (y.toNat : Int)] 5)) := fun W n y e => by
    subst e
    exact run_bytesStr (P := Tryz.prog) Tryz.underlying91 Tryz.underlying5 Tryz.underlying9 (one_row W y)
  have hcv10 : ∀ (W : World) (n : Nat), n = W.heap.size → Sem.run Tryz.prog (convert 91 9 (.slice (some ⟨n, 0, none⟩) 1 1)) (W.alloc (.cells #[.int .u8 10] 5)) = .ok (.string (bs [10])) (W.alloc (.cells #[.int .u8 10] 5)) := fun W n e => hcv W n 10 e
  have hcv34 : ∀ (W : World) (n : Nat), n = W.heap.size → Sem.run Tryz.prog (convert 91 9 (.slice (some ⟨n, 0, none⟩) 1 1)) (W.alloc (.cells #[.int .u8 34] 5)) = .ok (.string (bs [34])) (W.alloc (.cells #[.int .u8 34] 5)) := fun W n e => hcv W n 34 e
  have hcv92 : ∀ (W : World) (n : Nat), n = W.heap.size → Sem.run Tryz.prog (convert 91 9 (.slice (some ⟨n, 0, none⟩) 1 1)) (W.alloc (.cells #[.int .u8 92] 5)) = .ok (.string (bs [92])) (W.alloc (.cells #[.int .u8 92] 5)) := fun W n e => hcv W n 92 e
  rw [HO.out]
  clear h hn
  cases hs : skipB 34 (s.drop k) with
  | false =>
    have hO : O = .error (s.drop k) := by rw [← HO.out]; unfold valE mustL; rw [if_neg (by rw [hs]; simp)]
    subst hO
    simp only [hs, Bool.false_eq_true, if_false] at S1
    have HP := hide (pos_at (s := s) rfl hk)
    clear hs
    go_enter Tryz.func47, Tryz.ntmps47
    go_wp2_with fail
    refine S1.out.mono ?_
    rintro e w1 ⟨rfl, hk1, hr1⟩
    have HK1 := hide hk1
    have HR1 := hide hr1
    obtain ⟨d0, d1, d2, d3, d4, y1, y3, y4⟩ := five_cells hr1.cell
    clear hk1 hr1 S1
    go_wp2
    go_loopw [3] (fun v wr => v = .string (bs []) ∧ wr = w1) (fun _ _ => 0)
    case atStart => exact ⟨rfl, rfl⟩
    case round =>
      obtain ⟨rfl, rfl⟩ := hrel
      go_wp2
      go_ret
      exact ⟨HK1.out, _, k + 1, rfl, ⟨_, rfl⟩, by rw [HP.out]; exact HR1.out⟩
  | true =>
    have hO := HO.out
    unfold valE mustL at hO
    rw [if_pos hs] at hO
    simp only at hO
    simp only [hs, if_true] at S1
    have hlen : (skipR 34 (s.drop k)).length ≤ s.length := by
      have := skip_len hs
      rw [List.length_drop] at this
      omega
    generalize skipR 34 (s.drop k) = r1 at *
    have HO1 := hide hO
    clear hs hO
    go_enter Tryz.func47, Tryz.ntmps47
    go_wp2_with fail
    refine S1.out.mono ?_
    rintro e w1 ⟨rfl, hk1, hr1, hd1, hks1⟩
    have HK1 := hide hk1
    have HR1 := hide hr1
    have HD1 := hide hd1
    have HBW : Hid (b < w1.heap.size) := hide (lt_of_block hr1.cell)
    clear hk1 hr1 hd1 S1
    go_wp2
    go_loopw [3] (fun v wr => ∃ (acc r' : List UInt8) (n k' : Nat), v = .string (bs acc) ∧ r'.length < n ∧ acc.length + r'.length ≤ 1000000 ∧ Hid (Ln.ahead acc (valG n r') = O) ∧ Hid (RL wr b s k' g 0 0) ∧ Hid (s.drop k' = r') ∧ k' ≤ s.length ∧ Hid (KI b w1 wr)) (fun _ wr => match wr.heap[b]? with | some (.cells c _ _) => s.length - (intOf (c.getD 1 undef)).toNat | _ => 0)
    case atStart => exact ⟨[], r1, r1.length + 1, k + 1, rfl, by omega, by simp; omega, hide (by rw [ahead_nil]; exact HO1.out), HR1, HD1, hks1, hide (KI.refl _ _)⟩
    case round =>
      obtain ⟨acc, r', n, k', rfl, hn', hal, HA, HI, HD, hk', HK⟩ := hrel
      have hm : ∀ (W : World) (q : Nat), RL W b s q g 0 0 → (match W.heap[b]? with | some (.cells c _ _) => s.length - (intOf (c.getD 1 undef)).toNat | _ => 0) = s.length - q := fun W q hq => by
        rw [hq.cell]
        simp [intOf]
      have HM := hide hm
      clear hm
      obtain ⟨d0, d1, d2, d3, d4, y1, y3, y4⟩ := five_cells HI.out.cell
      have S2 := hide (rnext_any wr b k' g s 0 0 HI.out)
      rw [HD.out] at S2
      have ha := HA.out
      obtain ⟨m, rfl⟩ : ∃ m, n = m + 1 := ⟨n - 1, by omega⟩
      rw [valG] at ha
      have HPS := hide (pos_at HD.out hk')
      have HKW : Hid (KI b w wr) := hide (HK1.out.trans HK.out)
      cases r' with
      | nil =>
        rw [if_neg (by simp [skipB])] at ha
        have hO : O = .error [] := by rw [← ha]; rfl
        subst hO
        clear ha
        go_wp2_with fail
        refine S2.out.mono ?_
        rintro e w2 ⟨rfl, n2, rfl⟩
        go_wp2_with fail
        refine (rwrong_any _ b (k') g s 0 (HI.out.drewN n2) 1 _ (by omega) (by omega)).mono ?_
        rintro e w9 ⟨rfl, hk9, hr9⟩
        have HK9 := hide hk9
        have HR9 := hide hr9
        clear hk9 hr9
        go_wp2
        go_ret
        refine ⟨(HKW.out.drewN n2).trans HK9.out, _, k', rfl, ⟨acc, rfl⟩, ?_⟩
        rw [HPS.out]
        simpa using HR9.out
      | cons c q =>
        obtain ⟨hd2, hk2⟩ := drop_next HD.out
        rw [show nxt (c :: q) = c from rfl] at S2
        have HD2 := hide hd2
        have hc10 : c.toNat ≠ 10 := fun e => HN.out c (drop_mem HD.out c (List.mem_cons_self ..)) (UInt8.toNat_inj.1 e)
        have hx10 : ((c.toNat : Int) == 10) = false := byte_ne hc10
        have hmv : ∀ n, RL ((wr.drewN n).setCell ⟨b, 1, none⟩ (.int .i64 ((k' : Int) + 1))) b s (k' + 1) g 0 0 := fun n => (HI.out.drewN n).moved (by omega) (by omega)
        have HMV := hide hmv
        have hlq : q.length + 1 = s.length - k' := by
          have := congrArg List.length HD.out
          rw [List.length_drop, List.length_cons] at this
          omega
        rw [List.length_cons] at hal hn'
        clear hd2 hmv
        by_cases h34 : c.toNat = 34
        · obtain rfl : c = 34 := UInt8.toNat_inj.1 h34
          rw [if_pos (show skipB 34 (34 :: q) = true from rfl)] at ha
          have hO : O = .ok (acc, q) := by rw [← ha]; simp [Ln.ahead, skipR, skipB]
          subst hO
          clear ha h34 hx10 hc10
          go_wp2_with fail
          refine S2.out.mono ?_
          rintro e w2 ⟨rfl, n2, rfl⟩
          go_wp2
          go_ret
          exact ⟨(HKW.out.drewN _).set _ _, rfl, k' + 1, HMV.out _, HD2.out, hk2⟩
        · have hx34 : ((c.toNat : Int) == 34) = false := byte_ne h34
          have hc34 : skipB 34 (c :: q) = false := by
            show (c == 34) = false
            simp only [beq_eq_false_iff_ne, ne_eq]
            intro e; rw [e] at h34; exact h34 rfl
          rw [if_neg (by rw [hc34]; simp)] at ha
          clear hc34
          by_cases h92 : c.toNat = 92
          · obtain rfl : c = 92 := UInt8.toNat_inj.1 h92
            have S3 := hide fun n => rnext_any _ b (k' + 1) g s 0 0 (HMV.out n)
            rw [HD2.out] at S3
            clear h92 hx10 hc10 h34 hx34
            cases q with
            | nil =>
              rw [vbE_nil] at ha
              have hO : O = .error [] := by rw [← ha]; rfl
              subst hO
              clear ha
              have HPS2 := hide (pos_at HD2.out hk2)
              go_wp2_with fail
              refine S2.out.mono ?_
              rintro e w2 ⟨rfl, n2, rfl⟩
              go_wp2_with fail
              refine (S3.out n2).mono ?_
              rintro e w3 ⟨rfl, n3, rfl⟩
              go_wp2_with fail
              refine (rwrong_any _ b (k' + 1) g s 0 ((HMV.out n2).drewN n3) 1 _ (by omega) (by omega)).mono ?_
              rintro e w9 ⟨rfl, hk9, hr9⟩
              have HK9 := hide hk9
              have HR9 := hide hr9
              clear hk9 hr9
              go_wp2
              go_ret
              refine ⟨(((HKW.out.drewN n2).set _ _).drewN n3).trans HK9.out, _, k' + 1, rfl, ⟨acc, rfl⟩, ?_⟩
              rw [HPS2.out]
              simpa using HR9.out
            | cons d q =>
              obtain ⟨hd3, hk3⟩ := drop_next HD2.out
              rw [show nxt (d :: q) = d from rfl] at S3
              have HD3 := hide hd3
              have hmv2 : ∀ n m, RL ((((wr.drewN n).setCell ⟨b, 1, none⟩ (.int .i64 ((k' : Int) + 1))).drewN m).setCell ⟨b, 1, none⟩ (.int .i64 ((k' : Int) + 1 + 1))) b s (k' + 2) g 0 0 := fun n m => ((HMV.out n).drewN m).moved (by omega) (by omega)
              have HMV2 := hide hmv2
              rw [List.length_cons] at hal hn' hlq
              clear hd3 hmv2
              rw [vbE_esc] at ha
              by_cases e92 : d.toNat = 92
              · obtain rfl : d = 92 := UInt8.toNat_inj.1 e92
                rw [if_pos (.inl rfl)] at ha
                clear e92
                simp only [ahead_ahead] at ha
                have HA2 := hide ha
                clear ha
                go_wp2_with fail
                refine S2.out.mono ?_
                rintro e w2 ⟨rfl, n2, rfl⟩
                go_wp2_with fail
                refine (S3.out n2).mono ?_
                rintro e w3 ⟨rfl, n3, rfl⟩
                go_wp2
                go_roundw
                case rel => exact ⟨acc ++ [92], q, m, k' + 2, by simp, by omega, by simp; omega, HA2, hide ((HMV2.out n2 n3).alloc _), HD3, hk3, hide (KI.trans ((((HK.out.drewN n2).set _ _).drewN n3).set _ _) (KI.grow ((Grow.refl _).alloc _)))⟩
                case measure => rw [HM.out _ _ ((HMV2.out n2 n3).alloc _), HM.out _ _ HI.out]; omega
              · have hy92 : ((d.toNat : Int) == 92) = false := byte_ne e92
                by_cases e34 : d.toNat = 34
                · obtain rfl : d = 34 := UInt8.toNat_inj.1 e34
                  rw [if_pos (.inr rfl)] at ha
                  clear e34 e92 hy92
                  simp only [ahead_ahead] at ha
                  have HA2 := hide ha
                  clear ha
                  go_wp2_with fail
                  refine S2.out.mono ?_
                  rintro e w2 ⟨rfl, n2, rfl⟩
                  go_wp2_with fail
                  refine (S3.out n2).mono ?_
                  rintro e w3 ⟨rfl, n3, rfl⟩
                  go_wp2
                  go_roundw
                  case rel => exact ⟨acc ++ [34], q, m, k' + 2, by simp, by omega, by simp; omega, HA2, hide ((HMV2.out n2 n3).alloc _), HD3, hk3, hide (KI.trans ((((HK.out.drewN n2).set _ _).drewN n3).set _ _) (KI.grow ((Grow.refl _).alloc _)))⟩
                  case measure => rw [HM.out _ _ ((HMV2.out n2 n3).alloc _), HM.out _ _ HI.out]; omega
                · have hy34 : ((d.toNat : Int) == 34) = false := byte_ne e34
                  rw [if_neg (by rintro (e | e) <;> (rw [e] at e92 e34; first | exact e92 rfl | exact e34 rfl))] at ha
                  by_cases e110 : d.toNat = 110
                  · obtain rfl : d = 110 := UInt8.toNat_inj.1 e110
                    rw [if_pos rfl] at ha
                    clear e110 e34 e92 hy92 hy34
                    simp only [ahead_ahead] at ha
                    have HA2 := hide ha
                    clear ha
                    go_wp2_with fail
                    refine S2.out.mono ?_
                    rintro e w2 ⟨rfl, n2, rfl⟩
                    go_wp2_with fail
                    refine (S3.out n2).mono ?_
                    rintro e w3 ⟨rfl, n3, rfl⟩
                    go_wp2
                    go_roundw
                    case rel => exact ⟨acc ++ [10], q, m, k' + 2, by simp, by omega, by simp; omega, HA2, hide ((HMV2.out n2 n3).alloc _), HD3, hk3, hide (KI.trans ((((HK.out.drewN n2).set _ _).drewN n3).set _ _) (KI.grow ((Grow.refl _).alloc _)))⟩
                    case measure => rw [HM.out _ _ ((HMV2.out n2 n3).alloc _), HM.out _ _ HI.out]; omega
                  · have hy110 : ((d.toNat : Int) == 110) = false := byte_ne e110
                    rw [if_neg (by intro e; rw [e] at e110; exact e110 rfl)] at ha
                    have hO : O = .error (d :: q) := by rw [← ha]; rfl
                    subst hO
                    clear ha
                    have HPS2 := hide (pos_at HD2.out hk2)
                    go_wp2_with fail
                    refine S2.out.mono ?_
                    rintro e w2 ⟨rfl, n2, rfl⟩
                    go_wp2_with fail
                    refine (S3.out n2).mono ?_
                    rintro e w3 ⟨rfl, n3, rfl⟩
                    go_wp2_with fail
                    refine (rwrong_any _ b (k' + 1) g s 0 ((HMV.out n2).drewN n3) 1 _ (by omega) (by omega)).mono ?_
                    rintro e w9 ⟨rfl, hk9, hr9⟩
                    have HK9 := hide hk9
                    have HR9 := hide hr9
                    clear hk9 hr9
                    go_wp2
                    go_ret
                    refine ⟨(((HKW.out.drewN n2).set _ _).drewN n3).trans HK9.out, _, k' + 1, rfl, ⟨acc, rfl⟩, ?_⟩
                    rw [HPS2.out]
                    simpa using HR9.out
          · have hx92 : ((c.toNat : Int) == 92) = false := byte_ne h92
            have hvb : vbE (c :: q) = .ok (c, q) := by
              unfold vbE
              rw [if_neg (by show ¬ (c == 92) = true; simp only [beq_iff_eq]; intro e; rw [e] at h92; exact h92 rfl)]
              rfl
            rw [hvb] at ha
            clear hvb
            simp only [ahead_ahead] at ha
            have HA2 := hide ha
            clear ha
            go_wp2_with fail
            refine S2.out.mono ?_
            rintro e w2 ⟨rfl, n2, rfl⟩
            go_wp2
            go_roundw
            case rel => exact ⟨acc ++ [c], q, m, k' + 1, by simp, by omega, by simp; omega, HA2, hide ((HMV.out n2).alloc _), HD2, hk2, hide (KI.trans ((HK.out.drewN n2).set _ _) (KI.grow ((Grow.refl _).alloc _)))⟩
            case measure => rw [HM.out _ _ ((HMV.out n2).alloc _), HM.out _ _ HI.out]; omega
end Go.Proofs.YtdlmgkncneifaaaGreat.Rn
