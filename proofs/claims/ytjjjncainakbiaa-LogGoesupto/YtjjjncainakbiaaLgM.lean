/- The reader's record. -/
import Derived.Test.YtjjjncainakbiaaProg
import Derived.Test.YtjjjncainakbiaaKit
import Derived.Test.YtjjjncainakbiaaLgT
import Derived.Test.YtjjjncainakbiaaLgP
import Derived.Test.YtjjjncainakbiaaLgW
import Derived.Test.YtjjjncainakbiaaLgV
import Derived.Test.YtjjjncainakbiaaLgU
import Derived.BigQuiet
import Derived.Lib.AppendStr
set_option linter.unusedVariables false
set_option linter.unusedSimpArgs false
namespace Go.Proofs.Ytjjjncainakbiaa.Lg
open Go.RowKit
attribute [local go_sem] bs_size bs_toList bs_append bs_get bs_extract

theorem mayCome_any (k : Nat) (first : Bool) (w : World) (hk : k < 256) :
    Calls Try.prog 32 #[.int .u8 k, .bool first] w fun e w' => e = .returned (.bool (mayB k first)) ∧ w' = w := by
  by_cases h : k = 1 ∨ k = 2 ∨ k = 3 ∨ k = 4
  · rcases h with rfl | rfl | rfl | rfl
    all_goals
      go_enter Try.func32, Try.ntmps32
      go_wp2
      go_ret
      exact ⟨rfl, rfl⟩
  · have h1 : ((k : Int) == 1) = false := by rw [beq_eq_false_iff_ne]; omega
    have h2 : ((k : Int) == 2) = false := by rw [beq_eq_false_iff_ne]; omega
    have h3 : ((k : Int) == 3) = false := by rw [beq_eq_false_iff_ne]; omega
    have h4 : ((k : Int) == 4) = false := by rw [beq_eq_false_iff_ne]; omega
    have HM : Hid (mayB k first = false) := hide (by unfold mayB; rw [if_neg (by omega), if_neg (by omega)])
    go_enter Try.func32, Try.ntmps32
    go_wp2
    go_ret
    exact ⟨by rw [HM.out]; rfl, rfl⟩

theorem logEnds_any (k : Nat) (w : World) (hk : k < 256) :
    Calls Try.prog 33 #[.int .u8 k] w fun e w' => e = .returned (.bool (endsB k)) ∧ w' = w := by
  by_cases h1 : k = 1
  · subst h1
    go_enter Try.func33, Try.ntmps33
    go_wp2
    go_ret
    exact ⟨rfl, rfl⟩
  · by_cases h4 : k = 4
    · subst h4
      go_enter Try.func33, Try.ntmps33
      go_wp2
      go_ret
      exact ⟨rfl, rfl⟩
    · have h1' : ((k : Int) == 1) = false := by rw [beq_eq_false_iff_ne]; omega
      have h4' : ((k : Int) == 4) = false := by rw [beq_eq_false_iff_ne]; omega
      have HM : Hid (endsB k = false) := hide (by simp [endsB]; omega)
      go_enter Try.func33, Try.ntmps33
      go_wp2
      go_ret
      exact ⟨by rw [HM.out]; rfl, rfl⟩

theorem ownsRow_kept {w w' : World} {base e size n b : Nat} {v : Value} {xs : List Value} (h : w.ownsRow base e size v n xs) (hk : KeptB w.heap.size b w w') (hne : v.ownBlock ≠ some b) : w'.ownsRow base e size v n xs := by
  obtain ⟨h1, h2⟩ := h
  refine ⟨h1, ?_⟩
  rcases h2 with h2 | ⟨g, cap, cur, rfl, hg, hh, r⟩
  · exact .inl h2
  · exact .inr ⟨g, cap, cur, rfl, hg, (hk.block g (lt_of_block hh) (fun e => hne (by simp [Value.ownBlock, e]))).trans hh, r⟩
def atR (w : World) (b : Nat) : Nat := match w.heap[b]? with | some (.cells c _ _) => (intOf (c.getD 1 undef)).toNat | _ => 0
theorem atR_of {w : World} {b at' : Nat} {l : List UInt8} (h : rdr w b l at') : atR w b = at' := by
  unfold atR
  rw [show w.heap[b]? = _ from h]
  simp [intOf]

def recPost (w : World) (b at' : Nat) (l : List UInt8) (e : Ending) (w' : World) : Prop :=
  ∃ (rr : List UInt8) (bb : Bool), e = .returned (.tuple #[.string (bs rr), .bool bb]) ∧ KeptB w.heap.size b w w' ∧
    ((recA l at' true = none ∧ bb = false) ∨ ∃ en, recA l at' true = some (rr, en) ∧ bb = true ∧ rdr w' b l en)

set_option maxRecDepth 20000 in
set_option maxHeartbeats 2000000 in
theorem lgRecord_any (w : World) (b at' : Nat) (l : List UInt8) (hb : rdr w b l at') (hn : at' ≤ l.length) (hl : l.length ≤ 70000000000000) :
    Calls Try.prog 26 #[.pointer (some ⟨b, 0, none⟩)] w (recPost w b at' l) := by
  obtain ⟨i0, hinf, hz0, hz1, hz2⟩ := info_parts Try.info5l
  have HB := hide hb
  clear hb
  go_enter Try.func26, Try.ntmps26
  go_wp2
  go_loopw [4, 5] (fun v f wr => ∃ (made : List UInt8) (first : Bool) (p : Nat) (ao : Option Addr) (n cp : Nat), v = .slice ao n cp ∧ f = .bool first ∧ p ≤ l.length ∧ made.length ≤ p ∧ Hid (n = made.length) ∧ Hid (KeptB w.heap.size b w wr) ∧ Hid (rdr wr b l p) ∧ Hid (wr.ownsRow w.heap.size 5 1 (.slice ao n cp) made.length (bytesV made)) ∧ Hid (recA l at' true = (recA l p first).map fun r => (made ++ r.1, r.2))) (fun _ _ wr => l.length - atR wr b)
  case atStart => exact ⟨[], true, at', none, 0, 0, rfl, rfl, hn, Nat.zero_le _, hide rfl, hide (KeptB.refl _ _ _), HB, hide (World.ownsRow_nil _ _ _ _), hide (by simp)⟩
  case round =>
    obtain ⟨made, first, p, ao, n, cp, rfl, rfl, hp, hml, HN, HK, HR, HO, HE⟩ := hrel
    rename World => wr
    have hws := HK.out.size
    have hm1 := atR_of HR.out
    have hne := own_apart HO.out HR.out (by decide)
    go_wp2_with fail
    refine (lgPart_any wr b p l HR.out hp (by omega)).mono ?_
    rintro e w1 ⟨kk, ss, bb, rfl, hk1, hcase⟩
    have HK1 := hide (HK.out.more hk1 (Nat.le_refl _))
    have HO1 := hide (ownsRow_kept HO.out hk1 hne)
    clear hk1
    rcases hcase with ⟨hnone, rfl⟩ | ⟨en, hsome, rfl, hr1⟩
    · have HF : Hid (recA l at' true = none) := hide (by rw [HE.out, recA_eq, hnone]; rfl)
      clear hnone
      go_wp2_with fail
      go_ret2
      exact ⟨[], false, rfl, HK1.out, .inl ⟨HF.out, rfl⟩⟩
    · have hpe := partAt_end hsome
      have HR1 := hide hr1
      have HS := hide hsome
      clear hsome hr1
      go_wp2_with fail
      refine (mayCome_any kk first _ hpe.2.2.2).mono ?_
      rintro e w2 ⟨rfl, rfl⟩
      cases hmay : mayB kk first with
      | false =>
        have HF : Hid (recA l at' true = none) := hide (by rw [HE.out, recA_eq, HS.out]; simp [hmay])
        clear hmay
        go_wp2_with fail
        go_ret2
        exact ⟨[], false, rfl, HK1.out, .inl ⟨HF.out, rfl⟩⟩
      | true =>
        have HE2 : Hid (recA l at' true = if endsB kk then some (made ++ ss, en) else (recA l en false).map fun r => ((made ++ ss) ++ r.1, r.2)) := hide (by
          rw [HE.out, recA_eq, HS.out]
          simp only [hmay, if_true]
          split
          · rfl
          · rw [Option.map_map]
            congr 1
            funext r
            simp [List.append_assoc])
        clear hmay
        have hne1 := own_apart HO1.out HR1.out (by decide)
        have hmn := HN.out
        have HM1 : Hid (made.length + (bs ss).size ≤ maxLen) := hide (by rw [bs_size]; unfold maxLen; omega)
        have HM2 : Hid (made.length + (bs ss).size ≤ 140737488355328) := hide (by rw [bs_size]; omega)
        have hB1 : w.heap.size ≤ w2.heap.size := HK1.out.size
        clear hmn
        go_wp2_with (at_builtin; refine Lib.wpList_append_own_string _ rfl (.tmp 23) (.tmp 24) 44 9 rfl w.heap.size 5 i0 Try.underlying44 Try.underlying9 hinf hz0 hz1 hz2 (.slice ao n cp) made.length (bytesV made) rfl HO1.out (bs ss) rfl HM1.out HM2.out hB1 ?_; intro v9 w9 hown9 hgrow9 _; obtain ⟨ao9, cp9, rfl⟩ := own_shape hown9; have HO9 := hide hown9; have HR9 := hide (grown_block hgrow9 HR1.out hne1); have HG9 := hide hgrow9; clear hown9 hgrow9)
        refine (logEnds_any kk _ hpe.2.2.2).mono ?_
        rintro e w10 ⟨rfl, rfl⟩
        have HK9 : Hid (KeptB w.heap.size b w w10) := hide (HK1.out.trans (keptB_of ((Below.refl w.heap.size _).grown HG9.out hB1 (fun k hk => (HO1.out.lt k hk).1))))
        have ho9 := HO9.out
        rw [bs_size, strCells_bs, ← bytesV_append, ← List.length_append] at ho9
        cases hends : endsB kk with
        | false =>
          have HE3 := HE2.out
          rw [hends] at HE3
          simp only [Bool.false_eq_true, if_false] at HE3
          have HE4 := hide HE3
          have HO10 := hide ho9
          have hm2 := atR_of HR9.out
          clear HE3 hends ho9
          go_wp2_with fail
          go_roundw
          case rel => exact ⟨made ++ ss, false, en, ao9, _, cp9, rfl, rfl, hpe.2.1, by rw [List.length_append]; omega, hide (by rw [List.length_append]), HK9, HR9, hide (by rw [← List.length_append]; exact HO10.out), HE4⟩
          case measure => rw [hm1, hm2]; omega
        | true =>
          have HE3 := HE2.out
          rw [hends] at HE3
          simp only [if_true] at HE3
          have HE4 := hide HE3
          have hcv := run_bytesStr (P := Try.prog) (dst := 9) Try.underlying44 Try.underlying5 Try.underlying9 ho9
          rw [List.length_append] at hcv
          clear HE3 hends ho9
          go_wp2_with fail
          go_ret2
          exact ⟨made ++ ss, true, rfl, HK9.out, .inr ⟨en, HE4.out, rfl, HR9.out⟩⟩

end Go.Proofs.Ytjjjncainakbiaa.Lg
