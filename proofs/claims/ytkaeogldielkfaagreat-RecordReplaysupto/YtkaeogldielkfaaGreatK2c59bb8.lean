/- 1 texts in one. -/
import Derived.Test.YtkaeogldielkfaaGreatProg
import Derived.Test.YtkaeogldielkfaaGreatKabe2b5f
import Derived.Test.YtkaeogldielkfaaGreatK1e38180
import Derived.Test.YtkaeogldielkfaaGreatKd42f439
import Derived.Test.YtkaeogldielkfaaGreatK9f445eb
import Derived.Test.YtkaeogldielkfaaGreatK8333cf2
import Derived.BigQuiet
set_option linter.unusedVariables false
set_option linter.unusedSimpArgs false
namespace Go.Proofs.YtkaeogldielkfaaGreat.Lg
open Go.RowKit
attribute [local go_sem] bs_size bs_toList bs_append bs_get bs_extract
/-- Where the last record ends. -/
def lastE (L : List (List UInt8 × Nat)) : Nat := match L.getLast? with | none => 0 | some x => x.2
theorem lastE_snoc (L : List (List UInt8 × Nat)) (x : List UInt8 × Nat) : lastE (L ++ [x]) = x.2 := by simp [lastE]
theorem own_apartS {w : World} {base e size n b : Nat} {v : Value} {xs : List Value} (h : w.ownsRow base e size v n xs) (hb : b < base) : v.ownBlock ≠ some b := by
  intro hv
  have := (World.ownsRow.lt h b hv).1
  omega
set_option maxRecDepth 20000 in
set_option maxHeartbeats 1000000 in
theorem logRead_any (l : List UInt8) (w : World) (hl : l.length ≤ 100000000) :
    Calls Tryz.prog 35 #[.string (bs l)] w fun e w' => ∃ v, e = .returned (.tuple #[v, .int .i64 (lastE (entA l 0))]) ∧ ownStrs w' w.heap.size v ((entA l 0).map (·.1)) ∧ Below w.heap.size w w' := by
  have HB0 : Hid (rdr (w.alloc (.cells #[.string (bs l), .int .i64 0] 109)) w.heap.size l 0) := hide (heap_alloc_new w _)
  have HG0 : Hid (Below w.heap.size w (w.alloc (.cells #[.string (bs l), .int .i64 0] 109))) := hide ((Below.refl _ w).alloc (Nat.le_refl _) _)
  have HS0 : Hid (w.heap.size + 1 ≤ (w.alloc (.cells #[.string (bs l), .int .i64 0] 109)).heap.size) := hide (by simp)
  go_enter Tryz.func35, Tryz.ntmps35
  go_wp2
  generalize w.alloc (.cells #[.string (bs l), .int .i64 0] 109) = w1 at *
  go_loopw [4, 6] (fun v x wr => ∃ (done : List (List UInt8 × Nat)) (p : Nat) (ao : Option Addr) (n cp : Nat), v = .slice ao n cp ∧ x = .int .i64 p ∧ p ≤ l.length ∧ 7 * done.length ≤ p ∧ Hid (n = done.length) ∧ Hid (p = lastE done) ∧ Hid (KeptB (w.heap.size + 1) w.heap.size w1 wr) ∧ Hid (rdr wr w.heap.size l p) ∧ Hid (ownStrs wr (w.heap.size + 1) (.slice ao n cp) (done.map (·.1))) ∧ Hid (entA l 0 = done ++ entA l p)) (fun _ x _ => l.length - (intOf x).toNat)
  case atStart => exact ⟨[], 0, none, 0, 0, rfl, rfl, by omega, by simp, hide rfl, hide rfl, hide (KeptB.refl _ _ _), HB0, hide (World.ownsRow_nil _ _ _ _), hide (by simp)⟩
  case round =>
    obtain ⟨done, p, ao, n, cp, rfl, rfl, hp, hd7, HN, HP, HK, HR, HO, HE⟩ := hrel
    rename World => wr
    have hws := HK.out.size
    have hs0 := HS0.out
    have hne := own_apartS HO.out (by omega : w.heap.size < w.heap.size + 1)
    go_wp2_with fail
    refine (lgRecord_any wr w.heap.size p l HR.out hp (by omega)).mono ?_
    rintro e w2 ⟨rr, bb, rfl, hk2, hcase⟩
    have HK2 : Hid (KeptB (w.heap.size + 1) w.heap.size w1 w2) := hide (HK.out.more hk2 hs0)
    have HO2 := hide (ownsRow_kept HO.out hk2 hne)
    clear hk2
    rcases hcase with ⟨hnone, rfl⟩ | ⟨en, hsome, rfl, hr2⟩
    · have HF : Hid (entA l 0 = done) := hide (by rw [HE.out, entA_eq l p, hnone]; simp)
      clear hnone
      go_wp2_with fail
      go_ret2
      refine ⟨.slice ao n cp, by rw [HF.out, ← HP.out]; rfl, ?_, ?_⟩
      · rw [HF.out]
        obtain ⟨h3, h4⟩ := HO2.out
        refine ⟨h3, ?_⟩
        rcases h4 with h4 | ⟨g, cap, cur, r1, r2, r3⟩
        · exact .inl h4
        · exact .inr ⟨g, cap, cur, r1, by omega, r3⟩
      · exact HG0.out.trans (HK2.out.below (by omega) (Nat.le_refl _))
    · have hpe := recA_end hsome
      have HE2 : Hid (entA l 0 = (done ++ [(rr, en)]) ++ entA l en) := hide (by rw [HE.out, entA_eq l p, hsome]; simp)
      have HR2 := hide hr2
      have HL2 : Hid ((done ++ [(rr, en)]).map (·.1) = done.map (·.1) ++ [rr]) := hide (by simp)
      have HM : Hid ((done.map (·.1)).length = done.length) := hide (by simp)
      have hB2 : w.heap.size + 1 ≤ w2.heap.size := by have := HK2.out.size; omega
      clear hsome hr2
      generalize done.map (·.1) = D at HO HO2 HL2 HM
      go_wp2_with (at_builtin; refine append_strL rfl (.tmp 19) (.tmp 21) rfl (w.heap.size + 1) D rr rfl HO2.out rfl (by rw [HM.out]; omega) hB2 ?_; intro ao9 cp9 n9 w9 hn9 hn9l hown9 hgrow9 hbel9; have hb9 := grown_block hgrow9 HR2.out (own_apartS HO2.out (by omega)); obtain ⟨d0, d1, y0, y1⟩ := lgTwo hb9; have HO9 := hide hown9; have HB9 := hide hb9; have HBel9 := hide hbel9; have HN9 := hide hn9l; clear hown9 hgrow9 hbel9 hb9 hn9l)
      go_roundw
      case rel => exact ⟨done ++ [(rr, en)], en, ao9, n9, cp9, rfl, rfl, hpe.2.1, by simp; omega, hide (by rw [hn9.out, ← HL2.out]; simp), hide (by rw [lastE_snoc]), hide (HK2.out.trans (keptB_of HBel9.out)), HB9, hide (by rw [HL2.out]; exact HO9.out), HE2⟩
      case measure => simp [intOf]; omega
end Go.Proofs.YtkaeogldielkfaaGreat.Lg
