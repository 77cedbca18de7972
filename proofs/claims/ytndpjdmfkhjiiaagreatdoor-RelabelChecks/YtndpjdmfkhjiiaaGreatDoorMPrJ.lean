/- The parser of masks: a row. -/
import Derived.Test.YtndpjdmfkhjiiaaGreatDoorProg
import Derived.Test.YtndpjdmfkhjiiaaGreatDoorKit
import Derived.Test.YtndpjdmfkhjiiaaGreatDoorMPar
import Derived.Test.YtndpjdmfkhjiiaaGreatDoorMLay
import Derived.Test.YtndpjdmfkhjiiaaGreatDoorMSet
import Derived.Test.YtndpjdmfkhjiiaaGreatDoorMWlk
import Derived.Test.YtndpjdmfkhjiiaaGreatDoorMPrA
import Derived.Test.YtndpjdmfkhjiiaaGreatDoorMPrB
import Derived.Test.YtndpjdmfkhjiiaaGreatDoorMPrC
import Derived.Test.YtndpjdmfkhjiiaaGreatDoorMPrD
import Derived.Test.YtndpjdmfkhjiiaaGreatDoorMPrG
import Derived.Test.YtndpjdmfkhjiiaaGreatDoorMPrH
import Derived.Test.YtndpjdmfkhjiiaaGreatDoorMPrI
import Derived.BigQuiet
set_option linter.unusedVariables false
set_option linter.unusedSimpArgs false
namespace Go.Proofs.YtndpjdmfkhjiiaaGreatDoor
open Go.RowKit
attribute [local go_sem] bs_size bs_toList bs_append bs_get bs_extract

theorem bindO_none {α β : Type} {a : Out α} {k : α → Out β} (h : bindO a k = none) : a = none ∨ ∃ x, a = some (.ok x) ∧ k x = none := by
  match a, h with
  | none, _ => exact .inl rfl
  | some (.ok x), h => exact .inr ⟨x, rfl, h⟩
theorem bindO_assoc {α β γ : Type} (a : Out α) (k : α → Out β) (l : β → Out γ) : bindO (bindO a k) l = bindO a fun x => bindO (k x) l := by
  match a with
  | none => rfl
  | some (.error e) => rfl
  | some (.ok x) => rfl

/-- A row's first piece, and the rest. -/
theorem pM_piece {m : List UInt8} {f i g b : Nat} {c : UInt8} (hc : m[i]? = some c) (h1 : c.toNat ≠ 124) (h2 : c.toNat ≠ 41) {y} (hy : pM m (f + 1) false i g = some y) :
    (∃ e, pieceOut m f i g b c = some (.error e) ∧ y = .error e) ∨
    ∃ P null j h, ∃ K : Tr → Tr, pieceOut m f i g b c = some (.ok (P, null, j, h)) ∧ pM m (f + 1) false i g = (bindO (pM m f false j h) fun z => some (.ok (K z.1, z.2))) ∧
      (∀ T, comp (K T) b 0 = P ++ comp T (b + P.length) 0 ∧ nothing (K T) = (null && nothing T)) ∧ i < j ∧ j ≤ m.length ∧ (g ≤ 9 → h ≤ 9) ∧ P.length ≤ 8 * (j - i) := by
  have li := get_lt hc
  rw [pM] at hy
  simp only [hc] at hy
  rw [if_neg (by simp [h1, h2])] at hy
  by_cases h40 : c.toNat = 40
  · rw [if_pos h40] at hy
    by_cases h9 : g = 9
    · rw [if_pos h9] at hy
      cases hy
      left
      refine ⟨(2, i), ?_, rfl⟩
      unfold pieceOut atomOut
      rw [if_pos h40, if_pos h9]
      rfl
    · rw [if_neg h9] at hy
      rcases bindO_eq hy with ⟨e, he, rfl⟩ | ⟨x, hx, hy⟩
      · left
        refine ⟨e, ?_, rfl⟩
        unfold pieceOut atomOut
        rw [if_pos h40, if_neg h9, he]
        rfl
      · have k1 := pM_ok hx (by omega)
        have k2 := pM_sz hx (by omega)
        have k3 := (pM_is hx).2.2.2.1
        split at hy
        · rename_i hd
          have hdl := isAt_lt hd
          rcases bindO_eq hy with ⟨e, he, rfl⟩ | ⟨s, hs, hy⟩
          · left
            refine ⟨e, ?_, rfl⟩
            unfold pieceOut atomOut
            rw [if_pos h40, if_neg h9, hx]
            simp only [bindO]
            rw [if_pos hd]
            simp only
            rw [he]
          · right
            have k4 := pSign_ok hs (by omega)
            refine ⟨pieceC b s.1 (.mark (2 * g) :: .fork (starts x.1 (b + 3)) :: (comp x.1 (b + 3) (b + 3 + sz x.1) ++ [.mark (2 * g + 1)])), nothing x.1 || passed s.1, s.2, x.2.2, fun T => .grp g x.1 s.1 T, ?_, ?_, ?_, by omega, k4.2, fun hg => k3 (by omega), ?_⟩
            · unfold pieceOut atomOut
              rw [if_pos h40, if_neg h9, hx]
              simp only [bindO]
              rw [if_pos hd]
              simp only
              rw [hs]
            · rw [pM]
              simp only [hc]
              rw [if_neg (by simp [h1, h2]), if_pos h40, if_neg h9, hx]
              simp only [bindO]
              rw [if_pos hd, hs]
            · intro T
              refine ⟨?_, ?_⟩
              · rw [comp, pieceC_length]
                simp only [List.length_cons, List.length_append, comp_length, List.length_nil]
                rw [show b + 4 + again s.1 + sz x.1 = b + (1 + (sz x.1 + (0 + 1) + 1 + 1) + again s.1) from by omega]
              · simp only [nothing, passed]
                cases nothing x.1 <;> simp
            · have := again_le s.1
              rw [pieceC_length]
              simp only [List.length_cons, List.length_append, comp_length, List.length_nil]
              simp at k2
              omega
        · rename_i hd
          cases hy
          left
          refine ⟨(1, x.2.1), ?_, rfl⟩
          unfold pieceOut atomOut
          rw [if_pos h40, if_neg h9, hx]
          simp only [bindO]
          rw [if_neg hd]
  · rw [if_neg h40] at hy
    rcases bindO_eq hy with ⟨e, he, rfl⟩ | ⟨x, hx, hy⟩
    · left
      refine ⟨e, ?_, rfl⟩
      unfold pieceOut atomOut
      rw [if_neg h40, he]
      rfl
    · have k1 := pSet_ok hc hx
      rcases bindO_eq hy with ⟨e, he, rfl⟩ | ⟨s, hs, hy⟩
      · left
        refine ⟨e, ?_, rfl⟩
        unfold pieceOut atomOut
        rw [if_neg h40, hx]
        simp only [bindO]
        rw [he]
      · right
        have k4 := pSign_ok hs (by omega)
        refine ⟨pieceC b s.1 [.take x.1], passed s.1, s.2, g, fun T => .set x.1 s.1 T, ?_, ?_, ?_, by omega, k4.2, fun hg => hg, ?_⟩
        · unfold pieceOut atomOut
          rw [if_neg h40, hx]
          simp only [bindO]
          rw [hs]
          simp
        · rw [pM]
          simp only [hc]
          rw [if_neg (by simp [h1, h2]), if_neg h40, hx]
          simp only [bindO]
          rw [hs]
        · intro T
          refine ⟨?_, ?_⟩
          · rw [comp, pieceC_length]
            simp only [List.length_cons, List.length_nil]
            rw [show b + 2 + again s.1 = b + (1 + (0 + 1) + again s.1) from by omega]
          · simp only [nothing, passed]
        · have := again_le s.1
          rw [pieceC_length]
          simp only [List.length_cons, List.length_nil]
          omega

/-- What a row does. -/
def rowPost (F : Nat → Prop) (pb : Nat) (m : List UInt8) (S : List St) (y : Except (Nat × Nat) (Tr × Nat × Nat)) (w : World) (e : Ending) (w' : World) : Prop :=
  KeptX F pb w w' ∧ match y with
    | .error x => e = faulted x.1 x.2
    | .ok x => e = .returned (.bool (nothing x.1)) ∧ parserAt w' F pb m x.2.1 (S ++ comp x.1 S.length 0) x.2.2

/-- A row that is under way. -/
def goes (m : List UInt8) (f i g : Nat) (S : List St) (f' i' g' : Nat) (S' : List St) (null : Bool) : Prop :=
  ∃ K : Tr → Tr, pM m f false i g = (bindO (pM m f' false i' g') fun z => some (.ok (K z.1, z.2))) ∧ ∀ T, S ++ comp (K T) S.length 0 = S' ++ comp T S'.length 0 ∧ nothing (K T) = (null && nothing T)

theorem comes_row {m : List UInt8} {i : Nat} {c : UInt8} (h : m[i]? = some c) : comesB [124, 41] m i = (decide (c.toNat = 124) || decide (c.toNat = 41)) := by
  unfold comesB
  rw [h]
  simp only [contains_nat, List.any_cons, List.any_nil, Bool.or_false]
  rfl

set_option maxRecDepth 20000 in
set_option maxHeartbeats 4000000 in
theorem row_any {m : List UInt8} {f : Nat} (hf : ∀ f', f' < f → RowsOK m f') (w : World) (F : Nat → Prop) (pb i g : Nat) (S : List St) (y : Except (Nat × Nat) (Tr × Nat × Nat)) (hp : parserAt w F pb m i S g) (hi : i ≤ m.length) (hg : g ≤ 9) (hS : S.length + 8 * (m.length - i) ≤ 100001) (hm : m.length ≤ 10000)
    (hy : pM m f false i g = some y) : Calls Tryz.prog 141 #[.pointer (some ⟨pb, 0, none⟩)] w (rowPost F pb m S y w) := by
  have HF := hide hf
  have HY := hide hy
  have HP := hide hp
  clear hf hy hp
  go_enter Tryz.func141, Tryz.ntmps141
  go_wp2_with fail
  go_loopw [3] (fun v wr => ∃ f' i' g' S' null, v = .bool null ∧ f' ≤ f ∧ i' ≤ m.length ∧ g' ≤ 9 ∧ S'.length + 8 * (m.length - i') ≤ 100001 ∧ Hid (parserAt wr F pb m i' S' g') ∧ Hid (KeptX F pb w wr) ∧ Hid (goes m f i g S f' i' g' S' null)) (fun _ wr => m.length - placeOf wr pb)
  case atStart => exact ⟨f, i, g, S, true, rfl, Nat.le_refl _, hi, hg, hS, HP, hide (.refl _ _ _), hide ⟨fun T => T, by
    rw [HY.out]
    match y with
    | .error e => rfl
    | .ok x => rfl, fun T => ⟨rfl, by simp⟩⟩⟩
  case round =>
    obtain ⟨f', i', g', S', null, rfl, hf', hi', hg', hS', HPr, HKr, HG⟩ := hrel
    rename World => wr
    have hpl := HPr.out.place
    obtain ⟨_, _, ao, cp, hblk⟩ := HPr.out.cells
    obtain ⟨c0, c1, c2, c3⟩ := four_cells hblk
    have HBL : Hid (∀ n, parserAt (wr.drewN n) F pb m i' S' g') := hide fun n => HPr.out
    clear hblk c2 c3
    -- where it ends
    have hend : (i' = m.length ∨ ∃ c, m[i']? = some c ∧ (c.toNat = 124 ∨ c.toNat = 41)) → ∃ T, y = .ok (T, i', g') ∧ nothing T = null ∧ S ++ comp T S.length 0 = S' := by
      intro h
      obtain ⟨K, hK, hT⟩ := HG.out
      rw [HY.out] at hK
      have hnil : ∀ k, pM m (k + 1) false i' g' = some (.ok (.nil, i', g')) := by
        intro k
        rw [pM]
        rcases h with h | ⟨c, h1, h2⟩
        · rw [List.getElem?_eq_none_iff.2 (by omega)]
        · rw [h1]
          simp only
          rw [if_pos (by rcases h2 with h | h <;> simp [h])]
      cases f' with
      | zero => rw [pM] at hK; cases hK
      | succ k =>
        rw [hnil] at hK
        have := Option.some.inj hK
        refine ⟨K .nil, this, ?_, ?_⟩
        · rw [(hT .nil).2]; simp [nothing]
        · rw [(hT .nil).1]; simp [comp]
    by_cases hlt : i' < m.length
    · obtain ⟨c, hc⟩ : ∃ c, m[i']? = some c := ⟨_, List.getElem?_eq_getElem hlt⟩
      have hd : decide ((i' : Int) < m.length) = true := by simpa using hlt
      have HCM : Hid (∀ n, Calls Tryz.prog 154 #[.pointer (some ⟨pb, 0, none⟩), .string { data := #[124, 41] }] (wr.drewN n) fun e w' => e = .returned (.bool (decide (c.toNat = 124) || decide (c.toNat = 41))) ∧ ∃ k, w' = (wr.drewN n).drewN k) := by
        intro n
        have h := comes_any (wr.drewN n) F pb m [124, 41] i' g' S' (HBL.out n) (by omega) hi'
        rw [comes_row hc] at h
        exact h
      by_cases hs : c.toNat = 124 ∨ c.toNat = 41
      · have hb : (decide (c.toNat = 124) || decide (c.toNat = 41)) = true := by rcases hs with h | h <;> simp [h]
        rw [hb] at HCM
        obtain ⟨T, hyT, hnT, hsT⟩ := hend (.inr ⟨c, hc, hs⟩)
        have HYT := hide hyT
        have HNT := hide hnT
        have HST := hide hsT
        clear hb hs hc hend hyT hnT hsT
        go_wp2
        go_quiet ((go_at_call 154; exact Calls.quiet_of (HCM.out _)))
        go_wp2
        go_ret
        rw [HYT.out]
        exact ⟨HKr.out.drawN, by rw [HNT.out]; rfl, by rw [HST.out]; exact HBL.out _⟩
      · have hb : (decide (c.toNat = 124) || decide (c.toNat = 41)) = false := by
          simp only [not_or] at hs
          simp [hs.1, hs.2]
        rw [hb] at HCM
        simp only [not_or] at hs
        have HS := hide hs
        have HC := hide hc
        clear hb hs hc hend
        obtain ⟨K, hK, hT⟩ := HG.out
        rw [HY.out] at hK
        obtain ⟨f', rfl⟩ : ∃ k, f' = k + 1 := by
          cases f' with
          | zero => rw [pM] at hK; cases hK
          | succ k => exact ⟨k, rfl⟩
        obtain ⟨y', hy'⟩ : ∃ y', pM m (f' + 1) false i' g' = some y' := by
          cases h : pM m (f' + 1) false i' g' with
          | none => rw [h] at hK; cases hK
          | some y' => exact ⟨y', rfl⟩
        have HT := hide hT
        have HK := hide hK
        clear hT hK
        go_wp2
        go_quiet ((go_at_call 154; exact Calls.quiet_of (HCM.out _)))
        go_wp2_with fail
        rcases pM_piece (b := S'.length) HC.out HS.out.1 HS.out.2 hy' with ⟨er, ho, rfl⟩ | ⟨P, nul, j, h, K2, ho, hk2, hT2, hij, hjm, h9, hPl⟩
        · have HE : Hid (y = .error er) := by show _ = _; have h := HK.out; rw [hy'] at h; exact Option.some.inj h
          refine (piece_any (HF.out f' (by omega)) (wr.drewN nq) F pb i' g' S' c (.error er) (HBL.out nq) HC.out hg' hS' hm ho).mono ?_
          rintro e w1 ⟨hk1, rfl⟩
          exact ⟨rfl, HKr.out.trans ⟨hk1.os, hk1.tape, hk1.output, hk1.size, hk1.block⟩, by rw [HE.out]⟩
        · have HT2 := hide hT2
          have HK2 := hide hk2
          have HO := hide ho
          clear hT2 hk2 ho
          refine (piece_any (HF.out f' (by omega)) (wr.drewN nq) F pb i' g' S' c (.ok (P, nul, j, h)) (HBL.out nq) HC.out hg' hS' hm HO.out).mono ?_
          rintro e w1 ⟨hk1, rfl, hp1⟩
          have HP1 : Hid (parserAt w1 F pb m j (S' ++ P) h) := hide hp1
          have HK1 : Hid (KeptX F pb w w1) := hide (HKr.out.trans ⟨hk1.os, hk1.tape, hk1.output, hk1.size, hk1.block⟩)
          have hpl1 : placeOf w1 pb = j := hp1.place
          have HG1 : Hid (goes m f i g S f' j h (S' ++ P) (null && nul)) := by
            refine hide ⟨fun T => K (K2 T), ?_, fun T => ?_⟩
            · rw [HY.out, HK.out, HK2.out, bindO_assoc]
              match pM m f' false j h with
              | none => rfl
              | some (.error e) => rfl
              | some (.ok x) => rfl
            · refine ⟨?_, ?_⟩
              · rw [(HT.out (K2 T)).1, (HT2.out T).1, List.append_assoc, List.length_append]
              · rw [(HT.out (K2 T)).2, (HT2.out T).2, Bool.and_assoc]
          clear hk1 hp1
          simp only
          cases nul with
          | true =>
            go_wp2
            go_roundw
            case rel => exact ⟨f', j, h, S' ++ P, null, rfl, by omega, hjm, h9 hg', by rw [List.length_append]; omega, HP1, HK1, by have := HG1.out; rw [Bool.and_true] at this; exact hide this⟩
            case measure => rw [hpl1, hpl]; omega
          | false =>
            go_wp2
            go_roundw
            case rel => exact ⟨f', j, h, S' ++ P, false, rfl, by omega, hjm, h9 hg', by rw [List.length_append]; omega, HP1, HK1, by have := HG1.out; rw [Bool.and_false] at this; exact hide this⟩
            case measure => rw [hpl1, hpl]; omega
    · have hd : decide ((i' : Int) < m.length) = false := by simpa using hlt
      obtain ⟨T, hyT, hnT, hsT⟩ := hend (.inl (by omega))
      have HYT := hide hyT
      have HNT := hide hnT
      have HST := hide hsT
      clear hend hyT hnT hsT
      go_wp2
      go_quiet (fail)
      go_wp2
      go_ret
      rw [HYT.out]
      exact ⟨HKr.out.drawN, by rw [HNT.out]; rfl, by rw [HST.out]; exact HBL.out _⟩

end Go.Proofs.YtndpjdmfkhjiiaaGreatDoor
