/- 1 texts in one. -/
import Derived.Test.YtndpjdmfkhjiiaaGreatDoorProg
import Derived.Test.YtndpjdmfkhjiiaaGreatDoorK97fdc06
import Derived.Test.YtndpjdmfkhjiiaaGreatDoorK6416f58
import Derived.Test.YtndpjdmfkhjiiaaGreatDoorKa9444aa
import Derived.Test.YtndpjdmfkhjiiaaGreatDoorK2069ade
import Derived.Test.YtndpjdmfkhjiiaaGreatDoorKeb2af47
import Derived.BigFrame
set_option linter.unusedVariables false
set_option linter.unusedSimpArgs false
namespace Go.Proofs.YtndpjdmfkhjiiaaGreatDoor.Rl
open Go.RowKit Lb
attribute [local go_sem] bs_size bs_toList bs_append bs_get bs_extract
/-- A row of rules that can be read below B. -/
def readsRules (w : World) (B : Nat) (v : Value) (rs : List Rul) : Prop :=
  ∃ ao cp, v = .slice ao rs.length cp ∧ ∀ i (h : i < rs.length), ∃ b o vs, ao = some ⟨b, o, none⟩ ∧ b < B ∧ readsStrs w B vs rs[i].sources ∧
    w.cell? ⟨b, o + i * 7, none⟩ = some (.int .i64 rs[i].kind) ∧ w.cell? ⟨b, o + i * 7 + 1, none⟩ = some vs ∧ w.cell? ⟨b, o + i * 7 + 2, none⟩ = some (.string (bs rs[i].between)) ∧ w.cell? ⟨b, o + i * 7 + 3, none⟩ = some (.string (bs rs[i].mask)) ∧
    w.cell? ⟨b, o + i * 7 + 4, none⟩ = some (.int .i64 rs[i].modulus) ∧ w.cell? ⟨b, o + i * 7 + 5, none⟩ = some (.string (bs rs[i].target)) ∧ w.cell? ⟨b, o + i * 7 + 6, none⟩ = some (.string (bs rs[i].repl))
theorem readsRules.keep {w w' : World} {B : Nat} {v : Value} {rs : List Rul} (h : readsRules w B v rs) (g : Below B w w') : readsRules w' B v rs := by
  obtain ⟨ao, cp, hv, h⟩ := h
  refine ⟨ao, cp, hv, fun i hi => ?_⟩
  obtain ⟨b, o, vs, e, hb, hs, c0, c1, c2, c3, c4, c5, c6⟩ := h i hi
  exact ⟨b, o, vs, e, hb, hs.keep g, (g.cell (p := ⟨b, _, none⟩) hb).trans c0, (g.cell (p := ⟨b, _, none⟩) hb).trans c1, (g.cell (p := ⟨b, _, none⟩) hb).trans c2, (g.cell (p := ⟨b, _, none⟩) hb).trans c3, (g.cell (p := ⟨b, _, none⟩) hb).trans c4, (g.cell (p := ⟨b, _, none⟩) hb).trans c5, (g.cell (p := ⟨b, _, none⟩) hb).trans c6⟩
/-- The first rule's error that is one. -/
def rulesErr : List Rul → Nat
  | [] => 0
  | r :: l => if ruleErr r ≠ 0 then ruleErr r else rulesErr l
theorem rulesErr_at {l : List Rul} {k : Nat} (hk : k < l.length) (h : ∀ j (hj : j < l.length), j < k → ruleErr l[j] = 0) (hf : ruleErr l[k] ≠ 0) : rulesErr l = ruleErr l[k] := by
  induction l generalizing k with
  | nil => simp at hk
  | cons x l ih =>
    cases k with
    | zero =>
      have hf0 : ruleErr x ≠ 0 := hf
      show (if ruleErr x ≠ 0 then _ else _) = _
      rw [if_pos hf0]
      rfl
    | succ k =>
      have h0 : ruleErr x = 0 := h 0 (by simp) (by omega)
      show (if ruleErr x ≠ 0 then _ else _) = _
      rw [if_neg (by omega)]
      exact ih (by simpa using hk) (fun j hj hjk => h (j + 1) (by simpa using hj) (by omega)) hf
theorem rulesErr_all {l : List Rul} (h : ∀ j (hj : j < l.length), ruleErr l[j] = 0) : rulesErr l = 0 := by
  induction l with
  | nil => rfl
  | cons x l ih =>
    have h0 : ruleErr x = 0 := h 0 (by simp)
    show (if ruleErr x ≠ 0 then _ else _) = _
    rw [if_neg (by omega)]
    exact ih fun j hj => h (j + 1) (by simpa using hj)
/-- What is wrong ahead of anything's being done. -/
def allErr (ls : List Lab) (rs : List Rul) : Nat := if 30 < rs.length then 2 else if checkB ls ≠ 0 then checkB ls else rulesErr rs
/-- Rules' sizes. -/
def okRs (rs : List Rul) : Prop := ∀ r ∈ rs, okR r ∧ (Lit.int .i64 r.kind).wf = true
set_option maxRecDepth 20000 in
set_option maxHeartbeats 8000000 in
theorem checkAll_any (w : World) (va vr : Value) (ls : List Lab) (rs : List Rul) (ha : readsLabels w w.heap.size va ls) (hlen : ls.length ≤ 9223372036854775807) (hin : lensOk ls) (hr : readsRules w w.heap.size vr rs) (hrl : rs.length ≤ 9223372036854775807) (hok : okRs rs) :
    Calls Tryz.prog 35 #[va, vr] w fun e w' => e = .returned (.int .i64 (allErr ls rs)) ∧ Grow w w' := by
  have HCK := hide (check_any w va ls ha hlen hin)
  obtain ⟨lo, lc, rfl⟩ := readsLabels_len ha
  have HRR := hide hr
  obtain ⟨ao, cp, rfl, hcells⟩ := hr
  have HOK := hide hok
  clear ha hin hok hcells
  unfold allErr
  by_cases h30 : 30 < rs.length
  · rw [if_pos h30]
    have h30' : (30 : Int) < rs.length := by omega
    go_enter Tryz.func35, Tryz.ntmps35
    go_wp2
    go_ret
    exact ⟨rfl, Grow.refl _⟩
  · rw [if_neg h30]
    have h30' : ¬ (30 : Int) < rs.length := by omega
    obtain ⟨F, HF⟩ : ∃ F : Nat, Hid (checkB ls = F) := ⟨_, hide rfl⟩
    rw [HF.out] at HCK ⊢
    obtain ⟨E, HE⟩ : ∃ E : Nat, Hid ((if F ≠ 0 then F else rulesErr rs) = E) := ⟨_, hide rfl⟩
    rw [HE.out]
    by_cases hF : F = 0
    · have hF' : ((F : Int) != 0) = false := by simp [hF]
      rw [if_neg (by omega)] at HE
      clear hF
      go_enter Tryz.func35, Tryz.ntmps35
      go_wp2_with fail
      refine HCK.out.mono ?_
      rintro e w1 ⟨rfl, hg1⟩
      have HG1 : Hid (Grow w w1) := hide hg1
      clear hg1
      go_wp2
      go_loopw [19] (fun i wr => ∃ k : Nat, k ≤ rs.length ∧ i = .int .i64 k ∧ Hid (Grow w wr) ∧ Hid (∀ j (hj : j < rs.length), j < k → ruleErr rs[j] = 0)) (fun i _ => rs.length - (intOf i).toNat)
      case atStart => exact ⟨0, by omega, rfl, HG1, hide (fun j _ h => by omega)⟩
      case round =>
        obtain ⟨k, hk, rfl, HG, HD⟩ := hrel
        by_cases hlt : k < rs.length
        · obtain ⟨ao', cp', hv', hcells⟩ := HRR.out.keep HG.out
          cases hv'
          obtain ⟨lb, lo', vs, rfl, hlB, hst, d0, d1, d2, d3, d4, d5, d6⟩ := hcells k hlt
          clear hcells
          obtain ⟨hok, hwf⟩ := HOK.out _ (List.getElem_mem hlt)
          obtain ⟨r, HX⟩ : ∃ r : Rul, Hid (rs[k] = r) := ⟨_, hide rfl⟩
          rw [HX.out] at d0 d2 d3 d4 d5 d6 hst hok hwf
          obtain ⟨so, sc, evs, _⟩ := id hst
          subst evs
          obtain ⟨W, eW, gW, sW, hW⟩ := laid_rule wr (.int .i64 r.kind) (.slice so r.sources.length sc) (.string (bs r.between)) (.string (bs r.mask)) (.int .i64 r.modulus) (.string (bs r.target)) (.string (bs r.repl)) 24
          have HGW : Hid (Grow w W) := hide (HG.out.trans gW)
          have HCR := hide (checkRule_any W r (.slice so r.sources.length sc) ((hst.keep (HGW.out.mono (Nat.le_refl _) |> fun _ => (Below.mono gW HG.out.size))).more HGW.out.size) hok hwf)
          obtain ⟨c0, c1, c2, c3, c4, c5, c6⟩ := seven_cells hW
          clear gW hW hst hok hwf
          obtain ⟨P, HP⟩ : ∃ P : Nat, Hid (ruleErr r = P) := ⟨_, hide rfl⟩
          rw [HP.out] at HCR
          by_cases hP : P = 0
          · have hP' : ((P : Int) != 0) = false := by simp [hP]
            have HP0 := hide hP
            clear hP
            go_wp2_with fail
            refine HCR.out.mono ?_
            rintro e w2 ⟨rfl, hg2⟩
            have HG2 : Hid (Grow w w2) := hide (HGW.out.trans hg2)
            clear hg2 eW
            go_wp2
            go_roundw
            case rel => exact ⟨k + 1, by omega, by go_num, HG2, hide (fun j hj h => by
              by_cases e : j = k
              · subst e; rw [HX.out, HP.out]; exact HP0.out
              · exact HD.out j hj (by omega))⟩
            case measure => simp [intOf]; omega
          · have hP' : ((P : Int) != 0) = true := by simp; exact hP
            have HE2 : Hid (P = E) := by
              rw [← HE.out, rulesErr_at hlt HD.out (by rw [HX.out, HP.out]; exact hP), HX.out, HP.out]
              exact hide rfl
            clear hP
            go_wp2_with fail
            refine HCR.out.mono ?_
            rintro e w2 ⟨rfl, hg2⟩
            have HG2 : Hid (Grow w w2) := hide (HGW.out.trans hg2)
            clear hg2 eW
            go_wp2
            go_ret
            exact ⟨ret_int (by rw [HE2.out]), HG2.out⟩
        · have HE2 : Hid (0 = E) := by
            rw [← HE.out, rulesErr_all fun j hj => HD.out j hj (by omega)]
            exact hide rfl
          go_wp2
          go_ret
          exact ⟨ret_int (by rw [← HE2.out]; rfl), HG.out⟩
    · have hF' : ((F : Int) != 0) = true := by simp; exact hF
      rw [if_pos hF] at HE
      clear hF
      go_enter Tryz.func35, Tryz.ntmps35
      go_wp2_with fail
      refine HCK.out.mono ?_
      rintro e w1 ⟨rfl, hg1⟩
      go_wp2
      go_ret
      exact ⟨ret_int (by rw [HE.out]), hg1⟩
end Go.Proofs.YtndpjdmfkhjiiaaGreatDoor.Rl
