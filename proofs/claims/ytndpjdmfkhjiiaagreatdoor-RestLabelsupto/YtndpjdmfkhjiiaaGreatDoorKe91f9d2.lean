/- 2 texts in one. -/
import Derived.Test.YtndpjdmfkhjiiaaGreatDoorProg
import Derived.Test.YtndpjdmfkhjiiaaGreatDoorK97fdc06
import Derived.Test.YtndpjdmfkhjiiaaGreatDoorK2a70092
import Derived.Test.YtndpjdmfkhjiiaaGreatDoorK8351dc7
import Derived.Test.YtndpjdmfkhjiiaaGreatDoorK58b8031
import Derived.Test.YtndpjdmfkhjiiaaGreatDoorKdd2361c
import Derived.Test.YtndpjdmfkhjiiaaGreatDoorKb8b36ab
import Derived.Test.YtndpjdmfkhjiiaaGreatDoorKa9444aa
import Derived.Test.YtndpjdmfkhjiiaaGreatDoorK2069ade
import Derived.Test.YtndpjdmfkhjiiaaGreatDoorK0520c6f
import Derived.Test.YtndpjdmfkhjiiaaGreatDoorK49d1723
import Derived.Test.YtndpjdmfkhjiiaaGreatDoorK165fae9
import Derived.BigFrame
set_option linter.unusedVariables false
set_option linter.unusedSimpArgs false
namespace Go.Proofs.YtndpjdmfkhjiiaaGreatDoor.Rl
open Go.RowKit Lb
attribute [local go_sem] bs_size bs_toList bs_append bs_get bs_extract
/-- The name that a label's name makes, if it is like the mask. -/
noncomputable def nameOf (T : Tr) (g : Nat) (tm : List (List UInt8 × Int)) (n : List UInt8) : Option (List UInt8) := (wayOf T n).map fun l => valsT n (tookL n l g) tm
/-- The labels that RuleMap makes, and an error: f gives the new name. -/
def mapGo (f : List UInt8 → Option (List UInt8)) : List Lab → List Lab → List Lab × Nat
  | made, [] => (made, 0)
  | made, x :: l => match f x.1 with
    | none => mapGo f made l
    | some n => if nameB n = true then (if withErr made n x.2 ≠ 0 then ([], withErr made n x.2) else mapGo f (withAns made n x.2) l) else mapGo f made l
/-- Labels that came, or the call's own. -/
def Stay (B : Nat) (v0 : Value) (l0 : List Lab) (v : Value) (l : List Lab) (w : World) : Prop := (v = v0 ∧ l = l0) ∨ ownLabels w B v l
theorem own_reads {w : World} {B : Nat} {v : Value} {l : List Lab} (h : ownLabels w B v l) : readsLabels w w.heap.size v l := reads_ownLabels h
theorem Stay.reads {B : Nat} {v0 v : Value} {l0 l : List Lab} {w0 w : World} (h : Stay B v0 l0 v l w) (h0 : readsLabels w0 w0.heap.size v0 l0) (hg : Grow w0 w) : readsLabels w w.heap.size v l := by
  rcases h with ⟨rfl, rfl⟩ | h
  · exact readsLabels_mono (readsLabels_below h0 hg) hg.size
  · exact own_reads h
theorem Stay.grow {B : Nat} {v0 v : Value} {l0 l : List Lab} {w w' : World} (h : Stay B v0 l0 v l w) (hg : Grow w w') : Stay B v0 l0 v l w' := by
  rcases h with h | h
  · exact .inl h
  · exact .inr (own_grow h hg)
/-- What RuleMap's deed answers. -/
def MapPost (B : Nat) (v0 : Value) (l0 : List Lab) (R : List Lab × Nat) (e : Ending) (w : World) : Prop :=
  if R.2 ≠ 0 then e = .returned (.tuple #[.slice none 0 0, .bool false, .int .i64 R.2]) else ∃ v', e = .returned (.tuple #[v', .bool true, .int .i64 0]) ∧ Stay B v0 l0 v' R.1 w
theorem MapPost.err {B : Nat} {v0 : Value} {l0 : List Lab} {R : List Lab × Nat} {n : Nat} {w : World} (h : R.2 = n) (hn : n ≠ 0) : MapPost B v0 l0 R (.returned (.tuple #[.slice none 0 0, .bool false, .int .i64 n])) w := by
  subst h
  unfold MapPost
  rw [if_pos hn]
theorem MapPost.ok {B : Nat} {v0 v' : Value} {l0 l : List Lab} {R : List Lab × Nat} {w : World} (h : R = (l, 0)) (hs : Stay B v0 l0 v' l w) : MapPost B v0 l0 R (.returned (.tuple #[v', .bool true, .int .i64 0])) w := by
  subst h
  unfold MapPost
  rw [if_neg (by simp)]
  exact ⟨v', rfl, hs⟩
set_option maxRecDepth 20000 in
set_option maxHeartbeats 8000000 in
theorem rename_any (w : World) (r : Rul) (v va : Value) (ls : List Lab) (src : List UInt8) {T : Tr} {g : Nat} {tm : List (List UInt8 × Int)} (hm : maskIs r.mask = .ok (T, g)) (hc : checkB ls = 0) (ha : readsLabels w w.heap.size va ls)
    (htm : tmAt r.repl 0 = some tm) (hrp : r.repl.length ≤ 100) :
    Calls Tryz.prog 65 #[ruleV r v, va, .string (bs src)] w fun e w' => Grow w w' ∧ MapPost w.heap.size va ls (mapGo (nameOf T g tm) ls ls) e w' := by
  have hmo := maskIs_ok hm
  have hml := hmo.2.2.2.2.2
  have hsm := right_small hc
  obtain ⟨kind, rs, bt, mk, md, tg, rp⟩ := r
  unfold ruleV
  simp only at hm hml htm hrp ⊢
  have HMT : Hid (∀ W (n : List UInt8), n.length ≤ 40 → Calls Tryz.prog 27 #[.string (bs mk), .string (bs n)] W fun e w' => Grow W w' ∧ match wayOf T n with
      | none => e = .returned (.tuple #[.bool false, .slice none 0 0, .int .i64 0])
      | some l => ∃ vo vc, e = .returned (.tuple #[.bool true, .slice vo (tookL n l g).length vc, .int .i64 0]) ∧ ownStrs w' W.heap.size (.slice vo (tookL n l g).length vc) (tookL n l g)) := hide (by
    intro W n hn
    refine (match_any W mk n (by omega) (by omega)).mono ?_
    rintro e w' ⟨hg, h⟩
    refine ⟨hg, ?_⟩
    unfold matchAns at h
    rw [hm] at h
    simp only at h
    unfold matchOk at h
    rw [if_neg (by omega)] at h
    cases hw : wayOf T n with
    | none => rw [hw] at h; exact h
    | some l =>
      rw [hw] at h
      obtain ⟨v, h1, h2⟩ := h
      obtain ⟨ao, cp, rfl⟩ := own_shape h2
      exact ⟨ao, cp, h1, h2⟩)
  have HEX : Hid (∀ W (n : List UInt8) (l : Evs) (vg : Value), n.length ≤ 40 → readsStrs W W.heap.size vg (tookL n l g) → Calls Tryz.prog 52 #[.string (bs rp), .string (bs n), vg] W fun e w' => e = .returned (.tuple #[.string (bs (valsT n (tookL n l g) tm)), .int .i64 0]) ∧ Grow W w') := hide (by
    intro W n l vg hn hv
    have hs : ∀ s ∈ tookL n l g, s.length ≤ 100 := fun s hs => by have := tookL_small s hs; omega
    have h := expand_any rp n (tookL n l g) vg W (by omega) (by omega) (by rw [tookL_len]; have := hmo.2.2.1; omega) (fun s h => by have := hs s h; omega) hv
    rw [exAns_is (M := 100) (by omega) (by omega) (by omega) hs, htm] at h
    exact h)
  have HVL : Hid (∀ (n : List UInt8) (l : Evs), n.length ≤ 40 → (valsT n (tookL n l g) tm).length ≤ 10000) := hide (by
    intro n l hn
    obtain ⟨h1, h2⟩ := tmR_is (show tmR rp.length (rp.drop 0) = some tm from htm)
    have h3 : (valsT n (tookL n l g) tm).length ≤ 100 * tm.length := valsT_len fun x hx => valT_len (by omega) (fun s hs => by have := tookL_small s hs; omega) (Nat.le_trans (h2 x hx) (by omega))
    simp at h1
    omega)
  have HNM : Hid (∀ n, nameOf T g tm n = match wayOf T n with | none => none | some l => some (valsT n (tookL n l g) tm)) := hide (fun n => by unfold nameOf; cases wayOf T n <;> rfl)
  generalize nameOf T g tm = f at HNM ⊢
  obtain ⟨R, HR⟩ : ∃ R, Hid (mapGo f ls ls = R) := ⟨_, hide rfl⟩
  rw [HR.out]
  obtain ⟨lo, lc, hva⟩ := readsLabels_len ha
  have HA := hide ha
  have HIN := hide hsm.2
  have hll := hsm.1
  have HC := hide hc
  clear hmo hm htm hsm hc ha hml
  obtain ⟨W, eW, gW, sW, hW⟩ := laid_rule w (.int .i64 kind) v (.string (bs bt)) (.string (bs mk)) (.int .i64 md) (.string (bs tg)) (.string (bs rp)) 24
  have HGW := hide gW
  have HW := hide hW
  clear gW hW
  subst hva
  go_enter Tryz.func65, Tryz.ntmps65
  go_wp2
  go_loopw [9, 21] (fun mv i wr => ∃ (k : Nat) (made : List Lab) (mo : Option Addr) (mc : Nat), k ≤ ls.length ∧ i = .int .i64 k ∧ mv = .slice mo made.length mc ∧ Hid (Stay w.heap.size (.slice lo ls.length lc) ls mv made wr) ∧ Hid (checkB made = 0) ∧ Hid (mapGo f made (ls.drop k) = R) ∧ Hid (Grow W wr)) (fun _ i _ => ls.length - (intOf i).toNat)
  case atStart => exact ⟨0, ls, lo, lc, by omega, rfl, rfl, hide (.inl ⟨rfl, rfl⟩), HC, HR, hide (Grow.refl _)⟩
  case round =>
    obtain ⟨k, made, mo, mc, hk, rfl, rfl, HS, HCM, HD, HG⟩ := hrel
    obtain ⟨b0, b1, b2, b3, b4, b5, b6⟩ := seven_cells (HG.out.get HW.out)
    by_cases hlt : k < ls.length
    · obtain ⟨lb, lo', rfl, hlB, c0, c1⟩ : ∃ b o, lo = some ⟨b, o, none⟩ ∧ b < w.heap.size ∧ w.cell? ⟨b, o + k * 2, none⟩ = some (.string (bs ls[k].1)) ∧ w.cell? ⟨b, o + k * 2 + 1, none⟩ = some (.string (bs ls[k].2)) := by
        obtain ⟨ao, cp, e, h⟩ := HA.out
        cases e
        exact h k hlt
      have hgw := HGW.out.trans HG.out
      have d0 := (hgw.cell (p := ⟨lb, lo' + k * 2, none⟩) hlB).trans c0
      have d1 := (hgw.cell (p := ⟨lb, lo' + k * 2 + 1, none⟩) hlB).trans c1
      clear c0 c1
      have hxs := HIN.out _ (List.getElem_mem hlt)
      have hdrop : mapGo f made (ls.drop k) = mapGo f made (ls[k] :: ls.drop (k + 1)) := by rw [List.drop_eq_getElem_cons hlt]
      obtain ⟨x, HX⟩ : ∃ x : Lab, Hid (ls[k] = x) := ⟨_, hide rfl⟩
      rw [HX.out] at d0 d1 hdrop hxs
      have hn40 : x.1.length ≤ 40 := hxs.1
      obtain ⟨W2, eW2, gW2, sW2, hW2⟩ := laid_lab wr (.string (bs x.1)) (.string (bs x.2)) 39
      have HG2 : Hid (Grow W W2) := hide (HG.out.trans gW2)
      have HS2 := hide (HS.out.grow gW2)
      obtain ⟨a0, a1⟩ := two_cells hW2
      obtain ⟨e0, e1, e2, e3, e4, e5, e6⟩ := seven_cells (HG2.out.get HW.out)
      have HL2 := hide hW2
      have HMX := hide (HMT.out W2 x.1 hn40)
      have HNX := hide (HNM.out x.1)
      have HDR := hide hdrop
      rw [HDR.out] at HD
      have HD2 : Hid ((match f x.1 with
        | none => mapGo f made (ls.drop (k + 1))
        | some n => if nameB n = true then (if withErr made n x.2 ≠ 0 then ([], withErr made n x.2) else mapGo f (withAns made n x.2) (ls.drop (k + 1))) else mapGo f made (ls.drop (k + 1))) = R) := HD
      clear hdrop HDR HD gW2 hW2 hgw b0 b1 b2 b3 b4 b5 b6 HMT HS
      cases hw : wayOf T x.1 with
      | none =>
        rw [hw] at HMX HNX
        simp only at HMX
        have hfx : f x.1 = none := HNX.out
        rw [hfx] at HD2
        simp only at HD2
        clear hw hfx
        go_wp2_with fail
        refine HMX.out.mono ?_
        rintro e w3 ⟨hg3, rfl⟩
        have HG3 : Hid (Grow W w3) := hide (HG2.out.trans hg3)
        have HS3 := hide (HS2.out.grow hg3)
        clear hg3 eW2
        go_wp2
        go_roundw
        case rel => exact ⟨k + 1, made, mo, mc, by omega, by go_num, rfl, HS3, HCM, HD2, HG3⟩
        case measure => simp [intOf]; omega
      | some l =>
        rw [hw] at HMX HNX
        simp only at HMX
        have hfx : f x.1 = some (valsT x.1 (tookL x.1 l g) tm) := HNX.out
        rw [hfx] at HD2
        simp only at HD2
        have hnl := HVL.out x.1 l hn40
        have HEXX := hide fun W vg => HEX.out W x.1 l vg hn40
        clear hw hfx HNX
        generalize valsT x.1 (tookL x.1 l g) tm = n at HD2 hnl HEXX
        generalize tookL x.1 l g = gs at HMX HEXX
        go_wp2_with fail
        refine HMX.out.mono ?_
        rintro e w3 ⟨hg3, vo, vc, rfl, hown⟩
        have HG3 : Hid (Grow W w3) := hide (HG2.out.trans hg3)
        have HS3 := hide (HS2.out.grow hg3)
        have HL3 := hide (hg3.get HL2.out)
        obtain ⟨a2, a3⟩ := two_cells HL3.out
        obtain ⟨b0, b1, b2, b3, b4, b5, b6⟩ := seven_cells (HG3.out.get HW.out)
        have HE3 := hide (HEXX.out w3 _ (readsStrs_own hown))
        clear hg3 eW2 hown a0 a1 e0 e1 e2 e3 e4 e5 e6
        go_wp2_with fail
        refine HE3.out.mono ?_
        rintro e w4 ⟨rfl, hg4⟩
        have HG4 : Hid (Grow W w4) := hide (HG3.out.trans hg4)
        have HS4 := hide (HS3.out.grow hg4)
        obtain ⟨a0, a1⟩ := two_cells (hg4.get HL3.out)
        clear hg4 a2 a3 b0 b1 b2 b3 b4 b5 b6
        cases hnb : nameB n with
        | false =>
          have HNB := hide hnb
          rw [HNB.out] at HD2
          simp only [Bool.false_eq_true, if_false] at HD2
          clear hnb
          go_wp2_with (go_at_call 49; refine (isName_any n _ (by unfold maxLen; omega)).mono ?_; rintro e w' ⟨rfl, rfl⟩; rw [HNB.out])
          go_roundw
          case rel => exact ⟨k + 1, made, mo, mc, by omega, by go_num, rfl, HS4, HCM, HD2, HG4⟩
          case measure => simp [intOf]; omega
        | true =>
          have HNB := hide hnb
          rw [HNB.out] at HD2
          simp only [if_true] at HD2
          clear hnb
          have hms := right_small HCM.out
          have HWI := hide (with_any w4 (.slice mo made.length mc) made n x.2 (HS4.out.reads HA.out (HGW.out.trans HG4.out)) (by omega) (fun y hy => by have := hms.2 y hy; omega) (by unfold maxLen; omega) (by unfold maxLen; omega))
          clear hms
          obtain ⟨we, HWE⟩ : ∃ we, Hid (withErr made n x.2 = we) := ⟨_, hide rfl⟩
          rw [HWE.out] at HWI HD2
          by_cases h0 : we = 0
          · have h0' : ((we : Int) != 0) = false := by simp [h0]
            rw [if_neg (by omega)] at HD2
            have HBP := hide (back_put (l := made) (n := n) (v := x.2) (by rw [HWE.out]; exact h0))
            have HWA : Hid (withAns made n x.2 = putB made n x.2) := hide (withAns_ok (by rw [HWE.out]; exact h0))
            rw [HWA.out] at HD2 HWI
            clear h0
            go_wp2_with (first | (go_at_call 49; refine (isName_any n _ (by unfold maxLen; omega)).mono ?_; rintro e w' ⟨rfl, rfl⟩; rw [HNB.out]) | (go_at_call 25; refine HWI.out.mono ?_; rintro e w5 ⟨v5, rfl, hown5, hg5⟩; obtain ⟨mo5, mc5, rfl⟩ := own_shape hown5))
            have HG5 : Hid (Grow W w5) := hide (HG4.out.trans hg5)
            have HO5 := hide (own_le hown5 (HGW.out.trans HG4.out).size)
            go_roundw
            case rel => exact ⟨k + 1, putB made n x.2, mo5, mc5, by omega, by go_num, rfl, hide (.inr HO5.out), hide HBP.out.2.1, HD2, HG5⟩
            case measure => simp [intOf]; omega
          · have h0' : ((we : Int) != 0) = true := by simp; exact h0
            rw [if_pos h0] at HD2
            have HNE := hide h0
            clear h0
            go_wp2_with (first | (go_at_call 49; refine (isName_any n _ (by unfold maxLen; omega)).mono ?_; rintro e w' ⟨rfl, rfl⟩; rw [HNB.out]) | (go_at_call 25; refine HWI.out.mono ?_; rintro e w5 ⟨v5, rfl, hown5, hg5⟩; obtain ⟨mo5, mc5, rfl⟩ := own_shape hown5))
            simp [bodyPost, results, Tryz.results65, go_sem]
            exact ⟨(HGW.out.trans HG4.out).trans hg5, MapPost.err (by rw [← HD2.out]) HNE.out⟩
    · have hR : R = (made, 0) := by
        rw [← HD.out, List.drop_eq_nil_of_le (by omega)]
        rfl
      have HRE := hide hR
      clear HD HR HNM HMT HEX HVL hR
      go_wp2
      simp [bodyPost, results, Tryz.results65, go_sem]
      exact ⟨HGW.out.trans HG.out, MapPost.ok HRE.out HS.out⟩
set_option maxRecDepth 20000 in
set_option maxHeartbeats 4000000 in
theorem lose_any (w : World) (r : Rul) (v va : Value) (ls : List Lab) (src : List UInt8) {T : Tr} {g : Nat} (hm : maskIs r.mask = .ok (T, g)) (hc : checkB ls = 0) (ha : readsLabels w w.heap.size va ls) :
    Calls Tryz.prog 66 #[ruleV r v, va, .string (bs src)] w fun e w' => ∃ v', e = .returned (.tuple #[v', .bool true, .int .i64 0]) ∧ ownLabels w' w.heap.size v' (ls.filter fun x => !likeR T x.1) ∧ Grow w w' := by
  have hsm := right_small hc
  obtain ⟨W, eW, gW, sW, hW⟩ := laid_rule w (.int .i64 r.kind) v (.string (bs r.between)) (.string (bs r.mask)) (.int .i64 r.modulus) (.string (bs r.target)) (.string (bs r.repl)) 24
  have HGW := hide gW
  have HT := hide (thoseLose_any W va ls w.heap.size (fun n => !likeR T n) (readsLabels_mono (readsLabels_below ha gW) gW.size) (by omega) (fun W2 hg2 x hx => loseTest_any W2 w.heap.size r v x.1 (hg2.get hW) hm (by have := (hsm.2 x hx).1; omega)))
  obtain ⟨lo, lc, rfl⟩ := readsLabels_len ha
  unfold ruleV
  clear gW hW ha hm hc hsm
  go_enter Tryz.func66, Tryz.ntmps66
  go_wp2_with fail
  refine HT.out.mono ?_
  rintro e w1 ⟨v', rfl, hown, hg1⟩
  obtain ⟨ao, cp, rfl⟩ := own_shape hown
  have HO := hide (own_le hown HGW.out.size)
  have HG1 := hide hg1
  clear hown hg1
  go_wp2
  simp [bodyPost, results, Tryz.results66, go_sem]
  exact ⟨HO.out, HGW.out.trans HG1.out⟩
set_option maxRecDepth 20000 in
set_option maxHeartbeats 4000000 in
theorem hold_any (w : World) (r : Rul) (v va : Value) (ls : List Lab) (src : List UInt8) {T : Tr} {g : Nat} (hm : maskIs r.mask = .ok (T, g)) (hc : checkB ls = 0) (ha : readsLabels w w.heap.size va ls) :
    Calls Tryz.prog 69 #[ruleV r v, va, .string (bs src)] w fun e w' => ∃ v', e = .returned (.tuple #[v', .bool true, .int .i64 0]) ∧ ownLabels w' w.heap.size v' (ls.filter fun x => likeR T x.1) ∧ Grow w w' := by
  have hsm := right_small hc
  obtain ⟨W, eW, gW, sW, hW⟩ := laid_rule w (.int .i64 r.kind) v (.string (bs r.between)) (.string (bs r.mask)) (.int .i64 r.modulus) (.string (bs r.target)) (.string (bs r.repl)) 24
  have HGW := hide gW
  have HT := hide (thoseHold_any W va ls w.heap.size (fun n => likeR T n) (readsLabels_mono (readsLabels_below ha gW) gW.size) (by omega) (fun W2 hg2 x hx => holdTest_any W2 w.heap.size r v x.1 (hg2.get hW) hm (by have := (hsm.2 x hx).1; omega)))
  obtain ⟨lo, lc, rfl⟩ := readsLabels_len ha
  unfold ruleV
  clear gW hW ha hm hc hsm
  go_enter Tryz.func69, Tryz.ntmps69
  go_wp2_with fail
  refine HT.out.mono ?_
  rintro e w1 ⟨v', rfl, hown, hg1⟩
  obtain ⟨ao, cp, rfl⟩ := own_shape hown
  have HO := hide (own_le hown HGW.out.size)
  have HG1 := hide hg1
  clear hown hg1
  go_wp2
  simp [bodyPost, results, Tryz.results69, go_sem]
  exact ⟨HO.out, HGW.out.trans HG1.out⟩
end Go.Proofs.YtndpjdmfkhjiiaaGreatDoor.Rl
