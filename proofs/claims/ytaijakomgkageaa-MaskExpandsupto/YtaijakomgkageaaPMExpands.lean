/- MaskExpands, for every template, whole and groups that together hold at most 1048576 values and letters: Expand answers what the document's own reader of templates makes of them, errors too. (Without that bound it is false: a template of 2^44 letters asks the document's own reader for a list beyond 2^48 bytes.) -/
import Derived.Test.YtaijakomgkageaaRows
import Derived.Test.YtaijakomgkageaaKit
import Derived.Test.YtaijakomgkageaaTrod
import Derived.Test.YtaijakomgkageaaOpn
import Derived.Test.YtaijakomgkageaaUpt
import Derived.Test.YtaijakomgkageaaMWlk
import Derived.Test.YtaijakomgkageaaMFrom
import Derived.Test.YtaijakomgkageaaMGrp
import Derived.Test.YtaijakomgkageaaMMat
import Derived.Test.YtaijakomgkageaaMExq
import Derived.Test.YtaijakomgkageaaMTem
import Derived.Test.YtaijakomgkageaaMTeR
import Derived.Test.YtaijakomgkageaaMTeX
import Derived.Test.YtaijakomgkageaaMBeg
import Derived.ProofKit
import Derived.OpenShut
import Derived.JoinedCond
import Derived.BigQuiet
import Derived.BigFrame
set_option linter.unusedVariables false
set_option linter.unusedSimpArgs false
namespace Go.Proofs.Ytaijakomgkageaa
open Go.ChangeShapes Go.WideShapes Go.ChangeAt Go.RowKit
open Go.ChangeMaps (open_string shut_string)
attribute [local go_sem] bs_size bs_toList bs_append bs_get bs_extract

theorem tmR_is : ∀ {f : Nat} {t : List UInt8} {l : List (List UInt8 × Int)}, tmR f t = some l → l.length ≤ t.length ∧ ∀ x ∈ l, x.1.length ≤ 1 := by
  intro f
  induction f with
  | zero =>
    intro t l h
    cases t with
    | nil => cases h; exact ⟨Nat.le_refl _, fun x hx => by simp at hx⟩
    | cons c t => cases h
  | succ f ih =>
    intro t l h
    cases t with
    | nil => cases h; exact ⟨Nat.le_refl _, fun x hx => by simp at hx⟩
    | cons c t =>
      have key : ∀ (r : List UInt8) (x : List UInt8 × Int), x.1.length ≤ 1 → r.length ≤ t.length → (tmR f r).map (x :: ·) = some l → l.length ≤ (c :: t).length ∧ ∀ y ∈ l, y.1.length ≤ 1 := by
        intro r x hx hr hm
        cases hq : tmR f r with
        | none => rw [hq] at hm; cases hm
        | some l2 =>
          rw [hq] at hm
          cases hm
          obtain ⟨h1, h2⟩ := ih hq
          refine ⟨by simp; omega, fun y hy => ?_⟩
          rcases List.mem_cons.1 hy with rfl | hy
          · exact hx
          · exact h2 y hy
      rw [tmR] at h
      split at h
      · exact key _ _ (by simp) (Nat.le_refl _) h
      · split at h
        · exact key _ _ (by simp) (by simp) h
        · split at h
          · exact key _ _ (by simp) (by simp) h
          · split at h
            · exact key _ _ (by simp) (by simp) h
            · cases h
theorem valT_len {whole : List UInt8} {gs : List (List UInt8)} {x : List UInt8 × Int} (hw : whole.length ≤ 2000000) (hg : ∀ s ∈ gs, s.length ≤ 2000000) (hx : x.1.length ≤ 1) : (valT whole gs x).length ≤ 2000000 := by
  unfold valT
  split
  · exact hw
  · split
    · rw [List.getD_eq_getElem?_getD]
      cases hq : gs[x.2.toNat - 1]? with
      | none => simp
      | some s => exact hg s (List.mem_of_getElem? hq)
    · omega
theorem valsT_len {whole : List UInt8} {gs : List (List UInt8)} : ∀ {l : List (List UInt8 × Int)}, (∀ x ∈ l, (valT whole gs x).length ≤ 2000000) → (valsT whole gs l).length ≤ 2000000 * l.length
  | [], _ => by simp [valsT]
  | x :: l, h => by
    have h1 := h x (by simp)
    have h2 := valsT_len fun y hy => h y (List.mem_cons_of_mem _ hy)
    rw [valsT_cons, List.length_append, List.length_cons]
    omega

set_option maxRecDepth 20000 in
set_option maxHeartbeats 4000000 in
theorem maskExpands_any (w : World) (t : List UInt8) (ht : t.length ≤ 1048576) (whole : List UInt8) (hwl : whole.length ≤ 1048576) (v : Value) (gs : List (List UInt8)) (hv : readsStrs w w.heap.size v gs) (hgl : gs.length ≤ 1048576) (hgs : ∀ y ∈ gs, y.length ≤ 1048576) :
    Calls Try.prog 5 #[.string (bs t), .string (bs whole), v] w fun e w' => e = .returned (.bool true) ∧ Below w.heap.size w w' := by
  have HV := hide hv
  obtain ⟨ao, cp, rfl, _⟩ := hv
  have HGS := hide hgs
  clear hgs
  have hte : (tmAt t 0).map (valsT whole gs) = exP whole gs t.length t := tm_ex whole gs t.length t t.length (Nat.le_refl _) (Nat.le_refl _)
  obtain ⟨N, HN⟩ : ∃ N, Hid (tmAt t 0 = N) := ⟨_, hide rfl⟩
  rw [HN.out] at hte
  have HX := hide (expand_any t whole gs _ w (by omega) (by omega) (by omega) (fun s hs => by have := HGS.out s hs; omega) HV.out)
  have HT : Hid (∀ W, Calls Try.prog 16 #[.string (bs t)] W (tpost W N)) := hide fun W => by rw [← HN.out]; exact template_any t W (by omega)
  cases N with
  | none =>
    have hans : exAns t whole gs = ([], 1) := by unfold exAns; rw [← hte]; rfl
    rw [hans] at HX
    clear hte hans
    go_enter Try.func5, Try.ntmps5
    go_wp2_with fail
    refine HX.out.mono ?_
    rintro e w1 ⟨rfl, hg1⟩
    have HG1 := hide hg1
    clear hg1
    go_wp2_with fail
    refine (HT.out w1).mono ?_
    rintro e w2 ⟨v1, v2, b, rfl, hg2, rfl⟩
    have HG2 : Hid (Grow w w2) := hide (HG1.out.trans hg2)
    clear hg2
    go_wp2_with fail
    refine (maskBegun_any w2).mono ?_
    rintro e w3 ⟨rfl, hg3⟩
    have HG3 : Hid (Grow w w3) := hide (HG2.out.trans hg3)
    clear hg3
    go_wp2_with fail
    refine (utextIs_any w3 [] [] 1 (.inl ⟨by decide, rfl⟩)).mono ?_
    rintro e w4 ⟨rfl, rfl⟩
    go_wp2
    go_ret
    exact ⟨rfl, HG3.out⟩
  | some l =>
    obtain ⟨hll, hl1⟩ := tmR_is HN.out
    rw [List.drop_zero] at hll
    have HXL : Hid (∀ x ∈ l, (valT whole gs x).length ≤ 2000000) := hide fun x hx => valT_len (by omega) (fun s hs => by have := HGS.out s hs; omega) (hl1 x hx)
    have htot := valsT_len HXL.out
    have HO : Hid (∀ W, Grow w W → Calls Try.prog 17 #[.string (bs t), .string (bs whole), .slice ao gs.length cp, .int .i64 20000] W fun e w' => e = .returned (.tuple #[.string (bs ((valsT whole gs l).take 20000)), .int .i64 ((valsT whole gs l).length : Nat)]) ∧ Grow W w') := hide fun W hg =>
      expandOf_any t whole gs _ W 20000 l (by omega) HN.out (by omega) (by omega) (fun s hs => by have := HGS.out s hs; omega) (by omega) ((HV.out.keep hg).more hg.size) (by omega) HXL.out fun k => by
        have h := valsT_len (l := l.take k) fun x hx => HXL.out x (List.mem_of_mem_take hx)
        rw [List.length_take] at h
        have : 2000000 * min k l.length ≤ 2000000 * k := Nat.mul_le_mul_left _ (Nat.min_le_left _ _)
        omega
    obtain ⟨V, HVV⟩ : ∃ V, Hid (valsT whole gs l = V) := ⟨_, hide rfl⟩
    rw [HVV.out] at HO htot
    have hte2 : exP whole gs t.length t = some V := by rw [← hte, ← HVV.out]; rfl
    by_cases hbig : 20000 < V.length
    · have hbi : (20000 : Int) < (V.length : Int) := by omega
      have hans : exAns t whole gs = ([], 2) := by unfold exAns; rw [hte2]; simp [hbig]
      rw [hans] at HX
      clear hte hte2 hans hbig
      go_enter Try.func5, Try.ntmps5
      go_wp2_with fail
      refine HX.out.mono ?_
      rintro e w1 ⟨rfl, hg1⟩
      have HG1 := hide hg1
      clear hg1
      go_wp2_with fail
      refine (HT.out w1).mono ?_
      rintro e w2 ⟨v1, v2, b, rfl, hg2, rfl, _⟩
      have HG2 : Hid (Grow w w2) := hide (HG1.out.trans hg2)
      clear hg2
      go_wp2_with fail
      refine (HO.out w2 HG2.out).mono ?_
      rintro e w3 ⟨rfl, hg3⟩
      have HG3 : Hid (Grow w w3) := hide (HG2.out.trans hg3)
      clear hg3
      go_wp2_with fail
      refine (maskBegun_any w3).mono ?_
      rintro e w4 ⟨rfl, hg4⟩
      have HG4 : Hid (Grow w w4) := hide (HG3.out.trans hg4)
      clear hg4
      go_wp2_with fail
      refine (utextIs_any w4 [] _ 2 (.inl ⟨by decide, rfl⟩)).mono ?_
      rintro e w5 ⟨rfl, rfl⟩
      go_wp2
      go_ret
      exact ⟨rfl, HG4.out⟩
    · have hbi : ¬ (20000 : Int) < (V.length : Int) := by omega
      have hans : exAns t whole gs = (V, 0) := by unfold exAns; rw [hte2]; simp [hbig]
      rw [hans] at HX
      rw [List.take_of_length_le (by omega)] at HO
      clear hte hte2 hans hbig
      go_enter Try.func5, Try.ntmps5
      go_wp2_with fail
      refine HX.out.mono ?_
      rintro e w1 ⟨rfl, hg1⟩
      have HG1 := hide hg1
      clear hg1
      go_wp2_with fail
      refine (HT.out w1).mono ?_
      rintro e w2 ⟨v1, v2, b, rfl, hg2, rfl, _⟩
      have HG2 : Hid (Grow w w2) := hide (HG1.out.trans hg2)
      clear hg2
      go_wp2_with fail
      refine (HO.out w2 HG2.out).mono ?_
      rintro e w3 ⟨rfl, hg3⟩
      have HG3 : Hid (Grow w w3) := hide (HG2.out.trans hg3)
      clear hg3
      go_wp2_with fail
      refine (maskBegun_any w3).mono ?_
      rintro e w4 ⟨rfl, hg4⟩
      have HG4 : Hid (Grow w w4) := hide (HG3.out.trans hg4)
      clear hg4
      go_wp2_with fail
      refine (utextIs_any w4 V V 0 (.inr ⟨rfl, rfl⟩)).mono ?_
      rintro e w5 ⟨rfl, rfl⟩
      go_wp2
      go_ret
      exact ⟨rfl, HG4.out⟩


theorem Try.own : ownKnob Try.prog.godebug = none := by kernel_rfl
theorem Try.laidOut : laidOutB Try.prog = true := by kernel_rfl

set_option maxRecDepth 100000 in
theorem maskExpands_lifted (os : Os) (started : os.Started) (H : Type) (enc : TypeId × Value → H) (F : Stop.Interp) :
    ReturnsInHanded {} Try.checked os 5 .any ((Rows.OpenSpec.upto Rows.maskExpandsSpec).pre6 enc Try.prog Try.f5 Rows.maskExpandsUptoRow.domain false) (((Rows.OpenSpec.upto Rows.maskExpandsSpec).at F).post enc Try.prog Try.f5 false true false false) := by
  refine returnsInHanded_of_cond (C := Try.checked) (s := Rows.OpenSpec.upto Rows.maskExpandsSpec) (k := Rows.uptoSmall) rfl Try.own started (by kernel_rfl) Try.func5
    (OpenSpec.witness (enc := enc) (C := Try.checked) (s := Rows.OpenSpec.upto Rows.maskExpandsSpec) (k := Rows.uptoSmall) rfl false ⟨#[], #[.string ByteArray.empty, .string ByteArray.empty, .slice none 0 0], []⟩ 8 (by kernel_rfl) (by kernel_rfl) (by kernel_rfl)
      (x := ([.lit (.string []), .lit (.string []), .nil], [], [])) (by kernel_rfl) rfl (by kernel_rfl)) ?_
  intro W base args ds gs before hval0 hW hcnd hbk0 _
  have hval : ∀ (j : Nat) t v, Try.f5.params[j]? = some t → args[j]? = some v → Value.okWide Try.prog W .any base t v := hval0
  have hW' := hW
  obtain ⟨p, q, hA0, hV, rfl, hfz, hnd⟩ := hW
  have hA : DataW.TrodAll enc Try.prog W 0 (fun _ => true) true Try.f5.params.toList args.toList ds p := hA0
  rw [Try.params5] at hA hval
  obtain ⟨v0, v1, v2, d0, d1, d2, p0, p1, p2, rfl, rfl, rfl, h0, h1, h2⟩ := trodAll_three hA
  obtain ⟨rfl, rfl⟩ := trodVars_none hV
  obtain ⟨s0, rfl, rfl, rfl, hs0⟩ := open_string Try.underlying9 (hval 0 9 v0 rfl rfl) h0
  obtain ⟨s1, rfl, rfl, rfl, hs1⟩ := open_string Try.underlying9 (hval 1 9 v1 rfl rfl) h1
  have hk2 := h2
  obtain ⟨a2, len2, cap2, rfl⟩ := okWide_slice Try.underlying32 (hval 2 32 v2 rfl rfl)
  obtain ⟨fuel2, hf2⟩ := h2
  obtain ⟨ls2, hr2, hl2, hi2⟩ := open_textsU hf2
  clear hA0 hval0
  simp only [List.append_nil, List.nil_append] at hW'
  have hlt := fun x hx => hW'.lt x hx
  have hbk1 := bulk_bound hbk0
  have hbk : ∀ n, n ≤ Rows.uptoBulkAll _ → n ≤ 1048576 := fun n hn => Nat.le_trans hn hbk1
  have hc := maskExpands_any W s0.data.toList (by have := hbk s0.data.toList.length (by simp [Rows.uptoBulkAll, bulk_text]; omega); omega) s1.data.toList (by have := hbk s1.data.toList.length (by simp [Rows.uptoBulkAll, bulk_text]; omega); omega) _ ls2 hr2 (Nat.le_trans hl2 (hbk (Rows.uptoBulk d2) (by simp [Rows.uptoBulkAll]; omega))) (fun y hy => Nat.le_trans (hi2 y hy) (hbk (Rows.uptoBulk d2) (by simp [Rows.uptoBulkAll]; omega)))
  rw [← bs_surj, ← bs_surj] at hc
  refine hc.mono fun e W' ⟨he, hnx⟩ => ?_
  subst he
  refine ⟨_, rfl, ?_⟩
  show Rows.maskExpandsSpec.post enc Try.prog Try.f5 false true false false W _ _ W'
  refine ⟨_, _, _, [], (p2), [], hW', ?_, ?_, rfl, hnx.frame _, fun h => by cases h⟩
  · exact trodAll_mk1 (shut_bool Try.underlying4 _)
  · exact trodAll_eq (trodAll_mk3 (shut_string Try.underlying9 hs0) (shut_string Try.underlying9 hs1) (Below.trod Try.laidOut (by kernel_rfl) (of_decide_eq_true (by kernel_rfl)) hk2 hnx (fun x hx => hlt x (by simp [hx])))) (by simp)

theorem maskExpands_holds : Rows.MaskExpandsUptoSaid :=
  OpenClaim.holds_of_cond 5 Try.f5 rfl rfl rfl rfl rfl rfl rfl ⟨rfl, rfl, rfl, rfl, rfl⟩ rfl rfl rfl rfl rfl (by kernel_rfl) Try.func5 (by kernel_rfl)
    (of_decide_eq_true (by kernel_rfl)) (by unfold Func.isWrapper; first | (rw [if_pos (by decide +kernel)]; kernel_rfl) | (rw [if_neg (by decide +kernel)]; exact ⟨rfl, rfl⟩))
    (fun os started H enc _ F => maskExpands_lifted os started H enc F)

end Go.Proofs.Ytaijakomgkageaa
