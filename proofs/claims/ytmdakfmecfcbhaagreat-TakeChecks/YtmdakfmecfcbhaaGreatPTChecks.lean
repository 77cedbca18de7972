/- TakeChecks, for every store: Check answers what the document says. No condition. -/
import Derived.Test.YtmdakfmecfcbhaaGreatRows
import Derived.Test.YtmdakfmecfcbhaaGreatKit
import Derived.Test.YtmdakfmecfcbhaaGreatTrod
import Derived.Test.YtmdakfmecfcbhaaGreatTkO
import Derived.Test.YtmdakfmecfcbhaaGreatTkD
import Derived.Test.YtmdakfmecfcbhaaGreatTkE
import Derived.ProofKit
import Derived.BigQuiet
import Derived.BigFrame
set_option linter.unusedVariables false
set_option linter.unusedSimpArgs false
namespace Go.Proofs.YtmdakfmecfcbhaaGreat
open Go.ChangeShapes Go.WideShapes Go.ChangeAt Go.RowKit
open Go.ChangeMaps (open_string shut_string)
attribute [local go_sem] bs_size bs_toList bs_append bs_get bs_extract

set_option maxRecDepth 20000 in
set_option maxHeartbeats 1000000 in
theorem takeChecks_any (w : World) (v : Value) (l : List Tk.Ser) (hv : Tk.readsSer w w.heap.size v l) (hok : Tk.okStore l) :
    Calls Tryz.prog 3 #[v] w fun e w' => e = .returned (.bool true) ∧ Below w.heap.size w w' := by
  have HV := hide hv
  have HOK := hide hok
  have HTC : Hid (∀ W, Grow w W → Calls Tryz.prog 9 #[v] W fun e w' => e = .returned (.int .i64 (Tk.storeErr l)) ∧ Grow W w') := hide fun W g => Tk.tcheck_any W v l ((HV.out.keep g).more g.size) HOK.out
  have HRC : Hid (∀ W, Grow w W → Calls Tryz.prog 10 #[v] W fun e w' => e = .returned (.int .i64 (Tk.storeErr l)) ∧ Grow W w') := hide fun W g => Tk.rStore_any W v l ((HV.out.keep g).more g.size) HOK.out
  obtain ⟨ao, cp, hvv, -, -⟩ := id hv
  subst hvv
  clear hv hok
  go_enter Tryz.func3, Tryz.ntmps3
  go_wp2_with fail
  refine (Tk.takeBegun_any w).mono ?_
  rintro e w1 ⟨rfl, hg1⟩
  have HG1 : Hid (Grow w w1) := hide hg1
  have H1 := hide (HTC.out w1 hg1)
  clear hg1
  go_wp2_with fail
  refine H1.out.mono ?_
  rintro e w2 ⟨rfl, hg2⟩
  have HG2 : Hid (Grow w w2) := hide (HG1.out.trans hg2)
  have H2 := hide (HRC.out w2 HG2.out)
  clear hg2 H1
  go_wp2_with fail
  refine H2.out.mono ?_
  rintro e w3 ⟨rfl, hg3⟩
  have HG3 : Hid (Grow w w3) := hide (HG2.out.trans hg3)
  clear hg3 H2
  go_wp2
  go_ret
  exact ⟨ret_bool (by simp), HG3.out⟩

theorem Tryz.own : ownKnob Tryz.prog.godebug = none := by kernel_rfl
theorem Tryz.laidOut : laidOutB Tryz.prog = true := by kernel_rfl

set_option maxRecDepth 100000 in
theorem takeChecks_lifted (os : Os) (started : os.Started) (H : Type) (enc : TypeId × Value → H) :
    ReturnsInHanded {} Tryz.checked os 3 .any (Rows.takeChecksSpec.pre6 enc Tryz.prog Tryz.f3 Rows.takeChecksRow.domain false) (Rows.takeChecksSpec.post enc Tryz.prog Tryz.f3 false true false false) := by
  refine returnsInHanded_of_change (C := Tryz.checked) Tryz.own started (by kernel_rfl) Tryz.func3
    (ChangeSpec.witness6 (enc := enc) (C := Tryz.checked) false ⟨#[], #[.slice none 0 0], []⟩ 8 (by kernel_rfl) (by kernel_rfl) (by kernel_rfl) (by kernel_rfl)) ?_
  intro W base args ds gs before hval0 hW hcnd _
  have hval : ∀ (j : Nat) t v, Tryz.f3.params[j]? = some t → args[j]? = some v → Value.okWide Tryz.prog W .any base t v := hval0
  have hW' := hW
  obtain ⟨p, q, hA0, hV, rfl, hfz, hnd⟩ := hW
  have hA : DataW.TrodAll enc Tryz.prog W 0 (fun _ => true) true Tryz.f3.params.toList args.toList ds p := hA0
  rw [Tryz.params3] at hA hval
  obtain ⟨v0, d0, rfl, rfl, h0⟩ := trodAll_one hA
  obtain ⟨rfl, rfl⟩ := trodVars_none hV
  have hk0 := h0
  obtain ⟨a0, len0, cap0, rfl⟩ := okWide_slice Tryz.underlying22 (hval 0 22 v0 rfl rfl)
  obtain ⟨fuel0, hf0⟩ := h0
  obtain ⟨ls0, hr0, ho0⟩ := Tk.open_store hf0
  clear hA0 hval0
  simp only [List.append_nil, List.nil_append] at hW'
  have hlt := fun x hx => hW'.lt x hx
  have hc := takeChecks_any W _ ls0 hr0 ho0
  refine hc.mono fun e W' ⟨he, hnx⟩ => ?_
  subst he
  refine ⟨_, rfl, _, _, _, [], (p), [], hW', ?_, ?_, rfl, hnx.frame _, fun h => by cases h⟩
  · exact trodAll_mk1 (shut_bool Tryz.underlying4 _)
  · exact trodAll_eq (trodAll_mk1 (Below.trod Tryz.laidOut (by kernel_rfl) (of_decide_eq_true (by kernel_rfl)) hk0 hnx (fun x hx => hlt x (by simp [hx])))) (by simp)

theorem takeChecks_holds : Rows.TakeChecksSaid :=
  OpenClaim.holds_of_wide 3 Tryz.f3 rfl rfl rfl rfl rfl rfl rfl ⟨rfl, rfl, rfl, rfl, rfl⟩ rfl rfl rfl rfl rfl (by kernel_rfl) Tryz.func3 (by kernel_rfl)
    (of_decide_eq_true (by kernel_rfl)) (by unfold Func.isWrapper; first | (rw [if_pos (by decide +kernel)]; kernel_rfl) | (rw [if_neg (by decide +kernel)]; exact ⟨rfl, rfl⟩))
    (fun os started H enc _ => takeChecks_lifted os started H enc)

end Go.Proofs.YtmdakfmecfcbhaaGreat
