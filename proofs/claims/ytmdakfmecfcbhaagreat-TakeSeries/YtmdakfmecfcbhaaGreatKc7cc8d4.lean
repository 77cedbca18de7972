/- 1 texts in one. -/
import Derived.Laws.OwnMore
import Derived.Test.YtmdakfmecfcbhaaGreatProg
import Derived.Test.YtmdakfmecfcbhaaGreatK7e06493
import Derived.Test.YtmdakfmecfcbhaaGreatK658df2a
import Derived.Test.YtmdakfmecfcbhaaGreatKe26850f
import Derived.Test.YtmdakfmecfcbhaaGreatK3cde4cc
import Derived.Test.YtmdakfmecfcbhaaGreatK81db387
import Derived.Test.YtmdakfmecfcbhaaGreatK14d8a0b
import Derived.Test.YtmdakfmecfcbhaaGreatKf7a2202
import Derived.BigQuiet
set_option linter.unusedVariables false
set_option linter.unusedSimpArgs false
namespace Go.Proofs.YtmdakfmecfcbhaaGreat.Tk
open Go.RowKit
attribute [local go_sem] bs_size bs_toList bs_append bs_get bs_extract
theorem readsNone (w : World) : readsSer w w.heap.size (.slice none 0 0) [] := ⟨none, 0, rfl, Nat.le_refl _, fun i h => by simp at h⟩
theorem okNone : okStore [] := ⟨by simp, fun x hx => by simp at hx⟩
theorem errNone : storeErr [] = 0 := by decide +kernel
theorem manyNone : manyB [] = false := by decide +kernel
theorem readNone : readErr [] = 0 := by decide +kernel
theorem allNone : allRead [] = some [] := by
  have h : fieldsOk allOk [] = true := by decide +kernel
  unfold allRead
  rw [if_pos h]
  have h2 : (fields []).1 = [] := by rw [fields]; rfl
  rw [h2]
  rfl
set_option maxRecDepth 20000 in
set_option maxHeartbeats 1000000 in
theorem copiedNone_any (w : World) : Calls Tryz.prog 28 #[.slice none 0 0] w fun e w' => e = .returned (.slice none 0 0) ∧ Grow w w' := by
  go_enter Tryz.func28, Tryz.ntmps28
  go_wp2
  go_loopw [3, 10] (fun sv iv wr => sv = .slice none 0 0 ∧ iv = .int .i64 0 ∧ Hid (Grow w wr)) (fun _ _ _ => 0)
  case atStart => exact ⟨rfl, rfl, hide (Grow.refl _)⟩
  case round =>
    obtain ⟨rfl, rfl, HG⟩ := hrel
    go_wp2
    go_ret
    exact ⟨rfl, HG.out⟩
set_option maxRecDepth 20000 in
set_option maxHeartbeats 1000000 in
theorem sentNone_any (w : World) (T : List UInt8) (hT : T.length ≤ 140737488355328) (hu : unpackB T 20000 = (0, [])) :
    Calls Tryz.prog 29 #[.string (bs T)] w fun e w' => ∃ ao cp, e = .returned (.tuple #[.slice ao 0 cp, .bool true]) ∧ Grow w w' := by
  have HU := unpack_any w T 20000 hT (by decide) (by decide)
  rw [hu] at HU
  replace HU := hide HU
  go_enter Tryz.func29, Tryz.ntmps29
  go_wp2_with fail
  refine HU.out.mono ?_
  rintro e w1 ⟨rfl, hg1⟩
  have HG1 : Hid (Grow w w1) := hide hg1
  have HR := hide (read_any w1 [] (by simp))
  clear hg1 HU
  go_wp2_with fail
  refine HR.out.mono ?_
  rintro e w2 ⟨hg2, (⟨_, x, v, hx, rfl, hown⟩ | ⟨hne, _⟩)⟩
  · rw [allNone] at hx
    obtain rfl := Option.some.inj hx
    have HG2 : Hid (Grow w w2) := hide (HG1.out.trans hg2)
    obtain ⟨_, _, ho, _⟩ := hown
    obtain ⟨ao, cp, rfl⟩ := own_shape ho
    clear hg2 ho HR
    simp only [List.length_nil]
    go_wp2
    go_loopw [25] (fun iv wr => iv = .int .i64 0 ∧ Hid (Grow w wr)) (fun _ _ => 0)
    case atStart => exact ⟨rfl, HG2⟩
    case round =>
      obtain ⟨rfl, HG⟩ := hrel
      go_wp2
      go_ret2
      exact ⟨ao, cp, rfl, HG.out⟩
  · exact absurd readNone hne
set_option maxRecDepth 20000 in
set_option maxHeartbeats 1000000 in
theorem takeNone_any (w : World) (T : List UInt8) (hT : T.length ≤ 140737488355328) (hu : unpackB T 20000 = (0, [])) :
    Calls Tryz.prog 11 #[.slice none 0 0, .string (bs T)] w fun e w' => e = .returned (.tuple #[.slice none 0 0, .int .i64 200, .int .i64 0]) ∧ Grow w w' := by
  have HC := tcheck_any w (.slice none 0 0) [] (readsNone w) okNone
  rw [errNone] at HC
  replace HC := hide HC
  have HS : Hid (∀ W, Calls Tryz.prog 29 #[.string (bs T)] W fun e w' => ∃ ao cp, e = .returned (.tuple #[.slice ao 0 cp, .bool true]) ∧ Grow W w') := hide fun W => sentNone_any W T hT hu
  clear hT hu
  go_enter Tryz.func11, Tryz.ntmps11
  go_wp2_with fail
  refine HC.out.mono ?_
  rintro e w1 ⟨rfl, hg1⟩
  have HG1 : Hid (Grow w w1) := hide hg1
  clear hg1 HC
  go_wp2_with fail
  refine (copiedNone_any w1).mono ?_
  rintro e w2 ⟨rfl, hg2⟩
  have HG2 : Hid (Grow w w2) := hide (HG1.out.trans hg2)
  clear hg2
  go_wp2_with fail
  refine (HS.out w2).mono ?_
  rintro e w3 ⟨ao, cp, rfl, hg3⟩
  have HG3 : Hid (Grow w w3) := hide (HG2.out.trans hg3)
  clear hg3 HS
  go_wp2
  go_loopw [8, 30] (fun sv iv wr => sv = .slice none 0 0 ∧ iv = .int .i64 0 ∧ Hid (Grow w wr)) (fun _ _ _ => 0)
  case atStart => exact ⟨rfl, rfl, HG3⟩
  case round =>
    obtain ⟨rfl, rfl, HG⟩ := hrel
    have HM := tooMany_any wr (.slice none 0 0) [] (readsNone wr) (by simp)
    rw [manyNone] at HM
    replace HM := hide HM
    go_wp2_with fail
    refine HM.out.mono ?_
    rintro e w4 ⟨rfl, hg4⟩
    have HG4 : Hid (Grow w w4) := hide (HG.out.trans hg4)
    clear hg4 HM
    go_wp2
    go_ret3
    exact ⟨rfl, HG4.out⟩
set_option maxRecDepth 20000 in
set_option maxHeartbeats 1000000 in
theorem takeBegun_any (w : World) : Calls Tryz.prog 8 #[] w fun e w' => e = .returned (.bool true) ∧ Grow w w' := by
  go_enter Tryz.func8, Tryz.ntmps8
  go_wp2_with fail
  refine (pack_any w [] (by simp)).mono ?_
  rintro e w1 ⟨hg1, (⟨_, E, hE, rfl⟩ | ⟨h, _⟩)⟩
  · have hu := packs_unpack hE (by simp) 20000 (by simp) (by omega)
    have hl : (numB ([] : List UInt8).length ++ E).length ≤ 140737488355328 := by
      have h2 := hE.2.1
      have := numB_length ([] : List UInt8).length
      rw [List.length_append]
      simp only [List.length_nil] at h2
      omega
    have HG1 : Hid (Grow w w1) := hide hg1
    obtain ⟨t, HT⟩ : ∃ t, Hid (numB ([] : List UInt8).length ++ E = t) := ⟨_, hide rfl⟩
    rw [HT.out] at hu hl ⊢
    have HTK := hide (takeNone_any w1 t hl hu)
    clear hE hg1 hu hl
    go_wp2_with fail
    refine HTK.out.mono ?_
    rintro e w2 ⟨rfl, hg2⟩
    have HG2 : Hid (Grow w w2) := hide (HG1.out.trans hg2)
    clear hg2 HTK
    go_wp2
    go_ret
    exact ⟨rfl, HG2.out⟩
  · simp at h
end Go.Proofs.YtmdakfmecfcbhaaGreat.Tk
