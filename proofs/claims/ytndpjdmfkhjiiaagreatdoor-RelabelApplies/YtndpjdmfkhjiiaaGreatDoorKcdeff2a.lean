/- 1 texts in one. -/
import Derived.Test.YtndpjdmfkhjiiaaGreatDoorProg
import Derived.Test.YtndpjdmfkhjiiaaGreatDoorK06d19db
import Derived.Test.YtndpjdmfkhjiiaaGreatDoorK5b78f3b
import Derived.Test.YtndpjdmfkhjiiaaGreatDoorK9cdf455
import Derived.Test.YtndpjdmfkhjiiaaGreatDoorK8271320
import Derived.Test.YtndpjdmfkhjiiaaGreatDoorK8732687
import Derived.BigFrame
set_option linter.unusedVariables false
set_option linter.unusedSimpArgs false
namespace Go.Proofs.YtndpjdmfkhjiiaaGreatDoor.Rl
open Go.RowKit Lb
attribute [local go_sem] bs_size bs_toList bs_append bs_get bs_extract
set_option maxRecDepth 20000 in
set_option maxHeartbeats 4000000 in
theorem lose_any (w : World) (r : Rul) (v va : Value) (ls : List Lab) (src : List UInt8) {T : Tr} {g : Nat} (hm : maskIs r.mask = .ok (T, g)) (hc : checkB ls = 0) (ha : readsLabels w w.heap.size va ls) :
  Calls Tryz.prog 66 #[ruleV r v, va, .string (bs src)] w fun e w' => ∃ v', e = .returned (.tuple #[v', .bool true, .int .i64 0]) ∧ ownLabels w' w.heap.size v' (ls.filter fun x => !likeR T x.1) ∧ Grow w w' := by
 have hsm := right_small hc
 obtain ⟨W, eW, gW, sW, hW⟩ := laid_rule w (.int .i64 r.kind) v (.string (bs r.between)) (.string (bs r.mask)) (.int .i64 r.modulus) (.string (bs r.target)) (.string (bs r.repl)) 24
 have HGW := hide gW
 have HT := hide (thoseLose_any W va ls w.heap.size (fun n => !likeR T n) (readsLabels_mono (readsLabels_below ha gW) gW.size) (by omega) (fun W2 hg2 x hx => loseTest_any W2 w.heap.size r v x.1 (hg2.get hW) hm (by have := (hsm.2 x hx).1; omega)))
 obtain ⟨lo, lc, rfl⟩ := readsLabels_len ha
 unfold ruleV
 clear gW hW ha hm hc hsm
 go_enter Tryz.func66, Tryz.ntmps66
 go_wp2_with fail
 refine HT.out.mono ?_
 rintro e w1 ⟨v', rfl, hown, hg1⟩
 obtain ⟨ao, cp, rfl⟩ := own_shape hown
 have HO := hide (own_le hown HGW.out.size)
 have HG1 := hide hg1
 clear hown hg1
 go_wp2
 simp [bodyPost, results, Tryz.results66, go_sem]
 exact ⟨HO.out, HGW.out.trans HG1.out⟩
set_option maxRecDepth 20000 in
set_option maxHeartbeats 4000000 in
theorem hold_any (w : World) (r : Rul) (v va : Value) (ls : List Lab) (src : List UInt8) {T : Tr} {g : Nat} (hm : maskIs r.mask = .ok (T, g)) (hc : checkB ls = 0) (ha : readsLabels w w.heap.size va ls) :
  Calls Tryz.prog 69 #[ruleV r v, va, .string (bs src)] w fun e w' => ∃ v', e = .returned (.tuple #[v', .bool true, .int .i64 0]) ∧ ownLabels w' w.heap.size v' (ls.filter fun x => likeR T x.1) ∧ Grow w w' := by
 have hsm := right_small hc
 obtain ⟨W, eW, gW, sW, hW⟩ := laid_rule w (.int .i64 r.kind) v (.string (bs r.between)) (.string (bs r.mask)) (.int .i64 r.modulus) (.string (bs r.target)) (.string (bs r.repl)) 24
 have HGW := hide gW
 have HT := hide (thoseHold_any W va ls w.heap.size (fun n => likeR T n) (readsLabels_mono (readsLabels_below ha gW) gW.size) (by omega) (fun W2 hg2 x hx => holdTest_any W2 w.heap.size r v x.1 (hg2.get hW) hm (by have := (hsm.2 x hx).1; omega)))
 obtain ⟨lo, lc, rfl⟩ := readsLabels_len ha
 unfold ruleV
 clear gW hW ha hm hc hsm
 go_enter Tryz.func69, Tryz.ntmps69
 go_wp2_with fail
 refine HT.out.mono ?_
 rintro e w1 ⟨v', rfl, hown, hg1⟩
 obtain ⟨ao, cp, rfl⟩ := own_shape hown
 have HO := hide (own_le hown HGW.out.size)
 have HG1 := hide hg1
 clear hown hg1
 go_wp2
 simp [bodyPost, results, Tryz.results69, go_sem]
 exact ⟨HO.out, HGW.out.trans HG1.out⟩
end Go.Proofs.YtndpjdmfkhjiiaaGreatDoor.Rl
