/- relabel: the deeds of RuleKeep and RuleDrop; the two tests of names. -/
import Derived.Test.YtndpjdmfkhjiiaaGreatDoorProg
import Derived.Test.YtndpjdmfkhjiiaaGreatDoorKit
import Derived.Test.YtndpjdmfkhjiiaaGreatDoorReg
import Derived.Test.YtndpjdmfkhjiiaaGreatDoorRlA
import Derived.Test.YtndpjdmfkhjiiaaGreatDoorRlB
import Derived.BigFrame
set_option linter.unusedVariables false
set_option linter.unusedSimpArgs false
namespace Go.Proofs.YtndpjdmfkhjiiaaGreatDoor.Rl
open Go.RowKit Lb
attribute [local go_sem] bs_size bs_toList bs_append bs_get bs_extract

set_option maxRecDepth 20000 in
set_option maxHeartbeats 4000000 in
theorem keep_any (w : World) (r : Rul) (v va : Value) (src : List UInt8) {T : Tr} {g : Nat} (hm : maskIs r.mask = .ok (T, g)) (hsrc : src.length ≤ 2000) :
    Calls Tryz.prog 61 #[ruleV r v, va, .string (bs src)] w fun e w' => Grow w w' ∧ e = .returned (.tuple #[va, .bool (likeR T src), .int .i64 0]) := by
  have HL := hide fun W => like_any W r.mask src hm hsrc
  obtain ⟨kind, rs, bt, mk, md, tg, rp⟩ := r
  unfold ruleV
  simp only at HL ⊢
  clear hm
  generalize likeR T src = b at HL ⊢
  obtain ⟨W, eW, gW, sW, hW⟩ := laid_rule w (.int .i64 kind) v (.string (bs bt)) (.string (bs mk)) (.int .i64 md) (.string (bs tg)) (.string (bs rp)) 24
  obtain ⟨c0, c1, c2, c3, c4, c5, c6⟩ := seven_cells hW
  have HGW := hide gW
  clear gW hW
  go_enter Tryz.func61, Tryz.ntmps61
  go_wp2_with fail
  refine (HL.out W).mono ?_
  rintro e w1 ⟨rfl, hg1⟩
  go_wp2
  simp [bodyPost, results, Tryz.results61, go_sem]
  exact HGW.out.trans hg1

set_option maxRecDepth 20000 in
set_option maxHeartbeats 4000000 in
theorem drop_any (w : World) (r : Rul) (v va : Value) (src : List UInt8) {T : Tr} {g : Nat} (hm : maskIs r.mask = .ok (T, g)) (hsrc : src.length ≤ 2000) :
    Calls Tryz.prog 63 #[ruleV r v, va, .string (bs src)] w fun e w' => Grow w w' ∧ e = .returned (.tuple #[va, .bool (!likeR T src), .int .i64 0]) := by
  have HL := hide fun W => like_any W r.mask src hm hsrc
  obtain ⟨kind, rs, bt, mk, md, tg, rp⟩ := r
  unfold ruleV
  simp only at HL ⊢
  clear hm
  generalize likeR T src = b at HL ⊢
  obtain ⟨W, eW, gW, sW, hW⟩ := laid_rule w (.int .i64 kind) v (.string (bs bt)) (.string (bs mk)) (.int .i64 md) (.string (bs tg)) (.string (bs rp)) 24
  obtain ⟨c0, c1, c2, c3, c4, c5, c6⟩ := seven_cells hW
  have HGW := hide gW
  clear gW hW
  cases b
  all_goals
    go_enter Tryz.func63, Tryz.ntmps63
    go_wp2_with fail
    refine (HL.out W).mono ?_
    rintro e w1 ⟨rfl, hg1⟩
    go_wp2
    simp [bodyPost, results, Tryz.results63, go_sem]
    exact HGW.out.trans hg1

set_option maxRecDepth 20000 in
set_option maxHeartbeats 4000000 in
/-- RuleLose's test of a name. -/
theorem loseTest_any (w : World) (b : Nat) (r : Rul) (v : Value) (n : List UInt8) {T : Tr} {g : Nat} (hb : w.heap[b]? = some (.cells #[.int .i64 r.kind, v, .string (bs r.between), .string (bs r.mask), .int .i64 r.modulus, .string (bs r.target), .string (bs r.repl)] 24 (0, 0))) (hm : maskIs r.mask = .ok (T, g)) (hn : n.length ≤ 2000) :
    Calls Tryz.prog 68 #[.string (bs n), .pointer (some ⟨b, 0, none⟩)] w fun e w' => e = .returned (.bool (!likeR T n)) ∧ Grow w w' := by
  have HL := hide fun W => like_any W r.mask n hm hn
  obtain ⟨c0, c1, c2, c3, c4, c5, c6⟩ := seven_cells hb
  clear hm hb
  generalize likeR T n = b at HL ⊢
  cases b
  all_goals
    go_enter Tryz.func68, Tryz.ntmps68
    go_wp2_with fail
    refine (HL.out w).mono ?_
    rintro e w1 ⟨rfl, hg1⟩
    go_wp2
    go_ret
    exact ⟨rfl, hg1⟩

set_option maxRecDepth 20000 in
set_option maxHeartbeats 4000000 in
/-- RuleHold's test of a name. -/
theorem holdTest_any (w : World) (b : Nat) (r : Rul) (v : Value) (n : List UInt8) {T : Tr} {g : Nat} (hb : w.heap[b]? = some (.cells #[.int .i64 r.kind, v, .string (bs r.between), .string (bs r.mask), .int .i64 r.modulus, .string (bs r.target), .string (bs r.repl)] 24 (0, 0))) (hm : maskIs r.mask = .ok (T, g)) (hn : n.length ≤ 2000) :
    Calls Tryz.prog 70 #[.string (bs n), .pointer (some ⟨b, 0, none⟩)] w fun e w' => e = .returned (.bool (likeR T n)) ∧ Grow w w' := by
  have HL := hide fun W => like_any W r.mask n hm hn
  obtain ⟨c0, c1, c2, c3, c4, c5, c6⟩ := seven_cells hb
  clear hm hb
  generalize likeR T n = b at HL ⊢
  go_enter Tryz.func70, Tryz.ntmps70
  go_wp2_with fail
  refine (HL.out w).mono ?_
  rintro e w1 ⟨rfl, hg1⟩
  go_wp2
  go_ret
  exact ⟨rfl, hg1⟩
end Go.Proofs.YtndpjdmfkhjiiaaGreatDoor.Rl
