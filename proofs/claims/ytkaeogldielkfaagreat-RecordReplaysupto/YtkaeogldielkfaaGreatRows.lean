/-
  No cell of these rows narrows 'for every input' (looked for: loops, veiled, ifaces, maps, wideKeys, modest, calm, conditions, laid).
  DERIVED. THE GIVEN ROWS OF THIS SEAT. 4 by the template 'for every input the law returns true; each argument reads behind the call as it read before'; 0 by the template 'total and deterministic' (their statements: YtkaeogldielkfaaGreatTotals.lean).
  GIVEN WITH THE SEED: the statements are not yours to turn. If you find one false, say at which input.
  Laid BY PROGRAM, IN A SANDBOX (cutbox-rows.mjs): the forced cells as the released guide's own fill.sh prints them over the translation d8545e271f14430e… (all of the seat's roots in one cut). By AI agents, Wed Nov 11 2026. No macro, syntax, notation, axiom, sorry.
-/
import Derived.Test.YtkaeogldielkfaaGreatChecked
import GoSem.Claim
import GoSem.ClaimJoined
import GoSem.ClaimMapViews
import Derived.JoinedTies
import Derived.KernelRfl
namespace Go.Proofs.YtkaeogldielkfaaGreat
/- THE CELL 'sum', in the pinned program and in every row, IS THE sha256 OF THE DUMP (.gsa) THAT YtkaeogldielkfaaGreatProg.lean LOADS. Nothing in Lean hashes anything: it is a label: what it is worth is what the hold of that sum in a sandbox is worth. -/
noncomputable def Tryz.pinned : Pinned := { name := "ytkaeogldielkfaagreat", sum := "d8545e271f14430e77b2d8ce84273d78f897431f940c024508c4ed160b56c498", checked := Tryz.checked }
namespace Rows
def none {H : Type} : Left H := { results := [], args := [] }

/-- 'gleanerlaw.RecordLearns': WHATEVER THE INPUT: true; the input reads as it did. -/
def recordLearnsSpec : ChangeSpec := { name := "recordLearns", fn := fun _ => fun
  | [d1, d2] => { results := [.lit (.bool true)], args := [d1, d2] }
  | _ => none }
def recordLearnsRow : OpenClaim := { program := "ytkaeogldielkfaagreat", sum := "d8545e271f14430e77b2d8ce84273d78f897431f940c024508c4ed160b56c498", func := "gleaner/gleanerlaw.RecordLearns", spec := "recordLearns", inPlace := ["internal/abi.NoEscape", "internal/bytealg.MakeNoZero"], unfollowed := true, recurses := true, apart := false }
def RecordLearnsSaid : Prop := recordLearnsRow.holds Tryz.pinned (OpenSpec.ofChange recordLearnsSpec)

/-- ITS FALSE NEIGHBOUR: 'it returns false'. Refute it at one input. -/
def recordLearnsWrong : ChangeSpec := { name := "recordLearns", fn := fun _ => fun
  | [d1, d2] => { results := [.lit (.bool false)], args := [d1, d2] }
  | _ => none }
def RecordLearnsWrongFalsely : Prop := recordLearnsRow.holds Tryz.pinned (OpenSpec.ofChange recordLearnsWrong)

/-- 'gleanerlaw.RecordReplays': WHATEVER THE INPUT: true; the input reads as it did. -/
def recordReplaysSpec : ChangeSpec := { name := "recordReplays", fn := fun _ => fun
  | [d] => { results := [.lit (.bool true)], args := [d] }
  | _ => none }
def recordReplaysRow : OpenClaim := { program := "ytkaeogldielkfaagreat", sum := "d8545e271f14430e77b2d8ce84273d78f897431f940c024508c4ed160b56c498", func := "gleaner/gleanerlaw.RecordReplays", spec := "recordReplays", inPlace := ["internal/abi.NoEscape", "internal/bytealg.MakeNoZero"], unfollowed := true, recurses := true, apart := false }
def RecordReplaysSaid : Prop := recordReplaysRow.holds Tryz.pinned (OpenSpec.ofChange recordReplaysSpec)

/-- ITS FALSE NEIGHBOUR: 'it returns false'. Refute it at one input. -/
def recordReplaysWrong : ChangeSpec := { name := "recordReplays", fn := fun _ => fun
  | [d] => { results := [.lit (.bool false)], args := [d] }
  | _ => none }
def RecordReplaysWrongFalsely : Prop := recordReplaysRow.holds Tryz.pinned (OpenSpec.ofChange recordReplaysWrong)

/-- 'gleanerlaw.RecordTwice': WHATEVER THE INPUT: true; the input reads as it did. -/
def recordTwiceSpec : ChangeSpec := { name := "recordTwice", fn := fun _ => fun
  | [d1, d2] => { results := [.lit (.bool true)], args := [d1, d2] }
  | _ => none }
def recordTwiceRow : OpenClaim := { program := "ytkaeogldielkfaagreat", sum := "d8545e271f14430e77b2d8ce84273d78f897431f940c024508c4ed160b56c498", func := "gleaner/gleanerlaw.RecordTwice", spec := "recordTwice", inPlace := ["internal/abi.NoEscape", "internal/bytealg.MakeNoZero"], unfollowed := true, recurses := true, apart := false }
def RecordTwiceSaid : Prop := recordTwiceRow.holds Tryz.pinned (OpenSpec.ofChange recordTwiceSpec)

/-- ITS FALSE NEIGHBOUR: 'it returns false'. Refute it at one input. -/
def recordTwiceWrong : ChangeSpec := { name := "recordTwice", fn := fun _ => fun
  | [d1, d2] => { results := [.lit (.bool false)], args := [d1, d2] }
  | _ => none }
def RecordTwiceWrongFalsely : Prop := recordTwiceRow.holds Tryz.pinned (OpenSpec.ofChange recordTwiceWrong)

/-- 'gleanerlaw.TopLogged': WHATEVER THE INPUT: true; the input reads as it did. -/
def topLoggedSpec : ChangeSpec := { name := "topLogged", fn := fun _ => fun
  | [d1, d2] => { results := [.lit (.bool true)], args := [d1, d2] }
  | _ => none }
def topLoggedRow : OpenClaim := { program := "ytkaeogldielkfaagreat", sum := "d8545e271f14430e77b2d8ce84273d78f897431f940c024508c4ed160b56c498", func := "gleaner/gleanerlaw.TopLogged", spec := "topLogged", inPlace := ["internal/abi.NoEscape", "internal/bytealg.MakeNoZero"], unfollowed := true, recurses := true, apart := false }
def TopLoggedSaid : Prop := topLoggedRow.holds Tryz.pinned (OpenSpec.ofChange topLoggedSpec)

/-- ITS FALSE NEIGHBOUR: 'it returns false'. Refute it at one input. -/
def topLoggedWrong : ChangeSpec := { name := "topLogged", fn := fun _ => fun
  | [d1, d2] => { results := [.lit (.bool false)], args := [d1, d2] }
  | _ => none }
def TopLoggedWrongFalsely : Prop := topLoggedRow.holds Tryz.pinned (OpenSpec.ofChange topLoggedWrong)

/- THE SECOND FORM. 'bulk': how many values and letters a reading holds, each counted each time it is reached (what is shared counts as often as it is met; a slice's spare places count too). A statement '..UptoSaid' is the law's where the arguments, and the package variables that the reading takes, are together of bulk at most 1048576: NARROWER than '..Said'. Prove '..Said' where nothing that the law and all that it calls make is longer than what came in: it says more and counts as full. Else prove '..UptoSaid'. A law counts once. -/
mutual
def uptoBulk {H : Type} : DataW H → Nat
  | .lit (.string bytes) => bytes.length + 1
  | .lit _ => 1
  | .nil => 1
  | .ptr d => uptoBulk d + 1
  | .slice elems spare => uptoBulkAll elems + uptoBulkAll spare + 1
  | .agg parts => uptoBulkAll parts + 1
  | .iface _ d => uptoBulk d + 1
  | .map entries => uptoBulkEntries entries + 1
  | .held _ => 1
def uptoBulkAll {H : Type} : List (DataW H) → Nat
  | [] => 0
  | d :: r => uptoBulk d + uptoBulkAll r
def uptoBulkEntries {H : Type} : List (Lit × DataW H) → Nat
  | [] => 0
  | x :: r => uptoBulkEntry x + uptoBulkEntries r
def uptoBulkEntry {H : Type} : Lit × DataW H → Nat
  | (.string bytes, d) => bytes.length + uptoBulk d + 1
  | (_, d) => uptoBulk d + 1
 end
def uptoSmall : (H : Type) → List (DataW H) → Bool := fun _ ds => decide (uptoBulkAll ds ≤ 1048576)
def OpenSpec.upto (s : _root_.Go.ChangeSpec) : _root_.Go.OpenSpec := { _root_.Go.OpenSpec.ofChange s with cond := some uptoSmall }

/-- 'gleanerlaw.RecordLearns', WHERE WHAT IT READS IS OF BULK AT MOST 1048576: true; the input reads as it did. -/
def recordLearnsUptoRow : OpenClaim := { program := "ytkaeogldielkfaagreat", sum := "d8545e271f14430e77b2d8ce84273d78f897431f940c024508c4ed160b56c498", func := "gleaner/gleanerlaw.RecordLearns", spec := "recordLearns", inPlace := ["internal/abi.NoEscape", "internal/bytealg.MakeNoZero"], unfollowed := true, recurses := true, apart := false, narrowed := true }
def RecordLearnsUptoSaid : Prop := recordLearnsUptoRow.holds Tryz.pinned (OpenSpec.upto recordLearnsSpec)

/-- 'gleanerlaw.RecordReplays', WHERE WHAT IT READS IS OF BULK AT MOST 1048576: true; the input reads as it did. -/
def recordReplaysUptoRow : OpenClaim := { program := "ytkaeogldielkfaagreat", sum := "d8545e271f14430e77b2d8ce84273d78f897431f940c024508c4ed160b56c498", func := "gleaner/gleanerlaw.RecordReplays", spec := "recordReplays", inPlace := ["internal/abi.NoEscape", "internal/bytealg.MakeNoZero"], unfollowed := true, recurses := true, apart := false, narrowed := true }
def RecordReplaysUptoSaid : Prop := recordReplaysUptoRow.holds Tryz.pinned (OpenSpec.upto recordReplaysSpec)

/-- 'gleanerlaw.RecordTwice', WHERE WHAT IT READS IS OF BULK AT MOST 1048576: true; the input reads as it did. -/
def recordTwiceUptoRow : OpenClaim := { program := "ytkaeogldielkfaagreat", sum := "d8545e271f14430e77b2d8ce84273d78f897431f940c024508c4ed160b56c498", func := "gleaner/gleanerlaw.RecordTwice", spec := "recordTwice", inPlace := ["internal/abi.NoEscape", "internal/bytealg.MakeNoZero"], unfollowed := true, recurses := true, apart := false, narrowed := true }
def RecordTwiceUptoSaid : Prop := recordTwiceUptoRow.holds Tryz.pinned (OpenSpec.upto recordTwiceSpec)

/-- 'gleanerlaw.TopLogged', WHERE WHAT IT READS IS OF BULK AT MOST 1048576: true; the input reads as it did. -/
def topLoggedUptoRow : OpenClaim := { program := "ytkaeogldielkfaagreat", sum := "d8545e271f14430e77b2d8ce84273d78f897431f940c024508c4ed160b56c498", func := "gleaner/gleanerlaw.TopLogged", spec := "topLogged", inPlace := ["internal/abi.NoEscape", "internal/bytealg.MakeNoZero"], unfollowed := true, recurses := true, apart := false, narrowed := true }
def TopLoggedUptoSaid : Prop := topLoggedUptoRow.holds Tryz.pinned (OpenSpec.upto topLoggedSpec)

end Rows
end Go.Proofs.YtkaeogldielkfaaGreat
