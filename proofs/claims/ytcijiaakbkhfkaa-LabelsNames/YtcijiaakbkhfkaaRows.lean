/-
  No cell of these rows narrows 'for every input' (looked for: loops, veiled, ifaces, maps, wideKeys, modest, calm, conditions, laid).
  DERIVED. THE GIVEN ROWS OF THIS SEAT. 10 by the template 'for every input the law returns true; each argument reads behind the call as it read before'; 0 by the template 'total and deterministic' (their statements: YtcijiaakbkhfkaaTotals.lean).
  GIVEN WITH THE SEED: the statements are not yours to turn. If you find one false, say at which input.
  Laid BY PROGRAM, IN A SANDBOX (cutbox-rows.mjs): the forced cells as the released guide's own fill.sh prints them over the translation cb37b597bebfa73f… (all of the seat's roots in one cut). By AI agents, Wed Nov 11 2026. No macro, syntax, notation, axiom, sorry.
-/
import Derived.Test.YtcijiaakbkhfkaaChecked
import GoSem.Claim
import GoSem.ClaimJoined
import GoSem.ClaimMapViews
import Derived.JoinedTies
import Derived.KernelRfl
namespace Go.Proofs.Ytcijiaakbkhfkaa
/- THE CELL 'sum', in the pinned program and in every row, IS THE sha256 OF THE DUMP (.gsa) THAT YtcijiaakbkhfkaaProg.lean LOADS. Nothing in Lean hashes anything: it is a label: what it is worth is what the hold of that sum in a sandbox is worth. -/
noncomputable def Try.pinned : Pinned := { name := "ytcijiaakbkhfkaa", sum := "cb37b597bebfa73f34749f5d37b1aedd1fda1e1b0e06fe121fd9b4390c5df7f1", checked := Try.checked }
namespace Rows
def none {H : Type} : Left H := { results := [], args := [] }

/-- 'gleanerlaw.LabelsNames': WHATEVER THE INPUT: true; the input reads as it did. -/
def labelsNamesSpec : ChangeSpec := { name := "labelsNames", fn := fun _ => fun
  | [d] => { results := [.lit (.bool true)], args := [d] }
  | _ => none }
def labelsNamesRow : OpenClaim := { program := "ytcijiaakbkhfkaa", sum := "cb37b597bebfa73f34749f5d37b1aedd1fda1e1b0e06fe121fd9b4390c5df7f1", func := "gleaner/gleanerlaw.LabelsNames", spec := "labelsNames", inPlace := ["internal/abi.NoEscape", "internal/bytealg.MakeNoZero"], apart := false }
def LabelsNamesSaid : Prop := labelsNamesRow.holds Try.pinned (OpenSpec.ofChange labelsNamesSpec)

/-- ITS FALSE NEIGHBOUR: 'it returns false'. Refute it at one input. -/
def labelsNamesWrong : ChangeSpec := { name := "labelsNames", fn := fun _ => fun
  | [d] => { results := [.lit (.bool false)], args := [d] }
  | _ => none }
def LabelsNamesWrongFalsely : Prop := labelsNamesRow.holds Try.pinned (OpenSpec.ofChange labelsNamesWrong)

/-- 'gleanerlaw.LabelsChecks': WHATEVER THE INPUT: true; the input reads as it did. -/
def labelsChecksSpec : ChangeSpec := { name := "labelsChecks", fn := fun _ => fun
  | [d] => { results := [.lit (.bool true)], args := [d] }
  | _ => none }
def labelsChecksRow : OpenClaim := { program := "ytcijiaakbkhfkaa", sum := "cb37b597bebfa73f34749f5d37b1aedd1fda1e1b0e06fe121fd9b4390c5df7f1", func := "gleaner/gleanerlaw.LabelsChecks", spec := "labelsChecks", inPlace := ["internal/abi.NoEscape", "internal/bytealg.MakeNoZero"], apart := false }
def LabelsChecksSaid : Prop := labelsChecksRow.holds Try.pinned (OpenSpec.ofChange labelsChecksSpec)

/-- ITS FALSE NEIGHBOUR: 'it returns false'. Refute it at one input. -/
def labelsChecksWrong : ChangeSpec := { name := "labelsChecks", fn := fun _ => fun
  | [d] => { results := [.lit (.bool false)], args := [d] }
  | _ => none }
def LabelsChecksWrongFalsely : Prop := labelsChecksRow.holds Try.pinned (OpenSpec.ofChange labelsChecksWrong)

/-- 'gleanerlaw.LabelsMakes': WHATEVER THE INPUT: true; the input reads as it did. -/
def labelsMakesSpec : ChangeSpec := { name := "labelsMakes", fn := fun _ => fun
  | [d] => { results := [.lit (.bool true)], args := [d] }
  | _ => none }
def labelsMakesRow : OpenClaim := { program := "ytcijiaakbkhfkaa", sum := "cb37b597bebfa73f34749f5d37b1aedd1fda1e1b0e06fe121fd9b4390c5df7f1", func := "gleaner/gleanerlaw.LabelsMakes", spec := "labelsMakes", inPlace := ["internal/abi.NoEscape", "internal/bytealg.MakeNoZero"], unfollowed := true, recurses := true, apart := false }
def LabelsMakesSaid : Prop := labelsMakesRow.holds Try.pinned (OpenSpec.ofChange labelsMakesSpec)

/-- ITS FALSE NEIGHBOUR: 'it returns false'. Refute it at one input. -/
def labelsMakesWrong : ChangeSpec := { name := "labelsMakes", fn := fun _ => fun
  | [d] => { results := [.lit (.bool false)], args := [d] }
  | _ => none }
def LabelsMakesWrongFalsely : Prop := labelsMakesRow.holds Try.pinned (OpenSpec.ofChange labelsMakesWrong)

/-- 'gleanerlaw.LabelsGets': WHATEVER THE INPUT: true; the input reads as it did. -/
def labelsGetsSpec : ChangeSpec := { name := "labelsGets", fn := fun _ => fun
  | [d1, d2] => { results := [.lit (.bool true)], args := [d1, d2] }
  | _ => none }
def labelsGetsRow : OpenClaim := { program := "ytcijiaakbkhfkaa", sum := "cb37b597bebfa73f34749f5d37b1aedd1fda1e1b0e06fe121fd9b4390c5df7f1", func := "gleaner/gleanerlaw.LabelsGets", spec := "labelsGets", inPlace := ["internal/abi.NoEscape", "internal/bytealg.MakeNoZero"], apart := false }
def LabelsGetsSaid : Prop := labelsGetsRow.holds Try.pinned (OpenSpec.ofChange labelsGetsSpec)

/-- ITS FALSE NEIGHBOUR: 'it returns false'. Refute it at one input. -/
def labelsGetsWrong : ChangeSpec := { name := "labelsGets", fn := fun _ => fun
  | [d1, d2] => { results := [.lit (.bool false)], args := [d1, d2] }
  | _ => none }
def LabelsGetsWrongFalsely : Prop := labelsGetsRow.holds Try.pinned (OpenSpec.ofChange labelsGetsWrong)

/-- 'gleanerlaw.LabelsWith': WHATEVER THE INPUT: true; the input reads as it did. -/
def labelsWithSpec : ChangeSpec := { name := "labelsWith", fn := fun _ => fun
  | [d1, d2, d3] => { results := [.lit (.bool true)], args := [d1, d2, d3] }
  | _ => none }
def labelsWithRow : OpenClaim := { program := "ytcijiaakbkhfkaa", sum := "cb37b597bebfa73f34749f5d37b1aedd1fda1e1b0e06fe121fd9b4390c5df7f1", func := "gleaner/gleanerlaw.LabelsWith", spec := "labelsWith", inPlace := ["internal/abi.NoEscape", "internal/bytealg.MakeNoZero"], unfollowed := true, recurses := true, apart := false }
def LabelsWithSaid : Prop := labelsWithRow.holds Try.pinned (OpenSpec.ofChange labelsWithSpec)

/-- ITS FALSE NEIGHBOUR: 'it returns false'. Refute it at one input. -/
def labelsWithWrong : ChangeSpec := { name := "labelsWith", fn := fun _ => fun
  | [d1, d2, d3] => { results := [.lit (.bool false)], args := [d1, d2, d3] }
  | _ => none }
def LabelsWithWrongFalsely : Prop := labelsWithRow.holds Try.pinned (OpenSpec.ofChange labelsWithWrong)

/-- 'gleanerlaw.LabelsSums': WHATEVER THE INPUT: true; the input reads as it did. -/
def labelsSumsSpec : ChangeSpec := { name := "labelsSums", fn := fun _ => fun
  | [d] => { results := [.lit (.bool true)], args := [d] }
  | _ => none }
def labelsSumsRow : OpenClaim := { program := "ytcijiaakbkhfkaa", sum := "cb37b597bebfa73f34749f5d37b1aedd1fda1e1b0e06fe121fd9b4390c5df7f1", func := "gleaner/gleanerlaw.LabelsSums", spec := "labelsSums", inPlace := ["internal/abi.NoEscape", "internal/bytealg.MakeNoZero"], unfollowed := true, recurses := true, apart := false }
def LabelsSumsSaid : Prop := labelsSumsRow.holds Try.pinned (OpenSpec.ofChange labelsSumsSpec)

/-- ITS FALSE NEIGHBOUR: 'it returns false'. Refute it at one input. -/
def labelsSumsWrong : ChangeSpec := { name := "labelsSums", fn := fun _ => fun
  | [d] => { results := [.lit (.bool false)], args := [d] }
  | _ => none }
def LabelsSumsWrongFalsely : Prop := labelsSumsRow.holds Try.pinned (OpenSpec.ofChange labelsSumsWrong)

/-- 'gleanerlaw.LabelsCompares': WHATEVER THE INPUT: true; the input reads as it did. -/
def labelsComparesSpec : ChangeSpec := { name := "labelsCompares", fn := fun _ => fun
  | [d1, d2] => { results := [.lit (.bool true)], args := [d1, d2] }
  | _ => none }
def labelsComparesRow : OpenClaim := { program := "ytcijiaakbkhfkaa", sum := "cb37b597bebfa73f34749f5d37b1aedd1fda1e1b0e06fe121fd9b4390c5df7f1", func := "gleaner/gleanerlaw.LabelsCompares", spec := "labelsCompares", inPlace := ["internal/abi.NoEscape", "internal/bytealg.MakeNoZero"], unfollowed := true, recurses := true, apart := false }
def LabelsComparesSaid : Prop := labelsComparesRow.holds Try.pinned (OpenSpec.ofChange labelsComparesSpec)

/-- ITS FALSE NEIGHBOUR: 'it returns false'. Refute it at one input. -/
def labelsComparesWrong : ChangeSpec := { name := "labelsCompares", fn := fun _ => fun
  | [d1, d2] => { results := [.lit (.bool false)], args := [d1, d2] }
  | _ => none }
def LabelsComparesWrongFalsely : Prop := labelsComparesRow.holds Try.pinned (OpenSpec.ofChange labelsComparesWrong)

/-- 'gleanerlaw.LabelsBack': WHATEVER THE INPUT: true; the input reads as it did. -/
def labelsBackSpec : ChangeSpec := { name := "labelsBack", fn := fun _ => fun
  | [d1, d2, d3, d4] => { results := [.lit (.bool true)], args := [d1, d2, d3, d4] }
  | _ => none }
def labelsBackRow : OpenClaim := { program := "ytcijiaakbkhfkaa", sum := "cb37b597bebfa73f34749f5d37b1aedd1fda1e1b0e06fe121fd9b4390c5df7f1", func := "gleaner/gleanerlaw.LabelsBack", spec := "labelsBack", inPlace := ["internal/abi.NoEscape", "internal/bytealg.MakeNoZero"], unfollowed := true, recurses := true, apart := false }
def LabelsBackSaid : Prop := labelsBackRow.holds Try.pinned (OpenSpec.ofChange labelsBackSpec)

/-- ITS FALSE NEIGHBOUR: 'it returns false'. Refute it at one input. -/
def labelsBackWrong : ChangeSpec := { name := "labelsBack", fn := fun _ => fun
  | [d1, d2, d3, d4] => { results := [.lit (.bool false)], args := [d1, d2, d3, d4] }
  | _ => none }
def LabelsBackWrongFalsely : Prop := labelsBackRow.holds Try.pinned (OpenSpec.ofChange labelsBackWrong)

/-- 'gleanerlaw.LabelsApart': WHATEVER THE INPUT: true; the input reads as it did. -/
def labelsApartSpec : ChangeSpec := { name := "labelsApart", fn := fun _ => fun
  | [d1, d2] => { results := [.lit (.bool true)], args := [d1, d2] }
  | _ => none }
def labelsApartRow : OpenClaim := { program := "ytcijiaakbkhfkaa", sum := "cb37b597bebfa73f34749f5d37b1aedd1fda1e1b0e06fe121fd9b4390c5df7f1", func := "gleaner/gleanerlaw.LabelsApart", spec := "labelsApart", inPlace := ["internal/abi.NoEscape", "internal/bytealg.MakeNoZero"], unfollowed := true, recurses := true, apart := false }
def LabelsApartSaid : Prop := labelsApartRow.holds Try.pinned (OpenSpec.ofChange labelsApartSpec)

/-- ITS FALSE NEIGHBOUR: 'it returns false'. Refute it at one input. -/
def labelsApartWrong : ChangeSpec := { name := "labelsApart", fn := fun _ => fun
  | [d1, d2] => { results := [.lit (.bool false)], args := [d1, d2] }
  | _ => none }
def LabelsApartWrongFalsely : Prop := labelsApartRow.holds Try.pinned (OpenSpec.ofChange labelsApartWrong)

/-- 'gleanerlaw.LabelsOrder': WHATEVER THE INPUT: true; the input reads as it did. -/
def labelsOrderSpec : ChangeSpec := { name := "labelsOrder", fn := fun _ => fun
  | [d1, d2, d3] => { results := [.lit (.bool true)], args := [d1, d2, d3] }
  | _ => none }
def labelsOrderRow : OpenClaim := { program := "ytcijiaakbkhfkaa", sum := "cb37b597bebfa73f34749f5d37b1aedd1fda1e1b0e06fe121fd9b4390c5df7f1", func := "gleaner/gleanerlaw.LabelsOrder", spec := "labelsOrder", inPlace := ["internal/abi.NoEscape", "internal/bytealg.MakeNoZero"], unfollowed := true, recurses := true, apart := false }
def LabelsOrderSaid : Prop := labelsOrderRow.holds Try.pinned (OpenSpec.ofChange labelsOrderSpec)

/-- ITS FALSE NEIGHBOUR: 'it returns false'. Refute it at one input. -/
def labelsOrderWrong : ChangeSpec := { name := "labelsOrder", fn := fun _ => fun
  | [d1, d2, d3] => { results := [.lit (.bool false)], args := [d1, d2, d3] }
  | _ => none }
def LabelsOrderWrongFalsely : Prop := labelsOrderRow.holds Try.pinned (OpenSpec.ofChange labelsOrderWrong)

/- THE SECOND FORM. 'bulk': how many values and letters a reading holds, each counted each time it is reached (what is shared counts as often as it is met; a slice's spare places count too). A statement '..UptoSaid' is the law's where the arguments, and the package variables that the reading takes, are together of bulk at most 1048576: NARROWER than '..Said'. Prove '..Said' where nothing that the law and all that it calls make is longer than what came in: it says more and counts as full. Else prove '..UptoSaid'. A law counts once. -/
mutual
def uptoBulk {H : Type} : DataW H → Nat
  | .lit (.string bytes) => bytes.length + 1
  | .lit _ => 1
  | .nil => 1
  | .ptr d => uptoBulk d + 1
  | .slice elems spare => uptoBulkAll elems + uptoBulkAll spare + 1
  | .agg parts => uptoBulkAll parts + 1
  | .iface _ d => uptoBulk d + 1
  | .map entries => uptoBulkEntries entries + 1
  | .held _ => 1
def uptoBulkAll {H : Type} : List (DataW H) → Nat
  | [] => 0
  | d :: r => uptoBulk d + uptoBulkAll r
def uptoBulkEntries {H : Type} : List (Lit × DataW H) → Nat
  | [] => 0
  | x :: r => uptoBulkEntry x + uptoBulkEntries r
def uptoBulkEntry {H : Type} : Lit × DataW H → Nat
  | (.string bytes, d) => bytes.length + uptoBulk d + 1
  | (_, d) => uptoBulk d + 1
 end
def uptoSmall : (H : Type) → List (DataW H) → Bool := fun _ ds => decide (uptoBulkAll ds ≤ 1048576)
def OpenSpec.upto (s : _root_.Go.ChangeSpec) : _root_.Go.OpenSpec := { _root_.Go.OpenSpec.ofChange s with cond := some uptoSmall }

/-- 'gleanerlaw.LabelsNames', WHERE WHAT IT READS IS OF BULK AT MOST 1048576: true; the input reads as it did. -/
def labelsNamesUptoRow : OpenClaim := { program := "ytcijiaakbkhfkaa", sum := "cb37b597bebfa73f34749f5d37b1aedd1fda1e1b0e06fe121fd9b4390c5df7f1", func := "gleaner/gleanerlaw.LabelsNames", spec := "labelsNames", inPlace := ["internal/abi.NoEscape", "internal/bytealg.MakeNoZero"], apart := false, narrowed := true }
def LabelsNamesUptoSaid : Prop := labelsNamesUptoRow.holds Try.pinned (OpenSpec.upto labelsNamesSpec)

/-- 'gleanerlaw.LabelsChecks', WHERE WHAT IT READS IS OF BULK AT MOST 1048576: true; the input reads as it did. -/
def labelsChecksUptoRow : OpenClaim := { program := "ytcijiaakbkhfkaa", sum := "cb37b597bebfa73f34749f5d37b1aedd1fda1e1b0e06fe121fd9b4390c5df7f1", func := "gleaner/gleanerlaw.LabelsChecks", spec := "labelsChecks", inPlace := ["internal/abi.NoEscape", "internal/bytealg.MakeNoZero"], apart := false, narrowed := true }
def LabelsChecksUptoSaid : Prop := labelsChecksUptoRow.holds Try.pinned (OpenSpec.upto labelsChecksSpec)

/-- 'gleanerlaw.LabelsMakes', WHERE WHAT IT READS IS OF BULK AT MOST 1048576: true; the input reads as it did. -/
def labelsMakesUptoRow : OpenClaim := { program := "ytcijiaakbkhfkaa", sum := "cb37b597bebfa73f34749f5d37b1aedd1fda1e1b0e06fe121fd9b4390c5df7f1", func := "gleaner/gleanerlaw.LabelsMakes", spec := "labelsMakes", inPlace := ["internal/abi.NoEscape", "internal/bytealg.MakeNoZero"], unfollowed := true, recurses := true, apart := false, narrowed := true }
def LabelsMakesUptoSaid : Prop := labelsMakesUptoRow.holds Try.pinned (OpenSpec.upto labelsMakesSpec)

/-- 'gleanerlaw.LabelsGets', WHERE WHAT IT READS IS OF BULK AT MOST 1048576: true; the input reads as it did. -/
def labelsGetsUptoRow : OpenClaim := { program := "ytcijiaakbkhfkaa", sum := "cb37b597bebfa73f34749f5d37b1aedd1fda1e1b0e06fe121fd9b4390c5df7f1", func := "gleaner/gleanerlaw.LabelsGets", spec := "labelsGets", inPlace := ["internal/abi.NoEscape", "internal/bytealg.MakeNoZero"], apart := false, narrowed := true }
def LabelsGetsUptoSaid : Prop := labelsGetsUptoRow.holds Try.pinned (OpenSpec.upto labelsGetsSpec)

/-- 'gleanerlaw.LabelsWith', WHERE WHAT IT READS IS OF BULK AT MOST 1048576: true; the input reads as it did. -/
def labelsWithUptoRow : OpenClaim := { program := "ytcijiaakbkhfkaa", sum := "cb37b597bebfa73f34749f5d37b1aedd1fda1e1b0e06fe121fd9b4390c5df7f1", func := "gleaner/gleanerlaw.LabelsWith", spec := "labelsWith", inPlace := ["internal/abi.NoEscape", "internal/bytealg.MakeNoZero"], unfollowed := true, recurses := true, apart := false, narrowed := true }
def LabelsWithUptoSaid : Prop := labelsWithUptoRow.holds Try.pinned (OpenSpec.upto labelsWithSpec)

/-- 'gleanerlaw.LabelsSums', WHERE WHAT IT READS IS OF BULK AT MOST 1048576: true; the input reads as it did. -/
def labelsSumsUptoRow : OpenClaim := { program := "ytcijiaakbkhfkaa", sum := "cb37b597bebfa73f34749f5d37b1aedd1fda1e1b0e06fe121fd9b4390c5df7f1", func := "gleaner/gleanerlaw.LabelsSums", spec := "labelsSums", inPlace := ["internal/abi.NoEscape", "internal/bytealg.MakeNoZero"], unfollowed := true, recurses := true, apart := false, narrowed := true }
def LabelsSumsUptoSaid : Prop := labelsSumsUptoRow.holds Try.pinned (OpenSpec.upto labelsSumsSpec)

/-- 'gleanerlaw.LabelsCompares', WHERE WHAT IT READS IS OF BULK AT MOST 1048576: true; the input reads as it did. -/
def labelsComparesUptoRow : OpenClaim := { program := "ytcijiaakbkhfkaa", sum := "cb37b597bebfa73f34749f5d37b1aedd1fda1e1b0e06fe121fd9b4390c5df7f1", func := "gleaner/gleanerlaw.LabelsCompares", spec := "labelsCompares", inPlace := ["internal/abi.NoEscape", "internal/bytealg.MakeNoZero"], unfollowed := true, recurses := true, apart := false, narrowed := true }
def LabelsComparesUptoSaid : Prop := labelsComparesUptoRow.holds Try.pinned (OpenSpec.upto labelsComparesSpec)

/-- 'gleanerlaw.LabelsBack', WHERE WHAT IT READS IS OF BULK AT MOST 1048576: true; the input reads as it did. -/
def labelsBackUptoRow : OpenClaim := { program := "ytcijiaakbkhfkaa", sum := "cb37b597bebfa73f34749f5d37b1aedd1fda1e1b0e06fe121fd9b4390c5df7f1", func := "gleaner/gleanerlaw.LabelsBack", spec := "labelsBack", inPlace := ["internal/abi.NoEscape", "internal/bytealg.MakeNoZero"], unfollowed := true, recurses := true, apart := false, narrowed := true }
def LabelsBackUptoSaid : Prop := labelsBackUptoRow.holds Try.pinned (OpenSpec.upto labelsBackSpec)

/-- 'gleanerlaw.LabelsApart', WHERE WHAT IT READS IS OF BULK AT MOST 1048576: true; the input reads as it did. -/
def labelsApartUptoRow : OpenClaim := { program := "ytcijiaakbkhfkaa", sum := "cb37b597bebfa73f34749f5d37b1aedd1fda1e1b0e06fe121fd9b4390c5df7f1", func := "gleaner/gleanerlaw.LabelsApart", spec := "labelsApart", inPlace := ["internal/abi.NoEscape", "internal/bytealg.MakeNoZero"], unfollowed := true, recurses := true, apart := false, narrowed := true }
def LabelsApartUptoSaid : Prop := labelsApartUptoRow.holds Try.pinned (OpenSpec.upto labelsApartSpec)

/-- 'gleanerlaw.LabelsOrder', WHERE WHAT IT READS IS OF BULK AT MOST 1048576: true; the input reads as it did. -/
def labelsOrderUptoRow : OpenClaim := { program := "ytcijiaakbkhfkaa", sum := "cb37b597bebfa73f34749f5d37b1aedd1fda1e1b0e06fe121fd9b4390c5df7f1", func := "gleaner/gleanerlaw.LabelsOrder", spec := "labelsOrder", inPlace := ["internal/abi.NoEscape", "internal/bytealg.MakeNoZero"], unfollowed := true, recurses := true, apart := false, narrowed := true }
def LabelsOrderUptoSaid : Prop := labelsOrderUptoRow.holds Try.pinned (OpenSpec.upto labelsOrderSpec)

end Rows
end Go.Proofs.Ytcijiaakbkhfkaa
