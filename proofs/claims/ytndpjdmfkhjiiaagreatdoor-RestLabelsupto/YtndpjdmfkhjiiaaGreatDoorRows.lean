/-
  NARROWER THAN 'FOR EVERY INPUT', by the rows' own cells (each row's printed sentence says how): RelabelChecks: laid · RelabelApplies: laid · RelabelJoins: laid · RelabelNone: laid · RelabelHolds: laid · RelabelShares: laid · RestLabels: laid.
  DERIVED. THE GIVEN ROWS OF THIS SEAT. 7 by the template 'for every input the law returns true; each argument reads behind the call as it read before'; 0 by the template 'total and deterministic' (their statements: YtndpjdmfkhjiiaaGreatDoorTotals.lean).
  GIVEN WITH THE SEED: the statements are not yours to turn. If you find one false, say at which input.
  Laid BY PROGRAM, IN A SANDBOX (cutbox-rows.mjs): the forced cells as the released guide's own fill.sh prints them over the translation e4d494ff15ab5d16… (all of the seat's roots in one cut). By AI agents, Wed Nov 11 2026. No macro, syntax, notation, axiom, sorry.
-/
import Derived.Test.YtndpjdmfkhjiiaaGreatDoorChecked
import GoSem.Claim
import GoSem.ClaimJoined
import GoSem.ClaimMapViews
import Derived.JoinedTies
import Derived.KernelRfl
namespace Go.Proofs.YtndpjdmfkhjiiaaGreatDoor
/- THE CELL 'sum', in the pinned program and in every row, IS THE sha256 OF THE DUMP (.gsa) THAT YtndpjdmfkhjiiaaGreatDoorProg.lean LOADS. Nothing in Lean hashes anything: it is a label: what it is worth is what the hold of that sum in a sandbox is worth. -/
noncomputable def Tryz.pinned : Pinned := { name := "ytndpjdmfkhjiiaagreatdoor", sum := "e4d494ff15ab5d161d9cd64b41f42f6f9e9417d195bc07b8e4ba59247b0c287c", checked := Tryz.checked }
namespace Rows
def none {H : Type} : Left H := { results := [], args := [] }

/- WHAT THE LISTED PACKAGE-LEVEL VARIABLES READ AS WHEN THE CALL BEGINS. Each datum BY PROGRAM (the guide's laid-datum.mjs) off the statement by which the dump's own 'gosem.cut.vars' lays the variable. In a bare row this is a premise. The card (YtndpjdmfkhjiiaaGreatDoorCards.lean) ties it to the program's text. -/
def laid_math_bits_deBruijn32tab {H : Type} : DataW H := .agg [.lit (.int .u8 0), .lit (.int .u8 1), .lit (.int .u8 28), .lit (.int .u8 2), .lit (.int .u8 29), .lit (.int .u8 14), .lit (.int .u8 24), .lit (.int .u8 3), .lit (.int .u8 30), .lit (.int .u8 22), .lit (.int .u8 20), .lit (.int .u8 15), .lit (.int .u8 25), .lit (.int .u8 17), .lit (.int .u8 4), .lit (.int .u8 8), .lit (.int .u8 31), .lit (.int .u8 27), .lit (.int .u8 13), .lit (.int .u8 23), .lit (.int .u8 21), .lit (.int .u8 19), .lit (.int .u8 16), .lit (.int .u8 7), .lit (.int .u8 26), .lit (.int .u8 12), .lit (.int .u8 18), .lit (.int .u8 6), .lit (.int .u8 11), .lit (.int .u8 5), .lit (.int .u8 10), .lit (.int .u8 9)]
def laid_math_bits_deBruijn64tab {H : Type} : DataW H := .agg [.lit (.int .u8 0), .lit (.int .u8 1), .lit (.int .u8 56), .lit (.int .u8 2), .lit (.int .u8 57), .lit (.int .u8 49), .lit (.int .u8 28), .lit (.int .u8 3), .lit (.int .u8 61), .lit (.int .u8 58), .lit (.int .u8 42), .lit (.int .u8 50), .lit (.int .u8 38), .lit (.int .u8 29), .lit (.int .u8 17), .lit (.int .u8 4), .lit (.int .u8 62), .lit (.int .u8 47), .lit (.int .u8 59), .lit (.int .u8 36), .lit (.int .u8 45), .lit (.int .u8 43), .lit (.int .u8 51), .lit (.int .u8 22), .lit (.int .u8 53), .lit (.int .u8 39), .lit (.int .u8 33), .lit (.int .u8 30), .lit (.int .u8 24), .lit (.int .u8 18), .lit (.int .u8 12), .lit (.int .u8 5), .lit (.int .u8 63), .lit (.int .u8 55), .lit (.int .u8 48), .lit (.int .u8 27), .lit (.int .u8 60), .lit (.int .u8 41), .lit (.int .u8 37), .lit (.int .u8 16), .lit (.int .u8 46), .lit (.int .u8 35), .lit (.int .u8 44), .lit (.int .u8 21), .lit (.int .u8 52), .lit (.int .u8 32), .lit (.int .u8 23), .lit (.int .u8 11), .lit (.int .u8 54), .lit (.int .u8 26), .lit (.int .u8 40), .lit (.int .u8 15), .lit (.int .u8 34), .lit (.int .u8 20), .lit (.int .u8 31), .lit (.int .u8 10), .lit (.int .u8 25), .lit (.int .u8 14), .lit (.int .u8 19), .lit (.int .u8 9), .lit (.int .u8 13), .lit (.int .u8 8), .lit (.int .u8 7), .lit (.int .u8 6)]
def laid_internal_strconv_uint64pow10 {H : Type} : DataW H := .agg [.lit (.int .u64 1), .lit (.int .u64 10), .lit (.int .u64 100), .lit (.int .u64 1000), .lit (.int .u64 10000), .lit (.int .u64 100000), .lit (.int .u64 1000000), .lit (.int .u64 10000000), .lit (.int .u64 100000000), .lit (.int .u64 1000000000), .lit (.int .u64 10000000000), .lit (.int .u64 100000000000), .lit (.int .u64 1000000000000), .lit (.int .u64 10000000000000), .lit (.int .u64 100000000000000), .lit (.int .u64 1000000000000000), .lit (.int .u64 10000000000000000), .lit (.int .u64 100000000000000000), .lit (.int .u64 1000000000000000000), .lit (.int .u64 10000000000000000000)]

/-- 'gleanerlaw.RelabelChecks': WHATEVER THE INPUT: true; the input reads as it did. -/
def relabelChecksSpec : ChangeSpec := { name := "relabelChecks", fn := fun _ => fun
  | [d] => { results := [.lit (.bool true)], args := [d] }
  | _ => none }
def relabelChecksRow : OpenClaim := { program := "ytndpjdmfkhjiiaagreatdoor", sum := "e4d494ff15ab5d161d9cd64b41f42f6f9e9417d195bc07b8e4ba59247b0c287c", func := "gleaner/gleanerlaw.RelabelChecks", spec := "relabelChecks", inPlace := ["internal/bytealg.IndexByteString", "internal/abi.NoEscape", "internal/bytealg.MakeNoZero"], unfollowed := true, recurses := true, named := ["internal/strconv.uint64pow10", "math/bits.deBruijn32tab", "math/bits.deBruijn64tab"], apart := false, laid := [("math/bits.deBruijn32tab", laid_math_bits_deBruijn32tab), ("math/bits.deBruijn64tab", laid_math_bits_deBruijn64tab), ("internal/strconv.uint64pow10", laid_internal_strconv_uint64pow10)] }
def RelabelChecksSaid : Prop := relabelChecksRow.holds Tryz.pinned (OpenSpec.ofChange relabelChecksSpec)

/-- ITS FALSE NEIGHBOUR: 'it returns false'. Refute it at one input. -/
def relabelChecksWrong : ChangeSpec := { name := "relabelChecks", fn := fun _ => fun
  | [d] => { results := [.lit (.bool false)], args := [d] }
  | _ => none }
def RelabelChecksWrongFalsely : Prop := relabelChecksRow.holds Tryz.pinned (OpenSpec.ofChange relabelChecksWrong)

/-- 'gleanerlaw.RelabelApplies': WHATEVER THE INPUT: true; the input reads as it did. -/
def relabelAppliesSpec : ChangeSpec := { name := "relabelApplies", fn := fun _ => fun
  | [d1, d2] => { results := [.lit (.bool true)], args := [d1, d2] }
  | _ => none }
def relabelAppliesRow : OpenClaim := { program := "ytndpjdmfkhjiiaagreatdoor", sum := "e4d494ff15ab5d161d9cd64b41f42f6f9e9417d195bc07b8e4ba59247b0c287c", func := "gleaner/gleanerlaw.RelabelApplies", spec := "relabelApplies", inPlace := ["internal/bytealg.IndexByteString", "internal/abi.NoEscape", "internal/bytealg.MakeNoZero"], unfollowed := true, recurses := true, named := ["internal/strconv.uint64pow10", "math/bits.deBruijn32tab", "math/bits.deBruijn64tab"], apart := false, laid := [("math/bits.deBruijn32tab", laid_math_bits_deBruijn32tab), ("math/bits.deBruijn64tab", laid_math_bits_deBruijn64tab), ("internal/strconv.uint64pow10", laid_internal_strconv_uint64pow10)] }
def RelabelAppliesSaid : Prop := relabelAppliesRow.holds Tryz.pinned (OpenSpec.ofChange relabelAppliesSpec)

/-- ITS FALSE NEIGHBOUR: 'it returns false'. Refute it at one input. -/
def relabelAppliesWrong : ChangeSpec := { name := "relabelApplies", fn := fun _ => fun
  | [d1, d2] => { results := [.lit (.bool false)], args := [d1, d2] }
  | _ => none }
def RelabelAppliesWrongFalsely : Prop := relabelAppliesRow.holds Tryz.pinned (OpenSpec.ofChange relabelAppliesWrong)

/-- 'gleanerlaw.RelabelJoins': WHATEVER THE INPUT: true; the input reads as it did. -/
def relabelJoinsSpec : ChangeSpec := { name := "relabelJoins", fn := fun _ => fun
  | [d1, d2, d3] => { results := [.lit (.bool true)], args := [d1, d2, d3] }
  | _ => none }
def relabelJoinsRow : OpenClaim := { program := "ytndpjdmfkhjiiaagreatdoor", sum := "e4d494ff15ab5d161d9cd64b41f42f6f9e9417d195bc07b8e4ba59247b0c287c", func := "gleaner/gleanerlaw.RelabelJoins", spec := "relabelJoins", inPlace := ["internal/bytealg.IndexByteString", "internal/abi.NoEscape", "internal/bytealg.MakeNoZero"], unfollowed := true, recurses := true, named := ["internal/strconv.uint64pow10", "math/bits.deBruijn32tab", "math/bits.deBruijn64tab"], apart := false, laid := [("math/bits.deBruijn32tab", laid_math_bits_deBruijn32tab), ("math/bits.deBruijn64tab", laid_math_bits_deBruijn64tab), ("internal/strconv.uint64pow10", laid_internal_strconv_uint64pow10)] }
def RelabelJoinsSaid : Prop := relabelJoinsRow.holds Tryz.pinned (OpenSpec.ofChange relabelJoinsSpec)

/-- ITS FALSE NEIGHBOUR: 'it returns false'. Refute it at one input. -/
def relabelJoinsWrong : ChangeSpec := { name := "relabelJoins", fn := fun _ => fun
  | [d1, d2, d3] => { results := [.lit (.bool false)], args := [d1, d2, d3] }
  | _ => none }
def RelabelJoinsWrongFalsely : Prop := relabelJoinsRow.holds Tryz.pinned (OpenSpec.ofChange relabelJoinsWrong)

/-- 'gleanerlaw.RelabelNone': WHATEVER THE INPUT: true; the input reads as it did. -/
def relabelNoneSpec : ChangeSpec := { name := "relabelNone", fn := fun _ => fun
  | [d1, d2, d3] => { results := [.lit (.bool true)], args := [d1, d2, d3] }
  | _ => none }
def relabelNoneRow : OpenClaim := { program := "ytndpjdmfkhjiiaagreatdoor", sum := "e4d494ff15ab5d161d9cd64b41f42f6f9e9417d195bc07b8e4ba59247b0c287c", func := "gleaner/gleanerlaw.RelabelNone", spec := "relabelNone", inPlace := ["internal/bytealg.IndexByteString", "internal/abi.NoEscape", "internal/bytealg.MakeNoZero"], unfollowed := true, recurses := true, named := ["internal/strconv.uint64pow10", "math/bits.deBruijn32tab", "math/bits.deBruijn64tab"], apart := false, laid := [("math/bits.deBruijn32tab", laid_math_bits_deBruijn32tab), ("math/bits.deBruijn64tab", laid_math_bits_deBruijn64tab), ("internal/strconv.uint64pow10", laid_internal_strconv_uint64pow10)] }
def RelabelNoneSaid : Prop := relabelNoneRow.holds Tryz.pinned (OpenSpec.ofChange relabelNoneSpec)

/-- ITS FALSE NEIGHBOUR: 'it returns false'. Refute it at one input. -/
def relabelNoneWrong : ChangeSpec := { name := "relabelNone", fn := fun _ => fun
  | [d1, d2, d3] => { results := [.lit (.bool false)], args := [d1, d2, d3] }
  | _ => none }
def RelabelNoneWrongFalsely : Prop := relabelNoneRow.holds Tryz.pinned (OpenSpec.ofChange relabelNoneWrong)

/-- 'gleanerlaw.RelabelHolds': WHATEVER THE INPUT: true; the input reads as it did. -/
def relabelHoldsSpec : ChangeSpec := { name := "relabelHolds", fn := fun _ => fun
  | [d1, d2] => { results := [.lit (.bool true)], args := [d1, d2] }
  | _ => none }
def relabelHoldsRow : OpenClaim := { program := "ytndpjdmfkhjiiaagreatdoor", sum := "e4d494ff15ab5d161d9cd64b41f42f6f9e9417d195bc07b8e4ba59247b0c287c", func := "gleaner/gleanerlaw.RelabelHolds", spec := "relabelHolds", inPlace := ["internal/bytealg.IndexByteString", "internal/abi.NoEscape", "internal/bytealg.MakeNoZero"], unfollowed := true, recurses := true, named := ["internal/strconv.uint64pow10", "math/bits.deBruijn32tab", "math/bits.deBruijn64tab"], apart := false, laid := [("math/bits.deBruijn32tab", laid_math_bits_deBruijn32tab), ("math/bits.deBruijn64tab", laid_math_bits_deBruijn64tab), ("internal/strconv.uint64pow10", laid_internal_strconv_uint64pow10)] }
def RelabelHoldsSaid : Prop := relabelHoldsRow.holds Tryz.pinned (OpenSpec.ofChange relabelHoldsSpec)

/-- ITS FALSE NEIGHBOUR: 'it returns false'. Refute it at one input. -/
def relabelHoldsWrong : ChangeSpec := { name := "relabelHolds", fn := fun _ => fun
  | [d1, d2] => { results := [.lit (.bool false)], args := [d1, d2] }
  | _ => none }
def RelabelHoldsWrongFalsely : Prop := relabelHoldsRow.holds Tryz.pinned (OpenSpec.ofChange relabelHoldsWrong)

/-- 'gleanerlaw.RelabelShares': WHATEVER THE INPUT: true; the input reads as it did. -/
def relabelSharesSpec : ChangeSpec := { name := "relabelShares", fn := fun _ => fun
  | [d1, d2, d3] => { results := [.lit (.bool true)], args := [d1, d2, d3] }
  | _ => none }
def relabelSharesRow : OpenClaim := { program := "ytndpjdmfkhjiiaagreatdoor", sum := "e4d494ff15ab5d161d9cd64b41f42f6f9e9417d195bc07b8e4ba59247b0c287c", func := "gleaner/gleanerlaw.RelabelShares", spec := "relabelShares", inPlace := ["internal/bytealg.IndexByteString", "internal/abi.NoEscape", "internal/bytealg.MakeNoZero"], unfollowed := true, recurses := true, named := ["internal/strconv.uint64pow10", "math/bits.deBruijn32tab", "math/bits.deBruijn64tab"], apart := false, laid := [("math/bits.deBruijn32tab", laid_math_bits_deBruijn32tab), ("math/bits.deBruijn64tab", laid_math_bits_deBruijn64tab), ("internal/strconv.uint64pow10", laid_internal_strconv_uint64pow10)] }
def RelabelSharesSaid : Prop := relabelSharesRow.holds Tryz.pinned (OpenSpec.ofChange relabelSharesSpec)

/-- ITS FALSE NEIGHBOUR: 'it returns false'. Refute it at one input. -/
def relabelSharesWrong : ChangeSpec := { name := "relabelShares", fn := fun _ => fun
  | [d1, d2, d3] => { results := [.lit (.bool false)], args := [d1, d2, d3] }
  | _ => none }
def RelabelSharesWrongFalsely : Prop := relabelSharesRow.holds Tryz.pinned (OpenSpec.ofChange relabelSharesWrong)

/-- 'gleanerlaw.RestLabels': WHATEVER THE INPUT: true; the input reads as it did. -/
def restLabelsSpec : ChangeSpec := { name := "restLabels", fn := fun _ => fun
  | [d1, d2, d3, d4, d5, d6] => { results := [.lit (.bool true)], args := [d1, d2, d3, d4, d5, d6] }
  | _ => none }
def restLabelsRow : OpenClaim := { program := "ytndpjdmfkhjiiaagreatdoor", sum := "e4d494ff15ab5d161d9cd64b41f42f6f9e9417d195bc07b8e4ba59247b0c287c", func := "gleaner/gleanerlaw.RestLabels", spec := "restLabels", inPlace := ["internal/abi.NoEscape", "internal/bytealg.MakeNoZero", "internal/bytealg.IndexByteString"], unfollowed := true, recurses := true, named := ["internal/strconv.uint64pow10", "math/bits.deBruijn32tab", "math/bits.deBruijn64tab"], apart := false, laid := [("math/bits.deBruijn32tab", laid_math_bits_deBruijn32tab), ("math/bits.deBruijn64tab", laid_math_bits_deBruijn64tab), ("internal/strconv.uint64pow10", laid_internal_strconv_uint64pow10)] }
def RestLabelsSaid : Prop := restLabelsRow.holds Tryz.pinned (OpenSpec.ofChange restLabelsSpec)

/-- ITS FALSE NEIGHBOUR: 'it returns false'. Refute it at one input. -/
def restLabelsWrong : ChangeSpec := { name := "restLabels", fn := fun _ => fun
  | [d1, d2, d3, d4, d5, d6] => { results := [.lit (.bool false)], args := [d1, d2, d3, d4, d5, d6] }
  | _ => none }
def RestLabelsWrongFalsely : Prop := restLabelsRow.holds Tryz.pinned (OpenSpec.ofChange restLabelsWrong)

/- THE SECOND FORM. 'bulk': how many values and letters a reading holds, each counted each time it is reached (what is shared counts as often as it is met; a slice's spare places count too). A statement '..UptoSaid' is the law's where the arguments, and the package variables that the reading takes, are together of bulk at most 1048576: NARROWER than '..Said'. Prove '..Said' where nothing that the law and all that it calls make is longer than what came in: it says more and counts as full. Else prove '..UptoSaid'. A law counts once. -/
mutual
def uptoBulk {H : Type} : DataW H → Nat
  | .lit (.string bytes) => bytes.length + 1
  | .lit _ => 1
  | .nil => 1
  | .ptr d => uptoBulk d + 1
  | .slice elems spare => uptoBulkAll elems + uptoBulkAll spare + 1
  | .agg parts => uptoBulkAll parts + 1
  | .iface _ d => uptoBulk d + 1
  | .map entries => uptoBulkEntries entries + 1
  | .held _ => 1
def uptoBulkAll {H : Type} : List (DataW H) → Nat
  | [] => 0
  | d :: r => uptoBulk d + uptoBulkAll r
def uptoBulkEntries {H : Type} : List (Lit × DataW H) → Nat
  | [] => 0
  | x :: r => uptoBulkEntry x + uptoBulkEntries r
def uptoBulkEntry {H : Type} : Lit × DataW H → Nat
  | (.string bytes, d) => bytes.length + uptoBulk d + 1
  | (_, d) => uptoBulk d + 1
 end
def uptoSmall : (H : Type) → List (DataW H) → Bool := fun _ ds => decide (uptoBulkAll ds ≤ 1048576)
def OpenSpec.upto (s : _root_.Go.ChangeSpec) : _root_.Go.OpenSpec := { _root_.Go.OpenSpec.ofChange s with cond := some uptoSmall }

/-- 'gleanerlaw.RelabelChecks', WHERE WHAT IT READS IS OF BULK AT MOST 1048576: true; the input reads as it did. -/
def relabelChecksUptoRow : OpenClaim := { program := "ytndpjdmfkhjiiaagreatdoor", sum := "e4d494ff15ab5d161d9cd64b41f42f6f9e9417d195bc07b8e4ba59247b0c287c", func := "gleaner/gleanerlaw.RelabelChecks", spec := "relabelChecks", inPlace := ["internal/bytealg.IndexByteString", "internal/abi.NoEscape", "internal/bytealg.MakeNoZero"], unfollowed := true, recurses := true, named := ["internal/strconv.uint64pow10", "math/bits.deBruijn32tab", "math/bits.deBruijn64tab"], apart := false, laid := [("math/bits.deBruijn32tab", laid_math_bits_deBruijn32tab), ("math/bits.deBruijn64tab", laid_math_bits_deBruijn64tab), ("internal/strconv.uint64pow10", laid_internal_strconv_uint64pow10)], narrowed := true }
def RelabelChecksUptoSaid : Prop := relabelChecksUptoRow.holds Tryz.pinned (OpenSpec.upto relabelChecksSpec)

/-- 'gleanerlaw.RelabelApplies', WHERE WHAT IT READS IS OF BULK AT MOST 1048576: true; the input reads as it did. -/
def relabelAppliesUptoRow : OpenClaim := { program := "ytndpjdmfkhjiiaagreatdoor", sum := "e4d494ff15ab5d161d9cd64b41f42f6f9e9417d195bc07b8e4ba59247b0c287c", func := "gleaner/gleanerlaw.RelabelApplies", spec := "relabelApplies", inPlace := ["internal/bytealg.IndexByteString", "internal/abi.NoEscape", "internal/bytealg.MakeNoZero"], unfollowed := true, recurses := true, named := ["internal/strconv.uint64pow10", "math/bits.deBruijn32tab", "math/bits.deBruijn64tab"], apart := false, laid := [("math/bits.deBruijn32tab", laid_math_bits_deBruijn32tab), ("math/bits.deBruijn64tab", laid_math_bits_deBruijn64tab), ("internal/strconv.uint64pow10", laid_internal_strconv_uint64pow10)], narrowed := true }
def RelabelAppliesUptoSaid : Prop := relabelAppliesUptoRow.holds Tryz.pinned (OpenSpec.upto relabelAppliesSpec)

/-- 'gleanerlaw.RelabelJoins', WHERE WHAT IT READS IS OF BULK AT MOST 1048576: true; the input reads as it did. -/
def relabelJoinsUptoRow : OpenClaim := { program := "ytndpjdmfkhjiiaagreatdoor", sum := "e4d494ff15ab5d161d9cd64b41f42f6f9e9417d195bc07b8e4ba59247b0c287c", func := "gleaner/gleanerlaw.RelabelJoins", spec := "relabelJoins", inPlace := ["internal/bytealg.IndexByteString", "internal/abi.NoEscape", "internal/bytealg.MakeNoZero"], unfollowed := true, recurses := true, named := ["internal/strconv.uint64pow10", "math/bits.deBruijn32tab", "math/bits.deBruijn64tab"], apart := false, laid := [("math/bits.deBruijn32tab", laid_math_bits_deBruijn32tab), ("math/bits.deBruijn64tab", laid_math_bits_deBruijn64tab), ("internal/strconv.uint64pow10", laid_internal_strconv_uint64pow10)], narrowed := true }
def RelabelJoinsUptoSaid : Prop := relabelJoinsUptoRow.holds Tryz.pinned (OpenSpec.upto relabelJoinsSpec)

/-- 'gleanerlaw.RelabelNone', WHERE WHAT IT READS IS OF BULK AT MOST 1048576: true; the input reads as it did. -/
def relabelNoneUptoRow : OpenClaim := { program := "ytndpjdmfkhjiiaagreatdoor", sum := "e4d494ff15ab5d161d9cd64b41f42f6f9e9417d195bc07b8e4ba59247b0c287c", func := "gleaner/gleanerlaw.RelabelNone", spec := "relabelNone", inPlace := ["internal/bytealg.IndexByteString", "internal/abi.NoEscape", "internal/bytealg.MakeNoZero"], unfollowed := true, recurses := true, named := ["internal/strconv.uint64pow10", "math/bits.deBruijn32tab", "math/bits.deBruijn64tab"], apart := false, laid := [("math/bits.deBruijn32tab", laid_math_bits_deBruijn32tab), ("math/bits.deBruijn64tab", laid_math_bits_deBruijn64tab), ("internal/strconv.uint64pow10", laid_internal_strconv_uint64pow10)], narrowed := true }
def RelabelNoneUptoSaid : Prop := relabelNoneUptoRow.holds Tryz.pinned (OpenSpec.upto relabelNoneSpec)

/-- 'gleanerlaw.RelabelHolds', WHERE WHAT IT READS IS OF BULK AT MOST 1048576: true; the input reads as it did. -/
def relabelHoldsUptoRow : OpenClaim := { program := "ytndpjdmfkhjiiaagreatdoor", sum := "e4d494ff15ab5d161d9cd64b41f42f6f9e9417d195bc07b8e4ba59247b0c287c", func := "gleaner/gleanerlaw.RelabelHolds", spec := "relabelHolds", inPlace := ["internal/bytealg.IndexByteString", "internal/abi.NoEscape", "internal/bytealg.MakeNoZero"], unfollowed := true, recurses := true, named := ["internal/strconv.uint64pow10", "math/bits.deBruijn32tab", "math/bits.deBruijn64tab"], apart := false, laid := [("math/bits.deBruijn32tab", laid_math_bits_deBruijn32tab), ("math/bits.deBruijn64tab", laid_math_bits_deBruijn64tab), ("internal/strconv.uint64pow10", laid_internal_strconv_uint64pow10)], narrowed := true }
def RelabelHoldsUptoSaid : Prop := relabelHoldsUptoRow.holds Tryz.pinned (OpenSpec.upto relabelHoldsSpec)

/-- 'gleanerlaw.RelabelShares', WHERE WHAT IT READS IS OF BULK AT MOST 1048576: true; the input reads as it did. -/
def relabelSharesUptoRow : OpenClaim := { program := "ytndpjdmfkhjiiaagreatdoor", sum := "e4d494ff15ab5d161d9cd64b41f42f6f9e9417d195bc07b8e4ba59247b0c287c", func := "gleaner/gleanerlaw.RelabelShares", spec := "relabelShares", inPlace := ["internal/bytealg.IndexByteString", "internal/abi.NoEscape", "internal/bytealg.MakeNoZero"], unfollowed := true, recurses := true, named := ["internal/strconv.uint64pow10", "math/bits.deBruijn32tab", "math/bits.deBruijn64tab"], apart := false, laid := [("math/bits.deBruijn32tab", laid_math_bits_deBruijn32tab), ("math/bits.deBruijn64tab", laid_math_bits_deBruijn64tab), ("internal/strconv.uint64pow10", laid_internal_strconv_uint64pow10)], narrowed := true }
def RelabelSharesUptoSaid : Prop := relabelSharesUptoRow.holds Tryz.pinned (OpenSpec.upto relabelSharesSpec)

/-- 'gleanerlaw.RestLabels', WHERE WHAT IT READS IS OF BULK AT MOST 1048576: true; the input reads as it did. -/
def restLabelsUptoRow : OpenClaim := { program := "ytndpjdmfkhjiiaagreatdoor", sum := "e4d494ff15ab5d161d9cd64b41f42f6f9e9417d195bc07b8e4ba59247b0c287c", func := "gleaner/gleanerlaw.RestLabels", spec := "restLabels", inPlace := ["internal/abi.NoEscape", "internal/bytealg.MakeNoZero", "internal/bytealg.IndexByteString"], unfollowed := true, recurses := true, named := ["internal/strconv.uint64pow10", "math/bits.deBruijn32tab", "math/bits.deBruijn64tab"], apart := false, laid := [("math/bits.deBruijn32tab", laid_math_bits_deBruijn32tab), ("math/bits.deBruijn64tab", laid_math_bits_deBruijn64tab), ("internal/strconv.uint64pow10", laid_internal_strconv_uint64pow10)], narrowed := true }
def RestLabelsUptoSaid : Prop := restLabelsUptoRow.holds Tryz.pinned (OpenSpec.upto restLabelsSpec)

end Rows
end Go.Proofs.YtndpjdmfkhjiiaaGreatDoor
