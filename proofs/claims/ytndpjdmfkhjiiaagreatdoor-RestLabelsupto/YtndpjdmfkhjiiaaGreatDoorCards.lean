/-
  DERIVED. GIVEN WITH THE SEED: THE CARDS: each row of YtndpjdmfkhjiiaaGreatDoorRows.lean that lists a variable, with what it lists TIED to the program's text (the seventh form; the later family's looks); each row that meets fmt, with fmt's text TOLD by the authors' own Lean function (tested against real Go, not proved from fmt's source: count such statements apart). THE CARD IS WHAT COUNTS. Prove the row's statement (the work); the ties are given (YtndpjdmfkhjiiaaGreatDoorTie.lean); close each card by the builder's one call (the guide's Derived/Test/ToyasCard.lean, 'card_holds'). Laid BY PROGRAM, IN A SANDBOX (cutbox-door.mjs). By AI agents, Wed Nov 11 2026. No macro, syntax, notation, axiom, sorry.
-/
import Derived.Test.YtndpjdmfkhjiiaaGreatDoorRows
import GoSem.ClaimSeven
namespace Go.Proofs.YtndpjdmfkhjiiaaGreatDoor
namespace Rows

/-- THE TIED CARD OF 'gleanerlaw.RelabelChecks'. -/
def relabelChecksCard : Claim7 := { stood := { row := relabelChecksRow, standIns := [], harness := (true, "c6e79ba0c3433a0e8b2e6bd1f5e3288bf5114c0a2267dd42f87326c4c7069a81"), looks := true }, kinds := [], alts := [], laidByText := true, laidKinds := [.data, .data, .data], laidTests := true, laidLooks := .later }
def RelabelChecksCardSaid : Prop := Claim7.holds Tryz.pinned (.plain (OpenSpec.ofChange relabelChecksSpec)) relabelChecksCard

/-- THE TIED CARD OF 'gleanerlaw.RelabelApplies'. -/
def relabelAppliesCard : Claim7 := { stood := { row := relabelAppliesRow, standIns := [], harness := (true, "c6e79ba0c3433a0e8b2e6bd1f5e3288bf5114c0a2267dd42f87326c4c7069a81"), looks := true }, kinds := [], alts := [], laidByText := true, laidKinds := [.data, .data, .data], laidTests := true, laidLooks := .later }
def RelabelAppliesCardSaid : Prop := Claim7.holds Tryz.pinned (.plain (OpenSpec.ofChange relabelAppliesSpec)) relabelAppliesCard

/-- THE TIED CARD OF 'gleanerlaw.RelabelJoins'. -/
def relabelJoinsCard : Claim7 := { stood := { row := relabelJoinsRow, standIns := [], harness := (true, "c6e79ba0c3433a0e8b2e6bd1f5e3288bf5114c0a2267dd42f87326c4c7069a81"), looks := true }, kinds := [], alts := [], laidByText := true, laidKinds := [.data, .data, .data], laidTests := true, laidLooks := .later }
def RelabelJoinsCardSaid : Prop := Claim7.holds Tryz.pinned (.plain (OpenSpec.ofChange relabelJoinsSpec)) relabelJoinsCard

/-- THE TIED CARD OF 'gleanerlaw.RelabelNone'. -/
def relabelNoneCard : Claim7 := { stood := { row := relabelNoneRow, standIns := [], harness := (true, "c6e79ba0c3433a0e8b2e6bd1f5e3288bf5114c0a2267dd42f87326c4c7069a81"), looks := true }, kinds := [], alts := [], laidByText := true, laidKinds := [.data, .data, .data], laidTests := true, laidLooks := .later }
def RelabelNoneCardSaid : Prop := Claim7.holds Tryz.pinned (.plain (OpenSpec.ofChange relabelNoneSpec)) relabelNoneCard

/-- THE TIED CARD OF 'gleanerlaw.RelabelHolds'. -/
def relabelHoldsCard : Claim7 := { stood := { row := relabelHoldsRow, standIns := [], harness := (true, "c6e79ba0c3433a0e8b2e6bd1f5e3288bf5114c0a2267dd42f87326c4c7069a81"), looks := true }, kinds := [], alts := [], laidByText := true, laidKinds := [.data, .data, .data], laidTests := true, laidLooks := .later }
def RelabelHoldsCardSaid : Prop := Claim7.holds Tryz.pinned (.plain (OpenSpec.ofChange relabelHoldsSpec)) relabelHoldsCard

/-- THE TIED CARD OF 'gleanerlaw.RelabelShares'. -/
def relabelSharesCard : Claim7 := { stood := { row := relabelSharesRow, standIns := [], harness := (true, "c6e79ba0c3433a0e8b2e6bd1f5e3288bf5114c0a2267dd42f87326c4c7069a81"), looks := true }, kinds := [], alts := [], laidByText := true, laidKinds := [.data, .data, .data], laidTests := true, laidLooks := .later }
def RelabelSharesCardSaid : Prop := Claim7.holds Tryz.pinned (.plain (OpenSpec.ofChange relabelSharesSpec)) relabelSharesCard

/-- THE TIED CARD OF 'gleanerlaw.RestLabels'. -/
def restLabelsCard : Claim7 := { stood := { row := restLabelsRow, standIns := [], harness := (true, "c6e79ba0c3433a0e8b2e6bd1f5e3288bf5114c0a2267dd42f87326c4c7069a81"), looks := true }, kinds := [], alts := [], laidByText := true, laidKinds := [.data, .data, .data], laidTests := true, laidLooks := .later }
def RestLabelsCardSaid : Prop := Claim7.holds Tryz.pinned (.plain (OpenSpec.ofChange restLabelsSpec)) restLabelsCard

/-- THE SECOND FORM's CARD OF 'gleanerlaw.RelabelChecks'. -/
def relabelChecksUptoCard : Claim7 := { stood := { row := relabelChecksUptoRow, standIns := [], harness := (true, "c6e79ba0c3433a0e8b2e6bd1f5e3288bf5114c0a2267dd42f87326c4c7069a81"), looks := true }, kinds := [], alts := [], laidByText := true, laidKinds := [.data, .data, .data], laidTests := true, laidLooks := .later }
def RelabelChecksUptoCardSaid : Prop := Claim7.holds Tryz.pinned (.plain (OpenSpec.upto relabelChecksSpec)) relabelChecksUptoCard

/-- THE SECOND FORM's CARD OF 'gleanerlaw.RelabelApplies'. -/
def relabelAppliesUptoCard : Claim7 := { stood := { row := relabelAppliesUptoRow, standIns := [], harness := (true, "c6e79ba0c3433a0e8b2e6bd1f5e3288bf5114c0a2267dd42f87326c4c7069a81"), looks := true }, kinds := [], alts := [], laidByText := true, laidKinds := [.data, .data, .data], laidTests := true, laidLooks := .later }
def RelabelAppliesUptoCardSaid : Prop := Claim7.holds Tryz.pinned (.plain (OpenSpec.upto relabelAppliesSpec)) relabelAppliesUptoCard

/-- THE SECOND FORM's CARD OF 'gleanerlaw.RelabelJoins'. -/
def relabelJoinsUptoCard : Claim7 := { stood := { row := relabelJoinsUptoRow, standIns := [], harness := (true, "c6e79ba0c3433a0e8b2e6bd1f5e3288bf5114c0a2267dd42f87326c4c7069a81"), looks := true }, kinds := [], alts := [], laidByText := true, laidKinds := [.data, .data, .data], laidTests := true, laidLooks := .later }
def RelabelJoinsUptoCardSaid : Prop := Claim7.holds Tryz.pinned (.plain (OpenSpec.upto relabelJoinsSpec)) relabelJoinsUptoCard

/-- THE SECOND FORM's CARD OF 'gleanerlaw.RelabelNone'. -/
def relabelNoneUptoCard : Claim7 := { stood := { row := relabelNoneUptoRow, standIns := [], harness := (true, "c6e79ba0c3433a0e8b2e6bd1f5e3288bf5114c0a2267dd42f87326c4c7069a81"), looks := true }, kinds := [], alts := [], laidByText := true, laidKinds := [.data, .data, .data], laidTests := true, laidLooks := .later }
def RelabelNoneUptoCardSaid : Prop := Claim7.holds Tryz.pinned (.plain (OpenSpec.upto relabelNoneSpec)) relabelNoneUptoCard

/-- THE SECOND FORM's CARD OF 'gleanerlaw.RelabelHolds'. -/
def relabelHoldsUptoCard : Claim7 := { stood := { row := relabelHoldsUptoRow, standIns := [], harness := (true, "c6e79ba0c3433a0e8b2e6bd1f5e3288bf5114c0a2267dd42f87326c4c7069a81"), looks := true }, kinds := [], alts := [], laidByText := true, laidKinds := [.data, .data, .data], laidTests := true, laidLooks := .later }
def RelabelHoldsUptoCardSaid : Prop := Claim7.holds Tryz.pinned (.plain (OpenSpec.upto relabelHoldsSpec)) relabelHoldsUptoCard

/-- THE SECOND FORM's CARD OF 'gleanerlaw.RelabelShares'. -/
def relabelSharesUptoCard : Claim7 := { stood := { row := relabelSharesUptoRow, standIns := [], harness := (true, "c6e79ba0c3433a0e8b2e6bd1f5e3288bf5114c0a2267dd42f87326c4c7069a81"), looks := true }, kinds := [], alts := [], laidByText := true, laidKinds := [.data, .data, .data], laidTests := true, laidLooks := .later }
def RelabelSharesUptoCardSaid : Prop := Claim7.holds Tryz.pinned (.plain (OpenSpec.upto relabelSharesSpec)) relabelSharesUptoCard

/-- THE SECOND FORM's CARD OF 'gleanerlaw.RestLabels'. -/
def restLabelsUptoCard : Claim7 := { stood := { row := restLabelsUptoRow, standIns := [], harness := (true, "c6e79ba0c3433a0e8b2e6bd1f5e3288bf5114c0a2267dd42f87326c4c7069a81"), looks := true }, kinds := [], alts := [], laidByText := true, laidKinds := [.data, .data, .data], laidTests := true, laidLooks := .later }
def RestLabelsUptoCardSaid : Prop := Claim7.holds Tryz.pinned (.plain (OpenSpec.upto restLabelsSpec)) restLabelsUptoCard
end Rows
end Go.Proofs.YtndpjdmfkhjiiaaGreatDoor
