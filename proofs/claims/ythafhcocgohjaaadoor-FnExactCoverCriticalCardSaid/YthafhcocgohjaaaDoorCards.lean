/-
  DERIVED. GIVEN WITH THE SEED: THE CARDS: each row of YthafhcocgohjaaaDoorRows.lean that lists a variable, with what it lists TIED to the program's text (the seventh form; the later family's looks); each row that meets fmt, with fmt's text TOLD by the authors' own Lean function (tested against real Go, not proved from fmt's source: count such statements apart). THE CARD IS WHAT COUNTS. Prove the row's statement (the work); the ties are given (YthafhcocgohjaaaDoorTie.lean); close each card by the builder's one call (the guide's Derived/Test/ToyasCard.lean, 'card_holds'). Laid BY PROGRAM, IN A SANDBOX (cutbox-door.mjs). By AI agents, Wed Nov 11 2026. No macro, syntax, notation, axiom, sorry.
-/
import Derived.Test.YthafhcocgohjaaaDoorRows
import GoSem.ClaimSeven
namespace Go.Proofs.YthafhcocgohjaaaDoor
namespace Rows

/-- THE TIED CARD OF 'laws.FnExactCoverCritical'. -/
def fnExactCoverCriticalCard : Claim7 := { stood := { row := fnExactCoverCriticalRow, standIns := [], harness := (true, "c49bd6bc3bc89f55c31c00bd786830134ced8f1ddf7b0fd802e37e786fc82be6"), looks := false }, kinds := [], alts := [], laidByText := true, laidKinds := [.data, .data], laidTests := true, laidLooks := .later }
def FnExactCoverCriticalCardSaid : Prop := Claim7.holds Tryd.pinned (.plain (OpenSpec.ofChange fnExactCoverCriticalSpec)) fnExactCoverCriticalCard

/-- THE TIED CARD OF 'laws.FnExactCoverThree'. -/
def fnExactCoverThreeCard : Claim7 := { stood := { row := fnExactCoverThreeRow, standIns := [], harness := (true, "c49bd6bc3bc89f55c31c00bd786830134ced8f1ddf7b0fd802e37e786fc82be6"), looks := false }, kinds := [], alts := [], laidByText := true, laidKinds := [.data, .data], laidTests := true, laidLooks := .later }
def FnExactCoverThreeCardSaid : Prop := Claim7.holds Tryd.pinned (.plain (OpenSpec.ofChange fnExactCoverThreeSpec)) fnExactCoverThreeCard

/-- THE TIED CARD OF 'laws.FnExactCoverLoss'. -/
def fnExactCoverLossCard : Claim7 := { stood := { row := fnExactCoverLossRow, standIns := [], harness := (true, "c49bd6bc3bc89f55c31c00bd786830134ced8f1ddf7b0fd802e37e786fc82be6"), looks := false }, kinds := [], alts := [], laidByText := true, laidKinds := [.data, .data], laidTests := true, laidLooks := .later }
def FnExactCoverLossCardSaid : Prop := Claim7.holds Tryd.pinned (.plain (OpenSpec.ofChange fnExactCoverLossSpec)) fnExactCoverLossCard

/-- THE TIED CARD OF 'laws.FnExactMatchAllowed'. -/
def fnExactMatchAllowedCard : Claim7 := { stood := { row := fnExactMatchAllowedRow, standIns := [], harness := (true, "c49bd6bc3bc89f55c31c00bd786830134ced8f1ddf7b0fd802e37e786fc82be6"), looks := false }, kinds := [], alts := [], laidByText := true, laidKinds := [.data, .data], laidTests := true, laidLooks := .later }
def FnExactMatchAllowedCardSaid : Prop := Claim7.holds Tryd.pinned (.plain (OpenSpec.ofChange fnExactMatchAllowedSpec)) fnExactMatchAllowedCard

/-- THE TIED CARD OF 'laws.FnExactGraphBeside'. -/
def fnExactGraphBesideCard : Claim7 := { stood := { row := fnExactGraphBesideRow, standIns := [], harness := (true, "c49bd6bc3bc89f55c31c00bd786830134ced8f1ddf7b0fd802e37e786fc82be6"), looks := false }, kinds := [], alts := [], laidByText := true, laidKinds := [.data, .data], laidTests := true, laidLooks := .later }
def FnExactGraphBesideCardSaid : Prop := Claim7.holds Tryd.pinned (.plain (OpenSpec.ofChange fnExactGraphBesideSpec)) fnExactGraphBesideCard

/-- THE TIED CARD OF 'laws.FnExactTableGraph'. -/
def fnExactTableGraphCard : Claim7 := { stood := { row := fnExactTableGraphRow, standIns := [], harness := (true, "c49bd6bc3bc89f55c31c00bd786830134ced8f1ddf7b0fd802e37e786fc82be6"), looks := false }, kinds := [], alts := [], laidByText := true, laidKinds := [.data, .data], laidTests := true, laidLooks := .later }
def FnExactTableGraphCardSaid : Prop := Claim7.holds Tryd.pinned (.plain (OpenSpec.ofChange fnExactTableGraphSpec)) fnExactTableGraphCard

/-- THE TIED CARD OF 'laws.FnExactTableDet'. -/
def fnExactTableDetCard : Claim7 := { stood := { row := fnExactTableDetRow, standIns := [], harness := (true, "c49bd6bc3bc89f55c31c00bd786830134ced8f1ddf7b0fd802e37e786fc82be6"), looks := false }, kinds := [], alts := [], laidByText := true, laidKinds := [.data, .data], laidTests := true, laidLooks := .later }
def FnExactTableDetCardSaid : Prop := Claim7.holds Tryd.pinned (.plain (OpenSpec.ofChange fnExactTableDetSpec)) fnExactTableDetCard

/-- THE TIED CARD OF 'laws.FnExactTablePermanent'. -/
def fnExactTablePermanentCard : Claim7 := { stood := { row := fnExactTablePermanentRow, standIns := [], harness := (true, "c49bd6bc3bc89f55c31c00bd786830134ced8f1ddf7b0fd802e37e786fc82be6"), looks := false }, kinds := [], alts := [], laidByText := true, laidKinds := [.data, .data], laidTests := true, laidLooks := .later }
def FnExactTablePermanentCardSaid : Prop := Claim7.holds Tryd.pinned (.plain (OpenSpec.ofChange fnExactTablePermanentSpec)) fnExactTablePermanentCard

/-- THE TIED CARD OF 'laws.FnExactMatchIn'. -/
def fnExactMatchInCard : Claim7 := { stood := { row := fnExactMatchInRow, standIns := [], harness := (true, "c49bd6bc3bc89f55c31c00bd786830134ced8f1ddf7b0fd802e37e786fc82be6"), looks := false }, kinds := [], alts := [], laidByText := true, laidKinds := [.data, .data], laidTests := true, laidLooks := .later }
def FnExactMatchInCardSaid : Prop := Claim7.holds Tryd.pinned (.plain (OpenSpec.ofChange fnExactMatchInSpec)) fnExactMatchInCard

/-- THE SECOND FORM's CARD OF 'laws.FnExactCoverCritical'. -/
def fnExactCoverCriticalUptoCard : Claim7 := { stood := { row := fnExactCoverCriticalUptoRow, standIns := [], harness := (true, "c49bd6bc3bc89f55c31c00bd786830134ced8f1ddf7b0fd802e37e786fc82be6"), looks := false }, kinds := [], alts := [], laidByText := true, laidKinds := [.data, .data], laidTests := true, laidLooks := .later }
def FnExactCoverCriticalUptoCardSaid : Prop := Claim7.holds Tryd.pinned (.plain (OpenSpec.upto fnExactCoverCriticalSpec)) fnExactCoverCriticalUptoCard

/-- THE SECOND FORM's CARD OF 'laws.FnExactCoverThree'. -/
def fnExactCoverThreeUptoCard : Claim7 := { stood := { row := fnExactCoverThreeUptoRow, standIns := [], harness := (true, "c49bd6bc3bc89f55c31c00bd786830134ced8f1ddf7b0fd802e37e786fc82be6"), looks := false }, kinds := [], alts := [], laidByText := true, laidKinds := [.data, .data], laidTests := true, laidLooks := .later }
def FnExactCoverThreeUptoCardSaid : Prop := Claim7.holds Tryd.pinned (.plain (OpenSpec.upto fnExactCoverThreeSpec)) fnExactCoverThreeUptoCard

/-- THE SECOND FORM's CARD OF 'laws.FnExactCoverLoss'. -/
def fnExactCoverLossUptoCard : Claim7 := { stood := { row := fnExactCoverLossUptoRow, standIns := [], harness := (true, "c49bd6bc3bc89f55c31c00bd786830134ced8f1ddf7b0fd802e37e786fc82be6"), looks := false }, kinds := [], alts := [], laidByText := true, laidKinds := [.data, .data], laidTests := true, laidLooks := .later }
def FnExactCoverLossUptoCardSaid : Prop := Claim7.holds Tryd.pinned (.plain (OpenSpec.upto fnExactCoverLossSpec)) fnExactCoverLossUptoCard

/-- THE SECOND FORM's CARD OF 'laws.FnExactMatchAllowed'. -/
def fnExactMatchAllowedUptoCard : Claim7 := { stood := { row := fnExactMatchAllowedUptoRow, standIns := [], harness := (true, "c49bd6bc3bc89f55c31c00bd786830134ced8f1ddf7b0fd802e37e786fc82be6"), looks := false }, kinds := [], alts := [], laidByText := true, laidKinds := [.data, .data], laidTests := true, laidLooks := .later }
def FnExactMatchAllowedUptoCardSaid : Prop := Claim7.holds Tryd.pinned (.plain (OpenSpec.upto fnExactMatchAllowedSpec)) fnExactMatchAllowedUptoCard

/-- THE SECOND FORM's CARD OF 'laws.FnExactGraphBeside'. -/
def fnExactGraphBesideUptoCard : Claim7 := { stood := { row := fnExactGraphBesideUptoRow, standIns := [], harness := (true, "c49bd6bc3bc89f55c31c00bd786830134ced8f1ddf7b0fd802e37e786fc82be6"), looks := false }, kinds := [], alts := [], laidByText := true, laidKinds := [.data, .data], laidTests := true, laidLooks := .later }
def FnExactGraphBesideUptoCardSaid : Prop := Claim7.holds Tryd.pinned (.plain (OpenSpec.upto fnExactGraphBesideSpec)) fnExactGraphBesideUptoCard

/-- THE SECOND FORM's CARD OF 'laws.FnExactTableGraph'. -/
def fnExactTableGraphUptoCard : Claim7 := { stood := { row := fnExactTableGraphUptoRow, standIns := [], harness := (true, "c49bd6bc3bc89f55c31c00bd786830134ced8f1ddf7b0fd802e37e786fc82be6"), looks := false }, kinds := [], alts := [], laidByText := true, laidKinds := [.data, .data], laidTests := true, laidLooks := .later }
def FnExactTableGraphUptoCardSaid : Prop := Claim7.holds Tryd.pinned (.plain (OpenSpec.upto fnExactTableGraphSpec)) fnExactTableGraphUptoCard

/-- THE SECOND FORM's CARD OF 'laws.FnExactTableDet'. -/
def fnExactTableDetUptoCard : Claim7 := { stood := { row := fnExactTableDetUptoRow, standIns := [], harness := (true, "c49bd6bc3bc89f55c31c00bd786830134ced8f1ddf7b0fd802e37e786fc82be6"), looks := false }, kinds := [], alts := [], laidByText := true, laidKinds := [.data, .data], laidTests := true, laidLooks := .later }
def FnExactTableDetUptoCardSaid : Prop := Claim7.holds Tryd.pinned (.plain (OpenSpec.upto fnExactTableDetSpec)) fnExactTableDetUptoCard

/-- THE SECOND FORM's CARD OF 'laws.FnExactTablePermanent'. -/
def fnExactTablePermanentUptoCard : Claim7 := { stood := { row := fnExactTablePermanentUptoRow, standIns := [], harness := (true, "c49bd6bc3bc89f55c31c00bd786830134ced8f1ddf7b0fd802e37e786fc82be6"), looks := false }, kinds := [], alts := [], laidByText := true, laidKinds := [.data, .data], laidTests := true, laidLooks := .later }
def FnExactTablePermanentUptoCardSaid : Prop := Claim7.holds Tryd.pinned (.plain (OpenSpec.upto fnExactTablePermanentSpec)) fnExactTablePermanentUptoCard

/-- THE SECOND FORM's CARD OF 'laws.FnExactMatchIn'. -/
def fnExactMatchInUptoCard : Claim7 := { stood := { row := fnExactMatchInUptoRow, standIns := [], harness := (true, "c49bd6bc3bc89f55c31c00bd786830134ced8f1ddf7b0fd802e37e786fc82be6"), looks := false }, kinds := [], alts := [], laidByText := true, laidKinds := [.data, .data], laidTests := true, laidLooks := .later }
def FnExactMatchInUptoCardSaid : Prop := Claim7.holds Tryd.pinned (.plain (OpenSpec.upto fnExactMatchInSpec)) fnExactMatchInUptoCard
end Rows
end Go.Proofs.YthafhcocgohjaaaDoor
