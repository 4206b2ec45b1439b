/-
  DERIVED. GIVEN WITH THE SEED: THE CARDS: each row of YtfcbhcjgjbcjdaaDoorRows.lean that lists a variable, with what it lists TIED to the program's text (the seventh form; the later family's looks); each row that meets fmt, with fmt's text TOLD by the authors' own Lean function (tested against real Go, not proved from fmt's source: count such statements apart). THE CARD IS WHAT COUNTS. Prove the row's statement (the work); the ties are given (YtfcbhcjgjbcjdaaDoorTie.lean); close each card by the builder's one call (the guide's Derived/Test/ToyasCard.lean, 'card_holds'). Laid BY PROGRAM, IN A SANDBOX (cutbox-door.mjs). By AI agents, Wed Nov 11 2026. No macro, syntax, notation, axiom, sorry.
-/
import Derived.Test.YtfcbhcjgjbcjdaaDoorRows
import GoSem.ClaimSeven
namespace Go.Proofs.YtfcbhcjgjbcjdaaDoor
namespace Rows

/-- THE TIED CARD OF 'laws.FnExactMarketAll'. -/
def fnExactMarketAllCard : Claim7 := { stood := { row := fnExactMarketAllRow, standIns := [], harness := (true, "3294a840509b211b95f456c758eb537832c8b07c6950461203d3900dfe8d851a"), looks := true }, kinds := [], alts := [], laidByText := true, laidKinds := [.data, .data], laidTests := true, laidLooks := .later }
def FnExactMarketAllCardSaid : Prop := Claim7.holds Tryd.pinned (.plain (OpenSpec.ofChange fnExactMarketAllSpec)) fnExactMarketAllCard

/-- THE TIED CARD OF 'laws.FnExactCostLeast'. -/
def fnExactCostLeastCard : Claim7 := { stood := { row := fnExactCostLeastRow, standIns := [], harness := (true, "3294a840509b211b95f456c758eb537832c8b07c6950461203d3900dfe8d851a"), looks := true }, kinds := [], alts := [], laidByText := true, laidKinds := [.data, .data], laidTests := true, laidLooks := .later }
def FnExactCostLeastCardSaid : Prop := Claim7.holds Tryd.pinned (.plain (OpenSpec.ofChange fnExactCostLeastSpec)) fnExactCostLeastCard

/-- THE TIED CARD OF 'laws.FnExactCostNarrow'. -/
def fnExactCostNarrowCard : Claim7 := { stood := { row := fnExactCostNarrowRow, standIns := [], harness := (true, "3294a840509b211b95f456c758eb537832c8b07c6950461203d3900dfe8d851a"), looks := true }, kinds := [], alts := [], laidByText := true, laidKinds := [.data, .data], laidTests := true, laidLooks := .later }
def FnExactCostNarrowCardSaid : Prop := Claim7.holds Tryd.pinned (.plain (OpenSpec.ofChange fnExactCostNarrowSpec)) fnExactCostNarrowCard

/-- THE TIED CARD OF 'laws.FnExactCostPrices'. -/
def fnExactCostPricesCard : Claim7 := { stood := { row := fnExactCostPricesRow, standIns := [], harness := (true, "3294a840509b211b95f456c758eb537832c8b07c6950461203d3900dfe8d851a"), looks := true }, kinds := [], alts := [], laidByText := true, laidKinds := [.data, .data], laidTests := true, laidLooks := .later }
def FnExactCostPricesCardSaid : Prop := Claim7.holds Tryd.pinned (.plain (OpenSpec.ofChange fnExactCostPricesSpec)) fnExactCostPricesCard

/-- THE TIED CARD OF 'laws.FnExactCostHalf'. -/
def fnExactCostHalfCard : Claim7 := { stood := { row := fnExactCostHalfRow, standIns := [], harness := (true, "3294a840509b211b95f456c758eb537832c8b07c6950461203d3900dfe8d851a"), looks := true }, kinds := [], alts := [], laidByText := true, laidKinds := [.data, .data], laidTests := true, laidLooks := .later }
def FnExactCostHalfCardSaid : Prop := Claim7.holds Tryd.pinned (.plain (OpenSpec.ofChange fnExactCostHalfSpec)) fnExactCostHalfCard

/-- THE TIED CARD OF 'laws.FnExactTableGraph'. -/
def fnExactTableGraphCard : Claim7 := { stood := { row := fnExactTableGraphRow, standIns := [], harness := (true, "3294a840509b211b95f456c758eb537832c8b07c6950461203d3900dfe8d851a"), looks := true }, kinds := [], alts := [], laidByText := true, laidKinds := [.data, .data], laidTests := true, laidLooks := .later }
def FnExactTableGraphCardSaid : Prop := Claim7.holds Tryd.pinned (.plain (OpenSpec.ofChange fnExactTableGraphSpec)) fnExactTableGraphCard

/-- THE TIED CARD OF 'laws.FnExactTablePoint'. -/
def fnExactTablePointCard : Claim7 := { stood := { row := fnExactTablePointRow, standIns := [], harness := (true, "3294a840509b211b95f456c758eb537832c8b07c6950461203d3900dfe8d851a"), looks := true }, kinds := [], alts := [], laidByText := true, laidKinds := [.data, .data], laidTests := true, laidLooks := .later }
def FnExactTablePointCardSaid : Prop := Claim7.holds Tryd.pinned (.plain (OpenSpec.ofChange fnExactTablePointSpec)) fnExactTablePointCard

/-- THE TIED CARD OF 'laws.FnExactTableFits'. -/
def fnExactTableFitsCard : Claim7 := { stood := { row := fnExactTableFitsRow, standIns := [], harness := (true, "3294a840509b211b95f456c758eb537832c8b07c6950461203d3900dfe8d851a"), looks := true }, kinds := [], alts := [], laidByText := true, laidKinds := [.data, .data], laidTests := true, laidLooks := .later }
def FnExactTableFitsCardSaid : Prop := Claim7.holds Tryd.pinned (.plain (OpenSpec.ofChange fnExactTableFitsSpec)) fnExactTableFitsCard

/-- THE TIED CARD OF 'laws.FnExactMatchIn'. -/
def fnExactMatchInCard : Claim7 := { stood := { row := fnExactMatchInRow, standIns := [], harness := (true, "3294a840509b211b95f456c758eb537832c8b07c6950461203d3900dfe8d851a"), looks := true }, kinds := [], alts := [], laidByText := true, laidKinds := [.data, .data], laidTests := true, laidLooks := .later }
def FnExactMatchInCardSaid : Prop := Claim7.holds Tryd.pinned (.plain (OpenSpec.ofChange fnExactMatchInSpec)) fnExactMatchInCard

/-- THE TIED CARD OF 'laws.FnExactMatchMissed'. -/
def fnExactMatchMissedCard : Claim7 := { stood := { row := fnExactMatchMissedRow, standIns := [], harness := (true, "3294a840509b211b95f456c758eb537832c8b07c6950461203d3900dfe8d851a"), looks := true }, kinds := [], alts := [], laidByText := true, laidKinds := [.data, .data], laidTests := true, laidLooks := .later }
def FnExactMatchMissedCardSaid : Prop := Claim7.holds Tryd.pinned (.plain (OpenSpec.ofChange fnExactMatchMissedSpec)) fnExactMatchMissedCard

/-- THE TIED CARD OF 'laws.FnExactMatchFull'. -/
def fnExactMatchFullCard : Claim7 := { stood := { row := fnExactMatchFullRow, standIns := [], harness := (true, "3294a840509b211b95f456c758eb537832c8b07c6950461203d3900dfe8d851a"), looks := true }, kinds := [], alts := [], laidByText := true, laidKinds := [.data, .data], laidTests := true, laidLooks := .later }
def FnExactMatchFullCardSaid : Prop := Claim7.holds Tryd.pinned (.plain (OpenSpec.ofChange fnExactMatchFullSpec)) fnExactMatchFullCard

/-- THE TIED CARD OF 'laws.FnExactMatchFirst'. -/
def fnExactMatchFirstCard : Claim7 := { stood := { row := fnExactMatchFirstRow, standIns := [], harness := (true, "3294a840509b211b95f456c758eb537832c8b07c6950461203d3900dfe8d851a"), looks := true }, kinds := [], alts := [], laidByText := true, laidKinds := [.data, .data], laidTests := true, laidLooks := .later }
def FnExactMatchFirstCardSaid : Prop := Claim7.holds Tryd.pinned (.plain (OpenSpec.ofChange fnExactMatchFirstSpec)) fnExactMatchFirstCard

/-- THE SECOND FORM's CARD OF 'laws.FnExactMarketAll'. -/
def fnExactMarketAllUptoCard : Claim7 := { stood := { row := fnExactMarketAllUptoRow, standIns := [], harness := (true, "3294a840509b211b95f456c758eb537832c8b07c6950461203d3900dfe8d851a"), looks := true }, kinds := [], alts := [], laidByText := true, laidKinds := [.data, .data], laidTests := true, laidLooks := .later }
def FnExactMarketAllUptoCardSaid : Prop := Claim7.holds Tryd.pinned (.plain (OpenSpec.upto fnExactMarketAllSpec)) fnExactMarketAllUptoCard

/-- THE SECOND FORM's CARD OF 'laws.FnExactCostLeast'. -/
def fnExactCostLeastUptoCard : Claim7 := { stood := { row := fnExactCostLeastUptoRow, standIns := [], harness := (true, "3294a840509b211b95f456c758eb537832c8b07c6950461203d3900dfe8d851a"), looks := true }, kinds := [], alts := [], laidByText := true, laidKinds := [.data, .data], laidTests := true, laidLooks := .later }
def FnExactCostLeastUptoCardSaid : Prop := Claim7.holds Tryd.pinned (.plain (OpenSpec.upto fnExactCostLeastSpec)) fnExactCostLeastUptoCard

/-- THE SECOND FORM's CARD OF 'laws.FnExactCostNarrow'. -/
def fnExactCostNarrowUptoCard : Claim7 := { stood := { row := fnExactCostNarrowUptoRow, standIns := [], harness := (true, "3294a840509b211b95f456c758eb537832c8b07c6950461203d3900dfe8d851a"), looks := true }, kinds := [], alts := [], laidByText := true, laidKinds := [.data, .data], laidTests := true, laidLooks := .later }
def FnExactCostNarrowUptoCardSaid : Prop := Claim7.holds Tryd.pinned (.plain (OpenSpec.upto fnExactCostNarrowSpec)) fnExactCostNarrowUptoCard

/-- THE SECOND FORM's CARD OF 'laws.FnExactCostPrices'. -/
def fnExactCostPricesUptoCard : Claim7 := { stood := { row := fnExactCostPricesUptoRow, standIns := [], harness := (true, "3294a840509b211b95f456c758eb537832c8b07c6950461203d3900dfe8d851a"), looks := true }, kinds := [], alts := [], laidByText := true, laidKinds := [.data, .data], laidTests := true, laidLooks := .later }
def FnExactCostPricesUptoCardSaid : Prop := Claim7.holds Tryd.pinned (.plain (OpenSpec.upto fnExactCostPricesSpec)) fnExactCostPricesUptoCard

/-- THE SECOND FORM's CARD OF 'laws.FnExactCostHalf'. -/
def fnExactCostHalfUptoCard : Claim7 := { stood := { row := fnExactCostHalfUptoRow, standIns := [], harness := (true, "3294a840509b211b95f456c758eb537832c8b07c6950461203d3900dfe8d851a"), looks := true }, kinds := [], alts := [], laidByText := true, laidKinds := [.data, .data], laidTests := true, laidLooks := .later }
def FnExactCostHalfUptoCardSaid : Prop := Claim7.holds Tryd.pinned (.plain (OpenSpec.upto fnExactCostHalfSpec)) fnExactCostHalfUptoCard

/-- THE SECOND FORM's CARD OF 'laws.FnExactTableGraph'. -/
def fnExactTableGraphUptoCard : Claim7 := { stood := { row := fnExactTableGraphUptoRow, standIns := [], harness := (true, "3294a840509b211b95f456c758eb537832c8b07c6950461203d3900dfe8d851a"), looks := true }, kinds := [], alts := [], laidByText := true, laidKinds := [.data, .data], laidTests := true, laidLooks := .later }
def FnExactTableGraphUptoCardSaid : Prop := Claim7.holds Tryd.pinned (.plain (OpenSpec.upto fnExactTableGraphSpec)) fnExactTableGraphUptoCard

/-- THE SECOND FORM's CARD OF 'laws.FnExactTablePoint'. -/
def fnExactTablePointUptoCard : Claim7 := { stood := { row := fnExactTablePointUptoRow, standIns := [], harness := (true, "3294a840509b211b95f456c758eb537832c8b07c6950461203d3900dfe8d851a"), looks := true }, kinds := [], alts := [], laidByText := true, laidKinds := [.data, .data], laidTests := true, laidLooks := .later }
def FnExactTablePointUptoCardSaid : Prop := Claim7.holds Tryd.pinned (.plain (OpenSpec.upto fnExactTablePointSpec)) fnExactTablePointUptoCard

/-- THE SECOND FORM's CARD OF 'laws.FnExactTableFits'. -/
def fnExactTableFitsUptoCard : Claim7 := { stood := { row := fnExactTableFitsUptoRow, standIns := [], harness := (true, "3294a840509b211b95f456c758eb537832c8b07c6950461203d3900dfe8d851a"), looks := true }, kinds := [], alts := [], laidByText := true, laidKinds := [.data, .data], laidTests := true, laidLooks := .later }
def FnExactTableFitsUptoCardSaid : Prop := Claim7.holds Tryd.pinned (.plain (OpenSpec.upto fnExactTableFitsSpec)) fnExactTableFitsUptoCard

/-- THE SECOND FORM's CARD OF 'laws.FnExactMatchIn'. -/
def fnExactMatchInUptoCard : Claim7 := { stood := { row := fnExactMatchInUptoRow, standIns := [], harness := (true, "3294a840509b211b95f456c758eb537832c8b07c6950461203d3900dfe8d851a"), looks := true }, kinds := [], alts := [], laidByText := true, laidKinds := [.data, .data], laidTests := true, laidLooks := .later }
def FnExactMatchInUptoCardSaid : Prop := Claim7.holds Tryd.pinned (.plain (OpenSpec.upto fnExactMatchInSpec)) fnExactMatchInUptoCard

/-- THE SECOND FORM's CARD OF 'laws.FnExactMatchMissed'. -/
def fnExactMatchMissedUptoCard : Claim7 := { stood := { row := fnExactMatchMissedUptoRow, standIns := [], harness := (true, "3294a840509b211b95f456c758eb537832c8b07c6950461203d3900dfe8d851a"), looks := true }, kinds := [], alts := [], laidByText := true, laidKinds := [.data, .data], laidTests := true, laidLooks := .later }
def FnExactMatchMissedUptoCardSaid : Prop := Claim7.holds Tryd.pinned (.plain (OpenSpec.upto fnExactMatchMissedSpec)) fnExactMatchMissedUptoCard

/-- THE SECOND FORM's CARD OF 'laws.FnExactMatchFull'. -/
def fnExactMatchFullUptoCard : Claim7 := { stood := { row := fnExactMatchFullUptoRow, standIns := [], harness := (true, "3294a840509b211b95f456c758eb537832c8b07c6950461203d3900dfe8d851a"), looks := true }, kinds := [], alts := [], laidByText := true, laidKinds := [.data, .data], laidTests := true, laidLooks := .later }
def FnExactMatchFullUptoCardSaid : Prop := Claim7.holds Tryd.pinned (.plain (OpenSpec.upto fnExactMatchFullSpec)) fnExactMatchFullUptoCard

/-- THE SECOND FORM's CARD OF 'laws.FnExactMatchFirst'. -/
def fnExactMatchFirstUptoCard : Claim7 := { stood := { row := fnExactMatchFirstUptoRow, standIns := [], harness := (true, "3294a840509b211b95f456c758eb537832c8b07c6950461203d3900dfe8d851a"), looks := true }, kinds := [], alts := [], laidByText := true, laidKinds := [.data, .data], laidTests := true, laidLooks := .later }
def FnExactMatchFirstUptoCardSaid : Prop := Claim7.holds Tryd.pinned (.plain (OpenSpec.upto fnExactMatchFirstSpec)) fnExactMatchFirstUptoCard
end Rows
end Go.Proofs.YtfcbhcjgjbcjdaaDoor
