/-
  DERIVED. GIVEN WITH THE SEED: THE CARDS: each row of YtcklinoiaiilgaaDoorRows.lean that lists a variable, with what it lists TIED to the program's text (the seventh form; the later family's looks); each row that meets fmt, with fmt's text TOLD by the authors' own Lean function (tested against real Go, not proved from fmt's source: count such statements apart). THE CARD IS WHAT COUNTS. Prove the row's statement (the work); the ties are given (YtcklinoiaiilgaaDoorTie.lean); close each card by the builder's one call (the guide's Derived/Test/ToyasCard.lean, 'card_holds'). Laid BY PROGRAM, IN A SANDBOX (cutbox-door.mjs). By AI agents, Wed Nov 11 2026. No macro, syntax, notation, axiom, sorry.
-/
import Derived.Test.YtcklinoiaiilgaaDoorRows
import GoSem.ClaimSeven
namespace Go.Proofs.YtcklinoiaiilgaaDoor
namespace Rows

/-- THE TIED CARD OF 'laws.FnExactMatchNumbers'. -/
def fnExactMatchNumbersCard : Claim7 := { stood := { row := fnExactMatchNumbersRow, standIns := [], harness := (true, "ea6d62d8f82c9f308c916bd1323ea83b31e9ed7c6807739524e01cc02e6f75f0"), looks := false }, kinds := [], alts := [], laidByText := true, laidKinds := [.data, .data], laidTests := true, laidLooks := .later }
def FnExactMatchNumbersCardSaid : Prop := Claim7.holds Tryd.pinned (.plain (OpenSpec.ofChange fnExactMatchNumbersSpec)) fnExactMatchNumbersCard

/-- THE TIED CARD OF 'laws.FnExactMatchGreatest'. -/
def fnExactMatchGreatestCard : Claim7 := { stood := { row := fnExactMatchGreatestRow, standIns := [], harness := (true, "ea6d62d8f82c9f308c916bd1323ea83b31e9ed7c6807739524e01cc02e6f75f0"), looks := false }, kinds := [], alts := [], laidByText := true, laidKinds := [.data, .data], laidTests := true, laidLooks := .later }
def FnExactMatchGreatestCardSaid : Prop := Claim7.holds Tryd.pinned (.plain (OpenSpec.ofChange fnExactMatchGreatestSpec)) fnExactMatchGreatestCard

/-- THE TIED CARD OF 'laws.FnExactMatchAll'. -/
def fnExactMatchAllCard : Claim7 := { stood := { row := fnExactMatchAllRow, standIns := [], harness := (true, "ea6d62d8f82c9f308c916bd1323ea83b31e9ed7c6807739524e01cc02e6f75f0"), looks := false }, kinds := [], alts := [], laidByText := true, laidKinds := [.data, .data], laidTests := true, laidLooks := .later }
def FnExactMatchAllCardSaid : Prop := Claim7.holds Tryd.pinned (.plain (OpenSpec.ofChange fnExactMatchAllSpec)) fnExactMatchAllCard

/-- THE TIED CARD OF 'laws.FnExactPolyMatch'. -/
def fnExactPolyMatchCard : Claim7 := { stood := { row := fnExactPolyMatchRow, standIns := [], harness := (true, "ea6d62d8f82c9f308c916bd1323ea83b31e9ed7c6807739524e01cc02e6f75f0"), looks := false }, kinds := [], alts := [], laidByText := true, laidKinds := [.data, .data], laidTests := true, laidLooks := .later }
def FnExactPolyMatchCardSaid : Prop := Claim7.holds Tryd.pinned (.plain (OpenSpec.ofChange fnExactPolyMatchSpec)) fnExactPolyMatchCard

/-- THE TIED CARD OF 'laws.FnExactPolyOther'. -/
def fnExactPolyOtherCard : Claim7 := { stood := { row := fnExactPolyOtherRow, standIns := [], harness := (true, "ea6d62d8f82c9f308c916bd1323ea83b31e9ed7c6807739524e01cc02e6f75f0"), looks := false }, kinds := [], alts := [], laidByText := true, laidKinds := [.data, .data], laidTests := true, laidLooks := .later }
def FnExactPolyOtherCardSaid : Prop := Claim7.holds Tryd.pinned (.plain (OpenSpec.ofChange fnExactPolyOtherSpec)) fnExactPolyOtherCard

/-- THE TIED CARD OF 'laws.FnExactCoverCritical'. -/
def fnExactCoverCriticalCard : Claim7 := { stood := { row := fnExactCoverCriticalRow, standIns := [], harness := (true, "ea6d62d8f82c9f308c916bd1323ea83b31e9ed7c6807739524e01cc02e6f75f0"), looks := false }, kinds := [], alts := [], laidByText := true, laidKinds := [.data, .data], laidTests := true, laidLooks := .later }
def FnExactCoverCriticalCardSaid : Prop := Claim7.holds Tryd.pinned (.plain (OpenSpec.ofChange fnExactCoverCriticalSpec)) fnExactCoverCriticalCard

/-- THE TIED CARD OF 'laws.FnExactCoverThree'. -/
def fnExactCoverThreeCard : Claim7 := { stood := { row := fnExactCoverThreeRow, standIns := [], harness := (true, "ea6d62d8f82c9f308c916bd1323ea83b31e9ed7c6807739524e01cc02e6f75f0"), looks := false }, kinds := [], alts := [], laidByText := true, laidKinds := [.data, .data], laidTests := true, laidLooks := .later }
def FnExactCoverThreeCardSaid : Prop := Claim7.holds Tryd.pinned (.plain (OpenSpec.ofChange fnExactCoverThreeSpec)) fnExactCoverThreeCard

/-- THE TIED CARD OF 'laws.FnExactCoverEdges'. -/
def fnExactCoverEdgesCard : Claim7 := { stood := { row := fnExactCoverEdgesRow, standIns := [], harness := (true, "ea6d62d8f82c9f308c916bd1323ea83b31e9ed7c6807739524e01cc02e6f75f0"), looks := false }, kinds := [], alts := [], laidByText := true, laidKinds := [.data, .data], laidTests := true, laidLooks := .later }
def FnExactCoverEdgesCardSaid : Prop := Claim7.holds Tryd.pinned (.plain (OpenSpec.ofChange fnExactCoverEdgesSpec)) fnExactCoverEdgesCard

/-- THE TIED CARD OF 'laws.FnExactCoverIn'. -/
def fnExactCoverInCard : Claim7 := { stood := { row := fnExactCoverInRow, standIns := [], harness := (true, "ea6d62d8f82c9f308c916bd1323ea83b31e9ed7c6807739524e01cc02e6f75f0"), looks := false }, kinds := [], alts := [], laidByText := true, laidKinds := [.data, .data], laidTests := true, laidLooks := .later }
def FnExactCoverInCardSaid : Prop := Claim7.holds Tryd.pinned (.plain (OpenSpec.ofChange fnExactCoverInSpec)) fnExactCoverInCard

/-- THE TIED CARD OF 'laws.FnExactCoverLoss'. -/
def fnExactCoverLossCard : Claim7 := { stood := { row := fnExactCoverLossRow, standIns := [], harness := (true, "ea6d62d8f82c9f308c916bd1323ea83b31e9ed7c6807739524e01cc02e6f75f0"), looks := false }, kinds := [], alts := [], laidByText := true, laidKinds := [.data, .data], laidTests := true, laidLooks := .later }
def FnExactCoverLossCardSaid : Prop := Claim7.holds Tryd.pinned (.plain (OpenSpec.ofChange fnExactCoverLossSpec)) fnExactCoverLossCard

/-- THE TIED CARD OF 'laws.FnExactGraphEdges'. -/
def fnExactGraphEdgesCard : Claim7 := { stood := { row := fnExactGraphEdgesRow, standIns := [], harness := (true, "ea6d62d8f82c9f308c916bd1323ea83b31e9ed7c6807739524e01cc02e6f75f0"), looks := false }, kinds := [], alts := [], laidByText := true, laidKinds := [.data, .data], laidTests := true, laidLooks := .later }
def FnExactGraphEdgesCardSaid : Prop := Claim7.holds Tryd.pinned (.plain (OpenSpec.ofChange fnExactGraphEdgesSpec)) fnExactGraphEdgesCard

/-- THE TIED CARD OF 'laws.FnExactMatchAllowed'. -/
def fnExactMatchAllowedCard : Claim7 := { stood := { row := fnExactMatchAllowedRow, standIns := [], harness := (true, "ea6d62d8f82c9f308c916bd1323ea83b31e9ed7c6807739524e01cc02e6f75f0"), looks := false }, kinds := [], alts := [], laidByText := true, laidKinds := [.data, .data], laidTests := true, laidLooks := .later }
def FnExactMatchAllowedCardSaid : Prop := Claim7.holds Tryd.pinned (.plain (OpenSpec.ofChange fnExactMatchAllowedSpec)) fnExactMatchAllowedCard

/-- THE SECOND FORM's CARD OF 'laws.FnExactMatchNumbers'. -/
def fnExactMatchNumbersUptoCard : Claim7 := { stood := { row := fnExactMatchNumbersUptoRow, standIns := [], harness := (true, "ea6d62d8f82c9f308c916bd1323ea83b31e9ed7c6807739524e01cc02e6f75f0"), looks := false }, kinds := [], alts := [], laidByText := true, laidKinds := [.data, .data], laidTests := true, laidLooks := .later }
def FnExactMatchNumbersUptoCardSaid : Prop := Claim7.holds Tryd.pinned (.plain (OpenSpec.upto fnExactMatchNumbersSpec)) fnExactMatchNumbersUptoCard

/-- THE SECOND FORM's CARD OF 'laws.FnExactMatchGreatest'. -/
def fnExactMatchGreatestUptoCard : Claim7 := { stood := { row := fnExactMatchGreatestUptoRow, standIns := [], harness := (true, "ea6d62d8f82c9f308c916bd1323ea83b31e9ed7c6807739524e01cc02e6f75f0"), looks := false }, kinds := [], alts := [], laidByText := true, laidKinds := [.data, .data], laidTests := true, laidLooks := .later }
def FnExactMatchGreatestUptoCardSaid : Prop := Claim7.holds Tryd.pinned (.plain (OpenSpec.upto fnExactMatchGreatestSpec)) fnExactMatchGreatestUptoCard

/-- THE SECOND FORM's CARD OF 'laws.FnExactMatchAll'. -/
def fnExactMatchAllUptoCard : Claim7 := { stood := { row := fnExactMatchAllUptoRow, standIns := [], harness := (true, "ea6d62d8f82c9f308c916bd1323ea83b31e9ed7c6807739524e01cc02e6f75f0"), looks := false }, kinds := [], alts := [], laidByText := true, laidKinds := [.data, .data], laidTests := true, laidLooks := .later }
def FnExactMatchAllUptoCardSaid : Prop := Claim7.holds Tryd.pinned (.plain (OpenSpec.upto fnExactMatchAllSpec)) fnExactMatchAllUptoCard

/-- THE SECOND FORM's CARD OF 'laws.FnExactPolyMatch'. -/
def fnExactPolyMatchUptoCard : Claim7 := { stood := { row := fnExactPolyMatchUptoRow, standIns := [], harness := (true, "ea6d62d8f82c9f308c916bd1323ea83b31e9ed7c6807739524e01cc02e6f75f0"), looks := false }, kinds := [], alts := [], laidByText := true, laidKinds := [.data, .data], laidTests := true, laidLooks := .later }
def FnExactPolyMatchUptoCardSaid : Prop := Claim7.holds Tryd.pinned (.plain (OpenSpec.upto fnExactPolyMatchSpec)) fnExactPolyMatchUptoCard

/-- THE SECOND FORM's CARD OF 'laws.FnExactPolyOther'. -/
def fnExactPolyOtherUptoCard : Claim7 := { stood := { row := fnExactPolyOtherUptoRow, standIns := [], harness := (true, "ea6d62d8f82c9f308c916bd1323ea83b31e9ed7c6807739524e01cc02e6f75f0"), looks := false }, kinds := [], alts := [], laidByText := true, laidKinds := [.data, .data], laidTests := true, laidLooks := .later }
def FnExactPolyOtherUptoCardSaid : Prop := Claim7.holds Tryd.pinned (.plain (OpenSpec.upto fnExactPolyOtherSpec)) fnExactPolyOtherUptoCard

/-- THE SECOND FORM's CARD OF 'laws.FnExactCoverCritical'. -/
def fnExactCoverCriticalUptoCard : Claim7 := { stood := { row := fnExactCoverCriticalUptoRow, standIns := [], harness := (true, "ea6d62d8f82c9f308c916bd1323ea83b31e9ed7c6807739524e01cc02e6f75f0"), looks := false }, kinds := [], alts := [], laidByText := true, laidKinds := [.data, .data], laidTests := true, laidLooks := .later }
def FnExactCoverCriticalUptoCardSaid : Prop := Claim7.holds Tryd.pinned (.plain (OpenSpec.upto fnExactCoverCriticalSpec)) fnExactCoverCriticalUptoCard

/-- THE SECOND FORM's CARD OF 'laws.FnExactCoverThree'. -/
def fnExactCoverThreeUptoCard : Claim7 := { stood := { row := fnExactCoverThreeUptoRow, standIns := [], harness := (true, "ea6d62d8f82c9f308c916bd1323ea83b31e9ed7c6807739524e01cc02e6f75f0"), looks := false }, kinds := [], alts := [], laidByText := true, laidKinds := [.data, .data], laidTests := true, laidLooks := .later }
def FnExactCoverThreeUptoCardSaid : Prop := Claim7.holds Tryd.pinned (.plain (OpenSpec.upto fnExactCoverThreeSpec)) fnExactCoverThreeUptoCard

/-- THE SECOND FORM's CARD OF 'laws.FnExactCoverEdges'. -/
def fnExactCoverEdgesUptoCard : Claim7 := { stood := { row := fnExactCoverEdgesUptoRow, standIns := [], harness := (true, "ea6d62d8f82c9f308c916bd1323ea83b31e9ed7c6807739524e01cc02e6f75f0"), looks := false }, kinds := [], alts := [], laidByText := true, laidKinds := [.data, .data], laidTests := true, laidLooks := .later }
def FnExactCoverEdgesUptoCardSaid : Prop := Claim7.holds Tryd.pinned (.plain (OpenSpec.upto fnExactCoverEdgesSpec)) fnExactCoverEdgesUptoCard

/-- THE SECOND FORM's CARD OF 'laws.FnExactCoverIn'. -/
def fnExactCoverInUptoCard : Claim7 := { stood := { row := fnExactCoverInUptoRow, standIns := [], harness := (true, "ea6d62d8f82c9f308c916bd1323ea83b31e9ed7c6807739524e01cc02e6f75f0"), looks := false }, kinds := [], alts := [], laidByText := true, laidKinds := [.data, .data], laidTests := true, laidLooks := .later }
def FnExactCoverInUptoCardSaid : Prop := Claim7.holds Tryd.pinned (.plain (OpenSpec.upto fnExactCoverInSpec)) fnExactCoverInUptoCard

/-- THE SECOND FORM's CARD OF 'laws.FnExactCoverLoss'. -/
def fnExactCoverLossUptoCard : Claim7 := { stood := { row := fnExactCoverLossUptoRow, standIns := [], harness := (true, "ea6d62d8f82c9f308c916bd1323ea83b31e9ed7c6807739524e01cc02e6f75f0"), looks := false }, kinds := [], alts := [], laidByText := true, laidKinds := [.data, .data], laidTests := true, laidLooks := .later }
def FnExactCoverLossUptoCardSaid : Prop := Claim7.holds Tryd.pinned (.plain (OpenSpec.upto fnExactCoverLossSpec)) fnExactCoverLossUptoCard

/-- THE SECOND FORM's CARD OF 'laws.FnExactGraphEdges'. -/
def fnExactGraphEdgesUptoCard : Claim7 := { stood := { row := fnExactGraphEdgesUptoRow, standIns := [], harness := (true, "ea6d62d8f82c9f308c916bd1323ea83b31e9ed7c6807739524e01cc02e6f75f0"), looks := false }, kinds := [], alts := [], laidByText := true, laidKinds := [.data, .data], laidTests := true, laidLooks := .later }
def FnExactGraphEdgesUptoCardSaid : Prop := Claim7.holds Tryd.pinned (.plain (OpenSpec.upto fnExactGraphEdgesSpec)) fnExactGraphEdgesUptoCard

/-- THE SECOND FORM's CARD OF 'laws.FnExactMatchAllowed'. -/
def fnExactMatchAllowedUptoCard : Claim7 := { stood := { row := fnExactMatchAllowedUptoRow, standIns := [], harness := (true, "ea6d62d8f82c9f308c916bd1323ea83b31e9ed7c6807739524e01cc02e6f75f0"), looks := false }, kinds := [], alts := [], laidByText := true, laidKinds := [.data, .data], laidTests := true, laidLooks := .later }
def FnExactMatchAllowedUptoCardSaid : Prop := Claim7.holds Tryd.pinned (.plain (OpenSpec.upto fnExactMatchAllowedSpec)) fnExactMatchAllowedUptoCard
end Rows
end Go.Proofs.YtcklinoiaiilgaaDoor
