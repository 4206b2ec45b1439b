/-
  DERIVED. GIVEN WITH THE SEED: THE CARDS: each row of YtmjilhddepnekaaDoorRows.lean that lists a variable, with what it lists TIED to the program's text (the seventh form; the later family's looks); each row that meets fmt, with fmt's text TOLD by the authors' own Lean function (tested against real Go, not proved from fmt's source: count such statements apart). THE CARD IS WHAT COUNTS. Prove the row's statement (the work); the ties are given (YtmjilhddepnekaaDoorTie.lean); close each card by the builder's one call (the guide's Derived/Test/ToyasCard.lean, 'card_holds'). Laid BY PROGRAM, IN A SANDBOX (cutbox-door.mjs). By AI agents, Wed Nov 11 2026. No macro, syntax, notation, axiom, sorry.
-/
import Derived.Test.YtmjilhddepnekaaDoorRows
import GoSem.ClaimSeven
namespace Go.Proofs.YtmjilhddepnekaaDoor
namespace Rows

/-- THE TIED CARD OF 'laws.FnExactGraphEdges'. -/
def fnExactGraphEdgesCard : Claim7 := { stood := { row := fnExactGraphEdgesRow, standIns := [], harness := (true, "7ec210fa98c019e00b94fc3a2158614f3143b053ac77ca3eb8e55c26158cf36b"), looks := false }, kinds := [], alts := [], laidByText := true, laidKinds := [.data, .data], laidTests := true, laidLooks := .later }
def FnExactGraphEdgesCardSaid : Prop := Claim7.holds Tryd.pinned (.plain (OpenSpec.ofChange fnExactGraphEdgesSpec)) fnExactGraphEdgesCard

/-- THE TIED CARD OF 'laws.FnExactGraphDegrees'. -/
def fnExactGraphDegreesCard : Claim7 := { stood := { row := fnExactGraphDegreesRow, standIns := [], harness := (true, "7ec210fa98c019e00b94fc3a2158614f3143b053ac77ca3eb8e55c26158cf36b"), looks := false }, kinds := [], alts := [], laidByText := true, laidKinds := [.data, .data], laidTests := true, laidLooks := .later }
def FnExactGraphDegreesCardSaid : Prop := Claim7.holds Tryd.pinned (.plain (OpenSpec.ofChange fnExactGraphDegreesSpec)) fnExactGraphDegreesCard

/-- THE TIED CARD OF 'laws.FnExactGraphCut'. -/
def fnExactGraphCutCard : Claim7 := { stood := { row := fnExactGraphCutRow, standIns := [], harness := (true, "7ec210fa98c019e00b94fc3a2158614f3143b053ac77ca3eb8e55c26158cf36b"), looks := false }, kinds := [], alts := [], laidByText := true, laidKinds := [.data, .data], laidTests := true, laidLooks := .later }
def FnExactGraphCutCardSaid : Prop := Claim7.holds Tryd.pinned (.plain (OpenSpec.ofChange fnExactGraphCutSpec)) fnExactGraphCutCard

/-- THE TIED CARD OF 'laws.FnExactGraphBeside'. -/
def fnExactGraphBesideCard : Claim7 := { stood := { row := fnExactGraphBesideRow, standIns := [], harness := (true, "7ec210fa98c019e00b94fc3a2158614f3143b053ac77ca3eb8e55c26158cf36b"), looks := false }, kinds := [], alts := [], laidByText := true, laidKinds := [.data, .data], laidTests := true, laidLooks := .later }
def FnExactGraphBesideCardSaid : Prop := Claim7.holds Tryd.pinned (.plain (OpenSpec.ofChange fnExactGraphBesideSpec)) fnExactGraphBesideCard

/-- THE TIED CARD OF 'laws.FnExactGraphParts'. -/
def fnExactGraphPartsCard : Claim7 := { stood := { row := fnExactGraphPartsRow, standIns := [], harness := (true, "7ec210fa98c019e00b94fc3a2158614f3143b053ac77ca3eb8e55c26158cf36b"), looks := false }, kinds := [], alts := [], laidByText := true, laidKinds := [.data, .data], laidTests := true, laidLooks := .later }
def FnExactGraphPartsCardSaid : Prop := Claim7.holds Tryd.pinned (.plain (OpenSpec.ofChange fnExactGraphPartsSpec)) fnExactGraphPartsCard

/-- THE TIED CARD OF 'laws.FnExactGraphSides'. -/
def fnExactGraphSidesCard : Claim7 := { stood := { row := fnExactGraphSidesRow, standIns := [], harness := (true, "7ec210fa98c019e00b94fc3a2158614f3143b053ac77ca3eb8e55c26158cf36b"), looks := false }, kinds := [], alts := [], laidByText := true, laidKinds := [.data, .data], laidTests := true, laidLooks := .later }
def FnExactGraphSidesCardSaid : Prop := Claim7.holds Tryd.pinned (.plain (OpenSpec.ofChange fnExactGraphSidesSpec)) fnExactGraphSidesCard

/-- THE TIED CARD OF 'laws.FnSides'. -/
def fnSidesCard : Claim7 := { stood := { row := fnSidesRow, standIns := [], harness := (true, "7ec210fa98c019e00b94fc3a2158614f3143b053ac77ca3eb8e55c26158cf36b"), looks := false }, kinds := [], alts := [], laidByText := true, laidKinds := [.data, .data], laidTests := true, laidLooks := .later }
def FnSidesCardSaid : Prop := Claim7.holds Tryd.pinned (.plain (OpenSpec.ofChange fnSidesSpec)) fnSidesCard

/-- THE TIED CARD OF 'laws.FnExactGraphIn'. -/
def fnExactGraphInCard : Claim7 := { stood := { row := fnExactGraphInRow, standIns := [], harness := (true, "7ec210fa98c019e00b94fc3a2158614f3143b053ac77ca3eb8e55c26158cf36b"), looks := false }, kinds := [], alts := [], laidByText := true, laidKinds := [.data, .data], laidTests := true, laidLooks := .later }
def FnExactGraphInCardSaid : Prop := Claim7.holds Tryd.pinned (.plain (OpenSpec.ofChange fnExactGraphInSpec)) fnExactGraphInCard

/-- THE TIED CARD OF 'laws.FnExactGraphOther'. -/
def fnExactGraphOtherCard : Claim7 := { stood := { row := fnExactGraphOtherRow, standIns := [], harness := (true, "7ec210fa98c019e00b94fc3a2158614f3143b053ac77ca3eb8e55c26158cf36b"), looks := false }, kinds := [], alts := [], laidByText := true, laidKinds := [.data, .data], laidTests := true, laidLooks := .later }
def FnExactGraphOtherCardSaid : Prop := Claim7.holds Tryd.pinned (.plain (OpenSpec.ofChange fnExactGraphOtherSpec)) fnExactGraphOtherCard

/-- THE TIED CARD OF 'laws.FnExactGraphWithout'. -/
def fnExactGraphWithoutCard : Claim7 := { stood := { row := fnExactGraphWithoutRow, standIns := [], harness := (true, "7ec210fa98c019e00b94fc3a2158614f3143b053ac77ca3eb8e55c26158cf36b"), looks := false }, kinds := [], alts := [], laidByText := true, laidKinds := [.data, .data], laidTests := true, laidLooks := .later }
def FnExactGraphWithoutCardSaid : Prop := Claim7.holds Tryd.pinned (.plain (OpenSpec.ofChange fnExactGraphWithoutSpec)) fnExactGraphWithoutCard

/-- THE TIED CARD OF 'laws.FnFull'. -/
def fnFullCard : Claim7 := { stood := { row := fnFullRow, standIns := [], harness := (true, "7ec210fa98c019e00b94fc3a2158614f3143b053ac77ca3eb8e55c26158cf36b"), looks := false }, kinds := [], alts := [], laidByText := true, laidKinds := [.data, .data], laidTests := true, laidLooks := .later }
def FnFullCardSaid : Prop := Claim7.holds Tryd.pinned (.plain (OpenSpec.ofChange fnFullSpec)) fnFullCard

/-- THE SECOND FORM's CARD OF 'laws.FnExactGraphEdges'. -/
def fnExactGraphEdgesUptoCard : Claim7 := { stood := { row := fnExactGraphEdgesUptoRow, standIns := [], harness := (true, "7ec210fa98c019e00b94fc3a2158614f3143b053ac77ca3eb8e55c26158cf36b"), looks := false }, kinds := [], alts := [], laidByText := true, laidKinds := [.data, .data], laidTests := true, laidLooks := .later }
def FnExactGraphEdgesUptoCardSaid : Prop := Claim7.holds Tryd.pinned (.plain (OpenSpec.upto fnExactGraphEdgesSpec)) fnExactGraphEdgesUptoCard

/-- THE SECOND FORM's CARD OF 'laws.FnExactGraphDegrees'. -/
def fnExactGraphDegreesUptoCard : Claim7 := { stood := { row := fnExactGraphDegreesUptoRow, standIns := [], harness := (true, "7ec210fa98c019e00b94fc3a2158614f3143b053ac77ca3eb8e55c26158cf36b"), looks := false }, kinds := [], alts := [], laidByText := true, laidKinds := [.data, .data], laidTests := true, laidLooks := .later }
def FnExactGraphDegreesUptoCardSaid : Prop := Claim7.holds Tryd.pinned (.plain (OpenSpec.upto fnExactGraphDegreesSpec)) fnExactGraphDegreesUptoCard

/-- THE SECOND FORM's CARD OF 'laws.FnExactGraphCut'. -/
def fnExactGraphCutUptoCard : Claim7 := { stood := { row := fnExactGraphCutUptoRow, standIns := [], harness := (true, "7ec210fa98c019e00b94fc3a2158614f3143b053ac77ca3eb8e55c26158cf36b"), looks := false }, kinds := [], alts := [], laidByText := true, laidKinds := [.data, .data], laidTests := true, laidLooks := .later }
def FnExactGraphCutUptoCardSaid : Prop := Claim7.holds Tryd.pinned (.plain (OpenSpec.upto fnExactGraphCutSpec)) fnExactGraphCutUptoCard

/-- THE SECOND FORM's CARD OF 'laws.FnExactGraphBeside'. -/
def fnExactGraphBesideUptoCard : Claim7 := { stood := { row := fnExactGraphBesideUptoRow, standIns := [], harness := (true, "7ec210fa98c019e00b94fc3a2158614f3143b053ac77ca3eb8e55c26158cf36b"), looks := false }, kinds := [], alts := [], laidByText := true, laidKinds := [.data, .data], laidTests := true, laidLooks := .later }
def FnExactGraphBesideUptoCardSaid : Prop := Claim7.holds Tryd.pinned (.plain (OpenSpec.upto fnExactGraphBesideSpec)) fnExactGraphBesideUptoCard

/-- THE SECOND FORM's CARD OF 'laws.FnExactGraphParts'. -/
def fnExactGraphPartsUptoCard : Claim7 := { stood := { row := fnExactGraphPartsUptoRow, standIns := [], harness := (true, "7ec210fa98c019e00b94fc3a2158614f3143b053ac77ca3eb8e55c26158cf36b"), looks := false }, kinds := [], alts := [], laidByText := true, laidKinds := [.data, .data], laidTests := true, laidLooks := .later }
def FnExactGraphPartsUptoCardSaid : Prop := Claim7.holds Tryd.pinned (.plain (OpenSpec.upto fnExactGraphPartsSpec)) fnExactGraphPartsUptoCard

/-- THE SECOND FORM's CARD OF 'laws.FnExactGraphSides'. -/
def fnExactGraphSidesUptoCard : Claim7 := { stood := { row := fnExactGraphSidesUptoRow, standIns := [], harness := (true, "7ec210fa98c019e00b94fc3a2158614f3143b053ac77ca3eb8e55c26158cf36b"), looks := false }, kinds := [], alts := [], laidByText := true, laidKinds := [.data, .data], laidTests := true, laidLooks := .later }
def FnExactGraphSidesUptoCardSaid : Prop := Claim7.holds Tryd.pinned (.plain (OpenSpec.upto fnExactGraphSidesSpec)) fnExactGraphSidesUptoCard

/-- THE SECOND FORM's CARD OF 'laws.FnSides'. -/
def fnSidesUptoCard : Claim7 := { stood := { row := fnSidesUptoRow, standIns := [], harness := (true, "7ec210fa98c019e00b94fc3a2158614f3143b053ac77ca3eb8e55c26158cf36b"), looks := false }, kinds := [], alts := [], laidByText := true, laidKinds := [.data, .data], laidTests := true, laidLooks := .later }
def FnSidesUptoCardSaid : Prop := Claim7.holds Tryd.pinned (.plain (OpenSpec.upto fnSidesSpec)) fnSidesUptoCard

/-- THE SECOND FORM's CARD OF 'laws.FnExactGraphIn'. -/
def fnExactGraphInUptoCard : Claim7 := { stood := { row := fnExactGraphInUptoRow, standIns := [], harness := (true, "7ec210fa98c019e00b94fc3a2158614f3143b053ac77ca3eb8e55c26158cf36b"), looks := false }, kinds := [], alts := [], laidByText := true, laidKinds := [.data, .data], laidTests := true, laidLooks := .later }
def FnExactGraphInUptoCardSaid : Prop := Claim7.holds Tryd.pinned (.plain (OpenSpec.upto fnExactGraphInSpec)) fnExactGraphInUptoCard

/-- THE SECOND FORM's CARD OF 'laws.FnExactGraphOther'. -/
def fnExactGraphOtherUptoCard : Claim7 := { stood := { row := fnExactGraphOtherUptoRow, standIns := [], harness := (true, "7ec210fa98c019e00b94fc3a2158614f3143b053ac77ca3eb8e55c26158cf36b"), looks := false }, kinds := [], alts := [], laidByText := true, laidKinds := [.data, .data], laidTests := true, laidLooks := .later }
def FnExactGraphOtherUptoCardSaid : Prop := Claim7.holds Tryd.pinned (.plain (OpenSpec.upto fnExactGraphOtherSpec)) fnExactGraphOtherUptoCard

/-- THE SECOND FORM's CARD OF 'laws.FnExactGraphWithout'. -/
def fnExactGraphWithoutUptoCard : Claim7 := { stood := { row := fnExactGraphWithoutUptoRow, standIns := [], harness := (true, "7ec210fa98c019e00b94fc3a2158614f3143b053ac77ca3eb8e55c26158cf36b"), looks := false }, kinds := [], alts := [], laidByText := true, laidKinds := [.data, .data], laidTests := true, laidLooks := .later }
def FnExactGraphWithoutUptoCardSaid : Prop := Claim7.holds Tryd.pinned (.plain (OpenSpec.upto fnExactGraphWithoutSpec)) fnExactGraphWithoutUptoCard

/-- THE SECOND FORM's CARD OF 'laws.FnFull'. -/
def fnFullUptoCard : Claim7 := { stood := { row := fnFullUptoRow, standIns := [], harness := (true, "7ec210fa98c019e00b94fc3a2158614f3143b053ac77ca3eb8e55c26158cf36b"), looks := false }, kinds := [], alts := [], laidByText := true, laidKinds := [.data, .data], laidTests := true, laidLooks := .later }
def FnFullUptoCardSaid : Prop := Claim7.holds Tryd.pinned (.plain (OpenSpec.upto fnFullSpec)) fnFullUptoCard
end Rows
end Go.Proofs.YtmjilhddepnekaaDoor
