/-
  DERIVED. GIVEN WITH THE SEED: THE CARDS: each row of YtcklinoiaiilgabDoorRows.lean that lists a variable, with what it lists TIED to the program's text (the seventh form; the later family's looks); each row that meets fmt, with fmt's text TOLD by the authors' own Lean function (tested against real Go, not proved from fmt's source: count such statements apart). THE CARD IS WHAT COUNTS. Prove the row's statement (the work); the ties are given (YtcklinoiaiilgabDoorTie.lean); close each card by the builder's one call (the guide's Derived/Test/ToyasCard.lean, 'card_holds'). Laid BY PROGRAM, IN A SANDBOX (cutbox-door.mjs). By AI agents, Wed Nov 11 2026. No macro, syntax, notation, axiom, sorry.
-/
import Derived.Test.YtcklinoiaiilgabDoorRows
import GoSem.ClaimSeven
namespace Go.Proofs.YtcklinoiaiilgabDoor
namespace Rows

/-- THE TIED CARD OF 'laws.FnHermite'. -/
def fnHermiteCard : Claim7 := { stood := { row := fnHermiteRow, standIns := [], harness := (true, "1d3dd9ad523f17126b584ef22e884f50fadf348669aee0fb2c565052350b5b70"), looks := false }, kinds := [], alts := [], laidByText := true, laidKinds := [.data, .data], laidTests := true, laidLooks := .later }
def FnHermiteCardSaid : Prop := Claim7.holds Tryd.pinned (.plain (OpenSpec.ofChange fnHermiteSpec)) fnHermiteCard

/-- THE TIED CARD OF 'laws.FnPolyWay'. -/
def fnPolyWayCard : Claim7 := { stood := { row := fnPolyWayRow, standIns := [], harness := (true, "1d3dd9ad523f17126b584ef22e884f50fadf348669aee0fb2c565052350b5b70"), looks := false }, kinds := [], alts := [], laidByText := true, laidKinds := [.data, .data], laidTests := true, laidLooks := .later }
def FnPolyWayCardSaid : Prop := Claim7.holds Tryd.pinned (.plain (OpenSpec.ofChange fnPolyWaySpec)) fnPolyWayCard

/-- THE TIED CARD OF 'laws.FnPolyRing'. -/
def fnPolyRingCard : Claim7 := { stood := { row := fnPolyRingRow, standIns := [], harness := (true, "1d3dd9ad523f17126b584ef22e884f50fadf348669aee0fb2c565052350b5b70"), looks := false }, kinds := [], alts := [], laidByText := true, laidKinds := [.data, .data], laidTests := true, laidLooks := .later }
def FnPolyRingCardSaid : Prop := Claim7.holds Tryd.pinned (.plain (OpenSpec.ofChange fnPolyRingSpec)) fnPolyRingCard

/-- THE TIED CARD OF 'laws.FnSides'. -/
def fnSidesCard : Claim7 := { stood := { row := fnSidesRow, standIns := [], harness := (true, "1d3dd9ad523f17126b584ef22e884f50fadf348669aee0fb2c565052350b5b70"), looks := false }, kinds := [], alts := [], laidByText := true, laidKinds := [.data, .data], laidTests := true, laidLooks := .later }
def FnSidesCardSaid : Prop := Claim7.holds Tryd.pinned (.plain (OpenSpec.ofChange fnSidesSpec)) fnSidesCard

/-- THE TIED CARD OF 'laws.FnParts'. -/
def fnPartsCard : Claim7 := { stood := { row := fnPartsRow, standIns := [], harness := (true, "1d3dd9ad523f17126b584ef22e884f50fadf348669aee0fb2c565052350b5b70"), looks := false }, kinds := [], alts := [], laidByText := true, laidKinds := [.data, .data], laidTests := true, laidLooks := .later }
def FnPartsCardSaid : Prop := Claim7.holds Tryd.pinned (.plain (OpenSpec.ofChange fnPartsSpec)) fnPartsCard

/-- THE TIED CARD OF 'laws.FnOther'. -/
def fnOtherCard : Claim7 := { stood := { row := fnOtherRow, standIns := [], harness := (true, "1d3dd9ad523f17126b584ef22e884f50fadf348669aee0fb2c565052350b5b70"), looks := false }, kinds := [], alts := [], laidByText := true, laidKinds := [.data, .data], laidTests := true, laidLooks := .later }
def FnOtherCardSaid : Prop := Claim7.holds Tryd.pinned (.plain (OpenSpec.ofChange fnOtherSpec)) fnOtherCard

/-- THE TIED CARD OF 'laws.FnConcave'. -/
def fnConcaveCard : Claim7 := { stood := { row := fnConcaveRow, standIns := [], harness := (true, "1d3dd9ad523f17126b584ef22e884f50fadf348669aee0fb2c565052350b5b70"), looks := false }, kinds := [], alts := [], laidByText := true, laidKinds := [.data, .data], laidTests := true, laidLooks := .later }
def FnConcaveCardSaid : Prop := Claim7.holds Tryd.pinned (.plain (OpenSpec.ofChange fnConcaveSpec)) fnConcaveCard

/-- THE TIED CARD OF 'laws.FnCover'. -/
def fnCoverCard : Claim7 := { stood := { row := fnCoverRow, standIns := [], harness := (true, "1d3dd9ad523f17126b584ef22e884f50fadf348669aee0fb2c565052350b5b70"), looks := false }, kinds := [], alts := [], laidByText := true, laidKinds := [.data, .data], laidTests := true, laidLooks := .later }
def FnCoverCardSaid : Prop := Claim7.holds Tryd.pinned (.plain (OpenSpec.ofChange fnCoverSpec)) fnCoverCard

/-- THE TIED CARD OF 'laws.FnLoss'. -/
def fnLossCard : Claim7 := { stood := { row := fnLossRow, standIns := [], harness := (true, "1d3dd9ad523f17126b584ef22e884f50fadf348669aee0fb2c565052350b5b70"), looks := false }, kinds := [], alts := [], laidByText := true, laidKinds := [.data, .data], laidTests := true, laidLooks := .later }
def FnLossCardSaid : Prop := Claim7.holds Tryd.pinned (.plain (OpenSpec.ofChange fnLossSpec)) fnLossCard

/-- THE TIED CARD OF 'laws.FnCoverEdges'. -/
def fnCoverEdgesCard : Claim7 := { stood := { row := fnCoverEdgesRow, standIns := [], harness := (true, "1d3dd9ad523f17126b584ef22e884f50fadf348669aee0fb2c565052350b5b70"), looks := false }, kinds := [], alts := [], laidByText := true, laidKinds := [.data, .data], laidTests := true, laidLooks := .later }
def FnCoverEdgesCardSaid : Prop := Claim7.holds Tryd.pinned (.plain (OpenSpec.ofChange fnCoverEdgesSpec)) fnCoverEdgesCard

/-- THE TIED CARD OF 'laws.FnGreatest'. -/
def fnGreatestCard : Claim7 := { stood := { row := fnGreatestRow, standIns := [], harness := (true, "1d3dd9ad523f17126b584ef22e884f50fadf348669aee0fb2c565052350b5b70"), looks := false }, kinds := [], alts := [], laidByText := true, laidKinds := [.data, .data], laidTests := true, laidLooks := .later }
def FnGreatestCardSaid : Prop := Claim7.holds Tryd.pinned (.plain (OpenSpec.ofChange fnGreatestSpec)) fnGreatestCard

/-- THE TIED CARD OF 'laws.FnCritical'. -/
def fnCriticalCard : Claim7 := { stood := { row := fnCriticalRow, standIns := [], harness := (true, "1d3dd9ad523f17126b584ef22e884f50fadf348669aee0fb2c565052350b5b70"), looks := false }, kinds := [], alts := [], laidByText := true, laidKinds := [.data, .data], laidTests := true, laidLooks := .later }
def FnCriticalCardSaid : Prop := Claim7.holds Tryd.pinned (.plain (OpenSpec.ofChange fnCriticalSpec)) fnCriticalCard

/-- THE SECOND FORM's CARD OF 'laws.FnHermite'. -/
def fnHermiteUptoCard : Claim7 := { stood := { row := fnHermiteUptoRow, standIns := [], harness := (true, "1d3dd9ad523f17126b584ef22e884f50fadf348669aee0fb2c565052350b5b70"), looks := false }, kinds := [], alts := [], laidByText := true, laidKinds := [.data, .data], laidTests := true, laidLooks := .later }
def FnHermiteUptoCardSaid : Prop := Claim7.holds Tryd.pinned (.plain (OpenSpec.upto fnHermiteSpec)) fnHermiteUptoCard

/-- THE SECOND FORM's CARD OF 'laws.FnPolyWay'. -/
def fnPolyWayUptoCard : Claim7 := { stood := { row := fnPolyWayUptoRow, standIns := [], harness := (true, "1d3dd9ad523f17126b584ef22e884f50fadf348669aee0fb2c565052350b5b70"), looks := false }, kinds := [], alts := [], laidByText := true, laidKinds := [.data, .data], laidTests := true, laidLooks := .later }
def FnPolyWayUptoCardSaid : Prop := Claim7.holds Tryd.pinned (.plain (OpenSpec.upto fnPolyWaySpec)) fnPolyWayUptoCard

/-- THE SECOND FORM's CARD OF 'laws.FnPolyRing'. -/
def fnPolyRingUptoCard : Claim7 := { stood := { row := fnPolyRingUptoRow, standIns := [], harness := (true, "1d3dd9ad523f17126b584ef22e884f50fadf348669aee0fb2c565052350b5b70"), looks := false }, kinds := [], alts := [], laidByText := true, laidKinds := [.data, .data], laidTests := true, laidLooks := .later }
def FnPolyRingUptoCardSaid : Prop := Claim7.holds Tryd.pinned (.plain (OpenSpec.upto fnPolyRingSpec)) fnPolyRingUptoCard

/-- THE SECOND FORM's CARD OF 'laws.FnSides'. -/
def fnSidesUptoCard : Claim7 := { stood := { row := fnSidesUptoRow, standIns := [], harness := (true, "1d3dd9ad523f17126b584ef22e884f50fadf348669aee0fb2c565052350b5b70"), looks := false }, kinds := [], alts := [], laidByText := true, laidKinds := [.data, .data], laidTests := true, laidLooks := .later }
def FnSidesUptoCardSaid : Prop := Claim7.holds Tryd.pinned (.plain (OpenSpec.upto fnSidesSpec)) fnSidesUptoCard

/-- THE SECOND FORM's CARD OF 'laws.FnParts'. -/
def fnPartsUptoCard : Claim7 := { stood := { row := fnPartsUptoRow, standIns := [], harness := (true, "1d3dd9ad523f17126b584ef22e884f50fadf348669aee0fb2c565052350b5b70"), looks := false }, kinds := [], alts := [], laidByText := true, laidKinds := [.data, .data], laidTests := true, laidLooks := .later }
def FnPartsUptoCardSaid : Prop := Claim7.holds Tryd.pinned (.plain (OpenSpec.upto fnPartsSpec)) fnPartsUptoCard

/-- THE SECOND FORM's CARD OF 'laws.FnOther'. -/
def fnOtherUptoCard : Claim7 := { stood := { row := fnOtherUptoRow, standIns := [], harness := (true, "1d3dd9ad523f17126b584ef22e884f50fadf348669aee0fb2c565052350b5b70"), looks := false }, kinds := [], alts := [], laidByText := true, laidKinds := [.data, .data], laidTests := true, laidLooks := .later }
def FnOtherUptoCardSaid : Prop := Claim7.holds Tryd.pinned (.plain (OpenSpec.upto fnOtherSpec)) fnOtherUptoCard

/-- THE SECOND FORM's CARD OF 'laws.FnConcave'. -/
def fnConcaveUptoCard : Claim7 := { stood := { row := fnConcaveUptoRow, standIns := [], harness := (true, "1d3dd9ad523f17126b584ef22e884f50fadf348669aee0fb2c565052350b5b70"), looks := false }, kinds := [], alts := [], laidByText := true, laidKinds := [.data, .data], laidTests := true, laidLooks := .later }
def FnConcaveUptoCardSaid : Prop := Claim7.holds Tryd.pinned (.plain (OpenSpec.upto fnConcaveSpec)) fnConcaveUptoCard

/-- THE SECOND FORM's CARD OF 'laws.FnCover'. -/
def fnCoverUptoCard : Claim7 := { stood := { row := fnCoverUptoRow, standIns := [], harness := (true, "1d3dd9ad523f17126b584ef22e884f50fadf348669aee0fb2c565052350b5b70"), looks := false }, kinds := [], alts := [], laidByText := true, laidKinds := [.data, .data], laidTests := true, laidLooks := .later }
def FnCoverUptoCardSaid : Prop := Claim7.holds Tryd.pinned (.plain (OpenSpec.upto fnCoverSpec)) fnCoverUptoCard

/-- THE SECOND FORM's CARD OF 'laws.FnLoss'. -/
def fnLossUptoCard : Claim7 := { stood := { row := fnLossUptoRow, standIns := [], harness := (true, "1d3dd9ad523f17126b584ef22e884f50fadf348669aee0fb2c565052350b5b70"), looks := false }, kinds := [], alts := [], laidByText := true, laidKinds := [.data, .data], laidTests := true, laidLooks := .later }
def FnLossUptoCardSaid : Prop := Claim7.holds Tryd.pinned (.plain (OpenSpec.upto fnLossSpec)) fnLossUptoCard

/-- THE SECOND FORM's CARD OF 'laws.FnCoverEdges'. -/
def fnCoverEdgesUptoCard : Claim7 := { stood := { row := fnCoverEdgesUptoRow, standIns := [], harness := (true, "1d3dd9ad523f17126b584ef22e884f50fadf348669aee0fb2c565052350b5b70"), looks := false }, kinds := [], alts := [], laidByText := true, laidKinds := [.data, .data], laidTests := true, laidLooks := .later }
def FnCoverEdgesUptoCardSaid : Prop := Claim7.holds Tryd.pinned (.plain (OpenSpec.upto fnCoverEdgesSpec)) fnCoverEdgesUptoCard

/-- THE SECOND FORM's CARD OF 'laws.FnGreatest'. -/
def fnGreatestUptoCard : Claim7 := { stood := { row := fnGreatestUptoRow, standIns := [], harness := (true, "1d3dd9ad523f17126b584ef22e884f50fadf348669aee0fb2c565052350b5b70"), looks := false }, kinds := [], alts := [], laidByText := true, laidKinds := [.data, .data], laidTests := true, laidLooks := .later }
def FnGreatestUptoCardSaid : Prop := Claim7.holds Tryd.pinned (.plain (OpenSpec.upto fnGreatestSpec)) fnGreatestUptoCard

/-- THE SECOND FORM's CARD OF 'laws.FnCritical'. -/
def fnCriticalUptoCard : Claim7 := { stood := { row := fnCriticalUptoRow, standIns := [], harness := (true, "1d3dd9ad523f17126b584ef22e884f50fadf348669aee0fb2c565052350b5b70"), looks := false }, kinds := [], alts := [], laidByText := true, laidKinds := [.data, .data], laidTests := true, laidLooks := .later }
def FnCriticalUptoCardSaid : Prop := Claim7.holds Tryd.pinned (.plain (OpenSpec.upto fnCriticalSpec)) fnCriticalUptoCard
end Rows
end Go.Proofs.YtcklinoiaiilgabDoor
