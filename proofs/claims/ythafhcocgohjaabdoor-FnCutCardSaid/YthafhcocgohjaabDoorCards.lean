/-
  DERIVED. GIVEN WITH THE SEED: THE CARDS: each row of YthafhcocgohjaabDoorRows.lean that lists a variable, with what it lists TIED to the program's text (the seventh form; the later family's looks); each row that meets fmt, with fmt's text TOLD by the authors' own Lean function (tested against real Go, not proved from fmt's source: count such statements apart). THE CARD IS WHAT COUNTS. Prove the row's statement (the work); the ties are given (YthafhcocgohjaabDoorTie.lean); close each card by the builder's one call (the guide's Derived/Test/ToyasCard.lean, 'card_holds'). Laid BY PROGRAM, IN A SANDBOX (cutbox-door.mjs). By AI agents, Wed Nov 11 2026. No macro, syntax, notation, axiom, sorry.
-/
import Derived.Test.YthafhcocgohjaabDoorRows
import GoSem.ClaimSeven
namespace Go.Proofs.YthafhcocgohjaabDoor
namespace Rows

/-- THE TIED CARD OF 'laws.FnDegrees'. -/
def fnDegreesCard : Claim7 := { stood := { row := fnDegreesRow, standIns := [], harness := (true, "231762dbd68875d69253aacf8d5bc68540d3348b831d113f911b62bd93d4dc5b"), looks := false }, kinds := [], alts := [], laidByText := true, laidKinds := [.data, .data], laidTests := true, laidLooks := .later }
def FnDegreesCardSaid : Prop := Claim7.holds Tryd.pinned (.plain (OpenSpec.ofChange fnDegreesSpec)) fnDegreesCard

/-- THE TIED CARD OF 'laws.FnFull'. -/
def fnFullCard : Claim7 := { stood := { row := fnFullRow, standIns := [], harness := (true, "231762dbd68875d69253aacf8d5bc68540d3348b831d113f911b62bd93d4dc5b"), looks := false }, kinds := [], alts := [], laidByText := true, laidKinds := [.data, .data], laidTests := true, laidLooks := .later }
def FnFullCardSaid : Prop := Claim7.holds Tryd.pinned (.plain (OpenSpec.ofChange fnFullSpec)) fnFullCard

/-- THE TIED CARD OF 'laws.FnWay'. -/
def fnWayCard : Claim7 := { stood := { row := fnWayRow, standIns := [], harness := (true, "231762dbd68875d69253aacf8d5bc68540d3348b831d113f911b62bd93d4dc5b"), looks := false }, kinds := [], alts := [], laidByText := true, laidKinds := [.data, .data], laidTests := true, laidLooks := .later }
def FnWayCardSaid : Prop := Claim7.holds Tryd.pinned (.plain (OpenSpec.ofChange fnWaySpec)) fnWayCard

/-- THE TIED CARD OF 'laws.FnEdges'. -/
def fnEdgesCard : Claim7 := { stood := { row := fnEdgesRow, standIns := [], harness := (true, "231762dbd68875d69253aacf8d5bc68540d3348b831d113f911b62bd93d4dc5b"), looks := false }, kinds := [], alts := [], laidByText := true, laidKinds := [.data, .data], laidTests := true, laidLooks := .later }
def FnEdgesCardSaid : Prop := Claim7.holds Tryd.pinned (.plain (OpenSpec.ofChange fnEdgesSpec)) fnEdgesCard

/-- THE TIED CARD OF 'laws.FnWithout'. -/
def fnWithoutCard : Claim7 := { stood := { row := fnWithoutRow, standIns := [], harness := (true, "231762dbd68875d69253aacf8d5bc68540d3348b831d113f911b62bd93d4dc5b"), looks := false }, kinds := [], alts := [], laidByText := true, laidKinds := [.data, .data], laidTests := true, laidLooks := .later }
def FnWithoutCardSaid : Prop := Claim7.holds Tryd.pinned (.plain (OpenSpec.ofChange fnWithoutSpec)) fnWithoutCard

/-- THE TIED CARD OF 'laws.FnAll'. -/
def fnAllCard : Claim7 := { stood := { row := fnAllRow, standIns := [], harness := (true, "231762dbd68875d69253aacf8d5bc68540d3348b831d113f911b62bd93d4dc5b"), looks := false }, kinds := [], alts := [], laidByText := true, laidKinds := [.data, .data], laidTests := true, laidLooks := .later }
def FnAllCardSaid : Prop := Claim7.holds Tryd.pinned (.plain (OpenSpec.ofChange fnAllSpec)) fnAllCard

/-- THE TIED CARD OF 'laws.FnOf'. -/
def fnOfCard : Claim7 := { stood := { row := fnOfRow, standIns := [], harness := (true, "231762dbd68875d69253aacf8d5bc68540d3348b831d113f911b62bd93d4dc5b"), looks := false }, kinds := [], alts := [], laidByText := true, laidKinds := [.data, .data], laidTests := true, laidLooks := .later }
def FnOfCardSaid : Prop := Claim7.holds Tryd.pinned (.plain (OpenSpec.ofChange fnOfSpec)) fnOfCard

/-- THE TIED CARD OF 'laws.FnGraph'. -/
def fnGraphCard : Claim7 := { stood := { row := fnGraphRow, standIns := [], harness := (true, "231762dbd68875d69253aacf8d5bc68540d3348b831d113f911b62bd93d4dc5b"), looks := false }, kinds := [], alts := [], laidByText := true, laidKinds := [.data, .data], laidTests := true, laidLooks := .later }
def FnGraphCardSaid : Prop := Claim7.holds Tryd.pinned (.plain (OpenSpec.ofChange fnGraphSpec)) fnGraphCard

/-- THE TIED CARD OF 'laws.FnConcave'. -/
def fnConcaveCard : Claim7 := { stood := { row := fnConcaveRow, standIns := [], harness := (true, "231762dbd68875d69253aacf8d5bc68540d3348b831d113f911b62bd93d4dc5b"), looks := false }, kinds := [], alts := [], laidByText := true, laidKinds := [.data, .data], laidTests := true, laidLooks := .later }
def FnConcaveCardSaid : Prop := Claim7.holds Tryd.pinned (.plain (OpenSpec.ofChange fnConcaveSpec)) fnConcaveCard

/-- THE TIED CARD OF 'laws.FnLoss'. -/
def fnLossCard : Claim7 := { stood := { row := fnLossRow, standIns := [], harness := (true, "231762dbd68875d69253aacf8d5bc68540d3348b831d113f911b62bd93d4dc5b"), looks := false }, kinds := [], alts := [], laidByText := true, laidKinds := [.data, .data], laidTests := true, laidLooks := .later }
def FnLossCardSaid : Prop := Claim7.holds Tryd.pinned (.plain (OpenSpec.ofChange fnLossSpec)) fnLossCard

/-- THE TIED CARD OF 'laws.FnCritical'. -/
def fnCriticalCard : Claim7 := { stood := { row := fnCriticalRow, standIns := [], harness := (true, "231762dbd68875d69253aacf8d5bc68540d3348b831d113f911b62bd93d4dc5b"), looks := false }, kinds := [], alts := [], laidByText := true, laidKinds := [.data, .data], laidTests := true, laidLooks := .later }
def FnCriticalCardSaid : Prop := Claim7.holds Tryd.pinned (.plain (OpenSpec.ofChange fnCriticalSpec)) fnCriticalCard

/-- THE TIED CARD OF 'laws.FnCut'. -/
def fnCutCard : Claim7 := { stood := { row := fnCutRow, standIns := [], harness := (true, "231762dbd68875d69253aacf8d5bc68540d3348b831d113f911b62bd93d4dc5b"), looks := false }, kinds := [], alts := [], laidByText := true, laidKinds := [.data, .data], laidTests := true, laidLooks := .later }
def FnCutCardSaid : Prop := Claim7.holds Tryd.pinned (.plain (OpenSpec.ofChange fnCutSpec)) fnCutCard

/-- THE SECOND FORM's CARD OF 'laws.FnDegrees'. -/
def fnDegreesUptoCard : Claim7 := { stood := { row := fnDegreesUptoRow, standIns := [], harness := (true, "231762dbd68875d69253aacf8d5bc68540d3348b831d113f911b62bd93d4dc5b"), looks := false }, kinds := [], alts := [], laidByText := true, laidKinds := [.data, .data], laidTests := true, laidLooks := .later }
def FnDegreesUptoCardSaid : Prop := Claim7.holds Tryd.pinned (.plain (OpenSpec.upto fnDegreesSpec)) fnDegreesUptoCard

/-- THE SECOND FORM's CARD OF 'laws.FnFull'. -/
def fnFullUptoCard : Claim7 := { stood := { row := fnFullUptoRow, standIns := [], harness := (true, "231762dbd68875d69253aacf8d5bc68540d3348b831d113f911b62bd93d4dc5b"), looks := false }, kinds := [], alts := [], laidByText := true, laidKinds := [.data, .data], laidTests := true, laidLooks := .later }
def FnFullUptoCardSaid : Prop := Claim7.holds Tryd.pinned (.plain (OpenSpec.upto fnFullSpec)) fnFullUptoCard

/-- THE SECOND FORM's CARD OF 'laws.FnWay'. -/
def fnWayUptoCard : Claim7 := { stood := { row := fnWayUptoRow, standIns := [], harness := (true, "231762dbd68875d69253aacf8d5bc68540d3348b831d113f911b62bd93d4dc5b"), looks := false }, kinds := [], alts := [], laidByText := true, laidKinds := [.data, .data], laidTests := true, laidLooks := .later }
def FnWayUptoCardSaid : Prop := Claim7.holds Tryd.pinned (.plain (OpenSpec.upto fnWaySpec)) fnWayUptoCard

/-- THE SECOND FORM's CARD OF 'laws.FnEdges'. -/
def fnEdgesUptoCard : Claim7 := { stood := { row := fnEdgesUptoRow, standIns := [], harness := (true, "231762dbd68875d69253aacf8d5bc68540d3348b831d113f911b62bd93d4dc5b"), looks := false }, kinds := [], alts := [], laidByText := true, laidKinds := [.data, .data], laidTests := true, laidLooks := .later }
def FnEdgesUptoCardSaid : Prop := Claim7.holds Tryd.pinned (.plain (OpenSpec.upto fnEdgesSpec)) fnEdgesUptoCard

/-- THE SECOND FORM's CARD OF 'laws.FnWithout'. -/
def fnWithoutUptoCard : Claim7 := { stood := { row := fnWithoutUptoRow, standIns := [], harness := (true, "231762dbd68875d69253aacf8d5bc68540d3348b831d113f911b62bd93d4dc5b"), looks := false }, kinds := [], alts := [], laidByText := true, laidKinds := [.data, .data], laidTests := true, laidLooks := .later }
def FnWithoutUptoCardSaid : Prop := Claim7.holds Tryd.pinned (.plain (OpenSpec.upto fnWithoutSpec)) fnWithoutUptoCard

/-- THE SECOND FORM's CARD OF 'laws.FnAll'. -/
def fnAllUptoCard : Claim7 := { stood := { row := fnAllUptoRow, standIns := [], harness := (true, "231762dbd68875d69253aacf8d5bc68540d3348b831d113f911b62bd93d4dc5b"), looks := false }, kinds := [], alts := [], laidByText := true, laidKinds := [.data, .data], laidTests := true, laidLooks := .later }
def FnAllUptoCardSaid : Prop := Claim7.holds Tryd.pinned (.plain (OpenSpec.upto fnAllSpec)) fnAllUptoCard

/-- THE SECOND FORM's CARD OF 'laws.FnOf'. -/
def fnOfUptoCard : Claim7 := { stood := { row := fnOfUptoRow, standIns := [], harness := (true, "231762dbd68875d69253aacf8d5bc68540d3348b831d113f911b62bd93d4dc5b"), looks := false }, kinds := [], alts := [], laidByText := true, laidKinds := [.data, .data], laidTests := true, laidLooks := .later }
def FnOfUptoCardSaid : Prop := Claim7.holds Tryd.pinned (.plain (OpenSpec.upto fnOfSpec)) fnOfUptoCard

/-- THE SECOND FORM's CARD OF 'laws.FnGraph'. -/
def fnGraphUptoCard : Claim7 := { stood := { row := fnGraphUptoRow, standIns := [], harness := (true, "231762dbd68875d69253aacf8d5bc68540d3348b831d113f911b62bd93d4dc5b"), looks := false }, kinds := [], alts := [], laidByText := true, laidKinds := [.data, .data], laidTests := true, laidLooks := .later }
def FnGraphUptoCardSaid : Prop := Claim7.holds Tryd.pinned (.plain (OpenSpec.upto fnGraphSpec)) fnGraphUptoCard

/-- THE SECOND FORM's CARD OF 'laws.FnConcave'. -/
def fnConcaveUptoCard : Claim7 := { stood := { row := fnConcaveUptoRow, standIns := [], harness := (true, "231762dbd68875d69253aacf8d5bc68540d3348b831d113f911b62bd93d4dc5b"), looks := false }, kinds := [], alts := [], laidByText := true, laidKinds := [.data, .data], laidTests := true, laidLooks := .later }
def FnConcaveUptoCardSaid : Prop := Claim7.holds Tryd.pinned (.plain (OpenSpec.upto fnConcaveSpec)) fnConcaveUptoCard

/-- THE SECOND FORM's CARD OF 'laws.FnLoss'. -/
def fnLossUptoCard : Claim7 := { stood := { row := fnLossUptoRow, standIns := [], harness := (true, "231762dbd68875d69253aacf8d5bc68540d3348b831d113f911b62bd93d4dc5b"), looks := false }, kinds := [], alts := [], laidByText := true, laidKinds := [.data, .data], laidTests := true, laidLooks := .later }
def FnLossUptoCardSaid : Prop := Claim7.holds Tryd.pinned (.plain (OpenSpec.upto fnLossSpec)) fnLossUptoCard

/-- THE SECOND FORM's CARD OF 'laws.FnCritical'. -/
def fnCriticalUptoCard : Claim7 := { stood := { row := fnCriticalUptoRow, standIns := [], harness := (true, "231762dbd68875d69253aacf8d5bc68540d3348b831d113f911b62bd93d4dc5b"), looks := false }, kinds := [], alts := [], laidByText := true, laidKinds := [.data, .data], laidTests := true, laidLooks := .later }
def FnCriticalUptoCardSaid : Prop := Claim7.holds Tryd.pinned (.plain (OpenSpec.upto fnCriticalSpec)) fnCriticalUptoCard

/-- THE SECOND FORM's CARD OF 'laws.FnCut'. -/
def fnCutUptoCard : Claim7 := { stood := { row := fnCutUptoRow, standIns := [], harness := (true, "231762dbd68875d69253aacf8d5bc68540d3348b831d113f911b62bd93d4dc5b"), looks := false }, kinds := [], alts := [], laidByText := true, laidKinds := [.data, .data], laidTests := true, laidLooks := .later }
def FnCutUptoCardSaid : Prop := Claim7.holds Tryd.pinned (.plain (OpenSpec.upto fnCutSpec)) fnCutUptoCard
end Rows
end Go.Proofs.YthafhcocgohjaabDoor
