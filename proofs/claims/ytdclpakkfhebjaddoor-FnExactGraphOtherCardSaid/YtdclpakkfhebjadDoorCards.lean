/-
  DERIVED. GIVEN WITH THE SEED: THE CARDS: each row of YtdclpakkfhebjadDoorRows.lean that lists a variable, with what it lists TIED to the program's text (the seventh form; the later family's looks); each row that meets fmt, with fmt's text TOLD by the authors' own Lean function (tested against real Go, not proved from fmt's source: count such statements apart). THE CARD IS WHAT COUNTS. Prove the row's statement (the work); the ties are given (YtdclpakkfhebjadDoorTie.lean); close each card by the builder's one call (the guide's Derived/Test/ToyasCard.lean, 'card_holds'). Laid BY PROGRAM, IN A SANDBOX (cutbox-door.mjs). By AI agents, Wed Nov 11 2026. No macro, syntax, notation, axiom, sorry.
-/
import Derived.Test.YtdclpakkfhebjadDoorRows
import GoSem.ClaimSeven
namespace Go.Proofs.YtdclpakkfhebjadDoor
namespace Rows

/-- THE TIED CARD OF 'laws.FnExactGraphCut'. -/
def fnExactGraphCutCard : Claim7 := { stood := { row := fnExactGraphCutRow, standIns := [], harness := (true, "f4691f2149484cda5b469c07e2c4e405a77d1515bfb09060fa136f89beccbf98"), looks := false }, kinds := [], alts := [], laidByText := true, laidKinds := [.data, .data], laidTests := true, laidLooks := .later }
def FnExactGraphCutCardSaid : Prop := Claim7.holds Tryd.pinned (.plain (OpenSpec.ofChange fnExactGraphCutSpec)) fnExactGraphCutCard

/-- THE TIED CARD OF 'laws.FnExactGraphOther'. -/
def fnExactGraphOtherCard : Claim7 := { stood := { row := fnExactGraphOtherRow, standIns := [], harness := (true, "f4691f2149484cda5b469c07e2c4e405a77d1515bfb09060fa136f89beccbf98"), looks := false }, kinds := [], alts := [], laidByText := true, laidKinds := [.data, .data], laidTests := true, laidLooks := .later }
def FnExactGraphOtherCardSaid : Prop := Claim7.holds Tryd.pinned (.plain (OpenSpec.ofChange fnExactGraphOtherSpec)) fnExactGraphOtherCard

/-- THE TIED CARD OF 'laws.FnExactGraphBeside'. -/
def fnExactGraphBesideCard : Claim7 := { stood := { row := fnExactGraphBesideRow, standIns := [], harness := (true, "f4691f2149484cda5b469c07e2c4e405a77d1515bfb09060fa136f89beccbf98"), looks := false }, kinds := [], alts := [], laidByText := true, laidKinds := [.data, .data], laidTests := true, laidLooks := .later }
def FnExactGraphBesideCardSaid : Prop := Claim7.holds Tryd.pinned (.plain (OpenSpec.ofChange fnExactGraphBesideSpec)) fnExactGraphBesideCard

/-- THE TIED CARD OF 'laws.FnExactGraphParts'. -/
def fnExactGraphPartsCard : Claim7 := { stood := { row := fnExactGraphPartsRow, standIns := [], harness := (true, "f4691f2149484cda5b469c07e2c4e405a77d1515bfb09060fa136f89beccbf98"), looks := false }, kinds := [], alts := [], laidByText := true, laidKinds := [.data, .data], laidTests := true, laidLooks := .later }
def FnExactGraphPartsCardSaid : Prop := Claim7.holds Tryd.pinned (.plain (OpenSpec.ofChange fnExactGraphPartsSpec)) fnExactGraphPartsCard

/-- THE TIED CARD OF 'laws.FnExactGraphSides'. -/
def fnExactGraphSidesCard : Claim7 := { stood := { row := fnExactGraphSidesRow, standIns := [], harness := (true, "f4691f2149484cda5b469c07e2c4e405a77d1515bfb09060fa136f89beccbf98"), looks := false }, kinds := [], alts := [], laidByText := true, laidKinds := [.data, .data], laidTests := true, laidLooks := .later }
def FnExactGraphSidesCardSaid : Prop := Claim7.holds Tryd.pinned (.plain (OpenSpec.ofChange fnExactGraphSidesSpec)) fnExactGraphSidesCard

/-- THE SECOND FORM's CARD OF 'laws.FnExactGraphCut'. -/
def fnExactGraphCutUptoCard : Claim7 := { stood := { row := fnExactGraphCutUptoRow, standIns := [], harness := (true, "f4691f2149484cda5b469c07e2c4e405a77d1515bfb09060fa136f89beccbf98"), looks := false }, kinds := [], alts := [], laidByText := true, laidKinds := [.data, .data], laidTests := true, laidLooks := .later }
def FnExactGraphCutUptoCardSaid : Prop := Claim7.holds Tryd.pinned (.plain (OpenSpec.upto fnExactGraphCutSpec)) fnExactGraphCutUptoCard

/-- THE SECOND FORM's CARD OF 'laws.FnExactGraphOther'. -/
def fnExactGraphOtherUptoCard : Claim7 := { stood := { row := fnExactGraphOtherUptoRow, standIns := [], harness := (true, "f4691f2149484cda5b469c07e2c4e405a77d1515bfb09060fa136f89beccbf98"), looks := false }, kinds := [], alts := [], laidByText := true, laidKinds := [.data, .data], laidTests := true, laidLooks := .later }
def FnExactGraphOtherUptoCardSaid : Prop := Claim7.holds Tryd.pinned (.plain (OpenSpec.upto fnExactGraphOtherSpec)) fnExactGraphOtherUptoCard

/-- THE SECOND FORM's CARD OF 'laws.FnExactGraphBeside'. -/
def fnExactGraphBesideUptoCard : Claim7 := { stood := { row := fnExactGraphBesideUptoRow, standIns := [], harness := (true, "f4691f2149484cda5b469c07e2c4e405a77d1515bfb09060fa136f89beccbf98"), looks := false }, kinds := [], alts := [], laidByText := true, laidKinds := [.data, .data], laidTests := true, laidLooks := .later }
def FnExactGraphBesideUptoCardSaid : Prop := Claim7.holds Tryd.pinned (.plain (OpenSpec.upto fnExactGraphBesideSpec)) fnExactGraphBesideUptoCard

/-- THE SECOND FORM's CARD OF 'laws.FnExactGraphParts'. -/
def fnExactGraphPartsUptoCard : Claim7 := { stood := { row := fnExactGraphPartsUptoRow, standIns := [], harness := (true, "f4691f2149484cda5b469c07e2c4e405a77d1515bfb09060fa136f89beccbf98"), looks := false }, kinds := [], alts := [], laidByText := true, laidKinds := [.data, .data], laidTests := true, laidLooks := .later }
def FnExactGraphPartsUptoCardSaid : Prop := Claim7.holds Tryd.pinned (.plain (OpenSpec.upto fnExactGraphPartsSpec)) fnExactGraphPartsUptoCard

/-- THE SECOND FORM's CARD OF 'laws.FnExactGraphSides'. -/
def fnExactGraphSidesUptoCard : Claim7 := { stood := { row := fnExactGraphSidesUptoRow, standIns := [], harness := (true, "f4691f2149484cda5b469c07e2c4e405a77d1515bfb09060fa136f89beccbf98"), looks := false }, kinds := [], alts := [], laidByText := true, laidKinds := [.data, .data], laidTests := true, laidLooks := .later }
def FnExactGraphSidesUptoCardSaid : Prop := Claim7.holds Tryd.pinned (.plain (OpenSpec.upto fnExactGraphSidesSpec)) fnExactGraphSidesUptoCard
end Rows
end Go.Proofs.YtdclpakkfhebjadDoor
