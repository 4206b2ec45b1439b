/-
  DERIVED. GIVEN WITH THE SEED: THE CARDS: each row of YtdclpakkfhebjacDoorRows.lean that lists a variable, with what it lists TIED to the program's text (the seventh form; the later family's looks); each row that meets fmt, with fmt's text TOLD by the authors' own Lean function (tested against real Go, not proved from fmt's source: count such statements apart). THE CARD IS WHAT COUNTS. Prove the row's statement (the work); the ties are given (YtdclpakkfhebjacDoorTie.lean); close each card by the builder's one call (the guide's Derived/Test/ToyasCard.lean, 'card_holds'). Laid BY PROGRAM, IN A SANDBOX (cutbox-door.mjs). By AI agents, Wed Nov 11 2026. No macro, syntax, notation, axiom, sorry.
-/
import Derived.Test.YtdclpakkfhebjacDoorRows
import GoSem.ClaimSeven
namespace Go.Proofs.YtdclpakkfhebjacDoor
namespace Rows

/-- THE TIED CARD OF 'laws.FnFull'. -/
def fnFullCard : Claim7 := { stood := { row := fnFullRow, standIns := [], harness := (true, "7cffac6f8a8f3f68a5628278f35dc146999d879513b1c78bd96c8f5f607b52e2"), looks := false }, kinds := [], alts := [], laidByText := true, laidKinds := [.data, .data], laidTests := true, laidLooks := .later }
def FnFullCardSaid : Prop := Claim7.holds Tryd.pinned (.plain (OpenSpec.ofChange fnFullSpec)) fnFullCard

/-- THE TIED CARD OF 'laws.FnExactGraphIn'. -/
def fnExactGraphInCard : Claim7 := { stood := { row := fnExactGraphInRow, standIns := [], harness := (true, "7cffac6f8a8f3f68a5628278f35dc146999d879513b1c78bd96c8f5f607b52e2"), looks := false }, kinds := [], alts := [], laidByText := true, laidKinds := [.data, .data], laidTests := true, laidLooks := .later }
def FnExactGraphInCardSaid : Prop := Claim7.holds Tryd.pinned (.plain (OpenSpec.ofChange fnExactGraphInSpec)) fnExactGraphInCard

/-- THE TIED CARD OF 'laws.FnExactGraphEdges'. -/
def fnExactGraphEdgesCard : Claim7 := { stood := { row := fnExactGraphEdgesRow, standIns := [], harness := (true, "7cffac6f8a8f3f68a5628278f35dc146999d879513b1c78bd96c8f5f607b52e2"), looks := false }, kinds := [], alts := [], laidByText := true, laidKinds := [.data, .data], laidTests := true, laidLooks := .later }
def FnExactGraphEdgesCardSaid : Prop := Claim7.holds Tryd.pinned (.plain (OpenSpec.ofChange fnExactGraphEdgesSpec)) fnExactGraphEdgesCard

/-- THE TIED CARD OF 'laws.FnExactGraphDegrees'. -/
def fnExactGraphDegreesCard : Claim7 := { stood := { row := fnExactGraphDegreesRow, standIns := [], harness := (true, "7cffac6f8a8f3f68a5628278f35dc146999d879513b1c78bd96c8f5f607b52e2"), looks := false }, kinds := [], alts := [], laidByText := true, laidKinds := [.data, .data], laidTests := true, laidLooks := .later }
def FnExactGraphDegreesCardSaid : Prop := Claim7.holds Tryd.pinned (.plain (OpenSpec.ofChange fnExactGraphDegreesSpec)) fnExactGraphDegreesCard

/-- THE TIED CARD OF 'laws.FnExactGraphWithout'. -/
def fnExactGraphWithoutCard : Claim7 := { stood := { row := fnExactGraphWithoutRow, standIns := [], harness := (true, "7cffac6f8a8f3f68a5628278f35dc146999d879513b1c78bd96c8f5f607b52e2"), looks := false }, kinds := [], alts := [], laidByText := true, laidKinds := [.data, .data], laidTests := true, laidLooks := .later }
def FnExactGraphWithoutCardSaid : Prop := Claim7.holds Tryd.pinned (.plain (OpenSpec.ofChange fnExactGraphWithoutSpec)) fnExactGraphWithoutCard

/-- THE SECOND FORM's CARD OF 'laws.FnFull'. -/
def fnFullUptoCard : Claim7 := { stood := { row := fnFullUptoRow, standIns := [], harness := (true, "7cffac6f8a8f3f68a5628278f35dc146999d879513b1c78bd96c8f5f607b52e2"), looks := false }, kinds := [], alts := [], laidByText := true, laidKinds := [.data, .data], laidTests := true, laidLooks := .later }
def FnFullUptoCardSaid : Prop := Claim7.holds Tryd.pinned (.plain (OpenSpec.upto fnFullSpec)) fnFullUptoCard

/-- THE SECOND FORM's CARD OF 'laws.FnExactGraphIn'. -/
def fnExactGraphInUptoCard : Claim7 := { stood := { row := fnExactGraphInUptoRow, standIns := [], harness := (true, "7cffac6f8a8f3f68a5628278f35dc146999d879513b1c78bd96c8f5f607b52e2"), looks := false }, kinds := [], alts := [], laidByText := true, laidKinds := [.data, .data], laidTests := true, laidLooks := .later }
def FnExactGraphInUptoCardSaid : Prop := Claim7.holds Tryd.pinned (.plain (OpenSpec.upto fnExactGraphInSpec)) fnExactGraphInUptoCard

/-- THE SECOND FORM's CARD OF 'laws.FnExactGraphEdges'. -/
def fnExactGraphEdgesUptoCard : Claim7 := { stood := { row := fnExactGraphEdgesUptoRow, standIns := [], harness := (true, "7cffac6f8a8f3f68a5628278f35dc146999d879513b1c78bd96c8f5f607b52e2"), looks := false }, kinds := [], alts := [], laidByText := true, laidKinds := [.data, .data], laidTests := true, laidLooks := .later }
def FnExactGraphEdgesUptoCardSaid : Prop := Claim7.holds Tryd.pinned (.plain (OpenSpec.upto fnExactGraphEdgesSpec)) fnExactGraphEdgesUptoCard

/-- THE SECOND FORM's CARD OF 'laws.FnExactGraphDegrees'. -/
def fnExactGraphDegreesUptoCard : Claim7 := { stood := { row := fnExactGraphDegreesUptoRow, standIns := [], harness := (true, "7cffac6f8a8f3f68a5628278f35dc146999d879513b1c78bd96c8f5f607b52e2"), looks := false }, kinds := [], alts := [], laidByText := true, laidKinds := [.data, .data], laidTests := true, laidLooks := .later }
def FnExactGraphDegreesUptoCardSaid : Prop := Claim7.holds Tryd.pinned (.plain (OpenSpec.upto fnExactGraphDegreesSpec)) fnExactGraphDegreesUptoCard

/-- THE SECOND FORM's CARD OF 'laws.FnExactGraphWithout'. -/
def fnExactGraphWithoutUptoCard : Claim7 := { stood := { row := fnExactGraphWithoutUptoRow, standIns := [], harness := (true, "7cffac6f8a8f3f68a5628278f35dc146999d879513b1c78bd96c8f5f607b52e2"), looks := false }, kinds := [], alts := [], laidByText := true, laidKinds := [.data, .data], laidTests := true, laidLooks := .later }
def FnExactGraphWithoutUptoCardSaid : Prop := Claim7.holds Tryd.pinned (.plain (OpenSpec.upto fnExactGraphWithoutSpec)) fnExactGraphWithoutUptoCard
end Rows
end Go.Proofs.YtdclpakkfhebjacDoor
