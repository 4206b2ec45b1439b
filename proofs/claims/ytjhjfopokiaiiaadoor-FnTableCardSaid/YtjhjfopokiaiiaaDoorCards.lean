/-
  DERIVED. GIVEN WITH THE SEED: THE CARDS: each row of YtjhjfopokiaiiaaDoorRows.lean that lists a variable, with what it lists TIED to the program's text (the seventh form; the later family's looks); each row that meets fmt, with fmt's text TOLD by the authors' own Lean function (tested against real Go, not proved from fmt's source: count such statements apart). THE CARD IS WHAT COUNTS. Prove the row's statement (the work); the ties are given (YtjhjfopokiaiiaaDoorTie.lean); close each card by the builder's one call (the guide's Derived/Test/ToyasCard.lean, 'card_holds'). Laid BY PROGRAM, IN A SANDBOX (cutbox-door.mjs). By AI agents, Wed Nov 11 2026. No macro, syntax, notation, axiom, sorry.
-/
import Derived.Test.YtjhjfopokiaiiaaDoorRows
import GoSem.ClaimSeven
namespace Go.Proofs.YtjhjfopokiaiiaaDoor
namespace Rows

/-- THE TIED CARD OF 'laws.FnExactTableDet'. -/
def fnExactTableDetCard : Claim7 := { stood := { row := fnExactTableDetRow, standIns := [], harness := (true, "443a6286b2c6ef31594df56865d75d7ccb7c9ce54c06abfa9cc1834447fb313a"), looks := false }, kinds := [], alts := [], laidByText := true, laidKinds := [.data, .data], laidTests := true, laidLooks := .later }
def FnExactTableDetCardSaid : Prop := Claim7.holds Tryd.pinned (.plain (OpenSpec.ofChange fnExactTableDetSpec)) fnExactTableDetCard

/-- THE TIED CARD OF 'laws.FnExactTablePermanent'. -/
def fnExactTablePermanentCard : Claim7 := { stood := { row := fnExactTablePermanentRow, standIns := [], harness := (true, "443a6286b2c6ef31594df56865d75d7ccb7c9ce54c06abfa9cc1834447fb313a"), looks := false }, kinds := [], alts := [], laidByText := true, laidKinds := [.data, .data], laidTests := true, laidLooks := .later }
def FnExactTablePermanentCardSaid : Prop := Claim7.holds Tryd.pinned (.plain (OpenSpec.ofChange fnExactTablePermanentSpec)) fnExactTablePermanentCard

/-- THE TIED CARD OF 'laws.FnExactTablePfaffian'. -/
def fnExactTablePfaffianCard : Claim7 := { stood := { row := fnExactTablePfaffianRow, standIns := [], harness := (true, "443a6286b2c6ef31594df56865d75d7ccb7c9ce54c06abfa9cc1834447fb313a"), looks := false }, kinds := [], alts := [], laidByText := true, laidKinds := [.data, .data], laidTests := true, laidLooks := .later }
def FnExactTablePfaffianCardSaid : Prop := Claim7.holds Tryd.pinned (.plain (OpenSpec.ofChange fnExactTablePfaffianSpec)) fnExactTablePfaffianCard

/-- THE TIED CARD OF 'laws.FnExactTableHafnian'. -/
def fnExactTableHafnianCard : Claim7 := { stood := { row := fnExactTableHafnianRow, standIns := [], harness := (true, "443a6286b2c6ef31594df56865d75d7ccb7c9ce54c06abfa9cc1834447fb313a"), looks := false }, kinds := [], alts := [], laidByText := true, laidKinds := [.data, .data], laidTests := true, laidLooks := .later }
def FnExactTableHafnianCardSaid : Prop := Claim7.holds Tryd.pinned (.plain (OpenSpec.ofChange fnExactTableHafnianSpec)) fnExactTableHafnianCard

/-- THE TIED CARD OF 'laws.FnTable'. -/
def fnTableCard : Claim7 := { stood := { row := fnTableRow, standIns := [], harness := (true, "443a6286b2c6ef31594df56865d75d7ccb7c9ce54c06abfa9cc1834447fb313a"), looks := false }, kinds := [], alts := [], laidByText := true, laidKinds := [.data, .data], laidTests := true, laidLooks := .later }
def FnTableCardSaid : Prop := Claim7.holds Tryd.pinned (.plain (OpenSpec.ofChange fnTableSpec)) fnTableCard

/-- THE SECOND FORM's CARD OF 'laws.FnExactTableDet'. -/
def fnExactTableDetUptoCard : Claim7 := { stood := { row := fnExactTableDetUptoRow, standIns := [], harness := (true, "443a6286b2c6ef31594df56865d75d7ccb7c9ce54c06abfa9cc1834447fb313a"), looks := false }, kinds := [], alts := [], laidByText := true, laidKinds := [.data, .data], laidTests := true, laidLooks := .later }
def FnExactTableDetUptoCardSaid : Prop := Claim7.holds Tryd.pinned (.plain (OpenSpec.upto fnExactTableDetSpec)) fnExactTableDetUptoCard

/-- THE SECOND FORM's CARD OF 'laws.FnExactTablePermanent'. -/
def fnExactTablePermanentUptoCard : Claim7 := { stood := { row := fnExactTablePermanentUptoRow, standIns := [], harness := (true, "443a6286b2c6ef31594df56865d75d7ccb7c9ce54c06abfa9cc1834447fb313a"), looks := false }, kinds := [], alts := [], laidByText := true, laidKinds := [.data, .data], laidTests := true, laidLooks := .later }
def FnExactTablePermanentUptoCardSaid : Prop := Claim7.holds Tryd.pinned (.plain (OpenSpec.upto fnExactTablePermanentSpec)) fnExactTablePermanentUptoCard

/-- THE SECOND FORM's CARD OF 'laws.FnExactTablePfaffian'. -/
def fnExactTablePfaffianUptoCard : Claim7 := { stood := { row := fnExactTablePfaffianUptoRow, standIns := [], harness := (true, "443a6286b2c6ef31594df56865d75d7ccb7c9ce54c06abfa9cc1834447fb313a"), looks := false }, kinds := [], alts := [], laidByText := true, laidKinds := [.data, .data], laidTests := true, laidLooks := .later }
def FnExactTablePfaffianUptoCardSaid : Prop := Claim7.holds Tryd.pinned (.plain (OpenSpec.upto fnExactTablePfaffianSpec)) fnExactTablePfaffianUptoCard

/-- THE SECOND FORM's CARD OF 'laws.FnExactTableHafnian'. -/
def fnExactTableHafnianUptoCard : Claim7 := { stood := { row := fnExactTableHafnianUptoRow, standIns := [], harness := (true, "443a6286b2c6ef31594df56865d75d7ccb7c9ce54c06abfa9cc1834447fb313a"), looks := false }, kinds := [], alts := [], laidByText := true, laidKinds := [.data, .data], laidTests := true, laidLooks := .later }
def FnExactTableHafnianUptoCardSaid : Prop := Claim7.holds Tryd.pinned (.plain (OpenSpec.upto fnExactTableHafnianSpec)) fnExactTableHafnianUptoCard

/-- THE SECOND FORM's CARD OF 'laws.FnTable'. -/
def fnTableUptoCard : Claim7 := { stood := { row := fnTableUptoRow, standIns := [], harness := (true, "443a6286b2c6ef31594df56865d75d7ccb7c9ce54c06abfa9cc1834447fb313a"), looks := false }, kinds := [], alts := [], laidByText := true, laidKinds := [.data, .data], laidTests := true, laidLooks := .later }
def FnTableUptoCardSaid : Prop := Claim7.holds Tryd.pinned (.plain (OpenSpec.upto fnTableSpec)) fnTableUptoCard
end Rows
end Go.Proofs.YtjhjfopokiaiiaaDoor
