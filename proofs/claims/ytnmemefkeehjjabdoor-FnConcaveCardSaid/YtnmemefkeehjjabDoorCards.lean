/-
  DERIVED. GIVEN WITH THE SEED: THE CARDS: each row of YtnmemefkeehjjabDoorRows.lean that lists a variable, with what it lists TIED to the program's text (the seventh form; the later family's looks); each row that meets fmt, with fmt's text TOLD by the authors' own Lean function (tested against real Go, not proved from fmt's source: count such statements apart). THE CARD IS WHAT COUNTS. Prove the row's statement (the work); the ties are given (YtnmemefkeehjjabDoorTie.lean); close each card by the builder's one call (the guide's Derived/Test/ToyasCard.lean, 'card_holds'). Laid BY PROGRAM, IN A SANDBOX (cutbox-door.mjs). By AI agents, Wed Nov 11 2026. No macro, syntax, notation, axiom, sorry.
-/
import Derived.Test.YtnmemefkeehjjabDoorRows
import GoSem.ClaimSeven
namespace Go.Proofs.YtnmemefkeehjjabDoor
namespace Rows

/-- THE TIED CARD OF 'laws.FnPolyMatch'. -/
def fnPolyMatchCard : Claim7 := { stood := { row := fnPolyMatchRow, standIns := [], harness := (true, "25182bcd91417f6c37683d935d73ed333803e70456542a164a5c382eb0b2c249"), looks := false }, kinds := [], alts := [], laidByText := true, laidKinds := [.data, .data], laidTests := true, laidLooks := .later }
def FnPolyMatchCardSaid : Prop := Claim7.holds Tryd.pinned (.plain (OpenSpec.ofChange fnPolyMatchSpec)) fnPolyMatchCard

/-- THE TIED CARD OF 'laws.FnConcave'. -/
def fnConcaveCard : Claim7 := { stood := { row := fnConcaveRow, standIns := [], harness := (true, "25182bcd91417f6c37683d935d73ed333803e70456542a164a5c382eb0b2c249"), looks := false }, kinds := [], alts := [], laidByText := true, laidKinds := [.data, .data], laidTests := true, laidLooks := .later }
def FnConcaveCardSaid : Prop := Claim7.holds Tryd.pinned (.plain (OpenSpec.ofChange fnConcaveSpec)) fnConcaveCard

/-- THE TIED CARD OF 'laws.FnLoss'. -/
def fnLossCard : Claim7 := { stood := { row := fnLossRow, standIns := [], harness := (true, "25182bcd91417f6c37683d935d73ed333803e70456542a164a5c382eb0b2c249"), looks := false }, kinds := [], alts := [], laidByText := true, laidKinds := [.data, .data], laidTests := true, laidLooks := .later }
def FnLossCardSaid : Prop := Claim7.holds Tryd.pinned (.plain (OpenSpec.ofChange fnLossSpec)) fnLossCard

/-- THE TIED CARD OF 'laws.FnCritical'. -/
def fnCriticalCard : Claim7 := { stood := { row := fnCriticalRow, standIns := [], harness := (true, "25182bcd91417f6c37683d935d73ed333803e70456542a164a5c382eb0b2c249"), looks := false }, kinds := [], alts := [], laidByText := true, laidKinds := [.data, .data], laidTests := true, laidLooks := .later }
def FnCriticalCardSaid : Prop := Claim7.holds Tryd.pinned (.plain (OpenSpec.ofChange fnCriticalSpec)) fnCriticalCard

/-- THE SECOND FORM's CARD OF 'laws.FnPolyMatch'. -/
def fnPolyMatchUptoCard : Claim7 := { stood := { row := fnPolyMatchUptoRow, standIns := [], harness := (true, "25182bcd91417f6c37683d935d73ed333803e70456542a164a5c382eb0b2c249"), looks := false }, kinds := [], alts := [], laidByText := true, laidKinds := [.data, .data], laidTests := true, laidLooks := .later }
def FnPolyMatchUptoCardSaid : Prop := Claim7.holds Tryd.pinned (.plain (OpenSpec.upto fnPolyMatchSpec)) fnPolyMatchUptoCard

/-- THE SECOND FORM's CARD OF 'laws.FnConcave'. -/
def fnConcaveUptoCard : Claim7 := { stood := { row := fnConcaveUptoRow, standIns := [], harness := (true, "25182bcd91417f6c37683d935d73ed333803e70456542a164a5c382eb0b2c249"), looks := false }, kinds := [], alts := [], laidByText := true, laidKinds := [.data, .data], laidTests := true, laidLooks := .later }
def FnConcaveUptoCardSaid : Prop := Claim7.holds Tryd.pinned (.plain (OpenSpec.upto fnConcaveSpec)) fnConcaveUptoCard

/-- THE SECOND FORM's CARD OF 'laws.FnLoss'. -/
def fnLossUptoCard : Claim7 := { stood := { row := fnLossUptoRow, standIns := [], harness := (true, "25182bcd91417f6c37683d935d73ed333803e70456542a164a5c382eb0b2c249"), looks := false }, kinds := [], alts := [], laidByText := true, laidKinds := [.data, .data], laidTests := true, laidLooks := .later }
def FnLossUptoCardSaid : Prop := Claim7.holds Tryd.pinned (.plain (OpenSpec.upto fnLossSpec)) fnLossUptoCard

/-- THE SECOND FORM's CARD OF 'laws.FnCritical'. -/
def fnCriticalUptoCard : Claim7 := { stood := { row := fnCriticalUptoRow, standIns := [], harness := (true, "25182bcd91417f6c37683d935d73ed333803e70456542a164a5c382eb0b2c249"), looks := false }, kinds := [], alts := [], laidByText := true, laidKinds := [.data, .data], laidTests := true, laidLooks := .later }
def FnCriticalUptoCardSaid : Prop := Claim7.holds Tryd.pinned (.plain (OpenSpec.upto fnCriticalSpec)) fnCriticalUptoCard
end Rows
end Go.Proofs.YtnmemefkeehjjabDoor
