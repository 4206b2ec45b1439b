/-
  DERIVED. GIVEN WITH THE SEED: THE CARDS: each row of YtjhjfopokiaiiabDoorRows.lean that lists a variable, with what it lists TIED to the program's text (the seventh form; the later family's looks); each row that meets fmt, with fmt's text TOLD by the authors' own Lean function (tested against real Go, not proved from fmt's source: count such statements apart). THE CARD IS WHAT COUNTS. Prove the row's statement (the work); the ties are given (YtjhjfopokiaiiabDoorTie.lean); close each card by the builder's one call (the guide's Derived/Test/ToyasCard.lean, 'card_holds'). Laid BY PROGRAM, IN A SANDBOX (cutbox-door.mjs). By AI agents, Wed Nov 11 2026. No macro, syntax, notation, axiom, sorry.
-/
import Derived.Test.YtjhjfopokiaiiabDoorRows
import GoSem.ClaimSeven
namespace Go.Proofs.YtjhjfopokiaiiabDoor
namespace Rows

/-- THE TIED CARD OF 'laws.FnSkew'. -/
def fnSkewCard : Claim7 := { stood := { row := fnSkewRow, standIns := [], harness := (true, "f1c2b052660f3ec105f3e7953f3e6442532075f2c38740269c92c78265722195"), looks := false }, kinds := [], alts := [], laidByText := true, laidKinds := [.data, .data], laidTests := true, laidLooks := .later }
def FnSkewCardSaid : Prop := Claim7.holds Tryd.pinned (.plain (OpenSpec.ofChange fnSkewSpec)) fnSkewCard

/-- THE TIED CARD OF 'laws.FnEven'. -/
def fnEvenCard : Claim7 := { stood := { row := fnEvenRow, standIns := [], harness := (true, "f1c2b052660f3ec105f3e7953f3e6442532075f2c38740269c92c78265722195"), looks := false }, kinds := [], alts := [], laidByText := true, laidKinds := [.data, .data], laidTests := true, laidLooks := .later }
def FnEvenCardSaid : Prop := Claim7.holds Tryd.pinned (.plain (OpenSpec.ofChange fnEvenSpec)) fnEvenCard

/-- THE TIED CARD OF 'laws.FnDet'. -/
def fnDetCard : Claim7 := { stood := { row := fnDetRow, standIns := [], harness := (true, "f1c2b052660f3ec105f3e7953f3e6442532075f2c38740269c92c78265722195"), looks := false }, kinds := [], alts := [], laidByText := true, laidKinds := [.data, .data], laidTests := true, laidLooks := .later }
def FnDetCardSaid : Prop := Claim7.holds Tryd.pinned (.plain (OpenSpec.ofChange fnDetSpec)) fnDetCard

/-- THE TIED CARD OF 'laws.FnPermanent'. -/
def fnPermanentCard : Claim7 := { stood := { row := fnPermanentRow, standIns := [], harness := (true, "f1c2b052660f3ec105f3e7953f3e6442532075f2c38740269c92c78265722195"), looks := false }, kinds := [], alts := [], laidByText := true, laidKinds := [.data, .data], laidTests := true, laidLooks := .later }
def FnPermanentCardSaid : Prop := Claim7.holds Tryd.pinned (.plain (OpenSpec.ofChange fnPermanentSpec)) fnPermanentCard

/-- THE TIED CARD OF 'laws.FnExactTableGraph'. -/
def fnExactTableGraphCard : Claim7 := { stood := { row := fnExactTableGraphRow, standIns := [], harness := (true, "f1c2b052660f3ec105f3e7953f3e6442532075f2c38740269c92c78265722195"), looks := false }, kinds := [], alts := [], laidByText := true, laidKinds := [.data, .data], laidTests := true, laidLooks := .later }
def FnExactTableGraphCardSaid : Prop := Claim7.holds Tryd.pinned (.plain (OpenSpec.ofChange fnExactTableGraphSpec)) fnExactTableGraphCard

/-- THE SECOND FORM's CARD OF 'laws.FnSkew'. -/
def fnSkewUptoCard : Claim7 := { stood := { row := fnSkewUptoRow, standIns := [], harness := (true, "f1c2b052660f3ec105f3e7953f3e6442532075f2c38740269c92c78265722195"), looks := false }, kinds := [], alts := [], laidByText := true, laidKinds := [.data, .data], laidTests := true, laidLooks := .later }
def FnSkewUptoCardSaid : Prop := Claim7.holds Tryd.pinned (.plain (OpenSpec.upto fnSkewSpec)) fnSkewUptoCard

/-- THE SECOND FORM's CARD OF 'laws.FnEven'. -/
def fnEvenUptoCard : Claim7 := { stood := { row := fnEvenUptoRow, standIns := [], harness := (true, "f1c2b052660f3ec105f3e7953f3e6442532075f2c38740269c92c78265722195"), looks := false }, kinds := [], alts := [], laidByText := true, laidKinds := [.data, .data], laidTests := true, laidLooks := .later }
def FnEvenUptoCardSaid : Prop := Claim7.holds Tryd.pinned (.plain (OpenSpec.upto fnEvenSpec)) fnEvenUptoCard

/-- THE SECOND FORM's CARD OF 'laws.FnDet'. -/
def fnDetUptoCard : Claim7 := { stood := { row := fnDetUptoRow, standIns := [], harness := (true, "f1c2b052660f3ec105f3e7953f3e6442532075f2c38740269c92c78265722195"), looks := false }, kinds := [], alts := [], laidByText := true, laidKinds := [.data, .data], laidTests := true, laidLooks := .later }
def FnDetUptoCardSaid : Prop := Claim7.holds Tryd.pinned (.plain (OpenSpec.upto fnDetSpec)) fnDetUptoCard

/-- THE SECOND FORM's CARD OF 'laws.FnPermanent'. -/
def fnPermanentUptoCard : Claim7 := { stood := { row := fnPermanentUptoRow, standIns := [], harness := (true, "f1c2b052660f3ec105f3e7953f3e6442532075f2c38740269c92c78265722195"), looks := false }, kinds := [], alts := [], laidByText := true, laidKinds := [.data, .data], laidTests := true, laidLooks := .later }
def FnPermanentUptoCardSaid : Prop := Claim7.holds Tryd.pinned (.plain (OpenSpec.upto fnPermanentSpec)) fnPermanentUptoCard

/-- THE SECOND FORM's CARD OF 'laws.FnExactTableGraph'. -/
def fnExactTableGraphUptoCard : Claim7 := { stood := { row := fnExactTableGraphUptoRow, standIns := [], harness := (true, "f1c2b052660f3ec105f3e7953f3e6442532075f2c38740269c92c78265722195"), looks := false }, kinds := [], alts := [], laidByText := true, laidKinds := [.data, .data], laidTests := true, laidLooks := .later }
def FnExactTableGraphUptoCardSaid : Prop := Claim7.holds Tryd.pinned (.plain (OpenSpec.upto fnExactTableGraphSpec)) fnExactTableGraphUptoCard
end Rows
end Go.Proofs.YtjhjfopokiaiiabDoor
