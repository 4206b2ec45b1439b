/-
  DERIVED. GIVEN WITH THE SEED: THE CARDS: each row of YtjijkgmeddeihaaDoorRows.lean that lists a variable, with what it lists TIED to the program's text (the seventh form; the later family's looks); each row that meets fmt, with fmt's text TOLD by the authors' own Lean function (tested against real Go, not proved from fmt's source: count such statements apart). THE CARD IS WHAT COUNTS. Prove the row's statement (the work); the ties are given (YtjijkgmeddeihaaDoorTie.lean); close each card by the builder's one call (the guide's Derived/Test/ToyasCard.lean, 'card_holds'). Laid BY PROGRAM, IN A SANDBOX (cutbox-door.mjs). By AI agents, Wed Nov 11 2026. No macro, syntax, notation, axiom, sorry.
-/
import Derived.Test.YtjijkgmeddeihaaDoorRows
import GoSem.ClaimSeven
namespace Go.Proofs.YtjijkgmeddeihaaDoor
namespace Rows

/-- THE TIED CARD OF 'laws.FnExactTableGraph'. -/
def fnExactTableGraphCard : Claim7 := { stood := { row := fnExactTableGraphRow, standIns := [], harness := (true, "220eef3a40f84bf9c357089a2102d76ffca40ec1dc4acc870ec3d04edf72a26f"), looks := false }, kinds := [], alts := [], laidByText := true, laidKinds := [.data, .data], laidTests := true, laidLooks := .later }
def FnExactTableGraphCardSaid : Prop := Claim7.holds Tryd.pinned (.plain (OpenSpec.ofChange fnExactTableGraphSpec)) fnExactTableGraphCard

/-- THE TIED CARD OF 'laws.FnExactTablePoint'. -/
def fnExactTablePointCard : Claim7 := { stood := { row := fnExactTablePointRow, standIns := [], harness := (true, "220eef3a40f84bf9c357089a2102d76ffca40ec1dc4acc870ec3d04edf72a26f"), looks := false }, kinds := [], alts := [], laidByText := true, laidKinds := [.data, .data], laidTests := true, laidLooks := .later }
def FnExactTablePointCardSaid : Prop := Claim7.holds Tryd.pinned (.plain (OpenSpec.ofChange fnExactTablePointSpec)) fnExactTablePointCard

/-- THE TIED CARD OF 'laws.FnExactTableFits'. -/
def fnExactTableFitsCard : Claim7 := { stood := { row := fnExactTableFitsRow, standIns := [], harness := (true, "220eef3a40f84bf9c357089a2102d76ffca40ec1dc4acc870ec3d04edf72a26f"), looks := false }, kinds := [], alts := [], laidByText := true, laidKinds := [.data, .data], laidTests := true, laidLooks := .later }
def FnExactTableFitsCardSaid : Prop := Claim7.holds Tryd.pinned (.plain (OpenSpec.ofChange fnExactTableFitsSpec)) fnExactTableFitsCard

/-- THE SECOND FORM's CARD OF 'laws.FnExactTableGraph'. -/
def fnExactTableGraphUptoCard : Claim7 := { stood := { row := fnExactTableGraphUptoRow, standIns := [], harness := (true, "220eef3a40f84bf9c357089a2102d76ffca40ec1dc4acc870ec3d04edf72a26f"), looks := false }, kinds := [], alts := [], laidByText := true, laidKinds := [.data, .data], laidTests := true, laidLooks := .later }
def FnExactTableGraphUptoCardSaid : Prop := Claim7.holds Tryd.pinned (.plain (OpenSpec.upto fnExactTableGraphSpec)) fnExactTableGraphUptoCard

/-- THE SECOND FORM's CARD OF 'laws.FnExactTablePoint'. -/
def fnExactTablePointUptoCard : Claim7 := { stood := { row := fnExactTablePointUptoRow, standIns := [], harness := (true, "220eef3a40f84bf9c357089a2102d76ffca40ec1dc4acc870ec3d04edf72a26f"), looks := false }, kinds := [], alts := [], laidByText := true, laidKinds := [.data, .data], laidTests := true, laidLooks := .later }
def FnExactTablePointUptoCardSaid : Prop := Claim7.holds Tryd.pinned (.plain (OpenSpec.upto fnExactTablePointSpec)) fnExactTablePointUptoCard

/-- THE SECOND FORM's CARD OF 'laws.FnExactTableFits'. -/
def fnExactTableFitsUptoCard : Claim7 := { stood := { row := fnExactTableFitsUptoRow, standIns := [], harness := (true, "220eef3a40f84bf9c357089a2102d76ffca40ec1dc4acc870ec3d04edf72a26f"), looks := false }, kinds := [], alts := [], laidByText := true, laidKinds := [.data, .data], laidTests := true, laidLooks := .later }
def FnExactTableFitsUptoCardSaid : Prop := Claim7.holds Tryd.pinned (.plain (OpenSpec.upto fnExactTableFitsSpec)) fnExactTableFitsUptoCard
end Rows
end Go.Proofs.YtjijkgmeddeihaaDoor
