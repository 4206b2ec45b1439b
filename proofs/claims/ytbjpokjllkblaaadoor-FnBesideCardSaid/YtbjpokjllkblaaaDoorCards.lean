/-
  DERIVED. GIVEN WITH THE SEED: THE CARDS: each row of YtbjpokjllkblaaaDoorRows.lean that lists a variable, with what it lists TIED to the program's text (the seventh form; the later family's looks); each row that meets fmt, with fmt's text TOLD by the authors' own Lean function (tested against real Go, not proved from fmt's source: count such statements apart). THE CARD IS WHAT COUNTS. Prove the row's statement (the work); the ties are given (YtbjpokjllkblaaaDoorTie.lean); close each card by the builder's one call (the guide's Derived/Test/ToyasCard.lean, 'card_holds'). Laid BY PROGRAM, IN A SANDBOX (cutbox-door.mjs). By AI agents, Wed Nov 11 2026. No macro, syntax, notation, axiom, sorry.
-/
import Derived.Test.YtbjpokjllkblaaaDoorRows
import GoSem.ClaimSeven
namespace Go.Proofs.YtbjpokjllkblaaaDoor
namespace Rows

/-- THE TIED CARD OF 'laws.FnBeside'. -/
def fnBesideCard : Claim7 := { stood := { row := fnBesideRow, standIns := [], harness := (true, "32b28cc61b7dd1cbc51c3f7b400bb8b94d46e6a0288da623e3300346b7acddde"), looks := false }, kinds := [], alts := [], laidByText := true, laidKinds := [.data, .data], laidTests := true, laidLooks := .later }
def FnBesideCardSaid : Prop := Claim7.holds Tryd.pinned (.plain (OpenSpec.ofChange fnBesideSpec)) fnBesideCard

/-- THE SECOND FORM's CARD OF 'laws.FnBeside'. -/
def fnBesideUptoCard : Claim7 := { stood := { row := fnBesideUptoRow, standIns := [], harness := (true, "32b28cc61b7dd1cbc51c3f7b400bb8b94d46e6a0288da623e3300346b7acddde"), looks := false }, kinds := [], alts := [], laidByText := true, laidKinds := [.data, .data], laidTests := true, laidLooks := .later }
def FnBesideUptoCardSaid : Prop := Claim7.holds Tryd.pinned (.plain (OpenSpec.upto fnBesideSpec)) fnBesideUptoCard
end Rows
end Go.Proofs.YtbjpokjllkblaaaDoor
