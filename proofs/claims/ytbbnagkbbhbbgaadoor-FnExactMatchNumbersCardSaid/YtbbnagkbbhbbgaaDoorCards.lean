/-
  DERIVED. GIVEN WITH THE SEED: THE CARDS: each row of YtbbnagkbbhbbgaaDoorRows.lean that lists a variable, with what it lists TIED to the program's text (the seventh form; the later family's looks); each row that meets fmt, with fmt's text TOLD by the authors' own Lean function (tested against real Go, not proved from fmt's source: count such statements apart). THE CARD IS WHAT COUNTS. Prove the row's statement (the work); the ties are given (YtbbnagkbbhbbgaaDoorTie.lean); close each card by the builder's one call (the guide's Derived/Test/ToyasCard.lean, 'card_holds'). Laid BY PROGRAM, IN A SANDBOX (cutbox-door.mjs). By AI agents, Wed Nov 11 2026. No macro, syntax, notation, axiom, sorry.
-/
import Derived.Test.YtbbnagkbbhbbgaaDoorRows
import GoSem.ClaimSeven
namespace Go.Proofs.YtbbnagkbbhbbgaaDoor
namespace Rows

/-- THE TIED CARD OF 'laws.FnExactMatchNumbers'. -/
def fnExactMatchNumbersCard : Claim7 := { stood := { row := fnExactMatchNumbersRow, standIns := [], harness := (true, "00138c3c847d0015f205f48303f8697332de190f4db9a0a9c08ce3974352f712"), looks := false }, kinds := [], alts := [], laidByText := true, laidKinds := [.data, .data], laidTests := true, laidLooks := .later }
def FnExactMatchNumbersCardSaid : Prop := Claim7.holds Tryd.pinned (.plain (OpenSpec.ofChange fnExactMatchNumbersSpec)) fnExactMatchNumbersCard

/-- THE SECOND FORM's CARD OF 'laws.FnExactMatchNumbers'. -/
def fnExactMatchNumbersUptoCard : Claim7 := { stood := { row := fnExactMatchNumbersUptoRow, standIns := [], harness := (true, "00138c3c847d0015f205f48303f8697332de190f4db9a0a9c08ce3974352f712"), looks := false }, kinds := [], alts := [], laidByText := true, laidKinds := [.data, .data], laidTests := true, laidLooks := .later }
def FnExactMatchNumbersUptoCardSaid : Prop := Claim7.holds Tryd.pinned (.plain (OpenSpec.upto fnExactMatchNumbersSpec)) fnExactMatchNumbersUptoCard
end Rows
end Go.Proofs.YtbbnagkbbhbbgaaDoor
