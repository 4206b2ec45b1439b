/-
  DERIVED. GIVEN WITH THE SEED: THE CARDS: each row of YtejbeglchholhaaDoorRows.lean that lists a variable, with what it lists TIED to the program's text (the seventh form; the later family's looks); each row that meets fmt, with fmt's text TOLD by the authors' own Lean function (tested against real Go, not proved from fmt's source: count such statements apart). THE CARD IS WHAT COUNTS. Prove the row's statement (the work); the ties are given (YtejbeglchholhaaDoorTie.lean); close each card by the builder's one call (the guide's Derived/Test/ToyasCard.lean, 'card_holds'). Laid BY PROGRAM, IN A SANDBOX (cutbox-door.mjs). By AI agents, Wed Nov 11 2026. No macro, syntax, notation, axiom, sorry.
-/
import Derived.Test.YtejbeglchholhaaDoorRows
import GoSem.ClaimSeven
namespace Go.Proofs.YtejbeglchholhaaDoor
namespace Rows

/-- THE TIED CARD OF 'laws.FnBesideNumbers'. -/
def fnBesideNumbersCard : Claim7 := { stood := { row := fnBesideNumbersRow, standIns := [], harness := (true, "e0946c12e4753f7263ae010f343466b6a9e3bb0a2146dfd28801b5e472b39840"), looks := false }, kinds := [], alts := [], laidByText := true, laidKinds := [.data, .data], laidTests := true, laidLooks := .later }
def FnBesideNumbersCardSaid : Prop := Claim7.holds Tryd.pinned (.plain (OpenSpec.ofChange fnBesideNumbersSpec)) fnBesideNumbersCard

/-- THE TIED CARD OF 'laws.FnPolyBeside'. -/
def fnPolyBesideCard : Claim7 := { stood := { row := fnPolyBesideRow, standIns := [], harness := (true, "e0946c12e4753f7263ae010f343466b6a9e3bb0a2146dfd28801b5e472b39840"), looks := false }, kinds := [], alts := [], laidByText := true, laidKinds := [.data, .data], laidTests := true, laidLooks := .later }
def FnPolyBesideCardSaid : Prop := Claim7.holds Tryd.pinned (.plain (OpenSpec.ofChange fnPolyBesideSpec)) fnPolyBesideCard

/-- THE SECOND FORM's CARD OF 'laws.FnBesideNumbers'. -/
def fnBesideNumbersUptoCard : Claim7 := { stood := { row := fnBesideNumbersUptoRow, standIns := [], harness := (true, "e0946c12e4753f7263ae010f343466b6a9e3bb0a2146dfd28801b5e472b39840"), looks := false }, kinds := [], alts := [], laidByText := true, laidKinds := [.data, .data], laidTests := true, laidLooks := .later }
def FnBesideNumbersUptoCardSaid : Prop := Claim7.holds Tryd.pinned (.plain (OpenSpec.upto fnBesideNumbersSpec)) fnBesideNumbersUptoCard

/-- THE SECOND FORM's CARD OF 'laws.FnPolyBeside'. -/
def fnPolyBesideUptoCard : Claim7 := { stood := { row := fnPolyBesideUptoRow, standIns := [], harness := (true, "e0946c12e4753f7263ae010f343466b6a9e3bb0a2146dfd28801b5e472b39840"), looks := false }, kinds := [], alts := [], laidByText := true, laidKinds := [.data, .data], laidTests := true, laidLooks := .later }
def FnPolyBesideUptoCardSaid : Prop := Claim7.holds Tryd.pinned (.plain (OpenSpec.upto fnPolyBesideSpec)) fnPolyBesideUptoCard
end Rows
end Go.Proofs.YtejbeglchholhaaDoor
