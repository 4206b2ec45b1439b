/-
  DERIVED. GIVEN WITH THE SEED: THE CARDS: each row of YtnmemefkeehjjaaDoorRows.lean that lists a variable, with what it lists TIED to the program's text (the seventh form; the later family's looks); each row that meets fmt, with fmt's text TOLD by the authors' own Lean function (tested against real Go, not proved from fmt's source: count such statements apart). THE CARD IS WHAT COUNTS. Prove the row's statement (the work); the ties are given (YtnmemefkeehjjaaDoorTie.lean); close each card by the builder's one call (the guide's Derived/Test/ToyasCard.lean, 'card_holds'). Laid BY PROGRAM, IN A SANDBOX (cutbox-door.mjs). By AI agents, Wed Nov 11 2026. No macro, syntax, notation, axiom, sorry.
-/
import Derived.Test.YtnmemefkeehjjaaDoorRows
import GoSem.ClaimSeven
namespace Go.Proofs.YtnmemefkeehjjaaDoor
namespace Rows

/-- THE TIED CARD OF 'laws.FnExactTableGraph'. -/
def fnExactTableGraphCard : Claim7 := { stood := { row := fnExactTableGraphRow, standIns := [], harness := (true, "1d468f2fec6b6dcd738e0ce9eb8c4cb93a29d65b2c485e7597b21a7c344e26f4"), looks := false }, kinds := [], alts := [], laidByText := true, laidKinds := [.data, .data], laidTests := true, laidLooks := .later }
def FnExactTableGraphCardSaid : Prop := Claim7.holds Tryd.pinned (.plain (OpenSpec.ofChange fnExactTableGraphSpec)) fnExactTableGraphCard

/-- THE TIED CARD OF 'laws.FnExactCoverThree'. -/
def fnExactCoverThreeCard : Claim7 := { stood := { row := fnExactCoverThreeRow, standIns := [], harness := (true, "1d468f2fec6b6dcd738e0ce9eb8c4cb93a29d65b2c485e7597b21a7c344e26f4"), looks := false }, kinds := [], alts := [], laidByText := true, laidKinds := [.data, .data], laidTests := true, laidLooks := .later }
def FnExactCoverThreeCardSaid : Prop := Claim7.holds Tryd.pinned (.plain (OpenSpec.ofChange fnExactCoverThreeSpec)) fnExactCoverThreeCard

/-- THE TIED CARD OF 'laws.FnExactGraphBeside'. -/
def fnExactGraphBesideCard : Claim7 := { stood := { row := fnExactGraphBesideRow, standIns := [], harness := (true, "1d468f2fec6b6dcd738e0ce9eb8c4cb93a29d65b2c485e7597b21a7c344e26f4"), looks := false }, kinds := [], alts := [], laidByText := true, laidKinds := [.data, .data], laidTests := true, laidLooks := .later }
def FnExactGraphBesideCardSaid : Prop := Claim7.holds Tryd.pinned (.plain (OpenSpec.ofChange fnExactGraphBesideSpec)) fnExactGraphBesideCard

/-- THE TIED CARD OF 'laws.FnExactMatchIn'. -/
def fnExactMatchInCard : Claim7 := { stood := { row := fnExactMatchInRow, standIns := [], harness := (true, "1d468f2fec6b6dcd738e0ce9eb8c4cb93a29d65b2c485e7597b21a7c344e26f4"), looks := false }, kinds := [], alts := [], laidByText := true, laidKinds := [.data, .data], laidTests := true, laidLooks := .later }
def FnExactMatchInCardSaid : Prop := Claim7.holds Tryd.pinned (.plain (OpenSpec.ofChange fnExactMatchInSpec)) fnExactMatchInCard

/-- THE TIED CARD OF 'laws.FnExactCoverLoss'. -/
def fnExactCoverLossCard : Claim7 := { stood := { row := fnExactCoverLossRow, standIns := [], harness := (true, "1d468f2fec6b6dcd738e0ce9eb8c4cb93a29d65b2c485e7597b21a7c344e26f4"), looks := false }, kinds := [], alts := [], laidByText := true, laidKinds := [.data, .data], laidTests := true, laidLooks := .later }
def FnExactCoverLossCardSaid : Prop := Claim7.holds Tryd.pinned (.plain (OpenSpec.ofChange fnExactCoverLossSpec)) fnExactCoverLossCard

/-- THE TIED CARD OF 'laws.FnExactMatchAllowed'. -/
def fnExactMatchAllowedCard : Claim7 := { stood := { row := fnExactMatchAllowedRow, standIns := [], harness := (true, "1d468f2fec6b6dcd738e0ce9eb8c4cb93a29d65b2c485e7597b21a7c344e26f4"), looks := false }, kinds := [], alts := [], laidByText := true, laidKinds := [.data, .data], laidTests := true, laidLooks := .later }
def FnExactMatchAllowedCardSaid : Prop := Claim7.holds Tryd.pinned (.plain (OpenSpec.ofChange fnExactMatchAllowedSpec)) fnExactMatchAllowedCard

/-- THE TIED CARD OF 'laws.FnNumbers'. -/
def fnNumbersCard : Claim7 := { stood := { row := fnNumbersRow, standIns := [], harness := (true, "1d468f2fec6b6dcd738e0ce9eb8c4cb93a29d65b2c485e7597b21a7c344e26f4"), looks := false }, kinds := [], alts := [], laidByText := true, laidKinds := [.data, .data], laidTests := true, laidLooks := .later }
def FnNumbersCardSaid : Prop := Claim7.holds Tryd.pinned (.plain (OpenSpec.ofChange fnNumbersSpec)) fnNumbersCard

/-- THE TIED CARD OF 'laws.FnPolyCut'. -/
def fnPolyCutCard : Claim7 := { stood := { row := fnPolyCutRow, standIns := [], harness := (true, "1d468f2fec6b6dcd738e0ce9eb8c4cb93a29d65b2c485e7597b21a7c344e26f4"), looks := false }, kinds := [], alts := [], laidByText := true, laidKinds := [.data, .data], laidTests := true, laidLooks := .later }
def FnPolyCutCardSaid : Prop := Claim7.holds Tryd.pinned (.plain (OpenSpec.ofChange fnPolyCutSpec)) fnPolyCutCard

/-- THE SECOND FORM's CARD OF 'laws.FnExactTableGraph'. -/
def fnExactTableGraphUptoCard : Claim7 := { stood := { row := fnExactTableGraphUptoRow, standIns := [], harness := (true, "1d468f2fec6b6dcd738e0ce9eb8c4cb93a29d65b2c485e7597b21a7c344e26f4"), looks := false }, kinds := [], alts := [], laidByText := true, laidKinds := [.data, .data], laidTests := true, laidLooks := .later }
def FnExactTableGraphUptoCardSaid : Prop := Claim7.holds Tryd.pinned (.plain (OpenSpec.upto fnExactTableGraphSpec)) fnExactTableGraphUptoCard

/-- THE SECOND FORM's CARD OF 'laws.FnExactCoverThree'. -/
def fnExactCoverThreeUptoCard : Claim7 := { stood := { row := fnExactCoverThreeUptoRow, standIns := [], harness := (true, "1d468f2fec6b6dcd738e0ce9eb8c4cb93a29d65b2c485e7597b21a7c344e26f4"), looks := false }, kinds := [], alts := [], laidByText := true, laidKinds := [.data, .data], laidTests := true, laidLooks := .later }
def FnExactCoverThreeUptoCardSaid : Prop := Claim7.holds Tryd.pinned (.plain (OpenSpec.upto fnExactCoverThreeSpec)) fnExactCoverThreeUptoCard

/-- THE SECOND FORM's CARD OF 'laws.FnExactGraphBeside'. -/
def fnExactGraphBesideUptoCard : Claim7 := { stood := { row := fnExactGraphBesideUptoRow, standIns := [], harness := (true, "1d468f2fec6b6dcd738e0ce9eb8c4cb93a29d65b2c485e7597b21a7c344e26f4"), looks := false }, kinds := [], alts := [], laidByText := true, laidKinds := [.data, .data], laidTests := true, laidLooks := .later }
def FnExactGraphBesideUptoCardSaid : Prop := Claim7.holds Tryd.pinned (.plain (OpenSpec.upto fnExactGraphBesideSpec)) fnExactGraphBesideUptoCard

/-- THE SECOND FORM's CARD OF 'laws.FnExactMatchIn'. -/
def fnExactMatchInUptoCard : Claim7 := { stood := { row := fnExactMatchInUptoRow, standIns := [], harness := (true, "1d468f2fec6b6dcd738e0ce9eb8c4cb93a29d65b2c485e7597b21a7c344e26f4"), looks := false }, kinds := [], alts := [], laidByText := true, laidKinds := [.data, .data], laidTests := true, laidLooks := .later }
def FnExactMatchInUptoCardSaid : Prop := Claim7.holds Tryd.pinned (.plain (OpenSpec.upto fnExactMatchInSpec)) fnExactMatchInUptoCard

/-- THE SECOND FORM's CARD OF 'laws.FnExactCoverLoss'. -/
def fnExactCoverLossUptoCard : Claim7 := { stood := { row := fnExactCoverLossUptoRow, standIns := [], harness := (true, "1d468f2fec6b6dcd738e0ce9eb8c4cb93a29d65b2c485e7597b21a7c344e26f4"), looks := false }, kinds := [], alts := [], laidByText := true, laidKinds := [.data, .data], laidTests := true, laidLooks := .later }
def FnExactCoverLossUptoCardSaid : Prop := Claim7.holds Tryd.pinned (.plain (OpenSpec.upto fnExactCoverLossSpec)) fnExactCoverLossUptoCard

/-- THE SECOND FORM's CARD OF 'laws.FnExactMatchAllowed'. -/
def fnExactMatchAllowedUptoCard : Claim7 := { stood := { row := fnExactMatchAllowedUptoRow, standIns := [], harness := (true, "1d468f2fec6b6dcd738e0ce9eb8c4cb93a29d65b2c485e7597b21a7c344e26f4"), looks := false }, kinds := [], alts := [], laidByText := true, laidKinds := [.data, .data], laidTests := true, laidLooks := .later }
def FnExactMatchAllowedUptoCardSaid : Prop := Claim7.holds Tryd.pinned (.plain (OpenSpec.upto fnExactMatchAllowedSpec)) fnExactMatchAllowedUptoCard

/-- THE SECOND FORM's CARD OF 'laws.FnNumbers'. -/
def fnNumbersUptoCard : Claim7 := { stood := { row := fnNumbersUptoRow, standIns := [], harness := (true, "1d468f2fec6b6dcd738e0ce9eb8c4cb93a29d65b2c485e7597b21a7c344e26f4"), looks := false }, kinds := [], alts := [], laidByText := true, laidKinds := [.data, .data], laidTests := true, laidLooks := .later }
def FnNumbersUptoCardSaid : Prop := Claim7.holds Tryd.pinned (.plain (OpenSpec.upto fnNumbersSpec)) fnNumbersUptoCard

/-- THE SECOND FORM's CARD OF 'laws.FnPolyCut'. -/
def fnPolyCutUptoCard : Claim7 := { stood := { row := fnPolyCutUptoRow, standIns := [], harness := (true, "1d468f2fec6b6dcd738e0ce9eb8c4cb93a29d65b2c485e7597b21a7c344e26f4"), looks := false }, kinds := [], alts := [], laidByText := true, laidKinds := [.data, .data], laidTests := true, laidLooks := .later }
def FnPolyCutUptoCardSaid : Prop := Claim7.holds Tryd.pinned (.plain (OpenSpec.upto fnPolyCutSpec)) fnPolyCutUptoCard
end Rows
end Go.Proofs.YtnmemefkeehjjaaDoor
