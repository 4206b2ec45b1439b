/-
  DERIVED. GIVEN WITH THE SEED: THE CARDS: each row of YtjbgjebbfkhidabDoorRows.lean that lists a variable, with what it lists TIED to the program's text (the seventh form; the later family's looks); each row that meets fmt, with fmt's text TOLD by the authors' own Lean function (tested against real Go, not proved from fmt's source: count such statements apart). THE CARD IS WHAT COUNTS. Prove the row's statement (the work); the ties are given (YtjbgjebbfkhidabDoorTie.lean); close each card by the builder's one call (the guide's Derived/Test/ToyasCard.lean, 'card_holds'). Laid BY PROGRAM, IN A SANDBOX (cutbox-door.mjs). By AI agents, Wed Nov 11 2026. No macro, syntax, notation, axiom, sorry.
-/
import Derived.Test.YtjbgjebbfkhidabDoorRows
import GoSem.ClaimSeven
namespace Go.Proofs.YtjbgjebbfkhidabDoor
namespace Rows

/-- THE TIED CARD OF 'laws.FnExactCostNarrow'. -/
def fnExactCostNarrowCard : Claim7 := { stood := { row := fnExactCostNarrowRow, standIns := [], harness := (true, "9a4bcd47f01482a3cab8c2fb2b56516a8dfcb1bc77b54a18ebda5f131b5abd8a"), looks := true }, kinds := [], alts := [], laidByText := true, laidKinds := [.data, .data], laidTests := true, laidLooks := .later }
def FnExactCostNarrowCardSaid : Prop := Claim7.holds Tryd.pinned (.plain (OpenSpec.ofChange fnExactCostNarrowSpec)) fnExactCostNarrowCard

/-- THE TIED CARD OF 'laws.FnExactCostPrices'. -/
def fnExactCostPricesCard : Claim7 := { stood := { row := fnExactCostPricesRow, standIns := [], harness := (true, "9a4bcd47f01482a3cab8c2fb2b56516a8dfcb1bc77b54a18ebda5f131b5abd8a"), looks := true }, kinds := [], alts := [], laidByText := true, laidKinds := [.data, .data], laidTests := true, laidLooks := .later }
def FnExactCostPricesCardSaid : Prop := Claim7.holds Tryd.pinned (.plain (OpenSpec.ofChange fnExactCostPricesSpec)) fnExactCostPricesCard

/-- THE TIED CARD OF 'laws.FnExactCostHalf'. -/
def fnExactCostHalfCard : Claim7 := { stood := { row := fnExactCostHalfRow, standIns := [], harness := (true, "9a4bcd47f01482a3cab8c2fb2b56516a8dfcb1bc77b54a18ebda5f131b5abd8a"), looks := true }, kinds := [], alts := [], laidByText := true, laidKinds := [.data, .data], laidTests := true, laidLooks := .later }
def FnExactCostHalfCardSaid : Prop := Claim7.holds Tryd.pinned (.plain (OpenSpec.ofChange fnExactCostHalfSpec)) fnExactCostHalfCard

/-- THE TIED CARD OF 'laws.FnCosts'. -/
def fnCostsCard : Claim7 := { stood := { row := fnCostsRow, standIns := [], harness := (true, "9a4bcd47f01482a3cab8c2fb2b56516a8dfcb1bc77b54a18ebda5f131b5abd8a"), looks := true }, kinds := [], alts := [], laidByText := true, laidKinds := [.data, .data], laidTests := true, laidLooks := .later }
def FnCostsCardSaid : Prop := Claim7.holds Tryd.pinned (.plain (OpenSpec.ofChange fnCostsSpec)) fnCostsCard

/-- THE TIED CARD OF 'laws.FnCostOf'. -/
def fnCostOfCard : Claim7 := { stood := { row := fnCostOfRow, standIns := [], harness := (true, "9a4bcd47f01482a3cab8c2fb2b56516a8dfcb1bc77b54a18ebda5f131b5abd8a"), looks := true }, kinds := [], alts := [], laidByText := true, laidKinds := [.data, .data], laidTests := true, laidLooks := .later }
def FnCostOfCardSaid : Prop := Claim7.holds Tryd.pinned (.plain (OpenSpec.ofChange fnCostOfSpec)) fnCostOfCard

/-- THE TIED CARD OF 'laws.FnFit'. -/
def fnFitCard : Claim7 := { stood := { row := fnFitRow, standIns := [], harness := (true, "9a4bcd47f01482a3cab8c2fb2b56516a8dfcb1bc77b54a18ebda5f131b5abd8a"), looks := true }, kinds := [], alts := [], laidByText := true, laidKinds := [.data, .data], laidTests := true, laidLooks := .later }
def FnFitCardSaid : Prop := Claim7.holds Tryd.pinned (.plain (OpenSpec.ofChange fnFitSpec)) fnFitCard

/-- THE TIED CARD OF 'laws.FnCostTurned'. -/
def fnCostTurnedCard : Claim7 := { stood := { row := fnCostTurnedRow, standIns := [], harness := (true, "9a4bcd47f01482a3cab8c2fb2b56516a8dfcb1bc77b54a18ebda5f131b5abd8a"), looks := true }, kinds := [], alts := [], laidByText := true, laidKinds := [.data, .data], laidTests := true, laidLooks := .later }
def FnCostTurnedCardSaid : Prop := Claim7.holds Tryd.pinned (.plain (OpenSpec.ofChange fnCostTurnedSpec)) fnCostTurnedCard

/-- THE TIED CARD OF 'laws.FnMore'. -/
def fnMoreCard : Claim7 := { stood := { row := fnMoreRow, standIns := [], harness := (true, "9a4bcd47f01482a3cab8c2fb2b56516a8dfcb1bc77b54a18ebda5f131b5abd8a"), looks := true }, kinds := [], alts := [], laidByText := true, laidKinds := [.data, .data], laidTests := true, laidLooks := .later }
def FnMoreCardSaid : Prop := Claim7.holds Tryd.pinned (.plain (OpenSpec.ofChange fnMoreSpec)) fnMoreCard

/-- THE TIED CARD OF 'laws.FnNarrow'. -/
def fnNarrowCard : Claim7 := { stood := { row := fnNarrowRow, standIns := [], harness := (true, "9a4bcd47f01482a3cab8c2fb2b56516a8dfcb1bc77b54a18ebda5f131b5abd8a"), looks := true }, kinds := [], alts := [], laidByText := true, laidKinds := [.data, .data], laidTests := true, laidLooks := .later }
def FnNarrowCardSaid : Prop := Claim7.holds Tryd.pinned (.plain (OpenSpec.ofChange fnNarrowSpec)) fnNarrowCard

/-- THE TIED CARD OF 'laws.FnLeastCost'. -/
def fnLeastCostCard : Claim7 := { stood := { row := fnLeastCostRow, standIns := [], harness := (true, "9a4bcd47f01482a3cab8c2fb2b56516a8dfcb1bc77b54a18ebda5f131b5abd8a"), looks := true }, kinds := [], alts := [], laidByText := true, laidKinds := [.data, .data], laidTests := true, laidLooks := .later }
def FnLeastCostCardSaid : Prop := Claim7.holds Tryd.pinned (.plain (OpenSpec.ofChange fnLeastCostSpec)) fnLeastCostCard

/-- THE TIED CARD OF 'laws.FnPrices'. -/
def fnPricesCard : Claim7 := { stood := { row := fnPricesRow, standIns := [], harness := (true, "9a4bcd47f01482a3cab8c2fb2b56516a8dfcb1bc77b54a18ebda5f131b5abd8a"), looks := true }, kinds := [], alts := [], laidByText := true, laidKinds := [.data, .data], laidTests := true, laidLooks := .later }
def FnPricesCardSaid : Prop := Claim7.holds Tryd.pinned (.plain (OpenSpec.ofChange fnPricesSpec)) fnPricesCard

/-- THE TIED CARD OF 'laws.FnExactTableFits'. -/
def fnExactTableFitsCard : Claim7 := { stood := { row := fnExactTableFitsRow, standIns := [], harness := (true, "9a4bcd47f01482a3cab8c2fb2b56516a8dfcb1bc77b54a18ebda5f131b5abd8a"), looks := true }, kinds := [], alts := [], laidByText := true, laidKinds := [.data, .data], laidTests := true, laidLooks := .later }
def FnExactTableFitsCardSaid : Prop := Claim7.holds Tryd.pinned (.plain (OpenSpec.ofChange fnExactTableFitsSpec)) fnExactTableFitsCard

/-- THE SECOND FORM's CARD OF 'laws.FnExactCostNarrow'. -/
def fnExactCostNarrowUptoCard : Claim7 := { stood := { row := fnExactCostNarrowUptoRow, standIns := [], harness := (true, "9a4bcd47f01482a3cab8c2fb2b56516a8dfcb1bc77b54a18ebda5f131b5abd8a"), looks := true }, kinds := [], alts := [], laidByText := true, laidKinds := [.data, .data], laidTests := true, laidLooks := .later }
def FnExactCostNarrowUptoCardSaid : Prop := Claim7.holds Tryd.pinned (.plain (OpenSpec.upto fnExactCostNarrowSpec)) fnExactCostNarrowUptoCard

/-- THE SECOND FORM's CARD OF 'laws.FnExactCostPrices'. -/
def fnExactCostPricesUptoCard : Claim7 := { stood := { row := fnExactCostPricesUptoRow, standIns := [], harness := (true, "9a4bcd47f01482a3cab8c2fb2b56516a8dfcb1bc77b54a18ebda5f131b5abd8a"), looks := true }, kinds := [], alts := [], laidByText := true, laidKinds := [.data, .data], laidTests := true, laidLooks := .later }
def FnExactCostPricesUptoCardSaid : Prop := Claim7.holds Tryd.pinned (.plain (OpenSpec.upto fnExactCostPricesSpec)) fnExactCostPricesUptoCard

/-- THE SECOND FORM's CARD OF 'laws.FnExactCostHalf'. -/
def fnExactCostHalfUptoCard : Claim7 := { stood := { row := fnExactCostHalfUptoRow, standIns := [], harness := (true, "9a4bcd47f01482a3cab8c2fb2b56516a8dfcb1bc77b54a18ebda5f131b5abd8a"), looks := true }, kinds := [], alts := [], laidByText := true, laidKinds := [.data, .data], laidTests := true, laidLooks := .later }
def FnExactCostHalfUptoCardSaid : Prop := Claim7.holds Tryd.pinned (.plain (OpenSpec.upto fnExactCostHalfSpec)) fnExactCostHalfUptoCard

/-- THE SECOND FORM's CARD OF 'laws.FnCosts'. -/
def fnCostsUptoCard : Claim7 := { stood := { row := fnCostsUptoRow, standIns := [], harness := (true, "9a4bcd47f01482a3cab8c2fb2b56516a8dfcb1bc77b54a18ebda5f131b5abd8a"), looks := true }, kinds := [], alts := [], laidByText := true, laidKinds := [.data, .data], laidTests := true, laidLooks := .later }
def FnCostsUptoCardSaid : Prop := Claim7.holds Tryd.pinned (.plain (OpenSpec.upto fnCostsSpec)) fnCostsUptoCard

/-- THE SECOND FORM's CARD OF 'laws.FnCostOf'. -/
def fnCostOfUptoCard : Claim7 := { stood := { row := fnCostOfUptoRow, standIns := [], harness := (true, "9a4bcd47f01482a3cab8c2fb2b56516a8dfcb1bc77b54a18ebda5f131b5abd8a"), looks := true }, kinds := [], alts := [], laidByText := true, laidKinds := [.data, .data], laidTests := true, laidLooks := .later }
def FnCostOfUptoCardSaid : Prop := Claim7.holds Tryd.pinned (.plain (OpenSpec.upto fnCostOfSpec)) fnCostOfUptoCard

/-- THE SECOND FORM's CARD OF 'laws.FnFit'. -/
def fnFitUptoCard : Claim7 := { stood := { row := fnFitUptoRow, standIns := [], harness := (true, "9a4bcd47f01482a3cab8c2fb2b56516a8dfcb1bc77b54a18ebda5f131b5abd8a"), looks := true }, kinds := [], alts := [], laidByText := true, laidKinds := [.data, .data], laidTests := true, laidLooks := .later }
def FnFitUptoCardSaid : Prop := Claim7.holds Tryd.pinned (.plain (OpenSpec.upto fnFitSpec)) fnFitUptoCard

/-- THE SECOND FORM's CARD OF 'laws.FnCostTurned'. -/
def fnCostTurnedUptoCard : Claim7 := { stood := { row := fnCostTurnedUptoRow, standIns := [], harness := (true, "9a4bcd47f01482a3cab8c2fb2b56516a8dfcb1bc77b54a18ebda5f131b5abd8a"), looks := true }, kinds := [], alts := [], laidByText := true, laidKinds := [.data, .data], laidTests := true, laidLooks := .later }
def FnCostTurnedUptoCardSaid : Prop := Claim7.holds Tryd.pinned (.plain (OpenSpec.upto fnCostTurnedSpec)) fnCostTurnedUptoCard

/-- THE SECOND FORM's CARD OF 'laws.FnMore'. -/
def fnMoreUptoCard : Claim7 := { stood := { row := fnMoreUptoRow, standIns := [], harness := (true, "9a4bcd47f01482a3cab8c2fb2b56516a8dfcb1bc77b54a18ebda5f131b5abd8a"), looks := true }, kinds := [], alts := [], laidByText := true, laidKinds := [.data, .data], laidTests := true, laidLooks := .later }
def FnMoreUptoCardSaid : Prop := Claim7.holds Tryd.pinned (.plain (OpenSpec.upto fnMoreSpec)) fnMoreUptoCard

/-- THE SECOND FORM's CARD OF 'laws.FnNarrow'. -/
def fnNarrowUptoCard : Claim7 := { stood := { row := fnNarrowUptoRow, standIns := [], harness := (true, "9a4bcd47f01482a3cab8c2fb2b56516a8dfcb1bc77b54a18ebda5f131b5abd8a"), looks := true }, kinds := [], alts := [], laidByText := true, laidKinds := [.data, .data], laidTests := true, laidLooks := .later }
def FnNarrowUptoCardSaid : Prop := Claim7.holds Tryd.pinned (.plain (OpenSpec.upto fnNarrowSpec)) fnNarrowUptoCard

/-- THE SECOND FORM's CARD OF 'laws.FnLeastCost'. -/
def fnLeastCostUptoCard : Claim7 := { stood := { row := fnLeastCostUptoRow, standIns := [], harness := (true, "9a4bcd47f01482a3cab8c2fb2b56516a8dfcb1bc77b54a18ebda5f131b5abd8a"), looks := true }, kinds := [], alts := [], laidByText := true, laidKinds := [.data, .data], laidTests := true, laidLooks := .later }
def FnLeastCostUptoCardSaid : Prop := Claim7.holds Tryd.pinned (.plain (OpenSpec.upto fnLeastCostSpec)) fnLeastCostUptoCard

/-- THE SECOND FORM's CARD OF 'laws.FnPrices'. -/
def fnPricesUptoCard : Claim7 := { stood := { row := fnPricesUptoRow, standIns := [], harness := (true, "9a4bcd47f01482a3cab8c2fb2b56516a8dfcb1bc77b54a18ebda5f131b5abd8a"), looks := true }, kinds := [], alts := [], laidByText := true, laidKinds := [.data, .data], laidTests := true, laidLooks := .later }
def FnPricesUptoCardSaid : Prop := Claim7.holds Tryd.pinned (.plain (OpenSpec.upto fnPricesSpec)) fnPricesUptoCard

/-- THE SECOND FORM's CARD OF 'laws.FnExactTableFits'. -/
def fnExactTableFitsUptoCard : Claim7 := { stood := { row := fnExactTableFitsUptoRow, standIns := [], harness := (true, "9a4bcd47f01482a3cab8c2fb2b56516a8dfcb1bc77b54a18ebda5f131b5abd8a"), looks := true }, kinds := [], alts := [], laidByText := true, laidKinds := [.data, .data], laidTests := true, laidLooks := .later }
def FnExactTableFitsUptoCardSaid : Prop := Claim7.holds Tryd.pinned (.plain (OpenSpec.upto fnExactTableFitsSpec)) fnExactTableFitsUptoCard
end Rows
end Go.Proofs.YtjbgjebbfkhidabDoor
