/-
  DERIVED. GIVEN WITH THE SEED: THE CARDS: each row of YtellghhilcjbnaaDoorRows.lean that lists a variable, with what it lists TIED to the program's text (the seventh form; the later family's looks); each row that meets fmt, with fmt's text TOLD by the authors' own Lean function (tested against real Go, not proved from fmt's source: count such statements apart). THE CARD IS WHAT COUNTS. Prove the row's statement (the work); the ties are given (YtellghhilcjbnaaDoorTie.lean); close each card by the builder's one call (the guide's Derived/Test/ToyasCard.lean, 'card_holds'). Laid BY PROGRAM, IN A SANDBOX (cutbox-door.mjs). By AI agents, Wed Nov 11 2026. No macro, syntax, notation, axiom, sorry.
-/
import Derived.Test.YtellghhilcjbnaaDoorRows
import GoSem.ClaimSeven
namespace Go.Proofs.YtellghhilcjbnaaDoor
namespace Rows

/-- THE TIED CARD OF 'laws.FnExactCostPrices'. -/
def fnExactCostPricesCard : Claim7 := { stood := { row := fnExactCostPricesRow, standIns := [], harness := (true, "cac8cbcfcd5f032eea3117f43e9c9863b2b4b2c24150edd6e5e3ec2e6ceca519"), looks := true }, kinds := [], alts := [], laidByText := true, laidKinds := [.data, .data], laidTests := true, laidLooks := .later }
def FnExactCostPricesCardSaid : Prop := Claim7.holds Tryd.pinned (.plain (OpenSpec.ofChange fnExactCostPricesSpec)) fnExactCostPricesCard

/-- THE TIED CARD OF 'laws.FnPrices'. -/
def fnPricesCard : Claim7 := { stood := { row := fnPricesRow, standIns := [], harness := (true, "cac8cbcfcd5f032eea3117f43e9c9863b2b4b2c24150edd6e5e3ec2e6ceca519"), looks := true }, kinds := [], alts := [], laidByText := true, laidKinds := [.data, .data], laidTests := true, laidLooks := .later }
def FnPricesCardSaid : Prop := Claim7.holds Tryd.pinned (.plain (OpenSpec.ofChange fnPricesSpec)) fnPricesCard

/-- THE TIED CARD OF 'laws.FnLeastCost'. -/
def fnLeastCostCard : Claim7 := { stood := { row := fnLeastCostRow, standIns := [], harness := (true, "cac8cbcfcd5f032eea3117f43e9c9863b2b4b2c24150edd6e5e3ec2e6ceca519"), looks := true }, kinds := [], alts := [], laidByText := true, laidKinds := [.data, .data], laidTests := true, laidLooks := .later }
def FnLeastCostCardSaid : Prop := Claim7.holds Tryd.pinned (.plain (OpenSpec.ofChange fnLeastCostSpec)) fnLeastCostCard

/-- THE TIED CARD OF 'laws.FnExactCostHalf'. -/
def fnExactCostHalfCard : Claim7 := { stood := { row := fnExactCostHalfRow, standIns := [], harness := (true, "cac8cbcfcd5f032eea3117f43e9c9863b2b4b2c24150edd6e5e3ec2e6ceca519"), looks := true }, kinds := [], alts := [], laidByText := true, laidKinds := [.data, .data], laidTests := true, laidLooks := .later }
def FnExactCostHalfCardSaid : Prop := Claim7.holds Tryd.pinned (.plain (OpenSpec.ofChange fnExactCostHalfSpec)) fnExactCostHalfCard

/-- THE SECOND FORM's CARD OF 'laws.FnExactCostPrices'. -/
def fnExactCostPricesUptoCard : Claim7 := { stood := { row := fnExactCostPricesUptoRow, standIns := [], harness := (true, "cac8cbcfcd5f032eea3117f43e9c9863b2b4b2c24150edd6e5e3ec2e6ceca519"), looks := true }, kinds := [], alts := [], laidByText := true, laidKinds := [.data, .data], laidTests := true, laidLooks := .later }
def FnExactCostPricesUptoCardSaid : Prop := Claim7.holds Tryd.pinned (.plain (OpenSpec.upto fnExactCostPricesSpec)) fnExactCostPricesUptoCard

/-- THE SECOND FORM's CARD OF 'laws.FnPrices'. -/
def fnPricesUptoCard : Claim7 := { stood := { row := fnPricesUptoRow, standIns := [], harness := (true, "cac8cbcfcd5f032eea3117f43e9c9863b2b4b2c24150edd6e5e3ec2e6ceca519"), looks := true }, kinds := [], alts := [], laidByText := true, laidKinds := [.data, .data], laidTests := true, laidLooks := .later }
def FnPricesUptoCardSaid : Prop := Claim7.holds Tryd.pinned (.plain (OpenSpec.upto fnPricesSpec)) fnPricesUptoCard

/-- THE SECOND FORM's CARD OF 'laws.FnLeastCost'. -/
def fnLeastCostUptoCard : Claim7 := { stood := { row := fnLeastCostUptoRow, standIns := [], harness := (true, "cac8cbcfcd5f032eea3117f43e9c9863b2b4b2c24150edd6e5e3ec2e6ceca519"), looks := true }, kinds := [], alts := [], laidByText := true, laidKinds := [.data, .data], laidTests := true, laidLooks := .later }
def FnLeastCostUptoCardSaid : Prop := Claim7.holds Tryd.pinned (.plain (OpenSpec.upto fnLeastCostSpec)) fnLeastCostUptoCard

/-- THE SECOND FORM's CARD OF 'laws.FnExactCostHalf'. -/
def fnExactCostHalfUptoCard : Claim7 := { stood := { row := fnExactCostHalfUptoRow, standIns := [], harness := (true, "cac8cbcfcd5f032eea3117f43e9c9863b2b4b2c24150edd6e5e3ec2e6ceca519"), looks := true }, kinds := [], alts := [], laidByText := true, laidKinds := [.data, .data], laidTests := true, laidLooks := .later }
def FnExactCostHalfUptoCardSaid : Prop := Claim7.holds Tryd.pinned (.plain (OpenSpec.upto fnExactCostHalfSpec)) fnExactCostHalfUptoCard
end Rows
end Go.Proofs.YtellghhilcjbnaaDoor
