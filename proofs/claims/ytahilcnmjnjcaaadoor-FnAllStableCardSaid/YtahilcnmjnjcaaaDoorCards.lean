/-
  DERIVED. GIVEN WITH THE SEED: THE CARDS: each row of YtahilcnmjnjcaaaDoorRows.lean that lists a variable, with what it lists TIED to the program's text (the seventh form; the later family's looks); each row that meets fmt, with fmt's text TOLD by the authors' own Lean function (tested against real Go, not proved from fmt's source: count such statements apart). THE CARD IS WHAT COUNTS. Prove the row's statement (the work); the ties are given (YtahilcnmjnjcaaaDoorTie.lean); close each card by the builder's one call (the guide's Derived/Test/ToyasCard.lean, 'card_holds'). Laid BY PROGRAM, IN A SANDBOX (cutbox-door.mjs). By AI agents, Wed Nov 11 2026. No macro, syntax, notation, axiom, sorry.
-/
import Derived.Test.YtahilcnmjnjcaaaDoorRows
import GoSem.ClaimSeven
namespace Go.Proofs.YtahilcnmjnjcaaaDoor
namespace Rows

/-- THE TIED CARD OF 'laws.FnExactMarketAll'. -/
def fnExactMarketAllCard : Claim7 := { stood := { row := fnExactMarketAllRow, standIns := [], harness := (true, "4242539265f38cbe1792af7d4cc77c4b672630ed5a6c2ef5b01b8232dfb167ec"), looks := false }, kinds := [], alts := [], laidByText := true, laidKinds := [.data, .data], laidTests := true, laidLooks := .later }
def FnExactMarketAllCardSaid : Prop := Claim7.holds Tryd.pinned (.plain (OpenSpec.ofChange fnExactMarketAllSpec)) fnExactMarketAllCard

/-- THE TIED CARD OF 'laws.FnMarket'. -/
def fnMarketCard : Claim7 := { stood := { row := fnMarketRow, standIns := [], harness := (true, "4242539265f38cbe1792af7d4cc77c4b672630ed5a6c2ef5b01b8232dfb167ec"), looks := false }, kinds := [], alts := [], laidByText := true, laidKinds := [.data, .data], laidTests := true, laidLooks := .later }
def FnMarketCardSaid : Prop := Claim7.holds Tryd.pinned (.plain (OpenSpec.ofChange fnMarketSpec)) fnMarketCard

/-- THE TIED CARD OF 'laws.FnPairing'. -/
def fnPairingCard : Claim7 := { stood := { row := fnPairingRow, standIns := [], harness := (true, "4242539265f38cbe1792af7d4cc77c4b672630ed5a6c2ef5b01b8232dfb167ec"), looks := false }, kinds := [], alts := [], laidByText := true, laidKinds := [.data, .data], laidTests := true, laidLooks := .later }
def FnPairingCardSaid : Prop := Claim7.holds Tryd.pinned (.plain (OpenSpec.ofChange fnPairingSpec)) fnPairingCard

/-- THE TIED CARD OF 'laws.FnMarketTurned'. -/
def fnMarketTurnedCard : Claim7 := { stood := { row := fnMarketTurnedRow, standIns := [], harness := (true, "4242539265f38cbe1792af7d4cc77c4b672630ed5a6c2ef5b01b8232dfb167ec"), looks := false }, kinds := [], alts := [], laidByText := true, laidKinds := [.data, .data], laidTests := true, laidLooks := .later }
def FnMarketTurnedCardSaid : Prop := Claim7.holds Tryd.pinned (.plain (OpenSpec.ofChange fnMarketTurnedSpec)) fnMarketTurnedCard

/-- THE TIED CARD OF 'laws.FnLeft'. -/
def fnLeftCard : Claim7 := { stood := { row := fnLeftRow, standIns := [], harness := (true, "4242539265f38cbe1792af7d4cc77c4b672630ed5a6c2ef5b01b8232dfb167ec"), looks := false }, kinds := [], alts := [], laidByText := true, laidKinds := [.data, .data], laidTests := true, laidLooks := .later }
def FnLeftCardSaid : Prop := Claim7.holds Tryd.pinned (.plain (OpenSpec.ofChange fnLeftSpec)) fnLeftCard

/-- THE TIED CARD OF 'laws.FnRight'. -/
def fnRightCard : Claim7 := { stood := { row := fnRightRow, standIns := [], harness := (true, "4242539265f38cbe1792af7d4cc77c4b672630ed5a6c2ef5b01b8232dfb167ec"), looks := false }, kinds := [], alts := [], laidByText := true, laidKinds := [.data, .data], laidTests := true, laidLooks := .later }
def FnRightCardSaid : Prop := Claim7.holds Tryd.pinned (.plain (OpenSpec.ofChange fnRightSpec)) fnRightCard

/-- THE TIED CARD OF 'laws.FnAllStable'. -/
def fnAllStableCard : Claim7 := { stood := { row := fnAllStableRow, standIns := [], harness := (true, "4242539265f38cbe1792af7d4cc77c4b672630ed5a6c2ef5b01b8232dfb167ec"), looks := false }, kinds := [], alts := [], laidByText := true, laidKinds := [.data, .data], laidTests := true, laidLooks := .later }
def FnAllStableCardSaid : Prop := Claim7.holds Tryd.pinned (.plain (OpenSpec.ofChange fnAllStableSpec)) fnAllStableCard

/-- THE SECOND FORM's CARD OF 'laws.FnExactMarketAll'. -/
def fnExactMarketAllUptoCard : Claim7 := { stood := { row := fnExactMarketAllUptoRow, standIns := [], harness := (true, "4242539265f38cbe1792af7d4cc77c4b672630ed5a6c2ef5b01b8232dfb167ec"), looks := false }, kinds := [], alts := [], laidByText := true, laidKinds := [.data, .data], laidTests := true, laidLooks := .later }
def FnExactMarketAllUptoCardSaid : Prop := Claim7.holds Tryd.pinned (.plain (OpenSpec.upto fnExactMarketAllSpec)) fnExactMarketAllUptoCard

/-- THE SECOND FORM's CARD OF 'laws.FnMarket'. -/
def fnMarketUptoCard : Claim7 := { stood := { row := fnMarketUptoRow, standIns := [], harness := (true, "4242539265f38cbe1792af7d4cc77c4b672630ed5a6c2ef5b01b8232dfb167ec"), looks := false }, kinds := [], alts := [], laidByText := true, laidKinds := [.data, .data], laidTests := true, laidLooks := .later }
def FnMarketUptoCardSaid : Prop := Claim7.holds Tryd.pinned (.plain (OpenSpec.upto fnMarketSpec)) fnMarketUptoCard

/-- THE SECOND FORM's CARD OF 'laws.FnPairing'. -/
def fnPairingUptoCard : Claim7 := { stood := { row := fnPairingUptoRow, standIns := [], harness := (true, "4242539265f38cbe1792af7d4cc77c4b672630ed5a6c2ef5b01b8232dfb167ec"), looks := false }, kinds := [], alts := [], laidByText := true, laidKinds := [.data, .data], laidTests := true, laidLooks := .later }
def FnPairingUptoCardSaid : Prop := Claim7.holds Tryd.pinned (.plain (OpenSpec.upto fnPairingSpec)) fnPairingUptoCard

/-- THE SECOND FORM's CARD OF 'laws.FnMarketTurned'. -/
def fnMarketTurnedUptoCard : Claim7 := { stood := { row := fnMarketTurnedUptoRow, standIns := [], harness := (true, "4242539265f38cbe1792af7d4cc77c4b672630ed5a6c2ef5b01b8232dfb167ec"), looks := false }, kinds := [], alts := [], laidByText := true, laidKinds := [.data, .data], laidTests := true, laidLooks := .later }
def FnMarketTurnedUptoCardSaid : Prop := Claim7.holds Tryd.pinned (.plain (OpenSpec.upto fnMarketTurnedSpec)) fnMarketTurnedUptoCard

/-- THE SECOND FORM's CARD OF 'laws.FnLeft'. -/
def fnLeftUptoCard : Claim7 := { stood := { row := fnLeftUptoRow, standIns := [], harness := (true, "4242539265f38cbe1792af7d4cc77c4b672630ed5a6c2ef5b01b8232dfb167ec"), looks := false }, kinds := [], alts := [], laidByText := true, laidKinds := [.data, .data], laidTests := true, laidLooks := .later }
def FnLeftUptoCardSaid : Prop := Claim7.holds Tryd.pinned (.plain (OpenSpec.upto fnLeftSpec)) fnLeftUptoCard

/-- THE SECOND FORM's CARD OF 'laws.FnRight'. -/
def fnRightUptoCard : Claim7 := { stood := { row := fnRightUptoRow, standIns := [], harness := (true, "4242539265f38cbe1792af7d4cc77c4b672630ed5a6c2ef5b01b8232dfb167ec"), looks := false }, kinds := [], alts := [], laidByText := true, laidKinds := [.data, .data], laidTests := true, laidLooks := .later }
def FnRightUptoCardSaid : Prop := Claim7.holds Tryd.pinned (.plain (OpenSpec.upto fnRightSpec)) fnRightUptoCard

/-- THE SECOND FORM's CARD OF 'laws.FnAllStable'. -/
def fnAllStableUptoCard : Claim7 := { stood := { row := fnAllStableUptoRow, standIns := [], harness := (true, "4242539265f38cbe1792af7d4cc77c4b672630ed5a6c2ef5b01b8232dfb167ec"), looks := false }, kinds := [], alts := [], laidByText := true, laidKinds := [.data, .data], laidTests := true, laidLooks := .later }
def FnAllStableUptoCardSaid : Prop := Claim7.holds Tryd.pinned (.plain (OpenSpec.upto fnAllStableSpec)) fnAllStableUptoCard
end Rows
end Go.Proofs.YtahilcnmjnjcaaaDoor
