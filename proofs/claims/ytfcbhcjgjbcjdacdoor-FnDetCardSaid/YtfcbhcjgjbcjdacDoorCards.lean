/-
  DERIVED. GIVEN WITH THE SEED: THE CARDS: each row of YtfcbhcjgjbcjdacDoorRows.lean that lists a variable, with what it lists TIED to the program's text (the seventh form; the later family's looks); each row that meets fmt, with fmt's text TOLD by the authors' own Lean function (tested against real Go, not proved from fmt's source: count such statements apart). THE CARD IS WHAT COUNTS. Prove the row's statement (the work); the ties are given (YtfcbhcjgjbcjdacDoorTie.lean); close each card by the builder's one call (the guide's Derived/Test/ToyasCard.lean, 'card_holds'). Laid BY PROGRAM, IN A SANDBOX (cutbox-door.mjs). By AI agents, Wed Nov 11 2026. No macro, syntax, notation, axiom, sorry.
-/
import Derived.Test.YtfcbhcjgjbcjdacDoorRows
import GoSem.ClaimSeven
namespace Go.Proofs.YtfcbhcjgjbcjdacDoor
namespace Rows

/-- THE TIED CARD OF 'laws.FnLeft'. -/
def fnLeftCard : Claim7 := { stood := { row := fnLeftRow, standIns := [], harness := (true, "a09904227a8687dfc866ef9b7f1e3750c23ff35b320ca34542be7dc38210e906"), looks := false }, kinds := [], alts := [], laidByText := true, laidKinds := [.data, .data], laidTests := true, laidLooks := .later }
def FnLeftCardSaid : Prop := Claim7.holds Tryd.pinned (.plain (OpenSpec.ofChange fnLeftSpec)) fnLeftCard

/-- THE TIED CARD OF 'laws.FnRight'. -/
def fnRightCard : Claim7 := { stood := { row := fnRightRow, standIns := [], harness := (true, "a09904227a8687dfc866ef9b7f1e3750c23ff35b320ca34542be7dc38210e906"), looks := false }, kinds := [], alts := [], laidByText := true, laidKinds := [.data, .data], laidTests := true, laidLooks := .later }
def FnRightCardSaid : Prop := Claim7.holds Tryd.pinned (.plain (OpenSpec.ofChange fnRightSpec)) fnRightCard

/-- THE TIED CARD OF 'laws.FnAllStable'. -/
def fnAllStableCard : Claim7 := { stood := { row := fnAllStableRow, standIns := [], harness := (true, "a09904227a8687dfc866ef9b7f1e3750c23ff35b320ca34542be7dc38210e906"), looks := false }, kinds := [], alts := [], laidByText := true, laidKinds := [.data, .data], laidTests := true, laidLooks := .later }
def FnAllStableCardSaid : Prop := Claim7.holds Tryd.pinned (.plain (OpenSpec.ofChange fnAllStableSpec)) fnAllStableCard

/-- THE TIED CARD OF 'laws.FnHafnianTwice'. -/
def fnHafnianTwiceCard : Claim7 := { stood := { row := fnHafnianTwiceRow, standIns := [], harness := (true, "a09904227a8687dfc866ef9b7f1e3750c23ff35b320ca34542be7dc38210e906"), looks := false }, kinds := [], alts := [], laidByText := true, laidKinds := [.data, .data], laidTests := true, laidLooks := .later }
def FnHafnianTwiceCardSaid : Prop := Claim7.holds Tryd.pinned (.plain (OpenSpec.ofChange fnHafnianTwiceSpec)) fnHafnianTwiceCard

/-- THE TIED CARD OF 'laws.FnDet'. -/
def fnDetCard : Claim7 := { stood := { row := fnDetRow, standIns := [], harness := (true, "a09904227a8687dfc866ef9b7f1e3750c23ff35b320ca34542be7dc38210e906"), looks := false }, kinds := [], alts := [], laidByText := true, laidKinds := [.data, .data], laidTests := true, laidLooks := .later }
def FnDetCardSaid : Prop := Claim7.holds Tryd.pinned (.plain (OpenSpec.ofChange fnDetSpec)) fnDetCard

/-- THE TIED CARD OF 'laws.FnPermanent'. -/
def fnPermanentCard : Claim7 := { stood := { row := fnPermanentRow, standIns := [], harness := (true, "a09904227a8687dfc866ef9b7f1e3750c23ff35b320ca34542be7dc38210e906"), looks := false }, kinds := [], alts := [], laidByText := true, laidKinds := [.data, .data], laidTests := true, laidLooks := .later }
def FnPermanentCardSaid : Prop := Claim7.holds Tryd.pinned (.plain (OpenSpec.ofChange fnPermanentSpec)) fnPermanentCard

/-- THE TIED CARD OF 'laws.FnPfaffian'. -/
def fnPfaffianCard : Claim7 := { stood := { row := fnPfaffianRow, standIns := [], harness := (true, "a09904227a8687dfc866ef9b7f1e3750c23ff35b320ca34542be7dc38210e906"), looks := false }, kinds := [], alts := [], laidByText := true, laidKinds := [.data, .data], laidTests := true, laidLooks := .later }
def FnPfaffianCardSaid : Prop := Claim7.holds Tryd.pinned (.plain (OpenSpec.ofChange fnPfaffianSpec)) fnPfaffianCard

/-- THE TIED CARD OF 'laws.FnPfaffianMoved'. -/
def fnPfaffianMovedCard : Claim7 := { stood := { row := fnPfaffianMovedRow, standIns := [], harness := (true, "a09904227a8687dfc866ef9b7f1e3750c23ff35b320ca34542be7dc38210e906"), looks := false }, kinds := [], alts := [], laidByText := true, laidKinds := [.data, .data], laidTests := true, laidLooks := .later }
def FnPfaffianMovedCardSaid : Prop := Claim7.holds Tryd.pinned (.plain (OpenSpec.ofChange fnPfaffianMovedSpec)) fnPfaffianMovedCard

/-- THE SECOND FORM's CARD OF 'laws.FnLeft'. -/
def fnLeftUptoCard : Claim7 := { stood := { row := fnLeftUptoRow, standIns := [], harness := (true, "a09904227a8687dfc866ef9b7f1e3750c23ff35b320ca34542be7dc38210e906"), looks := false }, kinds := [], alts := [], laidByText := true, laidKinds := [.data, .data], laidTests := true, laidLooks := .later }
def FnLeftUptoCardSaid : Prop := Claim7.holds Tryd.pinned (.plain (OpenSpec.upto fnLeftSpec)) fnLeftUptoCard

/-- THE SECOND FORM's CARD OF 'laws.FnRight'. -/
def fnRightUptoCard : Claim7 := { stood := { row := fnRightUptoRow, standIns := [], harness := (true, "a09904227a8687dfc866ef9b7f1e3750c23ff35b320ca34542be7dc38210e906"), looks := false }, kinds := [], alts := [], laidByText := true, laidKinds := [.data, .data], laidTests := true, laidLooks := .later }
def FnRightUptoCardSaid : Prop := Claim7.holds Tryd.pinned (.plain (OpenSpec.upto fnRightSpec)) fnRightUptoCard

/-- THE SECOND FORM's CARD OF 'laws.FnAllStable'. -/
def fnAllStableUptoCard : Claim7 := { stood := { row := fnAllStableUptoRow, standIns := [], harness := (true, "a09904227a8687dfc866ef9b7f1e3750c23ff35b320ca34542be7dc38210e906"), looks := false }, kinds := [], alts := [], laidByText := true, laidKinds := [.data, .data], laidTests := true, laidLooks := .later }
def FnAllStableUptoCardSaid : Prop := Claim7.holds Tryd.pinned (.plain (OpenSpec.upto fnAllStableSpec)) fnAllStableUptoCard

/-- THE SECOND FORM's CARD OF 'laws.FnHafnianTwice'. -/
def fnHafnianTwiceUptoCard : Claim7 := { stood := { row := fnHafnianTwiceUptoRow, standIns := [], harness := (true, "a09904227a8687dfc866ef9b7f1e3750c23ff35b320ca34542be7dc38210e906"), looks := false }, kinds := [], alts := [], laidByText := true, laidKinds := [.data, .data], laidTests := true, laidLooks := .later }
def FnHafnianTwiceUptoCardSaid : Prop := Claim7.holds Tryd.pinned (.plain (OpenSpec.upto fnHafnianTwiceSpec)) fnHafnianTwiceUptoCard

/-- THE SECOND FORM's CARD OF 'laws.FnDet'. -/
def fnDetUptoCard : Claim7 := { stood := { row := fnDetUptoRow, standIns := [], harness := (true, "a09904227a8687dfc866ef9b7f1e3750c23ff35b320ca34542be7dc38210e906"), looks := false }, kinds := [], alts := [], laidByText := true, laidKinds := [.data, .data], laidTests := true, laidLooks := .later }
def FnDetUptoCardSaid : Prop := Claim7.holds Tryd.pinned (.plain (OpenSpec.upto fnDetSpec)) fnDetUptoCard

/-- THE SECOND FORM's CARD OF 'laws.FnPermanent'. -/
def fnPermanentUptoCard : Claim7 := { stood := { row := fnPermanentUptoRow, standIns := [], harness := (true, "a09904227a8687dfc866ef9b7f1e3750c23ff35b320ca34542be7dc38210e906"), looks := false }, kinds := [], alts := [], laidByText := true, laidKinds := [.data, .data], laidTests := true, laidLooks := .later }
def FnPermanentUptoCardSaid : Prop := Claim7.holds Tryd.pinned (.plain (OpenSpec.upto fnPermanentSpec)) fnPermanentUptoCard

/-- THE SECOND FORM's CARD OF 'laws.FnPfaffian'. -/
def fnPfaffianUptoCard : Claim7 := { stood := { row := fnPfaffianUptoRow, standIns := [], harness := (true, "a09904227a8687dfc866ef9b7f1e3750c23ff35b320ca34542be7dc38210e906"), looks := false }, kinds := [], alts := [], laidByText := true, laidKinds := [.data, .data], laidTests := true, laidLooks := .later }
def FnPfaffianUptoCardSaid : Prop := Claim7.holds Tryd.pinned (.plain (OpenSpec.upto fnPfaffianSpec)) fnPfaffianUptoCard

/-- THE SECOND FORM's CARD OF 'laws.FnPfaffianMoved'. -/
def fnPfaffianMovedUptoCard : Claim7 := { stood := { row := fnPfaffianMovedUptoRow, standIns := [], harness := (true, "a09904227a8687dfc866ef9b7f1e3750c23ff35b320ca34542be7dc38210e906"), looks := false }, kinds := [], alts := [], laidByText := true, laidKinds := [.data, .data], laidTests := true, laidLooks := .later }
def FnPfaffianMovedUptoCardSaid : Prop := Claim7.holds Tryd.pinned (.plain (OpenSpec.upto fnPfaffianMovedSpec)) fnPfaffianMovedUptoCard
end Rows
end Go.Proofs.YtfcbhcjgjbcjdacDoor
