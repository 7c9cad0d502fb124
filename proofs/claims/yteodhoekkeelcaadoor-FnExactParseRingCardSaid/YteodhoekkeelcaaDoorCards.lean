/-
  DERIVED. GIVEN WITH THE SEED: THE CARDS: each row of YteodhoekkeelcaaDoorRows.lean that lists a variable, with what it lists TIED to the program's text (the seventh form; the later family's looks); each row that meets fmt, with fmt's text TOLD by the authors' own Lean function (tested against real Go, not proved from fmt's source: count such statements apart). THE CARD IS WHAT COUNTS. Prove the row's statement (the work); the ties are given (YteodhoekkeelcaaDoorTie.lean); close each card by the builder's one call (the guide's Derived/Test/ToyasCard.lean, 'card_holds'). Laid BY PROGRAM, IN A SANDBOX (cutbox-door.mjs). By AI agents, Wed Nov 11 2026. No macro, syntax, notation, axiom, sorry.
-/
import Derived.Test.YteodhoekkeelcaaDoorRows
import GoSem.ClaimSeven
namespace Go.Proofs.YteodhoekkeelcaaDoor
namespace Rows

/-- THE TIED CARD OF 'laws.FnExactParseRing'. -/
def fnExactParseRingCard : Claim7 := { stood := { row := fnExactParseRingRow, standIns := [], harness := (true, "11e2a2a99a57714b0002a27aba0811eebe5b23737f967e0ec1c0cbae18811588"), looks := true }, kinds := [], alts := [], laidByText := true, laidKinds := [.data, .data, .data, .data, .sentinel, .sentinel, .pinned], laidTests := true, laidLooks := .later }
def FnExactParseRingCardSaid : Prop := Claim7.holds Tryd.pinned (.plain (OpenSpec.ofChange fnExactParseRingSpec)) fnExactParseRingCard

/-- THE TIED CARD OF 'laws.FnExactTwoLast'. -/
def fnExactTwoLastCard : Claim7 := { stood := { row := fnExactTwoLastRow, standIns := [], harness := (true, "11e2a2a99a57714b0002a27aba0811eebe5b23737f967e0ec1c0cbae18811588"), looks := true }, kinds := [], alts := [], laidByText := true, laidKinds := [.data], laidTests := true, laidLooks := .later }
def FnExactTwoLastCardSaid : Prop := Claim7.holds Tryd.pinned (.plain (OpenSpec.ofChange fnExactTwoLastSpec)) fnExactTwoLastCard

/-- THE TIED CARD OF 'laws.FnExactGreatestPower'. -/
def fnExactGreatestPowerCard : Claim7 := { stood := { row := fnExactGreatestPowerRow, standIns := [], harness := (true, "11e2a2a99a57714b0002a27aba0811eebe5b23737f967e0ec1c0cbae18811588"), looks := true }, kinds := [], alts := [], laidByText := true, laidKinds := [.data], laidTests := true, laidLooks := .later }
def FnExactGreatestPowerCardSaid : Prop := Claim7.holds Tryd.pinned (.plain (OpenSpec.ofChange fnExactGreatestPowerSpec)) fnExactGreatestPowerCard

/-- THE TIED CARD OF 'laws.FnExactBinaryOf'. -/
def fnExactBinaryOfCard : Claim7 := { stood := { row := fnExactBinaryOfRow, standIns := [], harness := (true, "11e2a2a99a57714b0002a27aba0811eebe5b23737f967e0ec1c0cbae18811588"), looks := true }, kinds := [], alts := [], laidByText := true, laidKinds := [.data, .data, .data], laidTests := true, laidLooks := .later }
def FnExactBinaryOfCardSaid : Prop := Claim7.holds Tryd.pinned (.plain (OpenSpec.ofChange fnExactBinaryOfSpec)) fnExactBinaryOfCard

/-- THE TIED CARD OF 'laws.FnExactChainOf'. -/
def fnExactChainOfCard : Claim7 := { stood := { row := fnExactChainOfRow, standIns := [], harness := (true, "11e2a2a99a57714b0002a27aba0811eebe5b23737f967e0ec1c0cbae18811588"), looks := true }, kinds := [], alts := [], laidByText := true, laidKinds := [.data], laidTests := true, laidLooks := .later }
def FnExactChainOfCardSaid : Prop := Claim7.holds Tryd.pinned (.plain (OpenSpec.ofChange fnExactChainOfSpec)) fnExactChainOfCard

/-- THE TIED CARD OF 'laws.FnExactCirclesLeaving'. -/
def fnExactCirclesLeavingCard : Claim7 := { stood := { row := fnExactCirclesLeavingRow, standIns := [], harness := (true, "11e2a2a99a57714b0002a27aba0811eebe5b23737f967e0ec1c0cbae18811588"), looks := true }, kinds := [], alts := [], laidByText := true, laidKinds := [.data], laidTests := true, laidLooks := .later }
def FnExactCirclesLeavingCardSaid : Prop := Claim7.holds Tryd.pinned (.plain (OpenSpec.ofChange fnExactCirclesLeavingSpec)) fnExactCirclesLeavingCard

/-- THE TIED CARD OF 'laws.FnExactNextLeaving'. -/
def fnExactNextLeavingCard : Claim7 := { stood := { row := fnExactNextLeavingRow, standIns := [], harness := (true, "11e2a2a99a57714b0002a27aba0811eebe5b23737f967e0ec1c0cbae18811588"), looks := true }, kinds := [], alts := [], laidByText := true, laidKinds := [.data], laidTests := true, laidLooks := .later }
def FnExactNextLeavingCardSaid : Prop := Claim7.holds Tryd.pinned (.plain (OpenSpec.ofChange fnExactNextLeavingSpec)) fnExactNextLeavingCard

/-- THE TIED CARD OF 'laws.FnExactCirclesWithLast'. -/
def fnExactCirclesWithLastCard : Claim7 := { stood := { row := fnExactCirclesWithLastRow, standIns := [], harness := (true, "11e2a2a99a57714b0002a27aba0811eebe5b23737f967e0ec1c0cbae18811588"), looks := true }, kinds := [], alts := [], laidByText := true, laidKinds := [.data], laidTests := true, laidLooks := .later }
def FnExactCirclesWithLastCardSaid : Prop := Claim7.holds Tryd.pinned (.plain (OpenSpec.ofChange fnExactCirclesWithLastSpec)) fnExactCirclesWithLastCard

/-- THE TIED CARD OF 'laws.FnExactSumOfLast'. -/
def fnExactSumOfLastCard : Claim7 := { stood := { row := fnExactSumOfLastRow, standIns := [], harness := (true, "11e2a2a99a57714b0002a27aba0811eebe5b23737f967e0ec1c0cbae18811588"), looks := true }, kinds := [], alts := [], laidByText := true, laidKinds := [.data], laidTests := true, laidLooks := .later }
def FnExactSumOfLastCardSaid : Prop := Claim7.holds Tryd.pinned (.plain (OpenSpec.ofChange fnExactSumOfLastSpec)) fnExactSumOfLastCard

/-- THE SECOND FORM's CARD OF 'laws.FnExactParseRing'. -/
def fnExactParseRingUptoCard : Claim7 := { stood := { row := fnExactParseRingUptoRow, standIns := [], harness := (true, "11e2a2a99a57714b0002a27aba0811eebe5b23737f967e0ec1c0cbae18811588"), looks := true }, kinds := [], alts := [], laidByText := true, laidKinds := [.data, .data, .data, .data, .sentinel, .sentinel, .pinned], laidTests := true, laidLooks := .later }
def FnExactParseRingUptoCardSaid : Prop := Claim7.holds Tryd.pinned (.plain (OpenSpec.upto fnExactParseRingSpec)) fnExactParseRingUptoCard

/-- THE SECOND FORM's CARD OF 'laws.FnExactTwoLast'. -/
def fnExactTwoLastUptoCard : Claim7 := { stood := { row := fnExactTwoLastUptoRow, standIns := [], harness := (true, "11e2a2a99a57714b0002a27aba0811eebe5b23737f967e0ec1c0cbae18811588"), looks := true }, kinds := [], alts := [], laidByText := true, laidKinds := [.data], laidTests := true, laidLooks := .later }
def FnExactTwoLastUptoCardSaid : Prop := Claim7.holds Tryd.pinned (.plain (OpenSpec.upto fnExactTwoLastSpec)) fnExactTwoLastUptoCard

/-- THE SECOND FORM's CARD OF 'laws.FnExactGreatestPower'. -/
def fnExactGreatestPowerUptoCard : Claim7 := { stood := { row := fnExactGreatestPowerUptoRow, standIns := [], harness := (true, "11e2a2a99a57714b0002a27aba0811eebe5b23737f967e0ec1c0cbae18811588"), looks := true }, kinds := [], alts := [], laidByText := true, laidKinds := [.data], laidTests := true, laidLooks := .later }
def FnExactGreatestPowerUptoCardSaid : Prop := Claim7.holds Tryd.pinned (.plain (OpenSpec.upto fnExactGreatestPowerSpec)) fnExactGreatestPowerUptoCard

/-- THE SECOND FORM's CARD OF 'laws.FnExactBinaryOf'. -/
def fnExactBinaryOfUptoCard : Claim7 := { stood := { row := fnExactBinaryOfUptoRow, standIns := [], harness := (true, "11e2a2a99a57714b0002a27aba0811eebe5b23737f967e0ec1c0cbae18811588"), looks := true }, kinds := [], alts := [], laidByText := true, laidKinds := [.data, .data, .data], laidTests := true, laidLooks := .later }
def FnExactBinaryOfUptoCardSaid : Prop := Claim7.holds Tryd.pinned (.plain (OpenSpec.upto fnExactBinaryOfSpec)) fnExactBinaryOfUptoCard

/-- THE SECOND FORM's CARD OF 'laws.FnExactChainOf'. -/
def fnExactChainOfUptoCard : Claim7 := { stood := { row := fnExactChainOfUptoRow, standIns := [], harness := (true, "11e2a2a99a57714b0002a27aba0811eebe5b23737f967e0ec1c0cbae18811588"), looks := true }, kinds := [], alts := [], laidByText := true, laidKinds := [.data], laidTests := true, laidLooks := .later }
def FnExactChainOfUptoCardSaid : Prop := Claim7.holds Tryd.pinned (.plain (OpenSpec.upto fnExactChainOfSpec)) fnExactChainOfUptoCard

/-- THE SECOND FORM's CARD OF 'laws.FnExactCirclesLeaving'. -/
def fnExactCirclesLeavingUptoCard : Claim7 := { stood := { row := fnExactCirclesLeavingUptoRow, standIns := [], harness := (true, "11e2a2a99a57714b0002a27aba0811eebe5b23737f967e0ec1c0cbae18811588"), looks := true }, kinds := [], alts := [], laidByText := true, laidKinds := [.data], laidTests := true, laidLooks := .later }
def FnExactCirclesLeavingUptoCardSaid : Prop := Claim7.holds Tryd.pinned (.plain (OpenSpec.upto fnExactCirclesLeavingSpec)) fnExactCirclesLeavingUptoCard

/-- THE SECOND FORM's CARD OF 'laws.FnExactNextLeaving'. -/
def fnExactNextLeavingUptoCard : Claim7 := { stood := { row := fnExactNextLeavingUptoRow, standIns := [], harness := (true, "11e2a2a99a57714b0002a27aba0811eebe5b23737f967e0ec1c0cbae18811588"), looks := true }, kinds := [], alts := [], laidByText := true, laidKinds := [.data], laidTests := true, laidLooks := .later }
def FnExactNextLeavingUptoCardSaid : Prop := Claim7.holds Tryd.pinned (.plain (OpenSpec.upto fnExactNextLeavingSpec)) fnExactNextLeavingUptoCard

/-- THE SECOND FORM's CARD OF 'laws.FnExactCirclesWithLast'. -/
def fnExactCirclesWithLastUptoCard : Claim7 := { stood := { row := fnExactCirclesWithLastUptoRow, standIns := [], harness := (true, "11e2a2a99a57714b0002a27aba0811eebe5b23737f967e0ec1c0cbae18811588"), looks := true }, kinds := [], alts := [], laidByText := true, laidKinds := [.data], laidTests := true, laidLooks := .later }
def FnExactCirclesWithLastUptoCardSaid : Prop := Claim7.holds Tryd.pinned (.plain (OpenSpec.upto fnExactCirclesWithLastSpec)) fnExactCirclesWithLastUptoCard

/-- THE SECOND FORM's CARD OF 'laws.FnExactSumOfLast'. -/
def fnExactSumOfLastUptoCard : Claim7 := { stood := { row := fnExactSumOfLastUptoRow, standIns := [], harness := (true, "11e2a2a99a57714b0002a27aba0811eebe5b23737f967e0ec1c0cbae18811588"), looks := true }, kinds := [], alts := [], laidByText := true, laidKinds := [.data], laidTests := true, laidLooks := .later }
def FnExactSumOfLastUptoCardSaid : Prop := Claim7.holds Tryd.pinned (.plain (OpenSpec.upto fnExactSumOfLastSpec)) fnExactSumOfLastUptoCard
end Rows
end Go.Proofs.YteodhoekkeelcaaDoor
