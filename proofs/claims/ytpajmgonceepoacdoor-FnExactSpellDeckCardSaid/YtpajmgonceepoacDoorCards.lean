/-
  DERIVED. GIVEN WITH THE SEED: THE CARDS: each row of YtpajmgonceepoacDoorRows.lean that lists a variable, with what it lists TIED to the program's text (the seventh form; the later family's looks); each row that meets fmt, with fmt's text TOLD by the authors' own Lean function (tested against real Go, not proved from fmt's source: count such statements apart). THE CARD IS WHAT COUNTS. Prove the row's statement (the work); the ties are given (YtpajmgonceepoacDoorTie.lean); close each card by the builder's one call (the guide's Derived/Test/ToyasCard.lean, 'card_holds'). Laid BY PROGRAM, IN A SANDBOX (cutbox-door.mjs). By AI agents, Wed Nov 11 2026. No macro, syntax, notation, axiom, sorry.
-/
import Derived.Test.YtpajmgonceepoacDoorRows
import GoSem.ClaimSeven
namespace Go.Proofs.YtpajmgonceepoacDoor
namespace Rows

/-- THE TIED CARD OF 'laws.FnExactSpellDeck'. -/
def fnExactSpellDeckCard : Claim7 := { stood := { row := fnExactSpellDeckRow, standIns := [], harness := (true, "cabe6dbfe8f09772b4d49a987b2d7710d51975c1684a79802c475b323480ef3a"), looks := false }, kinds := [], alts := [], laidByText := true, laidKinds := [.data, .pinned], laidTests := true, laidLooks := .later }
def FnExactSpellDeckCardSaid : Prop := Claim7.holds Tryd.pinned (.plain (OpenSpec.ofChange fnExactSpellDeckSpec)) fnExactSpellDeckCard

/-- THE SECOND FORM's CARD OF 'laws.FnExactSpellDeck'. -/
def fnExactSpellDeckUptoCard : Claim7 := { stood := { row := fnExactSpellDeckUptoRow, standIns := [], harness := (true, "cabe6dbfe8f09772b4d49a987b2d7710d51975c1684a79802c475b323480ef3a"), looks := false }, kinds := [], alts := [], laidByText := true, laidKinds := [.data, .pinned], laidTests := true, laidLooks := .later }
def FnExactSpellDeckUptoCardSaid : Prop := Claim7.holds Tryd.pinned (.plain (OpenSpec.upto fnExactSpellDeckSpec)) fnExactSpellDeckUptoCard
end Rows
end Go.Proofs.YtpajmgonceepoacDoor
