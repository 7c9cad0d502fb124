/-
  DERIVED. GIVEN WITH THE SEED: THE CARDS: each row of YtaejlhdbdjfccaaDoorRows.lean that lists a variable, with what it lists TIED to the program's text (the seventh form; the later family's looks); each row that meets fmt, with fmt's text TOLD by the authors' own Lean function (tested against real Go, not proved from fmt's source: count such statements apart). THE CARD IS WHAT COUNTS. Prove the row's statement (the work); the ties are given (YtaejlhdbdjfccaaDoorTie.lean); close each card by the builder's one call (the guide's Derived/Test/ToyasCard.lean, 'card_holds'). Laid BY PROGRAM, IN A SANDBOX (cutbox-door.mjs). By AI agents, Wed Nov 11 2026. No macro, syntax, notation, axiom, sorry.
-/
import Derived.Test.YtaejlhdbdjfccaaDoorRows
import GoSem.ClaimSeven
namespace Go.Proofs.YtaejlhdbdjfccaaDoor
namespace Rows

/-- THE TIED CARD OF 'laws.FnExactCatsText'. -/
def fnExactCatsTextCard : Claim7 := { stood := { row := fnExactCatsTextRow, standIns := [], harness := (true, "3bf5704bfac06232cc50f67888e0ba5e2e713ffda77880f66e81e6fa8f4ede5f"), looks := true }, kinds := [], alts := [], laidByText := true, laidKinds := [.data, .data, .data], laidTests := true, laidLooks := .later }
def FnExactCatsTextCardSaid : Prop := Claim7.holds Tryd.pinned (.plain (OpenSpec.ofChange fnExactCatsTextSpec)) fnExactCatsTextCard

/-- THE TIED CARD OF 'laws.FnExactParseCats'. -/
def fnExactParseCatsCard : Claim7 := { stood := { row := fnExactParseCatsRow, standIns := [], harness := (true, "3bf5704bfac06232cc50f67888e0ba5e2e713ffda77880f66e81e6fa8f4ede5f"), looks := true }, kinds := [], alts := [], laidByText := true, laidKinds := [.data, .data, .data, .data, .sentinel, .sentinel, .pinned], laidTests := true, laidLooks := .later }
def FnExactParseCatsCardSaid : Prop := Claim7.holds Tryd.pinned (.plain (OpenSpec.ofChange fnExactParseCatsSpec)) fnExactParseCatsCard

/-- THE SECOND FORM's CARD OF 'laws.FnExactCatsText'. -/
def fnExactCatsTextUptoCard : Claim7 := { stood := { row := fnExactCatsTextUptoRow, standIns := [], harness := (true, "3bf5704bfac06232cc50f67888e0ba5e2e713ffda77880f66e81e6fa8f4ede5f"), looks := true }, kinds := [], alts := [], laidByText := true, laidKinds := [.data, .data, .data], laidTests := true, laidLooks := .later }
def FnExactCatsTextUptoCardSaid : Prop := Claim7.holds Tryd.pinned (.plain (OpenSpec.upto fnExactCatsTextSpec)) fnExactCatsTextUptoCard

/-- THE SECOND FORM's CARD OF 'laws.FnExactParseCats'. -/
def fnExactParseCatsUptoCard : Claim7 := { stood := { row := fnExactParseCatsUptoRow, standIns := [], harness := (true, "3bf5704bfac06232cc50f67888e0ba5e2e713ffda77880f66e81e6fa8f4ede5f"), looks := true }, kinds := [], alts := [], laidByText := true, laidKinds := [.data, .data, .data, .data, .sentinel, .sentinel, .pinned], laidTests := true, laidLooks := .later }
def FnExactParseCatsUptoCardSaid : Prop := Claim7.holds Tryd.pinned (.plain (OpenSpec.upto fnExactParseCatsSpec)) fnExactParseCatsUptoCard
end Rows
end Go.Proofs.YtaejlhdbdjfccaaDoor
