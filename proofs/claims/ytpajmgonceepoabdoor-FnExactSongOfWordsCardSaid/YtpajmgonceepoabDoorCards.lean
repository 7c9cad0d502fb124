/-
  DERIVED. GIVEN WITH THE SEED: THE CARDS: each row of YtpajmgonceepoabDoorRows.lean that lists a variable, with what it lists TIED to the program's text (the seventh form; the later family's looks); each row that meets fmt, with fmt's text TOLD by the authors' own Lean function (tested against real Go, not proved from fmt's source: count such statements apart). THE CARD IS WHAT COUNTS. Prove the row's statement (the work); the ties are given (YtpajmgonceepoabDoorTie.lean); close each card by the builder's one call (the guide's Derived/Test/ToyasCard.lean, 'card_holds'). Laid BY PROGRAM, IN A SANDBOX (cutbox-door.mjs). By AI agents, Wed Nov 11 2026. No macro, syntax, notation, axiom, sorry.
-/
import Derived.Test.YtpajmgonceepoabDoorRows
import GoSem.ClaimSeven
namespace Go.Proofs.YtpajmgonceepoabDoor
namespace Rows

/-- THE TIED CARD OF 'laws.FnExactSongOfWords'. -/
def fnExactSongOfWordsCard : Claim7 := { stood := { row := fnExactSongOfWordsRow, standIns := [], harness := (true, "a2a24c23d369264317120c232eafc8a3973ea924866b5b524dce8248b7b199ff"), looks := false }, kinds := [], alts := [], laidByText := true, laidKinds := [.data, .pinned], laidTests := true, laidLooks := .later }
def FnExactSongOfWordsCardSaid : Prop := Claim7.holds Tryd.pinned (.plain (OpenSpec.ofChange fnExactSongOfWordsSpec)) fnExactSongOfWordsCard

/-- THE TIED CARD OF 'laws.FnExactSpellCounts'. -/
def fnExactSpellCountsCard : Claim7 := { stood := { row := fnExactSpellCountsRow, standIns := [], harness := (true, "a2a24c23d369264317120c232eafc8a3973ea924866b5b524dce8248b7b199ff"), looks := false }, kinds := [], alts := [], laidByText := true, laidKinds := [.data, .pinned], laidTests := true, laidLooks := .later }
def FnExactSpellCountsCardSaid : Prop := Claim7.holds Tryd.pinned (.plain (OpenSpec.ofChange fnExactSpellCountsSpec)) fnExactSpellCountsCard

/-- THE SECOND FORM's CARD OF 'laws.FnExactSongOfWords'. -/
def fnExactSongOfWordsUptoCard : Claim7 := { stood := { row := fnExactSongOfWordsUptoRow, standIns := [], harness := (true, "a2a24c23d369264317120c232eafc8a3973ea924866b5b524dce8248b7b199ff"), looks := false }, kinds := [], alts := [], laidByText := true, laidKinds := [.data, .pinned], laidTests := true, laidLooks := .later }
def FnExactSongOfWordsUptoCardSaid : Prop := Claim7.holds Tryd.pinned (.plain (OpenSpec.upto fnExactSongOfWordsSpec)) fnExactSongOfWordsUptoCard

/-- THE SECOND FORM's CARD OF 'laws.FnExactSpellCounts'. -/
def fnExactSpellCountsUptoCard : Claim7 := { stood := { row := fnExactSpellCountsUptoRow, standIns := [], harness := (true, "a2a24c23d369264317120c232eafc8a3973ea924866b5b524dce8248b7b199ff"), looks := false }, kinds := [], alts := [], laidByText := true, laidKinds := [.data, .pinned], laidTests := true, laidLooks := .later }
def FnExactSpellCountsUptoCardSaid : Prop := Claim7.holds Tryd.pinned (.plain (OpenSpec.upto fnExactSpellCountsSpec)) fnExactSpellCountsUptoCard
end Rows
end Go.Proofs.YtpajmgonceepoabDoor
