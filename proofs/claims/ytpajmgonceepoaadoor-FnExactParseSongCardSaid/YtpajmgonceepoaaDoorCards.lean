/-
  DERIVED. GIVEN WITH THE SEED: THE CARDS: each row of YtpajmgonceepoaaDoorRows.lean that lists a variable, with what it lists TIED to the program's text (the seventh form; the later family's looks); each row that meets fmt, with fmt's text TOLD by the authors' own Lean function (tested against real Go, not proved from fmt's source: count such statements apart). THE CARD IS WHAT COUNTS. Prove the row's statement (the work); the ties are given (YtpajmgonceepoaaDoorTie.lean); close each card by the builder's one call (the guide's Derived/Test/ToyasCard.lean, 'card_holds'). Laid BY PROGRAM, IN A SANDBOX (cutbox-door.mjs). By AI agents, Wed Nov 11 2026. No macro, syntax, notation, axiom, sorry.
-/
import Derived.Test.YtpajmgonceepoaaDoorRows
import GoSem.ClaimSeven
namespace Go.Proofs.YtpajmgonceepoaaDoor
namespace Rows

/-- THE TIED CARD OF 'laws.FnExactSongText'. -/
def fnExactSongTextCard : Claim7 := { stood := { row := fnExactSongTextRow, standIns := [], harness := (true, "39a6a5a10ca607573d06f944afa1bdb8379fed68757bb72c6b9bd06038172c45"), looks := true }, kinds := [], alts := [], laidByText := true, laidKinds := [.data, .data, .data], laidTests := true, laidLooks := .later }
def FnExactSongTextCardSaid : Prop := Claim7.holds Tryd.pinned (.plain (OpenSpec.ofChange fnExactSongTextSpec)) fnExactSongTextCard

/-- THE TIED CARD OF 'laws.FnExactParseSong'. -/
def fnExactParseSongCard : Claim7 := { stood := { row := fnExactParseSongRow, standIns := [], harness := (true, "39a6a5a10ca607573d06f944afa1bdb8379fed68757bb72c6b9bd06038172c45"), looks := true }, kinds := [], alts := [], laidByText := true, laidKinds := [.data, .data, .data, .data, .sentinel, .sentinel, .pinned], laidTests := true, laidLooks := .later }
def FnExactParseSongCardSaid : Prop := Claim7.holds Tryd.pinned (.plain (OpenSpec.ofChange fnExactParseSongSpec)) fnExactParseSongCard

/-- THE SECOND FORM's CARD OF 'laws.FnExactSongText'. -/
def fnExactSongTextUptoCard : Claim7 := { stood := { row := fnExactSongTextUptoRow, standIns := [], harness := (true, "39a6a5a10ca607573d06f944afa1bdb8379fed68757bb72c6b9bd06038172c45"), looks := true }, kinds := [], alts := [], laidByText := true, laidKinds := [.data, .data, .data], laidTests := true, laidLooks := .later }
def FnExactSongTextUptoCardSaid : Prop := Claim7.holds Tryd.pinned (.plain (OpenSpec.upto fnExactSongTextSpec)) fnExactSongTextUptoCard

/-- THE SECOND FORM's CARD OF 'laws.FnExactParseSong'. -/
def fnExactParseSongUptoCard : Claim7 := { stood := { row := fnExactParseSongUptoRow, standIns := [], harness := (true, "39a6a5a10ca607573d06f944afa1bdb8379fed68757bb72c6b9bd06038172c45"), looks := true }, kinds := [], alts := [], laidByText := true, laidKinds := [.data, .data, .data, .data, .sentinel, .sentinel, .pinned], laidTests := true, laidLooks := .later }
def FnExactParseSongUptoCardSaid : Prop := Claim7.holds Tryd.pinned (.plain (OpenSpec.upto fnExactParseSongSpec)) fnExactParseSongUptoCard
end Rows
end Go.Proofs.YtpajmgonceepoaaDoor
