/-
  No cell of these rows narrows 'for every input' (looked for: loops, veiled, ifaces, maps, wideKeys, modest, calm, conditions, laid).
  DERIVED. THE GIVEN ROWS OF THIS SEAT. 18 by the template 'for every input the law returns true; each argument reads behind the call as it read before'; 0 by the template 'total and deterministic' (their statements: YtdehkehjbmnllaaTotals.lean).
  GIVEN WITH THE SEED: the statements are not yours to turn. If you find one false, say at which input.
  Laid BY PROGRAM, IN A SANDBOX (cutbox-rows.mjs): the forced cells as the released guide's own fill.sh prints them over the translation a3a229ddeccc6c55… (all of the seat's roots in one cut). By AI agents, Wed Nov 11 2026. No macro, syntax, notation, axiom, sorry.
-/
import Derived.Test.YtdehkehjbmnllaaChecked
import GoSem.Claim
import GoSem.ClaimJoined
import GoSem.ClaimMapViews
import Derived.JoinedTies
import Derived.KernelRfl
namespace Go.Proofs.Ytdehkehjbmnllaa
/- THE CELL 'sum', in the pinned program and in every row, IS THE sha256 OF THE DUMP (.gsa) THAT YtdehkehjbmnllaaProg.lean LOADS. Nothing in Lean hashes anything: it is a label: what it is worth is what the hold of that sum in a sandbox is worth. -/
noncomputable def Try.pinned : Pinned := { name := "ytdehkehjbmnllaa", sum := "a3a229ddeccc6c5566ad20edf031f83ee85eb424471c039006385cb69fedc8fe", checked := Try.checked }
namespace Rows
def none {H : Type} : Left H := { results := [], args := [] }

/-- 'laws.FnExactPeriodOfSteps': WHATEVER THE INPUT: true; the input reads as it did. -/
def fnExactPeriodOfStepsSpec : ChangeSpec := { name := "fnExactPeriodOfSteps", fn := fun _ => fun
  | [d] => { results := [.lit (.bool true)], args := [d] }
  | _ => none }
def fnExactPeriodOfStepsRow : OpenClaim := { program := "ytdehkehjbmnllaa", sum := "a3a229ddeccc6c5566ad20edf031f83ee85eb424471c039006385cb69fedc8fe", func := "loop.example/g01295/laws.FnExactPeriodOfSteps", spec := "fnExactPeriodOfSteps", apart := false }
def FnExactPeriodOfStepsSaid : Prop := fnExactPeriodOfStepsRow.holds Try.pinned (OpenSpec.ofChange fnExactPeriodOfStepsSpec)

/-- ITS FALSE NEIGHBOUR: 'it returns false'. Refute it at one input. -/
def fnExactPeriodOfStepsWrong : ChangeSpec := { name := "fnExactPeriodOfSteps", fn := fun _ => fun
  | [d] => { results := [.lit (.bool false)], args := [d] }
  | _ => none }
def FnExactPeriodOfStepsWrongFalsely : Prop := fnExactPeriodOfStepsRow.holds Try.pinned (OpenSpec.ofChange fnExactPeriodOfStepsWrong)

/-- 'laws.FnExactLastTable': WHATEVER THE INPUT: true; the input reads as it did. -/
def fnExactLastTableSpec : ChangeSpec := { name := "fnExactLastTable", fn := fun _ => fun
  | [d1, d2] => { results := [.lit (.bool true)], args := [d1, d2] }
  | _ => none }
def fnExactLastTableRow : OpenClaim := { program := "ytdehkehjbmnllaa", sum := "a3a229ddeccc6c5566ad20edf031f83ee85eb424471c039006385cb69fedc8fe", func := "loop.example/g01295/laws.FnExactLastTable", spec := "fnExactLastTable", apart := false }
def FnExactLastTableSaid : Prop := fnExactLastTableRow.holds Try.pinned (OpenSpec.ofChange fnExactLastTableSpec)

/-- ITS FALSE NEIGHBOUR: 'it returns false'. Refute it at one input. -/
def fnExactLastTableWrong : ChangeSpec := { name := "fnExactLastTable", fn := fun _ => fun
  | [d1, d2] => { results := [.lit (.bool false)], args := [d1, d2] }
  | _ => none }
def FnExactLastTableWrongFalsely : Prop := fnExactLastTableRow.holds Try.pinned (OpenSpec.ofChange fnExactLastTableWrong)

/-- 'laws.FnExactStepForLast': WHATEVER THE INPUT: true; the input reads as it did. -/
def fnExactStepForLastSpec : ChangeSpec := { name := "fnExactStepForLast", fn := fun _ => fun
  | [d1, d2] => { results := [.lit (.bool true)], args := [d1, d2] }
  | _ => none }
def fnExactStepForLastRow : OpenClaim := { program := "ytdehkehjbmnllaa", sum := "a3a229ddeccc6c5566ad20edf031f83ee85eb424471c039006385cb69fedc8fe", func := "loop.example/g01295/laws.FnExactStepForLast", spec := "fnExactStepForLast", apart := false }
def FnExactStepForLastSaid : Prop := fnExactStepForLastRow.holds Try.pinned (OpenSpec.ofChange fnExactStepForLastSpec)

/-- ITS FALSE NEIGHBOUR: 'it returns false'. Refute it at one input. -/
def fnExactStepForLastWrong : ChangeSpec := { name := "fnExactStepForLast", fn := fun _ => fun
  | [d1, d2] => { results := [.lit (.bool false)], args := [d1, d2] }
  | _ => none }
def FnExactStepForLastWrongFalsely : Prop := fnExactStepForLastRow.holds Try.pinned (OpenSpec.ofChange fnExactStepForLastWrong)

/-- 'laws.FnExactCountForLast': WHATEVER THE INPUT: true; the input reads as it did. -/
def fnExactCountForLastSpec : ChangeSpec := { name := "fnExactCountForLast", fn := fun _ => fun
  | [d1, d2] => { results := [.lit (.bool true)], args := [d1, d2] }
  | _ => none }
def fnExactCountForLastRow : OpenClaim := { program := "ytdehkehjbmnllaa", sum := "a3a229ddeccc6c5566ad20edf031f83ee85eb424471c039006385cb69fedc8fe", func := "loop.example/g01295/laws.FnExactCountForLast", spec := "fnExactCountForLast", apart := false }
def FnExactCountForLastSaid : Prop := fnExactCountForLastRow.holds Try.pinned (OpenSpec.ofChange fnExactCountForLastSpec)

/-- ITS FALSE NEIGHBOUR: 'it returns false'. Refute it at one input. -/
def fnExactCountForLastWrong : ChangeSpec := { name := "fnExactCountForLast", fn := fun _ => fun
  | [d1, d2] => { results := [.lit (.bool false)], args := [d1, d2] }
  | _ => none }
def FnExactCountForLastWrongFalsely : Prop := fnExactCountForLastRow.holds Try.pinned (OpenSpec.ofChange fnExactCountForLastWrong)

/-- 'laws.FnExactCanBeLeft': WHATEVER THE INPUT: true; the input reads as it did. -/
def fnExactCanBeLeftSpec : ChangeSpec := { name := "fnExactCanBeLeft", fn := fun _ => fun
  | [d] => { results := [.lit (.bool true)], args := [d] }
  | _ => none }
def fnExactCanBeLeftRow : OpenClaim := { program := "ytdehkehjbmnllaa", sum := "a3a229ddeccc6c5566ad20edf031f83ee85eb424471c039006385cb69fedc8fe", func := "loop.example/g01295/laws.FnExactCanBeLeft", spec := "fnExactCanBeLeft", apart := false }
def FnExactCanBeLeftSaid : Prop := fnExactCanBeLeftRow.holds Try.pinned (OpenSpec.ofChange fnExactCanBeLeftSpec)

/-- ITS FALSE NEIGHBOUR: 'it returns false'. Refute it at one input. -/
def fnExactCanBeLeftWrong : ChangeSpec := { name := "fnExactCanBeLeft", fn := fun _ => fun
  | [d] => { results := [.lit (.bool false)], args := [d] }
  | _ => none }
def FnExactCanBeLeftWrongFalsely : Prop := fnExactCanBeLeftRow.holds Try.pinned (OpenSpec.ofChange fnExactCanBeLeftWrong)

/-- 'laws.FnExactLastOnes': WHATEVER THE INPUT: true; the input reads as it did. -/
def fnExactLastOnesSpec : ChangeSpec := { name := "fnExactLastOnes", fn := fun _ => fun
  | [d1, d2, d3] => { results := [.lit (.bool true)], args := [d1, d2, d3] }
  | _ => none }
def fnExactLastOnesRow : OpenClaim := { program := "ytdehkehjbmnllaa", sum := "a3a229ddeccc6c5566ad20edf031f83ee85eb424471c039006385cb69fedc8fe", func := "loop.example/g01295/laws.FnExactLastOnes", spec := "fnExactLastOnes", unfollowed := true, recurses := true, apart := false }
def FnExactLastOnesSaid : Prop := fnExactLastOnesRow.holds Try.pinned (OpenSpec.ofChange fnExactLastOnesSpec)

/-- ITS FALSE NEIGHBOUR: 'it returns false'. Refute it at one input. -/
def fnExactLastOnesWrong : ChangeSpec := { name := "fnExactLastOnes", fn := fun _ => fun
  | [d1, d2, d3] => { results := [.lit (.bool false)], args := [d1, d2, d3] }
  | _ => none }
def FnExactLastOnesWrongFalsely : Prop := fnExactLastOnesRow.holds Try.pinned (OpenSpec.ofChange fnExactLastOnesWrong)

/-- 'laws.FnExactStepSaving': WHATEVER THE INPUT: true; the input reads as it did. -/
def fnExactStepSavingSpec : ChangeSpec := { name := "fnExactStepSaving", fn := fun _ => fun
  | [d1, d2] => { results := [.lit (.bool true)], args := [d1, d2] }
  | _ => none }
def fnExactStepSavingRow : OpenClaim := { program := "ytdehkehjbmnllaa", sum := "a3a229ddeccc6c5566ad20edf031f83ee85eb424471c039006385cb69fedc8fe", func := "loop.example/g01295/laws.FnExactStepSaving", spec := "fnExactStepSaving", apart := false }
def FnExactStepSavingSaid : Prop := fnExactStepSavingRow.holds Try.pinned (OpenSpec.ofChange fnExactStepSavingSpec)

/-- ITS FALSE NEIGHBOUR: 'it returns false'. Refute it at one input. -/
def fnExactStepSavingWrong : ChangeSpec := { name := "fnExactStepSaving", fn := fun _ => fun
  | [d1, d2] => { results := [.lit (.bool false)], args := [d1, d2] }
  | _ => none }
def FnExactStepSavingWrongFalsely : Prop := fnExactStepSavingRow.holds Try.pinned (OpenSpec.ofChange fnExactStepSavingWrong)

/-- 'laws.FnExactCountSaving': WHATEVER THE INPUT: true; the input reads as it did. -/
def fnExactCountSavingSpec : ChangeSpec := { name := "fnExactCountSaving", fn := fun _ => fun
  | [d1, d2] => { results := [.lit (.bool true)], args := [d1, d2] }
  | _ => none }
def fnExactCountSavingRow : OpenClaim := { program := "ytdehkehjbmnllaa", sum := "a3a229ddeccc6c5566ad20edf031f83ee85eb424471c039006385cb69fedc8fe", func := "loop.example/g01295/laws.FnExactCountSaving", spec := "fnExactCountSaving", apart := false }
def FnExactCountSavingSaid : Prop := fnExactCountSavingRow.holds Try.pinned (OpenSpec.ofChange fnExactCountSavingSpec)

/-- ITS FALSE NEIGHBOUR: 'it returns false'. Refute it at one input. -/
def fnExactCountSavingWrong : ChangeSpec := { name := "fnExactCountSaving", fn := fun _ => fun
  | [d1, d2] => { results := [.lit (.bool false)], args := [d1, d2] }
  | _ => none }
def FnExactCountSavingWrongFalsely : Prop := fnExactCountSavingRow.holds Try.pinned (OpenSpec.ofChange fnExactCountSavingWrong)

/-- 'laws.FnExactStepsFirstOut': WHATEVER THE INPUT: true; the input reads as it did. -/
def fnExactStepsFirstOutSpec : ChangeSpec := { name := "fnExactStepsFirstOut", fn := fun _ => fun
  | [d1, d2] => { results := [.lit (.bool true)], args := [d1, d2] }
  | _ => none }
def fnExactStepsFirstOutRow : OpenClaim := { program := "ytdehkehjbmnllaa", sum := "a3a229ddeccc6c5566ad20edf031f83ee85eb424471c039006385cb69fedc8fe", func := "loop.example/g01295/laws.FnExactStepsFirstOut", spec := "fnExactStepsFirstOut", unfollowed := true, recurses := true, apart := false }
def FnExactStepsFirstOutSaid : Prop := fnExactStepsFirstOutRow.holds Try.pinned (OpenSpec.ofChange fnExactStepsFirstOutSpec)

/-- ITS FALSE NEIGHBOUR: 'it returns false'. Refute it at one input. -/
def fnExactStepsFirstOutWrong : ChangeSpec := { name := "fnExactStepsFirstOut", fn := fun _ => fun
  | [d1, d2] => { results := [.lit (.bool false)], args := [d1, d2] }
  | _ => none }
def FnExactStepsFirstOutWrongFalsely : Prop := fnExactStepsFirstOutRow.holds Try.pinned (OpenSpec.ofChange fnExactStepsFirstOutWrong)

/-- 'laws.FnExactStepForFriends': WHATEVER THE INPUT: true; the input reads as it did. -/
def fnExactStepForFriendsSpec : ChangeSpec := { name := "fnExactStepForFriends", fn := fun _ => fun
  | [d] => { results := [.lit (.bool true)], args := [d] }
  | _ => none }
def fnExactStepForFriendsRow : OpenClaim := { program := "ytdehkehjbmnllaa", sum := "a3a229ddeccc6c5566ad20edf031f83ee85eb424471c039006385cb69fedc8fe", func := "loop.example/g01295/laws.FnExactStepForFriends", spec := "fnExactStepForFriends", apart := false }
def FnExactStepForFriendsSaid : Prop := fnExactStepForFriendsRow.holds Try.pinned (OpenSpec.ofChange fnExactStepForFriendsSpec)

/-- ITS FALSE NEIGHBOUR: 'it returns false'. Refute it at one input. -/
def fnExactStepForFriendsWrong : ChangeSpec := { name := "fnExactStepForFriends", fn := fun _ => fun
  | [d] => { results := [.lit (.bool false)], args := [d] }
  | _ => none }
def FnExactStepForFriendsWrongFalsely : Prop := fnExactStepForFriendsRow.holds Try.pinned (OpenSpec.ofChange fnExactStepForFriendsWrong)

/-- 'laws.FnExactBestPlaces': WHATEVER THE INPUT: true; the input reads as it did. -/
def fnExactBestPlacesSpec : ChangeSpec := { name := "fnExactBestPlaces", fn := fun _ => fun
  | [d1, d2] => { results := [.lit (.bool true)], args := [d1, d2] }
  | _ => none }
def fnExactBestPlacesRow : OpenClaim := { program := "ytdehkehjbmnllaa", sum := "a3a229ddeccc6c5566ad20edf031f83ee85eb424471c039006385cb69fedc8fe", func := "loop.example/g01295/laws.FnExactBestPlaces", spec := "fnExactBestPlaces", apart := false }
def FnExactBestPlacesSaid : Prop := fnExactBestPlacesRow.holds Try.pinned (OpenSpec.ofChange fnExactBestPlacesSpec)

/-- ITS FALSE NEIGHBOUR: 'it returns false'. Refute it at one input. -/
def fnExactBestPlacesWrong : ChangeSpec := { name := "fnExactBestPlaces", fn := fun _ => fun
  | [d1, d2] => { results := [.lit (.bool false)], args := [d1, d2] }
  | _ => none }
def FnExactBestPlacesWrongFalsely : Prop := fnExactBestPlacesRow.holds Try.pinned (OpenSpec.ofChange fnExactBestPlacesWrong)

/-- 'laws.FnExactMeanTurn': WHATEVER THE INPUT: true; the input reads as it did. -/
def fnExactMeanTurnSpec : ChangeSpec := { name := "fnExactMeanTurn", fn := fun _ => fun
  | [d1, d2, d3] => { results := [.lit (.bool true)], args := [d1, d2, d3] }
  | _ => none }
def fnExactMeanTurnRow : OpenClaim := { program := "ytdehkehjbmnllaa", sum := "a3a229ddeccc6c5566ad20edf031f83ee85eb424471c039006385cb69fedc8fe", func := "loop.example/g01295/laws.FnExactMeanTurn", spec := "fnExactMeanTurn", unfollowed := true, recurses := true, apart := false }
def FnExactMeanTurnSaid : Prop := fnExactMeanTurnRow.holds Try.pinned (OpenSpec.ofChange fnExactMeanTurnSpec)

/-- ITS FALSE NEIGHBOUR: 'it returns false'. Refute it at one input. -/
def fnExactMeanTurnWrong : ChangeSpec := { name := "fnExactMeanTurn", fn := fun _ => fun
  | [d1, d2, d3] => { results := [.lit (.bool false)], args := [d1, d2, d3] }
  | _ => none }
def FnExactMeanTurnWrongFalsely : Prop := fnExactMeanTurnRow.holds Try.pinned (OpenSpec.ofChange fnExactMeanTurnWrong)

/-- 'laws.FnExactSameOrderSteps': WHATEVER THE INPUT: true; the input reads as it did. -/
def fnExactSameOrderStepsSpec : ChangeSpec := { name := "fnExactSameOrderSteps", fn := fun _ => fun
  | [d1, d2, d3] => { results := [.lit (.bool true)], args := [d1, d2, d3] }
  | _ => none }
def fnExactSameOrderStepsRow : OpenClaim := { program := "ytdehkehjbmnllaa", sum := "a3a229ddeccc6c5566ad20edf031f83ee85eb424471c039006385cb69fedc8fe", func := "loop.example/g01295/laws.FnExactSameOrderSteps", spec := "fnExactSameOrderSteps", apart := false }
def FnExactSameOrderStepsSaid : Prop := fnExactSameOrderStepsRow.holds Try.pinned (OpenSpec.ofChange fnExactSameOrderStepsSpec)

/-- ITS FALSE NEIGHBOUR: 'it returns false'. Refute it at one input. -/
def fnExactSameOrderStepsWrong : ChangeSpec := { name := "fnExactSameOrderSteps", fn := fun _ => fun
  | [d1, d2, d3] => { results := [.lit (.bool false)], args := [d1, d2, d3] }
  | _ => none }
def FnExactSameOrderStepsWrongFalsely : Prop := fnExactSameOrderStepsRow.holds Try.pinned (OpenSpec.ofChange fnExactSameOrderStepsWrong)

/-- 'laws.FnExactNextStepFor': WHATEVER THE INPUT: true; the input reads as it did. -/
def fnExactNextStepForSpec : ChangeSpec := { name := "fnExactNextStepFor", fn := fun _ => fun
  | [d1, d2, d3] => { results := [.lit (.bool true)], args := [d1, d2, d3] }
  | _ => none }
def fnExactNextStepForRow : OpenClaim := { program := "ytdehkehjbmnllaa", sum := "a3a229ddeccc6c5566ad20edf031f83ee85eb424471c039006385cb69fedc8fe", func := "loop.example/g01295/laws.FnExactNextStepFor", spec := "fnExactNextStepFor", apart := false }
def FnExactNextStepForSaid : Prop := fnExactNextStepForRow.holds Try.pinned (OpenSpec.ofChange fnExactNextStepForSpec)

/-- ITS FALSE NEIGHBOUR: 'it returns false'. Refute it at one input. -/
def fnExactNextStepForWrong : ChangeSpec := { name := "fnExactNextStepFor", fn := fun _ => fun
  | [d1, d2, d3] => { results := [.lit (.bool false)], args := [d1, d2, d3] }
  | _ => none }
def FnExactNextStepForWrongFalsely : Prop := fnExactNextStepForRow.holds Try.pinned (OpenSpec.ofChange fnExactNextStepForWrong)

/-- 'laws.FnExactLastLeft': WHATEVER THE INPUT: true; the input reads as it did. -/
def fnExactLastLeftSpec : ChangeSpec := { name := "fnExactLastLeft", fn := fun _ => fun
  | [d1, d2] => { results := [.lit (.bool true)], args := [d1, d2] }
  | _ => none }
def fnExactLastLeftRow : OpenClaim := { program := "ytdehkehjbmnllaa", sum := "a3a229ddeccc6c5566ad20edf031f83ee85eb424471c039006385cb69fedc8fe", func := "loop.example/g01295/laws.FnExactLastLeft", spec := "fnExactLastLeft", apart := false }
def FnExactLastLeftSaid : Prop := fnExactLastLeftRow.holds Try.pinned (OpenSpec.ofChange fnExactLastLeftSpec)

/-- ITS FALSE NEIGHBOUR: 'it returns false'. Refute it at one input. -/
def fnExactLastLeftWrong : ChangeSpec := { name := "fnExactLastLeft", fn := fun _ => fun
  | [d1, d2] => { results := [.lit (.bool false)], args := [d1, d2] }
  | _ => none }
def FnExactLastLeftWrongFalsely : Prop := fnExactLastLeftRow.holds Try.pinned (OpenSpec.ofChange fnExactLastLeftWrong)

/-- 'laws.FnExactFarLeft': WHATEVER THE INPUT: true; the input reads as it did. -/
def fnExactFarLeftSpec : ChangeSpec := { name := "fnExactFarLeft", fn := fun _ => fun
  | [d1, d2] => { results := [.lit (.bool true)], args := [d1, d2] }
  | _ => none }
def fnExactFarLeftRow : OpenClaim := { program := "ytdehkehjbmnllaa", sum := "a3a229ddeccc6c5566ad20edf031f83ee85eb424471c039006385cb69fedc8fe", func := "loop.example/g01295/laws.FnExactFarLeft", spec := "fnExactFarLeft", apart := false }
def FnExactFarLeftSaid : Prop := fnExactFarLeftRow.holds Try.pinned (OpenSpec.ofChange fnExactFarLeftSpec)

/-- ITS FALSE NEIGHBOUR: 'it returns false'. Refute it at one input. -/
def fnExactFarLeftWrong : ChangeSpec := { name := "fnExactFarLeft", fn := fun _ => fun
  | [d1, d2] => { results := [.lit (.bool false)], args := [d1, d2] }
  | _ => none }
def FnExactFarLeftWrongFalsely : Prop := fnExactFarLeftRow.holds Try.pinned (OpenSpec.ofChange fnExactFarLeftWrong)

/-- 'laws.FnExactLastFrom': WHATEVER THE INPUT: true; the input reads as it did. -/
def fnExactLastFromSpec : ChangeSpec := { name := "fnExactLastFrom", fn := fun _ => fun
  | [d1, d2, d3] => { results := [.lit (.bool true)], args := [d1, d2, d3] }
  | _ => none }
def fnExactLastFromRow : OpenClaim := { program := "ytdehkehjbmnllaa", sum := "a3a229ddeccc6c5566ad20edf031f83ee85eb424471c039006385cb69fedc8fe", func := "loop.example/g01295/laws.FnExactLastFrom", spec := "fnExactLastFrom", apart := false }
def FnExactLastFromSaid : Prop := fnExactLastFromRow.holds Try.pinned (OpenSpec.ofChange fnExactLastFromSpec)

/-- ITS FALSE NEIGHBOUR: 'it returns false'. Refute it at one input. -/
def fnExactLastFromWrong : ChangeSpec := { name := "fnExactLastFrom", fn := fun _ => fun
  | [d1, d2, d3] => { results := [.lit (.bool false)], args := [d1, d2, d3] }
  | _ => none }
def FnExactLastFromWrongFalsely : Prop := fnExactLastFromRow.holds Try.pinned (OpenSpec.ofChange fnExactLastFromWrong)

/-- 'laws.FnExactBeginFor': WHATEVER THE INPUT: true; the input reads as it did. -/
def fnExactBeginForSpec : ChangeSpec := { name := "fnExactBeginFor", fn := fun _ => fun
  | [d1, d2, d3] => { results := [.lit (.bool true)], args := [d1, d2, d3] }
  | _ => none }
def fnExactBeginForRow : OpenClaim := { program := "ytdehkehjbmnllaa", sum := "a3a229ddeccc6c5566ad20edf031f83ee85eb424471c039006385cb69fedc8fe", func := "loop.example/g01295/laws.FnExactBeginFor", spec := "fnExactBeginFor", apart := false }
def FnExactBeginForSaid : Prop := fnExactBeginForRow.holds Try.pinned (OpenSpec.ofChange fnExactBeginForSpec)

/-- ITS FALSE NEIGHBOUR: 'it returns false'. Refute it at one input. -/
def fnExactBeginForWrong : ChangeSpec := { name := "fnExactBeginFor", fn := fun _ => fun
  | [d1, d2, d3] => { results := [.lit (.bool false)], args := [d1, d2, d3] }
  | _ => none }
def FnExactBeginForWrongFalsely : Prop := fnExactBeginForRow.holds Try.pinned (OpenSpec.ofChange fnExactBeginForWrong)

/- THE SECOND FORM. 'bulk': how many values and letters a reading holds, each counted each time it is reached (what is shared counts as often as it is met; a slice's spare places count too). A statement '..UptoSaid' is the law's where the arguments, and the package variables that the reading takes, are together of bulk at most 1048576: NARROWER than '..Said'. Prove '..Said' where nothing that the law and all that it calls make is longer than what came in: it says more and counts as full. Else prove '..UptoSaid'. A law counts once. -/
mutual
def uptoBulk {H : Type} : DataW H → Nat
  | .lit (.string bytes) => bytes.length + 1
  | .lit _ => 1
  | .nil => 1
  | .ptr d => uptoBulk d + 1
  | .slice elems spare => uptoBulkAll elems + uptoBulkAll spare + 1
  | .agg parts => uptoBulkAll parts + 1
  | .iface _ d => uptoBulk d + 1
  | .map entries => uptoBulkEntries entries + 1
  | .held _ => 1
def uptoBulkAll {H : Type} : List (DataW H) → Nat
  | [] => 0
  | d :: r => uptoBulk d + uptoBulkAll r
def uptoBulkEntries {H : Type} : List (Lit × DataW H) → Nat
  | [] => 0
  | x :: r => uptoBulkEntry x + uptoBulkEntries r
def uptoBulkEntry {H : Type} : Lit × DataW H → Nat
  | (.string bytes, d) => bytes.length + uptoBulk d + 1
  | (_, d) => uptoBulk d + 1
 end
def uptoSmall : (H : Type) → List (DataW H) → Bool := fun _ ds => decide (uptoBulkAll ds ≤ 1048576)
def OpenSpec.upto (s : _root_.Go.ChangeSpec) : _root_.Go.OpenSpec := { _root_.Go.OpenSpec.ofChange s with cond := some uptoSmall }

/-- 'laws.FnExactPeriodOfSteps', WHERE WHAT IT READS IS OF BULK AT MOST 1048576: true; the input reads as it did. -/
def fnExactPeriodOfStepsUptoRow : OpenClaim := { program := "ytdehkehjbmnllaa", sum := "a3a229ddeccc6c5566ad20edf031f83ee85eb424471c039006385cb69fedc8fe", func := "loop.example/g01295/laws.FnExactPeriodOfSteps", spec := "fnExactPeriodOfSteps", apart := false, narrowed := true }
def FnExactPeriodOfStepsUptoSaid : Prop := fnExactPeriodOfStepsUptoRow.holds Try.pinned (OpenSpec.upto fnExactPeriodOfStepsSpec)

/-- 'laws.FnExactLastTable', WHERE WHAT IT READS IS OF BULK AT MOST 1048576: true; the input reads as it did. -/
def fnExactLastTableUptoRow : OpenClaim := { program := "ytdehkehjbmnllaa", sum := "a3a229ddeccc6c5566ad20edf031f83ee85eb424471c039006385cb69fedc8fe", func := "loop.example/g01295/laws.FnExactLastTable", spec := "fnExactLastTable", apart := false, narrowed := true }
def FnExactLastTableUptoSaid : Prop := fnExactLastTableUptoRow.holds Try.pinned (OpenSpec.upto fnExactLastTableSpec)

/-- 'laws.FnExactStepForLast', WHERE WHAT IT READS IS OF BULK AT MOST 1048576: true; the input reads as it did. -/
def fnExactStepForLastUptoRow : OpenClaim := { program := "ytdehkehjbmnllaa", sum := "a3a229ddeccc6c5566ad20edf031f83ee85eb424471c039006385cb69fedc8fe", func := "loop.example/g01295/laws.FnExactStepForLast", spec := "fnExactStepForLast", apart := false, narrowed := true }
def FnExactStepForLastUptoSaid : Prop := fnExactStepForLastUptoRow.holds Try.pinned (OpenSpec.upto fnExactStepForLastSpec)

/-- 'laws.FnExactCountForLast', WHERE WHAT IT READS IS OF BULK AT MOST 1048576: true; the input reads as it did. -/
def fnExactCountForLastUptoRow : OpenClaim := { program := "ytdehkehjbmnllaa", sum := "a3a229ddeccc6c5566ad20edf031f83ee85eb424471c039006385cb69fedc8fe", func := "loop.example/g01295/laws.FnExactCountForLast", spec := "fnExactCountForLast", apart := false, narrowed := true }
def FnExactCountForLastUptoSaid : Prop := fnExactCountForLastUptoRow.holds Try.pinned (OpenSpec.upto fnExactCountForLastSpec)

/-- 'laws.FnExactCanBeLeft', WHERE WHAT IT READS IS OF BULK AT MOST 1048576: true; the input reads as it did. -/
def fnExactCanBeLeftUptoRow : OpenClaim := { program := "ytdehkehjbmnllaa", sum := "a3a229ddeccc6c5566ad20edf031f83ee85eb424471c039006385cb69fedc8fe", func := "loop.example/g01295/laws.FnExactCanBeLeft", spec := "fnExactCanBeLeft", apart := false, narrowed := true }
def FnExactCanBeLeftUptoSaid : Prop := fnExactCanBeLeftUptoRow.holds Try.pinned (OpenSpec.upto fnExactCanBeLeftSpec)

/-- 'laws.FnExactLastOnes', WHERE WHAT IT READS IS OF BULK AT MOST 1048576: true; the input reads as it did. -/
def fnExactLastOnesUptoRow : OpenClaim := { program := "ytdehkehjbmnllaa", sum := "a3a229ddeccc6c5566ad20edf031f83ee85eb424471c039006385cb69fedc8fe", func := "loop.example/g01295/laws.FnExactLastOnes", spec := "fnExactLastOnes", unfollowed := true, recurses := true, apart := false, narrowed := true }
def FnExactLastOnesUptoSaid : Prop := fnExactLastOnesUptoRow.holds Try.pinned (OpenSpec.upto fnExactLastOnesSpec)

/-- 'laws.FnExactStepSaving', WHERE WHAT IT READS IS OF BULK AT MOST 1048576: true; the input reads as it did. -/
def fnExactStepSavingUptoRow : OpenClaim := { program := "ytdehkehjbmnllaa", sum := "a3a229ddeccc6c5566ad20edf031f83ee85eb424471c039006385cb69fedc8fe", func := "loop.example/g01295/laws.FnExactStepSaving", spec := "fnExactStepSaving", apart := false, narrowed := true }
def FnExactStepSavingUptoSaid : Prop := fnExactStepSavingUptoRow.holds Try.pinned (OpenSpec.upto fnExactStepSavingSpec)

/-- 'laws.FnExactCountSaving', WHERE WHAT IT READS IS OF BULK AT MOST 1048576: true; the input reads as it did. -/
def fnExactCountSavingUptoRow : OpenClaim := { program := "ytdehkehjbmnllaa", sum := "a3a229ddeccc6c5566ad20edf031f83ee85eb424471c039006385cb69fedc8fe", func := "loop.example/g01295/laws.FnExactCountSaving", spec := "fnExactCountSaving", apart := false, narrowed := true }
def FnExactCountSavingUptoSaid : Prop := fnExactCountSavingUptoRow.holds Try.pinned (OpenSpec.upto fnExactCountSavingSpec)

/-- 'laws.FnExactStepsFirstOut', WHERE WHAT IT READS IS OF BULK AT MOST 1048576: true; the input reads as it did. -/
def fnExactStepsFirstOutUptoRow : OpenClaim := { program := "ytdehkehjbmnllaa", sum := "a3a229ddeccc6c5566ad20edf031f83ee85eb424471c039006385cb69fedc8fe", func := "loop.example/g01295/laws.FnExactStepsFirstOut", spec := "fnExactStepsFirstOut", unfollowed := true, recurses := true, apart := false, narrowed := true }
def FnExactStepsFirstOutUptoSaid : Prop := fnExactStepsFirstOutUptoRow.holds Try.pinned (OpenSpec.upto fnExactStepsFirstOutSpec)

/-- 'laws.FnExactStepForFriends', WHERE WHAT IT READS IS OF BULK AT MOST 1048576: true; the input reads as it did. -/
def fnExactStepForFriendsUptoRow : OpenClaim := { program := "ytdehkehjbmnllaa", sum := "a3a229ddeccc6c5566ad20edf031f83ee85eb424471c039006385cb69fedc8fe", func := "loop.example/g01295/laws.FnExactStepForFriends", spec := "fnExactStepForFriends", apart := false, narrowed := true }
def FnExactStepForFriendsUptoSaid : Prop := fnExactStepForFriendsUptoRow.holds Try.pinned (OpenSpec.upto fnExactStepForFriendsSpec)

/-- 'laws.FnExactBestPlaces', WHERE WHAT IT READS IS OF BULK AT MOST 1048576: true; the input reads as it did. -/
def fnExactBestPlacesUptoRow : OpenClaim := { program := "ytdehkehjbmnllaa", sum := "a3a229ddeccc6c5566ad20edf031f83ee85eb424471c039006385cb69fedc8fe", func := "loop.example/g01295/laws.FnExactBestPlaces", spec := "fnExactBestPlaces", apart := false, narrowed := true }
def FnExactBestPlacesUptoSaid : Prop := fnExactBestPlacesUptoRow.holds Try.pinned (OpenSpec.upto fnExactBestPlacesSpec)

/-- 'laws.FnExactMeanTurn', WHERE WHAT IT READS IS OF BULK AT MOST 1048576: true; the input reads as it did. -/
def fnExactMeanTurnUptoRow : OpenClaim := { program := "ytdehkehjbmnllaa", sum := "a3a229ddeccc6c5566ad20edf031f83ee85eb424471c039006385cb69fedc8fe", func := "loop.example/g01295/laws.FnExactMeanTurn", spec := "fnExactMeanTurn", unfollowed := true, recurses := true, apart := false, narrowed := true }
def FnExactMeanTurnUptoSaid : Prop := fnExactMeanTurnUptoRow.holds Try.pinned (OpenSpec.upto fnExactMeanTurnSpec)

/-- 'laws.FnExactSameOrderSteps', WHERE WHAT IT READS IS OF BULK AT MOST 1048576: true; the input reads as it did. -/
def fnExactSameOrderStepsUptoRow : OpenClaim := { program := "ytdehkehjbmnllaa", sum := "a3a229ddeccc6c5566ad20edf031f83ee85eb424471c039006385cb69fedc8fe", func := "loop.example/g01295/laws.FnExactSameOrderSteps", spec := "fnExactSameOrderSteps", apart := false, narrowed := true }
def FnExactSameOrderStepsUptoSaid : Prop := fnExactSameOrderStepsUptoRow.holds Try.pinned (OpenSpec.upto fnExactSameOrderStepsSpec)

/-- 'laws.FnExactNextStepFor', WHERE WHAT IT READS IS OF BULK AT MOST 1048576: true; the input reads as it did. -/
def fnExactNextStepForUptoRow : OpenClaim := { program := "ytdehkehjbmnllaa", sum := "a3a229ddeccc6c5566ad20edf031f83ee85eb424471c039006385cb69fedc8fe", func := "loop.example/g01295/laws.FnExactNextStepFor", spec := "fnExactNextStepFor", apart := false, narrowed := true }
def FnExactNextStepForUptoSaid : Prop := fnExactNextStepForUptoRow.holds Try.pinned (OpenSpec.upto fnExactNextStepForSpec)

/-- 'laws.FnExactLastLeft', WHERE WHAT IT READS IS OF BULK AT MOST 1048576: true; the input reads as it did. -/
def fnExactLastLeftUptoRow : OpenClaim := { program := "ytdehkehjbmnllaa", sum := "a3a229ddeccc6c5566ad20edf031f83ee85eb424471c039006385cb69fedc8fe", func := "loop.example/g01295/laws.FnExactLastLeft", spec := "fnExactLastLeft", apart := false, narrowed := true }
def FnExactLastLeftUptoSaid : Prop := fnExactLastLeftUptoRow.holds Try.pinned (OpenSpec.upto fnExactLastLeftSpec)

/-- 'laws.FnExactFarLeft', WHERE WHAT IT READS IS OF BULK AT MOST 1048576: true; the input reads as it did. -/
def fnExactFarLeftUptoRow : OpenClaim := { program := "ytdehkehjbmnllaa", sum := "a3a229ddeccc6c5566ad20edf031f83ee85eb424471c039006385cb69fedc8fe", func := "loop.example/g01295/laws.FnExactFarLeft", spec := "fnExactFarLeft", apart := false, narrowed := true }
def FnExactFarLeftUptoSaid : Prop := fnExactFarLeftUptoRow.holds Try.pinned (OpenSpec.upto fnExactFarLeftSpec)

/-- 'laws.FnExactLastFrom', WHERE WHAT IT READS IS OF BULK AT MOST 1048576: true; the input reads as it did. -/
def fnExactLastFromUptoRow : OpenClaim := { program := "ytdehkehjbmnllaa", sum := "a3a229ddeccc6c5566ad20edf031f83ee85eb424471c039006385cb69fedc8fe", func := "loop.example/g01295/laws.FnExactLastFrom", spec := "fnExactLastFrom", apart := false, narrowed := true }
def FnExactLastFromUptoSaid : Prop := fnExactLastFromUptoRow.holds Try.pinned (OpenSpec.upto fnExactLastFromSpec)

/-- 'laws.FnExactBeginFor', WHERE WHAT IT READS IS OF BULK AT MOST 1048576: true; the input reads as it did. -/
def fnExactBeginForUptoRow : OpenClaim := { program := "ytdehkehjbmnllaa", sum := "a3a229ddeccc6c5566ad20edf031f83ee85eb424471c039006385cb69fedc8fe", func := "loop.example/g01295/laws.FnExactBeginFor", spec := "fnExactBeginFor", apart := false, narrowed := true }
def FnExactBeginForUptoSaid : Prop := fnExactBeginForUptoRow.holds Try.pinned (OpenSpec.upto fnExactBeginForSpec)

end Rows
end Go.Proofs.Ytdehkehjbmnllaa
