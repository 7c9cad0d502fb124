/-
  No cell of these rows narrows 'for every input' (looked for: loops, veiled, ifaces, maps, wideKeys, modest, calm, conditions, laid).
  DERIVED. THE GIVEN ROWS OF THIS SEAT. 15 by the template 'for every input the law returns true; each argument reads behind the call as it read before'; 0 by the template 'total and deterministic' (their statements: YtaejlhdbdjfccaaTotals.lean).
  GIVEN WITH THE SEED: the statements are not yours to turn. If you find one false, say at which input.
  Laid BY PROGRAM, IN A SANDBOX (cutbox-rows.mjs): the forced cells as the released guide's own fill.sh prints them over the translation 996954f381aa4b67… (all of the seat's roots in one cut). By AI agents, Wed Nov 11 2026. No macro, syntax, notation, axiom, sorry.
-/
import Derived.Test.YtaejlhdbdjfccaaChecked
import GoSem.Claim
import GoSem.ClaimJoined
import GoSem.ClaimMapViews
import Derived.JoinedTies
import Derived.KernelRfl
namespace Go.Proofs.Ytaejlhdbdjfccaa
/- THE CELL 'sum', in the pinned program and in every row, IS THE sha256 OF THE DUMP (.gsa) THAT YtaejlhdbdjfccaaProg.lean LOADS. Nothing in Lean hashes anything: it is a label: what it is worth is what the hold of that sum in a sandbox is worth. -/
noncomputable def Try.pinned : Pinned := { name := "ytaejlhdbdjfccaa", sum := "996954f381aa4b672c2b504494d1c2ea65d201ec04dce2dbb69158218202f7f4", checked := Try.checked }
namespace Rows
def none {H : Type} : Left H := { results := [], args := [] }

/-- 'laws.FnExactAreCats': WHATEVER THE INPUT: true; the input reads as it did. -/
def fnExactAreCatsSpec : ChangeSpec := { name := "fnExactAreCats", fn := fun _ => fun
  | [d] => { results := [.lit (.bool true)], args := [d] }
  | _ => none }
def fnExactAreCatsRow : OpenClaim := { program := "ytaejlhdbdjfccaa", sum := "996954f381aa4b672c2b504494d1c2ea65d201ec04dce2dbb69158218202f7f4", func := "loop.example/g01295/laws.FnExactAreCats", spec := "fnExactAreCats", apart := false }
def FnExactAreCatsSaid : Prop := fnExactAreCatsRow.holds Try.pinned (OpenSpec.ofChange fnExactAreCatsSpec)

/-- ITS FALSE NEIGHBOUR: 'it returns false'. Refute it at one input. -/
def fnExactAreCatsWrong : ChangeSpec := { name := "fnExactAreCats", fn := fun _ => fun
  | [d] => { results := [.lit (.bool false)], args := [d] }
  | _ => none }
def FnExactAreCatsWrongFalsely : Prop := fnExactAreCatsRow.holds Try.pinned (OpenSpec.ofChange fnExactAreCatsWrong)

/-- 'laws.FnExactEvenCats': WHATEVER THE INPUT: true; the input reads as it did. -/
def fnExactEvenCatsSpec : ChangeSpec := { name := "fnExactEvenCats", fn := fun _ => fun
  | [d1, d2, d3] => { results := [.lit (.bool true)], args := [d1, d2, d3] }
  | _ => none }
def fnExactEvenCatsRow : OpenClaim := { program := "ytaejlhdbdjfccaa", sum := "996954f381aa4b672c2b504494d1c2ea65d201ec04dce2dbb69158218202f7f4", func := "loop.example/g01295/laws.FnExactEvenCats", spec := "fnExactEvenCats", apart := false }
def FnExactEvenCatsSaid : Prop := fnExactEvenCatsRow.holds Try.pinned (OpenSpec.ofChange fnExactEvenCatsSpec)

/-- ITS FALSE NEIGHBOUR: 'it returns false'. Refute it at one input. -/
def fnExactEvenCatsWrong : ChangeSpec := { name := "fnExactEvenCats", fn := fun _ => fun
  | [d1, d2, d3] => { results := [.lit (.bool false)], args := [d1, d2, d3] }
  | _ => none }
def FnExactEvenCatsWrongFalsely : Prop := fnExactEvenCatsRow.holds Try.pinned (OpenSpec.ofChange fnExactEvenCatsWrong)

/-- 'laws.FnExactTurnsOfCats': WHATEVER THE INPUT: true; the input reads as it did. -/
def fnExactTurnsOfCatsSpec : ChangeSpec := { name := "fnExactTurnsOfCats", fn := fun _ => fun
  | [d] => { results := [.lit (.bool true)], args := [d] }
  | _ => none }
def fnExactTurnsOfCatsRow : OpenClaim := { program := "ytaejlhdbdjfccaa", sum := "996954f381aa4b672c2b504494d1c2ea65d201ec04dce2dbb69158218202f7f4", func := "loop.example/g01295/laws.FnExactTurnsOfCats", spec := "fnExactTurnsOfCats", inPlace := ["(*sync.WaitGroup).Add", "internal/race.ReleaseMerge", "internal/race.Disable", "internal/race.Enable", "internal/synctest.IsInBubble", "internal/synctest.Associate[sync.WaitGroup]", "sync.fatal", "sync/atomic.OrUint64", "sync/atomic.AddUint64", "internal/race.Read", "sync/atomic.LoadUint64", "sync/atomic.StoreUint64", "internal/synctest.Disassociate[sync.WaitGroup]", "sync.runtime_Semrelease", "(*sync.WaitGroup).Done", "(*sync.WaitGroup).Wait", "internal/race.Acquire", "internal/synctest.IsAssociated[sync.WaitGroup]", "sync/atomic.CompareAndSwapUint64", "internal/race.Write", "sync.runtime_SemacquireWaitGroup"], unfollowed := true, recurses := true, leaving := true, apart := false }
def FnExactTurnsOfCatsSaid : Prop := fnExactTurnsOfCatsRow.holds Try.pinned (OpenSpec.ofChange fnExactTurnsOfCatsSpec)

/-- ITS FALSE NEIGHBOUR: 'it returns false'. Refute it at one input. -/
def fnExactTurnsOfCatsWrong : ChangeSpec := { name := "fnExactTurnsOfCats", fn := fun _ => fun
  | [d] => { results := [.lit (.bool false)], args := [d] }
  | _ => none }
def FnExactTurnsOfCatsWrongFalsely : Prop := fnExactTurnsOfCatsRow.holds Try.pinned (OpenSpec.ofChange fnExactTurnsOfCatsWrong)

/-- 'laws.FnExactLossesOf': WHATEVER THE INPUT: true; the input reads as it did. -/
def fnExactLossesOfSpec : ChangeSpec := { name := "fnExactLossesOf", fn := fun _ => fun
  | [d] => { results := [.lit (.bool true)], args := [d] }
  | _ => none }
def fnExactLossesOfRow : OpenClaim := { program := "ytaejlhdbdjfccaa", sum := "996954f381aa4b672c2b504494d1c2ea65d201ec04dce2dbb69158218202f7f4", func := "loop.example/g01295/laws.FnExactLossesOf", spec := "fnExactLossesOf", inPlace := ["(*sync.WaitGroup).Add", "internal/race.ReleaseMerge", "internal/race.Disable", "internal/race.Enable", "internal/synctest.IsInBubble", "internal/synctest.Associate[sync.WaitGroup]", "sync.fatal", "sync/atomic.OrUint64", "sync/atomic.AddUint64", "internal/race.Read", "sync/atomic.LoadUint64", "sync/atomic.StoreUint64", "internal/synctest.Disassociate[sync.WaitGroup]", "sync.runtime_Semrelease", "(*sync.WaitGroup).Done", "(*sync.WaitGroup).Wait", "internal/race.Acquire", "internal/synctest.IsAssociated[sync.WaitGroup]", "sync/atomic.CompareAndSwapUint64", "internal/race.Write", "sync.runtime_SemacquireWaitGroup"], unfollowed := true, recurses := true, leaving := true, apart := false }
def FnExactLossesOfSaid : Prop := fnExactLossesOfRow.holds Try.pinned (OpenSpec.ofChange fnExactLossesOfSpec)

/-- ITS FALSE NEIGHBOUR: 'it returns false'. Refute it at one input. -/
def fnExactLossesOfWrong : ChangeSpec := { name := "fnExactLossesOf", fn := fun _ => fun
  | [d] => { results := [.lit (.bool false)], args := [d] }
  | _ => none }
def FnExactLossesOfWrongFalsely : Prop := fnExactLossesOfRow.holds Try.pinned (OpenSpec.ofChange fnExactLossesOfWrong)

/-- 'laws.FnExactOrderOfCats': WHATEVER THE INPUT: true; the input reads as it did. -/
def fnExactOrderOfCatsSpec : ChangeSpec := { name := "fnExactOrderOfCats", fn := fun _ => fun
  | [d] => { results := [.lit (.bool true)], args := [d] }
  | _ => none }
def fnExactOrderOfCatsRow : OpenClaim := { program := "ytaejlhdbdjfccaa", sum := "996954f381aa4b672c2b504494d1c2ea65d201ec04dce2dbb69158218202f7f4", func := "loop.example/g01295/laws.FnExactOrderOfCats", spec := "fnExactOrderOfCats", inPlace := ["(*sync.WaitGroup).Add", "internal/race.ReleaseMerge", "internal/race.Disable", "internal/race.Enable", "internal/synctest.IsInBubble", "internal/synctest.Associate[sync.WaitGroup]", "sync.fatal", "sync/atomic.OrUint64", "sync/atomic.AddUint64", "internal/race.Read", "sync/atomic.LoadUint64", "sync/atomic.StoreUint64", "internal/synctest.Disassociate[sync.WaitGroup]", "sync.runtime_Semrelease", "(*sync.WaitGroup).Done", "(*sync.WaitGroup).Wait", "internal/race.Acquire", "internal/synctest.IsAssociated[sync.WaitGroup]", "sync/atomic.CompareAndSwapUint64", "internal/race.Write", "sync.runtime_SemacquireWaitGroup"], unfollowed := true, recurses := true, leaving := true, apart := false }
def FnExactOrderOfCatsSaid : Prop := fnExactOrderOfCatsRow.holds Try.pinned (OpenSpec.ofChange fnExactOrderOfCatsSpec)

/-- ITS FALSE NEIGHBOUR: 'it returns false'. Refute it at one input. -/
def fnExactOrderOfCatsWrong : ChangeSpec := { name := "fnExactOrderOfCats", fn := fun _ => fun
  | [d] => { results := [.lit (.bool false)], args := [d] }
  | _ => none }
def FnExactOrderOfCatsWrongFalsely : Prop := fnExactOrderOfCatsRow.holds Try.pinned (OpenSpec.ofChange fnExactOrderOfCatsWrong)

/-- 'laws.FnExactLastCat': WHATEVER THE INPUT: true; the input reads as it did. -/
def fnExactLastCatSpec : ChangeSpec := { name := "fnExactLastCat", fn := fun _ => fun
  | [d] => { results := [.lit (.bool true)], args := [d] }
  | _ => none }
def fnExactLastCatRow : OpenClaim := { program := "ytaejlhdbdjfccaa", sum := "996954f381aa4b672c2b504494d1c2ea65d201ec04dce2dbb69158218202f7f4", func := "loop.example/g01295/laws.FnExactLastCat", spec := "fnExactLastCat", inPlace := ["(*sync.WaitGroup).Add", "internal/race.ReleaseMerge", "internal/race.Disable", "internal/race.Enable", "internal/synctest.IsInBubble", "internal/synctest.Associate[sync.WaitGroup]", "sync.fatal", "sync/atomic.OrUint64", "sync/atomic.AddUint64", "internal/race.Read", "sync/atomic.LoadUint64", "sync/atomic.StoreUint64", "internal/synctest.Disassociate[sync.WaitGroup]", "sync.runtime_Semrelease", "(*sync.WaitGroup).Done", "(*sync.WaitGroup).Wait", "internal/race.Acquire", "internal/synctest.IsAssociated[sync.WaitGroup]", "sync/atomic.CompareAndSwapUint64", "internal/race.Write", "sync.runtime_SemacquireWaitGroup"], unfollowed := true, recurses := true, leaving := true, apart := false }
def FnExactLastCatSaid : Prop := fnExactLastCatRow.holds Try.pinned (OpenSpec.ofChange fnExactLastCatSpec)

/-- ITS FALSE NEIGHBOUR: 'it returns false'. Refute it at one input. -/
def fnExactLastCatWrong : ChangeSpec := { name := "fnExactLastCat", fn := fun _ => fun
  | [d] => { results := [.lit (.bool false)], args := [d] }
  | _ => none }
def FnExactLastCatWrongFalsely : Prop := fnExactLastCatRow.holds Try.pinned (OpenSpec.ofChange fnExactLastCatWrong)

/-- 'laws.FnExactLivesAfter': WHATEVER THE INPUT: true; the input reads as it did. -/
def fnExactLivesAfterSpec : ChangeSpec := { name := "fnExactLivesAfter", fn := fun _ => fun
  | [d1, d2] => { results := [.lit (.bool true)], args := [d1, d2] }
  | _ => none }
def fnExactLivesAfterRow : OpenClaim := { program := "ytaejlhdbdjfccaa", sum := "996954f381aa4b672c2b504494d1c2ea65d201ec04dce2dbb69158218202f7f4", func := "loop.example/g01295/laws.FnExactLivesAfter", spec := "fnExactLivesAfter", inPlace := ["(*sync.WaitGroup).Add", "internal/race.ReleaseMerge", "internal/race.Disable", "internal/race.Enable", "internal/synctest.IsInBubble", "internal/synctest.Associate[sync.WaitGroup]", "sync.fatal", "sync/atomic.OrUint64", "sync/atomic.AddUint64", "internal/race.Read", "sync/atomic.LoadUint64", "sync/atomic.StoreUint64", "internal/synctest.Disassociate[sync.WaitGroup]", "sync.runtime_Semrelease", "(*sync.WaitGroup).Done", "(*sync.WaitGroup).Wait", "internal/race.Acquire", "internal/synctest.IsAssociated[sync.WaitGroup]", "sync/atomic.CompareAndSwapUint64", "internal/race.Write", "sync.runtime_SemacquireWaitGroup"], unfollowed := true, recurses := true, leaving := true, apart := false }
def FnExactLivesAfterSaid : Prop := fnExactLivesAfterRow.holds Try.pinned (OpenSpec.ofChange fnExactLivesAfterSpec)

/-- ITS FALSE NEIGHBOUR: 'it returns false'. Refute it at one input. -/
def fnExactLivesAfterWrong : ChangeSpec := { name := "fnExactLivesAfter", fn := fun _ => fun
  | [d1, d2] => { results := [.lit (.bool false)], args := [d1, d2] }
  | _ => none }
def FnExactLivesAfterWrongFalsely : Prop := fnExactLivesAfterRow.holds Try.pinned (OpenSpec.ofChange fnExactLivesAfterWrong)

/-- 'laws.FnExactNextCounted': WHATEVER THE INPUT: true; the input reads as it did. -/
def fnExactNextCountedSpec : ChangeSpec := { name := "fnExactNextCounted", fn := fun _ => fun
  | [d1, d2] => { results := [.lit (.bool true)], args := [d1, d2] }
  | _ => none }
def fnExactNextCountedRow : OpenClaim := { program := "ytaejlhdbdjfccaa", sum := "996954f381aa4b672c2b504494d1c2ea65d201ec04dce2dbb69158218202f7f4", func := "loop.example/g01295/laws.FnExactNextCounted", spec := "fnExactNextCounted", inPlace := ["(*sync.WaitGroup).Add", "internal/race.ReleaseMerge", "internal/race.Disable", "internal/race.Enable", "internal/synctest.IsInBubble", "internal/synctest.Associate[sync.WaitGroup]", "sync.fatal", "sync/atomic.OrUint64", "sync/atomic.AddUint64", "internal/race.Read", "sync/atomic.LoadUint64", "sync/atomic.StoreUint64", "internal/synctest.Disassociate[sync.WaitGroup]", "sync.runtime_Semrelease", "(*sync.WaitGroup).Done", "(*sync.WaitGroup).Wait", "internal/race.Acquire", "internal/synctest.IsAssociated[sync.WaitGroup]", "sync/atomic.CompareAndSwapUint64", "internal/race.Write", "sync.runtime_SemacquireWaitGroup"], unfollowed := true, recurses := true, leaving := true, apart := false }
def FnExactNextCountedSaid : Prop := fnExactNextCountedRow.holds Try.pinned (OpenSpec.ofChange fnExactNextCountedSpec)

/-- ITS FALSE NEIGHBOUR: 'it returns false'. Refute it at one input. -/
def fnExactNextCountedWrong : ChangeSpec := { name := "fnExactNextCounted", fn := fun _ => fun
  | [d1, d2] => { results := [.lit (.bool false)], args := [d1, d2] }
  | _ => none }
def FnExactNextCountedWrongFalsely : Prop := fnExactNextCountedRow.holds Try.pinned (OpenSpec.ofChange fnExactNextCountedWrong)

/-- 'laws.FnExactTurnGone': WHATEVER THE INPUT: true; the input reads as it did. -/
def fnExactTurnGoneSpec : ChangeSpec := { name := "fnExactTurnGone", fn := fun _ => fun
  | [d1, d2] => { results := [.lit (.bool true)], args := [d1, d2] }
  | _ => none }
def fnExactTurnGoneRow : OpenClaim := { program := "ytaejlhdbdjfccaa", sum := "996954f381aa4b672c2b504494d1c2ea65d201ec04dce2dbb69158218202f7f4", func := "loop.example/g01295/laws.FnExactTurnGone", spec := "fnExactTurnGone", inPlace := ["(*sync.WaitGroup).Add", "internal/race.ReleaseMerge", "internal/race.Disable", "internal/race.Enable", "internal/synctest.IsInBubble", "internal/synctest.Associate[sync.WaitGroup]", "sync.fatal", "sync/atomic.OrUint64", "sync/atomic.AddUint64", "internal/race.Read", "sync/atomic.LoadUint64", "sync/atomic.StoreUint64", "internal/synctest.Disassociate[sync.WaitGroup]", "sync.runtime_Semrelease", "(*sync.WaitGroup).Done", "(*sync.WaitGroup).Wait", "internal/race.Acquire", "internal/synctest.IsAssociated[sync.WaitGroup]", "sync/atomic.CompareAndSwapUint64", "internal/race.Write", "sync.runtime_SemacquireWaitGroup"], unfollowed := true, recurses := true, leaving := true, apart := false }
def FnExactTurnGoneSaid : Prop := fnExactTurnGoneRow.holds Try.pinned (OpenSpec.ofChange fnExactTurnGoneSpec)

/-- ITS FALSE NEIGHBOUR: 'it returns false'. Refute it at one input. -/
def fnExactTurnGoneWrong : ChangeSpec := { name := "fnExactTurnGone", fn := fun _ => fun
  | [d1, d2] => { results := [.lit (.bool false)], args := [d1, d2] }
  | _ => none }
def FnExactTurnGoneWrongFalsely : Prop := fnExactTurnGoneRow.holds Try.pinned (OpenSpec.ofChange fnExactTurnGoneWrong)

/-- 'laws.FnExactLossesBy': WHATEVER THE INPUT: true; the input reads as it did. -/
def fnExactLossesBySpec : ChangeSpec := { name := "fnExactLossesBy", fn := fun _ => fun
  | [d1, d2] => { results := [.lit (.bool true)], args := [d1, d2] }
  | _ => none }
def fnExactLossesByRow : OpenClaim := { program := "ytaejlhdbdjfccaa", sum := "996954f381aa4b672c2b504494d1c2ea65d201ec04dce2dbb69158218202f7f4", func := "loop.example/g01295/laws.FnExactLossesBy", spec := "fnExactLossesBy", inPlace := ["(*sync.WaitGroup).Add", "internal/race.ReleaseMerge", "internal/race.Disable", "internal/race.Enable", "internal/synctest.IsInBubble", "internal/synctest.Associate[sync.WaitGroup]", "sync.fatal", "sync/atomic.OrUint64", "sync/atomic.AddUint64", "internal/race.Read", "sync/atomic.LoadUint64", "sync/atomic.StoreUint64", "internal/synctest.Disassociate[sync.WaitGroup]", "sync.runtime_Semrelease", "(*sync.WaitGroup).Done", "(*sync.WaitGroup).Wait", "internal/race.Acquire", "internal/synctest.IsAssociated[sync.WaitGroup]", "sync/atomic.CompareAndSwapUint64", "internal/race.Write", "sync.runtime_SemacquireWaitGroup"], unfollowed := true, recurses := true, leaving := true, apart := false }
def FnExactLossesBySaid : Prop := fnExactLossesByRow.holds Try.pinned (OpenSpec.ofChange fnExactLossesBySpec)

/-- ITS FALSE NEIGHBOUR: 'it returns false'. Refute it at one input. -/
def fnExactLossesByWrong : ChangeSpec := { name := "fnExactLossesBy", fn := fun _ => fun
  | [d1, d2] => { results := [.lit (.bool false)], args := [d1, d2] }
  | _ => none }
def FnExactLossesByWrongFalsely : Prop := fnExactLossesByRow.holds Try.pinned (OpenSpec.ofChange fnExactLossesByWrong)

/-- 'laws.FnExactGiveLife': WHATEVER THE INPUT: true; the input reads as it did. -/
def fnExactGiveLifeSpec : ChangeSpec := { name := "fnExactGiveLife", fn := fun _ => fun
  | [d1, d2, d3] => { results := [.lit (.bool true)], args := [d1, d2, d3] }
  | _ => none }
def fnExactGiveLifeRow : OpenClaim := { program := "ytaejlhdbdjfccaa", sum := "996954f381aa4b672c2b504494d1c2ea65d201ec04dce2dbb69158218202f7f4", func := "loop.example/g01295/laws.FnExactGiveLife", spec := "fnExactGiveLife", apart := false }
def FnExactGiveLifeSaid : Prop := fnExactGiveLifeRow.holds Try.pinned (OpenSpec.ofChange fnExactGiveLifeSpec)

/-- ITS FALSE NEIGHBOUR: 'it returns false'. Refute it at one input. -/
def fnExactGiveLifeWrong : ChangeSpec := { name := "fnExactGiveLife", fn := fun _ => fun
  | [d1, d2, d3] => { results := [.lit (.bool false)], args := [d1, d2, d3] }
  | _ => none }
def FnExactGiveLifeWrongFalsely : Prop := fnExactGiveLifeRow.holds Try.pinned (OpenSpec.ofChange fnExactGiveLifeWrong)

/-- 'laws.FnExactLivesToBeLeft': WHATEVER THE INPUT: true; the input reads as it did. -/
def fnExactLivesToBeLeftSpec : ChangeSpec := { name := "fnExactLivesToBeLeft", fn := fun _ => fun
  | [d1, d2] => { results := [.lit (.bool true)], args := [d1, d2] }
  | _ => none }
def fnExactLivesToBeLeftRow : OpenClaim := { program := "ytaejlhdbdjfccaa", sum := "996954f381aa4b672c2b504494d1c2ea65d201ec04dce2dbb69158218202f7f4", func := "loop.example/g01295/laws.FnExactLivesToBeLeft", spec := "fnExactLivesToBeLeft", inPlace := ["(*sync.WaitGroup).Add", "internal/race.ReleaseMerge", "internal/race.Disable", "internal/race.Enable", "internal/synctest.IsInBubble", "internal/synctest.Associate[sync.WaitGroup]", "sync.fatal", "sync/atomic.OrUint64", "sync/atomic.AddUint64", "internal/race.Read", "sync/atomic.LoadUint64", "sync/atomic.StoreUint64", "internal/synctest.Disassociate[sync.WaitGroup]", "sync.runtime_Semrelease", "(*sync.WaitGroup).Done", "(*sync.WaitGroup).Wait", "internal/race.Acquire", "internal/synctest.IsAssociated[sync.WaitGroup]", "sync/atomic.CompareAndSwapUint64", "internal/race.Write", "sync.runtime_SemacquireWaitGroup"], unfollowed := true, recurses := true, leaving := true, apart := false }
def FnExactLivesToBeLeftSaid : Prop := fnExactLivesToBeLeftRow.holds Try.pinned (OpenSpec.ofChange fnExactLivesToBeLeftSpec)

/-- ITS FALSE NEIGHBOUR: 'it returns false'. Refute it at one input. -/
def fnExactLivesToBeLeftWrong : ChangeSpec := { name := "fnExactLivesToBeLeft", fn := fun _ => fun
  | [d1, d2] => { results := [.lit (.bool false)], args := [d1, d2] }
  | _ => none }
def FnExactLivesToBeLeftWrongFalsely : Prop := fnExactLivesToBeLeftRow.holds Try.pinned (OpenSpec.ofChange fnExactLivesToBeLeftWrong)

/-- 'laws.FnExactFirstGone': WHATEVER THE INPUT: true; the input reads as it did. -/
def fnExactFirstGoneSpec : ChangeSpec := { name := "fnExactFirstGone", fn := fun _ => fun
  | [d] => { results := [.lit (.bool true)], args := [d] }
  | _ => none }
def fnExactFirstGoneRow : OpenClaim := { program := "ytaejlhdbdjfccaa", sum := "996954f381aa4b672c2b504494d1c2ea65d201ec04dce2dbb69158218202f7f4", func := "loop.example/g01295/laws.FnExactFirstGone", spec := "fnExactFirstGone", inPlace := ["(*sync.WaitGroup).Add", "internal/race.ReleaseMerge", "internal/race.Disable", "internal/race.Enable", "internal/synctest.IsInBubble", "internal/synctest.Associate[sync.WaitGroup]", "sync.fatal", "sync/atomic.OrUint64", "sync/atomic.AddUint64", "internal/race.Read", "sync/atomic.LoadUint64", "sync/atomic.StoreUint64", "internal/synctest.Disassociate[sync.WaitGroup]", "sync.runtime_Semrelease", "(*sync.WaitGroup).Done", "(*sync.WaitGroup).Wait", "internal/race.Acquire", "internal/synctest.IsAssociated[sync.WaitGroup]", "sync/atomic.CompareAndSwapUint64", "internal/race.Write", "sync.runtime_SemacquireWaitGroup"], unfollowed := true, recurses := true, leaving := true, apart := false }
def FnExactFirstGoneSaid : Prop := fnExactFirstGoneRow.holds Try.pinned (OpenSpec.ofChange fnExactFirstGoneSpec)

/-- ITS FALSE NEIGHBOUR: 'it returns false'. Refute it at one input. -/
def fnExactFirstGoneWrong : ChangeSpec := { name := "fnExactFirstGone", fn := fun _ => fun
  | [d] => { results := [.lit (.bool false)], args := [d] }
  | _ => none }
def FnExactFirstGoneWrongFalsely : Prop := fnExactFirstGoneRow.holds Try.pinned (OpenSpec.ofChange fnExactFirstGoneWrong)

/-- 'laws.FnExactSkipOrder': WHATEVER THE INPUT: true; the input reads as it did. -/
def fnExactSkipOrderSpec : ChangeSpec := { name := "fnExactSkipOrder", fn := fun _ => fun
  | [d1, d2, d3] => { results := [.lit (.bool true)], args := [d1, d2, d3] }
  | _ => none }
def fnExactSkipOrderRow : OpenClaim := { program := "ytaejlhdbdjfccaa", sum := "996954f381aa4b672c2b504494d1c2ea65d201ec04dce2dbb69158218202f7f4", func := "loop.example/g01295/laws.FnExactSkipOrder", spec := "fnExactSkipOrder", unfollowed := true, recurses := true, leaving := true, apart := false }
def FnExactSkipOrderSaid : Prop := fnExactSkipOrderRow.holds Try.pinned (OpenSpec.ofChange fnExactSkipOrderSpec)

/-- ITS FALSE NEIGHBOUR: 'it returns false'. Refute it at one input. -/
def fnExactSkipOrderWrong : ChangeSpec := { name := "fnExactSkipOrder", fn := fun _ => fun
  | [d1, d2, d3] => { results := [.lit (.bool false)], args := [d1, d2, d3] }
  | _ => none }
def FnExactSkipOrderWrongFalsely : Prop := fnExactSkipOrderRow.holds Try.pinned (OpenSpec.ofChange fnExactSkipOrderWrong)

/-- 'laws.FnExactSkipLast': WHATEVER THE INPUT: true; the input reads as it did. -/
def fnExactSkipLastSpec : ChangeSpec := { name := "fnExactSkipLast", fn := fun _ => fun
  | [d1, d2, d3] => { results := [.lit (.bool true)], args := [d1, d2, d3] }
  | _ => none }
def fnExactSkipLastRow : OpenClaim := { program := "ytaejlhdbdjfccaa", sum := "996954f381aa4b672c2b504494d1c2ea65d201ec04dce2dbb69158218202f7f4", func := "loop.example/g01295/laws.FnExactSkipLast", spec := "fnExactSkipLast", unfollowed := true, recurses := true, leaving := true, apart := false }
def FnExactSkipLastSaid : Prop := fnExactSkipLastRow.holds Try.pinned (OpenSpec.ofChange fnExactSkipLastSpec)

/-- ITS FALSE NEIGHBOUR: 'it returns false'. Refute it at one input. -/
def fnExactSkipLastWrong : ChangeSpec := { name := "fnExactSkipLast", fn := fun _ => fun
  | [d1, d2, d3] => { results := [.lit (.bool false)], args := [d1, d2, d3] }
  | _ => none }
def FnExactSkipLastWrongFalsely : Prop := fnExactSkipLastRow.holds Try.pinned (OpenSpec.ofChange fnExactSkipLastWrong)

/- THE SECOND FORM. 'bulk': how many values and letters a reading holds, each counted each time it is reached (what is shared counts as often as it is met; a slice's spare places count too). A statement '..UptoSaid' is the law's where the arguments, and the package variables that the reading takes, are together of bulk at most 1048576: NARROWER than '..Said'. Prove '..Said' where nothing that the law and all that it calls make is longer than what came in: it says more and counts as full. Else prove '..UptoSaid'. A law counts once. -/
mutual
def uptoBulk {H : Type} : DataW H → Nat
  | .lit (.string bytes) => bytes.length + 1
  | .lit _ => 1
  | .nil => 1
  | .ptr d => uptoBulk d + 1
  | .slice elems spare => uptoBulkAll elems + uptoBulkAll spare + 1
  | .agg parts => uptoBulkAll parts + 1
  | .iface _ d => uptoBulk d + 1
  | .map entries => uptoBulkEntries entries + 1
  | .held _ => 1
def uptoBulkAll {H : Type} : List (DataW H) → Nat
  | [] => 0
  | d :: r => uptoBulk d + uptoBulkAll r
def uptoBulkEntries {H : Type} : List (Lit × DataW H) → Nat
  | [] => 0
  | x :: r => uptoBulkEntry x + uptoBulkEntries r
def uptoBulkEntry {H : Type} : Lit × DataW H → Nat
  | (.string bytes, d) => bytes.length + uptoBulk d + 1
  | (_, d) => uptoBulk d + 1
 end
def uptoSmall : (H : Type) → List (DataW H) → Bool := fun _ ds => decide (uptoBulkAll ds ≤ 1048576)
def OpenSpec.upto (s : _root_.Go.ChangeSpec) : _root_.Go.OpenSpec := { _root_.Go.OpenSpec.ofChange s with cond := some uptoSmall }

/-- 'laws.FnExactAreCats', WHERE WHAT IT READS IS OF BULK AT MOST 1048576: true; the input reads as it did. -/
def fnExactAreCatsUptoRow : OpenClaim := { program := "ytaejlhdbdjfccaa", sum := "996954f381aa4b672c2b504494d1c2ea65d201ec04dce2dbb69158218202f7f4", func := "loop.example/g01295/laws.FnExactAreCats", spec := "fnExactAreCats", apart := false, narrowed := true }
def FnExactAreCatsUptoSaid : Prop := fnExactAreCatsUptoRow.holds Try.pinned (OpenSpec.upto fnExactAreCatsSpec)

/-- 'laws.FnExactEvenCats', WHERE WHAT IT READS IS OF BULK AT MOST 1048576: true; the input reads as it did. -/
def fnExactEvenCatsUptoRow : OpenClaim := { program := "ytaejlhdbdjfccaa", sum := "996954f381aa4b672c2b504494d1c2ea65d201ec04dce2dbb69158218202f7f4", func := "loop.example/g01295/laws.FnExactEvenCats", spec := "fnExactEvenCats", apart := false, narrowed := true }
def FnExactEvenCatsUptoSaid : Prop := fnExactEvenCatsUptoRow.holds Try.pinned (OpenSpec.upto fnExactEvenCatsSpec)

/-- 'laws.FnExactTurnsOfCats', WHERE WHAT IT READS IS OF BULK AT MOST 1048576: true; the input reads as it did. -/
def fnExactTurnsOfCatsUptoRow : OpenClaim := { program := "ytaejlhdbdjfccaa", sum := "996954f381aa4b672c2b504494d1c2ea65d201ec04dce2dbb69158218202f7f4", func := "loop.example/g01295/laws.FnExactTurnsOfCats", spec := "fnExactTurnsOfCats", inPlace := ["(*sync.WaitGroup).Add", "internal/race.ReleaseMerge", "internal/race.Disable", "internal/race.Enable", "internal/synctest.IsInBubble", "internal/synctest.Associate[sync.WaitGroup]", "sync.fatal", "sync/atomic.OrUint64", "sync/atomic.AddUint64", "internal/race.Read", "sync/atomic.LoadUint64", "sync/atomic.StoreUint64", "internal/synctest.Disassociate[sync.WaitGroup]", "sync.runtime_Semrelease", "(*sync.WaitGroup).Done", "(*sync.WaitGroup).Wait", "internal/race.Acquire", "internal/synctest.IsAssociated[sync.WaitGroup]", "sync/atomic.CompareAndSwapUint64", "internal/race.Write", "sync.runtime_SemacquireWaitGroup"], unfollowed := true, recurses := true, leaving := true, apart := false, narrowed := true }
def FnExactTurnsOfCatsUptoSaid : Prop := fnExactTurnsOfCatsUptoRow.holds Try.pinned (OpenSpec.upto fnExactTurnsOfCatsSpec)

/-- 'laws.FnExactLossesOf', WHERE WHAT IT READS IS OF BULK AT MOST 1048576: true; the input reads as it did. -/
def fnExactLossesOfUptoRow : OpenClaim := { program := "ytaejlhdbdjfccaa", sum := "996954f381aa4b672c2b504494d1c2ea65d201ec04dce2dbb69158218202f7f4", func := "loop.example/g01295/laws.FnExactLossesOf", spec := "fnExactLossesOf", inPlace := ["(*sync.WaitGroup).Add", "internal/race.ReleaseMerge", "internal/race.Disable", "internal/race.Enable", "internal/synctest.IsInBubble", "internal/synctest.Associate[sync.WaitGroup]", "sync.fatal", "sync/atomic.OrUint64", "sync/atomic.AddUint64", "internal/race.Read", "sync/atomic.LoadUint64", "sync/atomic.StoreUint64", "internal/synctest.Disassociate[sync.WaitGroup]", "sync.runtime_Semrelease", "(*sync.WaitGroup).Done", "(*sync.WaitGroup).Wait", "internal/race.Acquire", "internal/synctest.IsAssociated[sync.WaitGroup]", "sync/atomic.CompareAndSwapUint64", "internal/race.Write", "sync.runtime_SemacquireWaitGroup"], unfollowed := true, recurses := true, leaving := true, apart := false, narrowed := true }
def FnExactLossesOfUptoSaid : Prop := fnExactLossesOfUptoRow.holds Try.pinned (OpenSpec.upto fnExactLossesOfSpec)

/-- 'laws.FnExactOrderOfCats', WHERE WHAT IT READS IS OF BULK AT MOST 1048576: true; the input reads as it did. -/
def fnExactOrderOfCatsUptoRow : OpenClaim := { program := "ytaejlhdbdjfccaa", sum := "996954f381aa4b672c2b504494d1c2ea65d201ec04dce2dbb69158218202f7f4", func := "loop.example/g01295/laws.FnExactOrderOfCats", spec := "fnExactOrderOfCats", inPlace := ["(*sync.WaitGroup).Add", "internal/race.ReleaseMerge", "internal/race.Disable", "internal/race.Enable", "internal/synctest.IsInBubble", "internal/synctest.Associate[sync.WaitGroup]", "sync.fatal", "sync/atomic.OrUint64", "sync/atomic.AddUint64", "internal/race.Read", "sync/atomic.LoadUint64", "sync/atomic.StoreUint64", "internal/synctest.Disassociate[sync.WaitGroup]", "sync.runtime_Semrelease", "(*sync.WaitGroup).Done", "(*sync.WaitGroup).Wait", "internal/race.Acquire", "internal/synctest.IsAssociated[sync.WaitGroup]", "sync/atomic.CompareAndSwapUint64", "internal/race.Write", "sync.runtime_SemacquireWaitGroup"], unfollowed := true, recurses := true, leaving := true, apart := false, narrowed := true }
def FnExactOrderOfCatsUptoSaid : Prop := fnExactOrderOfCatsUptoRow.holds Try.pinned (OpenSpec.upto fnExactOrderOfCatsSpec)

/-- 'laws.FnExactLastCat', WHERE WHAT IT READS IS OF BULK AT MOST 1048576: true; the input reads as it did. -/
def fnExactLastCatUptoRow : OpenClaim := { program := "ytaejlhdbdjfccaa", sum := "996954f381aa4b672c2b504494d1c2ea65d201ec04dce2dbb69158218202f7f4", func := "loop.example/g01295/laws.FnExactLastCat", spec := "fnExactLastCat", inPlace := ["(*sync.WaitGroup).Add", "internal/race.ReleaseMerge", "internal/race.Disable", "internal/race.Enable", "internal/synctest.IsInBubble", "internal/synctest.Associate[sync.WaitGroup]", "sync.fatal", "sync/atomic.OrUint64", "sync/atomic.AddUint64", "internal/race.Read", "sync/atomic.LoadUint64", "sync/atomic.StoreUint64", "internal/synctest.Disassociate[sync.WaitGroup]", "sync.runtime_Semrelease", "(*sync.WaitGroup).Done", "(*sync.WaitGroup).Wait", "internal/race.Acquire", "internal/synctest.IsAssociated[sync.WaitGroup]", "sync/atomic.CompareAndSwapUint64", "internal/race.Write", "sync.runtime_SemacquireWaitGroup"], unfollowed := true, recurses := true, leaving := true, apart := false, narrowed := true }
def FnExactLastCatUptoSaid : Prop := fnExactLastCatUptoRow.holds Try.pinned (OpenSpec.upto fnExactLastCatSpec)

/-- 'laws.FnExactLivesAfter', WHERE WHAT IT READS IS OF BULK AT MOST 1048576: true; the input reads as it did. -/
def fnExactLivesAfterUptoRow : OpenClaim := { program := "ytaejlhdbdjfccaa", sum := "996954f381aa4b672c2b504494d1c2ea65d201ec04dce2dbb69158218202f7f4", func := "loop.example/g01295/laws.FnExactLivesAfter", spec := "fnExactLivesAfter", inPlace := ["(*sync.WaitGroup).Add", "internal/race.ReleaseMerge", "internal/race.Disable", "internal/race.Enable", "internal/synctest.IsInBubble", "internal/synctest.Associate[sync.WaitGroup]", "sync.fatal", "sync/atomic.OrUint64", "sync/atomic.AddUint64", "internal/race.Read", "sync/atomic.LoadUint64", "sync/atomic.StoreUint64", "internal/synctest.Disassociate[sync.WaitGroup]", "sync.runtime_Semrelease", "(*sync.WaitGroup).Done", "(*sync.WaitGroup).Wait", "internal/race.Acquire", "internal/synctest.IsAssociated[sync.WaitGroup]", "sync/atomic.CompareAndSwapUint64", "internal/race.Write", "sync.runtime_SemacquireWaitGroup"], unfollowed := true, recurses := true, leaving := true, apart := false, narrowed := true }
def FnExactLivesAfterUptoSaid : Prop := fnExactLivesAfterUptoRow.holds Try.pinned (OpenSpec.upto fnExactLivesAfterSpec)

/-- 'laws.FnExactNextCounted', WHERE WHAT IT READS IS OF BULK AT MOST 1048576: true; the input reads as it did. -/
def fnExactNextCountedUptoRow : OpenClaim := { program := "ytaejlhdbdjfccaa", sum := "996954f381aa4b672c2b504494d1c2ea65d201ec04dce2dbb69158218202f7f4", func := "loop.example/g01295/laws.FnExactNextCounted", spec := "fnExactNextCounted", inPlace := ["(*sync.WaitGroup).Add", "internal/race.ReleaseMerge", "internal/race.Disable", "internal/race.Enable", "internal/synctest.IsInBubble", "internal/synctest.Associate[sync.WaitGroup]", "sync.fatal", "sync/atomic.OrUint64", "sync/atomic.AddUint64", "internal/race.Read", "sync/atomic.LoadUint64", "sync/atomic.StoreUint64", "internal/synctest.Disassociate[sync.WaitGroup]", "sync.runtime_Semrelease", "(*sync.WaitGroup).Done", "(*sync.WaitGroup).Wait", "internal/race.Acquire", "internal/synctest.IsAssociated[sync.WaitGroup]", "sync/atomic.CompareAndSwapUint64", "internal/race.Write", "sync.runtime_SemacquireWaitGroup"], unfollowed := true, recurses := true, leaving := true, apart := false, narrowed := true }
def FnExactNextCountedUptoSaid : Prop := fnExactNextCountedUptoRow.holds Try.pinned (OpenSpec.upto fnExactNextCountedSpec)

/-- 'laws.FnExactTurnGone', WHERE WHAT IT READS IS OF BULK AT MOST 1048576: true; the input reads as it did. -/
def fnExactTurnGoneUptoRow : OpenClaim := { program := "ytaejlhdbdjfccaa", sum := "996954f381aa4b672c2b504494d1c2ea65d201ec04dce2dbb69158218202f7f4", func := "loop.example/g01295/laws.FnExactTurnGone", spec := "fnExactTurnGone", inPlace := ["(*sync.WaitGroup).Add", "internal/race.ReleaseMerge", "internal/race.Disable", "internal/race.Enable", "internal/synctest.IsInBubble", "internal/synctest.Associate[sync.WaitGroup]", "sync.fatal", "sync/atomic.OrUint64", "sync/atomic.AddUint64", "internal/race.Read", "sync/atomic.LoadUint64", "sync/atomic.StoreUint64", "internal/synctest.Disassociate[sync.WaitGroup]", "sync.runtime_Semrelease", "(*sync.WaitGroup).Done", "(*sync.WaitGroup).Wait", "internal/race.Acquire", "internal/synctest.IsAssociated[sync.WaitGroup]", "sync/atomic.CompareAndSwapUint64", "internal/race.Write", "sync.runtime_SemacquireWaitGroup"], unfollowed := true, recurses := true, leaving := true, apart := false, narrowed := true }
def FnExactTurnGoneUptoSaid : Prop := fnExactTurnGoneUptoRow.holds Try.pinned (OpenSpec.upto fnExactTurnGoneSpec)

/-- 'laws.FnExactLossesBy', WHERE WHAT IT READS IS OF BULK AT MOST 1048576: true; the input reads as it did. -/
def fnExactLossesByUptoRow : OpenClaim := { program := "ytaejlhdbdjfccaa", sum := "996954f381aa4b672c2b504494d1c2ea65d201ec04dce2dbb69158218202f7f4", func := "loop.example/g01295/laws.FnExactLossesBy", spec := "fnExactLossesBy", inPlace := ["(*sync.WaitGroup).Add", "internal/race.ReleaseMerge", "internal/race.Disable", "internal/race.Enable", "internal/synctest.IsInBubble", "internal/synctest.Associate[sync.WaitGroup]", "sync.fatal", "sync/atomic.OrUint64", "sync/atomic.AddUint64", "internal/race.Read", "sync/atomic.LoadUint64", "sync/atomic.StoreUint64", "internal/synctest.Disassociate[sync.WaitGroup]", "sync.runtime_Semrelease", "(*sync.WaitGroup).Done", "(*sync.WaitGroup).Wait", "internal/race.Acquire", "internal/synctest.IsAssociated[sync.WaitGroup]", "sync/atomic.CompareAndSwapUint64", "internal/race.Write", "sync.runtime_SemacquireWaitGroup"], unfollowed := true, recurses := true, leaving := true, apart := false, narrowed := true }
def FnExactLossesByUptoSaid : Prop := fnExactLossesByUptoRow.holds Try.pinned (OpenSpec.upto fnExactLossesBySpec)

/-- 'laws.FnExactGiveLife', WHERE WHAT IT READS IS OF BULK AT MOST 1048576: true; the input reads as it did. -/
def fnExactGiveLifeUptoRow : OpenClaim := { program := "ytaejlhdbdjfccaa", sum := "996954f381aa4b672c2b504494d1c2ea65d201ec04dce2dbb69158218202f7f4", func := "loop.example/g01295/laws.FnExactGiveLife", spec := "fnExactGiveLife", apart := false, narrowed := true }
def FnExactGiveLifeUptoSaid : Prop := fnExactGiveLifeUptoRow.holds Try.pinned (OpenSpec.upto fnExactGiveLifeSpec)

/-- 'laws.FnExactLivesToBeLeft', WHERE WHAT IT READS IS OF BULK AT MOST 1048576: true; the input reads as it did. -/
def fnExactLivesToBeLeftUptoRow : OpenClaim := { program := "ytaejlhdbdjfccaa", sum := "996954f381aa4b672c2b504494d1c2ea65d201ec04dce2dbb69158218202f7f4", func := "loop.example/g01295/laws.FnExactLivesToBeLeft", spec := "fnExactLivesToBeLeft", inPlace := ["(*sync.WaitGroup).Add", "internal/race.ReleaseMerge", "internal/race.Disable", "internal/race.Enable", "internal/synctest.IsInBubble", "internal/synctest.Associate[sync.WaitGroup]", "sync.fatal", "sync/atomic.OrUint64", "sync/atomic.AddUint64", "internal/race.Read", "sync/atomic.LoadUint64", "sync/atomic.StoreUint64", "internal/synctest.Disassociate[sync.WaitGroup]", "sync.runtime_Semrelease", "(*sync.WaitGroup).Done", "(*sync.WaitGroup).Wait", "internal/race.Acquire", "internal/synctest.IsAssociated[sync.WaitGroup]", "sync/atomic.CompareAndSwapUint64", "internal/race.Write", "sync.runtime_SemacquireWaitGroup"], unfollowed := true, recurses := true, leaving := true, apart := false, narrowed := true }
def FnExactLivesToBeLeftUptoSaid : Prop := fnExactLivesToBeLeftUptoRow.holds Try.pinned (OpenSpec.upto fnExactLivesToBeLeftSpec)

/-- 'laws.FnExactFirstGone', WHERE WHAT IT READS IS OF BULK AT MOST 1048576: true; the input reads as it did. -/
def fnExactFirstGoneUptoRow : OpenClaim := { program := "ytaejlhdbdjfccaa", sum := "996954f381aa4b672c2b504494d1c2ea65d201ec04dce2dbb69158218202f7f4", func := "loop.example/g01295/laws.FnExactFirstGone", spec := "fnExactFirstGone", inPlace := ["(*sync.WaitGroup).Add", "internal/race.ReleaseMerge", "internal/race.Disable", "internal/race.Enable", "internal/synctest.IsInBubble", "internal/synctest.Associate[sync.WaitGroup]", "sync.fatal", "sync/atomic.OrUint64", "sync/atomic.AddUint64", "internal/race.Read", "sync/atomic.LoadUint64", "sync/atomic.StoreUint64", "internal/synctest.Disassociate[sync.WaitGroup]", "sync.runtime_Semrelease", "(*sync.WaitGroup).Done", "(*sync.WaitGroup).Wait", "internal/race.Acquire", "internal/synctest.IsAssociated[sync.WaitGroup]", "sync/atomic.CompareAndSwapUint64", "internal/race.Write", "sync.runtime_SemacquireWaitGroup"], unfollowed := true, recurses := true, leaving := true, apart := false, narrowed := true }
def FnExactFirstGoneUptoSaid : Prop := fnExactFirstGoneUptoRow.holds Try.pinned (OpenSpec.upto fnExactFirstGoneSpec)

/-- 'laws.FnExactSkipOrder', WHERE WHAT IT READS IS OF BULK AT MOST 1048576: true; the input reads as it did. -/
def fnExactSkipOrderUptoRow : OpenClaim := { program := "ytaejlhdbdjfccaa", sum := "996954f381aa4b672c2b504494d1c2ea65d201ec04dce2dbb69158218202f7f4", func := "loop.example/g01295/laws.FnExactSkipOrder", spec := "fnExactSkipOrder", unfollowed := true, recurses := true, leaving := true, apart := false, narrowed := true }
def FnExactSkipOrderUptoSaid : Prop := fnExactSkipOrderUptoRow.holds Try.pinned (OpenSpec.upto fnExactSkipOrderSpec)

/-- 'laws.FnExactSkipLast', WHERE WHAT IT READS IS OF BULK AT MOST 1048576: true; the input reads as it did. -/
def fnExactSkipLastUptoRow : OpenClaim := { program := "ytaejlhdbdjfccaa", sum := "996954f381aa4b672c2b504494d1c2ea65d201ec04dce2dbb69158218202f7f4", func := "loop.example/g01295/laws.FnExactSkipLast", spec := "fnExactSkipLast", unfollowed := true, recurses := true, leaving := true, apart := false, narrowed := true }
def FnExactSkipLastUptoSaid : Prop := fnExactSkipLastUptoRow.holds Try.pinned (OpenSpec.upto fnExactSkipLastSpec)

end Rows
end Go.Proofs.Ytaejlhdbdjfccaa
