/-
  No cell of these rows narrows 'for every input' (looked for: loops, veiled, ifaces, maps, wideKeys, modest, calm, conditions, laid).
  DERIVED. THE GIVEN ROWS OF THIS SEAT. 14 by the template 'for every input the law returns true; each argument reads behind the call as it read before'; 0 by the template 'total and deterministic' (their statements: YtphjnhnochmniaaTotals.lean).
  GIVEN WITH THE SEED: the statements are not yours to turn. If you find one false, say at which input.
  Laid BY PROGRAM, IN A SANDBOX (cutbox-rows.mjs): the forced cells as the released guide's own fill.sh prints them over the translation 76f494213d2da33c… (all of the seat's roots in one cut). By AI agents, Wed Nov 11 2026. No macro, syntax, notation, axiom, sorry.
-/
import Derived.Test.YtphjnhnochmniaaChecked
import GoSem.Claim
import GoSem.ClaimJoined
import GoSem.ClaimMapViews
import Derived.JoinedTies
import Derived.KernelRfl
namespace Go.Proofs.Ytphjnhnochmniaa
/- THE CELL 'sum', in the pinned program and in every row, IS THE sha256 OF THE DUMP (.gsa) THAT YtphjnhnochmniaaProg.lean LOADS. Nothing in Lean hashes anything: it is a label: what it is worth is what the hold of that sum in a sandbox is worth. -/
noncomputable def Try.pinned : Pinned := { name := "ytphjnhnochmniaa", sum := "76f494213d2da33ca5b9c06e33a62feb07f3e6c8549dcee3741d1285ef5b1354", checked := Try.checked }
namespace Rows
def none {H : Type} : Left H := { results := [], args := [] }

/-- 'laws.FnExactDealDeck': WHATEVER THE INPUT: true; the input reads as it did. -/
def fnExactDealDeckSpec : ChangeSpec := { name := "fnExactDealDeck", fn := fun _ => fun
  | [d1, d2] => { results := [.lit (.bool true)], args := [d1, d2] }
  | _ => none }
def fnExactDealDeckRow : OpenClaim := { program := "ytphjnhnochmniaa", sum := "76f494213d2da33ca5b9c06e33a62feb07f3e6c8549dcee3741d1285ef5b1354", func := "loop.example/g01295/laws.FnExactDealDeck", spec := "fnExactDealDeck", apart := false }
def FnExactDealDeckSaid : Prop := fnExactDealDeckRow.holds Try.pinned (OpenSpec.ofChange fnExactDealDeckSpec)

/-- ITS FALSE NEIGHBOUR: 'it returns false'. Refute it at one input. -/
def fnExactDealDeckWrong : ChangeSpec := { name := "fnExactDealDeck", fn := fun _ => fun
  | [d1, d2] => { results := [.lit (.bool false)], args := [d1, d2] }
  | _ => none }
def FnExactDealDeckWrongFalsely : Prop := fnExactDealDeckRow.holds Try.pinned (OpenSpec.ofChange fnExactDealDeckWrong)

/-- 'laws.FnExactDeckFor': WHATEVER THE INPUT: true; the input reads as it did. -/
def fnExactDeckForSpec : ChangeSpec := { name := "fnExactDeckFor", fn := fun _ => fun
  | [d1, d2] => { results := [.lit (.bool true)], args := [d1, d2] }
  | _ => none }
def fnExactDeckForRow : OpenClaim := { program := "ytphjnhnochmniaa", sum := "76f494213d2da33ca5b9c06e33a62feb07f3e6c8549dcee3741d1285ef5b1354", func := "loop.example/g01295/laws.FnExactDeckFor", spec := "fnExactDeckFor", apart := false }
def FnExactDeckForSaid : Prop := fnExactDeckForRow.holds Try.pinned (OpenSpec.ofChange fnExactDeckForSpec)

/-- ITS FALSE NEIGHBOUR: 'it returns false'. Refute it at one input. -/
def fnExactDeckForWrong : ChangeSpec := { name := "fnExactDeckFor", fn := fun _ => fun
  | [d1, d2] => { results := [.lit (.bool false)], args := [d1, d2] }
  | _ => none }
def FnExactDeckForWrongFalsely : Prop := fnExactDeckForRow.holds Try.pinned (OpenSpec.ofChange fnExactDeckForWrong)

/-- 'laws.FnExactDealFirst': WHATEVER THE INPUT: true; the input reads as it did. -/
def fnExactDealFirstSpec : ChangeSpec := { name := "fnExactDealFirst", fn := fun _ => fun
  | [d1, d2] => { results := [.lit (.bool true)], args := [d1, d2] }
  | _ => none }
def fnExactDealFirstRow : OpenClaim := { program := "ytphjnhnochmniaa", sum := "76f494213d2da33ca5b9c06e33a62feb07f3e6c8549dcee3741d1285ef5b1354", func := "loop.example/g01295/laws.FnExactDealFirst", spec := "fnExactDealFirst", apart := false }
def FnExactDealFirstSaid : Prop := fnExactDealFirstRow.holds Try.pinned (OpenSpec.ofChange fnExactDealFirstSpec)

/-- ITS FALSE NEIGHBOUR: 'it returns false'. Refute it at one input. -/
def fnExactDealFirstWrong : ChangeSpec := { name := "fnExactDealFirst", fn := fun _ => fun
  | [d1, d2] => { results := [.lit (.bool false)], args := [d1, d2] }
  | _ => none }
def FnExactDealFirstWrongFalsely : Prop := fnExactDealFirstRow.holds Try.pinned (OpenSpec.ofChange fnExactDealFirstWrong)

/-- 'laws.FnExactDealCounts': WHATEVER THE INPUT: true; the input reads as it did. -/
def fnExactDealCountsSpec : ChangeSpec := { name := "fnExactDealCounts", fn := fun _ => fun
  | [d1, d2] => { results := [.lit (.bool true)], args := [d1, d2] }
  | _ => none }
def fnExactDealCountsRow : OpenClaim := { program := "ytphjnhnochmniaa", sum := "76f494213d2da33ca5b9c06e33a62feb07f3e6c8549dcee3741d1285ef5b1354", func := "loop.example/g01295/laws.FnExactDealCounts", spec := "fnExactDealCounts", apart := false }
def FnExactDealCountsSaid : Prop := fnExactDealCountsRow.holds Try.pinned (OpenSpec.ofChange fnExactDealCountsSpec)

/-- ITS FALSE NEIGHBOUR: 'it returns false'. Refute it at one input. -/
def fnExactDealCountsWrong : ChangeSpec := { name := "fnExactDealCounts", fn := fun _ => fun
  | [d1, d2] => { results := [.lit (.bool false)], args := [d1, d2] }
  | _ => none }
def FnExactDealCountsWrongFalsely : Prop := fnExactDealCountsRow.holds Try.pinned (OpenSpec.ofChange fnExactDealCountsWrong)

/-- 'laws.FnExactDeckForCounts': WHATEVER THE INPUT: true; the input reads as it did. -/
def fnExactDeckForCountsSpec : ChangeSpec := { name := "fnExactDeckForCounts", fn := fun _ => fun
  | [d1, d2] => { results := [.lit (.bool true)], args := [d1, d2] }
  | _ => none }
def fnExactDeckForCountsRow : OpenClaim := { program := "ytphjnhnochmniaa", sum := "76f494213d2da33ca5b9c06e33a62feb07f3e6c8549dcee3741d1285ef5b1354", func := "loop.example/g01295/laws.FnExactDeckForCounts", spec := "fnExactDeckForCounts", apart := false }
def FnExactDeckForCountsSaid : Prop := fnExactDeckForCountsRow.holds Try.pinned (OpenSpec.ofChange fnExactDeckForCountsSpec)

/-- ITS FALSE NEIGHBOUR: 'it returns false'. Refute it at one input. -/
def fnExactDeckForCountsWrong : ChangeSpec := { name := "fnExactDeckForCounts", fn := fun _ => fun
  | [d1, d2] => { results := [.lit (.bool false)], args := [d1, d2] }
  | _ => none }
def FnExactDeckForCountsWrongFalsely : Prop := fnExactDeckForCountsRow.holds Try.pinned (OpenSpec.ofChange fnExactDeckForCountsWrong)

/-- 'laws.FnExactDealTimes': WHATEVER THE INPUT: true; the input reads as it did. -/
def fnExactDealTimesSpec : ChangeSpec := { name := "fnExactDealTimes", fn := fun _ => fun
  | [d1, d2, d3] => { results := [.lit (.bool true)], args := [d1, d2, d3] }
  | _ => none }
def fnExactDealTimesRow : OpenClaim := { program := "ytphjnhnochmniaa", sum := "76f494213d2da33ca5b9c06e33a62feb07f3e6c8549dcee3741d1285ef5b1354", func := "loop.example/g01295/laws.FnExactDealTimes", spec := "fnExactDealTimes", apart := false }
def FnExactDealTimesSaid : Prop := fnExactDealTimesRow.holds Try.pinned (OpenSpec.ofChange fnExactDealTimesSpec)

/-- ITS FALSE NEIGHBOUR: 'it returns false'. Refute it at one input. -/
def fnExactDealTimesWrong : ChangeSpec := { name := "fnExactDealTimes", fn := fun _ => fun
  | [d1, d2, d3] => { results := [.lit (.bool false)], args := [d1, d2, d3] }
  | _ => none }
def FnExactDealTimesWrongFalsely : Prop := fnExactDealTimesRow.holds Try.pinned (OpenSpec.ofChange fnExactDealTimesWrong)

/-- 'laws.FnExactDealsToReturn': WHATEVER THE INPUT: true; the input reads as it did. -/
def fnExactDealsToReturnSpec : ChangeSpec := { name := "fnExactDealsToReturn", fn := fun _ => fun
  | [d1, d2] => { results := [.lit (.bool true)], args := [d1, d2] }
  | _ => none }
def fnExactDealsToReturnRow : OpenClaim := { program := "ytphjnhnochmniaa", sum := "76f494213d2da33ca5b9c06e33a62feb07f3e6c8549dcee3741d1285ef5b1354", func := "loop.example/g01295/laws.FnExactDealsToReturn", spec := "fnExactDealsToReturn", apart := false }
def FnExactDealsToReturnSaid : Prop := fnExactDealsToReturnRow.holds Try.pinned (OpenSpec.ofChange fnExactDealsToReturnSpec)

/-- ITS FALSE NEIGHBOUR: 'it returns false'. Refute it at one input. -/
def fnExactDealsToReturnWrong : ChangeSpec := { name := "fnExactDealsToReturn", fn := fun _ => fun
  | [d1, d2] => { results := [.lit (.bool false)], args := [d1, d2] }
  | _ => none }
def FnExactDealsToReturnWrongFalsely : Prop := fnExactDealsToReturnRow.holds Try.pinned (OpenSpec.ofChange fnExactDealsToReturnWrong)

/-- 'laws.FnExactLastDealt': WHATEVER THE INPUT: true; the input reads as it did. -/
def fnExactLastDealtSpec : ChangeSpec := { name := "fnExactLastDealt", fn := fun _ => fun
  | [d1, d2] => { results := [.lit (.bool true)], args := [d1, d2] }
  | _ => none }
def fnExactLastDealtRow : OpenClaim := { program := "ytphjnhnochmniaa", sum := "76f494213d2da33ca5b9c06e33a62feb07f3e6c8549dcee3741d1285ef5b1354", func := "loop.example/g01295/laws.FnExactLastDealt", spec := "fnExactLastDealt", apart := false }
def FnExactLastDealtSaid : Prop := fnExactLastDealtRow.holds Try.pinned (OpenSpec.ofChange fnExactLastDealtSpec)

/-- ITS FALSE NEIGHBOUR: 'it returns false'. Refute it at one input. -/
def fnExactLastDealtWrong : ChangeSpec := { name := "fnExactLastDealt", fn := fun _ => fun
  | [d1, d2] => { results := [.lit (.bool false)], args := [d1, d2] }
  | _ => none }
def FnExactLastDealtWrongFalsely : Prop := fnExactLastDealtRow.holds Try.pinned (OpenSpec.ofChange fnExactLastDealtWrong)

/-- 'laws.FnExactCutDeck': WHATEVER THE INPUT: true; the input reads as it did. -/
def fnExactCutDeckSpec : ChangeSpec := { name := "fnExactCutDeck", fn := fun _ => fun
  | [d1, d2] => { results := [.lit (.bool true)], args := [d1, d2] }
  | _ => none }
def fnExactCutDeckRow : OpenClaim := { program := "ytphjnhnochmniaa", sum := "76f494213d2da33ca5b9c06e33a62feb07f3e6c8549dcee3741d1285ef5b1354", func := "loop.example/g01295/laws.FnExactCutDeck", spec := "fnExactCutDeck", apart := false }
def FnExactCutDeckSaid : Prop := fnExactCutDeckRow.holds Try.pinned (OpenSpec.ofChange fnExactCutDeckSpec)

/-- ITS FALSE NEIGHBOUR: 'it returns false'. Refute it at one input. -/
def fnExactCutDeckWrong : ChangeSpec := { name := "fnExactCutDeck", fn := fun _ => fun
  | [d1, d2] => { results := [.lit (.bool false)], args := [d1, d2] }
  | _ => none }
def FnExactCutDeckWrongFalsely : Prop := fnExactCutDeckRow.holds Try.pinned (OpenSpec.ofChange fnExactCutDeckWrong)

/-- 'laws.FnExactBackDeck': WHATEVER THE INPUT: true; the input reads as it did. -/
def fnExactBackDeckSpec : ChangeSpec := { name := "fnExactBackDeck", fn := fun _ => fun
  | [d] => { results := [.lit (.bool true)], args := [d] }
  | _ => none }
def fnExactBackDeckRow : OpenClaim := { program := "ytphjnhnochmniaa", sum := "76f494213d2da33ca5b9c06e33a62feb07f3e6c8549dcee3741d1285ef5b1354", func := "loop.example/g01295/laws.FnExactBackDeck", spec := "fnExactBackDeck", apart := false }
def FnExactBackDeckSaid : Prop := fnExactBackDeckRow.holds Try.pinned (OpenSpec.ofChange fnExactBackDeckSpec)

/-- ITS FALSE NEIGHBOUR: 'it returns false'. Refute it at one input. -/
def fnExactBackDeckWrong : ChangeSpec := { name := "fnExactBackDeck", fn := fun _ => fun
  | [d] => { results := [.lit (.bool false)], args := [d] }
  | _ => none }
def FnExactBackDeckWrongFalsely : Prop := fnExactBackDeckRow.holds Try.pinned (OpenSpec.ofChange fnExactBackDeckWrong)

/-- 'laws.FnExactMilkDeck': WHATEVER THE INPUT: true; the input reads as it did. -/
def fnExactMilkDeckSpec : ChangeSpec := { name := "fnExactMilkDeck", fn := fun _ => fun
  | [d] => { results := [.lit (.bool true)], args := [d] }
  | _ => none }
def fnExactMilkDeckRow : OpenClaim := { program := "ytphjnhnochmniaa", sum := "76f494213d2da33ca5b9c06e33a62feb07f3e6c8549dcee3741d1285ef5b1354", func := "loop.example/g01295/laws.FnExactMilkDeck", spec := "fnExactMilkDeck", apart := false }
def FnExactMilkDeckSaid : Prop := fnExactMilkDeckRow.holds Try.pinned (OpenSpec.ofChange fnExactMilkDeckSpec)

/-- ITS FALSE NEIGHBOUR: 'it returns false'. Refute it at one input. -/
def fnExactMilkDeckWrong : ChangeSpec := { name := "fnExactMilkDeck", fn := fun _ => fun
  | [d] => { results := [.lit (.bool false)], args := [d] }
  | _ => none }
def FnExactMilkDeckWrongFalsely : Prop := fnExactMilkDeckRow.holds Try.pinned (OpenSpec.ofChange fnExactMilkDeckWrong)

/-- 'laws.FnExactMongeDeck': WHATEVER THE INPUT: true; the input reads as it did. -/
def fnExactMongeDeckSpec : ChangeSpec := { name := "fnExactMongeDeck", fn := fun _ => fun
  | [d] => { results := [.lit (.bool true)], args := [d] }
  | _ => none }
def fnExactMongeDeckRow : OpenClaim := { program := "ytphjnhnochmniaa", sum := "76f494213d2da33ca5b9c06e33a62feb07f3e6c8549dcee3741d1285ef5b1354", func := "loop.example/g01295/laws.FnExactMongeDeck", spec := "fnExactMongeDeck", apart := false }
def FnExactMongeDeckSaid : Prop := fnExactMongeDeckRow.holds Try.pinned (OpenSpec.ofChange fnExactMongeDeckSpec)

/-- ITS FALSE NEIGHBOUR: 'it returns false'. Refute it at one input. -/
def fnExactMongeDeckWrong : ChangeSpec := { name := "fnExactMongeDeck", fn := fun _ => fun
  | [d] => { results := [.lit (.bool false)], args := [d] }
  | _ => none }
def FnExactMongeDeckWrongFalsely : Prop := fnExactMongeDeckRow.holds Try.pinned (OpenSpec.ofChange fnExactMongeDeckWrong)

/-- 'laws.FnExactShufflesToReturn': WHATEVER THE INPUT: true; the input reads as it did. -/
def fnExactShufflesToReturnSpec : ChangeSpec := { name := "fnExactShufflesToReturn", fn := fun _ => fun
  | [d1, d2] => { results := [.lit (.bool true)], args := [d1, d2] }
  | _ => none }
def fnExactShufflesToReturnRow : OpenClaim := { program := "ytphjnhnochmniaa", sum := "76f494213d2da33ca5b9c06e33a62feb07f3e6c8549dcee3741d1285ef5b1354", func := "loop.example/g01295/laws.FnExactShufflesToReturn", spec := "fnExactShufflesToReturn", apart := false }
def FnExactShufflesToReturnSaid : Prop := fnExactShufflesToReturnRow.holds Try.pinned (OpenSpec.ofChange fnExactShufflesToReturnSpec)

/-- ITS FALSE NEIGHBOUR: 'it returns false'. Refute it at one input. -/
def fnExactShufflesToReturnWrong : ChangeSpec := { name := "fnExactShufflesToReturn", fn := fun _ => fun
  | [d1, d2] => { results := [.lit (.bool false)], args := [d1, d2] }
  | _ => none }
def FnExactShufflesToReturnWrongFalsely : Prop := fnExactShufflesToReturnRow.holds Try.pinned (OpenSpec.ofChange fnExactShufflesToReturnWrong)

/-- 'laws.FnExactIsDeck': WHATEVER THE INPUT: true; the input reads as it did. -/
def fnExactIsDeckSpec : ChangeSpec := { name := "fnExactIsDeck", fn := fun _ => fun
  | [d] => { results := [.lit (.bool true)], args := [d] }
  | _ => none }
def fnExactIsDeckRow : OpenClaim := { program := "ytphjnhnochmniaa", sum := "76f494213d2da33ca5b9c06e33a62feb07f3e6c8549dcee3741d1285ef5b1354", func := "loop.example/g01295/laws.FnExactIsDeck", spec := "fnExactIsDeck", apart := false }
def FnExactIsDeckSaid : Prop := fnExactIsDeckRow.holds Try.pinned (OpenSpec.ofChange fnExactIsDeckSpec)

/-- ITS FALSE NEIGHBOUR: 'it returns false'. Refute it at one input. -/
def fnExactIsDeckWrong : ChangeSpec := { name := "fnExactIsDeck", fn := fun _ => fun
  | [d] => { results := [.lit (.bool false)], args := [d] }
  | _ => none }
def FnExactIsDeckWrongFalsely : Prop := fnExactIsDeckRow.holds Try.pinned (OpenSpec.ofChange fnExactIsDeckWrong)

/- THE SECOND FORM. 'bulk': how many values and letters a reading holds, each counted each time it is reached (what is shared counts as often as it is met; a slice's spare places count too). A statement '..UptoSaid' is the law's where the arguments, and the package variables that the reading takes, are together of bulk at most 1048576: NARROWER than '..Said'. Prove '..Said' where nothing that the law and all that it calls make is longer than what came in: it says more and counts as full. Else prove '..UptoSaid'. A law counts once. -/
mutual
def uptoBulk {H : Type} : DataW H → Nat
  | .lit (.string bytes) => bytes.length + 1
  | .lit _ => 1
  | .nil => 1
  | .ptr d => uptoBulk d + 1
  | .slice elems spare => uptoBulkAll elems + uptoBulkAll spare + 1
  | .agg parts => uptoBulkAll parts + 1
  | .iface _ d => uptoBulk d + 1
  | .map entries => uptoBulkEntries entries + 1
  | .held _ => 1
def uptoBulkAll {H : Type} : List (DataW H) → Nat
  | [] => 0
  | d :: r => uptoBulk d + uptoBulkAll r
def uptoBulkEntries {H : Type} : List (Lit × DataW H) → Nat
  | [] => 0
  | x :: r => uptoBulkEntry x + uptoBulkEntries r
def uptoBulkEntry {H : Type} : Lit × DataW H → Nat
  | (.string bytes, d) => bytes.length + uptoBulk d + 1
  | (_, d) => uptoBulk d + 1
 end
def uptoSmall : (H : Type) → List (DataW H) → Bool := fun _ ds => decide (uptoBulkAll ds ≤ 1048576)
def OpenSpec.upto (s : _root_.Go.ChangeSpec) : _root_.Go.OpenSpec := { _root_.Go.OpenSpec.ofChange s with cond := some uptoSmall }

/-- 'laws.FnExactDealDeck', WHERE WHAT IT READS IS OF BULK AT MOST 1048576: true; the input reads as it did. -/
def fnExactDealDeckUptoRow : OpenClaim := { program := "ytphjnhnochmniaa", sum := "76f494213d2da33ca5b9c06e33a62feb07f3e6c8549dcee3741d1285ef5b1354", func := "loop.example/g01295/laws.FnExactDealDeck", spec := "fnExactDealDeck", apart := false, narrowed := true }
def FnExactDealDeckUptoSaid : Prop := fnExactDealDeckUptoRow.holds Try.pinned (OpenSpec.upto fnExactDealDeckSpec)

/-- 'laws.FnExactDeckFor', WHERE WHAT IT READS IS OF BULK AT MOST 1048576: true; the input reads as it did. -/
def fnExactDeckForUptoRow : OpenClaim := { program := "ytphjnhnochmniaa", sum := "76f494213d2da33ca5b9c06e33a62feb07f3e6c8549dcee3741d1285ef5b1354", func := "loop.example/g01295/laws.FnExactDeckFor", spec := "fnExactDeckFor", apart := false, narrowed := true }
def FnExactDeckForUptoSaid : Prop := fnExactDeckForUptoRow.holds Try.pinned (OpenSpec.upto fnExactDeckForSpec)

/-- 'laws.FnExactDealFirst', WHERE WHAT IT READS IS OF BULK AT MOST 1048576: true; the input reads as it did. -/
def fnExactDealFirstUptoRow : OpenClaim := { program := "ytphjnhnochmniaa", sum := "76f494213d2da33ca5b9c06e33a62feb07f3e6c8549dcee3741d1285ef5b1354", func := "loop.example/g01295/laws.FnExactDealFirst", spec := "fnExactDealFirst", apart := false, narrowed := true }
def FnExactDealFirstUptoSaid : Prop := fnExactDealFirstUptoRow.holds Try.pinned (OpenSpec.upto fnExactDealFirstSpec)

/-- 'laws.FnExactDealCounts', WHERE WHAT IT READS IS OF BULK AT MOST 1048576: true; the input reads as it did. -/
def fnExactDealCountsUptoRow : OpenClaim := { program := "ytphjnhnochmniaa", sum := "76f494213d2da33ca5b9c06e33a62feb07f3e6c8549dcee3741d1285ef5b1354", func := "loop.example/g01295/laws.FnExactDealCounts", spec := "fnExactDealCounts", apart := false, narrowed := true }
def FnExactDealCountsUptoSaid : Prop := fnExactDealCountsUptoRow.holds Try.pinned (OpenSpec.upto fnExactDealCountsSpec)

/-- 'laws.FnExactDeckForCounts', WHERE WHAT IT READS IS OF BULK AT MOST 1048576: true; the input reads as it did. -/
def fnExactDeckForCountsUptoRow : OpenClaim := { program := "ytphjnhnochmniaa", sum := "76f494213d2da33ca5b9c06e33a62feb07f3e6c8549dcee3741d1285ef5b1354", func := "loop.example/g01295/laws.FnExactDeckForCounts", spec := "fnExactDeckForCounts", apart := false, narrowed := true }
def FnExactDeckForCountsUptoSaid : Prop := fnExactDeckForCountsUptoRow.holds Try.pinned (OpenSpec.upto fnExactDeckForCountsSpec)

/-- 'laws.FnExactDealTimes', WHERE WHAT IT READS IS OF BULK AT MOST 1048576: true; the input reads as it did. -/
def fnExactDealTimesUptoRow : OpenClaim := { program := "ytphjnhnochmniaa", sum := "76f494213d2da33ca5b9c06e33a62feb07f3e6c8549dcee3741d1285ef5b1354", func := "loop.example/g01295/laws.FnExactDealTimes", spec := "fnExactDealTimes", apart := false, narrowed := true }
def FnExactDealTimesUptoSaid : Prop := fnExactDealTimesUptoRow.holds Try.pinned (OpenSpec.upto fnExactDealTimesSpec)

/-- 'laws.FnExactDealsToReturn', WHERE WHAT IT READS IS OF BULK AT MOST 1048576: true; the input reads as it did. -/
def fnExactDealsToReturnUptoRow : OpenClaim := { program := "ytphjnhnochmniaa", sum := "76f494213d2da33ca5b9c06e33a62feb07f3e6c8549dcee3741d1285ef5b1354", func := "loop.example/g01295/laws.FnExactDealsToReturn", spec := "fnExactDealsToReturn", apart := false, narrowed := true }
def FnExactDealsToReturnUptoSaid : Prop := fnExactDealsToReturnUptoRow.holds Try.pinned (OpenSpec.upto fnExactDealsToReturnSpec)

/-- 'laws.FnExactLastDealt', WHERE WHAT IT READS IS OF BULK AT MOST 1048576: true; the input reads as it did. -/
def fnExactLastDealtUptoRow : OpenClaim := { program := "ytphjnhnochmniaa", sum := "76f494213d2da33ca5b9c06e33a62feb07f3e6c8549dcee3741d1285ef5b1354", func := "loop.example/g01295/laws.FnExactLastDealt", spec := "fnExactLastDealt", apart := false, narrowed := true }
def FnExactLastDealtUptoSaid : Prop := fnExactLastDealtUptoRow.holds Try.pinned (OpenSpec.upto fnExactLastDealtSpec)

/-- 'laws.FnExactCutDeck', WHERE WHAT IT READS IS OF BULK AT MOST 1048576: true; the input reads as it did. -/
def fnExactCutDeckUptoRow : OpenClaim := { program := "ytphjnhnochmniaa", sum := "76f494213d2da33ca5b9c06e33a62feb07f3e6c8549dcee3741d1285ef5b1354", func := "loop.example/g01295/laws.FnExactCutDeck", spec := "fnExactCutDeck", apart := false, narrowed := true }
def FnExactCutDeckUptoSaid : Prop := fnExactCutDeckUptoRow.holds Try.pinned (OpenSpec.upto fnExactCutDeckSpec)

/-- 'laws.FnExactBackDeck', WHERE WHAT IT READS IS OF BULK AT MOST 1048576: true; the input reads as it did. -/
def fnExactBackDeckUptoRow : OpenClaim := { program := "ytphjnhnochmniaa", sum := "76f494213d2da33ca5b9c06e33a62feb07f3e6c8549dcee3741d1285ef5b1354", func := "loop.example/g01295/laws.FnExactBackDeck", spec := "fnExactBackDeck", apart := false, narrowed := true }
def FnExactBackDeckUptoSaid : Prop := fnExactBackDeckUptoRow.holds Try.pinned (OpenSpec.upto fnExactBackDeckSpec)

/-- 'laws.FnExactMilkDeck', WHERE WHAT IT READS IS OF BULK AT MOST 1048576: true; the input reads as it did. -/
def fnExactMilkDeckUptoRow : OpenClaim := { program := "ytphjnhnochmniaa", sum := "76f494213d2da33ca5b9c06e33a62feb07f3e6c8549dcee3741d1285ef5b1354", func := "loop.example/g01295/laws.FnExactMilkDeck", spec := "fnExactMilkDeck", apart := false, narrowed := true }
def FnExactMilkDeckUptoSaid : Prop := fnExactMilkDeckUptoRow.holds Try.pinned (OpenSpec.upto fnExactMilkDeckSpec)

/-- 'laws.FnExactMongeDeck', WHERE WHAT IT READS IS OF BULK AT MOST 1048576: true; the input reads as it did. -/
def fnExactMongeDeckUptoRow : OpenClaim := { program := "ytphjnhnochmniaa", sum := "76f494213d2da33ca5b9c06e33a62feb07f3e6c8549dcee3741d1285ef5b1354", func := "loop.example/g01295/laws.FnExactMongeDeck", spec := "fnExactMongeDeck", apart := false, narrowed := true }
def FnExactMongeDeckUptoSaid : Prop := fnExactMongeDeckUptoRow.holds Try.pinned (OpenSpec.upto fnExactMongeDeckSpec)

/-- 'laws.FnExactShufflesToReturn', WHERE WHAT IT READS IS OF BULK AT MOST 1048576: true; the input reads as it did. -/
def fnExactShufflesToReturnUptoRow : OpenClaim := { program := "ytphjnhnochmniaa", sum := "76f494213d2da33ca5b9c06e33a62feb07f3e6c8549dcee3741d1285ef5b1354", func := "loop.example/g01295/laws.FnExactShufflesToReturn", spec := "fnExactShufflesToReturn", apart := false, narrowed := true }
def FnExactShufflesToReturnUptoSaid : Prop := fnExactShufflesToReturnUptoRow.holds Try.pinned (OpenSpec.upto fnExactShufflesToReturnSpec)

/-- 'laws.FnExactIsDeck', WHERE WHAT IT READS IS OF BULK AT MOST 1048576: true; the input reads as it did. -/
def fnExactIsDeckUptoRow : OpenClaim := { program := "ytphjnhnochmniaa", sum := "76f494213d2da33ca5b9c06e33a62feb07f3e6c8549dcee3741d1285ef5b1354", func := "loop.example/g01295/laws.FnExactIsDeck", spec := "fnExactIsDeck", apart := false, narrowed := true }
def FnExactIsDeckUptoSaid : Prop := fnExactIsDeckUptoRow.holds Try.pinned (OpenSpec.upto fnExactIsDeckSpec)

end Rows
end Go.Proofs.Ytphjnhnochmniaa
