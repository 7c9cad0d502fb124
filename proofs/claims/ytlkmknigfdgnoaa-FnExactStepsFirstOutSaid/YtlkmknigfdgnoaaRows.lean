/-
  No cell of these rows narrows 'for every input' (looked for: loops, veiled, ifaces, maps, wideKeys, modest, calm, conditions, laid).
  DERIVED. THE GIVEN ROWS OF THIS SEAT. 12 by the template 'for every input the law returns true; each argument reads behind the call as it read before'; 0 by the template 'total and deterministic' (their statements: YtlkmknigfdgnoaaTotals.lean).
  GIVEN WITH THE SEED: the statements are not yours to turn. If you find one false, say at which input.
  Laid BY PROGRAM, IN A SANDBOX (cutbox-rows.mjs): the forced cells as the released guide's own fill.sh prints them over the translation c737a1aab831e780… (all of the seat's roots in one cut). By AI agents, Wed Nov 11 2026. No macro, syntax, notation, axiom, sorry.
-/
import Derived.Test.YtlkmknigfdgnoaaChecked
import GoSem.Claim
import GoSem.ClaimJoined
import GoSem.ClaimMapViews
import Derived.JoinedTies
import Derived.KernelRfl
namespace Go.Proofs.Ytlkmknigfdgnoaa
/- THE CELL 'sum', in the pinned program and in every row, IS THE sha256 OF THE DUMP (.gsa) THAT YtlkmknigfdgnoaaProg.lean LOADS. Nothing in Lean hashes anything: it is a label: what it is worth is what the hold of that sum in a sandbox is worth. -/
noncomputable def Try.pinned : Pinned := { name := "ytlkmknigfdgnoaa", sum := "c737a1aab831e7800eb752e2feba55f3ea6975876445208ab6641abb5cac6407", checked := Try.checked }
namespace Rows
def none {H : Type} : Left H := { results := [], args := [] }

/-- 'laws.FnExactPeriodOfSteps': WHATEVER THE INPUT: true; the input reads as it did. -/
def fnExactPeriodOfStepsSpec : ChangeSpec := { name := "fnExactPeriodOfSteps", fn := fun _ => fun
  | [d] => { results := [.lit (.bool true)], args := [d] }
  | _ => none }
def fnExactPeriodOfStepsRow : OpenClaim := { program := "ytlkmknigfdgnoaa", sum := "c737a1aab831e7800eb752e2feba55f3ea6975876445208ab6641abb5cac6407", func := "loop.example/g01295/laws.FnExactPeriodOfSteps", spec := "fnExactPeriodOfSteps", apart := false }
def FnExactPeriodOfStepsSaid : Prop := fnExactPeriodOfStepsRow.holds Try.pinned (OpenSpec.ofChange fnExactPeriodOfStepsSpec)

/-- ITS FALSE NEIGHBOUR: 'it returns false'. Refute it at one input. -/
def fnExactPeriodOfStepsWrong : ChangeSpec := { name := "fnExactPeriodOfSteps", fn := fun _ => fun
  | [d] => { results := [.lit (.bool false)], args := [d] }
  | _ => none }
def FnExactPeriodOfStepsWrongFalsely : Prop := fnExactPeriodOfStepsRow.holds Try.pinned (OpenSpec.ofChange fnExactPeriodOfStepsWrong)

/-- 'laws.FnExactLastTable': WHATEVER THE INPUT: true; the input reads as it did. -/
def fnExactLastTableSpec : ChangeSpec := { name := "fnExactLastTable", fn := fun _ => fun
  | [d1, d2] => { results := [.lit (.bool true)], args := [d1, d2] }
  | _ => none }
def fnExactLastTableRow : OpenClaim := { program := "ytlkmknigfdgnoaa", sum := "c737a1aab831e7800eb752e2feba55f3ea6975876445208ab6641abb5cac6407", func := "loop.example/g01295/laws.FnExactLastTable", spec := "fnExactLastTable", apart := false }
def FnExactLastTableSaid : Prop := fnExactLastTableRow.holds Try.pinned (OpenSpec.ofChange fnExactLastTableSpec)

/-- ITS FALSE NEIGHBOUR: 'it returns false'. Refute it at one input. -/
def fnExactLastTableWrong : ChangeSpec := { name := "fnExactLastTable", fn := fun _ => fun
  | [d1, d2] => { results := [.lit (.bool false)], args := [d1, d2] }
  | _ => none }
def FnExactLastTableWrongFalsely : Prop := fnExactLastTableRow.holds Try.pinned (OpenSpec.ofChange fnExactLastTableWrong)

/-- 'laws.FnExactStepForLast': WHATEVER THE INPUT: true; the input reads as it did. -/
def fnExactStepForLastSpec : ChangeSpec := { name := "fnExactStepForLast", fn := fun _ => fun
  | [d1, d2] => { results := [.lit (.bool true)], args := [d1, d2] }
  | _ => none }
def fnExactStepForLastRow : OpenClaim := { program := "ytlkmknigfdgnoaa", sum := "c737a1aab831e7800eb752e2feba55f3ea6975876445208ab6641abb5cac6407", func := "loop.example/g01295/laws.FnExactStepForLast", spec := "fnExactStepForLast", apart := false }
def FnExactStepForLastSaid : Prop := fnExactStepForLastRow.holds Try.pinned (OpenSpec.ofChange fnExactStepForLastSpec)

/-- ITS FALSE NEIGHBOUR: 'it returns false'. Refute it at one input. -/
def fnExactStepForLastWrong : ChangeSpec := { name := "fnExactStepForLast", fn := fun _ => fun
  | [d1, d2] => { results := [.lit (.bool false)], args := [d1, d2] }
  | _ => none }
def FnExactStepForLastWrongFalsely : Prop := fnExactStepForLastRow.holds Try.pinned (OpenSpec.ofChange fnExactStepForLastWrong)

/-- 'laws.FnExactCountForLast': WHATEVER THE INPUT: true; the input reads as it did. -/
def fnExactCountForLastSpec : ChangeSpec := { name := "fnExactCountForLast", fn := fun _ => fun
  | [d1, d2] => { results := [.lit (.bool true)], args := [d1, d2] }
  | _ => none }
def fnExactCountForLastRow : OpenClaim := { program := "ytlkmknigfdgnoaa", sum := "c737a1aab831e7800eb752e2feba55f3ea6975876445208ab6641abb5cac6407", func := "loop.example/g01295/laws.FnExactCountForLast", spec := "fnExactCountForLast", apart := false }
def FnExactCountForLastSaid : Prop := fnExactCountForLastRow.holds Try.pinned (OpenSpec.ofChange fnExactCountForLastSpec)

/-- ITS FALSE NEIGHBOUR: 'it returns false'. Refute it at one input. -/
def fnExactCountForLastWrong : ChangeSpec := { name := "fnExactCountForLast", fn := fun _ => fun
  | [d1, d2] => { results := [.lit (.bool false)], args := [d1, d2] }
  | _ => none }
def FnExactCountForLastWrongFalsely : Prop := fnExactCountForLastRow.holds Try.pinned (OpenSpec.ofChange fnExactCountForLastWrong)

/-- 'laws.FnExactCanBeLeft': WHATEVER THE INPUT: true; the input reads as it did. -/
def fnExactCanBeLeftSpec : ChangeSpec := { name := "fnExactCanBeLeft", fn := fun _ => fun
  | [d] => { results := [.lit (.bool true)], args := [d] }
  | _ => none }
def fnExactCanBeLeftRow : OpenClaim := { program := "ytlkmknigfdgnoaa", sum := "c737a1aab831e7800eb752e2feba55f3ea6975876445208ab6641abb5cac6407", func := "loop.example/g01295/laws.FnExactCanBeLeft", spec := "fnExactCanBeLeft", apart := false }
def FnExactCanBeLeftSaid : Prop := fnExactCanBeLeftRow.holds Try.pinned (OpenSpec.ofChange fnExactCanBeLeftSpec)

/-- ITS FALSE NEIGHBOUR: 'it returns false'. Refute it at one input. -/
def fnExactCanBeLeftWrong : ChangeSpec := { name := "fnExactCanBeLeft", fn := fun _ => fun
  | [d] => { results := [.lit (.bool false)], args := [d] }
  | _ => none }
def FnExactCanBeLeftWrongFalsely : Prop := fnExactCanBeLeftRow.holds Try.pinned (OpenSpec.ofChange fnExactCanBeLeftWrong)

/-- 'laws.FnExactStepSaving': WHATEVER THE INPUT: true; the input reads as it did. -/
def fnExactStepSavingSpec : ChangeSpec := { name := "fnExactStepSaving", fn := fun _ => fun
  | [d1, d2] => { results := [.lit (.bool true)], args := [d1, d2] }
  | _ => none }
def fnExactStepSavingRow : OpenClaim := { program := "ytlkmknigfdgnoaa", sum := "c737a1aab831e7800eb752e2feba55f3ea6975876445208ab6641abb5cac6407", func := "loop.example/g01295/laws.FnExactStepSaving", spec := "fnExactStepSaving", apart := false }
def FnExactStepSavingSaid : Prop := fnExactStepSavingRow.holds Try.pinned (OpenSpec.ofChange fnExactStepSavingSpec)

/-- ITS FALSE NEIGHBOUR: 'it returns false'. Refute it at one input. -/
def fnExactStepSavingWrong : ChangeSpec := { name := "fnExactStepSaving", fn := fun _ => fun
  | [d1, d2] => { results := [.lit (.bool false)], args := [d1, d2] }
  | _ => none }
def FnExactStepSavingWrongFalsely : Prop := fnExactStepSavingRow.holds Try.pinned (OpenSpec.ofChange fnExactStepSavingWrong)

/-- 'laws.FnExactCountSaving': WHATEVER THE INPUT: true; the input reads as it did. -/
def fnExactCountSavingSpec : ChangeSpec := { name := "fnExactCountSaving", fn := fun _ => fun
  | [d1, d2] => { results := [.lit (.bool true)], args := [d1, d2] }
  | _ => none }
def fnExactCountSavingRow : OpenClaim := { program := "ytlkmknigfdgnoaa", sum := "c737a1aab831e7800eb752e2feba55f3ea6975876445208ab6641abb5cac6407", func := "loop.example/g01295/laws.FnExactCountSaving", spec := "fnExactCountSaving", apart := false }
def FnExactCountSavingSaid : Prop := fnExactCountSavingRow.holds Try.pinned (OpenSpec.ofChange fnExactCountSavingSpec)

/-- ITS FALSE NEIGHBOUR: 'it returns false'. Refute it at one input. -/
def fnExactCountSavingWrong : ChangeSpec := { name := "fnExactCountSaving", fn := fun _ => fun
  | [d1, d2] => { results := [.lit (.bool false)], args := [d1, d2] }
  | _ => none }
def FnExactCountSavingWrongFalsely : Prop := fnExactCountSavingRow.holds Try.pinned (OpenSpec.ofChange fnExactCountSavingWrong)

/-- 'laws.FnExactStepsFirstOut': WHATEVER THE INPUT: true; the input reads as it did. -/
def fnExactStepsFirstOutSpec : ChangeSpec := { name := "fnExactStepsFirstOut", fn := fun _ => fun
  | [d1, d2] => { results := [.lit (.bool true)], args := [d1, d2] }
  | _ => none }
def fnExactStepsFirstOutRow : OpenClaim := { program := "ytlkmknigfdgnoaa", sum := "c737a1aab831e7800eb752e2feba55f3ea6975876445208ab6641abb5cac6407", func := "loop.example/g01295/laws.FnExactStepsFirstOut", spec := "fnExactStepsFirstOut", unfollowed := true, recurses := true, apart := false }
def FnExactStepsFirstOutSaid : Prop := fnExactStepsFirstOutRow.holds Try.pinned (OpenSpec.ofChange fnExactStepsFirstOutSpec)

/-- ITS FALSE NEIGHBOUR: 'it returns false'. Refute it at one input. -/
def fnExactStepsFirstOutWrong : ChangeSpec := { name := "fnExactStepsFirstOut", fn := fun _ => fun
  | [d1, d2] => { results := [.lit (.bool false)], args := [d1, d2] }
  | _ => none }
def FnExactStepsFirstOutWrongFalsely : Prop := fnExactStepsFirstOutRow.holds Try.pinned (OpenSpec.ofChange fnExactStepsFirstOutWrong)

/-- 'laws.FnExactStepForFriends': WHATEVER THE INPUT: true; the input reads as it did. -/
def fnExactStepForFriendsSpec : ChangeSpec := { name := "fnExactStepForFriends", fn := fun _ => fun
  | [d] => { results := [.lit (.bool true)], args := [d] }
  | _ => none }
def fnExactStepForFriendsRow : OpenClaim := { program := "ytlkmknigfdgnoaa", sum := "c737a1aab831e7800eb752e2feba55f3ea6975876445208ab6641abb5cac6407", func := "loop.example/g01295/laws.FnExactStepForFriends", spec := "fnExactStepForFriends", apart := false }
def FnExactStepForFriendsSaid : Prop := fnExactStepForFriendsRow.holds Try.pinned (OpenSpec.ofChange fnExactStepForFriendsSpec)

/-- ITS FALSE NEIGHBOUR: 'it returns false'. Refute it at one input. -/
def fnExactStepForFriendsWrong : ChangeSpec := { name := "fnExactStepForFriends", fn := fun _ => fun
  | [d] => { results := [.lit (.bool false)], args := [d] }
  | _ => none }
def FnExactStepForFriendsWrongFalsely : Prop := fnExactStepForFriendsRow.holds Try.pinned (OpenSpec.ofChange fnExactStepForFriendsWrong)

/-- 'laws.FnExactBestPlaces': WHATEVER THE INPUT: true; the input reads as it did. -/
def fnExactBestPlacesSpec : ChangeSpec := { name := "fnExactBestPlaces", fn := fun _ => fun
  | [d1, d2] => { results := [.lit (.bool true)], args := [d1, d2] }
  | _ => none }
def fnExactBestPlacesRow : OpenClaim := { program := "ytlkmknigfdgnoaa", sum := "c737a1aab831e7800eb752e2feba55f3ea6975876445208ab6641abb5cac6407", func := "loop.example/g01295/laws.FnExactBestPlaces", spec := "fnExactBestPlaces", apart := false }
def FnExactBestPlacesSaid : Prop := fnExactBestPlacesRow.holds Try.pinned (OpenSpec.ofChange fnExactBestPlacesSpec)

/-- ITS FALSE NEIGHBOUR: 'it returns false'. Refute it at one input. -/
def fnExactBestPlacesWrong : ChangeSpec := { name := "fnExactBestPlaces", fn := fun _ => fun
  | [d1, d2] => { results := [.lit (.bool false)], args := [d1, d2] }
  | _ => none }
def FnExactBestPlacesWrongFalsely : Prop := fnExactBestPlacesRow.holds Try.pinned (OpenSpec.ofChange fnExactBestPlacesWrong)

/-- 'laws.FnExactSameOrderSteps': WHATEVER THE INPUT: true; the input reads as it did. -/
def fnExactSameOrderStepsSpec : ChangeSpec := { name := "fnExactSameOrderSteps", fn := fun _ => fun
  | [d1, d2, d3] => { results := [.lit (.bool true)], args := [d1, d2, d3] }
  | _ => none }
def fnExactSameOrderStepsRow : OpenClaim := { program := "ytlkmknigfdgnoaa", sum := "c737a1aab831e7800eb752e2feba55f3ea6975876445208ab6641abb5cac6407", func := "loop.example/g01295/laws.FnExactSameOrderSteps", spec := "fnExactSameOrderSteps", apart := false }
def FnExactSameOrderStepsSaid : Prop := fnExactSameOrderStepsRow.holds Try.pinned (OpenSpec.ofChange fnExactSameOrderStepsSpec)

/-- ITS FALSE NEIGHBOUR: 'it returns false'. Refute it at one input. -/
def fnExactSameOrderStepsWrong : ChangeSpec := { name := "fnExactSameOrderSteps", fn := fun _ => fun
  | [d1, d2, d3] => { results := [.lit (.bool false)], args := [d1, d2, d3] }
  | _ => none }
def FnExactSameOrderStepsWrongFalsely : Prop := fnExactSameOrderStepsRow.holds Try.pinned (OpenSpec.ofChange fnExactSameOrderStepsWrong)

/-- 'laws.FnExactNextStepFor': WHATEVER THE INPUT: true; the input reads as it did. -/
def fnExactNextStepForSpec : ChangeSpec := { name := "fnExactNextStepFor", fn := fun _ => fun
  | [d1, d2, d3] => { results := [.lit (.bool true)], args := [d1, d2, d3] }
  | _ => none }
def fnExactNextStepForRow : OpenClaim := { program := "ytlkmknigfdgnoaa", sum := "c737a1aab831e7800eb752e2feba55f3ea6975876445208ab6641abb5cac6407", func := "loop.example/g01295/laws.FnExactNextStepFor", spec := "fnExactNextStepFor", apart := false }
def FnExactNextStepForSaid : Prop := fnExactNextStepForRow.holds Try.pinned (OpenSpec.ofChange fnExactNextStepForSpec)

/-- ITS FALSE NEIGHBOUR: 'it returns false'. Refute it at one input. -/
def fnExactNextStepForWrong : ChangeSpec := { name := "fnExactNextStepFor", fn := fun _ => fun
  | [d1, d2, d3] => { results := [.lit (.bool false)], args := [d1, d2, d3] }
  | _ => none }
def FnExactNextStepForWrongFalsely : Prop := fnExactNextStepForRow.holds Try.pinned (OpenSpec.ofChange fnExactNextStepForWrong)

/- THE SECOND FORM. 'bulk': how many values and letters a reading holds, each counted each time it is reached (what is shared counts as often as it is met; a slice's spare places count too). A statement '..UptoSaid' is the law's where the arguments, and the package variables that the reading takes, are together of bulk at most 1048576: NARROWER than '..Said'. Prove '..Said' where nothing that the law and all that it calls make is longer than what came in: it says more and counts as full. Else prove '..UptoSaid'. A law counts once. -/
mutual
def uptoBulk {H : Type} : DataW H → Nat
  | .lit (.string bytes) => bytes.length + 1
  | .lit _ => 1
  | .nil => 1
  | .ptr d => uptoBulk d + 1
  | .slice elems spare => uptoBulkAll elems + uptoBulkAll spare + 1
  | .agg parts => uptoBulkAll parts + 1
  | .iface _ d => uptoBulk d + 1
  | .map entries => uptoBulkEntries entries + 1
  | .held _ => 1
def uptoBulkAll {H : Type} : List (DataW H) → Nat
  | [] => 0
  | d :: r => uptoBulk d + uptoBulkAll r
def uptoBulkEntries {H : Type} : List (Lit × DataW H) → Nat
  | [] => 0
  | x :: r => uptoBulkEntry x + uptoBulkEntries r
def uptoBulkEntry {H : Type} : Lit × DataW H → Nat
  | (.string bytes, d) => bytes.length + uptoBulk d + 1
  | (_, d) => uptoBulk d + 1
 end
def uptoSmall : (H : Type) → List (DataW H) → Bool := fun _ ds => decide (uptoBulkAll ds ≤ 1048576)
def OpenSpec.upto (s : _root_.Go.ChangeSpec) : _root_.Go.OpenSpec := { _root_.Go.OpenSpec.ofChange s with cond := some uptoSmall }

/-- 'laws.FnExactPeriodOfSteps', WHERE WHAT IT READS IS OF BULK AT MOST 1048576: true; the input reads as it did. -/
def fnExactPeriodOfStepsUptoRow : OpenClaim := { program := "ytlkmknigfdgnoaa", sum := "c737a1aab831e7800eb752e2feba55f3ea6975876445208ab6641abb5cac6407", func := "loop.example/g01295/laws.FnExactPeriodOfSteps", spec := "fnExactPeriodOfSteps", apart := false, narrowed := true }
def FnExactPeriodOfStepsUptoSaid : Prop := fnExactPeriodOfStepsUptoRow.holds Try.pinned (OpenSpec.upto fnExactPeriodOfStepsSpec)

/-- 'laws.FnExactLastTable', WHERE WHAT IT READS IS OF BULK AT MOST 1048576: true; the input reads as it did. -/
def fnExactLastTableUptoRow : OpenClaim := { program := "ytlkmknigfdgnoaa", sum := "c737a1aab831e7800eb752e2feba55f3ea6975876445208ab6641abb5cac6407", func := "loop.example/g01295/laws.FnExactLastTable", spec := "fnExactLastTable", apart := false, narrowed := true }
def FnExactLastTableUptoSaid : Prop := fnExactLastTableUptoRow.holds Try.pinned (OpenSpec.upto fnExactLastTableSpec)

/-- 'laws.FnExactStepForLast', WHERE WHAT IT READS IS OF BULK AT MOST 1048576: true; the input reads as it did. -/
def fnExactStepForLastUptoRow : OpenClaim := { program := "ytlkmknigfdgnoaa", sum := "c737a1aab831e7800eb752e2feba55f3ea6975876445208ab6641abb5cac6407", func := "loop.example/g01295/laws.FnExactStepForLast", spec := "fnExactStepForLast", apart := false, narrowed := true }
def FnExactStepForLastUptoSaid : Prop := fnExactStepForLastUptoRow.holds Try.pinned (OpenSpec.upto fnExactStepForLastSpec)

/-- 'laws.FnExactCountForLast', WHERE WHAT IT READS IS OF BULK AT MOST 1048576: true; the input reads as it did. -/
def fnExactCountForLastUptoRow : OpenClaim := { program := "ytlkmknigfdgnoaa", sum := "c737a1aab831e7800eb752e2feba55f3ea6975876445208ab6641abb5cac6407", func := "loop.example/g01295/laws.FnExactCountForLast", spec := "fnExactCountForLast", apart := false, narrowed := true }
def FnExactCountForLastUptoSaid : Prop := fnExactCountForLastUptoRow.holds Try.pinned (OpenSpec.upto fnExactCountForLastSpec)

/-- 'laws.FnExactCanBeLeft', WHERE WHAT IT READS IS OF BULK AT MOST 1048576: true; the input reads as it did. -/
def fnExactCanBeLeftUptoRow : OpenClaim := { program := "ytlkmknigfdgnoaa", sum := "c737a1aab831e7800eb752e2feba55f3ea6975876445208ab6641abb5cac6407", func := "loop.example/g01295/laws.FnExactCanBeLeft", spec := "fnExactCanBeLeft", apart := false, narrowed := true }
def FnExactCanBeLeftUptoSaid : Prop := fnExactCanBeLeftUptoRow.holds Try.pinned (OpenSpec.upto fnExactCanBeLeftSpec)

/-- 'laws.FnExactStepSaving', WHERE WHAT IT READS IS OF BULK AT MOST 1048576: true; the input reads as it did. -/
def fnExactStepSavingUptoRow : OpenClaim := { program := "ytlkmknigfdgnoaa", sum := "c737a1aab831e7800eb752e2feba55f3ea6975876445208ab6641abb5cac6407", func := "loop.example/g01295/laws.FnExactStepSaving", spec := "fnExactStepSaving", apart := false, narrowed := true }
def FnExactStepSavingUptoSaid : Prop := fnExactStepSavingUptoRow.holds Try.pinned (OpenSpec.upto fnExactStepSavingSpec)

/-- 'laws.FnExactCountSaving', WHERE WHAT IT READS IS OF BULK AT MOST 1048576: true; the input reads as it did. -/
def fnExactCountSavingUptoRow : OpenClaim := { program := "ytlkmknigfdgnoaa", sum := "c737a1aab831e7800eb752e2feba55f3ea6975876445208ab6641abb5cac6407", func := "loop.example/g01295/laws.FnExactCountSaving", spec := "fnExactCountSaving", apart := false, narrowed := true }
def FnExactCountSavingUptoSaid : Prop := fnExactCountSavingUptoRow.holds Try.pinned (OpenSpec.upto fnExactCountSavingSpec)

/-- 'laws.FnExactStepsFirstOut', WHERE WHAT IT READS IS OF BULK AT MOST 1048576: true; the input reads as it did. -/
def fnExactStepsFirstOutUptoRow : OpenClaim := { program := "ytlkmknigfdgnoaa", sum := "c737a1aab831e7800eb752e2feba55f3ea6975876445208ab6641abb5cac6407", func := "loop.example/g01295/laws.FnExactStepsFirstOut", spec := "fnExactStepsFirstOut", unfollowed := true, recurses := true, apart := false, narrowed := true }
def FnExactStepsFirstOutUptoSaid : Prop := fnExactStepsFirstOutUptoRow.holds Try.pinned (OpenSpec.upto fnExactStepsFirstOutSpec)

/-- 'laws.FnExactStepForFriends', WHERE WHAT IT READS IS OF BULK AT MOST 1048576: true; the input reads as it did. -/
def fnExactStepForFriendsUptoRow : OpenClaim := { program := "ytlkmknigfdgnoaa", sum := "c737a1aab831e7800eb752e2feba55f3ea6975876445208ab6641abb5cac6407", func := "loop.example/g01295/laws.FnExactStepForFriends", spec := "fnExactStepForFriends", apart := false, narrowed := true }
def FnExactStepForFriendsUptoSaid : Prop := fnExactStepForFriendsUptoRow.holds Try.pinned (OpenSpec.upto fnExactStepForFriendsSpec)

/-- 'laws.FnExactBestPlaces', WHERE WHAT IT READS IS OF BULK AT MOST 1048576: true; the input reads as it did. -/
def fnExactBestPlacesUptoRow : OpenClaim := { program := "ytlkmknigfdgnoaa", sum := "c737a1aab831e7800eb752e2feba55f3ea6975876445208ab6641abb5cac6407", func := "loop.example/g01295/laws.FnExactBestPlaces", spec := "fnExactBestPlaces", apart := false, narrowed := true }
def FnExactBestPlacesUptoSaid : Prop := fnExactBestPlacesUptoRow.holds Try.pinned (OpenSpec.upto fnExactBestPlacesSpec)

/-- 'laws.FnExactSameOrderSteps', WHERE WHAT IT READS IS OF BULK AT MOST 1048576: true; the input reads as it did. -/
def fnExactSameOrderStepsUptoRow : OpenClaim := { program := "ytlkmknigfdgnoaa", sum := "c737a1aab831e7800eb752e2feba55f3ea6975876445208ab6641abb5cac6407", func := "loop.example/g01295/laws.FnExactSameOrderSteps", spec := "fnExactSameOrderSteps", apart := false, narrowed := true }
def FnExactSameOrderStepsUptoSaid : Prop := fnExactSameOrderStepsUptoRow.holds Try.pinned (OpenSpec.upto fnExactSameOrderStepsSpec)

/-- 'laws.FnExactNextStepFor', WHERE WHAT IT READS IS OF BULK AT MOST 1048576: true; the input reads as it did. -/
def fnExactNextStepForUptoRow : OpenClaim := { program := "ytlkmknigfdgnoaa", sum := "c737a1aab831e7800eb752e2feba55f3ea6975876445208ab6641abb5cac6407", func := "loop.example/g01295/laws.FnExactNextStepFor", spec := "fnExactNextStepFor", apart := false, narrowed := true }
def FnExactNextStepForUptoSaid : Prop := fnExactNextStepForUptoRow.holds Try.pinned (OpenSpec.upto fnExactNextStepForSpec)

end Rows
end Go.Proofs.Ytlkmknigfdgnoaa
