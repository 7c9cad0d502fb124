/-
  No cell of these rows narrows 'for every input' (looked for: loops, veiled, ifaces, maps, wideKeys, modest, calm, conditions, laid).
  DERIVED. THE GIVEN ROWS OF THIS SEAT. 5 by the template 'for every input the law returns true; each argument reads behind the call as it read before'; 0 by the template 'total and deterministic' (their statements: YtlkmknigfdgnoabTotals.lean).
  GIVEN WITH THE SEED: the statements are not yours to turn. If you find one false, say at which input.
  Laid BY PROGRAM, IN A SANDBOX (cutbox-rows.mjs): the forced cells as the released guide's own fill.sh prints them over the translation 063e1d087eae4f2c… (all of the seat's roots in one cut). By AI agents, Wed Nov 11 2026. No macro, syntax, notation, axiom, sorry.
-/
import Derived.Test.YtlkmknigfdgnoabChecked
import GoSem.Claim
import GoSem.ClaimJoined
import GoSem.ClaimMapViews
import Derived.JoinedTies
import Derived.KernelRfl
namespace Go.Proofs.Ytlkmknigfdgnoab
/- THE CELL 'sum', in the pinned program and in every row, IS THE sha256 OF THE DUMP (.gsa) THAT YtlkmknigfdgnoabProg.lean LOADS. Nothing in Lean hashes anything: it is a label: what it is worth is what the hold of that sum in a sandbox is worth. -/
noncomputable def Try.pinned : Pinned := { name := "ytlkmknigfdgnoab", sum := "063e1d087eae4f2c598d08ec11f7b98f40948965fd8595369f2ef2b496bc144c", checked := Try.checked }
namespace Rows
def none {H : Type} : Left H := { results := [], args := [] }

/-- 'laws.FnExactLastLeft': WHATEVER THE INPUT: true; the input reads as it did. -/
def fnExactLastLeftSpec : ChangeSpec := { name := "fnExactLastLeft", fn := fun _ => fun
  | [d1, d2] => { results := [.lit (.bool true)], args := [d1, d2] }
  | _ => none }
def fnExactLastLeftRow : OpenClaim := { program := "ytlkmknigfdgnoab", sum := "063e1d087eae4f2c598d08ec11f7b98f40948965fd8595369f2ef2b496bc144c", func := "loop.example/g01295/laws.FnExactLastLeft", spec := "fnExactLastLeft", apart := false }
def FnExactLastLeftSaid : Prop := fnExactLastLeftRow.holds Try.pinned (OpenSpec.ofChange fnExactLastLeftSpec)

/-- ITS FALSE NEIGHBOUR: 'it returns false'. Refute it at one input. -/
def fnExactLastLeftWrong : ChangeSpec := { name := "fnExactLastLeft", fn := fun _ => fun
  | [d1, d2] => { results := [.lit (.bool false)], args := [d1, d2] }
  | _ => none }
def FnExactLastLeftWrongFalsely : Prop := fnExactLastLeftRow.holds Try.pinned (OpenSpec.ofChange fnExactLastLeftWrong)

/-- 'laws.FnExactFarLeft': WHATEVER THE INPUT: true; the input reads as it did. -/
def fnExactFarLeftSpec : ChangeSpec := { name := "fnExactFarLeft", fn := fun _ => fun
  | [d1, d2] => { results := [.lit (.bool true)], args := [d1, d2] }
  | _ => none }
def fnExactFarLeftRow : OpenClaim := { program := "ytlkmknigfdgnoab", sum := "063e1d087eae4f2c598d08ec11f7b98f40948965fd8595369f2ef2b496bc144c", func := "loop.example/g01295/laws.FnExactFarLeft", spec := "fnExactFarLeft", apart := false }
def FnExactFarLeftSaid : Prop := fnExactFarLeftRow.holds Try.pinned (OpenSpec.ofChange fnExactFarLeftSpec)

/-- ITS FALSE NEIGHBOUR: 'it returns false'. Refute it at one input. -/
def fnExactFarLeftWrong : ChangeSpec := { name := "fnExactFarLeft", fn := fun _ => fun
  | [d1, d2] => { results := [.lit (.bool false)], args := [d1, d2] }
  | _ => none }
def FnExactFarLeftWrongFalsely : Prop := fnExactFarLeftRow.holds Try.pinned (OpenSpec.ofChange fnExactFarLeftWrong)

/-- 'laws.FnExactLastFrom': WHATEVER THE INPUT: true; the input reads as it did. -/
def fnExactLastFromSpec : ChangeSpec := { name := "fnExactLastFrom", fn := fun _ => fun
  | [d1, d2, d3] => { results := [.lit (.bool true)], args := [d1, d2, d3] }
  | _ => none }
def fnExactLastFromRow : OpenClaim := { program := "ytlkmknigfdgnoab", sum := "063e1d087eae4f2c598d08ec11f7b98f40948965fd8595369f2ef2b496bc144c", func := "loop.example/g01295/laws.FnExactLastFrom", spec := "fnExactLastFrom", apart := false }
def FnExactLastFromSaid : Prop := fnExactLastFromRow.holds Try.pinned (OpenSpec.ofChange fnExactLastFromSpec)

/-- ITS FALSE NEIGHBOUR: 'it returns false'. Refute it at one input. -/
def fnExactLastFromWrong : ChangeSpec := { name := "fnExactLastFrom", fn := fun _ => fun
  | [d1, d2, d3] => { results := [.lit (.bool false)], args := [d1, d2, d3] }
  | _ => none }
def FnExactLastFromWrongFalsely : Prop := fnExactLastFromRow.holds Try.pinned (OpenSpec.ofChange fnExactLastFromWrong)

/-- 'laws.FnExactBeginFor': WHATEVER THE INPUT: true; the input reads as it did. -/
def fnExactBeginForSpec : ChangeSpec := { name := "fnExactBeginFor", fn := fun _ => fun
  | [d1, d2, d3] => { results := [.lit (.bool true)], args := [d1, d2, d3] }
  | _ => none }
def fnExactBeginForRow : OpenClaim := { program := "ytlkmknigfdgnoab", sum := "063e1d087eae4f2c598d08ec11f7b98f40948965fd8595369f2ef2b496bc144c", func := "loop.example/g01295/laws.FnExactBeginFor", spec := "fnExactBeginFor", apart := false }
def FnExactBeginForSaid : Prop := fnExactBeginForRow.holds Try.pinned (OpenSpec.ofChange fnExactBeginForSpec)

/-- ITS FALSE NEIGHBOUR: 'it returns false'. Refute it at one input. -/
def fnExactBeginForWrong : ChangeSpec := { name := "fnExactBeginFor", fn := fun _ => fun
  | [d1, d2, d3] => { results := [.lit (.bool false)], args := [d1, d2, d3] }
  | _ => none }
def FnExactBeginForWrongFalsely : Prop := fnExactBeginForRow.holds Try.pinned (OpenSpec.ofChange fnExactBeginForWrong)

/-- 'laws.FnExactMeanTurn': WHATEVER THE INPUT: true; the input reads as it did. -/
def fnExactMeanTurnSpec : ChangeSpec := { name := "fnExactMeanTurn", fn := fun _ => fun
  | [d1, d2, d3] => { results := [.lit (.bool true)], args := [d1, d2, d3] }
  | _ => none }
def fnExactMeanTurnRow : OpenClaim := { program := "ytlkmknigfdgnoab", sum := "063e1d087eae4f2c598d08ec11f7b98f40948965fd8595369f2ef2b496bc144c", func := "loop.example/g01295/laws.FnExactMeanTurn", spec := "fnExactMeanTurn", unfollowed := true, recurses := true, apart := false }
def FnExactMeanTurnSaid : Prop := fnExactMeanTurnRow.holds Try.pinned (OpenSpec.ofChange fnExactMeanTurnSpec)

/-- ITS FALSE NEIGHBOUR: 'it returns false'. Refute it at one input. -/
def fnExactMeanTurnWrong : ChangeSpec := { name := "fnExactMeanTurn", fn := fun _ => fun
  | [d1, d2, d3] => { results := [.lit (.bool false)], args := [d1, d2, d3] }
  | _ => none }
def FnExactMeanTurnWrongFalsely : Prop := fnExactMeanTurnRow.holds Try.pinned (OpenSpec.ofChange fnExactMeanTurnWrong)

/- THE SECOND FORM. 'bulk': how many values and letters a reading holds, each counted each time it is reached (what is shared counts as often as it is met; a slice's spare places count too). A statement '..UptoSaid' is the law's where the arguments, and the package variables that the reading takes, are together of bulk at most 1048576: NARROWER than '..Said'. Prove '..Said' where nothing that the law and all that it calls make is longer than what came in: it says more and counts as full. Else prove '..UptoSaid'. A law counts once. -/
mutual
def uptoBulk {H : Type} : DataW H → Nat
  | .lit (.string bytes) => bytes.length + 1
  | .lit _ => 1
  | .nil => 1
  | .ptr d => uptoBulk d + 1
  | .slice elems spare => uptoBulkAll elems + uptoBulkAll spare + 1
  | .agg parts => uptoBulkAll parts + 1
  | .iface _ d => uptoBulk d + 1
  | .map entries => uptoBulkEntries entries + 1
  | .held _ => 1
def uptoBulkAll {H : Type} : List (DataW H) → Nat
  | [] => 0
  | d :: r => uptoBulk d + uptoBulkAll r
def uptoBulkEntries {H : Type} : List (Lit × DataW H) → Nat
  | [] => 0
  | x :: r => uptoBulkEntry x + uptoBulkEntries r
def uptoBulkEntry {H : Type} : Lit × DataW H → Nat
  | (.string bytes, d) => bytes.length + uptoBulk d + 1
  | (_, d) => uptoBulk d + 1
 end
def uptoSmall : (H : Type) → List (DataW H) → Bool := fun _ ds => decide (uptoBulkAll ds ≤ 1048576)
def OpenSpec.upto (s : _root_.Go.ChangeSpec) : _root_.Go.OpenSpec := { _root_.Go.OpenSpec.ofChange s with cond := some uptoSmall }

/-- 'laws.FnExactLastLeft', WHERE WHAT IT READS IS OF BULK AT MOST 1048576: true; the input reads as it did. -/
def fnExactLastLeftUptoRow : OpenClaim := { program := "ytlkmknigfdgnoab", sum := "063e1d087eae4f2c598d08ec11f7b98f40948965fd8595369f2ef2b496bc144c", func := "loop.example/g01295/laws.FnExactLastLeft", spec := "fnExactLastLeft", apart := false, narrowed := true }
def FnExactLastLeftUptoSaid : Prop := fnExactLastLeftUptoRow.holds Try.pinned (OpenSpec.upto fnExactLastLeftSpec)

/-- 'laws.FnExactFarLeft', WHERE WHAT IT READS IS OF BULK AT MOST 1048576: true; the input reads as it did. -/
def fnExactFarLeftUptoRow : OpenClaim := { program := "ytlkmknigfdgnoab", sum := "063e1d087eae4f2c598d08ec11f7b98f40948965fd8595369f2ef2b496bc144c", func := "loop.example/g01295/laws.FnExactFarLeft", spec := "fnExactFarLeft", apart := false, narrowed := true }
def FnExactFarLeftUptoSaid : Prop := fnExactFarLeftUptoRow.holds Try.pinned (OpenSpec.upto fnExactFarLeftSpec)

/-- 'laws.FnExactLastFrom', WHERE WHAT IT READS IS OF BULK AT MOST 1048576: true; the input reads as it did. -/
def fnExactLastFromUptoRow : OpenClaim := { program := "ytlkmknigfdgnoab", sum := "063e1d087eae4f2c598d08ec11f7b98f40948965fd8595369f2ef2b496bc144c", func := "loop.example/g01295/laws.FnExactLastFrom", spec := "fnExactLastFrom", apart := false, narrowed := true }
def FnExactLastFromUptoSaid : Prop := fnExactLastFromUptoRow.holds Try.pinned (OpenSpec.upto fnExactLastFromSpec)

/-- 'laws.FnExactBeginFor', WHERE WHAT IT READS IS OF BULK AT MOST 1048576: true; the input reads as it did. -/
def fnExactBeginForUptoRow : OpenClaim := { program := "ytlkmknigfdgnoab", sum := "063e1d087eae4f2c598d08ec11f7b98f40948965fd8595369f2ef2b496bc144c", func := "loop.example/g01295/laws.FnExactBeginFor", spec := "fnExactBeginFor", apart := false, narrowed := true }
def FnExactBeginForUptoSaid : Prop := fnExactBeginForUptoRow.holds Try.pinned (OpenSpec.upto fnExactBeginForSpec)

/-- 'laws.FnExactMeanTurn', WHERE WHAT IT READS IS OF BULK AT MOST 1048576: true; the input reads as it did. -/
def fnExactMeanTurnUptoRow : OpenClaim := { program := "ytlkmknigfdgnoab", sum := "063e1d087eae4f2c598d08ec11f7b98f40948965fd8595369f2ef2b496bc144c", func := "loop.example/g01295/laws.FnExactMeanTurn", spec := "fnExactMeanTurn", unfollowed := true, recurses := true, apart := false, narrowed := true }
def FnExactMeanTurnUptoSaid : Prop := fnExactMeanTurnUptoRow.holds Try.pinned (OpenSpec.upto fnExactMeanTurnSpec)

end Rows
end Go.Proofs.Ytlkmknigfdgnoab
