/-
  No cell of these rows narrows 'for every input' (looked for: loops, veiled, ifaces, maps, wideKeys, modest, calm, conditions, laid).
  DERIVED. THE GIVEN ROWS OF THIS SEAT. 3 by the template 'for every input the law returns true; each argument reads behind the call as it read before'; 0 by the template 'total and deterministic' (their statements: YtgbmoipkgnklfaaTotals.lean).
  GIVEN WITH THE SEED: the statements are not yours to turn. If you find one false, say at which input.
  Laid BY PROGRAM, IN A SANDBOX (cutbox-rows.mjs): the forced cells as the released guide's own fill.sh prints them over the translation b7014edccc79b2f9… (all of the seat's roots in one cut). By AI agents, Wed Nov 11 2026. No macro, syntax, notation, axiom, sorry.
-/
import Derived.Test.YtgbmoipkgnklfaaChecked
import GoSem.Claim
import GoSem.ClaimJoined
import GoSem.ClaimMapViews
import Derived.JoinedTies
import Derived.KernelRfl
namespace Go.Proofs.Ytgbmoipkgnklfaa
/- THE CELL 'sum', in the pinned program and in every row, IS THE sha256 OF THE DUMP (.gsa) THAT YtgbmoipkgnklfaaProg.lean LOADS. Nothing in Lean hashes anything: it is a label: what it is worth is what the hold of that sum in a sandbox is worth. -/
noncomputable def Try.pinned : Pinned := { name := "ytgbmoipkgnklfaa", sum := "b7014edccc79b2f93cbb857636f9a04b66dcfb017f3153074e90e3efc98dfdd4", checked := Try.checked }
namespace Rows
def none {H : Type} : Left H := { results := [], args := [] }

/-- 'laws.FnExactRemaindersOf': WHATEVER THE INPUT: true; the input reads as it did. -/
def fnExactRemaindersOfSpec : ChangeSpec := { name := "fnExactRemaindersOf", fn := fun _ => fun
  | [d] => { results := [.lit (.bool true)], args := [d] }
  | _ => none }
def fnExactRemaindersOfRow : OpenClaim := { program := "ytgbmoipkgnklfaa", sum := "b7014edccc79b2f93cbb857636f9a04b66dcfb017f3153074e90e3efc98dfdd4", func := "loop.example/g01295/laws.FnExactRemaindersOf", spec := "fnExactRemaindersOf", unfollowed := true, recurses := true, apart := false }
def FnExactRemaindersOfSaid : Prop := fnExactRemaindersOfRow.holds Try.pinned (OpenSpec.ofChange fnExactRemaindersOfSpec)

/-- ITS FALSE NEIGHBOUR: 'it returns false'. Refute it at one input. -/
def fnExactRemaindersOfWrong : ChangeSpec := { name := "fnExactRemaindersOf", fn := fun _ => fun
  | [d] => { results := [.lit (.bool false)], args := [d] }
  | _ => none }
def FnExactRemaindersOfWrongFalsely : Prop := fnExactRemaindersOfRow.holds Try.pinned (OpenSpec.ofChange fnExactRemaindersOfWrong)

/-- 'laws.FnExactStepOfOrder': WHATEVER THE INPUT: true; the input reads as it did. -/
def fnExactStepOfOrderSpec : ChangeSpec := { name := "fnExactStepOfOrder", fn := fun _ => fun
  | [d] => { results := [.lit (.bool true)], args := [d] }
  | _ => none }
def fnExactStepOfOrderRow : OpenClaim := { program := "ytgbmoipkgnklfaa", sum := "b7014edccc79b2f93cbb857636f9a04b66dcfb017f3153074e90e3efc98dfdd4", func := "loop.example/g01295/laws.FnExactStepOfOrder", spec := "fnExactStepOfOrder", unfollowed := true, recurses := true, apart := false }
def FnExactStepOfOrderSaid : Prop := fnExactStepOfOrderRow.holds Try.pinned (OpenSpec.ofChange fnExactStepOfOrderSpec)

/-- ITS FALSE NEIGHBOUR: 'it returns false'. Refute it at one input. -/
def fnExactStepOfOrderWrong : ChangeSpec := { name := "fnExactStepOfOrder", fn := fun _ => fun
  | [d] => { results := [.lit (.bool false)], args := [d] }
  | _ => none }
def FnExactStepOfOrderWrongFalsely : Prop := fnExactStepOfOrderRow.holds Try.pinned (OpenSpec.ofChange fnExactStepOfOrderWrong)

/-- 'laws.FnExactIsCountedOut': WHATEVER THE INPUT: true; the input reads as it did. -/
def fnExactIsCountedOutSpec : ChangeSpec := { name := "fnExactIsCountedOut", fn := fun _ => fun
  | [d] => { results := [.lit (.bool true)], args := [d] }
  | _ => none }
def fnExactIsCountedOutRow : OpenClaim := { program := "ytgbmoipkgnklfaa", sum := "b7014edccc79b2f93cbb857636f9a04b66dcfb017f3153074e90e3efc98dfdd4", func := "loop.example/g01295/laws.FnExactIsCountedOut", spec := "fnExactIsCountedOut", unfollowed := true, recurses := true, apart := false }
def FnExactIsCountedOutSaid : Prop := fnExactIsCountedOutRow.holds Try.pinned (OpenSpec.ofChange fnExactIsCountedOutSpec)

/-- ITS FALSE NEIGHBOUR: 'it returns false'. Refute it at one input. -/
def fnExactIsCountedOutWrong : ChangeSpec := { name := "fnExactIsCountedOut", fn := fun _ => fun
  | [d] => { results := [.lit (.bool false)], args := [d] }
  | _ => none }
def FnExactIsCountedOutWrongFalsely : Prop := fnExactIsCountedOutRow.holds Try.pinned (OpenSpec.ofChange fnExactIsCountedOutWrong)

/- THE SECOND FORM. 'bulk': how many values and letters a reading holds, each counted each time it is reached (what is shared counts as often as it is met; a slice's spare places count too). A statement '..UptoSaid' is the law's where the arguments, and the package variables that the reading takes, are together of bulk at most 1048576: NARROWER than '..Said'. Prove '..Said' where nothing that the law and all that it calls make is longer than what came in: it says more and counts as full. Else prove '..UptoSaid'. A law counts once. -/
mutual
def uptoBulk {H : Type} : DataW H → Nat
  | .lit (.string bytes) => bytes.length + 1
  | .lit _ => 1
  | .nil => 1
  | .ptr d => uptoBulk d + 1
  | .slice elems spare => uptoBulkAll elems + uptoBulkAll spare + 1
  | .agg parts => uptoBulkAll parts + 1
  | .iface _ d => uptoBulk d + 1
  | .map entries => uptoBulkEntries entries + 1
  | .held _ => 1
def uptoBulkAll {H : Type} : List (DataW H) → Nat
  | [] => 0
  | d :: r => uptoBulk d + uptoBulkAll r
def uptoBulkEntries {H : Type} : List (Lit × DataW H) → Nat
  | [] => 0
  | x :: r => uptoBulkEntry x + uptoBulkEntries r
def uptoBulkEntry {H : Type} : Lit × DataW H → Nat
  | (.string bytes, d) => bytes.length + uptoBulk d + 1
  | (_, d) => uptoBulk d + 1
 end
def uptoSmall : (H : Type) → List (DataW H) → Bool := fun _ ds => decide (uptoBulkAll ds ≤ 1048576)
def OpenSpec.upto (s : _root_.Go.ChangeSpec) : _root_.Go.OpenSpec := { _root_.Go.OpenSpec.ofChange s with cond := some uptoSmall }

/-- 'laws.FnExactRemaindersOf', WHERE WHAT IT READS IS OF BULK AT MOST 1048576: true; the input reads as it did. -/
def fnExactRemaindersOfUptoRow : OpenClaim := { program := "ytgbmoipkgnklfaa", sum := "b7014edccc79b2f93cbb857636f9a04b66dcfb017f3153074e90e3efc98dfdd4", func := "loop.example/g01295/laws.FnExactRemaindersOf", spec := "fnExactRemaindersOf", unfollowed := true, recurses := true, apart := false, narrowed := true }
def FnExactRemaindersOfUptoSaid : Prop := fnExactRemaindersOfUptoRow.holds Try.pinned (OpenSpec.upto fnExactRemaindersOfSpec)

/-- 'laws.FnExactStepOfOrder', WHERE WHAT IT READS IS OF BULK AT MOST 1048576: true; the input reads as it did. -/
def fnExactStepOfOrderUptoRow : OpenClaim := { program := "ytgbmoipkgnklfaa", sum := "b7014edccc79b2f93cbb857636f9a04b66dcfb017f3153074e90e3efc98dfdd4", func := "loop.example/g01295/laws.FnExactStepOfOrder", spec := "fnExactStepOfOrder", unfollowed := true, recurses := true, apart := false, narrowed := true }
def FnExactStepOfOrderUptoSaid : Prop := fnExactStepOfOrderUptoRow.holds Try.pinned (OpenSpec.upto fnExactStepOfOrderSpec)

/-- 'laws.FnExactIsCountedOut', WHERE WHAT IT READS IS OF BULK AT MOST 1048576: true; the input reads as it did. -/
def fnExactIsCountedOutUptoRow : OpenClaim := { program := "ytgbmoipkgnklfaa", sum := "b7014edccc79b2f93cbb857636f9a04b66dcfb017f3153074e90e3efc98dfdd4", func := "loop.example/g01295/laws.FnExactIsCountedOut", spec := "fnExactIsCountedOut", unfollowed := true, recurses := true, apart := false, narrowed := true }
def FnExactIsCountedOutUptoSaid : Prop := fnExactIsCountedOutUptoRow.holds Try.pinned (OpenSpec.upto fnExactIsCountedOutSpec)

end Rows
end Go.Proofs.Ytgbmoipkgnklfaa
