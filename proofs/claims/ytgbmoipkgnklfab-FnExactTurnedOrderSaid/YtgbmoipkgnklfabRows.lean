/-
  No cell of these rows narrows 'for every input' (looked for: loops, veiled, ifaces, maps, wideKeys, modest, calm, conditions, laid).
  DERIVED. THE GIVEN ROWS OF THIS SEAT. 3 by the template 'for every input the law returns true; each argument reads behind the call as it read before'; 0 by the template 'total and deterministic' (their statements: YtgbmoipkgnklfabTotals.lean).
  GIVEN WITH THE SEED: the statements are not yours to turn. If you find one false, say at which input.
  Laid BY PROGRAM, IN A SANDBOX (cutbox-rows.mjs): the forced cells as the released guide's own fill.sh prints them over the translation 1753a0937e07d81e… (all of the seat's roots in one cut). By AI agents, Wed Nov 11 2026. No macro, syntax, notation, axiom, sorry.
-/
import Derived.Test.YtgbmoipkgnklfabChecked
import GoSem.Claim
import GoSem.ClaimJoined
import GoSem.ClaimMapViews
import Derived.JoinedTies
import Derived.KernelRfl
namespace Go.Proofs.Ytgbmoipkgnklfab
/- THE CELL 'sum', in the pinned program and in every row, IS THE sha256 OF THE DUMP (.gsa) THAT YtgbmoipkgnklfabProg.lean LOADS. Nothing in Lean hashes anything: it is a label: what it is worth is what the hold of that sum in a sandbox is worth. -/
noncomputable def Try.pinned : Pinned := { name := "ytgbmoipkgnklfab", sum := "1753a0937e07d81eceb08fe8f31484f007b4255ac913aa38c0eaf4825027f988", checked := Try.checked }
namespace Rows
def none {H : Type} : Left H := { results := [], args := [] }

/-- 'laws.FnExactIsOrder': WHATEVER THE INPUT: true; the input reads as it did. -/
def fnExactIsOrderSpec : ChangeSpec := { name := "fnExactIsOrder", fn := fun _ => fun
  | [d] => { results := [.lit (.bool true)], args := [d] }
  | _ => none }
def fnExactIsOrderRow : OpenClaim := { program := "ytgbmoipkgnklfab", sum := "1753a0937e07d81eceb08fe8f31484f007b4255ac913aa38c0eaf4825027f988", func := "loop.example/g01295/laws.FnExactIsOrder", spec := "fnExactIsOrder", recurses := true, apart := false }
def FnExactIsOrderSaid : Prop := fnExactIsOrderRow.holds Try.pinned (OpenSpec.ofChange fnExactIsOrderSpec)

/-- ITS FALSE NEIGHBOUR: 'it returns false'. Refute it at one input. -/
def fnExactIsOrderWrong : ChangeSpec := { name := "fnExactIsOrder", fn := fun _ => fun
  | [d] => { results := [.lit (.bool false)], args := [d] }
  | _ => none }
def FnExactIsOrderWrongFalsely : Prop := fnExactIsOrderRow.holds Try.pinned (OpenSpec.ofChange fnExactIsOrderWrong)

/-- 'laws.FnExactUndoOrder': WHATEVER THE INPUT: true; the input reads as it did. -/
def fnExactUndoOrderSpec : ChangeSpec := { name := "fnExactUndoOrder", fn := fun _ => fun
  | [d] => { results := [.lit (.bool true)], args := [d] }
  | _ => none }
def fnExactUndoOrderRow : OpenClaim := { program := "ytgbmoipkgnklfab", sum := "1753a0937e07d81eceb08fe8f31484f007b4255ac913aa38c0eaf4825027f988", func := "loop.example/g01295/laws.FnExactUndoOrder", spec := "fnExactUndoOrder", recurses := true, apart := false }
def FnExactUndoOrderSaid : Prop := fnExactUndoOrderRow.holds Try.pinned (OpenSpec.ofChange fnExactUndoOrderSpec)

/-- ITS FALSE NEIGHBOUR: 'it returns false'. Refute it at one input. -/
def fnExactUndoOrderWrong : ChangeSpec := { name := "fnExactUndoOrder", fn := fun _ => fun
  | [d] => { results := [.lit (.bool false)], args := [d] }
  | _ => none }
def FnExactUndoOrderWrongFalsely : Prop := fnExactUndoOrderRow.holds Try.pinned (OpenSpec.ofChange fnExactUndoOrderWrong)

/-- 'laws.FnExactTurnedOrder': WHATEVER THE INPUT: true; the input reads as it did. -/
def fnExactTurnedOrderSpec : ChangeSpec := { name := "fnExactTurnedOrder", fn := fun _ => fun
  | [d1, d2] => { results := [.lit (.bool true)], args := [d1, d2] }
  | _ => none }
def fnExactTurnedOrderRow : OpenClaim := { program := "ytgbmoipkgnklfab", sum := "1753a0937e07d81eceb08fe8f31484f007b4255ac913aa38c0eaf4825027f988", func := "loop.example/g01295/laws.FnExactTurnedOrder", spec := "fnExactTurnedOrder", recurses := true, apart := false }
def FnExactTurnedOrderSaid : Prop := fnExactTurnedOrderRow.holds Try.pinned (OpenSpec.ofChange fnExactTurnedOrderSpec)

/-- ITS FALSE NEIGHBOUR: 'it returns false'. Refute it at one input. -/
def fnExactTurnedOrderWrong : ChangeSpec := { name := "fnExactTurnedOrder", fn := fun _ => fun
  | [d1, d2] => { results := [.lit (.bool false)], args := [d1, d2] }
  | _ => none }
def FnExactTurnedOrderWrongFalsely : Prop := fnExactTurnedOrderRow.holds Try.pinned (OpenSpec.ofChange fnExactTurnedOrderWrong)

/- THE SECOND FORM. 'bulk': how many values and letters a reading holds, each counted each time it is reached (what is shared counts as often as it is met; a slice's spare places count too). A statement '..UptoSaid' is the law's where the arguments, and the package variables that the reading takes, are together of bulk at most 1048576: NARROWER than '..Said'. Prove '..Said' where nothing that the law and all that it calls make is longer than what came in: it says more and counts as full. Else prove '..UptoSaid'. A law counts once. -/
mutual
def uptoBulk {H : Type} : DataW H → Nat
  | .lit (.string bytes) => bytes.length + 1
  | .lit _ => 1
  | .nil => 1
  | .ptr d => uptoBulk d + 1
  | .slice elems spare => uptoBulkAll elems + uptoBulkAll spare + 1
  | .agg parts => uptoBulkAll parts + 1
  | .iface _ d => uptoBulk d + 1
  | .map entries => uptoBulkEntries entries + 1
  | .held _ => 1
def uptoBulkAll {H : Type} : List (DataW H) → Nat
  | [] => 0
  | d :: r => uptoBulk d + uptoBulkAll r
def uptoBulkEntries {H : Type} : List (Lit × DataW H) → Nat
  | [] => 0
  | x :: r => uptoBulkEntry x + uptoBulkEntries r
def uptoBulkEntry {H : Type} : Lit × DataW H → Nat
  | (.string bytes, d) => bytes.length + uptoBulk d + 1
  | (_, d) => uptoBulk d + 1
 end
def uptoSmall : (H : Type) → List (DataW H) → Bool := fun _ ds => decide (uptoBulkAll ds ≤ 1048576)
def OpenSpec.upto (s : _root_.Go.ChangeSpec) : _root_.Go.OpenSpec := { _root_.Go.OpenSpec.ofChange s with cond := some uptoSmall }

/-- 'laws.FnExactIsOrder', WHERE WHAT IT READS IS OF BULK AT MOST 1048576: true; the input reads as it did. -/
def fnExactIsOrderUptoRow : OpenClaim := { program := "ytgbmoipkgnklfab", sum := "1753a0937e07d81eceb08fe8f31484f007b4255ac913aa38c0eaf4825027f988", func := "loop.example/g01295/laws.FnExactIsOrder", spec := "fnExactIsOrder", recurses := true, apart := false, narrowed := true }
def FnExactIsOrderUptoSaid : Prop := fnExactIsOrderUptoRow.holds Try.pinned (OpenSpec.upto fnExactIsOrderSpec)

/-- 'laws.FnExactUndoOrder', WHERE WHAT IT READS IS OF BULK AT MOST 1048576: true; the input reads as it did. -/
def fnExactUndoOrderUptoRow : OpenClaim := { program := "ytgbmoipkgnklfab", sum := "1753a0937e07d81eceb08fe8f31484f007b4255ac913aa38c0eaf4825027f988", func := "loop.example/g01295/laws.FnExactUndoOrder", spec := "fnExactUndoOrder", recurses := true, apart := false, narrowed := true }
def FnExactUndoOrderUptoSaid : Prop := fnExactUndoOrderUptoRow.holds Try.pinned (OpenSpec.upto fnExactUndoOrderSpec)

/-- 'laws.FnExactTurnedOrder', WHERE WHAT IT READS IS OF BULK AT MOST 1048576: true; the input reads as it did. -/
def fnExactTurnedOrderUptoRow : OpenClaim := { program := "ytgbmoipkgnklfab", sum := "1753a0937e07d81eceb08fe8f31484f007b4255ac913aa38c0eaf4825027f988", func := "loop.example/g01295/laws.FnExactTurnedOrder", spec := "fnExactTurnedOrder", recurses := true, apart := false, narrowed := true }
def FnExactTurnedOrderUptoSaid : Prop := fnExactTurnedOrderUptoRow.holds Try.pinned (OpenSpec.upto fnExactTurnedOrderSpec)

end Rows
end Go.Proofs.Ytgbmoipkgnklfab
