/-
  No cell of these rows narrows 'for every input' (looked for: loops, veiled, ifaces, maps, wideKeys, modest, calm, conditions, laid).
  DERIVED. THE GIVEN ROWS OF THIS SEAT. 3 by the template 'for every input the law returns true; each argument reads behind the call as it read before'; 0 by the template 'total and deterministic' (their statements: YtgbmoipkgnklfadTotals.lean).
  GIVEN WITH THE SEED: the statements are not yours to turn. If you find one false, say at which input.
  Laid BY PROGRAM, IN A SANDBOX (cutbox-rows.mjs): the forced cells as the released guide's own fill.sh prints them over the translation 70a75be29766c9e0… (all of the seat's roots in one cut). By AI agents, Wed Nov 11 2026. No macro, syntax, notation, axiom, sorry.
-/
import Derived.Test.YtgbmoipkgnklfadChecked
import GoSem.Claim
import GoSem.ClaimJoined
import GoSem.ClaimMapViews
import Derived.JoinedTies
import Derived.KernelRfl
namespace Go.Proofs.Ytgbmoipkgnklfad
/- THE CELL 'sum', in the pinned program and in every row, IS THE sha256 OF THE DUMP (.gsa) THAT YtgbmoipkgnklfadProg.lean LOADS. Nothing in Lean hashes anything: it is a label: what it is worth is what the hold of that sum in a sandbox is worth. -/
noncomputable def Try.pinned : Pinned := { name := "ytgbmoipkgnklfad", sum := "70a75be29766c9e050a2a48221d40274b5c3038b47ae335ffd90c7995c4c56b8", checked := Try.checked }
namespace Rows
def none {H : Type} : Left H := { results := [], args := [] }

/-- 'laws.FnExactCyclesOfOrder': WHATEVER THE INPUT: true; the input reads as it did. -/
def fnExactCyclesOfOrderSpec : ChangeSpec := { name := "fnExactCyclesOfOrder", fn := fun _ => fun
  | [d] => { results := [.lit (.bool true)], args := [d] }
  | _ => none }
def fnExactCyclesOfOrderRow : OpenClaim := { program := "ytgbmoipkgnklfad", sum := "70a75be29766c9e050a2a48221d40274b5c3038b47ae335ffd90c7995c4c56b8", func := "loop.example/g01295/laws.FnExactCyclesOfOrder", spec := "fnExactCyclesOfOrder", recurses := true, apart := false }
def FnExactCyclesOfOrderSaid : Prop := fnExactCyclesOfOrderRow.holds Try.pinned (OpenSpec.ofChange fnExactCyclesOfOrderSpec)

/-- ITS FALSE NEIGHBOUR: 'it returns false'. Refute it at one input. -/
def fnExactCyclesOfOrderWrong : ChangeSpec := { name := "fnExactCyclesOfOrder", fn := fun _ => fun
  | [d] => { results := [.lit (.bool false)], args := [d] }
  | _ => none }
def FnExactCyclesOfOrderWrongFalsely : Prop := fnExactCyclesOfOrderRow.holds Try.pinned (OpenSpec.ofChange fnExactCyclesOfOrderWrong)

/-- 'laws.FnExactSignOfOrder': WHATEVER THE INPUT: true; the input reads as it did. -/
def fnExactSignOfOrderSpec : ChangeSpec := { name := "fnExactSignOfOrder", fn := fun _ => fun
  | [d] => { results := [.lit (.bool true)], args := [d] }
  | _ => none }
def fnExactSignOfOrderRow : OpenClaim := { program := "ytgbmoipkgnklfad", sum := "70a75be29766c9e050a2a48221d40274b5c3038b47ae335ffd90c7995c4c56b8", func := "loop.example/g01295/laws.FnExactSignOfOrder", spec := "fnExactSignOfOrder", recurses := true, apart := false }
def FnExactSignOfOrderSaid : Prop := fnExactSignOfOrderRow.holds Try.pinned (OpenSpec.ofChange fnExactSignOfOrderSpec)

/-- ITS FALSE NEIGHBOUR: 'it returns false'. Refute it at one input. -/
def fnExactSignOfOrderWrong : ChangeSpec := { name := "fnExactSignOfOrder", fn := fun _ => fun
  | [d] => { results := [.lit (.bool false)], args := [d] }
  | _ => none }
def FnExactSignOfOrderWrongFalsely : Prop := fnExactSignOfOrderRow.holds Try.pinned (OpenSpec.ofChange fnExactSignOfOrderWrong)

/-- 'laws.FnExactCountOrders': WHATEVER THE INPUT: true; the input reads as it did. -/
def fnExactCountOrdersSpec : ChangeSpec := { name := "fnExactCountOrders", fn := fun _ => fun
  | [d] => { results := [.lit (.bool true)], args := [d] }
  | _ => none }
def fnExactCountOrdersRow : OpenClaim := { program := "ytgbmoipkgnklfad", sum := "70a75be29766c9e050a2a48221d40274b5c3038b47ae335ffd90c7995c4c56b8", func := "loop.example/g01295/laws.FnExactCountOrders", spec := "fnExactCountOrders", apart := false }
def FnExactCountOrdersSaid : Prop := fnExactCountOrdersRow.holds Try.pinned (OpenSpec.ofChange fnExactCountOrdersSpec)

/-- ITS FALSE NEIGHBOUR: 'it returns false'. Refute it at one input. -/
def fnExactCountOrdersWrong : ChangeSpec := { name := "fnExactCountOrders", fn := fun _ => fun
  | [d] => { results := [.lit (.bool false)], args := [d] }
  | _ => none }
def FnExactCountOrdersWrongFalsely : Prop := fnExactCountOrdersRow.holds Try.pinned (OpenSpec.ofChange fnExactCountOrdersWrong)

/- THE SECOND FORM. 'bulk': how many values and letters a reading holds, each counted each time it is reached (what is shared counts as often as it is met; a slice's spare places count too). A statement '..UptoSaid' is the law's where the arguments, and the package variables that the reading takes, are together of bulk at most 1048576: NARROWER than '..Said'. Prove '..Said' where nothing that the law and all that it calls make is longer than what came in: it says more and counts as full. Else prove '..UptoSaid'. A law counts once. -/
mutual
def uptoBulk {H : Type} : DataW H → Nat
  | .lit (.string bytes) => bytes.length + 1
  | .lit _ => 1
  | .nil => 1
  | .ptr d => uptoBulk d + 1
  | .slice elems spare => uptoBulkAll elems + uptoBulkAll spare + 1
  | .agg parts => uptoBulkAll parts + 1
  | .iface _ d => uptoBulk d + 1
  | .map entries => uptoBulkEntries entries + 1
  | .held _ => 1
def uptoBulkAll {H : Type} : List (DataW H) → Nat
  | [] => 0
  | d :: r => uptoBulk d + uptoBulkAll r
def uptoBulkEntries {H : Type} : List (Lit × DataW H) → Nat
  | [] => 0
  | x :: r => uptoBulkEntry x + uptoBulkEntries r
def uptoBulkEntry {H : Type} : Lit × DataW H → Nat
  | (.string bytes, d) => bytes.length + uptoBulk d + 1
  | (_, d) => uptoBulk d + 1
 end
def uptoSmall : (H : Type) → List (DataW H) → Bool := fun _ ds => decide (uptoBulkAll ds ≤ 1048576)
def OpenSpec.upto (s : _root_.Go.ChangeSpec) : _root_.Go.OpenSpec := { _root_.Go.OpenSpec.ofChange s with cond := some uptoSmall }

/-- 'laws.FnExactCyclesOfOrder', WHERE WHAT IT READS IS OF BULK AT MOST 1048576: true; the input reads as it did. -/
def fnExactCyclesOfOrderUptoRow : OpenClaim := { program := "ytgbmoipkgnklfad", sum := "70a75be29766c9e050a2a48221d40274b5c3038b47ae335ffd90c7995c4c56b8", func := "loop.example/g01295/laws.FnExactCyclesOfOrder", spec := "fnExactCyclesOfOrder", recurses := true, apart := false, narrowed := true }
def FnExactCyclesOfOrderUptoSaid : Prop := fnExactCyclesOfOrderUptoRow.holds Try.pinned (OpenSpec.upto fnExactCyclesOfOrderSpec)

/-- 'laws.FnExactSignOfOrder', WHERE WHAT IT READS IS OF BULK AT MOST 1048576: true; the input reads as it did. -/
def fnExactSignOfOrderUptoRow : OpenClaim := { program := "ytgbmoipkgnklfad", sum := "70a75be29766c9e050a2a48221d40274b5c3038b47ae335ffd90c7995c4c56b8", func := "loop.example/g01295/laws.FnExactSignOfOrder", spec := "fnExactSignOfOrder", recurses := true, apart := false, narrowed := true }
def FnExactSignOfOrderUptoSaid : Prop := fnExactSignOfOrderUptoRow.holds Try.pinned (OpenSpec.upto fnExactSignOfOrderSpec)

/-- 'laws.FnExactCountOrders', WHERE WHAT IT READS IS OF BULK AT MOST 1048576: true; the input reads as it did. -/
def fnExactCountOrdersUptoRow : OpenClaim := { program := "ytgbmoipkgnklfad", sum := "70a75be29766c9e050a2a48221d40274b5c3038b47ae335ffd90c7995c4c56b8", func := "loop.example/g01295/laws.FnExactCountOrders", spec := "fnExactCountOrders", apart := false, narrowed := true }
def FnExactCountOrdersUptoSaid : Prop := fnExactCountOrdersUptoRow.holds Try.pinned (OpenSpec.upto fnExactCountOrdersSpec)

end Rows
end Go.Proofs.Ytgbmoipkgnklfad
