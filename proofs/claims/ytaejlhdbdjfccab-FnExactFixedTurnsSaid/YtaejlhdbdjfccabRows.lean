/-
  No cell of these rows narrows 'for every input' (looked for: loops, veiled, ifaces, maps, wideKeys, modest, calm, conditions, laid).
  DERIVED. THE GIVEN ROWS OF THIS SEAT. 9 by the template 'for every input the law returns true; each argument reads behind the call as it read before'; 0 by the template 'total and deterministic' (their statements: YtaejlhdbdjfccabTotals.lean).
  GIVEN WITH THE SEED: the statements are not yours to turn. If you find one false, say at which input.
  Laid BY PROGRAM, IN A SANDBOX (cutbox-rows.mjs): the forced cells as the released guide's own fill.sh prints them over the translation 160a890cb2ae5d93… (all of the seat's roots in one cut). By AI agents, Wed Nov 11 2026. No macro, syntax, notation, axiom, sorry.
-/
import Derived.Test.YtaejlhdbdjfccabChecked
import GoSem.Claim
import GoSem.ClaimJoined
import GoSem.ClaimMapViews
import Derived.JoinedTies
import Derived.KernelRfl
namespace Go.Proofs.Ytaejlhdbdjfccab
/- THE CELL 'sum', in the pinned program and in every row, IS THE sha256 OF THE DUMP (.gsa) THAT YtaejlhdbdjfccabProg.lean LOADS. Nothing in Lean hashes anything: it is a label: what it is worth is what the hold of that sum in a sandbox is worth. -/
noncomputable def Try.pinned : Pinned := { name := "ytaejlhdbdjfccab", sum := "160a890cb2ae5d9303cbca85c2c36fd5c6eff73353bbd00cb5978f73f78bcc73", checked := Try.checked }
namespace Rows
def none {H : Type} : Left H := { results := [], args := [] }

/-- 'laws.FnExactOrderOut': WHATEVER THE INPUT: true; the input reads as it did. -/
def fnExactOrderOutSpec : ChangeSpec := { name := "fnExactOrderOut", fn := fun _ => fun
  | [d1, d2] => { results := [.lit (.bool true)], args := [d1, d2] }
  | _ => none }
def fnExactOrderOutRow : OpenClaim := { program := "ytaejlhdbdjfccab", sum := "160a890cb2ae5d9303cbca85c2c36fd5c6eff73353bbd00cb5978f73f78bcc73", func := "loop.example/g01295/laws.FnExactOrderOut", spec := "fnExactOrderOut", unfollowed := true, recurses := true, apart := false }
def FnExactOrderOutSaid : Prop := fnExactOrderOutRow.holds Try.pinned (OpenSpec.ofChange fnExactOrderOutSpec)

/-- ITS FALSE NEIGHBOUR: 'it returns false'. Refute it at one input. -/
def fnExactOrderOutWrong : ChangeSpec := { name := "fnExactOrderOut", fn := fun _ => fun
  | [d1, d2] => { results := [.lit (.bool false)], args := [d1, d2] }
  | _ => none }
def FnExactOrderOutWrongFalsely : Prop := fnExactOrderOutRow.holds Try.pinned (OpenSpec.ofChange fnExactOrderOutWrong)

/-- 'laws.FnExactOutAt': WHATEVER THE INPUT: true; the input reads as it did. -/
def fnExactOutAtSpec : ChangeSpec := { name := "fnExactOutAt", fn := fun _ => fun
  | [d1, d2, d3] => { results := [.lit (.bool true)], args := [d1, d2, d3] }
  | _ => none }
def fnExactOutAtRow : OpenClaim := { program := "ytaejlhdbdjfccab", sum := "160a890cb2ae5d9303cbca85c2c36fd5c6eff73353bbd00cb5978f73f78bcc73", func := "loop.example/g01295/laws.FnExactOutAt", spec := "fnExactOutAt", unfollowed := true, recurses := true, apart := false }
def FnExactOutAtSaid : Prop := fnExactOutAtRow.holds Try.pinned (OpenSpec.ofChange fnExactOutAtSpec)

/-- ITS FALSE NEIGHBOUR: 'it returns false'. Refute it at one input. -/
def fnExactOutAtWrong : ChangeSpec := { name := "fnExactOutAt", fn := fun _ => fun
  | [d1, d2, d3] => { results := [.lit (.bool false)], args := [d1, d2, d3] }
  | _ => none }
def FnExactOutAtWrongFalsely : Prop := fnExactOutAtRow.holds Try.pinned (OpenSpec.ofChange fnExactOutAtWrong)

/-- 'laws.FnExactTurnOut': WHATEVER THE INPUT: true; the input reads as it did. -/
def fnExactTurnOutSpec : ChangeSpec := { name := "fnExactTurnOut", fn := fun _ => fun
  | [d1, d2, d3] => { results := [.lit (.bool true)], args := [d1, d2, d3] }
  | _ => none }
def fnExactTurnOutRow : OpenClaim := { program := "ytaejlhdbdjfccab", sum := "160a890cb2ae5d9303cbca85c2c36fd5c6eff73353bbd00cb5978f73f78bcc73", func := "loop.example/g01295/laws.FnExactTurnOut", spec := "fnExactTurnOut", unfollowed := true, recurses := true, apart := false }
def FnExactTurnOutSaid : Prop := fnExactTurnOutRow.holds Try.pinned (OpenSpec.ofChange fnExactTurnOutSpec)

/-- ITS FALSE NEIGHBOUR: 'it returns false'. Refute it at one input. -/
def fnExactTurnOutWrong : ChangeSpec := { name := "fnExactTurnOut", fn := fun _ => fun
  | [d1, d2, d3] => { results := [.lit (.bool false)], args := [d1, d2, d3] }
  | _ => none }
def FnExactTurnOutWrongFalsely : Prop := fnExactTurnOutRow.holds Try.pinned (OpenSpec.ofChange fnExactTurnOutWrong)

/-- 'laws.FnExactLeftAfter': WHATEVER THE INPUT: true; the input reads as it did. -/
def fnExactLeftAfterSpec : ChangeSpec := { name := "fnExactLeftAfter", fn := fun _ => fun
  | [d1, d2, d3] => { results := [.lit (.bool true)], args := [d1, d2, d3] }
  | _ => none }
def fnExactLeftAfterRow : OpenClaim := { program := "ytaejlhdbdjfccab", sum := "160a890cb2ae5d9303cbca85c2c36fd5c6eff73353bbd00cb5978f73f78bcc73", func := "loop.example/g01295/laws.FnExactLeftAfter", spec := "fnExactLeftAfter", unfollowed := true, recurses := true, apart := false }
def FnExactLeftAfterSaid : Prop := fnExactLeftAfterRow.holds Try.pinned (OpenSpec.ofChange fnExactLeftAfterSpec)

/-- ITS FALSE NEIGHBOUR: 'it returns false'. Refute it at one input. -/
def fnExactLeftAfterWrong : ChangeSpec := { name := "fnExactLeftAfter", fn := fun _ => fun
  | [d1, d2, d3] => { results := [.lit (.bool false)], args := [d1, d2, d3] }
  | _ => none }
def FnExactLeftAfterWrongFalsely : Prop := fnExactLeftAfterRow.holds Try.pinned (OpenSpec.ofChange fnExactLeftAfterWrong)

/-- 'laws.FnExactBackOrder': WHATEVER THE INPUT: true; the input reads as it did. -/
def fnExactBackOrderSpec : ChangeSpec := { name := "fnExactBackOrder", fn := fun _ => fun
  | [d1, d2] => { results := [.lit (.bool true)], args := [d1, d2] }
  | _ => none }
def fnExactBackOrderRow : OpenClaim := { program := "ytaejlhdbdjfccab", sum := "160a890cb2ae5d9303cbca85c2c36fd5c6eff73353bbd00cb5978f73f78bcc73", func := "loop.example/g01295/laws.FnExactBackOrder", spec := "fnExactBackOrder", unfollowed := true, recurses := true, apart := false }
def FnExactBackOrderSaid : Prop := fnExactBackOrderRow.holds Try.pinned (OpenSpec.ofChange fnExactBackOrderSpec)

/-- ITS FALSE NEIGHBOUR: 'it returns false'. Refute it at one input. -/
def fnExactBackOrderWrong : ChangeSpec := { name := "fnExactBackOrder", fn := fun _ => fun
  | [d1, d2] => { results := [.lit (.bool false)], args := [d1, d2] }
  | _ => none }
def FnExactBackOrderWrongFalsely : Prop := fnExactBackOrderRow.holds Try.pinned (OpenSpec.ofChange fnExactBackOrderWrong)

/-- 'laws.FnExactStepRing': WHATEVER THE INPUT: true; the input reads as it did. -/
def fnExactStepRingSpec : ChangeSpec := { name := "fnExactStepRing", fn := fun _ => fun
  | [d] => { results := [.lit (.bool true)], args := [d] }
  | _ => none }
def fnExactStepRingRow : OpenClaim := { program := "ytaejlhdbdjfccab", sum := "160a890cb2ae5d9303cbca85c2c36fd5c6eff73353bbd00cb5978f73f78bcc73", func := "loop.example/g01295/laws.FnExactStepRing", spec := "fnExactStepRing", unfollowed := true, recurses := true, apart := false }
def FnExactStepRingSaid : Prop := fnExactStepRingRow.holds Try.pinned (OpenSpec.ofChange fnExactStepRingSpec)

/-- ITS FALSE NEIGHBOUR: 'it returns false'. Refute it at one input. -/
def fnExactStepRingWrong : ChangeSpec := { name := "fnExactStepRing", fn := fun _ => fun
  | [d] => { results := [.lit (.bool false)], args := [d] }
  | _ => none }
def FnExactStepRingWrongFalsely : Prop := fnExactStepRingRow.holds Try.pinned (OpenSpec.ofChange fnExactStepRingWrong)

/-- 'laws.FnExactRingOrder': WHATEVER THE INPUT: true; the input reads as it did. -/
def fnExactRingOrderSpec : ChangeSpec := { name := "fnExactRingOrder", fn := fun _ => fun
  | [d] => { results := [.lit (.bool true)], args := [d] }
  | _ => none }
def fnExactRingOrderRow : OpenClaim := { program := "ytaejlhdbdjfccab", sum := "160a890cb2ae5d9303cbca85c2c36fd5c6eff73353bbd00cb5978f73f78bcc73", func := "loop.example/g01295/laws.FnExactRingOrder", spec := "fnExactRingOrder", unfollowed := true, recurses := true, apart := false }
def FnExactRingOrderSaid : Prop := fnExactRingOrderRow.holds Try.pinned (OpenSpec.ofChange fnExactRingOrderSpec)

/-- ITS FALSE NEIGHBOUR: 'it returns false'. Refute it at one input. -/
def fnExactRingOrderWrong : ChangeSpec := { name := "fnExactRingOrder", fn := fun _ => fun
  | [d] => { results := [.lit (.bool false)], args := [d] }
  | _ => none }
def FnExactRingOrderWrongFalsely : Prop := fnExactRingOrderRow.holds Try.pinned (OpenSpec.ofChange fnExactRingOrderWrong)

/-- 'laws.FnExactGapsOut': WHATEVER THE INPUT: true; the input reads as it did. -/
def fnExactGapsOutSpec : ChangeSpec := { name := "fnExactGapsOut", fn := fun _ => fun
  | [d1, d2] => { results := [.lit (.bool true)], args := [d1, d2] }
  | _ => none }
def fnExactGapsOutRow : OpenClaim := { program := "ytaejlhdbdjfccab", sum := "160a890cb2ae5d9303cbca85c2c36fd5c6eff73353bbd00cb5978f73f78bcc73", func := "loop.example/g01295/laws.FnExactGapsOut", spec := "fnExactGapsOut", unfollowed := true, recurses := true, apart := false }
def FnExactGapsOutSaid : Prop := fnExactGapsOutRow.holds Try.pinned (OpenSpec.ofChange fnExactGapsOutSpec)

/-- ITS FALSE NEIGHBOUR: 'it returns false'. Refute it at one input. -/
def fnExactGapsOutWrong : ChangeSpec := { name := "fnExactGapsOut", fn := fun _ => fun
  | [d1, d2] => { results := [.lit (.bool false)], args := [d1, d2] }
  | _ => none }
def FnExactGapsOutWrongFalsely : Prop := fnExactGapsOutRow.holds Try.pinned (OpenSpec.ofChange fnExactGapsOutWrong)

/-- 'laws.FnExactFixedTurns': WHATEVER THE INPUT: true; the input reads as it did. -/
def fnExactFixedTurnsSpec : ChangeSpec := { name := "fnExactFixedTurns", fn := fun _ => fun
  | [d1, d2] => { results := [.lit (.bool true)], args := [d1, d2] }
  | _ => none }
def fnExactFixedTurnsRow : OpenClaim := { program := "ytaejlhdbdjfccab", sum := "160a890cb2ae5d9303cbca85c2c36fd5c6eff73353bbd00cb5978f73f78bcc73", func := "loop.example/g01295/laws.FnExactFixedTurns", spec := "fnExactFixedTurns", unfollowed := true, recurses := true, apart := false }
def FnExactFixedTurnsSaid : Prop := fnExactFixedTurnsRow.holds Try.pinned (OpenSpec.ofChange fnExactFixedTurnsSpec)

/-- ITS FALSE NEIGHBOUR: 'it returns false'. Refute it at one input. -/
def fnExactFixedTurnsWrong : ChangeSpec := { name := "fnExactFixedTurns", fn := fun _ => fun
  | [d1, d2] => { results := [.lit (.bool false)], args := [d1, d2] }
  | _ => none }
def FnExactFixedTurnsWrongFalsely : Prop := fnExactFixedTurnsRow.holds Try.pinned (OpenSpec.ofChange fnExactFixedTurnsWrong)

/- THE SECOND FORM. 'bulk': how many values and letters a reading holds, each counted each time it is reached (what is shared counts as often as it is met; a slice's spare places count too). A statement '..UptoSaid' is the law's where the arguments, and the package variables that the reading takes, are together of bulk at most 1048576: NARROWER than '..Said'. Prove '..Said' where nothing that the law and all that it calls make is longer than what came in: it says more and counts as full. Else prove '..UptoSaid'. A law counts once. -/
mutual
def uptoBulk {H : Type} : DataW H → Nat
  | .lit (.string bytes) => bytes.length + 1
  | .lit _ => 1
  | .nil => 1
  | .ptr d => uptoBulk d + 1
  | .slice elems spare => uptoBulkAll elems + uptoBulkAll spare + 1
  | .agg parts => uptoBulkAll parts + 1
  | .iface _ d => uptoBulk d + 1
  | .map entries => uptoBulkEntries entries + 1
  | .held _ => 1
def uptoBulkAll {H : Type} : List (DataW H) → Nat
  | [] => 0
  | d :: r => uptoBulk d + uptoBulkAll r
def uptoBulkEntries {H : Type} : List (Lit × DataW H) → Nat
  | [] => 0
  | x :: r => uptoBulkEntry x + uptoBulkEntries r
def uptoBulkEntry {H : Type} : Lit × DataW H → Nat
  | (.string bytes, d) => bytes.length + uptoBulk d + 1
  | (_, d) => uptoBulk d + 1
 end
def uptoSmall : (H : Type) → List (DataW H) → Bool := fun _ ds => decide (uptoBulkAll ds ≤ 1048576)
def OpenSpec.upto (s : _root_.Go.ChangeSpec) : _root_.Go.OpenSpec := { _root_.Go.OpenSpec.ofChange s with cond := some uptoSmall }

/-- 'laws.FnExactOrderOut', WHERE WHAT IT READS IS OF BULK AT MOST 1048576: true; the input reads as it did. -/
def fnExactOrderOutUptoRow : OpenClaim := { program := "ytaejlhdbdjfccab", sum := "160a890cb2ae5d9303cbca85c2c36fd5c6eff73353bbd00cb5978f73f78bcc73", func := "loop.example/g01295/laws.FnExactOrderOut", spec := "fnExactOrderOut", unfollowed := true, recurses := true, apart := false, narrowed := true }
def FnExactOrderOutUptoSaid : Prop := fnExactOrderOutUptoRow.holds Try.pinned (OpenSpec.upto fnExactOrderOutSpec)

/-- 'laws.FnExactOutAt', WHERE WHAT IT READS IS OF BULK AT MOST 1048576: true; the input reads as it did. -/
def fnExactOutAtUptoRow : OpenClaim := { program := "ytaejlhdbdjfccab", sum := "160a890cb2ae5d9303cbca85c2c36fd5c6eff73353bbd00cb5978f73f78bcc73", func := "loop.example/g01295/laws.FnExactOutAt", spec := "fnExactOutAt", unfollowed := true, recurses := true, apart := false, narrowed := true }
def FnExactOutAtUptoSaid : Prop := fnExactOutAtUptoRow.holds Try.pinned (OpenSpec.upto fnExactOutAtSpec)

/-- 'laws.FnExactTurnOut', WHERE WHAT IT READS IS OF BULK AT MOST 1048576: true; the input reads as it did. -/
def fnExactTurnOutUptoRow : OpenClaim := { program := "ytaejlhdbdjfccab", sum := "160a890cb2ae5d9303cbca85c2c36fd5c6eff73353bbd00cb5978f73f78bcc73", func := "loop.example/g01295/laws.FnExactTurnOut", spec := "fnExactTurnOut", unfollowed := true, recurses := true, apart := false, narrowed := true }
def FnExactTurnOutUptoSaid : Prop := fnExactTurnOutUptoRow.holds Try.pinned (OpenSpec.upto fnExactTurnOutSpec)

/-- 'laws.FnExactLeftAfter', WHERE WHAT IT READS IS OF BULK AT MOST 1048576: true; the input reads as it did. -/
def fnExactLeftAfterUptoRow : OpenClaim := { program := "ytaejlhdbdjfccab", sum := "160a890cb2ae5d9303cbca85c2c36fd5c6eff73353bbd00cb5978f73f78bcc73", func := "loop.example/g01295/laws.FnExactLeftAfter", spec := "fnExactLeftAfter", unfollowed := true, recurses := true, apart := false, narrowed := true }
def FnExactLeftAfterUptoSaid : Prop := fnExactLeftAfterUptoRow.holds Try.pinned (OpenSpec.upto fnExactLeftAfterSpec)

/-- 'laws.FnExactBackOrder', WHERE WHAT IT READS IS OF BULK AT MOST 1048576: true; the input reads as it did. -/
def fnExactBackOrderUptoRow : OpenClaim := { program := "ytaejlhdbdjfccab", sum := "160a890cb2ae5d9303cbca85c2c36fd5c6eff73353bbd00cb5978f73f78bcc73", func := "loop.example/g01295/laws.FnExactBackOrder", spec := "fnExactBackOrder", unfollowed := true, recurses := true, apart := false, narrowed := true }
def FnExactBackOrderUptoSaid : Prop := fnExactBackOrderUptoRow.holds Try.pinned (OpenSpec.upto fnExactBackOrderSpec)

/-- 'laws.FnExactStepRing', WHERE WHAT IT READS IS OF BULK AT MOST 1048576: true; the input reads as it did. -/
def fnExactStepRingUptoRow : OpenClaim := { program := "ytaejlhdbdjfccab", sum := "160a890cb2ae5d9303cbca85c2c36fd5c6eff73353bbd00cb5978f73f78bcc73", func := "loop.example/g01295/laws.FnExactStepRing", spec := "fnExactStepRing", unfollowed := true, recurses := true, apart := false, narrowed := true }
def FnExactStepRingUptoSaid : Prop := fnExactStepRingUptoRow.holds Try.pinned (OpenSpec.upto fnExactStepRingSpec)

/-- 'laws.FnExactRingOrder', WHERE WHAT IT READS IS OF BULK AT MOST 1048576: true; the input reads as it did. -/
def fnExactRingOrderUptoRow : OpenClaim := { program := "ytaejlhdbdjfccab", sum := "160a890cb2ae5d9303cbca85c2c36fd5c6eff73353bbd00cb5978f73f78bcc73", func := "loop.example/g01295/laws.FnExactRingOrder", spec := "fnExactRingOrder", unfollowed := true, recurses := true, apart := false, narrowed := true }
def FnExactRingOrderUptoSaid : Prop := fnExactRingOrderUptoRow.holds Try.pinned (OpenSpec.upto fnExactRingOrderSpec)

/-- 'laws.FnExactGapsOut', WHERE WHAT IT READS IS OF BULK AT MOST 1048576: true; the input reads as it did. -/
def fnExactGapsOutUptoRow : OpenClaim := { program := "ytaejlhdbdjfccab", sum := "160a890cb2ae5d9303cbca85c2c36fd5c6eff73353bbd00cb5978f73f78bcc73", func := "loop.example/g01295/laws.FnExactGapsOut", spec := "fnExactGapsOut", unfollowed := true, recurses := true, apart := false, narrowed := true }
def FnExactGapsOutUptoSaid : Prop := fnExactGapsOutUptoRow.holds Try.pinned (OpenSpec.upto fnExactGapsOutSpec)

/-- 'laws.FnExactFixedTurns', WHERE WHAT IT READS IS OF BULK AT MOST 1048576: true; the input reads as it did. -/
def fnExactFixedTurnsUptoRow : OpenClaim := { program := "ytaejlhdbdjfccab", sum := "160a890cb2ae5d9303cbca85c2c36fd5c6eff73353bbd00cb5978f73f78bcc73", func := "loop.example/g01295/laws.FnExactFixedTurns", spec := "fnExactFixedTurns", unfollowed := true, recurses := true, apart := false, narrowed := true }
def FnExactFixedTurnsUptoSaid : Prop := fnExactFixedTurnsUptoRow.holds Try.pinned (OpenSpec.upto fnExactFixedTurnsSpec)

end Rows
end Go.Proofs.Ytaejlhdbdjfccab
