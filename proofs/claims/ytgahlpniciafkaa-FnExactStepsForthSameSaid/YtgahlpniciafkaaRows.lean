/-
  No cell of these rows narrows 'for every input' (looked for: loops, veiled, ifaces, maps, wideKeys, modest, calm, conditions, laid).
  DERIVED. THE GIVEN ROWS OF THIS SEAT. 9 by the template 'for every input the law returns true; each argument reads behind the call as it read before'; 0 by the template 'total and deterministic' (their statements: YtgahlpniciafkaaTotals.lean).
  GIVEN WITH THE SEED: the statements are not yours to turn. If you find one false, say at which input.
  Laid BY PROGRAM, IN A SANDBOX (cutbox-rows.mjs): the forced cells as the released guide's own fill.sh prints them over the translation 00c25d96847adb34… (all of the seat's roots in one cut). By AI agents, Wed Nov 11 2026. No macro, syntax, notation, axiom, sorry.
-/
import Derived.Test.YtgahlpniciafkaaChecked
import GoSem.Claim
import GoSem.ClaimJoined
import GoSem.ClaimMapViews
import Derived.JoinedTies
import Derived.KernelRfl
namespace Go.Proofs.Ytgahlpniciafkaa
/- THE CELL 'sum', in the pinned program and in every row, IS THE sha256 OF THE DUMP (.gsa) THAT YtgahlpniciafkaaProg.lean LOADS. Nothing in Lean hashes anything: it is a label: what it is worth is what the hold of that sum in a sandbox is worth. -/
noncomputable def Try.pinned : Pinned := { name := "ytgahlpniciafkaa", sum := "00c25d96847adb3474329ef2c4922fee769da479555dee8ad787c35e6b6c7f9c", checked := Try.checked }
namespace Rows
def none {H : Type} : Left H := { results := [], args := [] }

/-- 'laws.FnExactBackOrder': WHATEVER THE INPUT: true; the input reads as it did. -/
def fnExactBackOrderSpec : ChangeSpec := { name := "fnExactBackOrder", fn := fun _ => fun
  | [d1, d2] => { results := [.lit (.bool true)], args := [d1, d2] }
  | _ => none }
def fnExactBackOrderRow : OpenClaim := { program := "ytgahlpniciafkaa", sum := "00c25d96847adb3474329ef2c4922fee769da479555dee8ad787c35e6b6c7f9c", func := "loop.example/g01295/laws.FnExactBackOrder", spec := "fnExactBackOrder", unfollowed := true, recurses := true, apart := false }
def FnExactBackOrderSaid : Prop := fnExactBackOrderRow.holds Try.pinned (OpenSpec.ofChange fnExactBackOrderSpec)

/-- ITS FALSE NEIGHBOUR: 'it returns false'. Refute it at one input. -/
def fnExactBackOrderWrong : ChangeSpec := { name := "fnExactBackOrder", fn := fun _ => fun
  | [d1, d2] => { results := [.lit (.bool false)], args := [d1, d2] }
  | _ => none }
def FnExactBackOrderWrongFalsely : Prop := fnExactBackOrderRow.holds Try.pinned (OpenSpec.ofChange fnExactBackOrderWrong)

/-- 'laws.FnExactTurningOrder': WHATEVER THE INPUT: true; the input reads as it did. -/
def fnExactTurningOrderSpec : ChangeSpec := { name := "fnExactTurningOrder", fn := fun _ => fun
  | [d1, d2] => { results := [.lit (.bool true)], args := [d1, d2] }
  | _ => none }
def fnExactTurningOrderRow : OpenClaim := { program := "ytgahlpniciafkaa", sum := "00c25d96847adb3474329ef2c4922fee769da479555dee8ad787c35e6b6c7f9c", func := "loop.example/g01295/laws.FnExactTurningOrder", spec := "fnExactTurningOrder", unfollowed := true, recurses := true, apart := false }
def FnExactTurningOrderSaid : Prop := fnExactTurningOrderRow.holds Try.pinned (OpenSpec.ofChange fnExactTurningOrderSpec)

/-- ITS FALSE NEIGHBOUR: 'it returns false'. Refute it at one input. -/
def fnExactTurningOrderWrong : ChangeSpec := { name := "fnExactTurningOrder", fn := fun _ => fun
  | [d1, d2] => { results := [.lit (.bool false)], args := [d1, d2] }
  | _ => none }
def FnExactTurningOrderWrongFalsely : Prop := fnExactTurningOrderRow.holds Try.pinned (OpenSpec.ofChange fnExactTurningOrderWrong)

/-- 'laws.FnExactTurningLast': WHATEVER THE INPUT: true; the input reads as it did. -/
def fnExactTurningLastSpec : ChangeSpec := { name := "fnExactTurningLast", fn := fun _ => fun
  | [d1, d2] => { results := [.lit (.bool true)], args := [d1, d2] }
  | _ => none }
def fnExactTurningLastRow : OpenClaim := { program := "ytgahlpniciafkaa", sum := "00c25d96847adb3474329ef2c4922fee769da479555dee8ad787c35e6b6c7f9c", func := "loop.example/g01295/laws.FnExactTurningLast", spec := "fnExactTurningLast", unfollowed := true, recurses := true, apart := false }
def FnExactTurningLastSaid : Prop := fnExactTurningLastRow.holds Try.pinned (OpenSpec.ofChange fnExactTurningLastSpec)

/-- ITS FALSE NEIGHBOUR: 'it returns false'. Refute it at one input. -/
def fnExactTurningLastWrong : ChangeSpec := { name := "fnExactTurningLast", fn := fun _ => fun
  | [d1, d2] => { results := [.lit (.bool false)], args := [d1, d2] }
  | _ => none }
def FnExactTurningLastWrongFalsely : Prop := fnExactTurningLastRow.holds Try.pinned (OpenSpec.ofChange fnExactTurningLastWrong)

/-- 'laws.FnExactTurningTurn': WHATEVER THE INPUT: true; the input reads as it did. -/
def fnExactTurningTurnSpec : ChangeSpec := { name := "fnExactTurningTurn", fn := fun _ => fun
  | [d1, d2, d3] => { results := [.lit (.bool true)], args := [d1, d2, d3] }
  | _ => none }
def fnExactTurningTurnRow : OpenClaim := { program := "ytgahlpniciafkaa", sum := "00c25d96847adb3474329ef2c4922fee769da479555dee8ad787c35e6b6c7f9c", func := "loop.example/g01295/laws.FnExactTurningTurn", spec := "fnExactTurningTurn", unfollowed := true, recurses := true, apart := false }
def FnExactTurningTurnSaid : Prop := fnExactTurningTurnRow.holds Try.pinned (OpenSpec.ofChange fnExactTurningTurnSpec)

/-- ITS FALSE NEIGHBOUR: 'it returns false'. Refute it at one input. -/
def fnExactTurningTurnWrong : ChangeSpec := { name := "fnExactTurningTurn", fn := fun _ => fun
  | [d1, d2, d3] => { results := [.lit (.bool false)], args := [d1, d2, d3] }
  | _ => none }
def FnExactTurningTurnWrongFalsely : Prop := fnExactTurningTurnRow.holds Try.pinned (OpenSpec.ofChange fnExactTurningTurnWrong)

/-- 'laws.FnExactTurningTable': WHATEVER THE INPUT: true; the input reads as it did. -/
def fnExactTurningTableSpec : ChangeSpec := { name := "fnExactTurningTable", fn := fun _ => fun
  | [d1, d2] => { results := [.lit (.bool true)], args := [d1, d2] }
  | _ => none }
def fnExactTurningTableRow : OpenClaim := { program := "ytgahlpniciafkaa", sum := "00c25d96847adb3474329ef2c4922fee769da479555dee8ad787c35e6b6c7f9c", func := "loop.example/g01295/laws.FnExactTurningTable", spec := "fnExactTurningTable", unfollowed := true, recurses := true, apart := false }
def FnExactTurningTableSaid : Prop := fnExactTurningTableRow.holds Try.pinned (OpenSpec.ofChange fnExactTurningTableSpec)

/-- ITS FALSE NEIGHBOUR: 'it returns false'. Refute it at one input. -/
def fnExactTurningTableWrong : ChangeSpec := { name := "fnExactTurningTable", fn := fun _ => fun
  | [d1, d2] => { results := [.lit (.bool false)], args := [d1, d2] }
  | _ => none }
def FnExactTurningTableWrongFalsely : Prop := fnExactTurningTableRow.holds Try.pinned (OpenSpec.ofChange fnExactTurningTableWrong)

/-- 'laws.FnExactForthAndBack': WHATEVER THE INPUT: true; the input reads as it did. -/
def fnExactForthAndBackSpec : ChangeSpec := { name := "fnExactForthAndBack", fn := fun _ => fun
  | [d1, d2, d3] => { results := [.lit (.bool true)], args := [d1, d2, d3] }
  | _ => none }
def fnExactForthAndBackRow : OpenClaim := { program := "ytgahlpniciafkaa", sum := "00c25d96847adb3474329ef2c4922fee769da479555dee8ad787c35e6b6c7f9c", func := "loop.example/g01295/laws.FnExactForthAndBack", spec := "fnExactForthAndBack", unfollowed := true, recurses := true, apart := false }
def FnExactForthAndBackSaid : Prop := fnExactForthAndBackRow.holds Try.pinned (OpenSpec.ofChange fnExactForthAndBackSpec)

/-- ITS FALSE NEIGHBOUR: 'it returns false'. Refute it at one input. -/
def fnExactForthAndBackWrong : ChangeSpec := { name := "fnExactForthAndBack", fn := fun _ => fun
  | [d1, d2, d3] => { results := [.lit (.bool false)], args := [d1, d2, d3] }
  | _ => none }
def FnExactForthAndBackWrongFalsely : Prop := fnExactForthAndBackRow.holds Try.pinned (OpenSpec.ofChange fnExactForthAndBackWrong)

/-- 'laws.FnExactLastOfBoth': WHATEVER THE INPUT: true; the input reads as it did. -/
def fnExactLastOfBothSpec : ChangeSpec := { name := "fnExactLastOfBoth", fn := fun _ => fun
  | [d1, d2, d3] => { results := [.lit (.bool true)], args := [d1, d2, d3] }
  | _ => none }
def fnExactLastOfBothRow : OpenClaim := { program := "ytgahlpniciafkaa", sum := "00c25d96847adb3474329ef2c4922fee769da479555dee8ad787c35e6b6c7f9c", func := "loop.example/g01295/laws.FnExactLastOfBoth", spec := "fnExactLastOfBoth", unfollowed := true, recurses := true, apart := false }
def FnExactLastOfBothSaid : Prop := fnExactLastOfBothRow.holds Try.pinned (OpenSpec.ofChange fnExactLastOfBothSpec)

/-- ITS FALSE NEIGHBOUR: 'it returns false'. Refute it at one input. -/
def fnExactLastOfBothWrong : ChangeSpec := { name := "fnExactLastOfBoth", fn := fun _ => fun
  | [d1, d2, d3] => { results := [.lit (.bool false)], args := [d1, d2, d3] }
  | _ => none }
def FnExactLastOfBothWrongFalsely : Prop := fnExactLastOfBothRow.holds Try.pinned (OpenSpec.ofChange fnExactLastOfBothWrong)

/-- 'laws.FnExactMirrorPerson': WHATEVER THE INPUT: true; the input reads as it did. -/
def fnExactMirrorPersonSpec : ChangeSpec := { name := "fnExactMirrorPerson", fn := fun _ => fun
  | [d1, d2] => { results := [.lit (.bool true)], args := [d1, d2] }
  | _ => none }
def fnExactMirrorPersonRow : OpenClaim := { program := "ytgahlpniciafkaa", sum := "00c25d96847adb3474329ef2c4922fee769da479555dee8ad787c35e6b6c7f9c", func := "loop.example/g01295/laws.FnExactMirrorPerson", spec := "fnExactMirrorPerson", apart := false }
def FnExactMirrorPersonSaid : Prop := fnExactMirrorPersonRow.holds Try.pinned (OpenSpec.ofChange fnExactMirrorPersonSpec)

/-- ITS FALSE NEIGHBOUR: 'it returns false'. Refute it at one input. -/
def fnExactMirrorPersonWrong : ChangeSpec := { name := "fnExactMirrorPerson", fn := fun _ => fun
  | [d1, d2] => { results := [.lit (.bool false)], args := [d1, d2] }
  | _ => none }
def FnExactMirrorPersonWrongFalsely : Prop := fnExactMirrorPersonRow.holds Try.pinned (OpenSpec.ofChange fnExactMirrorPersonWrong)

/-- 'laws.FnExactStepsForthSame': WHATEVER THE INPUT: true; the input reads as it did. -/
def fnExactStepsForthSameSpec : ChangeSpec := { name := "fnExactStepsForthSame", fn := fun _ => fun
  | [d1, d2] => { results := [.lit (.bool true)], args := [d1, d2] }
  | _ => none }
def fnExactStepsForthSameRow : OpenClaim := { program := "ytgahlpniciafkaa", sum := "00c25d96847adb3474329ef2c4922fee769da479555dee8ad787c35e6b6c7f9c", func := "loop.example/g01295/laws.FnExactStepsForthSame", spec := "fnExactStepsForthSame", unfollowed := true, recurses := true, apart := false }
def FnExactStepsForthSameSaid : Prop := fnExactStepsForthSameRow.holds Try.pinned (OpenSpec.ofChange fnExactStepsForthSameSpec)

/-- ITS FALSE NEIGHBOUR: 'it returns false'. Refute it at one input. -/
def fnExactStepsForthSameWrong : ChangeSpec := { name := "fnExactStepsForthSame", fn := fun _ => fun
  | [d1, d2] => { results := [.lit (.bool false)], args := [d1, d2] }
  | _ => none }
def FnExactStepsForthSameWrongFalsely : Prop := fnExactStepsForthSameRow.holds Try.pinned (OpenSpec.ofChange fnExactStepsForthSameWrong)

/- THE SECOND FORM. 'bulk': how many values and letters a reading holds, each counted each time it is reached (what is shared counts as often as it is met; a slice's spare places count too). A statement '..UptoSaid' is the law's where the arguments, and the package variables that the reading takes, are together of bulk at most 1048576: NARROWER than '..Said'. Prove '..Said' where nothing that the law and all that it calls make is longer than what came in: it says more and counts as full. Else prove '..UptoSaid'. A law counts once. -/
mutual
def uptoBulk {H : Type} : DataW H → Nat
  | .lit (.string bytes) => bytes.length + 1
  | .lit _ => 1
  | .nil => 1
  | .ptr d => uptoBulk d + 1
  | .slice elems spare => uptoBulkAll elems + uptoBulkAll spare + 1
  | .agg parts => uptoBulkAll parts + 1
  | .iface _ d => uptoBulk d + 1
  | .map entries => uptoBulkEntries entries + 1
  | .held _ => 1
def uptoBulkAll {H : Type} : List (DataW H) → Nat
  | [] => 0
  | d :: r => uptoBulk d + uptoBulkAll r
def uptoBulkEntries {H : Type} : List (Lit × DataW H) → Nat
  | [] => 0
  | x :: r => uptoBulkEntry x + uptoBulkEntries r
def uptoBulkEntry {H : Type} : Lit × DataW H → Nat
  | (.string bytes, d) => bytes.length + uptoBulk d + 1
  | (_, d) => uptoBulk d + 1
 end
def uptoSmall : (H : Type) → List (DataW H) → Bool := fun _ ds => decide (uptoBulkAll ds ≤ 1048576)
def OpenSpec.upto (s : _root_.Go.ChangeSpec) : _root_.Go.OpenSpec := { _root_.Go.OpenSpec.ofChange s with cond := some uptoSmall }

/-- 'laws.FnExactBackOrder', WHERE WHAT IT READS IS OF BULK AT MOST 1048576: true; the input reads as it did. -/
def fnExactBackOrderUptoRow : OpenClaim := { program := "ytgahlpniciafkaa", sum := "00c25d96847adb3474329ef2c4922fee769da479555dee8ad787c35e6b6c7f9c", func := "loop.example/g01295/laws.FnExactBackOrder", spec := "fnExactBackOrder", unfollowed := true, recurses := true, apart := false, narrowed := true }
def FnExactBackOrderUptoSaid : Prop := fnExactBackOrderUptoRow.holds Try.pinned (OpenSpec.upto fnExactBackOrderSpec)

/-- 'laws.FnExactTurningOrder', WHERE WHAT IT READS IS OF BULK AT MOST 1048576: true; the input reads as it did. -/
def fnExactTurningOrderUptoRow : OpenClaim := { program := "ytgahlpniciafkaa", sum := "00c25d96847adb3474329ef2c4922fee769da479555dee8ad787c35e6b6c7f9c", func := "loop.example/g01295/laws.FnExactTurningOrder", spec := "fnExactTurningOrder", unfollowed := true, recurses := true, apart := false, narrowed := true }
def FnExactTurningOrderUptoSaid : Prop := fnExactTurningOrderUptoRow.holds Try.pinned (OpenSpec.upto fnExactTurningOrderSpec)

/-- 'laws.FnExactTurningLast', WHERE WHAT IT READS IS OF BULK AT MOST 1048576: true; the input reads as it did. -/
def fnExactTurningLastUptoRow : OpenClaim := { program := "ytgahlpniciafkaa", sum := "00c25d96847adb3474329ef2c4922fee769da479555dee8ad787c35e6b6c7f9c", func := "loop.example/g01295/laws.FnExactTurningLast", spec := "fnExactTurningLast", unfollowed := true, recurses := true, apart := false, narrowed := true }
def FnExactTurningLastUptoSaid : Prop := fnExactTurningLastUptoRow.holds Try.pinned (OpenSpec.upto fnExactTurningLastSpec)

/-- 'laws.FnExactTurningTurn', WHERE WHAT IT READS IS OF BULK AT MOST 1048576: true; the input reads as it did. -/
def fnExactTurningTurnUptoRow : OpenClaim := { program := "ytgahlpniciafkaa", sum := "00c25d96847adb3474329ef2c4922fee769da479555dee8ad787c35e6b6c7f9c", func := "loop.example/g01295/laws.FnExactTurningTurn", spec := "fnExactTurningTurn", unfollowed := true, recurses := true, apart := false, narrowed := true }
def FnExactTurningTurnUptoSaid : Prop := fnExactTurningTurnUptoRow.holds Try.pinned (OpenSpec.upto fnExactTurningTurnSpec)

/-- 'laws.FnExactTurningTable', WHERE WHAT IT READS IS OF BULK AT MOST 1048576: true; the input reads as it did. -/
def fnExactTurningTableUptoRow : OpenClaim := { program := "ytgahlpniciafkaa", sum := "00c25d96847adb3474329ef2c4922fee769da479555dee8ad787c35e6b6c7f9c", func := "loop.example/g01295/laws.FnExactTurningTable", spec := "fnExactTurningTable", unfollowed := true, recurses := true, apart := false, narrowed := true }
def FnExactTurningTableUptoSaid : Prop := fnExactTurningTableUptoRow.holds Try.pinned (OpenSpec.upto fnExactTurningTableSpec)

/-- 'laws.FnExactForthAndBack', WHERE WHAT IT READS IS OF BULK AT MOST 1048576: true; the input reads as it did. -/
def fnExactForthAndBackUptoRow : OpenClaim := { program := "ytgahlpniciafkaa", sum := "00c25d96847adb3474329ef2c4922fee769da479555dee8ad787c35e6b6c7f9c", func := "loop.example/g01295/laws.FnExactForthAndBack", spec := "fnExactForthAndBack", unfollowed := true, recurses := true, apart := false, narrowed := true }
def FnExactForthAndBackUptoSaid : Prop := fnExactForthAndBackUptoRow.holds Try.pinned (OpenSpec.upto fnExactForthAndBackSpec)

/-- 'laws.FnExactLastOfBoth', WHERE WHAT IT READS IS OF BULK AT MOST 1048576: true; the input reads as it did. -/
def fnExactLastOfBothUptoRow : OpenClaim := { program := "ytgahlpniciafkaa", sum := "00c25d96847adb3474329ef2c4922fee769da479555dee8ad787c35e6b6c7f9c", func := "loop.example/g01295/laws.FnExactLastOfBoth", spec := "fnExactLastOfBoth", unfollowed := true, recurses := true, apart := false, narrowed := true }
def FnExactLastOfBothUptoSaid : Prop := fnExactLastOfBothUptoRow.holds Try.pinned (OpenSpec.upto fnExactLastOfBothSpec)

/-- 'laws.FnExactMirrorPerson', WHERE WHAT IT READS IS OF BULK AT MOST 1048576: true; the input reads as it did. -/
def fnExactMirrorPersonUptoRow : OpenClaim := { program := "ytgahlpniciafkaa", sum := "00c25d96847adb3474329ef2c4922fee769da479555dee8ad787c35e6b6c7f9c", func := "loop.example/g01295/laws.FnExactMirrorPerson", spec := "fnExactMirrorPerson", apart := false, narrowed := true }
def FnExactMirrorPersonUptoSaid : Prop := fnExactMirrorPersonUptoRow.holds Try.pinned (OpenSpec.upto fnExactMirrorPersonSpec)

/-- 'laws.FnExactStepsForthSame', WHERE WHAT IT READS IS OF BULK AT MOST 1048576: true; the input reads as it did. -/
def fnExactStepsForthSameUptoRow : OpenClaim := { program := "ytgahlpniciafkaa", sum := "00c25d96847adb3474329ef2c4922fee769da479555dee8ad787c35e6b6c7f9c", func := "loop.example/g01295/laws.FnExactStepsForthSame", spec := "fnExactStepsForthSame", unfollowed := true, recurses := true, apart := false, narrowed := true }
def FnExactStepsForthSameUptoSaid : Prop := fnExactStepsForthSameUptoRow.holds Try.pinned (OpenSpec.upto fnExactStepsForthSameSpec)

end Rows
end Go.Proofs.Ytgahlpniciafkaa
