/-
  No cell of these rows narrows 'for every input' (looked for: loops, veiled, ifaces, maps, wideKeys, modest, calm, conditions, laid).
  DERIVED. THE GIVEN ROWS OF THIS SEAT. 5 by the template 'for every input the law returns true; each argument reads behind the call as it read before'; 0 by the template 'total and deterministic' (their statements: YtalikikafcicpabTotals.lean).
  GIVEN WITH THE SEED: the statements are not yours to turn. If you find one false, say at which input.
  Laid BY PROGRAM, IN A SANDBOX (cutbox-rows.mjs): the forced cells as the released guide's own fill.sh prints them over the translation e4573e5d2175bf85… (all of the seat's roots in one cut). By AI agents, Wed Nov 11 2026. No macro, syntax, notation, axiom, sorry.
-/
import Derived.Test.YtalikikafcicpabChecked
import GoSem.Claim
import GoSem.ClaimJoined
import GoSem.ClaimMapViews
import Derived.JoinedTies
import Derived.KernelRfl
namespace Go.Proofs.Ytalikikafcicpab
/- THE CELL 'sum', in the pinned program and in every row, IS THE sha256 OF THE DUMP (.gsa) THAT YtalikikafcicpabProg.lean LOADS. Nothing in Lean hashes anything: it is a label: what it is worth is what the hold of that sum in a sandbox is worth. -/
noncomputable def Try.pinned : Pinned := { name := "ytalikikafcicpab", sum := "e4573e5d2175bf8540150e9a6f238571b1bbf8f5d6f4d1d358b6a89944dc4b48", checked := Try.checked }
namespace Rows
def none {H : Type} : Left H := { results := [], args := [] }

/-- 'laws.FnExactSongOrder': WHATEVER THE INPUT: true; the input reads as it did. -/
def fnExactSongOrderSpec : ChangeSpec := { name := "fnExactSongOrder", fn := fun _ => fun
  | [d1, d2] => { results := [.lit (.bool true)], args := [d1, d2] }
  | _ => none }
def fnExactSongOrderRow : OpenClaim := { program := "ytalikikafcicpab", sum := "e4573e5d2175bf8540150e9a6f238571b1bbf8f5d6f4d1d358b6a89944dc4b48", func := "loop.example/g01295/laws.FnExactSongOrder", spec := "fnExactSongOrder", unfollowed := true, recurses := true, apart := false }
def FnExactSongOrderSaid : Prop := fnExactSongOrderRow.holds Try.pinned (OpenSpec.ofChange fnExactSongOrderSpec)

/-- ITS FALSE NEIGHBOUR: 'it returns false'. Refute it at one input. -/
def fnExactSongOrderWrong : ChangeSpec := { name := "fnExactSongOrder", fn := fun _ => fun
  | [d1, d2] => { results := [.lit (.bool false)], args := [d1, d2] }
  | _ => none }
def FnExactSongOrderWrongFalsely : Prop := fnExactSongOrderRow.holds Try.pinned (OpenSpec.ofChange fnExactSongOrderWrong)

/-- 'laws.FnExactSongLast': WHATEVER THE INPUT: true; the input reads as it did. -/
def fnExactSongLastSpec : ChangeSpec := { name := "fnExactSongLast", fn := fun _ => fun
  | [d1, d2] => { results := [.lit (.bool true)], args := [d1, d2] }
  | _ => none }
def fnExactSongLastRow : OpenClaim := { program := "ytalikikafcicpab", sum := "e4573e5d2175bf8540150e9a6f238571b1bbf8f5d6f4d1d358b6a89944dc4b48", func := "loop.example/g01295/laws.FnExactSongLast", spec := "fnExactSongLast", unfollowed := true, recurses := true, apart := false }
def FnExactSongLastSaid : Prop := fnExactSongLastRow.holds Try.pinned (OpenSpec.ofChange fnExactSongLastSpec)

/-- ITS FALSE NEIGHBOUR: 'it returns false'. Refute it at one input. -/
def fnExactSongLastWrong : ChangeSpec := { name := "fnExactSongLast", fn := fun _ => fun
  | [d1, d2] => { results := [.lit (.bool false)], args := [d1, d2] }
  | _ => none }
def FnExactSongLastWrongFalsely : Prop := fnExactSongLastRow.holds Try.pinned (OpenSpec.ofChange fnExactSongLastWrong)

/-- 'laws.FnExactSongTurn': WHATEVER THE INPUT: true; the input reads as it did. -/
def fnExactSongTurnSpec : ChangeSpec := { name := "fnExactSongTurn", fn := fun _ => fun
  | [d1, d2, d3] => { results := [.lit (.bool true)], args := [d1, d2, d3] }
  | _ => none }
def fnExactSongTurnRow : OpenClaim := { program := "ytalikikafcicpab", sum := "e4573e5d2175bf8540150e9a6f238571b1bbf8f5d6f4d1d358b6a89944dc4b48", func := "loop.example/g01295/laws.FnExactSongTurn", spec := "fnExactSongTurn", unfollowed := true, recurses := true, apart := false }
def FnExactSongTurnSaid : Prop := fnExactSongTurnRow.holds Try.pinned (OpenSpec.ofChange fnExactSongTurnSpec)

/-- ITS FALSE NEIGHBOUR: 'it returns false'. Refute it at one input. -/
def fnExactSongTurnWrong : ChangeSpec := { name := "fnExactSongTurn", fn := fun _ => fun
  | [d1, d2, d3] => { results := [.lit (.bool false)], args := [d1, d2, d3] }
  | _ => none }
def FnExactSongTurnWrongFalsely : Prop := fnExactSongTurnRow.holds Try.pinned (OpenSpec.ofChange fnExactSongTurnWrong)

/-- 'laws.FnExactSongLeft': WHATEVER THE INPUT: true; the input reads as it did. -/
def fnExactSongLeftSpec : ChangeSpec := { name := "fnExactSongLeft", fn := fun _ => fun
  | [d1, d2, d3] => { results := [.lit (.bool true)], args := [d1, d2, d3] }
  | _ => none }
def fnExactSongLeftRow : OpenClaim := { program := "ytalikikafcicpab", sum := "e4573e5d2175bf8540150e9a6f238571b1bbf8f5d6f4d1d358b6a89944dc4b48", func := "loop.example/g01295/laws.FnExactSongLeft", spec := "fnExactSongLeft", unfollowed := true, recurses := true, apart := false }
def FnExactSongLeftSaid : Prop := fnExactSongLeftRow.holds Try.pinned (OpenSpec.ofChange fnExactSongLeftSpec)

/-- ITS FALSE NEIGHBOUR: 'it returns false'. Refute it at one input. -/
def fnExactSongLeftWrong : ChangeSpec := { name := "fnExactSongLeft", fn := fun _ => fun
  | [d1, d2, d3] => { results := [.lit (.bool false)], args := [d1, d2, d3] }
  | _ => none }
def FnExactSongLeftWrongFalsely : Prop := fnExactSongLeftRow.holds Try.pinned (OpenSpec.ofChange fnExactSongLeftWrong)

/-- 'laws.FnExactSameOrder': WHATEVER THE INPUT: true; the input reads as it did. -/
def fnExactSameOrderSpec : ChangeSpec := { name := "fnExactSameOrder", fn := fun _ => fun
  | [d1, d2, d3] => { results := [.lit (.bool true)], args := [d1, d2, d3] }
  | _ => none }
def fnExactSameOrderRow : OpenClaim := { program := "ytalikikafcicpab", sum := "e4573e5d2175bf8540150e9a6f238571b1bbf8f5d6f4d1d358b6a89944dc4b48", func := "loop.example/g01295/laws.FnExactSameOrder", spec := "fnExactSameOrder", unfollowed := true, recurses := true, apart := false }
def FnExactSameOrderSaid : Prop := fnExactSameOrderRow.holds Try.pinned (OpenSpec.ofChange fnExactSameOrderSpec)

/-- ITS FALSE NEIGHBOUR: 'it returns false'. Refute it at one input. -/
def fnExactSameOrderWrong : ChangeSpec := { name := "fnExactSameOrder", fn := fun _ => fun
  | [d1, d2, d3] => { results := [.lit (.bool false)], args := [d1, d2, d3] }
  | _ => none }
def FnExactSameOrderWrongFalsely : Prop := fnExactSameOrderRow.holds Try.pinned (OpenSpec.ofChange fnExactSameOrderWrong)

/- THE SECOND FORM. 'bulk': how many values and letters a reading holds, each counted each time it is reached (what is shared counts as often as it is met; a slice's spare places count too). A statement '..UptoSaid' is the law's where the arguments, and the package variables that the reading takes, are together of bulk at most 1048576: NARROWER than '..Said'. Prove '..Said' where nothing that the law and all that it calls make is longer than what came in: it says more and counts as full. Else prove '..UptoSaid'. A law counts once. -/
mutual
def uptoBulk {H : Type} : DataW H → Nat
  | .lit (.string bytes) => bytes.length + 1
  | .lit _ => 1
  | .nil => 1
  | .ptr d => uptoBulk d + 1
  | .slice elems spare => uptoBulkAll elems + uptoBulkAll spare + 1
  | .agg parts => uptoBulkAll parts + 1
  | .iface _ d => uptoBulk d + 1
  | .map entries => uptoBulkEntries entries + 1
  | .held _ => 1
def uptoBulkAll {H : Type} : List (DataW H) → Nat
  | [] => 0
  | d :: r => uptoBulk d + uptoBulkAll r
def uptoBulkEntries {H : Type} : List (Lit × DataW H) → Nat
  | [] => 0
  | x :: r => uptoBulkEntry x + uptoBulkEntries r
def uptoBulkEntry {H : Type} : Lit × DataW H → Nat
  | (.string bytes, d) => bytes.length + uptoBulk d + 1
  | (_, d) => uptoBulk d + 1
 end
def uptoSmall : (H : Type) → List (DataW H) → Bool := fun _ ds => decide (uptoBulkAll ds ≤ 1048576)
def OpenSpec.upto (s : _root_.Go.ChangeSpec) : _root_.Go.OpenSpec := { _root_.Go.OpenSpec.ofChange s with cond := some uptoSmall }

/-- 'laws.FnExactSongOrder', WHERE WHAT IT READS IS OF BULK AT MOST 1048576: true; the input reads as it did. -/
def fnExactSongOrderUptoRow : OpenClaim := { program := "ytalikikafcicpab", sum := "e4573e5d2175bf8540150e9a6f238571b1bbf8f5d6f4d1d358b6a89944dc4b48", func := "loop.example/g01295/laws.FnExactSongOrder", spec := "fnExactSongOrder", unfollowed := true, recurses := true, apart := false, narrowed := true }
def FnExactSongOrderUptoSaid : Prop := fnExactSongOrderUptoRow.holds Try.pinned (OpenSpec.upto fnExactSongOrderSpec)

/-- 'laws.FnExactSongLast', WHERE WHAT IT READS IS OF BULK AT MOST 1048576: true; the input reads as it did. -/
def fnExactSongLastUptoRow : OpenClaim := { program := "ytalikikafcicpab", sum := "e4573e5d2175bf8540150e9a6f238571b1bbf8f5d6f4d1d358b6a89944dc4b48", func := "loop.example/g01295/laws.FnExactSongLast", spec := "fnExactSongLast", unfollowed := true, recurses := true, apart := false, narrowed := true }
def FnExactSongLastUptoSaid : Prop := fnExactSongLastUptoRow.holds Try.pinned (OpenSpec.upto fnExactSongLastSpec)

/-- 'laws.FnExactSongTurn', WHERE WHAT IT READS IS OF BULK AT MOST 1048576: true; the input reads as it did. -/
def fnExactSongTurnUptoRow : OpenClaim := { program := "ytalikikafcicpab", sum := "e4573e5d2175bf8540150e9a6f238571b1bbf8f5d6f4d1d358b6a89944dc4b48", func := "loop.example/g01295/laws.FnExactSongTurn", spec := "fnExactSongTurn", unfollowed := true, recurses := true, apart := false, narrowed := true }
def FnExactSongTurnUptoSaid : Prop := fnExactSongTurnUptoRow.holds Try.pinned (OpenSpec.upto fnExactSongTurnSpec)

/-- 'laws.FnExactSongLeft', WHERE WHAT IT READS IS OF BULK AT MOST 1048576: true; the input reads as it did. -/
def fnExactSongLeftUptoRow : OpenClaim := { program := "ytalikikafcicpab", sum := "e4573e5d2175bf8540150e9a6f238571b1bbf8f5d6f4d1d358b6a89944dc4b48", func := "loop.example/g01295/laws.FnExactSongLeft", spec := "fnExactSongLeft", unfollowed := true, recurses := true, apart := false, narrowed := true }
def FnExactSongLeftUptoSaid : Prop := fnExactSongLeftUptoRow.holds Try.pinned (OpenSpec.upto fnExactSongLeftSpec)

/-- 'laws.FnExactSameOrder', WHERE WHAT IT READS IS OF BULK AT MOST 1048576: true; the input reads as it did. -/
def fnExactSameOrderUptoRow : OpenClaim := { program := "ytalikikafcicpab", sum := "e4573e5d2175bf8540150e9a6f238571b1bbf8f5d6f4d1d358b6a89944dc4b48", func := "loop.example/g01295/laws.FnExactSameOrder", spec := "fnExactSameOrder", unfollowed := true, recurses := true, apart := false, narrowed := true }
def FnExactSameOrderUptoSaid : Prop := fnExactSameOrderUptoRow.holds Try.pinned (OpenSpec.upto fnExactSameOrderSpec)

end Rows
end Go.Proofs.Ytalikikafcicpab
