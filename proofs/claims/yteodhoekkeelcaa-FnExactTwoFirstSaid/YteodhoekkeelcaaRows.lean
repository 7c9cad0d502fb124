/-
  No cell of these rows narrows 'for every input' (looked for: loops, veiled, ifaces, maps, wideKeys, modest, calm, conditions, laid).
  DERIVED. THE GIVEN ROWS OF THIS SEAT. 7 by the template 'for every input the law returns true; each argument reads behind the call as it read before'; 0 by the template 'total and deterministic' (their statements: YteodhoekkeelcaaTotals.lean).
  GIVEN WITH THE SEED: the statements are not yours to turn. If you find one false, say at which input.
  Laid BY PROGRAM, IN A SANDBOX (cutbox-rows.mjs): the forced cells as the released guide's own fill.sh prints them over the translation 09d552ec9069e6bb… (all of the seat's roots in one cut). By AI agents, Wed Nov 11 2026. No macro, syntax, notation, axiom, sorry.
-/
import Derived.Test.YteodhoekkeelcaaChecked
import GoSem.Claim
import GoSem.ClaimJoined
import GoSem.ClaimMapViews
import Derived.JoinedTies
import Derived.KernelRfl
namespace Go.Proofs.Yteodhoekkeelcaa
/- THE CELL 'sum', in the pinned program and in every row, IS THE sha256 OF THE DUMP (.gsa) THAT YteodhoekkeelcaaProg.lean LOADS. Nothing in Lean hashes anything: it is a label: what it is worth is what the hold of that sum in a sandbox is worth. -/
noncomputable def Try.pinned : Pinned := { name := "yteodhoekkeelcaa", sum := "09d552ec9069e6bb0708c7e99970a427ac7d5131f6798920464fa0db107147e4", checked := Try.checked }
namespace Rows
def none {H : Type} : Left H := { results := [], args := [] }

/-- 'laws.FnExactNumberOfBinary': WHATEVER THE INPUT: true; the input reads as it did. -/
def fnExactNumberOfBinarySpec : ChangeSpec := { name := "fnExactNumberOfBinary", fn := fun _ => fun
  | [d] => { results := [.lit (.bool true)], args := [d] }
  | _ => none }
def fnExactNumberOfBinaryRow : OpenClaim := { program := "yteodhoekkeelcaa", sum := "09d552ec9069e6bb0708c7e99970a427ac7d5131f6798920464fa0db107147e4", func := "loop.example/g01295/laws.FnExactNumberOfBinary", spec := "fnExactNumberOfBinary", apart := false }
def FnExactNumberOfBinarySaid : Prop := fnExactNumberOfBinaryRow.holds Try.pinned (OpenSpec.ofChange fnExactNumberOfBinarySpec)

/-- ITS FALSE NEIGHBOUR: 'it returns false'. Refute it at one input. -/
def fnExactNumberOfBinaryWrong : ChangeSpec := { name := "fnExactNumberOfBinary", fn := fun _ => fun
  | [d] => { results := [.lit (.bool false)], args := [d] }
  | _ => none }
def FnExactNumberOfBinaryWrongFalsely : Prop := fnExactNumberOfBinaryRow.holds Try.pinned (OpenSpec.ofChange fnExactNumberOfBinaryWrong)

/-- 'laws.FnExactTwoTurn': WHATEVER THE INPUT: true; the input reads as it did. -/
def fnExactTwoTurnSpec : ChangeSpec := { name := "fnExactTwoTurn", fn := fun _ => fun
  | [d1, d2] => { results := [.lit (.bool true)], args := [d1, d2] }
  | _ => none }
def fnExactTwoTurnRow : OpenClaim := { program := "yteodhoekkeelcaa", sum := "09d552ec9069e6bb0708c7e99970a427ac7d5131f6798920464fa0db107147e4", func := "loop.example/g01295/laws.FnExactTwoTurn", spec := "fnExactTwoTurn", unfollowed := true, recurses := true, apart := false }
def FnExactTwoTurnSaid : Prop := fnExactTwoTurnRow.holds Try.pinned (OpenSpec.ofChange fnExactTwoTurnSpec)

/-- ITS FALSE NEIGHBOUR: 'it returns false'. Refute it at one input. -/
def fnExactTwoTurnWrong : ChangeSpec := { name := "fnExactTwoTurn", fn := fun _ => fun
  | [d1, d2] => { results := [.lit (.bool false)], args := [d1, d2] }
  | _ => none }
def FnExactTwoTurnWrongFalsely : Prop := fnExactTwoTurnRow.holds Try.pinned (OpenSpec.ofChange fnExactTwoTurnWrong)

/-- 'laws.FnExactTwoAt': WHATEVER THE INPUT: true; the input reads as it did. -/
def fnExactTwoAtSpec : ChangeSpec := { name := "fnExactTwoAt", fn := fun _ => fun
  | [d1, d2] => { results := [.lit (.bool true)], args := [d1, d2] }
  | _ => none }
def fnExactTwoAtRow : OpenClaim := { program := "yteodhoekkeelcaa", sum := "09d552ec9069e6bb0708c7e99970a427ac7d5131f6798920464fa0db107147e4", func := "loop.example/g01295/laws.FnExactTwoAt", spec := "fnExactTwoAt", unfollowed := true, recurses := true, apart := false }
def FnExactTwoAtSaid : Prop := fnExactTwoAtRow.holds Try.pinned (OpenSpec.ofChange fnExactTwoAtSpec)

/-- ITS FALSE NEIGHBOUR: 'it returns false'. Refute it at one input. -/
def fnExactTwoAtWrong : ChangeSpec := { name := "fnExactTwoAt", fn := fun _ => fun
  | [d1, d2] => { results := [.lit (.bool false)], args := [d1, d2] }
  | _ => none }
def FnExactTwoAtWrongFalsely : Prop := fnExactTwoAtRow.holds Try.pinned (OpenSpec.ofChange fnExactTwoAtWrong)

/-- 'laws.FnExactTwoRound': WHATEVER THE INPUT: true; the input reads as it did. -/
def fnExactTwoRoundSpec : ChangeSpec := { name := "fnExactTwoRound", fn := fun _ => fun
  | [d1, d2] => { results := [.lit (.bool true)], args := [d1, d2] }
  | _ => none }
def fnExactTwoRoundRow : OpenClaim := { program := "yteodhoekkeelcaa", sum := "09d552ec9069e6bb0708c7e99970a427ac7d5131f6798920464fa0db107147e4", func := "loop.example/g01295/laws.FnExactTwoRound", spec := "fnExactTwoRound", unfollowed := true, recurses := true, apart := false }
def FnExactTwoRoundSaid : Prop := fnExactTwoRoundRow.holds Try.pinned (OpenSpec.ofChange fnExactTwoRoundSpec)

/-- ITS FALSE NEIGHBOUR: 'it returns false'. Refute it at one input. -/
def fnExactTwoRoundWrong : ChangeSpec := { name := "fnExactTwoRound", fn := fun _ => fun
  | [d1, d2] => { results := [.lit (.bool false)], args := [d1, d2] }
  | _ => none }
def FnExactTwoRoundWrongFalsely : Prop := fnExactTwoRoundRow.holds Try.pinned (OpenSpec.ofChange fnExactTwoRoundWrong)

/-- 'laws.FnExactRoundSizes': WHATEVER THE INPUT: true; the input reads as it did. -/
def fnExactRoundSizesSpec : ChangeSpec := { name := "fnExactRoundSizes", fn := fun _ => fun
  | [d] => { results := [.lit (.bool true)], args := [d] }
  | _ => none }
def fnExactRoundSizesRow : OpenClaim := { program := "yteodhoekkeelcaa", sum := "09d552ec9069e6bb0708c7e99970a427ac7d5131f6798920464fa0db107147e4", func := "loop.example/g01295/laws.FnExactRoundSizes", spec := "fnExactRoundSizes", unfollowed := true, recurses := true, apart := false }
def FnExactRoundSizesSaid : Prop := fnExactRoundSizesRow.holds Try.pinned (OpenSpec.ofChange fnExactRoundSizesSpec)

/-- ITS FALSE NEIGHBOUR: 'it returns false'. Refute it at one input. -/
def fnExactRoundSizesWrong : ChangeSpec := { name := "fnExactRoundSizes", fn := fun _ => fun
  | [d] => { results := [.lit (.bool false)], args := [d] }
  | _ => none }
def FnExactRoundSizesWrongFalsely : Prop := fnExactRoundSizesRow.holds Try.pinned (OpenSpec.ofChange fnExactRoundSizesWrong)

/-- 'laws.FnExactCountRounds': WHATEVER THE INPUT: true; the input reads as it did. -/
def fnExactCountRoundsSpec : ChangeSpec := { name := "fnExactCountRounds", fn := fun _ => fun
  | [d] => { results := [.lit (.bool true)], args := [d] }
  | _ => none }
def fnExactCountRoundsRow : OpenClaim := { program := "yteodhoekkeelcaa", sum := "09d552ec9069e6bb0708c7e99970a427ac7d5131f6798920464fa0db107147e4", func := "loop.example/g01295/laws.FnExactCountRounds", spec := "fnExactCountRounds", unfollowed := true, recurses := true, apart := false }
def FnExactCountRoundsSaid : Prop := fnExactCountRoundsRow.holds Try.pinned (OpenSpec.ofChange fnExactCountRoundsSpec)

/-- ITS FALSE NEIGHBOUR: 'it returns false'. Refute it at one input. -/
def fnExactCountRoundsWrong : ChangeSpec := { name := "fnExactCountRounds", fn := fun _ => fun
  | [d] => { results := [.lit (.bool false)], args := [d] }
  | _ => none }
def FnExactCountRoundsWrongFalsely : Prop := fnExactCountRoundsRow.holds Try.pinned (OpenSpec.ofChange fnExactCountRoundsWrong)

/-- 'laws.FnExactTwoFirst': WHATEVER THE INPUT: true; the input reads as it did. -/
def fnExactTwoFirstSpec : ChangeSpec := { name := "fnExactTwoFirst", fn := fun _ => fun
  | [d1, d2] => { results := [.lit (.bool true)], args := [d1, d2] }
  | _ => none }
def fnExactTwoFirstRow : OpenClaim := { program := "yteodhoekkeelcaa", sum := "09d552ec9069e6bb0708c7e99970a427ac7d5131f6798920464fa0db107147e4", func := "loop.example/g01295/laws.FnExactTwoFirst", spec := "fnExactTwoFirst", unfollowed := true, recurses := true, apart := false }
def FnExactTwoFirstSaid : Prop := fnExactTwoFirstRow.holds Try.pinned (OpenSpec.ofChange fnExactTwoFirstSpec)

/-- ITS FALSE NEIGHBOUR: 'it returns false'. Refute it at one input. -/
def fnExactTwoFirstWrong : ChangeSpec := { name := "fnExactTwoFirst", fn := fun _ => fun
  | [d1, d2] => { results := [.lit (.bool false)], args := [d1, d2] }
  | _ => none }
def FnExactTwoFirstWrongFalsely : Prop := fnExactTwoFirstRow.holds Try.pinned (OpenSpec.ofChange fnExactTwoFirstWrong)

/- THE SECOND FORM. 'bulk': how many values and letters a reading holds, each counted each time it is reached (what is shared counts as often as it is met; a slice's spare places count too). A statement '..UptoSaid' is the law's where the arguments, and the package variables that the reading takes, are together of bulk at most 1048576: NARROWER than '..Said'. Prove '..Said' where nothing that the law and all that it calls make is longer than what came in: it says more and counts as full. Else prove '..UptoSaid'. A law counts once. -/
mutual
def uptoBulk {H : Type} : DataW H → Nat
  | .lit (.string bytes) => bytes.length + 1
  | .lit _ => 1
  | .nil => 1
  | .ptr d => uptoBulk d + 1
  | .slice elems spare => uptoBulkAll elems + uptoBulkAll spare + 1
  | .agg parts => uptoBulkAll parts + 1
  | .iface _ d => uptoBulk d + 1
  | .map entries => uptoBulkEntries entries + 1
  | .held _ => 1
def uptoBulkAll {H : Type} : List (DataW H) → Nat
  | [] => 0
  | d :: r => uptoBulk d + uptoBulkAll r
def uptoBulkEntries {H : Type} : List (Lit × DataW H) → Nat
  | [] => 0
  | x :: r => uptoBulkEntry x + uptoBulkEntries r
def uptoBulkEntry {H : Type} : Lit × DataW H → Nat
  | (.string bytes, d) => bytes.length + uptoBulk d + 1
  | (_, d) => uptoBulk d + 1
 end
def uptoSmall : (H : Type) → List (DataW H) → Bool := fun _ ds => decide (uptoBulkAll ds ≤ 1048576)
def OpenSpec.upto (s : _root_.Go.ChangeSpec) : _root_.Go.OpenSpec := { _root_.Go.OpenSpec.ofChange s with cond := some uptoSmall }

/-- 'laws.FnExactNumberOfBinary', WHERE WHAT IT READS IS OF BULK AT MOST 1048576: true; the input reads as it did. -/
def fnExactNumberOfBinaryUptoRow : OpenClaim := { program := "yteodhoekkeelcaa", sum := "09d552ec9069e6bb0708c7e99970a427ac7d5131f6798920464fa0db107147e4", func := "loop.example/g01295/laws.FnExactNumberOfBinary", spec := "fnExactNumberOfBinary", apart := false, narrowed := true }
def FnExactNumberOfBinaryUptoSaid : Prop := fnExactNumberOfBinaryUptoRow.holds Try.pinned (OpenSpec.upto fnExactNumberOfBinarySpec)

/-- 'laws.FnExactTwoTurn', WHERE WHAT IT READS IS OF BULK AT MOST 1048576: true; the input reads as it did. -/
def fnExactTwoTurnUptoRow : OpenClaim := { program := "yteodhoekkeelcaa", sum := "09d552ec9069e6bb0708c7e99970a427ac7d5131f6798920464fa0db107147e4", func := "loop.example/g01295/laws.FnExactTwoTurn", spec := "fnExactTwoTurn", unfollowed := true, recurses := true, apart := false, narrowed := true }
def FnExactTwoTurnUptoSaid : Prop := fnExactTwoTurnUptoRow.holds Try.pinned (OpenSpec.upto fnExactTwoTurnSpec)

/-- 'laws.FnExactTwoAt', WHERE WHAT IT READS IS OF BULK AT MOST 1048576: true; the input reads as it did. -/
def fnExactTwoAtUptoRow : OpenClaim := { program := "yteodhoekkeelcaa", sum := "09d552ec9069e6bb0708c7e99970a427ac7d5131f6798920464fa0db107147e4", func := "loop.example/g01295/laws.FnExactTwoAt", spec := "fnExactTwoAt", unfollowed := true, recurses := true, apart := false, narrowed := true }
def FnExactTwoAtUptoSaid : Prop := fnExactTwoAtUptoRow.holds Try.pinned (OpenSpec.upto fnExactTwoAtSpec)

/-- 'laws.FnExactTwoRound', WHERE WHAT IT READS IS OF BULK AT MOST 1048576: true; the input reads as it did. -/
def fnExactTwoRoundUptoRow : OpenClaim := { program := "yteodhoekkeelcaa", sum := "09d552ec9069e6bb0708c7e99970a427ac7d5131f6798920464fa0db107147e4", func := "loop.example/g01295/laws.FnExactTwoRound", spec := "fnExactTwoRound", unfollowed := true, recurses := true, apart := false, narrowed := true }
def FnExactTwoRoundUptoSaid : Prop := fnExactTwoRoundUptoRow.holds Try.pinned (OpenSpec.upto fnExactTwoRoundSpec)

/-- 'laws.FnExactRoundSizes', WHERE WHAT IT READS IS OF BULK AT MOST 1048576: true; the input reads as it did. -/
def fnExactRoundSizesUptoRow : OpenClaim := { program := "yteodhoekkeelcaa", sum := "09d552ec9069e6bb0708c7e99970a427ac7d5131f6798920464fa0db107147e4", func := "loop.example/g01295/laws.FnExactRoundSizes", spec := "fnExactRoundSizes", unfollowed := true, recurses := true, apart := false, narrowed := true }
def FnExactRoundSizesUptoSaid : Prop := fnExactRoundSizesUptoRow.holds Try.pinned (OpenSpec.upto fnExactRoundSizesSpec)

/-- 'laws.FnExactCountRounds', WHERE WHAT IT READS IS OF BULK AT MOST 1048576: true; the input reads as it did. -/
def fnExactCountRoundsUptoRow : OpenClaim := { program := "yteodhoekkeelcaa", sum := "09d552ec9069e6bb0708c7e99970a427ac7d5131f6798920464fa0db107147e4", func := "loop.example/g01295/laws.FnExactCountRounds", spec := "fnExactCountRounds", unfollowed := true, recurses := true, apart := false, narrowed := true }
def FnExactCountRoundsUptoSaid : Prop := fnExactCountRoundsUptoRow.holds Try.pinned (OpenSpec.upto fnExactCountRoundsSpec)

/-- 'laws.FnExactTwoFirst', WHERE WHAT IT READS IS OF BULK AT MOST 1048576: true; the input reads as it did. -/
def fnExactTwoFirstUptoRow : OpenClaim := { program := "yteodhoekkeelcaa", sum := "09d552ec9069e6bb0708c7e99970a427ac7d5131f6798920464fa0db107147e4", func := "loop.example/g01295/laws.FnExactTwoFirst", spec := "fnExactTwoFirst", unfollowed := true, recurses := true, apart := false, narrowed := true }
def FnExactTwoFirstUptoSaid : Prop := fnExactTwoFirstUptoRow.holds Try.pinned (OpenSpec.upto fnExactTwoFirstSpec)

end Rows
end Go.Proofs.Yteodhoekkeelcaa
