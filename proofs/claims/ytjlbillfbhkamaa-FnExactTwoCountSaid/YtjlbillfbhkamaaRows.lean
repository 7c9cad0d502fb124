/-
  No cell of these rows narrows 'for every input' (looked for: loops, veiled, ifaces, maps, wideKeys, modest, calm, conditions, laid).
  DERIVED. THE GIVEN ROWS OF THIS SEAT. 6 by the template 'for every input the law returns true; each argument reads behind the call as it read before'; 0 by the template 'total and deterministic' (their statements: YtjlbillfbhkamaaTotals.lean).
  GIVEN WITH THE SEED: the statements are not yours to turn. If you find one false, say at which input.
  Laid BY PROGRAM, IN A SANDBOX (cutbox-rows.mjs): the forced cells as the released guide's own fill.sh prints them over the translation 761d2fa61b89f083… (all of the seat's roots in one cut). By AI agents, Wed Nov 11 2026. No macro, syntax, notation, axiom, sorry.
-/
import Derived.Test.YtjlbillfbhkamaaChecked
import GoSem.Claim
import GoSem.ClaimJoined
import GoSem.ClaimMapViews
import Derived.JoinedTies
import Derived.KernelRfl
namespace Go.Proofs.Ytjlbillfbhkamaa
/- THE CELL 'sum', in the pinned program and in every row, IS THE sha256 OF THE DUMP (.gsa) THAT YtjlbillfbhkamaaProg.lean LOADS. Nothing in Lean hashes anything: it is a label: what it is worth is what the hold of that sum in a sandbox is worth. -/
noncomputable def Try.pinned : Pinned := { name := "ytjlbillfbhkamaa", sum := "761d2fa61b89f0838fa7be2ecc80e53e757b2512fe060e3333ceffabf00be219", checked := Try.checked }
namespace Rows
def none {H : Type} : Left H := { results := [], args := [] }

/-- 'laws.FnExactTwoCount': WHATEVER THE INPUT: true; the input reads as it did. -/
def fnExactTwoCountSpec : ChangeSpec := { name := "fnExactTwoCount", fn := fun _ => fun
  | [d1, d2, d3] => { results := [.lit (.bool true)], args := [d1, d2, d3] }
  | _ => none }
def fnExactTwoCountRow : OpenClaim := { program := "ytjlbillfbhkamaa", sum := "761d2fa61b89f0838fa7be2ecc80e53e757b2512fe060e3333ceffabf00be219", func := "loop.example/g01295/laws.FnExactTwoCount", spec := "fnExactTwoCount", unfollowed := true, recurses := true, apart := false }
def FnExactTwoCountSaid : Prop := fnExactTwoCountRow.holds Try.pinned (OpenSpec.ofChange fnExactTwoCountSpec)

/-- ITS FALSE NEIGHBOUR: 'it returns false'. Refute it at one input. -/
def fnExactTwoCountWrong : ChangeSpec := { name := "fnExactTwoCount", fn := fun _ => fun
  | [d1, d2, d3] => { results := [.lit (.bool false)], args := [d1, d2, d3] }
  | _ => none }
def FnExactTwoCountWrongFalsely : Prop := fnExactTwoCountRow.holds Try.pinned (OpenSpec.ofChange fnExactTwoCountWrong)

/-- 'laws.FnExactChosenByBoth': WHATEVER THE INPUT: true; the input reads as it did. -/
def fnExactChosenByBothSpec : ChangeSpec := { name := "fnExactChosenByBoth", fn := fun _ => fun
  | [d1, d2, d3] => { results := [.lit (.bool true)], args := [d1, d2, d3] }
  | _ => none }
def fnExactChosenByBothRow : OpenClaim := { program := "ytjlbillfbhkamaa", sum := "761d2fa61b89f0838fa7be2ecc80e53e757b2512fe060e3333ceffabf00be219", func := "loop.example/g01295/laws.FnExactChosenByBoth", spec := "fnExactChosenByBoth", unfollowed := true, recurses := true, apart := false }
def FnExactChosenByBothSaid : Prop := fnExactChosenByBothRow.holds Try.pinned (OpenSpec.ofChange fnExactChosenByBothSpec)

/-- ITS FALSE NEIGHBOUR: 'it returns false'. Refute it at one input. -/
def fnExactChosenByBothWrong : ChangeSpec := { name := "fnExactChosenByBoth", fn := fun _ => fun
  | [d1, d2, d3] => { results := [.lit (.bool false)], args := [d1, d2, d3] }
  | _ => none }
def FnExactChosenByBothWrongFalsely : Prop := fnExactChosenByBothRow.holds Try.pinned (OpenSpec.ofChange fnExactChosenByBothWrong)

/-- 'laws.FnExactCountRoundsOfTwo': WHATEVER THE INPUT: true; the input reads as it did. -/
def fnExactCountRoundsOfTwoSpec : ChangeSpec := { name := "fnExactCountRoundsOfTwo", fn := fun _ => fun
  | [d1, d2, d3] => { results := [.lit (.bool true)], args := [d1, d2, d3] }
  | _ => none }
def fnExactCountRoundsOfTwoRow : OpenClaim := { program := "ytjlbillfbhkamaa", sum := "761d2fa61b89f0838fa7be2ecc80e53e757b2512fe060e3333ceffabf00be219", func := "loop.example/g01295/laws.FnExactCountRoundsOfTwo", spec := "fnExactCountRoundsOfTwo", unfollowed := true, recurses := true, apart := false }
def FnExactCountRoundsOfTwoSaid : Prop := fnExactCountRoundsOfTwoRow.holds Try.pinned (OpenSpec.ofChange fnExactCountRoundsOfTwoSpec)

/-- ITS FALSE NEIGHBOUR: 'it returns false'. Refute it at one input. -/
def fnExactCountRoundsOfTwoWrong : ChangeSpec := { name := "fnExactCountRoundsOfTwo", fn := fun _ => fun
  | [d1, d2, d3] => { results := [.lit (.bool false)], args := [d1, d2, d3] }
  | _ => none }
def FnExactCountRoundsOfTwoWrongFalsely : Prop := fnExactCountRoundsOfTwoRow.holds Try.pinned (OpenSpec.ofChange fnExactCountRoundsOfTwoWrong)

/-- 'laws.FnExactLastTogether': WHATEVER THE INPUT: true; the input reads as it did. -/
def fnExactLastTogetherSpec : ChangeSpec := { name := "fnExactLastTogether", fn := fun _ => fun
  | [d1, d2, d3] => { results := [.lit (.bool true)], args := [d1, d2, d3] }
  | _ => none }
def fnExactLastTogetherRow : OpenClaim := { program := "ytjlbillfbhkamaa", sum := "761d2fa61b89f0838fa7be2ecc80e53e757b2512fe060e3333ceffabf00be219", func := "loop.example/g01295/laws.FnExactLastTogether", spec := "fnExactLastTogether", unfollowed := true, recurses := true, apart := false }
def FnExactLastTogetherSaid : Prop := fnExactLastTogetherRow.holds Try.pinned (OpenSpec.ofChange fnExactLastTogetherSpec)

/-- ITS FALSE NEIGHBOUR: 'it returns false'. Refute it at one input. -/
def fnExactLastTogetherWrong : ChangeSpec := { name := "fnExactLastTogether", fn := fun _ => fun
  | [d1, d2, d3] => { results := [.lit (.bool false)], args := [d1, d2, d3] }
  | _ => none }
def FnExactLastTogetherWrongFalsely : Prop := fnExactLastTogetherRow.holds Try.pinned (OpenSpec.ofChange fnExactLastTogetherWrong)

/-- 'laws.FnExactRoundOfPerson': WHATEVER THE INPUT: true; the input reads as it did. -/
def fnExactRoundOfPersonSpec : ChangeSpec := { name := "fnExactRoundOfPerson", fn := fun _ => fun
  | [d1, d2, d3, d4] => { results := [.lit (.bool true)], args := [d1, d2, d3, d4] }
  | _ => none }
def fnExactRoundOfPersonRow : OpenClaim := { program := "ytjlbillfbhkamaa", sum := "761d2fa61b89f0838fa7be2ecc80e53e757b2512fe060e3333ceffabf00be219", func := "loop.example/g01295/laws.FnExactRoundOfPerson", spec := "fnExactRoundOfPerson", unfollowed := true, recurses := true, apart := false }
def FnExactRoundOfPersonSaid : Prop := fnExactRoundOfPersonRow.holds Try.pinned (OpenSpec.ofChange fnExactRoundOfPersonSpec)

/-- ITS FALSE NEIGHBOUR: 'it returns false'. Refute it at one input. -/
def fnExactRoundOfPersonWrong : ChangeSpec := { name := "fnExactRoundOfPerson", fn := fun _ => fun
  | [d1, d2, d3, d4] => { results := [.lit (.bool false)], args := [d1, d2, d3, d4] }
  | _ => none }
def FnExactRoundOfPersonWrongFalsely : Prop := fnExactRoundOfPersonRow.holds Try.pinned (OpenSpec.ofChange fnExactRoundOfPersonWrong)

/-- 'laws.FnExactStepsToMeet': WHATEVER THE INPUT: true; the input reads as it did. -/
def fnExactStepsToMeetSpec : ChangeSpec := { name := "fnExactStepsToMeet", fn := fun _ => fun
  | [d1, d2] => { results := [.lit (.bool true)], args := [d1, d2] }
  | _ => none }
def fnExactStepsToMeetRow : OpenClaim := { program := "ytjlbillfbhkamaa", sum := "761d2fa61b89f0838fa7be2ecc80e53e757b2512fe060e3333ceffabf00be219", func := "loop.example/g01295/laws.FnExactStepsToMeet", spec := "fnExactStepsToMeet", unfollowed := true, recurses := true, apart := false }
def FnExactStepsToMeetSaid : Prop := fnExactStepsToMeetRow.holds Try.pinned (OpenSpec.ofChange fnExactStepsToMeetSpec)

/-- ITS FALSE NEIGHBOUR: 'it returns false'. Refute it at one input. -/
def fnExactStepsToMeetWrong : ChangeSpec := { name := "fnExactStepsToMeet", fn := fun _ => fun
  | [d1, d2] => { results := [.lit (.bool false)], args := [d1, d2] }
  | _ => none }
def FnExactStepsToMeetWrongFalsely : Prop := fnExactStepsToMeetRow.holds Try.pinned (OpenSpec.ofChange fnExactStepsToMeetWrong)

/- THE SECOND FORM. 'bulk': how many values and letters a reading holds, each counted each time it is reached (what is shared counts as often as it is met; a slice's spare places count too). A statement '..UptoSaid' is the law's where the arguments, and the package variables that the reading takes, are together of bulk at most 1048576: NARROWER than '..Said'. Prove '..Said' where nothing that the law and all that it calls make is longer than what came in: it says more and counts as full. Else prove '..UptoSaid'. A law counts once. -/
mutual
def uptoBulk {H : Type} : DataW H → Nat
  | .lit (.string bytes) => bytes.length + 1
  | .lit _ => 1
  | .nil => 1
  | .ptr d => uptoBulk d + 1
  | .slice elems spare => uptoBulkAll elems + uptoBulkAll spare + 1
  | .agg parts => uptoBulkAll parts + 1
  | .iface _ d => uptoBulk d + 1
  | .map entries => uptoBulkEntries entries + 1
  | .held _ => 1
def uptoBulkAll {H : Type} : List (DataW H) → Nat
  | [] => 0
  | d :: r => uptoBulk d + uptoBulkAll r
def uptoBulkEntries {H : Type} : List (Lit × DataW H) → Nat
  | [] => 0
  | x :: r => uptoBulkEntry x + uptoBulkEntries r
def uptoBulkEntry {H : Type} : Lit × DataW H → Nat
  | (.string bytes, d) => bytes.length + uptoBulk d + 1
  | (_, d) => uptoBulk d + 1
 end
def uptoSmall : (H : Type) → List (DataW H) → Bool := fun _ ds => decide (uptoBulkAll ds ≤ 1048576)
def OpenSpec.upto (s : _root_.Go.ChangeSpec) : _root_.Go.OpenSpec := { _root_.Go.OpenSpec.ofChange s with cond := some uptoSmall }

/-- 'laws.FnExactTwoCount', WHERE WHAT IT READS IS OF BULK AT MOST 1048576: true; the input reads as it did. -/
def fnExactTwoCountUptoRow : OpenClaim := { program := "ytjlbillfbhkamaa", sum := "761d2fa61b89f0838fa7be2ecc80e53e757b2512fe060e3333ceffabf00be219", func := "loop.example/g01295/laws.FnExactTwoCount", spec := "fnExactTwoCount", unfollowed := true, recurses := true, apart := false, narrowed := true }
def FnExactTwoCountUptoSaid : Prop := fnExactTwoCountUptoRow.holds Try.pinned (OpenSpec.upto fnExactTwoCountSpec)

/-- 'laws.FnExactChosenByBoth', WHERE WHAT IT READS IS OF BULK AT MOST 1048576: true; the input reads as it did. -/
def fnExactChosenByBothUptoRow : OpenClaim := { program := "ytjlbillfbhkamaa", sum := "761d2fa61b89f0838fa7be2ecc80e53e757b2512fe060e3333ceffabf00be219", func := "loop.example/g01295/laws.FnExactChosenByBoth", spec := "fnExactChosenByBoth", unfollowed := true, recurses := true, apart := false, narrowed := true }
def FnExactChosenByBothUptoSaid : Prop := fnExactChosenByBothUptoRow.holds Try.pinned (OpenSpec.upto fnExactChosenByBothSpec)

/-- 'laws.FnExactCountRoundsOfTwo', WHERE WHAT IT READS IS OF BULK AT MOST 1048576: true; the input reads as it did. -/
def fnExactCountRoundsOfTwoUptoRow : OpenClaim := { program := "ytjlbillfbhkamaa", sum := "761d2fa61b89f0838fa7be2ecc80e53e757b2512fe060e3333ceffabf00be219", func := "loop.example/g01295/laws.FnExactCountRoundsOfTwo", spec := "fnExactCountRoundsOfTwo", unfollowed := true, recurses := true, apart := false, narrowed := true }
def FnExactCountRoundsOfTwoUptoSaid : Prop := fnExactCountRoundsOfTwoUptoRow.holds Try.pinned (OpenSpec.upto fnExactCountRoundsOfTwoSpec)

/-- 'laws.FnExactLastTogether', WHERE WHAT IT READS IS OF BULK AT MOST 1048576: true; the input reads as it did. -/
def fnExactLastTogetherUptoRow : OpenClaim := { program := "ytjlbillfbhkamaa", sum := "761d2fa61b89f0838fa7be2ecc80e53e757b2512fe060e3333ceffabf00be219", func := "loop.example/g01295/laws.FnExactLastTogether", spec := "fnExactLastTogether", unfollowed := true, recurses := true, apart := false, narrowed := true }
def FnExactLastTogetherUptoSaid : Prop := fnExactLastTogetherUptoRow.holds Try.pinned (OpenSpec.upto fnExactLastTogetherSpec)

/-- 'laws.FnExactRoundOfPerson', WHERE WHAT IT READS IS OF BULK AT MOST 1048576: true; the input reads as it did. -/
def fnExactRoundOfPersonUptoRow : OpenClaim := { program := "ytjlbillfbhkamaa", sum := "761d2fa61b89f0838fa7be2ecc80e53e757b2512fe060e3333ceffabf00be219", func := "loop.example/g01295/laws.FnExactRoundOfPerson", spec := "fnExactRoundOfPerson", unfollowed := true, recurses := true, apart := false, narrowed := true }
def FnExactRoundOfPersonUptoSaid : Prop := fnExactRoundOfPersonUptoRow.holds Try.pinned (OpenSpec.upto fnExactRoundOfPersonSpec)

/-- 'laws.FnExactStepsToMeet', WHERE WHAT IT READS IS OF BULK AT MOST 1048576: true; the input reads as it did. -/
def fnExactStepsToMeetUptoRow : OpenClaim := { program := "ytjlbillfbhkamaa", sum := "761d2fa61b89f0838fa7be2ecc80e53e757b2512fe060e3333ceffabf00be219", func := "loop.example/g01295/laws.FnExactStepsToMeet", spec := "fnExactStepsToMeet", unfollowed := true, recurses := true, apart := false, narrowed := true }
def FnExactStepsToMeetUptoSaid : Prop := fnExactStepsToMeetUptoRow.holds Try.pinned (OpenSpec.upto fnExactStepsToMeetSpec)

end Rows
end Go.Proofs.Ytjlbillfbhkamaa
