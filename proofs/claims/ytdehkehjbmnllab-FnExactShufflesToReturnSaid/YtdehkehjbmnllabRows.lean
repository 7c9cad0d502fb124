/-
  No cell of these rows narrows 'for every input' (looked for: loops, veiled, ifaces, maps, wideKeys, modest, calm, conditions, laid).
  DERIVED. THE GIVEN ROWS OF THIS SEAT. 4 by the template 'for every input the law returns true; each argument reads behind the call as it read before'; 0 by the template 'total and deterministic' (their statements: YtdehkehjbmnllabTotals.lean).
  GIVEN WITH THE SEED: the statements are not yours to turn. If you find one false, say at which input.
  Laid BY PROGRAM, IN A SANDBOX (cutbox-rows.mjs): the forced cells as the released guide's own fill.sh prints them over the translation d264b6cd12265274… (all of the seat's roots in one cut). By AI agents, Wed Nov 11 2026. No macro, syntax, notation, axiom, sorry.
-/
import Derived.Test.YtdehkehjbmnllabChecked
import GoSem.Claim
import GoSem.ClaimJoined
import GoSem.ClaimMapViews
import Derived.JoinedTies
import Derived.KernelRfl
namespace Go.Proofs.Ytdehkehjbmnllab
/- THE CELL 'sum', in the pinned program and in every row, IS THE sha256 OF THE DUMP (.gsa) THAT YtdehkehjbmnllabProg.lean LOADS. Nothing in Lean hashes anything: it is a label: what it is worth is what the hold of that sum in a sandbox is worth. -/
noncomputable def Try.pinned : Pinned := { name := "ytdehkehjbmnllab", sum := "d264b6cd122652749ea79b890afdcdd775a488c75d3d518bae4c3cdbb07078a9", checked := Try.checked }
namespace Rows
def none {H : Type} : Left H := { results := [], args := [] }

/-- 'laws.FnExactMilkDeck': WHATEVER THE INPUT: true; the input reads as it did. -/
def fnExactMilkDeckSpec : ChangeSpec := { name := "fnExactMilkDeck", fn := fun _ => fun
  | [d] => { results := [.lit (.bool true)], args := [d] }
  | _ => none }
def fnExactMilkDeckRow : OpenClaim := { program := "ytdehkehjbmnllab", sum := "d264b6cd122652749ea79b890afdcdd775a488c75d3d518bae4c3cdbb07078a9", func := "loop.example/g01295/laws.FnExactMilkDeck", spec := "fnExactMilkDeck", apart := false }
def FnExactMilkDeckSaid : Prop := fnExactMilkDeckRow.holds Try.pinned (OpenSpec.ofChange fnExactMilkDeckSpec)

/-- ITS FALSE NEIGHBOUR: 'it returns false'. Refute it at one input. -/
def fnExactMilkDeckWrong : ChangeSpec := { name := "fnExactMilkDeck", fn := fun _ => fun
  | [d] => { results := [.lit (.bool false)], args := [d] }
  | _ => none }
def FnExactMilkDeckWrongFalsely : Prop := fnExactMilkDeckRow.holds Try.pinned (OpenSpec.ofChange fnExactMilkDeckWrong)

/-- 'laws.FnExactShufflesToReturn': WHATEVER THE INPUT: true; the input reads as it did. -/
def fnExactShufflesToReturnSpec : ChangeSpec := { name := "fnExactShufflesToReturn", fn := fun _ => fun
  | [d1, d2] => { results := [.lit (.bool true)], args := [d1, d2] }
  | _ => none }
def fnExactShufflesToReturnRow : OpenClaim := { program := "ytdehkehjbmnllab", sum := "d264b6cd122652749ea79b890afdcdd775a488c75d3d518bae4c3cdbb07078a9", func := "loop.example/g01295/laws.FnExactShufflesToReturn", spec := "fnExactShufflesToReturn", apart := false }
def FnExactShufflesToReturnSaid : Prop := fnExactShufflesToReturnRow.holds Try.pinned (OpenSpec.ofChange fnExactShufflesToReturnSpec)

/-- ITS FALSE NEIGHBOUR: 'it returns false'. Refute it at one input. -/
def fnExactShufflesToReturnWrong : ChangeSpec := { name := "fnExactShufflesToReturn", fn := fun _ => fun
  | [d1, d2] => { results := [.lit (.bool false)], args := [d1, d2] }
  | _ => none }
def FnExactShufflesToReturnWrongFalsely : Prop := fnExactShufflesToReturnRow.holds Try.pinned (OpenSpec.ofChange fnExactShufflesToReturnWrong)

/-- 'laws.FnExactBackDeck': WHATEVER THE INPUT: true; the input reads as it did. -/
def fnExactBackDeckSpec : ChangeSpec := { name := "fnExactBackDeck", fn := fun _ => fun
  | [d] => { results := [.lit (.bool true)], args := [d] }
  | _ => none }
def fnExactBackDeckRow : OpenClaim := { program := "ytdehkehjbmnllab", sum := "d264b6cd122652749ea79b890afdcdd775a488c75d3d518bae4c3cdbb07078a9", func := "loop.example/g01295/laws.FnExactBackDeck", spec := "fnExactBackDeck", apart := false }
def FnExactBackDeckSaid : Prop := fnExactBackDeckRow.holds Try.pinned (OpenSpec.ofChange fnExactBackDeckSpec)

/-- ITS FALSE NEIGHBOUR: 'it returns false'. Refute it at one input. -/
def fnExactBackDeckWrong : ChangeSpec := { name := "fnExactBackDeck", fn := fun _ => fun
  | [d] => { results := [.lit (.bool false)], args := [d] }
  | _ => none }
def FnExactBackDeckWrongFalsely : Prop := fnExactBackDeckRow.holds Try.pinned (OpenSpec.ofChange fnExactBackDeckWrong)

/-- 'laws.FnExactMongeDeck': WHATEVER THE INPUT: true; the input reads as it did. -/
def fnExactMongeDeckSpec : ChangeSpec := { name := "fnExactMongeDeck", fn := fun _ => fun
  | [d] => { results := [.lit (.bool true)], args := [d] }
  | _ => none }
def fnExactMongeDeckRow : OpenClaim := { program := "ytdehkehjbmnllab", sum := "d264b6cd122652749ea79b890afdcdd775a488c75d3d518bae4c3cdbb07078a9", func := "loop.example/g01295/laws.FnExactMongeDeck", spec := "fnExactMongeDeck", apart := false }
def FnExactMongeDeckSaid : Prop := fnExactMongeDeckRow.holds Try.pinned (OpenSpec.ofChange fnExactMongeDeckSpec)

/-- ITS FALSE NEIGHBOUR: 'it returns false'. Refute it at one input. -/
def fnExactMongeDeckWrong : ChangeSpec := { name := "fnExactMongeDeck", fn := fun _ => fun
  | [d] => { results := [.lit (.bool false)], args := [d] }
  | _ => none }
def FnExactMongeDeckWrongFalsely : Prop := fnExactMongeDeckRow.holds Try.pinned (OpenSpec.ofChange fnExactMongeDeckWrong)

/- THE SECOND FORM. 'bulk': how many values and letters a reading holds, each counted each time it is reached (what is shared counts as often as it is met; a slice's spare places count too). A statement '..UptoSaid' is the law's where the arguments, and the package variables that the reading takes, are together of bulk at most 1048576: NARROWER than '..Said'. Prove '..Said' where nothing that the law and all that it calls make is longer than what came in: it says more and counts as full. Else prove '..UptoSaid'. A law counts once. -/
mutual
def uptoBulk {H : Type} : DataW H → Nat
  | .lit (.string bytes) => bytes.length + 1
  | .lit _ => 1
  | .nil => 1
  | .ptr d => uptoBulk d + 1
  | .slice elems spare => uptoBulkAll elems + uptoBulkAll spare + 1
  | .agg parts => uptoBulkAll parts + 1
  | .iface _ d => uptoBulk d + 1
  | .map entries => uptoBulkEntries entries + 1
  | .held _ => 1
def uptoBulkAll {H : Type} : List (DataW H) → Nat
  | [] => 0
  | d :: r => uptoBulk d + uptoBulkAll r
def uptoBulkEntries {H : Type} : List (Lit × DataW H) → Nat
  | [] => 0
  | x :: r => uptoBulkEntry x + uptoBulkEntries r
def uptoBulkEntry {H : Type} : Lit × DataW H → Nat
  | (.string bytes, d) => bytes.length + uptoBulk d + 1
  | (_, d) => uptoBulk d + 1
 end
def uptoSmall : (H : Type) → List (DataW H) → Bool := fun _ ds => decide (uptoBulkAll ds ≤ 1048576)
def OpenSpec.upto (s : _root_.Go.ChangeSpec) : _root_.Go.OpenSpec := { _root_.Go.OpenSpec.ofChange s with cond := some uptoSmall }

/-- 'laws.FnExactMilkDeck', WHERE WHAT IT READS IS OF BULK AT MOST 1048576: true; the input reads as it did. -/
def fnExactMilkDeckUptoRow : OpenClaim := { program := "ytdehkehjbmnllab", sum := "d264b6cd122652749ea79b890afdcdd775a488c75d3d518bae4c3cdbb07078a9", func := "loop.example/g01295/laws.FnExactMilkDeck", spec := "fnExactMilkDeck", apart := false, narrowed := true }
def FnExactMilkDeckUptoSaid : Prop := fnExactMilkDeckUptoRow.holds Try.pinned (OpenSpec.upto fnExactMilkDeckSpec)

/-- 'laws.FnExactShufflesToReturn', WHERE WHAT IT READS IS OF BULK AT MOST 1048576: true; the input reads as it did. -/
def fnExactShufflesToReturnUptoRow : OpenClaim := { program := "ytdehkehjbmnllab", sum := "d264b6cd122652749ea79b890afdcdd775a488c75d3d518bae4c3cdbb07078a9", func := "loop.example/g01295/laws.FnExactShufflesToReturn", spec := "fnExactShufflesToReturn", apart := false, narrowed := true }
def FnExactShufflesToReturnUptoSaid : Prop := fnExactShufflesToReturnUptoRow.holds Try.pinned (OpenSpec.upto fnExactShufflesToReturnSpec)

/-- 'laws.FnExactBackDeck', WHERE WHAT IT READS IS OF BULK AT MOST 1048576: true; the input reads as it did. -/
def fnExactBackDeckUptoRow : OpenClaim := { program := "ytdehkehjbmnllab", sum := "d264b6cd122652749ea79b890afdcdd775a488c75d3d518bae4c3cdbb07078a9", func := "loop.example/g01295/laws.FnExactBackDeck", spec := "fnExactBackDeck", apart := false, narrowed := true }
def FnExactBackDeckUptoSaid : Prop := fnExactBackDeckUptoRow.holds Try.pinned (OpenSpec.upto fnExactBackDeckSpec)

/-- 'laws.FnExactMongeDeck', WHERE WHAT IT READS IS OF BULK AT MOST 1048576: true; the input reads as it did. -/
def fnExactMongeDeckUptoRow : OpenClaim := { program := "ytdehkehjbmnllab", sum := "d264b6cd122652749ea79b890afdcdd775a488c75d3d518bae4c3cdbb07078a9", func := "loop.example/g01295/laws.FnExactMongeDeck", spec := "fnExactMongeDeck", apart := false, narrowed := true }
def FnExactMongeDeckUptoSaid : Prop := fnExactMongeDeckUptoRow.holds Try.pinned (OpenSpec.upto fnExactMongeDeckSpec)

end Rows
end Go.Proofs.Ytdehkehjbmnllab
