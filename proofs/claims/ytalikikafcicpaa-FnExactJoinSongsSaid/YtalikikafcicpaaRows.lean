/-
  No cell of these rows narrows 'for every input' (looked for: loops, veiled, ifaces, maps, wideKeys, modest, calm, conditions, laid).
  DERIVED. THE GIVEN ROWS OF THIS SEAT. 5 by the template 'for every input the law returns true; each argument reads behind the call as it read before'; 0 by the template 'total and deterministic' (their statements: YtalikikafcicpaaTotals.lean).
  GIVEN WITH THE SEED: the statements are not yours to turn. If you find one false, say at which input.
  Laid BY PROGRAM, IN A SANDBOX (cutbox-rows.mjs): the forced cells as the released guide's own fill.sh prints them over the translation c5256e9549a66c11… (all of the seat's roots in one cut). By AI agents, Wed Nov 11 2026. No macro, syntax, notation, axiom, sorry.
-/
import Derived.Test.YtalikikafcicpaaChecked
import GoSem.Claim
import GoSem.ClaimJoined
import GoSem.ClaimMapViews
import Derived.JoinedTies
import Derived.KernelRfl
namespace Go.Proofs.Ytalikikafcicpaa
/- THE CELL 'sum', in the pinned program and in every row, IS THE sha256 OF THE DUMP (.gsa) THAT YtalikikafcicpaaProg.lean LOADS. Nothing in Lean hashes anything: it is a label: what it is worth is what the hold of that sum in a sandbox is worth. -/
noncomputable def Try.pinned : Pinned := { name := "ytalikikafcicpaa", sum := "c5256e9549a66c1125f4b1787a138439ac877136b2e15eb92ba54c839c84e1c5", checked := Try.checked }
namespace Rows
def none {H : Type} : Left H := { results := [], args := [] }

/-- 'laws.FnExactIsSong': WHATEVER THE INPUT: true; the input reads as it did. -/
def fnExactIsSongSpec : ChangeSpec := { name := "fnExactIsSong", fn := fun _ => fun
  | [d] => { results := [.lit (.bool true)], args := [d] }
  | _ => none }
def fnExactIsSongRow : OpenClaim := { program := "ytalikikafcicpaa", sum := "c5256e9549a66c1125f4b1787a138439ac877136b2e15eb92ba54c839c84e1c5", func := "loop.example/g01295/laws.FnExactIsSong", spec := "fnExactIsSong", apart := false }
def FnExactIsSongSaid : Prop := fnExactIsSongRow.holds Try.pinned (OpenSpec.ofChange fnExactIsSongSpec)

/-- ITS FALSE NEIGHBOUR: 'it returns false'. Refute it at one input. -/
def fnExactIsSongWrong : ChangeSpec := { name := "fnExactIsSong", fn := fun _ => fun
  | [d] => { results := [.lit (.bool false)], args := [d] }
  | _ => none }
def FnExactIsSongWrongFalsely : Prop := fnExactIsSongRow.holds Try.pinned (OpenSpec.ofChange fnExactIsSongWrong)

/-- 'laws.FnExactJoinSongs': WHATEVER THE INPUT: true; the input reads as it did. -/
def fnExactJoinSongsSpec : ChangeSpec := { name := "fnExactJoinSongs", fn := fun _ => fun
  | [d1, d2] => { results := [.lit (.bool true)], args := [d1, d2] }
  | _ => none }
def fnExactJoinSongsRow : OpenClaim := { program := "ytalikikafcicpaa", sum := "c5256e9549a66c1125f4b1787a138439ac877136b2e15eb92ba54c839c84e1c5", func := "loop.example/g01295/laws.FnExactJoinSongs", spec := "fnExactJoinSongs", apart := false }
def FnExactJoinSongsSaid : Prop := fnExactJoinSongsRow.holds Try.pinned (OpenSpec.ofChange fnExactJoinSongsSpec)

/-- ITS FALSE NEIGHBOUR: 'it returns false'. Refute it at one input. -/
def fnExactJoinSongsWrong : ChangeSpec := { name := "fnExactJoinSongs", fn := fun _ => fun
  | [d1, d2] => { results := [.lit (.bool false)], args := [d1, d2] }
  | _ => none }
def FnExactJoinSongsWrongFalsely : Prop := fnExactJoinSongsRow.holds Try.pinned (OpenSpec.ofChange fnExactJoinSongsWrong)

/-- 'laws.FnExactTurnSong': WHATEVER THE INPUT: true; the input reads as it did. -/
def fnExactTurnSongSpec : ChangeSpec := { name := "fnExactTurnSong", fn := fun _ => fun
  | [d1, d2] => { results := [.lit (.bool true)], args := [d1, d2] }
  | _ => none }
def fnExactTurnSongRow : OpenClaim := { program := "ytalikikafcicpaa", sum := "c5256e9549a66c1125f4b1787a138439ac877136b2e15eb92ba54c839c84e1c5", func := "loop.example/g01295/laws.FnExactTurnSong", spec := "fnExactTurnSong", apart := false }
def FnExactTurnSongSaid : Prop := fnExactTurnSongRow.holds Try.pinned (OpenSpec.ofChange fnExactTurnSongSpec)

/-- ITS FALSE NEIGHBOUR: 'it returns false'. Refute it at one input. -/
def fnExactTurnSongWrong : ChangeSpec := { name := "fnExactTurnSong", fn := fun _ => fun
  | [d1, d2] => { results := [.lit (.bool false)], args := [d1, d2] }
  | _ => none }
def FnExactTurnSongWrongFalsely : Prop := fnExactTurnSongRow.holds Try.pinned (OpenSpec.ofChange fnExactTurnSongWrong)

/-- 'laws.FnExactLeastSong': WHATEVER THE INPUT: true; the input reads as it did. -/
def fnExactLeastSongSpec : ChangeSpec := { name := "fnExactLeastSong", fn := fun _ => fun
  | [d] => { results := [.lit (.bool true)], args := [d] }
  | _ => none }
def fnExactLeastSongRow : OpenClaim := { program := "ytalikikafcicpaa", sum := "c5256e9549a66c1125f4b1787a138439ac877136b2e15eb92ba54c839c84e1c5", func := "loop.example/g01295/laws.FnExactLeastSong", spec := "fnExactLeastSong", apart := false }
def FnExactLeastSongSaid : Prop := fnExactLeastSongRow.holds Try.pinned (OpenSpec.ofChange fnExactLeastSongSpec)

/-- ITS FALSE NEIGHBOUR: 'it returns false'. Refute it at one input. -/
def fnExactLeastSongWrong : ChangeSpec := { name := "fnExactLeastSong", fn := fun _ => fun
  | [d] => { results := [.lit (.bool false)], args := [d] }
  | _ => none }
def FnExactLeastSongWrongFalsely : Prop := fnExactLeastSongRow.holds Try.pinned (OpenSpec.ofChange fnExactLeastSongWrong)

/-- 'laws.FnExactSongPeriod': WHATEVER THE INPUT: true; the input reads as it did. -/
def fnExactSongPeriodSpec : ChangeSpec := { name := "fnExactSongPeriod", fn := fun _ => fun
  | [d] => { results := [.lit (.bool true)], args := [d] }
  | _ => none }
def fnExactSongPeriodRow : OpenClaim := { program := "ytalikikafcicpaa", sum := "c5256e9549a66c1125f4b1787a138439ac877136b2e15eb92ba54c839c84e1c5", func := "loop.example/g01295/laws.FnExactSongPeriod", spec := "fnExactSongPeriod", apart := false }
def FnExactSongPeriodSaid : Prop := fnExactSongPeriodRow.holds Try.pinned (OpenSpec.ofChange fnExactSongPeriodSpec)

/-- ITS FALSE NEIGHBOUR: 'it returns false'. Refute it at one input. -/
def fnExactSongPeriodWrong : ChangeSpec := { name := "fnExactSongPeriod", fn := fun _ => fun
  | [d] => { results := [.lit (.bool false)], args := [d] }
  | _ => none }
def FnExactSongPeriodWrongFalsely : Prop := fnExactSongPeriodRow.holds Try.pinned (OpenSpec.ofChange fnExactSongPeriodWrong)

/- THE SECOND FORM. 'bulk': how many values and letters a reading holds, each counted each time it is reached (what is shared counts as often as it is met; a slice's spare places count too). A statement '..UptoSaid' is the law's where the arguments, and the package variables that the reading takes, are together of bulk at most 1048576: NARROWER than '..Said'. Prove '..Said' where nothing that the law and all that it calls make is longer than what came in: it says more and counts as full. Else prove '..UptoSaid'. A law counts once. -/
mutual
def uptoBulk {H : Type} : DataW H → Nat
  | .lit (.string bytes) => bytes.length + 1
  | .lit _ => 1
  | .nil => 1
  | .ptr d => uptoBulk d + 1
  | .slice elems spare => uptoBulkAll elems + uptoBulkAll spare + 1
  | .agg parts => uptoBulkAll parts + 1
  | .iface _ d => uptoBulk d + 1
  | .map entries => uptoBulkEntries entries + 1
  | .held _ => 1
def uptoBulkAll {H : Type} : List (DataW H) → Nat
  | [] => 0
  | d :: r => uptoBulk d + uptoBulkAll r
def uptoBulkEntries {H : Type} : List (Lit × DataW H) → Nat
  | [] => 0
  | x :: r => uptoBulkEntry x + uptoBulkEntries r
def uptoBulkEntry {H : Type} : Lit × DataW H → Nat
  | (.string bytes, d) => bytes.length + uptoBulk d + 1
  | (_, d) => uptoBulk d + 1
 end
def uptoSmall : (H : Type) → List (DataW H) → Bool := fun _ ds => decide (uptoBulkAll ds ≤ 1048576)
def OpenSpec.upto (s : _root_.Go.ChangeSpec) : _root_.Go.OpenSpec := { _root_.Go.OpenSpec.ofChange s with cond := some uptoSmall }

/-- 'laws.FnExactIsSong', WHERE WHAT IT READS IS OF BULK AT MOST 1048576: true; the input reads as it did. -/
def fnExactIsSongUptoRow : OpenClaim := { program := "ytalikikafcicpaa", sum := "c5256e9549a66c1125f4b1787a138439ac877136b2e15eb92ba54c839c84e1c5", func := "loop.example/g01295/laws.FnExactIsSong", spec := "fnExactIsSong", apart := false, narrowed := true }
def FnExactIsSongUptoSaid : Prop := fnExactIsSongUptoRow.holds Try.pinned (OpenSpec.upto fnExactIsSongSpec)

/-- 'laws.FnExactJoinSongs', WHERE WHAT IT READS IS OF BULK AT MOST 1048576: true; the input reads as it did. -/
def fnExactJoinSongsUptoRow : OpenClaim := { program := "ytalikikafcicpaa", sum := "c5256e9549a66c1125f4b1787a138439ac877136b2e15eb92ba54c839c84e1c5", func := "loop.example/g01295/laws.FnExactJoinSongs", spec := "fnExactJoinSongs", apart := false, narrowed := true }
def FnExactJoinSongsUptoSaid : Prop := fnExactJoinSongsUptoRow.holds Try.pinned (OpenSpec.upto fnExactJoinSongsSpec)

/-- 'laws.FnExactTurnSong', WHERE WHAT IT READS IS OF BULK AT MOST 1048576: true; the input reads as it did. -/
def fnExactTurnSongUptoRow : OpenClaim := { program := "ytalikikafcicpaa", sum := "c5256e9549a66c1125f4b1787a138439ac877136b2e15eb92ba54c839c84e1c5", func := "loop.example/g01295/laws.FnExactTurnSong", spec := "fnExactTurnSong", apart := false, narrowed := true }
def FnExactTurnSongUptoSaid : Prop := fnExactTurnSongUptoRow.holds Try.pinned (OpenSpec.upto fnExactTurnSongSpec)

/-- 'laws.FnExactLeastSong', WHERE WHAT IT READS IS OF BULK AT MOST 1048576: true; the input reads as it did. -/
def fnExactLeastSongUptoRow : OpenClaim := { program := "ytalikikafcicpaa", sum := "c5256e9549a66c1125f4b1787a138439ac877136b2e15eb92ba54c839c84e1c5", func := "loop.example/g01295/laws.FnExactLeastSong", spec := "fnExactLeastSong", apart := false, narrowed := true }
def FnExactLeastSongUptoSaid : Prop := fnExactLeastSongUptoRow.holds Try.pinned (OpenSpec.upto fnExactLeastSongSpec)

/-- 'laws.FnExactSongPeriod', WHERE WHAT IT READS IS OF BULK AT MOST 1048576: true; the input reads as it did. -/
def fnExactSongPeriodUptoRow : OpenClaim := { program := "ytalikikafcicpaa", sum := "c5256e9549a66c1125f4b1787a138439ac877136b2e15eb92ba54c839c84e1c5", func := "loop.example/g01295/laws.FnExactSongPeriod", spec := "fnExactSongPeriod", apart := false, narrowed := true }
def FnExactSongPeriodUptoSaid : Prop := fnExactSongPeriodUptoRow.holds Try.pinned (OpenSpec.upto fnExactSongPeriodSpec)

end Rows
end Go.Proofs.Ytalikikafcicpaa
