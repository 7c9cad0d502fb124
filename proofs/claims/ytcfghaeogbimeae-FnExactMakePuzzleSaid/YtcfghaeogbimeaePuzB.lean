/- What a call returns that makes a puzzle. -/
import Derived.Test.YtcfghaeogbimeaeMCl
import Derived.Test.YtcfghaeogbimeaeLwO7
import Derived.Test.YtcfghaeogbimeaeRes
import Derived.Test.YtcfghaeogbimeaeRingFn
namespace Go.Proofs.Ytcfghaeogbimeae
open Go.ChangeShapes Go.WideShapes Go.ChangeAt Go.RowKit
/-- what a call returns that makes a puzzle, or fails -/
def PuzB (W : World) (xs : List Cu) (b : Bool) (e : Ending) (w' : World) : Prop := ∃ v, e = .returned (.tuple #[.agg #[v], .bool b]) ∧ Cl w' W.heap.size v xs ∧ Kp Nw W w'
end Go.Proofs.Ytcfghaeogbimeae
