/- What a call returns that makes a puzzle. -/
import Derived.Test.YtcekobdnghllcabMCl
import Derived.Test.YtcekobdnghllcabLwO7
import Derived.Test.YtcekobdnghllcabRes
import Derived.Test.YtcekobdnghllcabRingFn
namespace Go.Proofs.Ytcekobdnghllcab
open Go.ChangeShapes Go.WideShapes Go.ChangeAt Go.RowKit
/-- what a call returns that makes a puzzle, or fails -/
def PuzB (W : World) (xs : List Cu) (b : Bool) (e : Ending) (w' : World) : Prop := ∃ v, e = .returned (.tuple #[.agg #[v], .bool b]) ∧ Cl w' W.heap.size v xs ∧ Kp Nw W w'
end Go.Proofs.Ytcekobdnghllcab
