/- What a call returns that makes a puzzle. -/
import Derived.Test.YtcekobdnghllcacDoorMCl
import Derived.Test.YtcekobdnghllcacDoorLwO7
import Derived.Test.YtcekobdnghllcacDoorRes
import Derived.Test.YtcekobdnghllcacDoorRingFn
namespace Go.Proofs.YtcekobdnghllcacDoor
open Go.ChangeShapes Go.WideShapes Go.ChangeAt Go.RowKit
/-- what a call returns that makes a puzzle, or fails -/
def PuzB (W : World) (xs : List Cu) (b : Bool) (e : Ending) (w' : World) : Prop := ∃ v, e = .returned (.tuple #[.agg #[v], .bool b]) ∧ Cl w' W.heap.size v xs ∧ Kp Nw W w'
end Go.Proofs.YtcekobdnghllcacDoor
