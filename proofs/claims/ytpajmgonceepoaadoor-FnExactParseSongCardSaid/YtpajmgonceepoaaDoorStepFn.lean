/- A ring behind a turn (StepRing) and told from another place (TurnRing), in the program and in its model: both are the same; no condition but that the ring's slice is at the head of a row of its own. -/
import Derived.Test.YtpajmgonceepoaaDoorRingFn
namespace Go.Proofs.YtpajmgonceepoaaDoor
open Go.ChangeShapes Go.WideShapes Go.ChangeAt Go.RowKit

/-- what a call returns that makes a ring and tells a number, or fails -/
def RingRes1 (W : World) (zs : List Int) (kk : Int) (who : Int) (b : Bool) (e : Ending) (w' : World) : Prop := ∃ v, e = .returned (.tuple #[.agg #[v, .int .i64 kk], .int .i64 who, .bool b]) ∧ Sl w' W.heap.size v zs ∧ Kp Nw W w'
def RingRes0 (W : World) (zs : List Int) (kk : Int) (b : Bool) (e : Ending) (w' : World) : Prop := ∃ v, e = .returned (.tuple #[.agg #[v, .int .i64 kk], .bool b]) ∧ Sl w' W.heap.size v zs ∧ Kp Nw W w'

end Go.Proofs.YtpajmgonceepoaaDoor
