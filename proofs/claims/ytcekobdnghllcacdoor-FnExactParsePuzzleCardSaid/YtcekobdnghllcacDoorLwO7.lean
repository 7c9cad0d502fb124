/- The laws of chapter 7 return true at all arguments, given what the program and the model return for copies of the lists; no other condition. -/
import Derived.Test.YtcekobdnghllcacDoorLaws
namespace Go.Proofs.YtcekobdnghllcacDoor
open Go.ChangeShapes Go.WideShapes Go.ChangeAt Go.RowKit

/-- what a call returns that tells two times yes or no -/
def Bool2B (W : World) (a b : Bool) (e : Ending) (w' : World) : Prop := e = .returned (.tuple #[.bool a, .bool b]) ∧ Kp Nw W w'

end Go.Proofs.YtcekobdnghllcacDoor
