/- The order in which all go (orderOfAll, OrderOut), in the program and in its model: both are the same plain list; no condition but that people and step are those that the chapter allows. -/
import Derived.Test.YtcekobdnghllcacDoorFwd
import Derived.Test.YtcekobdnghllcacDoorTurn
namespace Go.Proofs.YtcekobdnghllcacDoor
open Go.ChangeShapes Go.WideShapes Go.ChangeAt Go.RowKit
/-- the order in which people told by numbers go -/
def ordP (k : Int) (xs : List Int) : List (Int × Int) := outsP k xs.length (num xs)
theorem ordP_length (k : Int) (xs : List Int) : (ordP k xs).length = xs.length := outsP_length _ _ _
theorem ordP_snd (k : Int) (xs : List Int) : (ordP k xs).map (·.2) = outs k xs.length xs := by
  unfold ordP
  rw [← outs_map, num_snd]

/-- what a call returns that makes a list, or fails -/
def ListRes (W : World) (xs : List Int) (b : Bool) (e : Ending) (w' : World) : Prop := ∃ v, e = .returned (.tuple #[v, .bool b]) ∧ Sl w' W.heap.size v xs ∧ Kp Nw W w'

end Go.Proofs.YtcekobdnghllcacDoor
