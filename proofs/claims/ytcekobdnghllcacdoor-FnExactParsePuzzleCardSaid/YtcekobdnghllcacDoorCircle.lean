/- The circle of the program in memory: who is next, how one goes (forward); no condition but that the circle has at most a thousand places. -/
import Derived.Test.YtcekobdnghllcacDoorDel
import Derived.Test.YtcekobdnghllcacDoorFrom
import Derived.Outline
namespace Go.Proofs.YtcekobdnghllcacDoor
open Go.ChangeShapes Go.WideShapes Go.ChangeAt Go.RowKit
/-- the places of people are different -/
def Diff (ps : List (Int × Int)) : Prop := ∀ i j, i < j → j < ps.length → (ps.getD i (0, 0)).1 ≠ (ps.getD j (0, 0)).1

end Go.Proofs.YtcekobdnghllcacDoor
