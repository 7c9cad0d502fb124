/- The circle of the program: how one goes forward and backward; no condition but that the circle has at most a thousand places and the step is at most a million. -/
import Derived.Test.YtcekobdnghllcacDoorLetGo
namespace Go.Proofs.YtcekobdnghllcacDoor
open Go.ChangeShapes Go.WideShapes Go.ChangeAt Go.RowKit
end Go.Proofs.YtcekobdnghllcacDoor
