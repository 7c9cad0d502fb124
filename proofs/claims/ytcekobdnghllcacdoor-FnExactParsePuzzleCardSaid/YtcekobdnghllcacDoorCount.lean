/- The program's countOut: it notes who goes at each turn, whatever one turn is; no condition but that there are at most a million turns. -/
import Derived.Test.YtcekobdnghllcacDoorMakeC
import Derived.Test.YtcekobdnghllcacDoorGo
namespace Go.Proofs.YtcekobdnghllcacDoor
open Go.ChangeShapes Go.WideShapes Go.ChangeAt Go.RowKit
end Go.Proofs.YtcekobdnghllcacDoor
