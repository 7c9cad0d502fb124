/- The program's countOut: it notes who goes at each turn, whatever one turn is; no condition but that there are at most a million turns. -/
import Derived.Test.YtpajmgonceepoacDoorMakeC
import Derived.Test.YtpajmgonceepoacDoorGo
namespace Go.Proofs.YtpajmgonceepoacDoor
open Go.ChangeShapes Go.WideShapes Go.ChangeAt Go.RowKit
end Go.Proofs.YtpajmgonceepoacDoor
