/- The circle of the program: how one goes forward and backward; no condition but that the circle has at most a thousand places and the step is at most a million. -/
import Derived.Test.YtpajmgonceepoabDoorLetGo
namespace Go.Proofs.YtpajmgonceepoabDoor
open Go.ChangeShapes Go.WideShapes Go.ChangeAt Go.RowKit
end Go.Proofs.YtpajmgonceepoabDoor
