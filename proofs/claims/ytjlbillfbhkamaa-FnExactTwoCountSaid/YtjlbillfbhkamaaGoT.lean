/- The circle of the program: how one goes and the way is turned around; no condition but that the circle has at most a thousand places and the step is at most a million. -/
import Derived.Test.YtjlbillfbhkamaaGo
namespace Go.Proofs.Ytjlbillfbhkamaa
open Go.ChangeShapes Go.WideShapes Go.ChangeAt Go.RowKit
end Go.Proofs.Ytjlbillfbhkamaa
