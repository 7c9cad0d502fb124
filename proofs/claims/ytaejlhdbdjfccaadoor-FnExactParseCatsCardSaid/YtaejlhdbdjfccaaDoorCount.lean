/- The program's countOut: it notes who goes at each turn, whatever one turn is; no condition but that there are at most a million turns. -/
import Derived.Test.YtaejlhdbdjfccaaDoorMakeC
import Derived.Test.YtaejlhdbdjfccaaDoorGo
namespace Go.Proofs.YtaejlhdbdjfccaaDoor
open Go.ChangeShapes Go.WideShapes Go.ChangeAt Go.RowKit
end Go.Proofs.YtaejlhdbdjfccaaDoor
