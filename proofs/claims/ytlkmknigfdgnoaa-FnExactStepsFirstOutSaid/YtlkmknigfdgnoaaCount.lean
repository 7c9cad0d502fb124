/- The program's countOut: it notes who goes at each turn, whatever one turn is; no condition but that there are at most a million turns. -/
import Derived.Test.YtlkmknigfdgnoaaMakeC
import Derived.Test.YtlkmknigfdgnoaaGo
namespace Go.Proofs.Ytlkmknigfdgnoaa
open Go.ChangeShapes Go.WideShapes Go.ChangeAt Go.RowKit
end Go.Proofs.Ytlkmknigfdgnoaa
