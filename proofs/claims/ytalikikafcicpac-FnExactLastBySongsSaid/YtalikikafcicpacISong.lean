/- Songs in the program: the order out, the last one, the turn of a person, who is left, two songs compared; no condition. -/
import Derived.Test.YtalikikafcicpacSingI
import Derived.Test.YtalikikafcicpacSoM
namespace Go.Proofs.Ytalikikafcicpac
open Go.ChangeShapes Go.WideShapes Go.ChangeAt Go.RowKit
end Go.Proofs.Ytalikikafcicpac
