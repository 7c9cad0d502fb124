/- The law of EvenCats returns true at every three integers: the program and its model make the same cats, in new memory; no condition. -/
import Derived.Test.YtaejlhdbdjfccaaEven
namespace Go.Proofs.Ytaejlhdbdjfccaa
open Go.ChangeShapes Go.WideShapes Go.ChangeAt Go.RowKit
end Go.Proofs.Ytaejlhdbdjfccaa
