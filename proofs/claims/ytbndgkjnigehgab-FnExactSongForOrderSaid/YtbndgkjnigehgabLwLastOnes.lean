/- The law of LastOnes returns true at all arguments, given what the program and the model return for copies of the lists; no other condition. -/
import Derived.Test.YtbndgkjnigehgabLaws
namespace Go.Proofs.Ytbndgkjnigehgab
open Go.ChangeShapes Go.WideShapes Go.ChangeAt Go.RowKit
end Go.Proofs.Ytbndgkjnigehgab
