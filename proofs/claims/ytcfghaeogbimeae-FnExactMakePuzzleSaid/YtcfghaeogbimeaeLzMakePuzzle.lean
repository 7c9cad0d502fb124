/- The law of MakePuzzle at all arguments, given only what the program returns; no condition. -/
import Derived.Test.YtcfghaeogbimeaeLwPzMakePuzzle
import Derived.Test.YtcfghaeogbimeaePzMk
namespace Go.Proofs.Ytcfghaeogbimeae
open Go.ChangeShapes Go.WideShapes Go.ChangeAt Go.RowKit

theorem lawMakePuzzle9 (p s c d : Int) (W : World) (hI : ∀ W : World, Calls Try.prog 16 #[.int .i64 p, .int .i64 s, .int .i64 c, .int .i64 d] W (PuzB W (vMake p s c d).1 (vMake p s c d).2)) :
    Calls Try.prog 5 #[.int .i64 p, .int .i64 s, .int .i64 c, .int .i64 d] W fun e w' => e = .returned (.bool true) ∧ Kp Nw W w' :=
  lawMakePuzzle_of p s c d _ _ W (vMake_len p s c d) (Lib.hid fun W => sMakePuzzle_any p s c d W) (Lib.hid fun W => hI W)
end Go.Proofs.Ytcfghaeogbimeae
