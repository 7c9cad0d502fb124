/- The law of TwoCount; no condition. -/
import Derived.Test.YtjlbillfbhkamaaTwoG
import Derived.Test.YtjlbillfbhkamaaLwTwoCount
namespace Go.Proofs.Ytjlbillfbhkamaa
open Go.ChangeShapes Go.WideShapes Go.ChangeAt Go.RowKit

theorem lawTwoCount (p f b : Int) (W : World) : Calls Try.prog 3 #[.int .i64 p, .int .i64 f, .int .i64 b] W fun e w' => e = .returned (.bool true) ∧ Kp Nw W w' :=
  lawTwoCount_gen p f b W (fun n W hf hb => sTwoCount_yes n f b W hf hb) (fun W h => sTwoCount_no p f b W h)
end Go.Proofs.Ytjlbillfbhkamaa
