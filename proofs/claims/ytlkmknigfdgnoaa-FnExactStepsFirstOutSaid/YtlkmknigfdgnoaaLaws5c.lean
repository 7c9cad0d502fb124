/- The exact law of the least step by which a list goes first from what the program and the model return; no other condition. -/
import Derived.Test.YtlkmknigfdgnoaaOthers
import Derived.Test.YtlkmknigfdgnoaaLwStepsFirstOut
namespace Go.Proofs.Ytlkmknigfdgnoaa
open Go.ChangeShapes Go.WideShapes Go.ChangeAt Go.RowKit

theorem lawStepsFirstOut (p : Int) (A : Option Addr) (n c : Nat) (xs : List Int) (W : World) (hu : Rd W (.slice A n c) xs) (hn : xs.length = n) (hm : n ≤ maxLen) :
    Calls Try.prog 10 #[.int .i64 p, .slice A n c] W fun e w' => e = .returned (.bool true) ∧ Kp Nw W w' := by
  by_cases hl : n ≤ 1048576
  · exact lawStepsFirstOut_of p A n c xs _ _ W hu hn hl (Lib.hid fun g B W hs => sStepsFirstOut_all p _ xs W hs.sl.rd (by omega)) (Lib.hid fun g B W hs => iStepsFirstOut_all p _ xs W hs.sl.rd (by omega))
  · exact lawStepsFirstOut_bigd p A n c W hm (by omega)
end Go.Proofs.Ytlkmknigfdgnoaa
