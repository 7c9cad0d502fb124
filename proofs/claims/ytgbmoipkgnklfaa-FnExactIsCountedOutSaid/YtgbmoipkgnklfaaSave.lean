/- The model of chapter 5: the period, whether few people are there, PeriodOfSteps; no condition but what the chapter asks. -/
import Derived.Test.YtgbmoipkgnklfaaSaveM
import Derived.Test.YtgbmoipkgnklfaaLaws
namespace Go.Proofs.Ytgbmoipkgnklfaa
open Go.ChangeShapes Go.WideShapes Go.ChangeAt Go.RowKit

/-- a number, nothing old changed -/
def IntO (W : World) (x : Int) (e : Ending) (w' : World) : Prop := e = .returned (.int .i64 x) ∧ Kp Nw W w'

def vPeriodOfSteps (p : Int) : Int × Bool := if 1 ≤ p ∧ p ≤ 12 then ((perT p.toNat : Nat), true) else (0, false)
end Go.Proofs.Ytgbmoipkgnklfaa
