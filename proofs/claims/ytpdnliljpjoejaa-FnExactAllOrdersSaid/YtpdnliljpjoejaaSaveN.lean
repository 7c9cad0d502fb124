/- More of chapter 5's model: the next step for a person, the steps of the same order; no condition but what the chapter asks. -/
import Derived.Test.YtpdnliljpjoejaaSaveT
namespace Go.Proofs.Ytpdnliljpjoejaa
open Go.ChangeShapes Go.WideShapes Go.ChangeAt Go.RowKit
/-- the first step behind s, one period at most, for which a person is left -/
def nextK (n : Nat) (u s : Int) (P : Nat) : Int × Bool := if (firstK (fun i : Nat => decide (lastN (s + (i : Int)) (n - 1) = u)) P).2 = true then (s + (firstK (fun i : Nat => decide (lastN (s + (i : Int)) (n - 1) = u)) P).1, true) else (0, false)
def vNextStepFor (p u s : Int) : Int × Bool := if 1 ≤ p ∧ p ≤ 12 ∧ 0 ≤ u ∧ u ≤ p - 1 ∧ 1 ≤ s ∧ s ≤ 1000000 then nextK p.toNat u s (perT p.toNat) else (0, false)

end Go.Proofs.Ytpdnliljpjoejaa
