/- More of chapter 5's model: who is left for the steps 1, 2 .., the least step for a person; no condition but what the chapter asks. -/
import Derived.Test.YtpdnliljpjoejaaSave
namespace Go.Proofs.Ytpdnliljpjoejaa
open Go.ChangeShapes Go.WideShapes Go.ChangeAt Go.RowKit
/-- who is left for the steps 1, 2 .. -/
def lastsT (n j : Nat) : List Int := (List.range j).map (fun i : Nat => lastN ((i : Int) + 1) (n - 1))
theorem lastsT_length (n j : Nat) : (lastsT n j).length = j := by unfold lastsT; simp
theorem lastsT_snoc (n j : Nat) : lastsT n (j + 1) = lastsT n j ++ [lastN ((j : Int) + 1) (n - 1)] := by unfold lastsT; rw [List.range_succ, List.map_append]; rfl
def vLastTable (p s : Int) : List Int × Bool := if 1 ≤ p ∧ p ≤ 200 ∧ 1 ≤ s ∧ s ≤ 200 then (lastsT p.toNat s.toNat, true) else ([], false)
theorem vLastTable_len (p s : Int) : (vLastTable p s).1.length ≤ 1000000 := by
  unfold vLastTable
  split
  · show (lastsT p.toNat s.toNat).length ≤ 1000000
    rw [lastsT_length]
    omega
  · exact Nat.zero_le _

/-- whether a person is left for a step -/
def isLast (n : Nat) (u : Int) (k : Nat) : Bool := decide (lastN (k : Int) (n - 1) = u)
def vStepForLast (p u : Int) : Int × Bool := if 1 ≤ p ∧ p ≤ 12 ∧ 0 ≤ u ∧ u ≤ p - 1 then firstK (isLast p.toNat u) (perT p.toNat) else (0, false)

end Go.Proofs.Ytpdnliljpjoejaa
