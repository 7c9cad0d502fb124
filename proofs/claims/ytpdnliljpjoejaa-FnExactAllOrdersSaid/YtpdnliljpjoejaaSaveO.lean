/- More of chapter 5's model: the steps of the same order; no condition but what the chapter asks. -/
import Derived.Test.YtpdnliljpjoejaaSaveN
namespace Go.Proofs.Ytpdnliljpjoejaa
open Go.ChangeShapes Go.WideShapes Go.ChangeAt Go.RowKit

/-- the steps one period, two .. behind a step -/
def sameT (s : Int) (P c : Nat) : List Int := (List.range c).map (fun i : Nat => s + (((i + 1) * P : Nat) : Int))
theorem sameT_length (s : Int) (P c : Nat) : (sameT s P c).length = c := by unfold sameT; simp
theorem sameT_snoc (s : Int) (P c : Nat) : sameT s P (c + 1) = sameT s P c ++ [s + (((c + 1) * P : Nat) : Int)] := by unfold sameT; rw [List.range_succ, List.map_append]; rfl
def vSameOrderSteps (p s c : Int) : List Int × Bool := if 1 ≤ p ∧ p ≤ 12 ∧ 1 ≤ s ∧ s ≤ 1000000 ∧ 0 ≤ c ∧ c ≤ 20 then (sameT s (perT p.toNat) c.toNat, true) else ([], false)
theorem vSameOrderSteps_len (p s c : Int) : (vSameOrderSteps p s c).1.length ≤ 1000000 := by
  unfold vSameOrderSteps
  split
  · show (sameT s (perT p.toNat) c.toNat).length ≤ 1000000
    rw [sameT_length]
    omega
  · exact Nat.zero_le _

end Go.Proofs.Ytpdnliljpjoejaa
