/- The gaps between those who go one after the other (GapsOut) and the turns at which the person with the same number goes (FixedTurns), in the program and in its model: both are the same list; for all integers. -/
import Derived.Test.YtpajmgonceepoabDoorOrder
import Derived.Test.YtpajmgonceepoabDoorAt
namespace Go.Proofs.YtpajmgonceepoabDoor
open Go.ChangeShapes Go.WideShapes Go.ChangeAt Go.RowKit
/-- the turns, of the first j, at which the person with the same number goes -/
def fixed (xs : List Int) (j : Nat) : List Int := ((List.range j).filter fun i : Nat => xs.getD i 0 = (i : Int)).map fun i : Nat => (i : Int)
theorem fixed_succ (xs : List Int) (j : Nat) : fixed xs (j + 1) = if xs.getD j 0 = (j : Int) then fixed xs j ++ [(j : Int)] else fixed xs j := by
  unfold fixed
  rw [List.range_succ, List.filter_append]
  by_cases h : xs.getD j 0 = (j : Int)
  · rw [if_pos h]; simp only [List.filter_cons, decide_eq_true h, List.filter_nil, if_true, List.map_append, List.map_cons, List.map_nil]
  · rw [if_neg h]; simp only [List.filter_cons, decide_eq_false h, List.filter_nil, List.append_nil, if_false, Bool.false_eq_true]
theorem fixed_le (xs : List Int) (j : Nat) : (fixed xs j).length ≤ j := by
  unfold fixed
  rw [List.length_map]
  exact Nat.le_trans (List.length_filter_le _ _) (by simp)

end Go.Proofs.YtpajmgonceepoabDoor
