/- The model's PeopleOfSolutions, told by plain values; no condition. -/
import Derived.Test.YtcfghaeogbimeaeMPz
import Derived.Test.YtcfghaeogbimeaeGood
namespace Go.Proofs.Ytcfghaeogbimeae
open Go.ChangeShapes Go.WideShapes Go.ChangeAt Go.RowKit

theorem solN_two (ps : List Cu) (n : Nat) : ∀ s, ∀ xs ∈ solN ps n s, xs.length = 2
  | 0, xs, h => by cases h
  | s + 1, xs, h => by
    rw [solN, List.mem_append] at h
    rcases h with h | h
    · exact solN_two ps n s xs h
    · split at h
      · rw [List.mem_singleton] at h
        rw [h]
        rfl
      · cases h
theorem solA_two (ps : List Cu) : ∀ n, ∀ xs ∈ solA ps n, xs.length = 2
  | 0, xs, h => by cases h
  | n + 1, xs, h => by
    rw [solA, List.mem_append] at h
    rcases h with h | h
    · exact solA_two ps n xs h
    · exact solN_two ps _ _ xs h
/-- the different first numbers of the first lists -/
def pplT (xss : List (List Int)) : Nat → List Int
  | 0 => []
  | j + 1 => if (xss.getD j []).getD 0 0 ∈ pplT xss j then pplT xss j else pplT xss j ++ [(xss.getD j []).getD 0 0]
theorem pplT_len (xss : List (List Int)) : ∀ j, (pplT xss j).length ≤ j
  | 0 => Nat.le_refl _
  | j + 1 => by
    have := pplT_len xss j
    rw [pplT]
    split
    · omega
    · rw [List.length_append, List.length_singleton]; omega
def vPeopleOfSolutions (ps : List Cu) : List Int × Bool := if puzB ps = true then (pplT (solA ps 10) (solA ps 10).length, true) else ([], false)

end Go.Proofs.Ytcfghaeogbimeae
