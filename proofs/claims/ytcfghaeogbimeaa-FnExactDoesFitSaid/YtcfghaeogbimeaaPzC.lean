/- The model's solutions: all hidden circles that fit some clues; no condition but that they are clues. -/
import Derived.Test.YtcfghaeogbimeaaPzB
import Derived.Test.YtcfghaeogbimeaaTwoS
namespace Go.Proofs.Ytcfghaeogbimeaa
open Go.ChangeShapes Go.WideShapes Go.ChangeAt Go.RowKit

def fitA (ps : List Cu) (n : Nat) (k : Int) : Bool := ps.all fun c => fitB c n k
/-- those of so many people that fit, of the first steps -/
def solN (ps : List Cu) (n : Nat) : Nat → List (List Int)
  | 0 => []
  | s + 1 => solN ps n s ++ if fitA ps n ((s : Int) + 1) = true then [[(n : Int), (s : Int) + 1]] else []
def solA (ps : List Cu) : Nat → List (List Int)
  | 0 => []
  | n + 1 => solA ps n ++ solN ps (n + 1) 12
theorem solN_len (ps : List Cu) (n : Nat) : ∀ s, (solN ps n s).length ≤ s
  | 0 => Nat.le_refl _
  | s + 1 => by
    have := solN_len ps n s
    rw [solN, List.length_append]
    split <;> simp <;> omega
theorem solA_len (ps : List Cu) : ∀ n, (solA ps n).length ≤ n * 12
  | 0 => Nat.zero_le _
  | n + 1 => by
    have := solA_len ps n
    have := solN_len ps (n + 1) 12
    rw [solA, List.length_append]
    omega
end Go.Proofs.Ytcfghaeogbimeaa
