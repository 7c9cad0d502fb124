/- The model's shuffles (MilkDeck, MongeDeck, BackDeck); no condition but what the chapter asks. -/
import Derived.Test.YtpajmgonceepoabDoorDeckT
namespace Go.Proofs.YtpajmgonceepoabDoor
open Go.ChangeShapes Go.WideShapes Go.ChangeAt Go.RowKit

/-- the top and the bottom card together, j times -/
def milkN (xs : List Int) : Nat → List Int
  | 0 => []
  | j + 1 => xs.getD j 0 :: xs.getD (xs.length - 1 - j) 0 :: milkN xs j
theorem milkN_length (xs : List Int) : ∀ j, (milkN xs j).length = 2 * j
  | 0 => rfl
  | j + 1 => by simp [milkN, milkN_length xs j]; omega
def milk (xs : List Int) : List Int := if xs.length % 2 = 1 then xs.getD (xs.length / 2) 0 :: milkN xs (xs.length / 2) else milkN xs (xs.length / 2)
theorem milk_length (xs : List Int) : (milk xs).length = xs.length := by
  unfold milk
  split
  · rw [List.length_cons, milkN_length]; omega
  · rw [milkN_length]; omega
/-- one on top, the next one under -/
def monN (xs : List Int) : Nat → List Int
  | 0 => []
  | j + 1 => if j % 2 = 1 then xs.getD j 0 :: monN xs j else monN xs j ++ [xs.getD j 0]
theorem monN_length (xs : List Int) : ∀ j, (monN xs j).length = j
  | 0 => rfl
  | j + 1 => by
    rw [monN]
    split
    · rw [List.length_cons, monN_length xs j]
    · rw [List.length_append, monN_length xs j]; rfl
def monge (xs : List Int) : List Int := monN xs xs.length

theorem Sl.dr {w : World} {B : Nat} {v : Value} {xs : List Int} (h : Sl w B v xs) : Sl w.drew B v xs := h

end Go.Proofs.YtpajmgonceepoabDoor
