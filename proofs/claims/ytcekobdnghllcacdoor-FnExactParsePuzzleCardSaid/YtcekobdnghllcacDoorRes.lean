/- What a call returns that tells a number, a list, or fails; no condition. -/
import Derived.Test.YtcekobdnghllcacDoorMake
namespace Go.Proofs.YtcekobdnghllcacDoor
open Go.ChangeShapes Go.WideShapes Go.ChangeAt Go.RowKit

/-- a number and whether there is one, nothing old changed -/
def IntB (W : World) (x : Int) (b : Bool) (e : Ending) (w' : World) : Prop := e = .returned (.tuple #[.int .i64 x, .bool b]) ∧ Kp Nw W w'
/-- a list and whether there is one, in new memory, nothing old changed -/
def ListB (W : World) (xs : List Int) (b : Bool) (e : Ending) (w' : World) : Prop := ∃ v, e = .returned (.tuple #[v, .bool b]) ∧ Sl w' W.heap.size v xs ∧ Kp Nw W w'
theorem listB_nil (W : World) (b : Bool) : ListB W [] b (.returned (.tuple #[.slice none 0 0, .bool b])) W := ⟨_, rfl, Sl.nil _ _, Kp.refl _ _⟩
/-- a number lies in a range -/
structure In (n lo hi : Int) : Prop where
  lo : lo ≤ n
  hi : n ≤ hi
theorem not_in {n lo hi : Int} (h : ¬ In n lo hi) : n < lo ∨ hi < n := by
  by_cases h1 : n < lo
  · exact .inl h1
  · by_cases h2 : hi < n
    · exact .inr h2
    · exact absurd ⟨by omega, by omega⟩ h
end Go.Proofs.YtcekobdnghllcacDoor
