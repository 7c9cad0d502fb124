/- The law of RingOf returns true at every two integers: the program and its model make the same ring, in new memory; no condition. -/
import Derived.Test.YtaejlhdbdjfccaaRing
namespace Go.Proofs.Ytaejlhdbdjfccaa
open Go.ChangeShapes Go.WideShapes Go.ChangeAt Go.RowKit

/-- two cells at the head of a block -/
def Two (w : World) (b : Nat) (x y : Value) : Prop := w.cell? ⟨b, 0, none⟩ = some x ∧ w.cell? ⟨b, 1, none⟩ = some y
theorem Two.kp {w w' : World} {b : Nat} {x y : Value} {S : Nat → Prop} (h : Two w b x y) (hk : Kp S w w') (hs : ¬ S b) : Two w' b x y :=
  ⟨(hk.cell (p := ⟨b, 0, none⟩) (World.block_lt_of_cell? w _ h.1) hs).trans h.1, (hk.cell (p := ⟨b, 1, none⟩) (World.block_lt_of_cell? w _ h.2) hs).trans h.2⟩
theorem Two.nw {w w' : World} {b : Nat} {x y : Value} (h : Two w b x y) (hk : Kp Nw w w') : Two w' b x y := h.kp hk (fun hs => hs)
theorem Two.new (w : World) (x y : Value) (t : TypeId) : Two (w.alloc (.cells #[x, y] t)) w.heap.size x y := by
  constructor <;> simp [World.cell?_alloc_at]

/-- what a call returns that makes a ring, or fails -/
def RingRes (W : World) (xs : List Int) (k : Int) (b : Bool) (e : Ending) (w' : World) : Prop := ∃ v, e = .returned (.tuple #[.agg #[v, .int .i64 k], .bool b]) ∧ Sl w' W.heap.size v xs ∧ Kp Nw W w'

end Go.Proofs.Ytaejlhdbdjfccaa
