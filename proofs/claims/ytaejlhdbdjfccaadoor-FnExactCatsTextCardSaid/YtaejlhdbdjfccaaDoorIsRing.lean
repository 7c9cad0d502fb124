/- The law of IsRing returns true at every ring, whatever its numbers: the program and its model say the same, and the ring that is given reads as before; no condition. -/
import Derived.Test.YtaejlhdbdjfccaaDoorGoodS
namespace Go.Proofs.YtaejlhdbdjfccaaDoor
open Go.ChangeShapes Go.WideShapes Go.ChangeAt Go.RowKit

theorem Two.kp' {w w' : World} {b : Nat} {x y : Value} (h : w.cell? ⟨b, 0, none⟩ = some x ∧ w.cell? ⟨b, 1, none⟩ = some y) (hk : Kp Nw w w') : w'.cell? ⟨b, 0, none⟩ = some x ∧ w'.cell? ⟨b, 1, none⟩ = some y :=
  ⟨keepc hk h.1 (fun h => h), keepc hk h.2 (fun h => h)⟩
theorem two_new (w : World) (x y : Value) (t : TypeId) : (w.alloc (.cells #[x, y] t)).cell? ⟨w.heap.size, 0, none⟩ = some x ∧ (w.alloc (.cells #[x, y] t)).cell? ⟨w.heap.size, 1, none⟩ = some y := by
  constructor <;> simp [World.cell?_alloc_at]

end Go.Proofs.YtaejlhdbdjfccaaDoor
