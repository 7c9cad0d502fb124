/- Orders of rings (RingOrder), in the program and in its model: both are the same list; no condition but that the ring's slice is at the head of a row of its own. -/
import Derived.Test.YtcekobdnghllcacDoorGoodS
import Derived.Test.YtcekobdnghllcacDoorOrder
namespace Go.Proofs.YtcekobdnghllcacDoor
open Go.ChangeShapes Go.WideShapes Go.ChangeAt Go.RowKit

/-- two cells at the head of a block -/
def Two (w : World) (b : Nat) (x y : Value) : Prop := w.cell? ⟨b, 0, none⟩ = some x ∧ w.cell? ⟨b, 1, none⟩ = some y
theorem Two.kp {w w' : World} {b : Nat} {x y : Value} {S : Nat → Prop} (h : Two w b x y) (hk : Kp S w w') (hs : ¬ S b) : Two w' b x y :=
  ⟨keepc hk h.1 hs, keepc hk h.2 hs⟩
theorem Two.nw {w w' : World} {b : Nat} {x y : Value} (h : Two w b x y) (hk : Kp Nw w w') : Two w' b x y := h.kp hk (fun hs => hs)
theorem Two.new (w : World) (x y : Value) (t : TypeId) : Two (w.alloc (.cells #[x, y] t)) w.heap.size x y := by
  constructor <;> simp [World.cell?_alloc_at]

theorem goodB_parts {xs : List Int} {k : Int} (h : goodB xs k = true) : 1 ≤ xs.length ∧ xs.length ≤ 200 ∧ 1 ≤ k ∧ k ≤ 1000000 := by
  unfold goodB at h
  rw [Bool.and_eq_true] at h
  exact of_decide_eq_true h.1
theorem SlAt.alloc {w : World} {B g cap n : Nat} {xs : List Int} (h : SlAt w B g cap n xs) (o : Obj) : SlAt (w.alloc o) B g cap n xs := ⟨h.1, h.2.alloc o⟩
theorem SlAt.nw {w w' : World} {B g cap n : Nat} {xs : List Int} (h : SlAt w B g cap n xs) (hk : Kp Nw w w') : SlAt w' B g cap n xs :=
  ⟨h.1, h.2.kept (row := none) ⟨hk.os, hk.tape, hk.output, hk.size, fun k hl _ => hk.block k hl (fun h => h)⟩ (.inr (by simp [Value.ownBlock]))⟩

end Go.Proofs.YtcekobdnghllcacDoor
