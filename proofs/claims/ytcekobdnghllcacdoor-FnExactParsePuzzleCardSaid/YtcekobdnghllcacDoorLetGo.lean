/- The circle of the program: how one goes (letGo); no condition but that the circle has at most a thousand places. -/
import Derived.Test.YtcekobdnghllcacDoorCircle
namespace Go.Proofs.YtcekobdnghllcacDoor
open Go.ChangeShapes Go.WideShapes Go.ChangeAt Go.RowKit

theorem Kp.frozen {S : Nat → Prop} {w w' : World} (h : Kp S w w') {p : Addr} (hp : p.block < w.heap.size) (hs : ¬ S p.block) : w'.frozen? p = w.frozen? p :=
  World.frozen?_of_block (h.block p.block hp hs)
theorem keepf {S : Nat → Prop} {w w' : World} (hk : Kp S w w') {a : Addr} (hl : a.block < w.heap.size) (h : w.frozen? a = false) (hs : ¬ S a.block) : w'.frozen? a = false := (hk.frozen hl hs).trans h

/-- two cells of a new block in the world at hand -/
def Own2 (w : World) (b : Nat) (x y : Value) : Prop := w.cell? ⟨b, 0, none⟩ = some x ∧ w.cell? ⟨b, 1, none⟩ = some y ∧ w.frozen? ⟨b, 0, none⟩ = false ∧ w.frozen? ⟨b, 1, none⟩ = false
theorem Own2.kp {w w' : World} {b : Nat} {x y : Value} {S : Nat → Prop} (h : Own2 w b x y) (hk : Kp S w w') (hs : ¬ S b) : Own2 w' b x y :=
  have hl := World.block_lt_of_cell? w _ h.1
  ⟨keepc hk h.1 hs, keepc hk h.2.1 hs, keepf hk (a := ⟨b, 0, none⟩) hl h.2.2.1 hs, keepf hk (a := ⟨b, 1, none⟩) hl h.2.2.2 hs⟩
theorem Own2.new (w : World) (x y : Value) (t : TypeId) : Own2 (w.alloc (.cells #[x, y] t)) w.heap.size x y := by
  refine ⟨?_, ?_, ?_, ?_⟩ <;> simp [World.cell?_alloc_at, World.frozen?_alloc_at]

theorem two_set (w : World) (b : Nat) (x y u v : Value) (h0 : w.cell? ⟨b, 0, none⟩ = some u) (h1 : w.cell? ⟨b, 1, none⟩ = some v) :
    ((w.setCell ⟨b, 0, none⟩ x).setCell ⟨b, 1, none⟩ y).cell? ⟨b, 0, none⟩ = some x ∧ ((w.setCell ⟨b, 0, none⟩ x).setCell ⟨b, 1, none⟩ y).cell? ⟨b, 1, none⟩ = some y := by
  constructor
  · rw [World.cell?_setCell_other _ _ _ _ (by simp), World.cell?_setCell_same _ _ _ h0]
  · exact World.cell?_setCell_same _ _ _ ((World.cell?_setCell_other _ _ _ _ (by simp)).trans h1)
theorem keeps (w : World) (a p : Addr) (x u : Value) (h : w.cell? a = some u) (hne : p.block ≠ a.block) : (w.setCell p x).cell? a = some u :=
  (World.cell?_setCell_other _ _ _ _ (fun e => hne (by rw [e]))).trans h

end Go.Proofs.YtcekobdnghllcacDoor
