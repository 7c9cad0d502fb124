/- The order in which all go (orderOfAll, OrderOut), in the program and in its model: both are the same plain list; no condition but that people and step are those that the chapter allows. -/
import Derived.Test.YtbndgkjnigehgabFwd
import Derived.Test.YtbndgkjnigehgabTurn
namespace Go.Proofs.Ytbndgkjnigehgab
open Go.ChangeShapes Go.WideShapes Go.ChangeAt Go.RowKit

theorem Ps.rdp {w : World} {L cap : Nat} {ps : List (Int × Int)} (h : Ps w L cap ps) : RdP w ⟨L, 0, none⟩ ps := fun j hj => by
  obtain ⟨a, b⟩ := h.cell j hj
  exact ⟨L, 0, rfl, by rw [Nat.zero_add]; exact a, by rw [Nat.zero_add]; exact b⟩

theorem Fwd.start {C L n : Nat} {k : Int} {w : World} {xs : List Int} (h : Ci w C L n (num xs) (0, xs.getD 0 0) k) (hp : 0 < xs.length) : Fwd (num xs) C L n k w 0 :=
  ⟨num xs, 0, _, h, rfl, num_diff xs, fun _ => ⟨by rw [num_length]; exact hp, num_getD xs 0 hp⟩, by simp [rot, lefts]⟩

/-- what a call returns that makes people in an order -/
def OrdRes (W : World) (n : Nat) (os : List (Int × Int)) (e : Ending) (w' : World) : Prop := ∃ G, e = .returned (.slice (some ⟨G, 0, none⟩) n n) ∧ Ps w' G n os ∧ Kp Nw W w' ∧ W.heap.size ≤ G

/-- the order in which people told by numbers go -/
def ordP (k : Int) (xs : List Int) : List (Int × Int) := outsP k xs.length (num xs)
theorem ordP_length (k : Int) (xs : List Int) : (ordP k xs).length = xs.length := outsP_length _ _ _
theorem ordP_snd (k : Int) (xs : List Int) : (ordP k xs).map (·.2) = outs k xs.length xs := by
  unfold ordP
  rw [← outs_map, num_snd]

/-- what a call returns that makes a list, or fails -/
def ListRes (W : World) (xs : List Int) (b : Bool) (e : Ending) (w' : World) : Prop := ∃ v, e = .returned (.tuple #[v, .bool b]) ∧ Sl w' W.heap.size v xs ∧ Kp Nw W w'

end Go.Proofs.Ytbndgkjnigehgab
