/- Whether a ring is one, in the model, and the laws' own helpers that copy rings and tell their size; no condition but that the ring's slice is at the head of a row of its own, and at most a million and a bit long. -/
import Derived.Test.YtcekobdnghllcacDoorGood
import Derived.Test.YtcekobdnghllcacDoorMakeC
import Derived.Test.YtcekobdnghllcacDoorLetGo
namespace Go.Proofs.YtcekobdnghllcacDoor
open Go.ChangeShapes Go.WideShapes Go.ChangeAt Go.RowKit

/-- do numbers and a step make a ring? -/
def goodB (xs : List Int) (k : Int) : Bool := decide (1 ≤ xs.length ∧ xs.length ≤ 200 ∧ 1 ≤ k ∧ k ≤ 1000000) && decide (xs.all okB = true ∧ xs.Nodup)
theorem goodB_off (xs : List Int) (k : Int) (h : ¬ Asked xs.length k) : goodB xs k = false := by
  unfold goodB
  rw [decide_eq_false (fun ⟨a, b, c, d⟩ => h ⟨by omega, by omega, c, d⟩)]
  rfl
theorem goodB_on (xs : List Int) (k : Int) (h : Asked xs.length k) : goodB xs k = decide (xs.all okB = true ∧ xs.Nodup) := by
  have h1 := h.p1; have h2 := h.p2
  unfold goodB
  rw [decide_eq_true ⟨by omega, by omega, h.k1, h.k2⟩]
  rfl

/-- what a call returns that copies a ring -/
def CopyRes (W : World) (n : Nat) (xs : List Int) (k : Int) (e : Ending) (w' : World) : Prop := ∃ g, e = .returned (.agg #[.slice (some ⟨g, 0, none⟩) n n, .int .i64 k]) ∧ SlAt w' W.heap.size g n n xs ∧ Kp Nw W w' ∧ W.heap.size ≤ g ∧ g < w'.heap.size

end Go.Proofs.YtcekobdnghllcacDoor
