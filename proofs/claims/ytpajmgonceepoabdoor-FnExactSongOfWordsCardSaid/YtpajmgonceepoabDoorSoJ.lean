/- Songs in the model: two songs, one behind the other. -/
import Derived.Test.YtpajmgonceepoabDoorSoM
namespace Go.Proofs.YtpajmgonceepoabDoor
open Go.ChangeShapes Go.WideShapes Go.ChangeAt Go.RowKit

/-- two songs boxed, a cell for the result -/
theorem songs_open3 (x y : Value) (W w1 : World) (hk : Kp Nw (((W.alloc (.cells #[x] 24)).alloc (.cells #[y] 24)).alloc (.cells #[.slice none 0 0] 24)) w1) :
    Kp Nw W w1 ∧ W.heap.size + 3 ≤ w1.heap.size ∧ Own1 w1 W.heap.size x ∧ Own1 w1 (W.heap.size + 1) y ∧ Own1 w1 (W.heap.size + 2) (.slice none 0 0) := by
  refine ⟨(((Kp.al W _).nw (.al _ _)).nw (.al _ _)).nw hk, by have := hk.size; simp only [World.size_alloc] at this; exact this, (((Own1.new W x 24).kp (.al _ _) (fun h => h)).kp (.al _ _) (fun h => h)).kp hk (fun h => h), ?_, ?_⟩
  · have h := ((Own1.new (W.alloc (.cells #[x] 24)) y 24).kp (.al _ _) (fun h => h)).kp hk (fun h => h)
    simpa only [World.size_alloc] using h
  · have h := (Own1.new ((W.alloc (.cells #[x] 24)).alloc (.cells #[y] 24)) (.slice none 0 0) 24).kp hk (fun h => h)
    simpa only [World.size_alloc] using h
def vJoinSongs (xs ys : List Int) : List Int × Bool := if sgB xs = true ∧ sgB ys = true ∧ xs.length + ys.length ≤ 20 then (xs ++ ys, true) else ([], false)
theorem vJoinSongs_len (xs ys : List Int) : (vJoinSongs xs ys).1.length ≤ 1000000 := by
  unfold vJoinSongs
  split
  · rename_i h; simp only [List.length_append]; omega
  · exact Nat.zero_le _

end Go.Proofs.YtpajmgonceepoabDoor
