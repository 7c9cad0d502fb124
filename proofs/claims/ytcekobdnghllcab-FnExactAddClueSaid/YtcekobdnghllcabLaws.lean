/- What the laws of functions of lists share: copies of lists stay, a list that comes in can be read; no condition. -/
import Derived.Test.YtcekobdnghllcabGoodS
import Derived.Test.YtcekobdnghllcabOpen
import Derived.Test.YtcekobdnghllcabRes
namespace Go.Proofs.Ytcekobdnghllcab
open Go.ChangeShapes Go.WideShapes Go.ChangeAt Go.RowKit Go.Joins

/-- a copied list is as it was where nothing old changed -/
theorem SlAt.kq {w w' : World} {B g cap n : Nat} {xs : List Int} {S : Nat → Prop} (h : SlAt w B g cap n xs) (hk : Kp S w w') (hs : ¬ S g) : SlAt w' B g cap n xs := by
  have h1 := h.sl.kp hk (fun g' e => by
    have e' : g' = g := by simp [Value.ownBlock] at e; omega
    rw [e']; exact hs)
  refine ⟨h.1, ?_⟩
  unfold Sl at h1
  rw [h.1] at h1
  exact h1

/-- yes or no, nothing old changed -/
def BoolB (W : World) (b : Bool) (e : Ending) (w' : World) : Prop := e = .returned (.bool b) ∧ Kp Nw W w'

end Go.Proofs.Ytcekobdnghllcab
