/- Cats that are given a life (GiveLife), and a copy of cats in which one has other lives (withLives), in the program and in the model; no condition but that the cats' slice can be read. -/
import Derived.Test.YtpajmgonceepoabDoorCats
import Derived.Test.YtpajmgonceepoabDoorLetGo
import Derived.Lib.SliceRun
namespace Go.Proofs.YtpajmgonceepoabDoor
open Go.ChangeShapes Go.WideShapes Go.ChangeAt Go.RowKit

theorem SlAt.kpX {w w' : World} {B g cap n : Nat} {xs : List Int} {S : Nat → Prop} (h : SlAt w B g cap n xs) (hk : Kp S w w') (hs : ¬ S g) : SlAt w' B g cap n xs := by
  have h1 := h.sl.kp hk (fun g' e => by
    have e' : g' = g := by simp [Value.ownBlock] at e; omega
    rw [e']; exact hs)
  refine ⟨h.1, ?_⟩
  unfold Sl at h1
  rw [h.1] at h1
  exact h1

end Go.Proofs.YtpajmgonceepoabDoor
