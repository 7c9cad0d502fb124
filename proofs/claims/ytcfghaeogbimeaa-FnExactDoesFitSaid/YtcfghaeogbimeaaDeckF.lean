/- The deck that is dealt as an order with counts, in the model (caFor): each card lies where the places are dealt; no condition but that there are at most a thousand cards and as many counts as cards. -/
import Derived.Test.YtcfghaeogbimeaaDeck
namespace Go.Proofs.Ytcfghaeogbimeaa
open Go.ChangeShapes Go.WideShapes Go.ChangeAt Go.RowKit

theorem SlAt.kd {w w' : World} {B g cap n : Nat} {xs : List Int} {S : Nat → Prop} (h : SlAt w B g cap n xs) (hk : Kp S w w') (hs : ¬ S g) : SlAt w' B g cap n xs := by
  have h1 := h.sl.kp hk (fun g' e => by
    have e' : g' = g := by simp [Value.ownBlock] at e; omega
    rw [e']; exact hs)
  refine ⟨h.1, ?_⟩
  unfold Sl at h1
  rw [h.1] at h1
  exact h1
theorem marks_mem (n : Nat) (x : Int) (h : x ∈ marks 0 n) : 0 ≤ x ∧ x < n := by
  unfold marks at h
  simp at h
  omega
/-- cards laid at places, one after the other -/
def scatN (os ps : List Int) : Nat → List Int
  | 0 => List.replicate os.length 0
  | j + 1 => (scatN os ps j).set (ps.getD j 0).toNat (os.getD j 0)
theorem scatN_length (os ps : List Int) : ∀ j, (scatN os ps j).length = os.length
  | 0 => by simp [scatN]
  | j + 1 => by rw [scatN, List.length_set, scatN_length os ps j]
def scat (os ps : List Int) : List Int := scatN os ps ps.length
theorem scat_length (os ps : List Int) : (scat os ps).length = os.length := scatN_length _ _ _

end Go.Proofs.Ytcfghaeogbimeaa
