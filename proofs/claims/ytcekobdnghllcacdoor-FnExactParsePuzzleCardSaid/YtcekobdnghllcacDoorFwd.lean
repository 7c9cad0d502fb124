/- The program's circle that counts forward stays the model's turned list, turn by turn; and what it tells from the next one on; no condition but that there are at most a million people and the step is at least 1 and at most a million. -/
import Derived.Test.YtcekobdnghllcacDoorCount
namespace Go.Proofs.YtcekobdnghllcacDoor
open Go.ChangeShapes Go.WideShapes Go.ChangeAt Go.RowKit
theorem Diff.erase {ps : List (Int × Int)} (h : Diff ps) (j : Nat) : Diff (ps.eraseIdx j) := by
  intro a b hab hb
  by_cases hj : j < ps.length
  · have hl : (ps.eraseIdx j).length = ps.length - 1 := by rw [List.length_eraseIdx, if_pos hj]
    simp only [List.getD, List.getElem?_eraseIdx]
    rw [hl] at hb
    by_cases ha : a < j
    · by_cases hbj : b < j
      · rw [if_pos ha, if_pos hbj]; exact h a b hab (by omega)
      · rw [if_pos ha, if_neg hbj]; exact h a (b + 1) (by omega) (by omega)
    · rw [if_neg ha, if_neg (by omega)]; exact h (a + 1) (b + 1) (by omega) (by omega)
  · rw [List.eraseIdx_of_length_le (by omega)] at hb ⊢
    exact h a b hab hb

theorem outsP_getD (k : Int) : ∀ (t : Nat) (l : List (Int × Int)) (r : Nat), r < t → (outsP k t l).getD r (0, 0) = whoP k (lefts k r l)
  | 0, _, r, h => by omega
  | t + 1, l, 0, _ => rfl
  | t + 1, l, r + 1, h => by
    have := outsP_getD k t (rest k l) r (by omega)
    simpa [outsP, lefts] using this

theorem place_one (k : Int) : place k 1 = 0 := by simp [place, Int.emod_one]

theorem emod_add_place (i n : Nat) (k : Int) (h : 0 < n) : ((((i + place k n) % n : Nat)) : Int) = ((i : Int) + k - 1) % (n : Int) := by
  rw [Int.natCast_emod, Int.natCast_add, place_int k n h, Int.add_emod, Int.emod_emod, ← Int.add_emod]
  congr 1
  omega

end Go.Proofs.YtcekobdnghllcacDoor
