/- A list laid over zeros, number by number; mathematics alone. -/
import Derived.Test.YtbndgkjnigehgabMarks
namespace Go.Proofs.Ytbndgkjnigehgab
/-- a list over zeros -/
def ovr (n : Nat) (ys : List Int) : List Int := ys ++ (List.replicate n (0 : Int)).drop ys.length
theorem ovr_nil (n : Nat) : ovr n [] = List.replicate n 0 := rfl
theorem ovr_snoc (n : Nat) (ys : List Int) (z : Int) (h : ys.length < n) : (ovr n ys).set ys.length z = ovr n (ys ++ [z]) := by
  unfold ovr
  have e : (List.replicate n (0 : Int)).drop ys.length = 0 :: (List.replicate n (0 : Int)).drop (ys.length + 1) := by
    rw [List.drop_eq_getElem_cons (by simpa using h)]
    simp
  rw [e, List.set_append_right _ _ (Nat.le_refl _), Nat.sub_self, List.set_cons_zero, List.length_append, List.length_singleton, List.append_assoc]
  rfl
theorem ovr_all (n : Nat) (ys : List Int) (h : ys.length = n) : ovr n ys = ys := by
  unfold ovr
  rw [List.drop_of_length_le (by simp [h]), List.append_nil]

end Go.Proofs.Ytbndgkjnigehgab
