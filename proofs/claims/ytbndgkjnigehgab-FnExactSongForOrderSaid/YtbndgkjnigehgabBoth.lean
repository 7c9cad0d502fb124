/- The order of a count that turns, of a count forth and back, in the model: a plain list; no condition but what the chapter asks. -/
import Derived.Test.YtbndgkjnigehgabTurn
import Derived.Test.YtbndgkjnigehgabDeckT
namespace Go.Proofs.Ytbndgkjnigehgab
open Go.ChangeShapes Go.WideShapes Go.ChangeAt Go.RowKit

/-- the step of a turn: forth, back, forth, .. -/
def stp (f b : Int) (j : Nat) : Int := if j % 2 = 0 then f else b
/-- who is left after some turns, the one from whom the next turn counts first, in the way of that turn -/
def boL {α : Type} (f b : Int) (l : List α) : Nat → List α
  | 0 => l
  | j + 1 => (rest (stp f b j) (boL f b l j)).reverse
/-- who went at the first turns -/
def boT (f b : Int) (l : List Int) : Nat → List Int
  | 0 => []
  | j + 1 => boT f b l j ++ [who (stp f b j) (boL f b l j)]
theorem boT_length (f b : Int) (l : List Int) : ∀ j, (boT f b l j).length = j
  | 0 => rfl
  | j + 1 => by rw [boT, List.length_append, boT_length f b l j]; rfl
theorem boL_length (f b : Int) (l : List Int) : ∀ j, j ≤ l.length → (boL f b l j).length = l.length - j
  | 0, _ => rfl
  | j + 1, h => by
    have h1 := boL_length f b l j (by omega)
    have := rest_length (stp f b j) (boL f b l j) (by omega)
    rw [boL, List.length_reverse]
    omega
theorem who_perm' (k : Int) (l : List Int) (h : 0 < l.length) : (who k l :: rest k l).Perm l := by
  have hp := place_lt k l.length h
  have e : l = l.take (place k l.length) ++ l[place k l.length] :: l.drop (place k l.length + 1) := by
    rw [← List.drop_eq_getElem_cons hp, List.take_append_drop]
  have ew : who k l = l[place k l.length] := by unfold who; rw [List.getD_eq_getElem?_getD, List.getElem?_eq_getElem hp]; rfl
  have : (who k l :: rest k l).Perm (l.take (place k l.length) ++ l[place k l.length] :: l.drop (place k l.length + 1)) := by
    rw [ew]
    unfold rest
    exact (List.Perm.cons _ List.perm_append_comm).trans List.perm_middle.symm
  exact this.trans (by rw [← e])
/-- those who went and those who are left are all -/
theorem bo_perm (f b : Int) (l : List Int) : ∀ j, j ≤ l.length → (boT f b l j ++ boL f b l j).Perm l
  | 0, _ => List.Perm.refl _
  | j + 1, h => by
    have hl := boL_length f b l j (by omega)
    refine List.Perm.trans ?_ (bo_perm f b l j (by omega))
    rw [boT, boL, List.append_assoc]
    refine List.Perm.append_left _ ?_
    exact (List.Perm.cons _ (List.reverse_perm _)).trans (who_perm' _ _ (by omega))
theorem boT_perm (f b : Int) (l : List Int) : (boT f b l l.length).Perm l := by
  have h := bo_perm f b l l.length (Nat.le_refl _)
  have h0 : boL f b l l.length = [] := List.eq_nil_of_length_eq_zero (by rw [boL_length f b l _ (Nat.le_refl _)]; omega)
  rw [h0, List.append_nil] at h
  exact h
end Go.Proofs.Ytbndgkjnigehgab
