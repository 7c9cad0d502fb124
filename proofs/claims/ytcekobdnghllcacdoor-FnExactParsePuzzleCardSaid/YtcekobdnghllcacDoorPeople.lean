/- A row of people (place and number) in memory: reading one, and the library's Delete of one of them; no condition but that the row has at most a thousand places. -/
import Derived.Test.YtcekobdnghllcacDoorMake
import Derived.Test.YtcekobdnghllcacDoorLow
import Derived.IntWalk
namespace Go.Proofs.YtcekobdnghllcacDoor
open Go.ChangeShapes Go.WideShapes Go.ChangeAt Go.RowKit

/-- the cells of people -/
def flat : List (Int × Int) → List Value
  | [] => []
  | p :: r => .int .i64 p.1 :: .int .i64 p.2 :: flat r
theorem flat_length : ∀ ps : List (Int × Int), (flat ps).length = ps.length * 2
  | [] => rfl
  | _ :: r => by simp [flat, flat_length r]; omega
theorem flat_append : ∀ ps qs : List (Int × Int), flat (ps ++ qs) = flat ps ++ flat qs
  | [], _ => rfl
  | _ :: r, qs => by simp [flat, flat_append r qs]
theorem flat_take : ∀ (ps : List (Int × Int)) (n : Nat), flat (ps.take n) = (flat ps).take (n * 2)
  | [], n => by simp [flat]
  | p :: r, 0 => by simp [flat]
  | p :: r, n + 1 => by
    rw [List.take_succ_cons, flat, flat, flat_take r n, show (n + 1) * 2 = n * 2 + 1 + 1 by omega, List.take_succ_cons, List.take_succ_cons]
theorem flat_drop : ∀ (ps : List (Int × Int)) (n : Nat), flat (ps.drop n) = (flat ps).drop (n * 2)
  | [], n => by simp [flat]
  | p :: r, 0 => by simp [flat]
  | p :: r, n + 1 => by
    rw [List.drop_succ_cons, flat_drop r n, flat, show (n + 1) * 2 = n * 2 + 1 + 1 by omega, List.drop_succ_cons, List.drop_succ_cons]
theorem flat_get : ∀ (ps : List (Int × Int)) (j : Nat), j < ps.length → (flat ps)[j * 2]? = some (.int .i64 (ps.getD j (0, 0)).1) ∧ (flat ps)[j * 2 + 1]? = some (.int .i64 (ps.getD j (0, 0)).2)
  | [], j, h => by simp at h
  | p :: r, 0, _ => by simp [flat]
  | p :: r, j + 1, h => by
    have := flat_get r j (by simpa using h)
    rw [show (j + 1) * 2 = j * 2 + 1 + 1 by omega]
    simpa [flat] using this
theorem flat_one (ps : List (Int × Int)) : ∀ u ∈ flat ps, u.oneCell' = true := by
  induction ps with
  | nil => simp [flat]
  | cons p r ih =>
    intro u hu
    simp only [flat, List.mem_cons] at hu
    rcases hu with rfl | rfl | hu
    · rfl
    · rfl
    · exact ih u hu

theorem erase_parts (ps : List (Int × Int)) (i : Nat) : ps.eraseIdx i = ps.take i ++ ps.drop (i + 1) := List.eraseIdx_eq_take_drop_succ ..

end Go.Proofs.YtcekobdnghllcacDoor
