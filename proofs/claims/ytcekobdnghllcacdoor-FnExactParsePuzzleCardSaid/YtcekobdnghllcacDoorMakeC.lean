/- The program's makers of a circle and of lists of numbers out of people (circleOf, numbersOf); no condition but that there are at most a million people. -/
import Derived.Test.YtcekobdnghllcacDoorCircle
import Derived.Test.YtcekobdnghllcacDoorRot
namespace Go.Proofs.YtcekobdnghllcacDoor
open Go.ChangeShapes Go.WideShapes Go.ChangeAt Go.RowKit

theorem flat_set : ∀ (ps : List (Int × Int)) (j : Nat) (p : Int × Int), flat (ps.set j p) = ((flat ps).set (j * 2) (.int .i64 p.1)).set (j * 2 + 1) (.int .i64 p.2)
  | [], j, p => by simp [flat]
  | q :: r, 0, p => by simp [flat]
  | q :: r, j + 1, p => by
    rw [List.set_cons_succ, flat, flat, flat_set r j p, show (j + 1) * 2 = j * 2 + 1 + 1 by omega]
    simp
theorem flat_rep : ∀ n : Nat, flat (List.replicate n (0, 0)) = List.replicate (n * 2) (Value.int .i64 0)
  | 0 => rfl
  | n + 1 => by rw [List.replicate_succ, flat, flat_rep n, show (n + 1) * 2 = n * 2 + 1 + 1 by omega, List.replicate_succ, List.replicate_succ]
theorem made_two (n : Nat) : (madeCells #[Value.int .i64 0, Value.int .i64 0] (n * 2)).toList = flat (List.replicate n (0, 0)) := by
  rw [flat_rep]
  apply List.ext_getElem?
  intro j
  by_cases hj : j < n * 2
  · have h2 : j % 2 = 0 ∨ j % 2 = 1 := by omega
    rcases h2 with h2 | h2 <;> simp [madeCells, hj, h2]
  · simp [madeCells, hj]

/-- the head of one list and the tail of another of the same length -/
def fill {α : Type} (A B : List α) (j : Nat) : List α := A.take j ++ B.drop j
theorem fill_set {α : Type} (A B : List α) (j : Nat) (x : α) (h : A.length = B.length) (hj : j < A.length) (hx : A[j]? = some x) : (fill A B j).set j x = fill A B (j + 1) := by
  unfold fill
  have e : B.drop j = B[j] :: B.drop (j + 1) := List.drop_eq_getElem_cons (by omega)
  rw [e, List.set_append_right _ _ (by simp; omega), List.length_take, Nat.min_eq_left (by omega), Nat.sub_self, List.set_cons_zero, List.take_add_one, hx]
  simp
theorem fill_length {α : Type} (A B : List α) (j : Nat) (h : A.length = B.length) (hj : j ≤ A.length) : (fill A B j).length = A.length := by
  simp [fill]; omega
theorem fill_zero {α : Type} (A B : List α) : fill A B 0 = B := by simp [fill]
theorem fill_all {α : Type} (A B : List α) (h : A.length = B.length) : fill A B A.length = A := by rw [fill, List.take_length, h, List.drop_length, List.append_nil]

/-- people told by numbers, each with the place -/
def num (xs : List Int) : List (Int × Int) := xs.mapIdx fun i x => ((i : Int), x)
theorem num_length (xs : List Int) : (num xs).length = xs.length := by simp [num]
theorem num_get (xs : List Int) (j : Nat) (h : j < xs.length) : (num xs)[j]? = some ((j : Int), xs.getD j 0) := by simp [num, h]
theorem num_getD (xs : List Int) (j : Nat) (h : j < xs.length) : (num xs).getD j (0, 0) = ((j : Int), xs.getD j 0) := by simp [num, h]
theorem num_snd (xs : List Int) : (num xs).map (·.2) = xs := by
  apply List.ext_getElem?
  intro j
  simp [num]
  cases xs[j]? <;> rfl
theorem num_diff (xs : List Int) : Diff (num xs) := by
  intro i j h1 h2
  rw [num_length] at h2
  rw [num_getD xs i (by omega), num_getD xs j h2]
  simp
  omega

/-- people that read, in a world, at an address -/
def RdP (w : World) (A : Addr) (ps : List (Int × Int)) : Prop := ∀ j, j < ps.length → ∃ g o, A = ⟨g, o, none⟩ ∧ w.cell? ⟨g, o + j * 2, none⟩ = some (.int .i64 (ps.getD j (0, 0)).1) ∧ w.cell? ⟨g, o + j * 2 + 1, none⟩ = some (.int .i64 (ps.getD j (0, 0)).2)
theorem RdP.nw {w w' : World} {A : Addr} {ps : List (Int × Int)} (h : RdP w A ps) (hk : Kp Nw w w') : RdP w' A ps := by
  intro j hj
  obtain ⟨g, o, e, h0, h1⟩ := h j hj
  exact ⟨g, o, e, keepc hk h0 (fun h => h), keepc hk h1 (fun h => h)⟩

theorem marks_fill (ps : List (Int × Int)) (j : Nat) (hj : j < ps.length) : (ps.map (·.2))[j]? = some (ps.getD j (0, 0)).2 := by simp [hj]

end Go.Proofs.YtcekobdnghllcacDoor
