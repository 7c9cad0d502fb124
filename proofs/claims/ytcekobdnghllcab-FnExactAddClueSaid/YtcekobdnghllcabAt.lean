/- Who goes at a turn (OutAt), at which turn one goes (TurnOut) and who is left behind turns (LeftAfter), in the program and in its model: both return the same; for all integers. -/
import Derived.Test.YtcekobdnghllcabOrder
import Derived.Test.YtcekobdnghllcabFrom
namespace Go.Proofs.Ytcekobdnghllcab
open Go.ChangeShapes Go.WideShapes Go.ChangeAt Go.RowKit

theorem outs_length (k : Int) : ∀ (t : Nat) (l : List Int), (outs k t l).length = t
  | 0, _ => rfl
  | t + 1, l => by rw [outs, List.length_cons, outs_length k t]

/-- where a number stands first, or -1 -/
def fndD (x : Int) : List Int → Nat → Int
  | [], _ => -1
  | y :: r, j => if y = x then (j : Int) else fndD x r (j + 1)
theorem fndD_drop (x : Int) (xs : List Int) (j : Nat) (h : j < xs.length) : fndD x (xs.drop j) j = if xs.getD j 0 = x then (j : Int) else fndD x (xs.drop (j + 1)) (j + 1) := by
  rw [List.drop_eq_getElem_cons h, fndD]
  simp [h]

/-- what a call returns that tells a number, or fails -/
def IntRes (W : World) (x : Int) (e : Ending) (w' : World) : Prop := e = .returned (.tuple #[.int .i64 x, .bool true]) ∧ Kp Nw W w'
def IntFail (W : World) (e : Ending) (w' : World) : Prop := e = .returned (.tuple #[.int .i64 0, .bool false]) ∧ Kp Nw W w'

theorem ordP_getD (k : Int) (n t : Nat) (ht : t < n) : ((ordP k (marks 0 n)).getD t (0, 0)).2 = (outs k n (marks 0 n)).getD t 0 := by
  have h := ordP_snd k (marks 0 n)
  rw [marks_length] at h
  have hl : t < (ordP k (marks 0 n)).length := by rw [ordP_length, marks_length]; exact ht
  rw [← h]
  simp [hl]

end Go.Proofs.Ytcekobdnghllcab
