/- The exchange that a list is, in the program: exchangeOf; isOrdered; no condition but at most twelve numbers. -/
import Derived.Test.YtpbbfpgjhmjjoacEx
import Derived.Test.YtpbbfpgjhmjjoacPile
namespace Go.Proofs.Ytpbbfpgjhmjjoac
open Go.ChangeShapes Go.WideShapes Go.ChangeAt Go.RowKit
/-- a list laid over the exchange with everybody at the turn -/
def exOn (xs : List Int) : List Int := xs ++ (marks 0 12).drop xs.length
theorem exOn_len (xs : List Int) (h : xs.length ≤ 12) : (exOn xs).length = 12 := by unfold exOn; rw [List.length_append, List.length_drop, marks_length]; omega
theorem exOn_take (xs : List Int) : (exOn xs).take xs.length = xs := by unfold exOn; simp
theorem exOn_low (xs : List Int) (j : Nat) (h : j < xs.length) : (exOn xs).getD j 0 = xs.getD j 0 := by
  unfold exOn
  simp only [List.getD]
  rw [List.getElem?_append_left h]
theorem exOn_high (xs : List Int) (j : Nat) (h : xs.length ≤ j) (hj : j < 12) : (exOn xs).getD j 0 = (j : Int) := by
  unfold exOn
  simp only [List.getD]
  rw [List.getElem?_append_right h, List.getElem?_drop, show xs.length + (j - xs.length) = j by omega]
  have := marks_getD 0 12 j hj
  simp only [List.getD] at this
  rw [this]
  omega
theorem exOn_splice (xs : List Int) : splice (exC (marks 0 12)) 0 (exC xs) = exC (exOn xs) := by
  unfold splice exC exOn
  simp [List.map_drop]

theorem isOrdered_yes (p : Int) (w : World) (h0 : 1 ≤ p) (h1 : p ≤ 12) : Calls Try.prog 24 #[.int .i64 p] w fun e w' => e = .returned (.bool true) ∧ w = w' := by
  go_enter Try.func24, Try.ntmps24
  go_wp2_with (first | ((with_reducible refine (within_yes p _ _ _ h0 h1).mono ?_); rintro e w' ⟨rfl, rfl⟩))
  go_ret
  exact ⟨rfl, rfl⟩
theorem isOrdered_no (p : Int) (w : World) (h : p < 1 ∨ 12 < p) : Calls Try.prog 24 #[.int .i64 p] w fun e w' => e = .returned (.bool false) ∧ w = w' := by
  go_enter Try.func24, Try.ntmps24
  go_wp2_with (first | ((with_reducible refine (within_no p _ _ _ h).mono ?_); rintro e w' ⟨rfl, rfl⟩))
  go_ret
  exact ⟨rfl, rfl⟩

end Go.Proofs.Ytpbbfpgjhmjjoac
