/- The model of chapter 5: the period, whether few people are there, PeriodOfSteps; no condition but what the chapter asks. -/
import Derived.Test.YtlkmknigfdgnoabSaveM
import Derived.Test.YtlkmknigfdgnoabLaws
namespace Go.Proofs.Ytlkmknigfdgnoab
open Go.ChangeShapes Go.WideShapes Go.ChangeAt Go.RowKit

/-- a number, nothing old changed -/
def IntO (W : World) (x : Int) (e : Ending) (w' : World) : Prop := e = .returned (.int .i64 x) ∧ Kp Nw W w'

theorem saTable_yes (p s : Int) (w : World) (p0 : 1 ≤ p) (p1 : p ≤ 200) (s0 : 1 ≤ s) (s1 : s ≤ 200) : Calls Try.prog 26 #[.int .i64 p, .int .i64 s] w fun e w' => e = .returned (.bool true) ∧ w = w' := by
  go_enter Try.func26, Try.ntmps26
  go_wp2_with (first | ((with_reducible refine (l1In_yes p _ _ _ p0 p1).mono ?_); rintro e w' ⟨rfl, rfl⟩) | ((with_reducible refine (l1In_yes s _ _ _ s0 s1).mono ?_); rintro e w' ⟨rfl, rfl⟩))
  go_ret
  exact ⟨rfl, rfl⟩
theorem saTable_no1 (p s : Int) (w : World) (h : p < 1 ∨ 200 < p) : Calls Try.prog 26 #[.int .i64 p, .int .i64 s] w fun e w' => e = .returned (.bool false) ∧ w = w' := by
  go_enter Try.func26, Try.ntmps26
  go_wp2_with (first | ((with_reducible refine (l1In_no p _ _ _ h).mono ?_); rintro e w' ⟨rfl, rfl⟩))
  go_ret
  exact ⟨rfl, rfl⟩
theorem saTable_no2 (p s : Int) (w : World) (p0 : 1 ≤ p) (p1 : p ≤ 200) (h : s < 1 ∨ 200 < s) : Calls Try.prog 26 #[.int .i64 p, .int .i64 s] w fun e w' => e = .returned (.bool false) ∧ w = w' := by
  go_enter Try.func26, Try.ntmps26
  go_wp2_with (first | ((with_reducible refine (l1In_yes p _ _ _ p0 p1).mono ?_); rintro e w' ⟨rfl, rfl⟩) | ((with_reducible refine (l1In_no s _ _ _ h).mono ?_); rintro e w' ⟨rfl, rfl⟩))
  go_ret
  exact ⟨rfl, rfl⟩

def vPeriodOfSteps (p : Int) : Int × Bool := if 1 ≤ p ∧ p ≤ 12 then ((perT p.toNat : Nat), true) else (0, false)
end Go.Proofs.Ytlkmknigfdgnoab
