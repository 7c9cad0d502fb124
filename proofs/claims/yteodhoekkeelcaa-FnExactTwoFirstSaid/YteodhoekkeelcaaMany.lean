/- Numbers of people of chapter 2 are checked as the chapter says, in the program and in its model; no condition. -/
import Derived.Test.YteodhoekkeelcaaLow
import Derived.Test.YteodhoekkeelcaaRes
namespace Go.Proofs.Yteodhoekkeelcaa
open Go.ChangeShapes Go.WideShapes Go.ChangeAt Go.RowKit

theorem isMany_yes (p : Int) (w : World) (h : In p 1 1000000000000) :
    Calls Try.prog 34 #[.int .i64 p] w fun e w' => e = .returned (.bool true) ∧ w = w' := by
  have h1 := h.lo; have h2 := h.hi
  go_enter Try.func34, Try.ntmps34
  go_wp2_with (first | ((with_reducible refine (within_yes _ _ _ _ (by omega) (by omega)).mono ?_); rintro e w' ⟨rfl, rfl⟩))
  go_ret
  exact ⟨rfl, rfl⟩

theorem isMany_no (p : Int) (w : World) (h : ¬ In p 1 1000000000000) :
    Calls Try.prog 34 #[.int .i64 p] w fun e w' => e = .returned (.bool false) ∧ w = w' := by
  have h1 := not_in h
  go_enter Try.func34, Try.ntmps34
  go_wp2_with (first | ((with_reducible refine (within_no _ _ _ _ (by omega)).mono ?_); rintro e w' ⟨rfl, rfl⟩))
  go_ret
  exact ⟨rfl, rfl⟩

theorem twGood_yes (p : Int) (w : World) (h : In p 1 1000000000000) :
    Calls Try.prog 29 #[.int .i64 p] w fun e w' => e = .returned (.bool true) ∧ w = w' := by
  have h1 := h.lo; have h2 := h.hi
  go_enter Try.func29, Try.ntmps29
  go_wp2_with (first | ((with_reducible refine (l1In_yes _ _ _ _ (by omega) (by omega)).mono ?_); rintro e w' ⟨rfl, rfl⟩))
  go_ret
  exact ⟨rfl, rfl⟩

theorem twGood_no (p : Int) (w : World) (h : ¬ In p 1 1000000000000) :
    Calls Try.prog 29 #[.int .i64 p] w fun e w' => e = .returned (.bool false) ∧ w = w' := by
  have h1 := not_in h
  go_enter Try.func29, Try.ntmps29
  go_wp2_with (first | ((with_reducible refine (l1In_no _ _ _ _ (by omega)).mono ?_); rintro e w' ⟨rfl, rfl⟩))
  go_ret
  exact ⟨rfl, rfl⟩

end Go.Proofs.Yteodhoekkeelcaa
