/- The program's period, tables and steps with the same order; no condition but what the chapter asks. -/
import Derived.Test.YtlkmknigfdgnoabGcd
import Derived.Test.YtlkmknigfdgnoabSaveO
namespace Go.Proofs.Ytlkmknigfdgnoab
open Go.ChangeShapes Go.WideShapes Go.ChangeAt Go.RowKit
theorem isTable_yes (p s : Int) (w : World) (p0 : 1 ≤ p) (p1 : p ≤ 200) (s0 : 1 ≤ s) (s1 : s ≤ 200) : Calls Try.prog 30 #[.int .i64 p, .int .i64 s] w fun e w' => e = .returned (.bool true) ∧ w = w' := by
  go_enter Try.func30, Try.ntmps30
  go_wp2_with (first | ((with_reducible refine (within_yes p _ _ _ p0 p1).mono ?_); rintro e w' ⟨rfl, rfl⟩) | ((with_reducible refine (within_yes s _ _ _ s0 s1).mono ?_); rintro e w' ⟨rfl, rfl⟩))
  go_ret
  exact ⟨rfl, rfl⟩
theorem isTable_no1 (p s : Int) (w : World) (h : p < 1 ∨ 200 < p) : Calls Try.prog 30 #[.int .i64 p, .int .i64 s] w fun e w' => e = .returned (.bool false) ∧ w = w' := by
  go_enter Try.func30, Try.ntmps30
  go_wp2_with (first | ((with_reducible refine (within_no p _ _ _ h).mono ?_); rintro e w' ⟨rfl, rfl⟩))
  go_ret
  exact ⟨rfl, rfl⟩
theorem isTable_no2 (p s : Int) (w : World) (p0 : 1 ≤ p) (p1 : p ≤ 200) (h : s < 1 ∨ 200 < s) : Calls Try.prog 30 #[.int .i64 p, .int .i64 s] w fun e w' => e = .returned (.bool false) ∧ w = w' := by
  go_enter Try.func30, Try.ntmps30
  go_wp2_with (first | ((with_reducible refine (within_yes p _ _ _ p0 p1).mono ?_); rintro e w' ⟨rfl, rfl⟩) | ((with_reducible refine (within_no s _ _ _ h).mono ?_); rintro e w' ⟨rfl, rfl⟩))
  go_ret
  exact ⟨rfl, rfl⟩

theorem lastsT_get (n s j : Nat) (h : j < s) : (lastsT n s)[j]? = some (lastN ((j : Int) + 1) (n - 1)) := by unfold lastsT; simp [h]
end Go.Proofs.Ytlkmknigfdgnoab
