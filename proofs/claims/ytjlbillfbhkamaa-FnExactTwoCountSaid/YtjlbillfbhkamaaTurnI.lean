/- Counts that turn: orders, last ones, turns, tables, in the program as in its model; no condition. -/
import Derived.Test.YtjlbillfbhkamaaOrdB
import Derived.Test.YtjlbillfbhkamaaBothS
import Derived.Test.YtjlbillfbhkamaaLw6a
namespace Go.Proofs.Ytjlbillfbhkamaa
open Go.ChangeShapes Go.WideShapes Go.ChangeAt Go.RowKit

theorem isForthAndBack_yes (p f b : Int) (w : World) (h1 : Asked p f) (h2 : Asked p b) : Calls Try.prog 29 #[.int .i64 p, .int .i64 f, .int .i64 b] w fun e w' => e = .returned (.bool true) ∧ w = w' := by
  go_enter Try.func29, Try.ntmps29
  go_wp2_with (first | ((with_reducible refine (isCount_yes p f _ h1).mono ?_); rintro e w' ⟨rfl, rfl⟩) | ((with_reducible refine (isCount_yes p b _ h2).mono ?_); rintro e w' ⟨rfl, rfl⟩))
  go_ret
  exact ⟨rfl, rfl⟩
theorem isForthAndBack_no (p f b : Int) (w : World) (h : ¬ (Asked p f ∧ Asked p b)) : Calls Try.prog 29 #[.int .i64 p, .int .i64 f, .int .i64 b] w fun e w' => e = .returned (.bool false) ∧ w = w' := by
  by_cases h1 : Asked p f
  · have h2 : ¬ Asked p b := fun h2 => h ⟨h1, h2⟩
    go_enter Try.func29, Try.ntmps29
    go_wp2_with (first | ((with_reducible refine (isCount_yes p f _ h1).mono ?_); rintro e w' ⟨rfl, rfl⟩) | ((with_reducible refine (isCount_no p b _ h2).mono ?_); rintro e w' ⟨rfl, rfl⟩))
    go_ret
    exact ⟨rfl, rfl⟩
  · go_enter Try.func29, Try.ntmps29
    go_wp2_with (first | ((with_reducible refine (isCount_no p f _ h1).mono ?_); rintro e w' ⟨rfl, rfl⟩))
    go_ret
    exact ⟨rfl, rfl⟩
theorem tabB_get (n s j : Nat) (h : j < s) : (tabB n s)[j]? = some (lastB ((j : Int) + 1) ((j : Int) + 1) n) := by unfold tabB; simp [h]
end Go.Proofs.Ytjlbillfbhkamaa
