/- The rounds when two count, in the program; no condition but that there are at most two hundred people and the steps are those of the chapter. -/
import Derived.Test.YtcfghaeogbimeaaLose
import Derived.Test.YtcfghaeogbimeaaCho
namespace Go.Proofs.Ytcfghaeogbimeaa
open Go.ChangeShapes Go.WideShapes Go.ChangeAt Go.RowKit

/-- where the next count goes on: one who goes, and then another one -/
theorem idx2_eq (n j p : Nat) (hj : j < n) (hp : p < n) (hne : p ≠ j) : (if (if p < j then p else p - 1) < j % (n - 1) then j % (n - 1) - 1 else j % (n - 1)) % (n - 1 - 1) = idx2 n j p := by
  unfold idx2
  rw [if_neg hne, show n - 1 - 1 = n - 2 by omega]
  by_cases e : j = n - 1
  · subst e
    rw [Nat.mod_self, if_neg (by omega), if_pos (by omega : p < n - 1), show n - 1 - 1 = n - 2 by omega, Nat.mod_self, Nat.zero_mod]
  · rw [Nat.mod_eq_of_lt (by omega : j < n - 1)]
    by_cases c : p < j
    · rw [if_pos c, if_pos c, if_pos c]
    · rw [if_neg c, if_neg c, if_neg (by omega), Nat.sub_zero]
theorem person_num (a b : Int) : ∀ w : World, (Instr.field 70 (.agg #[.int .i64 a, .int .i64 b]) 1).run Try.prog w = .ok (.int .i64 b) w := fun _ => by kernel_rfl
theorem marks_inc (n : Nat) : Inc (marks 0 n) := by
  intro i j h1 h2
  rw [marks_length] at h2
  rw [marks_getD 0 n i (by omega), marks_getD 0 n j h2]
  omega
end Go.Proofs.Ytcfghaeogbimeaa
