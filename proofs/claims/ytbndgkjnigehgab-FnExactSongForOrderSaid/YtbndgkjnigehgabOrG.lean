/- What an order is, in the model; no condition. -/
import Derived.Test.YtbndgkjnigehgabDeck
import Derived.Test.YtbndgkjnigehgabLaws
namespace Go.Proofs.Ytbndgkjnigehgab
open Go.ChangeShapes Go.WideShapes Go.ChangeAt Go.RowKit
/-- is a list an order? -/
def ordB (xs : List Int) : Bool := decide (1 ≤ xs.length ∧ xs.length ≤ 12) && decide (xs.all (okR 0 ((xs.length : Int) - 1)) = true ∧ xs.Nodup)
theorem ordB_parts {xs : List Int} (h : ordB xs = true) : 1 ≤ xs.length ∧ xs.length ≤ 12 ∧ xs.all (okR 0 ((xs.length : Int) - 1)) = true ∧ xs.Nodup := by
  unfold ordB at h
  rw [Bool.and_eq_true, decide_eq_true_eq, decide_eq_true_eq] at h
  exact ⟨h.1.1, h.1.2, h.2.1, h.2.2⟩
theorem ordB_off {xs : List Int} (h : ¬ (1 ≤ xs.length ∧ xs.length ≤ 12)) : ordB xs = false := by
  unfold ordB; rw [decide_eq_false h]; rfl
theorem ordB_on {xs : List Int} (h : 1 ≤ xs.length ∧ xs.length ≤ 12) : ordB xs = decide (xs.all (okR 0 ((xs.length : Int) - 1)) = true ∧ xs.Nodup) := by
  unfold ordB; rw [decide_eq_true h]; rfl

end Go.Proofs.Ytbndgkjnigehgab
