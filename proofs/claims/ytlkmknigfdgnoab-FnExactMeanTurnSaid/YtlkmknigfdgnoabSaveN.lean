/- More of chapter 5's model: the next step for a person, the steps of the same order; no condition but what the chapter asks. -/
import Derived.Test.YtlkmknigfdgnoabSaveT
namespace Go.Proofs.Ytlkmknigfdgnoab
open Go.ChangeShapes Go.WideShapes Go.ChangeAt Go.RowKit

set_option maxHeartbeats 400000 in
theorem ciLast_far (n : Nat) (k : Int) (w : World) (h1 : 1 ≤ n) (h2 : n ≤ 1000000) (h3 : 1 ≤ k) (h4 : k ≤ 2000000) :
    Calls Try.prog 19 #[.int .i64 n, .int .i64 k] w fun e w' => e = .returned (.int .i64 (lastN k (n - 1))) ∧ w = w' := by
  go_enter Try.func19, Try.ntmps19
  go_wp2
  go_loop [5, 6] (fun a m => ∃ j : Nat, j + 1 ≤ n ∧ m = .int .i64 ((j : Int) + 2) ∧ a = .int .i64 (lastN k j)) (fun _ m => n + 1 - (intOf m).toNat)
  case atStart => exact ⟨0, by omega, rfl, rfl⟩
  case round =>
    obtain ⟨j, hj, rfl, rfl⟩ := hrel
    have hb1 := (lastN_bd k j).1
    have hb2 := (lastN_bd k j).2
    by_cases hlt : j + 1 < n
    · go_wp2
      go_round
      case rel => exact ⟨j + 1, by omega, by go_num, rfl⟩
      case measure => simp [intOf]; omega
    · go_wp2
      go_ret
      exact ⟨ret_int (by rw [show n - 1 = j by omega]), rfl⟩

/-- the first step behind s, one period at most, for which a person is left -/
def nextK (n : Nat) (u s : Int) (P : Nat) : Int × Bool := if (firstK (fun i : Nat => decide (lastN (s + (i : Int)) (n - 1) = u)) P).2 = true then (s + (firstK (fun i : Nat => decide (lastN (s + (i : Int)) (n - 1) = u)) P).1, true) else (0, false)
def vNextStepFor (p u s : Int) : Int × Bool := if 1 ≤ p ∧ p ≤ 12 ∧ 0 ≤ u ∧ u ≤ p - 1 ∧ 1 ≤ s ∧ s ≤ 1000000 then nextK p.toNat u s (perT p.toNat) else (0, false)

end Go.Proofs.Ytlkmknigfdgnoab
