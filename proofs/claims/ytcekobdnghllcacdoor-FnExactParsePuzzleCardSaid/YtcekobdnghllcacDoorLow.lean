/- The functions of chapter 1 that only compute with integers (ranges of numbers, who is left by the recurrence) return what the plain definitions here say, in the program and in its model; no condition but that the integers are in the ranges that are named. -/
import Derived.Test.YtcekobdnghllcacDoorRows
import Derived.WalkKit
import Derived.ProofKit
import Derived.OpenShut
import Derived.Lib.Hide
import Derived.Deep.QuietTactic
import Derived.BigQuiet
namespace Go.Proofs.YtcekobdnghllcacDoor
open Go.ChangeShapes Go.WideShapes Go.ChangeAt Go.RowKit

theorem ret_bool {a b : Bool} (h : a = b) : Ending.returned (.bool a) = .returned (.bool b) := by rw [h]
theorem ret_int {k : IntKind} {a b : Int} (h : a = b) : Ending.returned (.int k a) = .returned (.int k b) := by rw [h]

/-- who is left of n + 1 people by the step k -/
def lastN (k : Int) : Nat → Int
  | 0 => 0
  | n + 1 => (lastN k n + k) % ((n : Int) + 2)

theorem lastN_bd (k : Int) (n : Nat) : 0 ≤ lastN k n ∧ lastN k n ≤ n := by
  cases n with
  | zero => simp [lastN]
  | succ n =>
    unfold lastN
    have h1 := Int.emod_nonneg (lastN k n + k) (b := (n : Int) + 2) (by omega)
    have h2 := Int.emod_lt_of_pos (lastN k n + k) (b := (n : Int) + 2) (by omega)
    omega

/-- numbers of people and a step that the chapter allows -/
structure Asked (p k : Int) : Prop where
  p1 : 1 ≤ p
  p2 : p ≤ 200
  k1 : 1 ≤ k
  k2 : k ≤ 1000000

theorem not_asked {p k : Int} (h : ¬ Asked p k) : (p < 1 ∨ 200 < p) ∨ (1 ≤ p ∧ p ≤ 200 ∧ (k < 1 ∨ 1000000 < k)) := by
  by_cases h1 : p < 1
  · exact .inl (.inl h1)
  · by_cases h2 : 200 < p
    · exact .inl (.inr h2)
    · refine .inr ⟨by omega, by omega, ?_⟩
      by_cases h3 : k < 1
      · exact .inl h3
      · by_cases h4 : 1000000 < k
        · exact .inr h4
        · exact absurd ⟨by omega, by omega, by omega, by omega⟩ h

theorem l1In_yes (n lo hi : Int) (w : World) (h1 : lo ≤ n) (h2 : n ≤ hi) :
    Calls Tryd.prog 25 #[.int .i64 n, .int .i64 lo, .int .i64 hi] w fun e w' => e = .returned (.bool true) ∧ w = w' := by
  go_enter Tryd.func25, Tryd.ntmps25
  go_wp2
  go_ret
  exact ⟨rfl, rfl⟩

theorem l1In_no (n lo hi : Int) (w : World) (h : n < lo ∨ hi < n) :
    Calls Tryd.prog 25 #[.int .i64 n, .int .i64 lo, .int .i64 hi] w fun e w' => e = .returned (.bool false) ∧ w = w' := by
  by_cases h1 : n < lo
  · go_enter Tryd.func25, Tryd.ntmps25
    go_wp2
    go_ret
    exact ⟨ret_bool rfl, rfl⟩
  · have h2 : hi < n := by omega
    have h3 : lo ≤ n := by omega
    clear h h1
    go_enter Tryd.func25, Tryd.ntmps25
    go_wp2
    go_ret
    exact ⟨ret_bool (by simp; omega), rfl⟩

theorem within_yes (n lo hi : Int) (w : World) (h1 : lo ≤ n) (h2 : n ≤ hi) :
    Calls Tryd.prog 38 #[.int .i64 n, .int .i64 lo, .int .i64 hi] w fun e w' => e = .returned (.bool true) ∧ w = w' := by
  go_enter Tryd.func38, Tryd.ntmps38
  go_wp2
  go_ret
  exact ⟨rfl, rfl⟩

theorem within_no (n lo hi : Int) (w : World) (h : n < lo ∨ hi < n) :
    Calls Tryd.prog 38 #[.int .i64 n, .int .i64 lo, .int .i64 hi] w fun e w' => e = .returned (.bool false) ∧ w = w' := by
  by_cases h1 : n < lo
  · go_enter Tryd.func38, Tryd.ntmps38
    go_wp2
    go_ret
    exact ⟨ret_bool rfl, rfl⟩
  · have h2 : hi < n := by omega
    have h3 : lo ≤ n := by omega
    clear h h1
    go_enter Tryd.func38, Tryd.ntmps38
    go_wp2
    go_ret
    exact ⟨ret_bool (by simp; omega), rfl⟩

/-- who goes at turn t of m + t + 1 people -/
def outN (k : Int) (m : Nat) : Nat → Int
  | 0 => (k - 1) % ((m : Int) + 1)
  | t + 1 => (outN k m t + k) % ((m : Int) + t + 2)
theorem outN_bd (k : Int) (m : Nat) : ∀ t, 0 ≤ outN k m t ∧ outN k m t ≤ m + t
  | 0 => by
    have h1 := Int.emod_nonneg (k - 1) (b := (m : Int) + 1) (by omega)
    have h2 := Int.emod_lt_of_pos (k - 1) (b := (m : Int) + 1) (by omega)
    unfold outN; omega
  | t + 1 => by
    have h1 := Int.emod_nonneg (outN k m t + k) (b := (m : Int) + t + 2) (by omega)
    have h2 := Int.emod_lt_of_pos (outN k m t + k) (b := (m : Int) + t + 2) (by omega)
    unfold outN; omega
theorem outN_last (k : Int) : ∀ n, outN k 0 n = lastN k n
  | 0 => by simp [outN, lastN]
  | n + 1 => by
    rw [outN, lastN, outN_last k n]
    congr 1
    simp
end Go.Proofs.YtcekobdnghllcacDoor
