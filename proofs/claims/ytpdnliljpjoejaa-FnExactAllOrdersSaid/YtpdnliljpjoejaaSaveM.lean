/- What the steps that save rest on: the least number that all of 1 .. n divide, the first number that fits; mathematics alone. -/
import Derived.Test.YtpdnliljpjoejaaLow
namespace Go.Proofs.Ytpdnliljpjoejaa

/-- the least number that all of 1 .. n divide -/
def perT : Nat → Nat
  | 0 => 1
  | n + 1 => Nat.lcm (perT n) (n + 1)
theorem perT_pos : ∀ n, 1 ≤ perT n
  | 0 => Nat.le_refl 1
  | n + 1 => Nat.lcm_pos (perT_pos n) (Nat.succ_pos n)
theorem perT_le (n : Nat) (h : n ≤ 12) : perT n ≤ 27720 := by
  have : ∀ i : Fin 13, perT i ≤ 27720 := by decide +kernel
  exact this ⟨n, by omega⟩
theorem perT_step (n : Nat) : perT n * ((n + 1) / Nat.gcd (perT n) (n + 1)) = perT (n + 1) := by
  rw [perT, Nat.lcm, Nat.mul_div_assoc _ (Nat.gcd_dvd_right _ _)]
/-- the first of 1 .. n that fits -/
def firstK (f : Nat → Bool) (n : Nat) : Int × Bool := match (List.range n).find? (fun j => f (j + 1)) with
  | some j => (((j + 1 : Nat) : Int), true)
  | none => (0, false)
theorem firstK_hit (f : Nat → Bool) (n j : Nat) (hj : j < n) (h : f (j + 1) = true) (hb : ∀ i, i < j → f (i + 1) = false) : firstK f n = (((j + 1 : Nat) : Int), true) := by
  have e : (List.range n).find? (fun j => f (j + 1)) = some j := by
    rw [List.find?_range_eq_some]
    exact ⟨h, List.mem_range.2 hj, fun i hi => by simp [hb i hi]⟩
  unfold firstK
  rw [e]
theorem firstK_none (f : Nat → Bool) (n : Nat) (hb : ∀ i, i < n → f (i + 1) = false) : firstK f n = (0, false) := by
  have e : (List.range n).find? (fun j => f (j + 1)) = none := by
    rw [List.find?_eq_none]
    intro i hi
    simp [hb i (List.mem_range.1 hi)]
  unfold firstK
  rw [e]
/-- how many of 1 .. n fit -/
def countK (f : Nat → Bool) : Nat → Nat
  | 0 => 0
  | n + 1 => countK f n + (if f (n + 1) = true then 1 else 0)
theorem countK_le (f : Nat → Bool) : ∀ n, countK f n ≤ n
  | 0 => Nat.le_refl 0
  | n + 1 => by
    have := countK_le f n
    rw [countK]
    split <;> omega
end Go.Proofs.Ytpdnliljpjoejaa
