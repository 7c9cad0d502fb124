/- The greatest number that divides two numbers and the least one that both divide, in the program; no condition but on their sizes. -/
import Derived.Test.YtlkmknigfdgnoabLaws
import Derived.WalkMore
namespace Go.Proofs.Ytlkmknigfdgnoab
open Go.ChangeShapes Go.WideShapes Go.ChangeAt Go.RowKit

set_option maxHeartbeats 1600000 in
theorem commonDivisor_any (L k : Nat) (W : World) (hL : L ≤ 1000000000) (hk : k ≤ 1000000000) :
    Calls Try.prog 32 #[.int .i64 L, .int .i64 k] W fun e w' => e = .returned (.int .i64 (Nat.gcd L k : Nat)) ∧ Kp Nw W w' := by
  have L0 : (0 : Int) ≤ L := Int.natCast_nonneg _
  have k0 : (0 : Int) ≤ k := Int.natCast_nonneg _
  go_enter Try.func32, Try.ntmps32
  go_wp2
  go_loopw [0, 1] (fun a b wy => ∃ (y z : Nat), a = .int .i64 y ∧ b = .int .i64 z ∧ y ≤ 1000000000 ∧ z ≤ 1000000000 ∧ Nat.gcd y z = Nat.gcd L k ∧ Kp Nw W wy) (fun _ b _ => (intOf b).toNat)
  case atStart => exact ⟨L, k, rfl, rfl, hL, hk, rfl, Kp.refl _ _⟩
  case round =>
    obtain ⟨y, z, rfl, rfl, hy, hz, hg, hk⟩ := hrel
    have HK3 := Lib.hid hk
    have HG := Lib.hid hg
    have y0 : (0 : Int) ≤ y := Int.natCast_nonneg _
    have z0 : (0 : Int) ≤ z := Int.natCast_nonneg _
    clear hk hg
    by_cases hz0 : 0 < z
    · have z1 : (0 : Int) < z := by omega
      have z2 : ¬ (z : Int) = 0 := by omega
      have hml : y % z < z := Nat.mod_lt _ hz0
      have wm : IntKind.i64.wrap ((y : Int).tmod z) = ((y % z : Nat) : Int) := by rw [Int.tmod_eq_emod_of_nonneg y0, ← Int.natCast_emod, IntWalk.i64_in _ (by omega)]
      go_wp2
      go_region
      all_goals go_wp2
      all_goals
        go_roundw
        case rel => exact ⟨z, y % z, rfl, rfl, by omega, by omega, by rw [← HG.out, Nat.gcd_comm y z, Nat.gcd_rec z y, Nat.gcd_comm], HK3.out.drew⟩
        case measure => simp [intOf] <;> omega
    · have ez : z = 0 := by omega
      subst ez
      have HY : Hid (y = Nat.gcd L k) := Lib.hid (by rw [← HG.out, Nat.gcd_zero_right])
      go_wp2
      go_ret
      exact ⟨by rw [HY.out]; rfl, HK3.out⟩

theorem lcm_form (L k : Nat) : L / Nat.gcd L k * k = Nat.lcm L k := by
  rw [Nat.lcm, Nat.mul_comm (L / Nat.gcd L k), ← Nat.mul_div_assoc _ (Nat.gcd_dvd_left L k), Nat.mul_comm]
end Go.Proofs.Ytlkmknigfdgnoab
