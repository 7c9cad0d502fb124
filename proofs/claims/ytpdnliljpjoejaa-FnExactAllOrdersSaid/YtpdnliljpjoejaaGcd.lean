/- The greatest number that divides two numbers and the least one that both divide, in the program; no condition but on their sizes. -/
import Derived.Test.YtpdnliljpjoejaaLaws
import Derived.WalkMore
namespace Go.Proofs.Ytpdnliljpjoejaa
open Go.ChangeShapes Go.WideShapes Go.ChangeAt Go.RowKit

set_option maxHeartbeats 1600000 in
theorem commonDivisor_any (L k : Nat) (W : World) (hL : L ≤ 1000000000) (hk : k ≤ 1000000000) :
    Calls Try.prog 33 #[.int .i64 L, .int .i64 k] W fun e w' => e = .returned (.int .i64 (Nat.gcd L k : Nat)) ∧ Kp Nw W w' := by
  have L0 : (0 : Int) ≤ L := Int.natCast_nonneg _
  have k0 : (0 : Int) ≤ k := Int.natCast_nonneg _
  go_enter Try.func33, Try.ntmps33
  go_wp2
  go_loopw [0, 1] (fun a b wy => ∃ (y z : Nat), a = .int .i64 y ∧ b = .int .i64 z ∧ y ≤ 1000000000 ∧ z ≤ 1000000000 ∧ Nat.gcd y z = Nat.gcd L k ∧ Kp Nw W wy) (fun _ b _ => (intOf b).toNat)
  case atStart => exact ⟨L, k, rfl, rfl, hL, hk, rfl, Kp.refl _ _⟩
  case round =>
    obtain ⟨y, z, rfl, rfl, hy, hz, hg, hk⟩ := hrel
    have HK3 := Lib.hid hk
    have HG := Lib.hid hg
    have y0 : (0 : Int) ≤ y := Int.natCast_nonneg _
    have z0 : (0 : Int) ≤ z := Int.natCast_nonneg _
    clear hk hg
    by_cases hz0 : 0 < z
    · have z1 : (0 : Int) < z := by omega
      have z2 : ¬ (z : Int) = 0 := by omega
      have hml : y % z < z := Nat.mod_lt _ hz0
      have wm : IntKind.i64.wrap ((y : Int).tmod z) = ((y % z : Nat) : Int) := by rw [Int.tmod_eq_emod_of_nonneg y0, ← Int.natCast_emod, IntWalk.i64_in _ (by omega)]
      go_wp2
      go_region
      all_goals go_wp2
      all_goals
        go_roundw
        case rel => exact ⟨z, y % z, rfl, rfl, by omega, by omega, by rw [← HG.out, Nat.gcd_comm y z, Nat.gcd_rec z y, Nat.gcd_comm], HK3.out.drew⟩
        case measure => simp [intOf] <;> omega
    · have ez : z = 0 := by omega
      subst ez
      have HY : Hid (y = Nat.gcd L k) := Lib.hid (by rw [← HG.out, Nat.gcd_zero_right])
      go_wp2
      go_ret
      exact ⟨by rw [HY.out]; rfl, HK3.out⟩

set_option maxHeartbeats 1600000 in
theorem commonMultiple_any (L k M : Nat) (W : World) (hL1 : 1 ≤ L) (hL : L ≤ 1000000000) (hk : k ≤ 1000) (hM : L / Nat.gcd L k * k = M) :
    Calls Try.prog 24 #[.int .i64 L, .int .i64 k] W fun e w' => e = .returned (.int .i64 M) ∧ Kp Nw W w' := by
  have L0 : (0 : Int) ≤ L := Int.natCast_nonneg _
  have k0 : (0 : Int) ≤ k := Int.natCast_nonneg _
  have hc := commonDivisor_any L k W hL (by omega)
  obtain ⟨y, hyg⟩ : ∃ y, Nat.gcd L k = y := ⟨_, rfl⟩
  have hyp : 1 ≤ y := by rw [← hyg]; exact Nat.gcd_pos_of_pos_left k hL1
  rw [hyg] at hc hM
  have y2 : ¬ (y : Int) = 0 := by omega
  obtain ⟨q, hq⟩ : ∃ q, L / y = q := ⟨_, rfl⟩
  have hqL : q ≤ L := by rw [← hq]; exact Nat.div_le_self _ _
  rw [hq] at hM
  have hMM : M ≤ 1000000000000 := by
    rw [← hM]
    exact Nat.le_trans (Nat.mul_le_mul hqL hk) (by omega)
  have wd : (L : Int) / y = (q : Int) := by rw [← Int.natCast_ediv, hq]
  have wu : (q : Int) * k = (M : Int) := by rw [← Int.natCast_mul, hM]
  have q0 : (0 : Int) ≤ q := Int.natCast_nonneg _
  have q1 : (q : Int) ≤ 1000000000 := by omega
  have M1 : (M : Int) ≤ 1000000000000 := by omega
  have M0 : (0 : Int) ≤ M := Int.natCast_nonneg _
  have HC := Lib.hid hc
  clear hM hq hyg hc
  go_enter Try.func24, Try.ntmps24
  go_wp2_with fail
  refine HC.out.mono ?_
  rintro e w1 ⟨rfl, hk1⟩
  have HK := Lib.hid hk1
  clear hk1
  go_wp2
  go_ret
  exact ⟨rfl, HK.out⟩


theorem lcm_form (L k : Nat) : L / Nat.gcd L k * k = Nat.lcm L k := by
  rw [Nat.lcm, Nat.mul_comm (L / Nat.gcd L k), ← Nat.mul_div_assoc _ (Nat.gcd_dvd_left L k), Nat.mul_comm]
theorem lcm_any (L k : Nat) (W : World) (hL1 : 1 ≤ L) (hL : L ≤ 1000000000) (hk : k ≤ 1000) :
    Calls Try.prog 24 #[.int .i64 L, .int .i64 k] W fun e w' => e = .returned (.int .i64 (Nat.lcm L k : Nat)) ∧ Kp Nw W w' :=
  commonMultiple_any L k _ W hL1 hL hk (lcm_form L k)
end Go.Proofs.Ytpdnliljpjoejaa
