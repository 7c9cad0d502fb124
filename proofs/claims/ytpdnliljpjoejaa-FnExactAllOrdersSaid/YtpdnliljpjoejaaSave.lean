/- The model of chapter 5: the period, whether few people are there, PeriodOfSteps; no condition but what the chapter asks. -/
import Derived.Test.YtpdnliljpjoejaaSaveM
import Derived.Test.YtpdnliljpjoejaaLaws
namespace Go.Proofs.Ytpdnliljpjoejaa
open Go.ChangeShapes Go.WideShapes Go.ChangeAt Go.RowKit

/-- a number, nothing old changed -/
def IntO (W : World) (x : Int) (e : Ending) (w' : World) : Prop := e = .returned (.int .i64 x) ∧ Kp Nw W w'

set_option maxRecDepth 100000 in
set_option maxHeartbeats 1600000 in
theorem saPeriod_any (n : Nat) (W : World) (hp : 1 ≤ n) (hl : n ≤ 12) : Calls Try.prog 10 #[.int .i64 n] W (IntO W (perT n : Nat)) := by
  have n0 : (0 : Int) ≤ n := Int.natCast_nonneg _
  obtain ⟨R, hR⟩ : ∃ R, perT n = R := ⟨_, rfl⟩
  rw [hR]
  have HR := Lib.hid hR
  clear hR
  go_enter Try.func10, Try.ntmps10
  go_wp2
  go_loopw [3, 4] (fun o i wr => ∃ (j : Nat), 1 ≤ j ∧ j ≤ n ∧ i = .int .i64 ((j : Int) + 1) ∧ o = .int .i64 (perT j : Nat) ∧ Kp Nw W wr) (fun _ i _ => n + 1 - (intOf i).toNat)
  case atStart => exact ⟨1, Nat.le_refl _, hp, rfl, rfl, Kp.refl _ _⟩
  case round =>
    obtain ⟨j, j1, jn, rfl, rfl, hk⟩ := hrel
    have HK := Lib.hid hk
    obtain ⟨L, hLe⟩ : ∃ L, perT j = L := ⟨_, rfl⟩
    have hL1 : 1 ≤ L := by rw [← hLe]; exact perT_pos j
    have hL2 : L ≤ 27720 := by rw [← hLe]; exact perT_le j (by omega)
    have HST := Lib.hid (perT_step j)
    rw [hLe] at HST ⊢
    have HL := Lib.hid hLe
    have j0 : (0 : Int) ≤ j := Int.natCast_nonneg _
    clear hk hLe
    by_cases hlt : j < n
    · have t1 : (j : Int) + 1 ≤ n := by omega
      have w2 : IntKind.i64.wrap ((j : Int) + 1 + 1) = (j : Int) + 1 + 1 := IntWalk.i64_in _ (by omega)
      go_wp2
      go_loopw [5, 6] (fun a b wy => ∃ (y z : Nat), a = .int .i64 y ∧ b = .int .i64 z ∧ y ≤ 1000000 ∧ z ≤ 1000000 ∧ Nat.gcd y z = Nat.gcd L (j + 1) ∧ Kp Nw W wy) (fun _ b _ => (intOf b).toNat)
      case atStart => exact ⟨L, j + 1, rfl, rfl, by omega, by omega, rfl, HK.out⟩
      case round =>
        obtain ⟨y, z, rfl, rfl, hy, hz, hg, hk⟩ := hrel
        have HK3 := Lib.hid hk
        have HG := Lib.hid hg
        have y0 : (0 : Int) ≤ y := Int.natCast_nonneg _
        have z0 : (0 : Int) ≤ z := Int.natCast_nonneg _
        clear hk hg
        by_cases hz0 : 0 < z
        · have z1 : (0 : Int) < z := by omega
          have z2 : ¬ (z : Int) = 0 := by omega
          have hml : y % z < z := Nat.mod_lt _ hz0
          have wm : IntKind.i64.wrap ((y : Int).tmod z) = ((y % z : Nat) : Int) := by rw [Int.tmod_eq_emod_of_nonneg y0, ← Int.natCast_emod, IntWalk.i64_in _ (by omega)]
          go_wp2
          go_region
          all_goals go_wp2
          all_goals
            go_roundw
            case rel => exact ⟨z, y % z, rfl, rfl, by omega, by omega, by rw [← HG.out, Nat.gcd_comm y z, Nat.gcd_rec z y, Nat.gcd_comm], HK3.out.drew⟩
            case measure => simp [intOf] <;> omega
        · have ez : z = 0 := by omega
          subst ez
          have hyg : y = Nat.gcd L (j + 1) := by rw [← HG.out, Nat.gcd_zero_right]
          have hyp : 1 ≤ y := by rw [hyg]; exact Nat.gcd_pos_of_pos_left _ hL1
          have y2 : ¬ (y : Int) = 0 := by omega
          obtain ⟨q, hq⟩ : ∃ q, (j + 1) / y = q := ⟨_, rfl⟩
          have hqL : q ≤ j + 1 := by rw [← hq]; exact Nat.div_le_self _ _
          obtain ⟨M, hM⟩ : ∃ M, L * q = M := ⟨_, rfl⟩
          have HM2 : Hid (perT (j + 1) = M) := Lib.hid (by rw [← HST.out, ← hyg, hq, hM])
          have hMM : M ≤ 27720 := by rw [← HM2.out]; exact perT_le (j + 1) (by omega)
          have wd : ((j : Int) + 1) / y = (q : Int) := by rw [show (j : Int) + 1 = ((j + 1 : Nat) : Int) by omega, ← Int.natCast_ediv, hq]
          have wu : (L : Int) * q = (M : Int) := by rw [← Int.natCast_mul, hM]
          have q0 : (0 : Int) ≤ q := Int.natCast_nonneg _
          have q1 : (q : Int) ≤ 1000000 := by omega
          have M0 : (0 : Int) ≤ M := Int.natCast_nonneg _
          have M1 : (M : Int) ≤ 1000000 := by omega
          clear hM hq hyg
          go_wp2
          go_roundw
          case rel => exact ⟨j + 1, by omega, by omega, by go_num, by rw [HM2.out], HK3.out⟩
          case measure => simp [intOf] <;> omega
    · have e : j = n := by omega
      subst e
      obtain rfl : L = R := by rw [← HL.out, HR.out]
      have t1 : ¬ (j : Int) + 1 ≤ j := by omega
      go_wp2
      go_ret
      exact ⟨rfl, HK.out⟩

def vPeriodOfSteps (p : Int) : Int × Bool := if 1 ≤ p ∧ p ≤ 12 then ((perT p.toNat : Nat), true) else (0, false)
end Go.Proofs.Ytpdnliljpjoejaa
