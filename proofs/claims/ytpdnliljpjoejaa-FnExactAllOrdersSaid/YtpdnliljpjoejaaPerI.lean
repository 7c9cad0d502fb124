/- The program's period, tables and steps with the same order; no condition but what the chapter asks. -/
import Derived.Test.YtpdnliljpjoejaaGcd
import Derived.Test.YtpdnliljpjoejaaSaveO
namespace Go.Proofs.Ytpdnliljpjoejaa
open Go.ChangeShapes Go.WideShapes Go.ChangeAt Go.RowKit

set_option maxHeartbeats 1600000 in
theorem periodOf_any (n : Nat) (W : World) (hp : 1 ≤ n) (hl : n ≤ 12) : Calls Try.prog 15 #[.int .i64 n] W (IntO W (perT n : Nat)) := by
  have n0 : (0 : Int) ≤ n := Int.natCast_nonneg _
  obtain ⟨R, hR⟩ : ∃ R, perT n = R := ⟨_, rfl⟩
  rw [hR]
  have HR := Lib.hid hR
  clear hR
  go_enter Try.func15, Try.ntmps15
  go_wp2
  go_loopw [3, 4] (fun o i wr => ∃ (j : Nat), 1 ≤ j ∧ j ≤ n ∧ i = .int .i64 ((j + 1 : Nat) : Int) ∧ o = .int .i64 (perT j : Nat) ∧ Kp Nw W wr) (fun _ i _ => n + 1 - (intOf i).toNat)
  case atStart => exact ⟨1, Nat.le_refl _, hp, rfl, rfl, Kp.refl _ _⟩
  case round =>
    obtain ⟨j, j1, jn, rfl, rfl, hk⟩ := hrel
    have HK := Lib.hid hk
    obtain ⟨L, hLe⟩ : ∃ L, perT j = L := ⟨_, rfl⟩
    have hL1 : 1 ≤ L := by rw [← hLe]; exact perT_pos j
    have hL2 : L ≤ 27720 := by rw [← hLe]; exact perT_le j (by omega)
    have HST : Hid (Nat.lcm L (j + 1) = perT (j + 1)) := Lib.hid (by rw [← hLe]; rfl)
    rw [hLe]
    have HL := Lib.hid hLe
    have j0 : (0 : Int) ≤ j := Int.natCast_nonneg _
    clear hk hLe
    by_cases hlt : j < n
    · have t1 : ((j + 1 : Nat) : Int) ≤ n := by omega
      have w2 : IntKind.i64.wrap (((j + 1 : Nat) : Int) + 1) = ((j + 1 + 1 : Nat) : Int) := by rw [IntWalk.i64_in _ (by omega)]; omega
      go_wp2_with fail
      refine (lcm_any L (j + 1) wr hL1 (by omega) (by omega)).mono ?_
      rw [HST.out]
      rintro e w1 ⟨rfl, hk1⟩
      have HK1 := Lib.hid (HK.out.nw hk1)
      clear hk1
      go_wp2
      go_roundw
      case rel => exact ⟨j + 1, by omega, by omega, by go_num, rfl, HK1.out⟩
      case measure => simp [intOf] <;> omega
    · have e : j = n := by omega
      subst e
      obtain rfl : L = R := by rw [← HL.out, HR.out]
      have t1 : ¬ ((j + 1 : Nat) : Int) ≤ j := by omega
      go_wp2
      go_ret
      exact ⟨rfl, HK.out⟩
theorem lastsT_get (n s j : Nat) (h : j < s) : (lastsT n s)[j]? = some (lastN ((j : Int) + 1) (n - 1)) := by unfold lastsT; simp [h]
end Go.Proofs.Ytpdnliljpjoejaa
