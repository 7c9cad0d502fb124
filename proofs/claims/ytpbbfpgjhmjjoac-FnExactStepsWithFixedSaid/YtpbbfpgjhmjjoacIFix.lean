/- For how many steps so many people go at the turn with their number, in the program; no condition. -/
import Derived.Test.YtpbbfpgjhmjjoacLaws7
import Derived.Test.YtpbbfpgjhmjjoacFixed
import Derived.Test.YtpbbfpgjhmjjoacPerI
namespace Go.Proofs.Ytpbbfpgjhmjjoac
open Go.ChangeShapes Go.WideShapes Go.ChangeAt Go.RowKit

theorem fixed_stay (ys : List Int) : ∀ j, (fixed ys j).length = stayC ys j
  | 0 => by simp [fixed, stayC]
  | j + 1 => by
    rw [fixed_succ, stayC, ← fixed_stay ys j]
    by_cases h : ys.getD j 0 = (j : Int)
    · rw [if_pos h, if_pos h.symm]; simp
    · rw [if_neg h, if_neg (fun e => h e.symm)]; rfl
set_option maxRecDepth 1000000 in
set_option maxHeartbeats 6400000 in
theorem iStepsWithFixed_yes (n m : Nat) (W : World) (n1 : 1 ≤ n) (n2 : n ≤ 8) (hm : m ≤ n) :
    Calls Try.prog 15 #[.int .i64 n, .int .i64 m] W (IntB W (fixC n m (perT n) : Nat) true) := by
  obtain ⟨R, hR⟩ : ∃ R, fixC n m (perT n) = R := ⟨_, rfl⟩
  obtain ⟨P, hP⟩ : ∃ P, perT n = P := ⟨_, rfl⟩
  have hPl : P ≤ 27720 := by rw [← hP]; exact perT_le n (by omega)
  rw [hR]
  have HR : Hid (fixC n m P = R) := Lib.hid (by rw [← hP]; exact hR)
  have HP := Lib.hid hP
  clear hR hP
  have n0 : (0 : Int) ≤ n := Int.natCast_nonneg _
  have m0 : (0 : Int) ≤ m := Int.natCast_nonneg _
  go_enter Try.func15, Try.ntmps15
  go_wp2_with (first | ((with_reducible refine (within_yes (n : Int) 1 8 _ (by omega) (by omega)).mono ?_); rintro e w' ⟨rfl, rfl⟩) | ((with_reducible refine (within_yes (m : Int) _ _ _ (by omega) (by omega)).mono ?_); rintro e w' ⟨rfl, rfl⟩))
  refine (periodOf_any n W (by omega) (by omega)).mono ?_
  rw [HP.out]
  rintro e w1 ⟨rfl, hk1⟩
  have HK1 := Lib.hid hk1
  clear hk1
  go_wp2
  go_loopw [6, 21] (fun x i wq => ∃ (j : Nat) (wr : World), j ≤ P ∧ i = .int .i64 j ∧ x = .int .i64 (fixC n m j : Nat) ∧ wr = wq ∧ Kp Nw W wr) (fun _ i _ => P - (intOf i).toNat)
  case atStart => exact ⟨0, _, Nat.zero_le _, rfl, rfl, rfl, HK1.out⟩
  case round =>
    obtain ⟨j, wr, hj, rfl, rfl, rfl, hk⟩ := hrel
    have HK := Lib.hid hk
    have j0 : (0 : Int) ≤ j := Int.natCast_nonneg _
    clear hk
    by_cases hlt : j < P
    · have j1 : (j : Int) < P := by omega
      have wj : IntKind.i64.wrap ((j : Int) + 1) = (j : Int) + 1 := IntWalk.i64_in _ (by omega)
      have hfl := fixed_stay (outs ((j : Int) + 1) n (marks 0 n)) n
      have hst : fixC n m (j + 1) = fixC n m j + (if stayC (outs ((j : Int) + 1) n (marks 0 n)) n = m then 1 else 0) := rfl
      have hbd := fixC_le n m j
      obtain ⟨K, hK⟩ : ∃ K, fixC n m j = K := ⟨_, rfl⟩
      rw [hK] at hst hbd ⊢
      obtain ⟨q, hq⟩ : ∃ q, stayC (outs ((j : Int) + 1) n (marks 0 n)) n = q := ⟨_, rfl⟩
      rw [hq] at hst hfl
      have K0 : (0 : Int) ≤ K := Int.natCast_nonneg _
      have q0 : (0 : Int) ≤ q := Int.natCast_nonneg _
      have HST := Lib.hid hst
      have HFL := Lib.hid hfl
      clear hst hfl hK hq
      go_wp2_with fail
      refine (iFixedTurns_yes n ((j : Int) + 1) wr ⟨by omega, by omega, by omega, by omega⟩).mono ?_
      rintro e w3 ⟨v3, rfl, hs3, hk3⟩
      obtain ⟨A3, c3, rfl⟩ := hs3.val HFL.out
      have HK3 := Lib.hid (HK.out.nw hk3)
      clear hs3 hk3
      by_cases hqm : q = m
      · have HS2 : Hid (fixC n m (j + 1) = K + 1) := Lib.hid (by rw [HST.out, if_pos hqm])
        have hqmi : (q : Int) = (m : Int) := by omega
        subst hqm
        go_wp2
        go_roundw
        case rel => exact ⟨j + 1, _, by omega, by go_num, by rw [HS2.out]; go_num, rfl, HK3.out⟩
        case measure => simp [intOf] <;> omega
      · have HS2 : Hid (fixC n m (j + 1) = K) := Lib.hid (by rw [HST.out, if_neg hqm]; rfl)
        have hqmi : ¬ (q : Int) = (m : Int) := by omega
        go_wp2
        go_roundw
        case rel => exact ⟨j + 1, _, by omega, by go_num, by rw [HS2.out], rfl, HK3.out⟩
        case measure => simp [intOf] <;> omega
    · have ej : j = P := by omega
      subst ej
      have t1 : ¬ (j : Int) < j := by omega
      rw [HR.out]
      go_wp2
      go_ret2
      exact ⟨rfl, HK.out⟩
theorem iStepsWithFixed_any (p f : Int) (W : World) : Calls Try.prog 15 #[.int .i64 p, .int .i64 f] W (IntB W (vFixed p f).1 (vFixed p f).2) := by
  unfold vFixed
  by_cases h : (1 ≤ p ∧ p ≤ 8) ∧ (0 ≤ f ∧ f ≤ p)
  · rw [if_pos h]
    obtain ⟨n, rfl⟩ : ∃ n : Nat, p = n := ⟨p.toNat, by omega⟩
    obtain ⟨m, rfl⟩ : ∃ m : Nat, f = m := ⟨f.toNat, by omega⟩
    exact iStepsWithFixed_yes n m W (by omega) (by omega) (by omega)
  rw [if_neg h]
  by_cases hp : 1 ≤ p ∧ p ≤ 8
  · have hf : f < 0 ∨ p < f := by omega
    clear h
    go_enter Try.func15, Try.ntmps15
    go_wp2_with (first | ((with_reducible refine (within_yes p _ _ _ hp.1 hp.2).mono ?_); rintro e w' ⟨rfl, rfl⟩) | ((with_reducible refine (within_no f _ _ _ (by omega)).mono ?_); rintro e w' ⟨rfl, rfl⟩))
    go_ret2
    exact ⟨rfl, Kp.refl _ _⟩
  · have hp' : p < 1 ∨ 8 < p := by omega
    clear h hp
    go_enter Try.func15, Try.ntmps15
    go_wp2_with (first | ((with_reducible refine (within_no p _ _ _ hp').mono ?_); rintro e w' ⟨rfl, rfl⟩))
    go_ret2
    exact ⟨rfl, Kp.refl _ _⟩
end Go.Proofs.Ytpbbfpgjhmjjoac
