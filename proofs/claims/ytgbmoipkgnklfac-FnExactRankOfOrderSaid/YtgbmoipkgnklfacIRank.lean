/- The rank of an order in the program; no condition but on lengths. -/
import Derived.Test.YtgbmoipkgnklfacIOrd
namespace Go.Proofs.Ytgbmoipkgnklfac
open Go.ChangeShapes Go.WideShapes Go.ChangeAt Go.RowKit

set_option maxHeartbeats 1600000 in
theorem countLess_any (A : Option Addr) (n c : Nat) (ys : List Int) (x : Int) (W : World) (hu : Rd W (.slice A n c) ys) (hn : ys.length = n) (hl : n ≤ 1000) :
    Calls Try.prog 22 #[.slice A n c, .int .i64 x] W fun e w' => e = .returned (.int .i64 (cntL ys x n : Nat)) ∧ W = w' := by
  obtain ⟨A', c', hA', hcell⟩ := hu
  rw [hn] at hA' hcell
  injection hA' with e1 _ e3
  subst e1
  subst e3
  have HC := Lib.hid hcell
  obtain ⟨R, hR⟩ : ∃ R, cntL ys x n = R := ⟨_, rfl⟩
  have HR := Lib.hid hR
  rw [hR]
  clear hcell hR hn
  go_enter Try.func22, Try.ntmps22
  go_wp2
  go_loop [5, 7, 10] (fun k _ i => ∃ j : Nat, j ≤ n ∧ i = .int .i64 j ∧ k = .int .i64 (cntL ys x j : Nat)) (fun _ _ i => n - (intOf i).toNat)
  case atStart => exact ⟨0, Nat.zero_le _, rfl, rfl⟩
  case round =>
    obtain ⟨j, hj, rfl, rfl⟩ := hrel
    have j0 : (0 : Int) ≤ j := Int.natCast_nonneg _
    by_cases hlt : j < n
    · have j1 : (j : Int) < n := by omega
      obtain ⟨g, o, rfl, hc⟩ := HC.out j hlt
      obtain ⟨y, hy⟩ : ∃ y, ys.getD j 0 = y := ⟨_, rfl⟩
      rw [hy] at hc
      have hb := cntL_le ys x j
      have hst : cntL ys x (j + 1) = cntL ys x j + (if y < x then 1 else 0) := by rw [cntL, hy]
      obtain ⟨K, hK⟩ : ∃ K, cntL ys x j = K := ⟨_, rfl⟩
      rw [hK] at hb hst ⊢
      have K0 : (0 : Int) ≤ K := Int.natCast_nonneg _
      have HST := Lib.hid hst
      by_cases hyx : y < x
      · have HST2 : Hid (cntL ys x (j + 1) = K + 1) := Lib.hid (by rw [HST.out, if_pos hyx])
        clear hy hst hK
        go_wp2
        go_round
        case rel => exact ⟨j + 1, by omega, by go_num, by rw [HST2.out]; go_num⟩
        case measure => simp [intOf] <;> omega
      · have HST2 : Hid (cntL ys x (j + 1) = K) := Lib.hid (by rw [HST.out, if_neg hyx]; rfl)
        clear hy hst hK
        go_wp2
        go_round
        case rel => exact ⟨j + 1, by omega, by go_num, by rw [HST2.out]⟩
        case measure => simp [intOf] <;> omega
    · have e : j = n := by omega
      subst e
      go_wp2
      go_ret
      exact ⟨by rw [← HR.out]; rfl, rfl⟩
theorem horn_bd (xs : List Int) (h : xs.length ≤ 12) : ∀ t, t ≤ xs.length → hornT xs t + 1 ≤ 13 ^ t
  | 0, _ => Nat.le_refl _
  | t + 1, ht => by
    have ih := horn_bd xs h t (by omega)
    have h1 := lessC_le xs t (xs.length - (t + 1))
    have h2 : hornT xs t * (xs.length - t) ≤ hornT xs t * 12 := Nat.mul_le_mul_left _ (by omega)
    rw [hornT, Nat.pow_succ]
    omega
theorem pow13 (j : Nat) (h : j ≤ 12) : 13 ^ j ≤ 23298085122481 := by
  have := Nat.pow_le_pow_right (show 0 < 13 by decide) h
  exact Nat.le_trans this (by decide)

set_option maxRecDepth 100000 in
set_option maxHeartbeats 3200000 in
theorem iRankOfOrder_any (g n B : Nat) (xs : List Int) (W : World) (hl : n ≤ 1048576) (hs : SlAt W B g n n xs) : Calls Try.prog 13 #[.slice (some ⟨g, 0, none⟩) n n] W (IntB W (vRank xs).1 (vRank xs).2) := by
  have hlen := hs.1
  have HS := Lib.hid hs
  clear hs
  unfold vRank
  cases hb : ordB xs
  · have HB := Lib.hid hb
    rw [if_neg (by simp)]
    clear hb hlen
    go_enter Try.func13, Try.ntmps13
    go_wp2_with fail
    refine (iIsOrder_any g n B xs W hl HS.out).mono ?_
    rw [HB.out]
    rintro e w1 ⟨rfl, hk1⟩
    have HK1 := Lib.hid hk1
    clear hk1
    go_wp2
    go_ret2
    exact ⟨rfl, HK1.out⟩
  · have HB := Lib.hid hb
    have hp := ordB_parts hb
    rw [if_pos rfl]
    have n1 : 1 ≤ n := by omega
    have n2 : n ≤ 12 := by omega
    have HLX := Lib.hid hlen
    obtain ⟨R, hR⟩ : ∃ R, rankN xs = R := ⟨_, rfl⟩
    have HRR : Hid (hornT xs n = R) := Lib.hid (by rw [← hR, ← horn_is xs, hlen])
    rw [hR]
    have n0 : (0 : Int) ≤ n := Int.natCast_nonneg _
    clear hb hlen hp hR
    go_enter Try.func13, Try.ntmps13
    go_wp2_with fail
    refine (iIsOrder_any g n B xs W hl HS.out).mono ?_
    rw [HB.out]
    rintro e w1 ⟨rfl, hk1⟩
    have HK1 := Lib.hid hk1
    have HS1 := Lib.hid (HS.out.kq hk1 (fun h => h))
    clear hk1
    go_wp2
    go_loopw [4, 5, 6, 12] (fun r _ _ i wq => ∃ (j : Nat) (wr : World), j ≤ n ∧ i = .int .i64 j ∧ r = .int .i64 (hornT xs j : Nat) ∧ wr = wq ∧ Kp Nw w1 wr) (fun _ _ _ i _ => n - (intOf i).toNat)
    case atStart => exact ⟨0, _, Nat.zero_le _, rfl, rfl, rfl, Kp.refl _ _⟩
    case round =>
      obtain ⟨j, wr, hj, rfl, rfl, rfl, hk⟩ := hrel
      have HK := Lib.hid hk
      have j0 : (0 : Int) ≤ j := Int.natCast_nonneg _
      clear hk
      by_cases hlt : j < n
      · have j1 : (j : Int) < n := by omega
        have j2 : (j : Int) ≤ n := by omega
        have bd := horn_bd xs (by rw [HLX.out]; exact n2) j (by rw [HLX.out]; omega)
        have bp := pow13 j (by omega)
        have hst : hornT xs (j + 1) = hornT xs j * (n - j) + lessC xs j (n - (j + 1)) := by rw [hornT, HLX.out]
        obtain ⟨Q, hQ⟩ : ∃ Q, hornT xs j = Q := ⟨_, rfl⟩
        rw [hQ] at bd hst ⊢
        obtain ⟨m, hm⟩ : ∃ m, n - j = m + 1 := ⟨n - j - 1, by omega⟩
        have hm1 : n - (j + 1) = m := by omega
        rw [hm, hm1] at hst
        have hlb := lessC_le xs j m
        have hcl : cntL (xs.drop j) (xs.getD j 0) (m + 1) = lessC xs j m := cntL_less xs j (by rw [HLX.out]; exact hlt) m
        obtain ⟨C, hC⟩ : ∃ C, lessC xs j m = C := ⟨_, rfl⟩
        rw [hC] at hst hlb hcl
        obtain ⟨x, hx⟩ : ∃ x, xs.getD j 0 = x := ⟨_, rfl⟩
        rw [hx] at hcl
        have cx := keepc HK.out (HS1.out.cell j hlt) (fun h => h)
        rw [hx] at cx
        obtain ⟨Y, hY⟩ : ∃ Y, Q * (m + 1) = Y := ⟨_, rfl⟩
        have hYb : Y ≤ 23298085122481 * 12 := by rw [← hY]; exact Nat.mul_le_mul (by omega) (by omega)
        rw [hY] at hst
        have w1' : IntKind.i64.wrap ((n : Int) - (j : Int)) = (m : Int) + 1 := by rw [IntWalk.i64_in _ (by omega)]; omega
        have w2' : IntKind.i64.wrap ((Q : Int) * ((m : Int) + 1)) = (Y : Int) := by
          have h9 : (Q : Int) * ((m : Int) + 1) = (Y : Int) := by rw [← hY]; simp
          rw [h9, IntWalk.i64_in _ (by omega)]
        have w3' : IntKind.i64.wrap ((Y : Int) + (C : Int)) = (Y : Int) + (C : Int) := IntWalk.i64_in _ (by omega)
        have hm12 : m + 1 ≤ 1000 := by omega
        obtain ⟨Ad, had, q7⟩ := cut_from g n n j (by omega) (Nat.le_refl n)
        have HSR := Lib.hid (HS1.out.kq HK.out (fun h => h))
        have RD := Lib.hid ((HSR.out.drop j (by omega) Ad (n - j) had))
        have HDL : Hid ((xs.drop j).length = m + 1) := Lib.hid (by rw [List.length_drop, HLX.out, hm])
        rw [hm] at RD q7
        have HST := Lib.hid hst
        have HCL := Lib.hid hcl
        clear hst hcl hC hQ hx hY had hm hm1 bd hlb
        go_wp2_with fail
        refine (countLess_any (some Ad) (m + 1) _ (xs.drop j) x _ RD.out HDL.out hm12).mono ?_
        rw [HCL.out]
        rintro e w' ⟨rfl, rfl⟩
        go_wp2
        go_roundw
        case rel => exact ⟨j + 1, _, by omega, by go_num, by rw [HST.out]; go_num, rfl, HK.out⟩
        case measure => simp [intOf] <;> omega
      · have ej : j = n := by omega
        subst ej
        have t1 : ¬ (j : Int) < j := by omega
        have HF := Lib.hid (HK1.out.nw HK.out)
        rw [HRR.out]
        go_wp2
        go_ret2
        exact ⟨rfl, HF.out⟩
end Go.Proofs.Ytgbmoipkgnklfac
