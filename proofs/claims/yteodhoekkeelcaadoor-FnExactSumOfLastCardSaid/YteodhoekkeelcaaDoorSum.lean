/- The sum of who is left (SumOfLast), in the program and in its model: both are the same; no condition but that the world holds the table of powers. -/
import Derived.Test.YteodhoekkeelcaaDoorTwo
namespace Go.Proofs.YteodhoekkeelcaaDoor
open Go.ChangeShapes Go.WideShapes Go.ChangeAt Go.RowKit

/-- the sum for 1, 2, .., n -/
def sumT : Nat → Nat
  | 0 => 0
  | n + 1 => sumT n + tl (n + 1)
theorem gp_of (j c : Nat) (h : c < pw j) : gp (pw j + c) = pw j := by
  have h1 : 1 ≤ pw j := Nat.one_le_two_pow
  have e : Nat.log2 (pw j + c) = j := by
    have a := (le_log2 (pw j + c) j (by omega)).1 (by omega)
    rcases Nat.lt_or_ge j (Nat.log2 (pw j + c)) with b | b
    · have := (le_log2 (pw j + c) (j + 1) (by omega)).2 b
      rw [pw_succ] at this
      omega
    · omega
  unfold gp
  rw [e]
theorem tl_of (j c : Nat) (h : c < pw j) : tl (pw j + c) = 2 * c := by
  unfold tl
  rw [gp_of j c h]
  omega
theorem sum_block (j c : Nat) (h : c ≤ pw j) : sumT (pw j - 1 + c) = sumT (pw j - 1) + c * (c - 1) := by
  have h1 : 1 ≤ pw j := Nat.one_le_two_pow
  induction c with
  | zero => simp
  | succ c ih =>
    rw [show pw j - 1 + (c + 1) = (pw j - 1 + c) + 1 by omega, sumT, ih (by omega), show pw j - 1 + c + 1 = pw j + c by omega, tl_of j c (by omega)]
    have : (c + 1) * (c + 1 - 1) = c * (c - 1) + 2 * c := by
      cases c with
      | zero => rfl
      | succ d => simp only [Nat.add_sub_cancel]; rw [Nat.mul_comm (d + 1) d, Nat.add_mul (d + 1) 1 (d + 1), Nat.add_mul d 1 (d + 1)]; omega
    omega
theorem tl_le (n : Nat) (h : 1 ≤ n) : tl n + 1 ≤ n := by
  have h1 := gp_le n h
  have h2 := lt_gp n
  unfold tl
  omega
theorem sum_le (n : Nat) (h : n ≤ 1000001) : sumT n ≤ 1000001 * n := by
  induction n with
  | zero => simp [sumT]
  | succ n ih =>
    have := ih (by omega)
    have := tl_le (n + 1) (by omega)
    rw [sumT]
    omega
theorem sum_mono {a b : Nat} (h : a ≤ b) : sumT a ≤ sumT b := by
  induction b with
  | zero => rw [show a = 0 by omega]; exact Nat.le_refl _
  | succ b ih =>
    by_cases e : a = b + 1
    · rw [e]; exact Nat.le_refl _
    · have := ih (by omega)
      rw [sumT]
      omega
theorem gp_next (n : Nat) (h : 1 ≤ n) : gp n = if n = 2 * gp (n - 1) then n else gp (n - 1) := by
  by_cases h1 : n = 1
  · subst h1
    have : gp 0 = 1 := by simp [gp, pw]
    have : gp 1 = 1 := by rw [gp, show Nat.log2 1 = 0 by decide]; rfl
    simp [*]
  · have a := gp_le (n - 1) (by omega)
    have b := lt_gp (n - 1)
    obtain ⟨j, hj⟩ : ∃ j, gp (n - 1) = pw j := ⟨_, rfl⟩
    rw [hj] at a b ⊢
    split
    · rename_i e
      have := gp_of (j + 1) 0 Nat.one_le_two_pow
      rw [pw_succ, Nat.add_zero] at this
      rw [e, this]
    · rename_i e
      have := gp_of j (n - pw j) (by omega)
      rw [show pw j + (n - pw j) = n by omega] at this
      exact this

set_option maxRecDepth 100000 in
set_option maxHeartbeats 1600000 in
theorem sSumOfLast_yes (p : Nat) (W : World) (h : In p 1 1000000) : Calls Tryd.prog 34 #[.int .i64 p] W (IntB W (sumT p : Nat) true) := by
  have h1 := h.lo; have h2 := h.hi
  go_enter Tryd.func34, Tryd.ntmps34
  go_wp2_with (first | ((with_reducible refine (l1In_yes _ _ _ _ (by omega) (by omega)).mono ?_); rintro e w' ⟨rfl, rfl⟩))
  go_loop [4, 5, 6] (fun s g i => ∃ n : Nat, n ≤ p ∧ i = .int .i64 ((n : Int) + 1) ∧ s = .int .i64 (sumT n : Nat) ∧ g = .int .i64 (gp n : Nat)) (fun _ _ i => p + 1 - (intOf i).toNat)
  case atStart => exact ⟨0, Nat.zero_le _, rfl, rfl, by simp [gp, pw]⟩
  case round =>
    obtain ⟨n, hn, rfl, rfl, rfl⟩ := hrel
    have n0 : (0 : Int) ≤ n := Int.natCast_nonneg _
    have g0 := gp_pos n
    have g1 : gp n ≤ n + 1 := by
      by_cases e : n = 0
      · subst e; simp [gp, pw]
      · have := gp_le n (by omega); omega
    have sl := sum_le n (by omega)
    by_cases hlt : n < p
    · have n1 : (n : Int) < p := by omega
      have gn := gp_next (n + 1) (by omega)
      have gl := gp_le (n + 1) (by omega)
      rw [Nat.add_sub_cancel] at gn
      have HS : Hid (sumT (n + 1) = sumT n + 2 * (n + 1 - gp (n + 1))) := Lib.hid rfl
      by_cases e : n + 1 = 2 * gp n
      · rw [if_pos e] at gn
        have HG := Lib.hid gn
        have e' : ((n : Int) + 1 == 2 * ((gp n : Nat) : Int)) = true := by simp; omega
        have e2 : (n : Int) + 1 ≤ 2 * ((gp n : Nat) : Int) := by omega
        clear gn e gl
        go_wp2
        go_round
        case rel => exact ⟨n + 1, by omega, by go_num, by rw [HS.out, HG.out]; congr 1; omega, by rw [HG.out]; go_num⟩
        case measure => simp [intOf]; omega
      · rw [if_neg e] at gn
        have HG := Lib.hid gn
        have e' : ((n : Int) + 1 == 2 * ((gp n : Nat) : Int)) = false := by simp; omega
        rw [gn] at gl
        clear gn e
        go_wp2
        go_round
        case rel => exact ⟨n + 1, by omega, by go_num, by rw [HS.out, HG.out]; congr 1; omega, by rw [HG.out]⟩
        case measure => simp [intOf]; omega
    · have e : n = p := by omega
      subst e
      go_wp2
      go_ret2
      exact ⟨rfl, .refl _ _⟩

set_option maxRecDepth 100000 in
set_option maxHeartbeats 1600000 in
theorem iSumOfLast_yes (p : Nat) (W : World) (hP : Pow W) (h : In p 1 1000000) : Calls Tryd.prog 35 #[.int .i64 p] W (IntB W (sumT p : Nat) true) := by
  have h1 := h.lo; have h2 := h.hi
  obtain ⟨t, fr, hrow⟩ := hP.row
  have HR := Lib.hid hrow
  clear hrow hP
  go_enter Tryd.func35, Tryd.ntmps35
  go_wp2_with (first | ((with_reducible refine (within_yes _ _ _ _ (by omega) (by omega)).mono ?_); rintro e w' ⟨rfl, rfl⟩) | (refine wpList_load_row rfl 52 _ rfl 0 rfl t powA fr _ HR.out Tryd.underlying52 rfl (by rw [powA_size]; exact pwInfo) ?_))
  go_loop [4, 6, 7, 12] (fun s _ _ i => ∃ j : Nat, j ≤ 40 ∧ i = .int .i64 j ∧ s = .int .i64 (sumT (min p (pw j - 1)) : Nat)) (fun _ _ _ i => 40 - (intOf i).toNat)
  case atStart => exact ⟨0, Nat.zero_le _, rfl, by simp [pw, sumT]⟩
  case round =>
    obtain ⟨j, hj, rfl, rfl⟩ := hrel
    have j0 : (0 : Int) ≤ j := Int.natCast_nonneg _
    by_cases hlt : j < 40
    · have r := pow_run j hlt
      have j1 : (j : Int) < 40 := by omega
      have hb := pw_bd j (by omega)
      obtain ⟨P, hPj⟩ : ∃ P, pw j = P := ⟨_, rfl⟩
      have HB := Lib.hid (sum_block j)
      have HW := Lib.hid (pw_succ j)
      rw [hPj] at r hb HB HW ⊢
      clear hPj
      by_cases hle : P ≤ p
      · have hm : min p (P - 1) = P - 1 := by omega
        rw [hm]
        obtain ⟨c, hc⟩ : ∃ c, min P (p + 1 - P) = c := ⟨_, rfl⟩
        have hc1 : 1 ≤ c := by omega
        have hc2 : c ≤ P := by omega
        have hc3 : c ≤ 1000000 := by omega
        have HE := Lib.hid (HB.out c hc2)
        have HM : Hid (min p (pw (j + 1) - 1) = P - 1 + c) := Lib.hid (by rw [HW.out]; omega)
        have b1 := sum_le (P - 1) (by omega)
        have b2 : c * (c - 1) ≤ 1000000 * 1000000 := Nat.mul_le_mul hc3 (by omega)
        have HV : Hid (wrap64 ((sumT (P - 1) : Nat) + wrap64 ((c : Int) * ((c : Int) - 1))) = ((sumT (P - 1 + c) : Nat) : Int)) := Lib.hid (by
          have e0 : (c : Int) * ((c : Int) - 1) = ((c * (c - 1) : Nat) : Int) := by
            rw [show (c : Int) - 1 = ((c - 1 : Nat) : Int) by omega]
            exact (Int.natCast_mul c (c - 1)).symm
          rw [e0, IntWalk.wrap64_in ((c * (c - 1) : Nat) : Int) (by omega), HE.out, IntWalk.wrap64_in _ (by omega)]
          omega)
        clear hm b2
        by_cases hmin : (p : Int) - P + 1 < P
        · have hcv : Hid ((p : Int) - P + 1 = c ∧ (p : Int) - P = (c : Int) - 1) := Lib.hid (by omega)
          go_wp2
          go_round
          case rel => exact ⟨j + 1, by omega, by go_num, by rw [hcv.out.1, hcv.out.2, HV.out, HM.out]⟩
          case measure => simp [intOf]; omega
        · have hcv : Hid ((P : Int) = c) := Lib.hid (by omega)
          have HV' := HV.out
          rw [← hcv.out] at HV'
          have HV2 := Lib.hid HV'
          clear HV'
          go_wp2
          go_round
          case rel => exact ⟨j + 1, by omega, by go_num, by rw [HV2.out, HM.out]⟩
          case measure => simp [intOf]; omega
      · have HM : Hid (min p (pw (j + 1) - 1) = min p (P - 1)) := Lib.hid (by rw [HW.out]; omega)
        go_wp2
        go_round
        case rel => exact ⟨j + 1, by omega, by go_num, by rw [HM.out]⟩
        case measure => simp [intOf]; omega
    · have e : j = 40 := by omega
      subst e
      have e2 : min p (pw 40 - 1) = p := by simp [pw]; omega
      have HE := Lib.hid e2
      clear e2
      go_wp2
      go_ret2
      rw [HE.out]
      exact ⟨rfl, .refl _ _⟩

theorem sSumOfLast_no (p : Int) (W : World) (h : ¬ In p 1 1000000) : Calls Tryd.prog 34 #[.int .i64 p] W (IntB W 0 false) := by
  have h1 := not_in h
  go_enter Tryd.func34, Tryd.ntmps34
  go_wp2_with (first | ((with_reducible refine (l1In_no _ _ _ _ (by omega)).mono ?_); rintro e w' ⟨rfl, rfl⟩))
  go_ret2
  exact ⟨rfl, .refl _ _⟩

theorem iSumOfLast_no (p : Int) (W : World) (h : ¬ In p 1 1000000) : Calls Tryd.prog 35 #[.int .i64 p] W (IntB W 0 false) := by
  have h1 := not_in h
  go_enter Tryd.func35, Tryd.ntmps35
  go_wp2_with (first | ((with_reducible refine (within_no _ _ _ _ (by omega)).mono ?_); rintro e w' ⟨rfl, rfl⟩))
  go_ret2
  exact ⟨rfl, .refl _ _⟩

set_option maxHeartbeats 800000 in
theorem lawSumOfLast_of (p : Int) (x : Int) (b : Bool) (W : World)
    (hS : Hid (∀ w, Kp Nw W w → Calls Tryd.prog 34 #[.int .i64 p] w (IntB w x b))) (hI : Hid (∀ w, Kp Nw W w → Calls Tryd.prog 35 #[.int .i64 p] w (IntB w x b))) :
    Calls Tryd.prog 11 #[.int .i64 p] W fun e w' => e = .returned (.bool true) ∧ Kp Nw W w' := by
  go_enter Tryd.func11, Tryd.ntmps11
  go_wp2_with fail
  refine (hS.out _ (.refl _ _)).mono ?_
  rintro e w1 ⟨rfl, hk1⟩
  have HK1 := Lib.hid hk1
  clear hk1
  go_wp2_with fail
  refine (hI.out _ HK1.out).mono ?_
  rintro e w2 ⟨rfl, hk2⟩
  have HK2 := Lib.hid (HK1.out.nw hk2)
  clear hk2
  go_wp2
  go_ret
  exact ⟨rfl, HK2.out⟩

theorem lawSumOfLast (p : Int) (W : World) (hP : Pow W) :
    Calls Tryd.prog 11 #[.int .i64 p] W fun e w' => e = .returned (.bool true) ∧ Kp Nw W w' := by
  by_cases h : In p 1 1000000
  · have h1 := h.lo
    obtain ⟨n, rfl⟩ : ∃ n : Nat, p = n := ⟨p.toNat, by omega⟩
    exact lawSumOfLast_of n _ true W (Lib.hid fun w _ => sSumOfLast_yes n w h) (Lib.hid fun w hk => iSumOfLast_yes n w (hP.nw hk) h)
  · exact lawSumOfLast_of p _ false W (Lib.hid fun w _ => sSumOfLast_no p w h) (Lib.hid fun w _ => iSumOfLast_no p w h)
end Go.Proofs.YteodhoekkeelcaaDoor
