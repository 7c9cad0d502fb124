/- TwoTurn, TwoAt and TwoRound: the program and its model say the same; no condition. -/
import Derived.Test.YteodhoekkeelcaaTurnM
namespace Go.Proofs.Yteodhoekkeelcaa
open Go.ChangeShapes Go.WideShapes Go.ChangeAt Go.RowKit

theorem twOne_yes (p k : Int) (w : World) (h : In p 1 1000000000000) (h0 : 0 ≤ k) (h1 : k ≤ p - 1) :
    Calls Try.prog 32 #[.int .i64 p, .int .i64 k] w fun e w' => e = .returned (.bool true) ∧ w = w' := by
  have h2 := h.lo; have h3 := h.hi
  go_enter Try.func32, Try.ntmps32
  go_wp2_with (first | ((with_reducible refine (twGood_yes _ _ h).mono ?_); rintro e w' ⟨rfl, rfl⟩) | ((with_reducible refine (l1In_yes _ _ _ _ (by omega) (by omega)).mono ?_); rintro e w' ⟨rfl, rfl⟩))
  go_ret
  exact ⟨rfl, rfl⟩
theorem twOne_no1 (p k : Int) (w : World) (h : ¬ In p 1 1000000000000) :
    Calls Try.prog 32 #[.int .i64 p, .int .i64 k] w fun e w' => e = .returned (.bool false) ∧ w = w' := by
  go_enter Try.func32, Try.ntmps32
  go_wp2_with (first | ((with_reducible refine (twGood_no _ _ h).mono ?_); rintro e w' ⟨rfl, rfl⟩))
  go_ret
  exact ⟨rfl, rfl⟩
theorem twOne_no2 (p k : Int) (w : World) (h : In p 1 1000000000000) (hk : k < 0 ∨ p - 1 < k) :
    Calls Try.prog 32 #[.int .i64 p, .int .i64 k] w fun e w' => e = .returned (.bool false) ∧ w = w' := by
  have h2 := h.lo; have h3 := h.hi
  go_enter Try.func32, Try.ntmps32
  go_wp2_with (first | ((with_reducible refine (twGood_yes _ _ h).mono ?_); rintro e w' ⟨rfl, rfl⟩) | ((with_reducible refine (l1In_no _ _ _ _ (by omega)).mono ?_); rintro e w' ⟨rfl, rfl⟩))
  go_ret
  exact ⟨rfl, rfl⟩

set_option maxHeartbeats 800000 in
theorem sTwoTurn_yes (p i k : Nat) (x : Rnd) (W : World) (h : In p 1 1000000000000) (hk : k < p) (hF : First (hasB k) (rounds p) i x) : Calls Try.prog 12 #[.int .i64 p, .int .i64 k] W (IntB W (x.b + (k - x.f) / x.g : Nat) true) := by
  obtain ⟨V, hV⟩ : ∃ V : Nat, x.b + (k - x.f) / x.g = V := ⟨_, rfl⟩
  have CC := Lib.hid (fun w => twTurn_any p k i x w h hk hF)
  rw [hV] at CC ⊢
  clear hV
  clear hF
  go_enter Try.func12, Try.ntmps12
  go_wp2_with (first | ((with_reducible refine (twOne_yes _ _ _ h (by omega) (by omega)).mono ?_); rintro e w' ⟨rfl, rfl⟩) | ((with_reducible refine (CC.out _).mono ?_); rintro e w' ⟨rfl, rfl⟩))
  go_ret2
  exact ⟨rfl, .refl _ _⟩
theorem sTwoTurn_no1 (p k : Int) (W : World) (h : ¬ In p 1 1000000000000) : Calls Try.prog 12 #[.int .i64 p, .int .i64 k] W (IntB W 0 false) := by
  go_enter Try.func12, Try.ntmps12
  go_wp2_with (first | ((with_reducible refine (twOne_no1 _ _ _ h).mono ?_); rintro e w' ⟨rfl, rfl⟩))
  go_ret2
  exact ⟨rfl, .refl _ _⟩
theorem sTwoTurn_no2 (p k : Int) (W : World) (h : In p 1 1000000000000) (hk : k < 0 ∨ p - 1 < k) : Calls Try.prog 12 #[.int .i64 p, .int .i64 k] W (IntB W 0 false) := by
  go_enter Try.func12, Try.ntmps12
  go_wp2_with (first | ((with_reducible refine (twOne_no2 _ _ _ h hk).mono ?_); rintro e w' ⟨rfl, rfl⟩))
  go_ret2
  exact ⟨rfl, .refl _ _⟩

set_option maxHeartbeats 800000 in
theorem lawTwoTurn_of (p : Int) (k : Int) (x : Int) (b : Bool) (W : World)
    (hS : Hid (∀ w, Kp Nw W w → Calls Try.prog 12 #[.int .i64 p, .int .i64 k] w (IntB w x b))) (hI : Hid (∀ w, Kp Nw W w → Calls Try.prog 13 #[.int .i64 p, .int .i64 k] w (IntB w x b))) :
    Calls Try.prog 4 #[.int .i64 p, .int .i64 k] W fun e w' => e = .returned (.bool true) ∧ Kp Nw W w' := by
  go_enter Try.func4, Try.ntmps4
  go_wp2_with fail
  refine (hS.out _ (.refl _ _)).mono ?_
  rintro e w1 ⟨rfl, hk1⟩
  have HK1 := Lib.hid hk1
  clear hk1
  go_wp2_with fail
  refine (hI.out _ HK1.out).mono ?_
  rintro e w2 ⟨rfl, hk2⟩
  have HK2 := Lib.hid (HK1.out.nw hk2)
  clear hk2
  go_wp2
  go_ret
  exact ⟨rfl, HK2.out⟩

theorem lawTwoTurn (p k : Int) (W : World) :
    Calls Try.prog 4 #[.int .i64 p, .int .i64 k] W fun e w' => e = .returned (.bool true) ∧ Kp Nw W w' := by
  by_cases h : In p 1 1000000000000
  · have h1 := h.lo; have h2 := h.hi
    by_cases hk : k < 0 ∨ p - 1 < k
    · exact lawTwoTurn_of p k _ false W (Lib.hid fun w _ => sTwoTurn_no2 p k w h hk) (Lib.hid fun w _ => iTwoTurn_no2 p k w h hk)
    · obtain ⟨n, rfl⟩ : ∃ n : Nat, p = n := ⟨p.toNat, by omega⟩
      obtain ⟨m, rfl⟩ : ∃ m : Nat, k = m := ⟨k.toNat, by omega⟩
      obtain ⟨i, x, hF, hx⟩ := has_start n m (by omega)
      skip
      have b1 := rnds_all n (by omega) (by omega) n 0 1 n 1 (Nat.le_refl _) (Fit.start n (by omega)) x (List.mem_of_getElem? hF.get)
      skip
      exact lawTwoTurn_of n m _ true W (Lib.hid fun w _ => sTwoTurn_yes n i m x w h (by omega) hF) (Lib.hid fun w _ => iTwoTurn_yes n i m x w h (by omega) hF ⟨b1.1, hx, b1.2.2.1⟩)
  · exact lawTwoTurn_of p k _ false W (Lib.hid fun w _ => sTwoTurn_no1 p k w h) (Lib.hid fun w _ => iTwoTurn_no1 p k w h)

set_option maxHeartbeats 800000 in
theorem sTwoAt_yes (p i k : Nat) (x : Rnd) (W : World) (h : In p 1 1000000000000) (hk : k < p) (hF : First (ltB k) (rounds p) i x) : Calls Try.prog 14 #[.int .i64 p, .int .i64 k] W (IntB W (x.f + (k - x.b) * x.g : Nat) true) := by
  obtain ⟨V, hV⟩ : ∃ V : Nat, x.f + (k - x.b) * x.g = V := ⟨_, rfl⟩
  have CC := Lib.hid (fun w => twAt_any p k i x w h hk hF)
  rw [hV] at CC ⊢
  clear hV
  clear hF
  go_enter Try.func14, Try.ntmps14
  go_wp2_with (first | ((with_reducible refine (twOne_yes _ _ _ h (by omega) (by omega)).mono ?_); rintro e w' ⟨rfl, rfl⟩) | ((with_reducible refine (CC.out _).mono ?_); rintro e w' ⟨rfl, rfl⟩))
  go_ret2
  exact ⟨rfl, .refl _ _⟩
theorem sTwoAt_no1 (p k : Int) (W : World) (h : ¬ In p 1 1000000000000) : Calls Try.prog 14 #[.int .i64 p, .int .i64 k] W (IntB W 0 false) := by
  go_enter Try.func14, Try.ntmps14
  go_wp2_with (first | ((with_reducible refine (twOne_no1 _ _ _ h).mono ?_); rintro e w' ⟨rfl, rfl⟩))
  go_ret2
  exact ⟨rfl, .refl _ _⟩
theorem sTwoAt_no2 (p k : Int) (W : World) (h : In p 1 1000000000000) (hk : k < 0 ∨ p - 1 < k) : Calls Try.prog 14 #[.int .i64 p, .int .i64 k] W (IntB W 0 false) := by
  go_enter Try.func14, Try.ntmps14
  go_wp2_with (first | ((with_reducible refine (twOne_no2 _ _ _ h hk).mono ?_); rintro e w' ⟨rfl, rfl⟩))
  go_ret2
  exact ⟨rfl, .refl _ _⟩

set_option maxHeartbeats 800000 in
theorem lawTwoAt_of (p : Int) (k : Int) (x : Int) (b : Bool) (W : World)
    (hS : Hid (∀ w, Kp Nw W w → Calls Try.prog 14 #[.int .i64 p, .int .i64 k] w (IntB w x b))) (hI : Hid (∀ w, Kp Nw W w → Calls Try.prog 15 #[.int .i64 p, .int .i64 k] w (IntB w x b))) :
    Calls Try.prog 5 #[.int .i64 p, .int .i64 k] W fun e w' => e = .returned (.bool true) ∧ Kp Nw W w' := by
  go_enter Try.func5, Try.ntmps5
  go_wp2_with fail
  refine (hS.out _ (.refl _ _)).mono ?_
  rintro e w1 ⟨rfl, hk1⟩
  have HK1 := Lib.hid hk1
  clear hk1
  go_wp2_with fail
  refine (hI.out _ HK1.out).mono ?_
  rintro e w2 ⟨rfl, hk2⟩
  have HK2 := Lib.hid (HK1.out.nw hk2)
  clear hk2
  go_wp2
  go_ret
  exact ⟨rfl, HK2.out⟩

theorem lawTwoAt (p k : Int) (W : World) :
    Calls Try.prog 5 #[.int .i64 p, .int .i64 k] W fun e w' => e = .returned (.bool true) ∧ Kp Nw W w' := by
  by_cases h : In p 1 1000000000000
  · have h1 := h.lo; have h2 := h.hi
    by_cases hk : k < 0 ∨ p - 1 < k
    · exact lawTwoAt_of p k _ false W (Lib.hid fun w _ => sTwoAt_no2 p k w h hk) (Lib.hid fun w _ => iTwoAt_no2 p k w h hk)
    · obtain ⟨n, rfl⟩ : ∃ n : Nat, p = n := ⟨p.toNat, by omega⟩
      obtain ⟨m, rfl⟩ : ∃ m : Nat, k = m := ⟨k.toNat, by omega⟩
      obtain ⟨i, x, hF, hx⟩ := lt_start n m (by omega)
      skip
      have b1 := rnds_all n (by omega) (by omega) n 0 1 n 1 (Nat.le_refl _) (Fit.start n (by omega)) x (List.mem_of_getElem? hF.get)
      have hf2 : x.f ≤ 4000000000000 := by have := b1.2.2.2.2; omega
      exact lawTwoAt_of n m _ true W (Lib.hid fun w _ => sTwoAt_yes n i m x w h (by omega) hF) (Lib.hid fun w _ => iTwoAt_yes n i m x w h (by omega) hF ⟨hx.1, by omega, hf2⟩)
  · exact lawTwoAt_of p k _ false W (Lib.hid fun w _ => sTwoAt_no1 p k w h) (Lib.hid fun w _ => iTwoAt_no1 p k w h)

set_option maxHeartbeats 800000 in
theorem sTwoRound_yes (p i k : Nat) (x : Rnd) (W : World) (h : In p 1 1000000000000) (hk : k < p) (hF : First (hasB k) (rounds p) i x) : Calls Try.prog 16 #[.int .i64 p, .int .i64 k] W (IntB W (i : Nat) true) := by
  have CC := Lib.hid (fun w => twTurn_any p k i x w h hk hF)
  obtain ⟨V, hV⟩ : ∃ V : Nat, x.b + (k - x.f) / x.g = V := ⟨_, rfl⟩
  rw [hV] at CC
  clear hV
  clear hF
  go_enter Try.func16, Try.ntmps16
  go_wp2_with (first | ((with_reducible refine (twOne_yes _ _ _ h (by omega) (by omega)).mono ?_); rintro e w' ⟨rfl, rfl⟩) | ((with_reducible refine (CC.out _).mono ?_); rintro e w' ⟨rfl, rfl⟩))
  go_ret2
  exact ⟨rfl, .refl _ _⟩
theorem sTwoRound_no1 (p k : Int) (W : World) (h : ¬ In p 1 1000000000000) : Calls Try.prog 16 #[.int .i64 p, .int .i64 k] W (IntB W 0 false) := by
  go_enter Try.func16, Try.ntmps16
  go_wp2_with (first | ((with_reducible refine (twOne_no1 _ _ _ h).mono ?_); rintro e w' ⟨rfl, rfl⟩))
  go_ret2
  exact ⟨rfl, .refl _ _⟩
theorem sTwoRound_no2 (p k : Int) (W : World) (h : In p 1 1000000000000) (hk : k < 0 ∨ p - 1 < k) : Calls Try.prog 16 #[.int .i64 p, .int .i64 k] W (IntB W 0 false) := by
  go_enter Try.func16, Try.ntmps16
  go_wp2_with (first | ((with_reducible refine (twOne_no2 _ _ _ h hk).mono ?_); rintro e w' ⟨rfl, rfl⟩))
  go_ret2
  exact ⟨rfl, .refl _ _⟩

set_option maxHeartbeats 800000 in
theorem lawTwoRound_of (p : Int) (k : Int) (x : Int) (b : Bool) (W : World)
    (hS : Hid (∀ w, Kp Nw W w → Calls Try.prog 16 #[.int .i64 p, .int .i64 k] w (IntB w x b))) (hI : Hid (∀ w, Kp Nw W w → Calls Try.prog 17 #[.int .i64 p, .int .i64 k] w (IntB w x b))) :
    Calls Try.prog 6 #[.int .i64 p, .int .i64 k] W fun e w' => e = .returned (.bool true) ∧ Kp Nw W w' := by
  go_enter Try.func6, Try.ntmps6
  go_wp2_with fail
  refine (hS.out _ (.refl _ _)).mono ?_
  rintro e w1 ⟨rfl, hk1⟩
  have HK1 := Lib.hid hk1
  clear hk1
  go_wp2_with fail
  refine (hI.out _ HK1.out).mono ?_
  rintro e w2 ⟨rfl, hk2⟩
  have HK2 := Lib.hid (HK1.out.nw hk2)
  clear hk2
  go_wp2
  go_ret
  exact ⟨rfl, HK2.out⟩

theorem lawTwoRound (p k : Int) (W : World) :
    Calls Try.prog 6 #[.int .i64 p, .int .i64 k] W fun e w' => e = .returned (.bool true) ∧ Kp Nw W w' := by
  by_cases h : In p 1 1000000000000
  · have h1 := h.lo; have h2 := h.hi
    by_cases hk : k < 0 ∨ p - 1 < k
    · exact lawTwoRound_of p k _ false W (Lib.hid fun w _ => sTwoRound_no2 p k w h hk) (Lib.hid fun w _ => iTwoRound_no2 p k w h hk)
    · obtain ⟨n, rfl⟩ : ∃ n : Nat, p = n := ⟨p.toNat, by omega⟩
      obtain ⟨m, rfl⟩ : ∃ m : Nat, k = m := ⟨k.toNat, by omega⟩
      obtain ⟨i, x, hF, hx⟩ := has_start n m (by omega)
      have hb0 := hx
      have b1 := rnds_all n (by omega) (by omega) n 0 1 n 1 (Nat.le_refl _) (Fit.start n (by omega)) x (List.mem_of_getElem? hF.get)
      skip
      exact lawTwoRound_of n m _ true W (Lib.hid fun w _ => sTwoRound_yes n i m x w h (by omega) hF) (Lib.hid fun w _ => iTwoRound_yes n i m x w h (by omega) hF)
  · exact lawTwoRound_of p k _ false W (Lib.hid fun w _ => sTwoRound_no1 p k w h) (Lib.hid fun w _ => iTwoRound_no1 p k w h)
end Go.Proofs.Yteodhoekkeelcaa
