/- Who is left (LastLeft, FarLeft, LastFrom, BeginFor), in the program and in its model: both return the same; for all integers. -/
import Derived.Test.YtlkmknigfdgnoabLow
namespace Go.Proofs.Ytlkmknigfdgnoab
open Go.ChangeShapes Go.WideShapes Go.ChangeAt Go.RowKit

theorem sLastLeft_yes (n : Nat) (k : Int) (w : World) (h : Asked n k) :
    Calls Try.prog 8 #[.int .i64 n, .int .i64 k] w fun e w' => e = .returned (.tuple #[.int .i64 (lastN k (n - 1)), .bool true]) ∧ w = w' := by
  have h1 := h.p1; have h2 := h.p2; have h3 := h.k1; have h4 := h.k2
  go_enter Try.func8, Try.ntmps8
  go_wp2_with (first | ((with_reducible refine (ciAsked_yes _ _ _ h).mono ?_); rintro e w' ⟨rfl, rfl⟩) | ((with_reducible refine (ciLast_any n k _ (by omega) (by omega) (by omega) (by omega)).mono ?_); rintro e w' ⟨rfl, rfl⟩))
  go_ret2
  exact ⟨rfl, rfl⟩

theorem sLastLeft_no (p k : Int) (w : World) (h : ¬ Asked p k) :
    Calls Try.prog 8 #[.int .i64 p, .int .i64 k] w fun e w' => e = .returned (.tuple #[.int .i64 0, .bool false]) ∧ w = w' := by
  go_enter Try.func8, Try.ntmps8
  go_wp2_with (first | ((with_reducible refine (ciAsked_no _ _ _ h).mono ?_); rintro e w' ⟨rfl, rfl⟩))
  go_ret2
  exact ⟨rfl, rfl⟩

theorem iLastLeft_yes (n : Nat) (k : Int) (w : World) (h : Asked n k) :
    Calls Try.prog 9 #[.int .i64 n, .int .i64 k] w fun e w' => e = .returned (.tuple #[.int .i64 (lastN k (n - 1)), .bool true]) ∧ w = w' := by
  have h1 := h.p1; have h2 := h.p2; have h3 := h.k1; have h4 := h.k2
  go_enter Try.func9, Try.ntmps9
  go_wp2_with (first | ((with_reducible refine (isCount_yes _ _ _ h).mono ?_); rintro e w' ⟨rfl, rfl⟩) | ((with_reducible refine (lastByFormula_any n k _ (by omega) (by omega) (by omega) (by omega)).mono ?_); rintro e w' ⟨rfl, rfl⟩))
  go_ret2
  exact ⟨rfl, rfl⟩

theorem iLastLeft_no (p k : Int) (w : World) (h : ¬ Asked p k) :
    Calls Try.prog 9 #[.int .i64 p, .int .i64 k] w fun e w' => e = .returned (.tuple #[.int .i64 0, .bool false]) ∧ w = w' := by
  go_enter Try.func9, Try.ntmps9
  go_wp2_with (first | ((with_reducible refine (isCount_no _ _ _ h).mono ?_); rintro e w' ⟨rfl, rfl⟩))
  go_ret2
  exact ⟨rfl, rfl⟩

theorem sFarLeft_yes (n : Nat) (k : Int) (w : World) (h1 : 1 ≤ n) (h2 : n ≤ 1000000) (h3 : 1 ≤ k) (h4 : k ≤ 1000000) :
    Calls Try.prog 10 #[.int .i64 n, .int .i64 k] w fun e w' => e = .returned (.tuple #[.int .i64 (lastN k (n - 1)), .bool true]) ∧ w = w' := by
  go_enter Try.func10, Try.ntmps10
  go_wp2_with (first | ((with_reducible refine (l1In_yes _ _ _ _ (by omega) (by omega)).mono ?_); rintro e w' ⟨rfl, rfl⟩) | ((with_reducible refine (ciLast_any n k _ (by omega) (by omega) (by omega) (by omega)).mono ?_); rintro e w' ⟨rfl, rfl⟩))
  go_ret2
  exact ⟨rfl, rfl⟩

theorem sFarLeft_no1 (p k : Int) (w : World) (h : p < 1 ∨ 1000000 < p) :
    Calls Try.prog 10 #[.int .i64 p, .int .i64 k] w fun e w' => e = .returned (.tuple #[.int .i64 0, .bool false]) ∧ w = w' := by
  go_enter Try.func10, Try.ntmps10
  go_wp2_with (first | ((with_reducible refine (l1In_no _ _ _ _ (by omega)).mono ?_); rintro e w' ⟨rfl, rfl⟩))
  go_ret2
  exact ⟨rfl, rfl⟩

theorem sFarLeft_no2 (p k : Int) (w : World) (h1 : 1 ≤ p) (h2 : p ≤ 1000000) (h : k < 1 ∨ 1000000 < k) :
    Calls Try.prog 10 #[.int .i64 p, .int .i64 k] w fun e w' => e = .returned (.tuple #[.int .i64 0, .bool false]) ∧ w = w' := by
  go_enter Try.func10, Try.ntmps10
  go_wp2_with (first | ((with_reducible refine (l1In_yes p _ _ _ (by omega) (by omega)).mono ?_); rintro e w' ⟨rfl, rfl⟩) | ((with_reducible refine (l1In_no k _ _ _ (by omega)).mono ?_); rintro e w' ⟨rfl, rfl⟩))
  go_ret2
  exact ⟨rfl, rfl⟩

theorem iFarLeft_yes (n : Nat) (k : Int) (w : World) (h1 : 1 ≤ n) (h2 : n ≤ 1000000) (h3 : 1 ≤ k) (h4 : k ≤ 1000000) :
    Calls Try.prog 11 #[.int .i64 n, .int .i64 k] w fun e w' => e = .returned (.tuple #[.int .i64 (lastN k (n - 1)), .bool true]) ∧ w = w' := by
  go_enter Try.func11, Try.ntmps11
  go_wp2_with (first | ((with_reducible refine (within_yes _ _ _ _ (by omega) (by omega)).mono ?_); rintro e w' ⟨rfl, rfl⟩) | ((with_reducible refine (lastByFormula_any n k _ (by omega) (by omega) (by omega) (by omega)).mono ?_); rintro e w' ⟨rfl, rfl⟩))
  go_ret2
  exact ⟨rfl, rfl⟩

theorem iFarLeft_no1 (p k : Int) (w : World) (h : p < 1 ∨ 1000000 < p) :
    Calls Try.prog 11 #[.int .i64 p, .int .i64 k] w fun e w' => e = .returned (.tuple #[.int .i64 0, .bool false]) ∧ w = w' := by
  go_enter Try.func11, Try.ntmps11
  go_wp2_with (first | ((with_reducible refine (within_no _ _ _ _ (by omega)).mono ?_); rintro e w' ⟨rfl, rfl⟩))
  go_ret2
  exact ⟨rfl, rfl⟩

theorem iFarLeft_no2 (p k : Int) (w : World) (h1 : 1 ≤ p) (h2 : p ≤ 1000000) (h : k < 1 ∨ 1000000 < k) :
    Calls Try.prog 11 #[.int .i64 p, .int .i64 k] w fun e w' => e = .returned (.tuple #[.int .i64 0, .bool false]) ∧ w = w' := by
  go_enter Try.func11, Try.ntmps11
  go_wp2_with (first | ((with_reducible refine (within_yes p _ _ _ (by omega) (by omega)).mono ?_); rintro e w' ⟨rfl, rfl⟩) | ((with_reducible refine (within_no k _ _ _ (by omega)).mono ?_); rintro e w' ⟨rfl, rfl⟩))
  go_ret2
  exact ⟨rfl, rfl⟩

theorem lawLastLeft_yes (n : Nat) (k : Int) (w : World) (h : Asked n k) :
    Calls Try.prog 3 #[.int .i64 n, .int .i64 k] w fun e w' => e = .returned (.bool true) ∧ w = w' := by
  go_enter Try.func3, Try.ntmps3
  go_wp2_with (first | ((with_reducible refine (sLastLeft_yes n k _ h).mono ?_); rintro e w' ⟨rfl, rfl⟩) | ((with_reducible refine (iLastLeft_yes n k _ h).mono ?_); rintro e w' ⟨rfl, rfl⟩))
  go_ret
  exact ⟨rfl, rfl⟩

theorem lawLastLeft_no (p k : Int) (w : World) (h : ¬ Asked p k) :
    Calls Try.prog 3 #[.int .i64 p, .int .i64 k] w fun e w' => e = .returned (.bool true) ∧ w = w' := by
  go_enter Try.func3, Try.ntmps3
  go_wp2_with (first | ((with_reducible refine (sLastLeft_no p k _ h).mono ?_); rintro e w' ⟨rfl, rfl⟩) | ((with_reducible refine (iLastLeft_no p k _ h).mono ?_); rintro e w' ⟨rfl, rfl⟩))
  go_ret
  exact ⟨rfl, rfl⟩

theorem lawFarLeft_yes (n : Nat) (k : Int) (w : World) (h1 : 1 ≤ n) (h2 : n ≤ 1000000) (h3 : 1 ≤ k) (h4 : k ≤ 1000000) :
    Calls Try.prog 4 #[.int .i64 n, .int .i64 k] w fun e w' => e = .returned (.bool true) ∧ w = w' := by
  go_enter Try.func4, Try.ntmps4
  go_wp2_with (first | ((with_reducible refine (sFarLeft_yes n k _ h1 h2 h3 h4).mono ?_); rintro e w' ⟨rfl, rfl⟩) | ((with_reducible refine (iFarLeft_yes n k _ h1 h2 h3 h4).mono ?_); rintro e w' ⟨rfl, rfl⟩))
  go_ret
  exact ⟨rfl, rfl⟩

theorem lawFarLeft_no1 (p k : Int) (w : World) (h : p < 1 ∨ 1000000 < p) :
    Calls Try.prog 4 #[.int .i64 p, .int .i64 k] w fun e w' => e = .returned (.bool true) ∧ w = w' := by
  go_enter Try.func4, Try.ntmps4
  go_wp2_with (first | ((with_reducible refine (sFarLeft_no1 p k _ h).mono ?_); rintro e w' ⟨rfl, rfl⟩) | ((with_reducible refine (iFarLeft_no1 p k _ h).mono ?_); rintro e w' ⟨rfl, rfl⟩))
  go_ret
  exact ⟨rfl, rfl⟩

theorem lawFarLeft_no2 (p k : Int) (w : World) (h1 : 1 ≤ p) (h2 : p ≤ 1000000) (h : k < 1 ∨ 1000000 < k) :
    Calls Try.prog 4 #[.int .i64 p, .int .i64 k] w fun e w' => e = .returned (.bool true) ∧ w = w' := by
  go_enter Try.func4, Try.ntmps4
  go_wp2_with (first | ((with_reducible refine (sFarLeft_no2 p k _ h1 h2 h).mono ?_); rintro e w' ⟨rfl, rfl⟩) | ((with_reducible refine (iFarLeft_no2 p k _ h1 h2 h).mono ?_); rintro e w' ⟨rfl, rfl⟩))
  go_ret
  exact ⟨rfl, rfl⟩
end Go.Proofs.Ytlkmknigfdgnoab
