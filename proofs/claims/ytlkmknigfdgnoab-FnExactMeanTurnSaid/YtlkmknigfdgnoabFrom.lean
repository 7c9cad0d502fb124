/- Who is left if the count begins at another person (LastFrom), and where it has to begin (BeginFor): the program and its model return the same; for all integers. -/
import Derived.Test.YtlkmknigfdgnoabLow
namespace Go.Proofs.Ytlkmknigfdgnoab
open Go.ChangeShapes Go.WideShapes Go.ChangeAt Go.RowKit

theorem tmod_neg (n s : Int) (h : n < 0) (hs : 1 ≤ s) : 0 ≤ n.tmod s + s ∧ n.tmod s + s ≤ s ∧ (n.tmod s + s) % s = n % s := by
  have h1 := Int.emod_nonneg n (b := s) (by omega)
  have h2 := Int.emod_lt_of_pos n (b := s) (by omega)
  have e := Int.tmod_eq_emod (a := n) (b := s)
  by_cases c : 0 ≤ n ∨ s ∣ n
  · rw [if_pos c] at e
    have hd : n % s = 0 := by
      rcases c with c | c
      · omega
      · exact Int.emod_eq_zero_of_dvd c
    rw [e]
    refine ⟨by omega, by omega, ?_⟩
    rw [hd]; simp
  · rw [if_neg c] at e
    have hn : ((s.natAbs : Nat) : Int) = s := by omega
    rw [hn] at e
    rw [e]
    refine ⟨by omega, by omega, ?_⟩
    rw [show n % s - s + s = n % s by omega, Int.emod_emod]

theorem around_any (n s : Int) (w : World) (h1 : 1 ≤ s) (h2 : s ≤ 1000000) (h3 : -4000000 ≤ n) (h4 : n ≤ 4000000) :
    Calls Try.prog 25 #[.int .i64 n, .int .i64 s] w fun e w' => e = .returned (.int .i64 (n % s)) ∧ w = w' := by
  by_cases h : 0 ≤ n
  · have b1 := Int.emod_nonneg n (b := s) (by omega)
    have b2 := Int.emod_lt_of_pos n (b := s) (by omega)
    go_enter Try.func25, Try.ntmps25
    go_wp2
    go_ret
    exact ⟨ret_int (by rw [Int.add_emod_right, Int.emod_emod]), rfl⟩
  · obtain ⟨b1, b2, b3⟩ := tmod_neg n s (by omega) h1
    have H := Lib.hid b3
    clear b3
    go_enter Try.func25, Try.ntmps25
    go_wp2
    go_ret
    exact ⟨ret_int (by rw [← H.out, Int.add_emod_right]), rfl⟩

/-- people, a step and one of them, or a turn -/
structure One (p k b : Int) : Prop where
  a : Asked p k
  b1 : 0 ≤ b
  b2 : b < p

theorem ciOne_yes (p k b : Int) (w : World) (h : One p k b) :
    Calls Try.prog 24 #[.int .i64 p, .int .i64 k, .int .i64 b] w fun e w' => e = .returned (.bool true) ∧ w = w' := by
  have h1 := h.a.p1; have h2 := h.a.p2; have h3 := h.b1; have h4 := h.b2
  go_enter Try.func24, Try.ntmps24
  go_wp2_with (first | ((with_reducible refine (ciAsked_yes _ _ _ h.a).mono ?_); rintro e w' ⟨rfl, rfl⟩) | ((with_reducible refine (l1In_yes b _ _ _ (by omega) (by omega)).mono ?_); rintro e w' ⟨rfl, rfl⟩))
  go_ret
  exact ⟨rfl, rfl⟩

theorem ciOne_no1 (p k b : Int) (w : World) (h : ¬ Asked p k) :
    Calls Try.prog 24 #[.int .i64 p, .int .i64 k, .int .i64 b] w fun e w' => e = .returned (.bool false) ∧ w = w' := by
  go_enter Try.func24, Try.ntmps24
  go_wp2_with (first | ((with_reducible refine (ciAsked_no _ _ _ h).mono ?_); rintro e w' ⟨rfl, rfl⟩))
  go_ret
  exact ⟨rfl, rfl⟩

theorem ciOne_no2 (p k b : Int) (w : World) (h : Asked p k) (hb : b < 0 ∨ p - 1 < b) :
    Calls Try.prog 24 #[.int .i64 p, .int .i64 k, .int .i64 b] w fun e w' => e = .returned (.bool false) ∧ w = w' := by
  have h1 := h.p1; have h2 := h.p2
  go_enter Try.func24, Try.ntmps24
  go_wp2_with (first | ((with_reducible refine (ciAsked_yes _ _ _ h).mono ?_); rintro e w' ⟨rfl, rfl⟩) | ((with_reducible refine (l1In_no b _ _ _ hb).mono ?_); rintro e w' ⟨rfl, rfl⟩))
  go_ret
  exact ⟨rfl, rfl⟩

theorem sLastFrom_no1 (p k b : Int) (w : World) (h : ¬ Asked p k) :
    Calls Try.prog 12 #[.int .i64 p, .int .i64 k, .int .i64 b] w fun e w' => e = .returned (.tuple #[.int .i64 0, .bool false]) ∧ w = w' := by
  skip
  go_enter Try.func12, Try.ntmps12
  go_wp2_with (first | ((with_reducible refine (ciOne_no1 p k b _ h).mono ?_); rintro e w' ⟨rfl, rfl⟩))
  go_ret2
  exact ⟨rfl, rfl⟩

theorem sLastFrom_no2 (p k b : Int) (w : World) (h : Asked p k) (hb : b < 0 ∨ p - 1 < b) :
    Calls Try.prog 12 #[.int .i64 p, .int .i64 k, .int .i64 b] w fun e w' => e = .returned (.tuple #[.int .i64 0, .bool false]) ∧ w = w' := by
  have h1 := h.p1; have h2 := h.p2
  go_enter Try.func12, Try.ntmps12
  go_wp2_with (first | ((with_reducible refine (ciOne_no2 p k b _ h hb).mono ?_); rintro e w' ⟨rfl, rfl⟩))
  go_ret2
  exact ⟨rfl, rfl⟩

theorem iLastFrom_no1 (p k b : Int) (w : World) (h : ¬ Asked p k) :
    Calls Try.prog 13 #[.int .i64 p, .int .i64 k, .int .i64 b] w fun e w' => e = .returned (.tuple #[.int .i64 0, .bool false]) ∧ w = w' := by
  skip
  go_enter Try.func13, Try.ntmps13
  go_wp2_with (first | ((with_reducible refine (isCount_no p k _ h).mono ?_); rintro e w' ⟨rfl, rfl⟩))
  go_ret2
  exact ⟨rfl, rfl⟩

theorem iLastFrom_no2 (p k b : Int) (w : World) (h : Asked p k) (hb : b < 0 ∨ p - 1 < b) :
    Calls Try.prog 13 #[.int .i64 p, .int .i64 k, .int .i64 b] w fun e w' => e = .returned (.tuple #[.int .i64 0, .bool false]) ∧ w = w' := by
  have h1 := h.p1; have h2 := h.p2
  go_enter Try.func13, Try.ntmps13
  go_wp2_with (first | ((with_reducible refine (isCount_yes p k _ h).mono ?_); rintro e w' ⟨rfl, rfl⟩) | ((with_reducible refine (within_no b _ _ _ hb).mono ?_); rintro e w' ⟨rfl, rfl⟩))
  go_ret2
  exact ⟨rfl, rfl⟩

theorem sBeginFor_no1 (p k b : Int) (w : World) (h : ¬ Asked p k) :
    Calls Try.prog 14 #[.int .i64 p, .int .i64 k, .int .i64 b] w fun e w' => e = .returned (.tuple #[.int .i64 0, .bool false]) ∧ w = w' := by
  skip
  go_enter Try.func14, Try.ntmps14
  go_wp2_with (first | ((with_reducible refine (ciOne_no1 p k b _ h).mono ?_); rintro e w' ⟨rfl, rfl⟩))
  go_ret2
  exact ⟨rfl, rfl⟩

theorem sBeginFor_no2 (p k b : Int) (w : World) (h : Asked p k) (hb : b < 0 ∨ p - 1 < b) :
    Calls Try.prog 14 #[.int .i64 p, .int .i64 k, .int .i64 b] w fun e w' => e = .returned (.tuple #[.int .i64 0, .bool false]) ∧ w = w' := by
  have h1 := h.p1; have h2 := h.p2
  go_enter Try.func14, Try.ntmps14
  go_wp2_with (first | ((with_reducible refine (ciOne_no2 p k b _ h hb).mono ?_); rintro e w' ⟨rfl, rfl⟩))
  go_ret2
  exact ⟨rfl, rfl⟩

theorem iBeginFor_no1 (p k b : Int) (w : World) (h : ¬ Asked p k) :
    Calls Try.prog 15 #[.int .i64 p, .int .i64 k, .int .i64 b] w fun e w' => e = .returned (.tuple #[.int .i64 0, .bool false]) ∧ w = w' := by
  skip
  go_enter Try.func15, Try.ntmps15
  go_wp2_with (first | ((with_reducible refine (isCount_no p k _ h).mono ?_); rintro e w' ⟨rfl, rfl⟩))
  go_ret2
  exact ⟨rfl, rfl⟩

theorem iBeginFor_no2 (p k b : Int) (w : World) (h : Asked p k) (hb : b < 0 ∨ p - 1 < b) :
    Calls Try.prog 15 #[.int .i64 p, .int .i64 k, .int .i64 b] w fun e w' => e = .returned (.tuple #[.int .i64 0, .bool false]) ∧ w = w' := by
  have h1 := h.p1; have h2 := h.p2
  go_enter Try.func15, Try.ntmps15
  go_wp2_with (first | ((with_reducible refine (isCount_yes p k _ h).mono ?_); rintro e w' ⟨rfl, rfl⟩) | ((with_reducible refine (within_no b _ _ _ hb).mono ?_); rintro e w' ⟨rfl, rfl⟩))
  go_ret2
  exact ⟨rfl, rfl⟩

theorem sLastFrom_yes (n : Nat) (k b : Int) (w : World) (h : One n k b) :
    Calls Try.prog 12 #[.int .i64 n, .int .i64 k, .int .i64 b] w fun e w' => e = .returned (.tuple #[.int .i64 ((lastN k (n - 1) + b) % n), .bool true]) ∧ w = w' := by
  have h1 := h.a.p1; have h2 := h.a.p2; have h3 := h.b1; have h4 := h.b2; have h5 := h.a.k1; have h6 := h.a.k2
  have hl1 := (lastN_bd k (n - 1)).1
  have hl2 := (lastN_bd k (n - 1)).2
  go_enter Try.func12, Try.ntmps12
  go_wp2_with (first | ((with_reducible refine (ciOne_yes n k b _ h).mono ?_); rintro e w' ⟨rfl, rfl⟩) | ((with_reducible refine (ciLast_any n k _ (by omega) (by omega) (by omega) (by omega)).mono ?_); rintro e w' ⟨rfl, rfl⟩))
  go_ret2
  exact ⟨rfl, rfl⟩

theorem iLastFrom_yes (n : Nat) (k b : Int) (w : World) (h : One n k b) :
    Calls Try.prog 13 #[.int .i64 n, .int .i64 k, .int .i64 b] w fun e w' => e = .returned (.tuple #[.int .i64 ((b + lastN k (n - 1)) % n), .bool true]) ∧ w = w' := by
  have h1 := h.a.p1; have h2 := h.a.p2; have h3 := h.b1; have h4 := h.b2; have h5 := h.a.k1; have h6 := h.a.k2
  have hl1 := (lastN_bd k (n - 1)).1
  have hl2 := (lastN_bd k (n - 1)).2
  go_enter Try.func13, Try.ntmps13
  go_wp2_with (first | ((with_reducible refine (isCount_yes n k _ h.a).mono ?_); rintro e w' ⟨rfl, rfl⟩) | ((with_reducible refine (within_yes b _ _ _ (by omega) (by omega)).mono ?_); rintro e w' ⟨rfl, rfl⟩) | ((with_reducible refine (lastByFormula_any n k _ (by omega) (by omega) (by omega) (by omega)).mono ?_); rintro e w' ⟨rfl, rfl⟩) | ((with_reducible refine (around_any _ _ _ (by omega) (by omega) (by omega) (by omega)).mono ?_); rintro e w' ⟨rfl, rfl⟩))
  go_ret2
  exact ⟨rfl, rfl⟩

theorem sBeginFor_yes (n : Nat) (k b : Int) (w : World) (h : One n k b) :
    Calls Try.prog 14 #[.int .i64 n, .int .i64 k, .int .i64 b] w fun e w' => e = .returned (.tuple #[.int .i64 ((b - lastN k (n - 1) + n) % n), .bool true]) ∧ w = w' := by
  have h1 := h.a.p1; have h2 := h.a.p2; have h3 := h.b1; have h4 := h.b2; have h5 := h.a.k1; have h6 := h.a.k2
  have hl1 := (lastN_bd k (n - 1)).1
  have hl2 := (lastN_bd k (n - 1)).2
  go_enter Try.func14, Try.ntmps14
  go_wp2_with (first | ((with_reducible refine (ciOne_yes n k b _ h).mono ?_); rintro e w' ⟨rfl, rfl⟩) | ((with_reducible refine (ciLast_any n k _ (by omega) (by omega) (by omega) (by omega)).mono ?_); rintro e w' ⟨rfl, rfl⟩))
  go_ret2
  exact ⟨rfl, rfl⟩

theorem iBeginFor_yes (n : Nat) (k b : Int) (w : World) (h : One n k b) :
    Calls Try.prog 15 #[.int .i64 n, .int .i64 k, .int .i64 b] w fun e w' => e = .returned (.tuple #[.int .i64 ((b - lastN k (n - 1)) % n), .bool true]) ∧ w = w' := by
  have h1 := h.a.p1; have h2 := h.a.p2; have h3 := h.b1; have h4 := h.b2; have h5 := h.a.k1; have h6 := h.a.k2
  have hl1 := (lastN_bd k (n - 1)).1
  have hl2 := (lastN_bd k (n - 1)).2
  go_enter Try.func15, Try.ntmps15
  go_wp2_with (first | ((with_reducible refine (isCount_yes n k _ h.a).mono ?_); rintro e w' ⟨rfl, rfl⟩) | ((with_reducible refine (within_yes b _ _ _ (by omega) (by omega)).mono ?_); rintro e w' ⟨rfl, rfl⟩) | ((with_reducible refine (lastByFormula_any n k _ (by omega) (by omega) (by omega) (by omega)).mono ?_); rintro e w' ⟨rfl, rfl⟩) | ((with_reducible refine (around_any _ _ _ (by omega) (by omega) (by omega) (by omega)).mono ?_); rintro e w' ⟨rfl, rfl⟩))
  go_ret2
  exact ⟨rfl, rfl⟩

theorem iLastFrom_as (n : Nat) (k b : Int) (w : World) (h : One n k b) :
    Calls Try.prog 13 #[.int .i64 n, .int .i64 k, .int .i64 b] w fun e w' => e = .returned (.tuple #[.int .i64 ((lastN k (n - 1) + b) % n), .bool true]) ∧ w = w' := by
  have e : (lastN k (n - 1) + b) % n = (b + lastN k (n - 1)) % n := by rw [Int.add_comm b]
  rw [e]; exact iLastFrom_yes n k b w h

theorem lawLastFrom (p k b : Int) (w : World) :
    Calls Try.prog 5 #[.int .i64 p, .int .i64 k, .int .i64 b] w fun e w' => e = .returned (.bool true) ∧ w = w' := by
  by_cases h : Asked p k
  · by_cases hb : b < 0 ∨ p - 1 < b
    · go_enter Try.func5, Try.ntmps5
      go_wp2_with (first | ((with_reducible refine (sLastFrom_no2 p k b _ h hb).mono ?_); rintro e w' ⟨rfl, rfl⟩) | ((with_reducible refine (iLastFrom_no2 p k b _ h hb).mono ?_); rintro e w' ⟨rfl, rfl⟩))
      go_ret
      exact ⟨rfl, rfl⟩
    · obtain ⟨n, rfl⟩ : ∃ n : Nat, p = n := ⟨p.toNat, by have := h.p1; omega⟩
      have h' : One n k b := ⟨h, by omega, by omega⟩
      clear hb
      go_enter Try.func5, Try.ntmps5
      go_wp2_with (first | ((with_reducible refine (sLastFrom_yes n k b _ h').mono ?_); rintro e w' ⟨rfl, rfl⟩) | ((with_reducible refine (iLastFrom_as n k b _ h').mono ?_); rintro e w' ⟨rfl, rfl⟩))
      go_ret
      exact ⟨rfl, rfl⟩
  · go_enter Try.func5, Try.ntmps5
    go_wp2_with (first | ((with_reducible refine (sLastFrom_no1 p k b _ h).mono ?_); rintro e w' ⟨rfl, rfl⟩) | ((with_reducible refine (iLastFrom_no1 p k b _ h).mono ?_); rintro e w' ⟨rfl, rfl⟩))
    go_ret
    exact ⟨rfl, rfl⟩

theorem iBeginFor_as (n : Nat) (k b : Int) (w : World) (h : One n k b) :
    Calls Try.prog 15 #[.int .i64 n, .int .i64 k, .int .i64 b] w fun e w' => e = .returned (.tuple #[.int .i64 ((b - lastN k (n - 1) + n) % n), .bool true]) ∧ w = w' := by
  have e : (b - lastN k (n - 1) + n) % n = (b - lastN k (n - 1)) % n := by rw [Int.add_emod_right]
  rw [e]; exact iBeginFor_yes n k b w h

theorem lawBeginFor (p k b : Int) (w : World) :
    Calls Try.prog 6 #[.int .i64 p, .int .i64 k, .int .i64 b] w fun e w' => e = .returned (.bool true) ∧ w = w' := by
  by_cases h : Asked p k
  · by_cases hb : b < 0 ∨ p - 1 < b
    · go_enter Try.func6, Try.ntmps6
      go_wp2_with (first | ((with_reducible refine (sBeginFor_no2 p k b _ h hb).mono ?_); rintro e w' ⟨rfl, rfl⟩) | ((with_reducible refine (iBeginFor_no2 p k b _ h hb).mono ?_); rintro e w' ⟨rfl, rfl⟩))
      go_ret
      exact ⟨rfl, rfl⟩
    · obtain ⟨n, rfl⟩ : ∃ n : Nat, p = n := ⟨p.toNat, by have := h.p1; omega⟩
      have h' : One n k b := ⟨h, by omega, by omega⟩
      clear hb
      go_enter Try.func6, Try.ntmps6
      go_wp2_with (first | ((with_reducible refine (sBeginFor_yes n k b _ h').mono ?_); rintro e w' ⟨rfl, rfl⟩) | ((with_reducible refine (iBeginFor_as n k b _ h').mono ?_); rintro e w' ⟨rfl, rfl⟩))
      go_ret
      exact ⟨rfl, rfl⟩
  · go_enter Try.func6, Try.ntmps6
    go_wp2_with (first | ((with_reducible refine (sBeginFor_no1 p k b _ h).mono ?_); rintro e w' ⟨rfl, rfl⟩) | ((with_reducible refine (iBeginFor_no1 p k b _ h).mono ?_); rintro e w' ⟨rfl, rfl⟩))
    go_ret
    exact ⟨rfl, rfl⟩
end Go.Proofs.Ytlkmknigfdgnoab
