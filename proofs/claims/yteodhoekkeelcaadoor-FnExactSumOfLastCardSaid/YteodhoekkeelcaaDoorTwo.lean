/- Numbers of people of chapter 2, who is left of every second one and the greatest power, in the program and in its model; no condition but that the world holds the table of powers. -/
import Derived.Test.YteodhoekkeelcaaDoorPow
import Derived.Test.YteodhoekkeelcaaDoorRes
namespace Go.Proofs.YteodhoekkeelcaaDoor
open Go.ChangeShapes Go.WideShapes Go.ChangeAt Go.RowKit

/-- who is left of every second one -/
def tl (p : Nat) : Nat := 2 * (p - gp p)

theorem isMany_yes (p : Int) (w : World) (h : In p 1 1000000000000) :
    Calls Tryd.prog 43 #[.int .i64 p] w fun e w' => e = .returned (.bool true) ∧ w = w' := by
  have h1 := h.lo; have h2 := h.hi
  go_enter Tryd.func43, Tryd.ntmps43
  go_wp2_with (first | ((with_reducible refine (within_yes _ _ _ _ (by omega) (by omega)).mono ?_); rintro e w' ⟨rfl, rfl⟩))
  go_ret
  exact ⟨rfl, rfl⟩

theorem isMany_no (p : Int) (w : World) (h : ¬ In p 1 1000000000000) :
    Calls Tryd.prog 43 #[.int .i64 p] w fun e w' => e = .returned (.bool false) ∧ w = w' := by
  have h1 := not_in h
  go_enter Tryd.func43, Tryd.ntmps43
  go_wp2_with (first | ((with_reducible refine (within_no _ _ _ _ (by omega)).mono ?_); rintro e w' ⟨rfl, rfl⟩))
  go_ret
  exact ⟨rfl, rfl⟩

theorem twGood_yes (p : Int) (w : World) (h : In p 1 1000000000000) :
    Calls Tryd.prog 41 #[.int .i64 p] w fun e w' => e = .returned (.bool true) ∧ w = w' := by
  have h1 := h.lo; have h2 := h.hi
  go_enter Tryd.func41, Tryd.ntmps41
  go_wp2_with (first | ((with_reducible refine (l1In_yes _ _ _ _ (by omega) (by omega)).mono ?_); rintro e w' ⟨rfl, rfl⟩))
  go_ret
  exact ⟨rfl, rfl⟩

theorem twGood_no (p : Int) (w : World) (h : ¬ In p 1 1000000000000) :
    Calls Tryd.prog 41 #[.int .i64 p] w fun e w' => e = .returned (.bool false) ∧ w = w' := by
  have h1 := not_in h
  go_enter Tryd.func41, Tryd.ntmps41
  go_wp2_with (first | ((with_reducible refine (l1In_no _ _ _ _ (by omega)).mono ?_); rintro e w' ⟨rfl, rfl⟩))
  go_ret
  exact ⟨rfl, rfl⟩

theorem twFar_yes (p : Int) (w : World) (h : In p 0 1000000000000) :
    Calls Tryd.prog 49 #[.int .i64 p] w fun e w' => e = .returned (.bool true) ∧ w = w' := by
  have h1 := h.lo; have h2 := h.hi
  go_enter Tryd.func49, Tryd.ntmps49
  go_wp2_with (first | ((with_reducible refine (l1In_yes _ _ _ _ (by omega) (by omega)).mono ?_); rintro e w' ⟨rfl, rfl⟩))
  go_ret
  exact ⟨rfl, rfl⟩

theorem twFar_no (p : Int) (w : World) (h : ¬ In p 0 1000000000000) :
    Calls Tryd.prog 49 #[.int .i64 p] w fun e w' => e = .returned (.bool false) ∧ w = w' := by
  have h1 := not_in h
  go_enter Tryd.func49, Tryd.ntmps49
  go_wp2_with (first | ((with_reducible refine (l1In_no _ _ _ _ (by omega)).mono ?_); rintro e w' ⟨rfl, rfl⟩))
  go_ret
  exact ⟨rfl, rfl⟩

theorem iTl_any (p : Nat) (W : World) (hP : Pow W) (h : In p 1 1000000000000) :
    Calls Tryd.prog 44 #[.int .i64 p] W fun e w' => e = .returned (.int .i64 (tl p)) ∧ W = w' := by
  have h1 := h.lo; have h2 := h.hi
  have g1 := gp_le p (by omega)
  have g2 := gp_pos p
  go_enter Tryd.func44, Tryd.ntmps44
  go_wp2_with (first | ((with_reducible refine (greatestPower_any p _ hP (by omega) (by omega)).mono ?_); rintro e w' ⟨rfl, rfl⟩))
  go_ret
  exact ⟨ret_int (by unfold tl; omega), rfl⟩

theorem sTl_any (p : Nat) (W : World) (h : In p 1 1000000000000) :
    Calls Tryd.prog 42 #[.int .i64 p] W fun e w' => e = .returned (.int .i64 (tl p)) ∧ W = w' := by
  have h1 := h.lo; have h2 := h.hi
  have g1 := gp_le p (by omega)
  have g2 := gp_pos p
  go_enter Tryd.func42, Tryd.ntmps42
  go_wp2_with (first | ((with_reducible refine (twPower_any p _ (by omega) (by omega)).mono ?_); rintro e w' ⟨rfl, rfl⟩))
  go_ret
  exact ⟨ret_int (by unfold tl; omega), rfl⟩

theorem sTwoLast_yes (p : Nat) (W : World) (h : In p 1 1000000000000) : Calls Tryd.prog 17 #[.int .i64 p] W (IntB W (tl p : Nat) true) := by
  have h1 := h.lo; have h2 := h.hi
  go_enter Tryd.func17, Tryd.ntmps17
  go_wp2_with (first | ((with_reducible refine (twGood_yes _ _ h).mono ?_); rintro e w' ⟨rfl, rfl⟩) | ((with_reducible refine (sTl_any p _ h).mono ?_); rintro e w' ⟨rfl, rfl⟩))
  go_ret2
  exact ⟨rfl, .refl _ _⟩

theorem sTwoLast_no (p : Int) (W : World) (h : ¬ In p 1 1000000000000) : Calls Tryd.prog 17 #[.int .i64 p] W (IntB W 0 false) := by
  go_enter Tryd.func17, Tryd.ntmps17
  go_wp2_with (first | ((with_reducible refine (twGood_no _ _ h).mono ?_); rintro e w' ⟨rfl, rfl⟩))
  go_ret2
  exact ⟨rfl, .refl _ _⟩

theorem iTwoLast_yes (p : Nat) (W : World) (hP : Pow W) (h : In p 1 1000000000000) : Calls Tryd.prog 18 #[.int .i64 p] W (IntB W (tl p : Nat) true) := by
  have h1 := h.lo; have h2 := h.hi
  go_enter Tryd.func18, Tryd.ntmps18
  go_wp2_with (first | ((with_reducible refine (isMany_yes _ _ h).mono ?_); rintro e w' ⟨rfl, rfl⟩) | ((with_reducible refine (iTl_any p _ hP h).mono ?_); rintro e w' ⟨rfl, rfl⟩))
  go_ret2
  exact ⟨rfl, .refl _ _⟩

theorem iTwoLast_no (p : Int) (W : World) (h : ¬ In p 1 1000000000000) : Calls Tryd.prog 18 #[.int .i64 p] W (IntB W 0 false) := by
  go_enter Tryd.func18, Tryd.ntmps18
  go_wp2_with (first | ((with_reducible refine (isMany_no _ _ h).mono ?_); rintro e w' ⟨rfl, rfl⟩))
  go_ret2
  exact ⟨rfl, .refl _ _⟩

set_option maxHeartbeats 800000 in
theorem lawTwoLast_of (p : Int) (x : Int) (b : Bool) (W : World)
    (hS : Hid (∀ w, Kp Nw W w → Calls Tryd.prog 17 #[.int .i64 p] w (IntB w x b))) (hI : Hid (∀ w, Kp Nw W w → Calls Tryd.prog 18 #[.int .i64 p] w (IntB w x b))) :
    Calls Tryd.prog 4 #[.int .i64 p] W fun e w' => e = .returned (.bool true) ∧ Kp Nw W w' := by
  go_enter Tryd.func4, Tryd.ntmps4
  go_wp2_with fail
  refine (hS.out _ (.refl _ _)).mono ?_
  rintro e w1 ⟨rfl, hk1⟩
  have HK1 := Lib.hid hk1
  clear hk1
  go_wp2_with fail
  refine (hI.out _ HK1.out).mono ?_
  rintro e w2 ⟨rfl, hk2⟩
  have HK2 := Lib.hid (HK1.out.nw hk2)
  clear hk2
  go_wp2
  go_ret
  exact ⟨rfl, HK2.out⟩

theorem lawTwoLast (p : Int) (W : World) (hP : Pow W) :
    Calls Tryd.prog 4 #[.int .i64 p] W fun e w' => e = .returned (.bool true) ∧ Kp Nw W w' := by
  by_cases h : In p 1 1000000000000
  · have h1 := h.lo
    obtain ⟨n, rfl⟩ : ∃ n : Nat, p = n := ⟨p.toNat, by omega⟩
    exact lawTwoLast_of n _ true W (Lib.hid fun w _ => sTwoLast_yes n w h) (Lib.hid fun w hk => iTwoLast_yes n w (hP.nw hk) h)
  · exact lawTwoLast_of p _ false W (Lib.hid fun w _ => sTwoLast_no p w h) (Lib.hid fun w _ => iTwoLast_no p w h)

theorem sGreatestPower_yes (p : Nat) (W : World) (h : In p 1 1000000000000) : Calls Tryd.prog 19 #[.int .i64 p] W (IntB W (gp p : Nat) true) := by
  have h1 := h.lo; have h2 := h.hi
  go_enter Tryd.func19, Tryd.ntmps19
  go_wp2_with (first | ((with_reducible refine (twGood_yes _ _ h).mono ?_); rintro e w' ⟨rfl, rfl⟩) | ((with_reducible refine (twPower_any p _ (by omega) (by omega)).mono ?_); rintro e w' ⟨rfl, rfl⟩))
  go_ret2
  exact ⟨rfl, .refl _ _⟩

theorem sGreatestPower_no (p : Int) (W : World) (h : ¬ In p 1 1000000000000) : Calls Tryd.prog 19 #[.int .i64 p] W (IntB W 0 false) := by
  go_enter Tryd.func19, Tryd.ntmps19
  go_wp2_with (first | ((with_reducible refine (twGood_no _ _ h).mono ?_); rintro e w' ⟨rfl, rfl⟩))
  go_ret2
  exact ⟨rfl, .refl _ _⟩

theorem iGreatestPower_yes (p : Nat) (W : World) (hP : Pow W) (h : In p 1 1000000000000) : Calls Tryd.prog 20 #[.int .i64 p] W (IntB W (gp p : Nat) true) := by
  have h1 := h.lo; have h2 := h.hi
  go_enter Tryd.func20, Tryd.ntmps20
  go_wp2_with (first | ((with_reducible refine (isMany_yes _ _ h).mono ?_); rintro e w' ⟨rfl, rfl⟩) | ((with_reducible refine (greatestPower_any p _ hP (by omega) (by omega)).mono ?_); rintro e w' ⟨rfl, rfl⟩))
  go_ret2
  exact ⟨rfl, .refl _ _⟩

theorem iGreatestPower_no (p : Int) (W : World) (h : ¬ In p 1 1000000000000) : Calls Tryd.prog 20 #[.int .i64 p] W (IntB W 0 false) := by
  go_enter Tryd.func20, Tryd.ntmps20
  go_wp2_with (first | ((with_reducible refine (isMany_no _ _ h).mono ?_); rintro e w' ⟨rfl, rfl⟩))
  go_ret2
  exact ⟨rfl, .refl _ _⟩

set_option maxHeartbeats 800000 in
theorem lawGreatestPower_of (p : Int) (x : Int) (b : Bool) (W : World)
    (hS : Hid (∀ w, Kp Nw W w → Calls Tryd.prog 19 #[.int .i64 p] w (IntB w x b))) (hI : Hid (∀ w, Kp Nw W w → Calls Tryd.prog 20 #[.int .i64 p] w (IntB w x b))) :
    Calls Tryd.prog 5 #[.int .i64 p] W fun e w' => e = .returned (.bool true) ∧ Kp Nw W w' := by
  go_enter Tryd.func5, Tryd.ntmps5
  go_wp2_with fail
  refine (hS.out _ (.refl _ _)).mono ?_
  rintro e w1 ⟨rfl, hk1⟩
  have HK1 := Lib.hid hk1
  clear hk1
  go_wp2_with fail
  refine (hI.out _ HK1.out).mono ?_
  rintro e w2 ⟨rfl, hk2⟩
  have HK2 := Lib.hid (HK1.out.nw hk2)
  clear hk2
  go_wp2
  go_ret
  exact ⟨rfl, HK2.out⟩

theorem lawGreatestPower (p : Int) (W : World) (hP : Pow W) :
    Calls Tryd.prog 5 #[.int .i64 p] W fun e w' => e = .returned (.bool true) ∧ Kp Nw W w' := by
  by_cases h : In p 1 1000000000000
  · have h1 := h.lo
    obtain ⟨n, rfl⟩ : ∃ n : Nat, p = n := ⟨p.toNat, by omega⟩
    exact lawGreatestPower_of n _ true W (Lib.hid fun w _ => sGreatestPower_yes n w h) (Lib.hid fun w hk => iGreatestPower_yes n w (hP.nw hk) h)
  · exact lawGreatestPower_of p _ false W (Lib.hid fun w _ => sGreatestPower_no p w h) (Lib.hid fun w _ => iGreatestPower_no p w h)
end Go.Proofs.YteodhoekkeelcaaDoor
