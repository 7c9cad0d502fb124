/- The next circle that leaves a person (NextLeaving), in the program and in its model: both are the same; no condition but that the world holds the table of powers. -/
import Derived.Test.YteodhoekkeelcaaDoorLeav
namespace Go.Proofs.YteodhoekkeelcaaDoor
open Go.ChangeShapes Go.WideShapes Go.ChangeAt Go.RowKit

/-- the first one that is greater -/
def nx (xs : List Int) (n : Int) : Option Int := xs.find? fun x => decide (n < x)
theorem nx_at (xs : List Int) (n : Int) (k : Nat) (hk : k < xs.length) (hb : ∀ i, i < k → xs.getD i 0 ≤ n) (h : n < xs.getD k 0) : nx xs n = some (xs.getD k 0) := by
  unfold nx
  rw [List.find?_eq_some_iff_getElem]
  have e : xs[k] = xs.getD k 0 := by simp [hk]
  refine ⟨by simpa using h, k, hk, e, fun j hj => ?_⟩
  have := hb j hj
  have hj' : j < xs.length := by omega
  simpa [hj'] using this
theorem nx_none (xs : List Int) (n : Int) (hb : ∀ i, i < xs.length → xs.getD i 0 ≤ n) : nx xs n = none := by
  unfold nx
  rw [List.find?_eq_none]
  intro x hx
  obtain ⟨i, hi, rfl⟩ := List.mem_iff_getElem.1 hx
  have := hb i hi
  simpa [hi] using this
/-- what a call returns that tells a number if there is one -/
def OptB (W : World) (o : Option Int) (e : Ending) (w' : World) : Prop := IntB W (o.getD 0) o.isSome e w'

set_option maxRecDepth 100000 in
set_option maxHeartbeats 1600000 in
theorem sNextLeaving_yes (p : Nat) (n : Int) (W : World) (h : In p 0 1000000000000) (hn : In n 0 1000000000000) :
    Calls Tryd.prog 30 #[.int .i64 p, .int .i64 n] W (OptB W (nx (leav p 1000000000000) n)) := by
  have HL := Lib.hid (leav_le p 1000000000000)
  obtain ⟨xs, hxs⟩ : ∃ xs, leav p 1000000000000 = xs := ⟨_, rfl⟩
  rw [hxs]
  rw [hxs] at HL
  have HX := Lib.hid hxs
  clear hxs
  go_enter Tryd.func30, Tryd.ntmps30
  go_wp2_with (first | ((with_reducible refine (twFar_yes p _ h).mono ?_); rintro e w' ⟨rfl, rfl⟩) | ((with_reducible refine (twFar_yes n _ hn).mono ?_); rintro e w' ⟨rfl, rfl⟩))
  refine (twLeaving_any p 1000000000000 _ h (by constructor <;> omega)).mono ?_
  rintro e w1 ⟨v1, rfl, hs1, hk1⟩
  rw [HX.out] at hs1
  obtain ⟨m, hm⟩ : ∃ m, xs.length = m := ⟨_, rfl⟩
  have HM := Lib.hid hm
  have hmb : m ≤ 40 := by rw [← hm]; exact HL.out
  obtain ⟨A, c, hv, hA⟩ := hs1.rd
  rw [hm] at hv hA
  subst hv
  have HA := Lib.hid hA
  have HK1 := Lib.hid hk1
  clear hs1 hA hk1 hm
  go_wp2
  go_loop [7, 19] (fun _ i => ∃ j : Nat, j ≤ m ∧ i = .int .i64 j ∧ Hid (∀ i, i < j → xs.getD i 0 ≤ n)) (fun _ i => m - (intOf i).toNat)
  case atStart => exact ⟨0, Nat.zero_le _, rfl, Lib.hid (fun i hi => by omega)⟩
  case round =>
    obtain ⟨j, hj, rfl, hall⟩ := hrel
    have j0 : (0 : Int) ≤ j := Int.natCast_nonneg _
    by_cases hlt : j < m
    · obtain ⟨g, o, rfl, hc⟩ := HA.out j hlt
      have j1 : (j : Int) < m := by omega
      obtain ⟨y, hy⟩ : ∃ y, xs.getD j 0 = y := ⟨_, rfl⟩
      rw [hy] at hc
      by_cases hgt : n < y
      · have HE := Lib.hid (nx_at xs n j (by rw [HM.out]; exact hlt) hall.out (by rw [hy]; exact hgt))
        rw [hy] at HE
        clear hy
        go_wp2
        go_ret2
        unfold OptB
        rw [HE.out]
        exact ⟨rfl, HK1.out⟩
      · have HE := Lib.hid (show ∀ i, i < j + 1 → xs.getD i 0 ≤ n from fun i hi => by
          rcases Nat.lt_or_ge i j with a | a
          · exact hall.out i a
          · have : i = j := by omega
            subst this
            rw [hy]; omega)
        clear hy
        go_wp2
        go_round
        case rel => exact ⟨j + 1, by omega, by go_num, HE⟩
        case measure => simp [intOf]; omega
    · have e : j = m := by omega
      subst e
      have HE := Lib.hid (nx_none xs n (by rw [HM.out]; exact hall.out))
      go_wp2
      go_ret2
      unfold OptB
      rw [HE.out]
      exact ⟨rfl, HK1.out⟩

set_option maxRecDepth 100000 in
set_option maxHeartbeats 1600000 in
theorem iNextLeaving_yes (p : Nat) (n : Int) (W : World) (hP : Pow W) (h : In p 0 1000000000000) (hn : In n 0 1000000000000) :
    Calls Tryd.prog 31 #[.int .i64 p, .int .i64 n] W (OptB W (nx (leav p 1000000000000) n)) := by
  have HL := Lib.hid (leav_le p 1000000000000)
  obtain ⟨xs, hxs⟩ : ∃ xs, leav p 1000000000000 = xs := ⟨_, rfl⟩
  rw [hxs]
  rw [hxs] at HL
  have HX := Lib.hid hxs
  clear hxs
  go_enter Tryd.func31, Tryd.ntmps31
  go_wp2_with fail
  refine (iCirclesLeaving_yes p 1000000000000 _ hP h (by constructor <;> omega)).mono ?_
  rintro e w1 ⟨v1, rfl, hs1, hk1⟩
  rw [HX.out] at hs1
  obtain ⟨m, hm⟩ : ∃ m, xs.length = m := ⟨_, rfl⟩
  have HM := Lib.hid hm
  have hmb : m ≤ 40 := by rw [← hm]; exact HL.out
  obtain ⟨A, c, hv, hA⟩ := hs1.rd
  rw [hm] at hv hA
  subst hv
  have HA := Lib.hid hA
  have HK1 := Lib.hid hk1
  clear hs1 hA hk1 hm
  have n1 := hn.lo; have n2 := hn.hi
  go_wp2_with (first | ((with_reducible refine (within_yes _ _ _ _ (by omega) (by omega)).mono ?_); rintro e w' ⟨rfl, rfl⟩))
  go_loop [9, 24] (fun _ i => ∃ j : Nat, j ≤ m ∧ i = .int .i64 j ∧ Hid (∀ i, i < j → xs.getD i 0 ≤ n)) (fun _ i => m - (intOf i).toNat)
  case atStart => exact ⟨0, Nat.zero_le _, rfl, Lib.hid (fun i hi => by omega)⟩
  case round =>
    obtain ⟨j, hj, rfl, hall⟩ := hrel
    have j0 : (0 : Int) ≤ j := Int.natCast_nonneg _
    by_cases hlt : j < m
    · obtain ⟨g, o, rfl, hc⟩ := HA.out j hlt
      have j1 : (j : Int) < m := by omega
      obtain ⟨y, hy⟩ : ∃ y, xs.getD j 0 = y := ⟨_, rfl⟩
      rw [hy] at hc
      by_cases hgt : n < y
      · have HE := Lib.hid (nx_at xs n j (by rw [HM.out]; exact hlt) hall.out (by rw [hy]; exact hgt))
        rw [hy] at HE
        clear hy
        go_wp2
        go_ret2
        unfold OptB
        rw [HE.out]
        exact ⟨rfl, HK1.out⟩
      · have HE := Lib.hid (show ∀ i, i < j + 1 → xs.getD i 0 ≤ n from fun i hi => by
          rcases Nat.lt_or_ge i j with a | a
          · exact hall.out i a
          · have : i = j := by omega
            subst this
            rw [hy]; omega)
        clear hy
        go_wp2
        go_round
        case rel => exact ⟨j + 1, by omega, by go_num, HE⟩
        case measure => simp [intOf]; omega
    · have e : j = m := by omega
      subst e
      have HE := Lib.hid (nx_none xs n (by rw [HM.out]; exact hall.out))
      go_wp2
      go_ret2
      unfold OptB
      rw [HE.out]
      exact ⟨rfl, HK1.out⟩

theorem sNextLeaving_no1 (p n : Int) (W : World) (h : ¬ In p 0 1000000000000) : Calls Tryd.prog 30 #[.int .i64 p, .int .i64 n] W (IntB W 0 false) := by
  go_enter Tryd.func30, Tryd.ntmps30
  go_wp2_with (first | ((with_reducible refine (twFar_no p _ h).mono ?_); rintro e w' ⟨rfl, rfl⟩))
  go_ret2
  exact ⟨rfl, .refl _ _⟩

theorem sNextLeaving_no2 (p n : Int) (W : World) (h : In p 0 1000000000000) (hn : ¬ In n 0 1000000000000) : Calls Tryd.prog 30 #[.int .i64 p, .int .i64 n] W (IntB W 0 false) := by
  go_enter Tryd.func30, Tryd.ntmps30
  go_wp2_with (first | ((with_reducible refine (twFar_yes p _ h).mono ?_); rintro e w' ⟨rfl, rfl⟩) | ((with_reducible refine (twFar_no n _ hn).mono ?_); rintro e w' ⟨rfl, rfl⟩))
  go_ret2
  exact ⟨rfl, .refl _ _⟩

set_option maxHeartbeats 800000 in
theorem iNextLeaving_no1 (p n : Int) (W : World) (h : ¬ In p 0 1000000000000) : Calls Tryd.prog 31 #[.int .i64 p, .int .i64 n] W (IntB W 0 false) := by
  go_enter Tryd.func31, Tryd.ntmps31
  go_wp2_with fail
  refine (iCirclesLeaving_no1 p 1000000000000 _ h).mono ?_
  rintro e w1 ⟨v1, rfl, hs1, hk1⟩
  have HK1 := Lib.hid hk1
  clear hs1 hk1
  go_wp2
  go_ret2
  exact ⟨rfl, HK1.out⟩

set_option maxHeartbeats 800000 in
theorem iNextLeaving_no2 (p : Nat) (n : Int) (W : World) (hP : Pow W) (h : In p 0 1000000000000) (hn : ¬ In n 0 1000000000000) : Calls Tryd.prog 31 #[.int .i64 p, .int .i64 n] W (IntB W 0 false) := by
  go_enter Tryd.func31, Tryd.ntmps31
  go_wp2_with fail
  refine (iCirclesLeaving_yes p 1000000000000 _ hP h (by constructor <;> omega)).mono ?_
  rintro e w1 ⟨v1, rfl, hs1, hk1⟩
  have HK1 := Lib.hid hk1
  have h1 := not_in hn
  clear hs1 hk1
  go_wp2_with (first | ((with_reducible refine (within_no _ _ _ _ (by omega)).mono ?_); rintro e w' ⟨rfl, rfl⟩))
  go_ret2
  exact ⟨rfl, HK1.out⟩

set_option maxHeartbeats 800000 in
theorem lawNextLeaving_of (p : Int) (n : Int) (x : Int) (b : Bool) (W : World)
    (hS : Hid (∀ w, Kp Nw W w → Calls Tryd.prog 30 #[.int .i64 p, .int .i64 n] w (IntB w x b))) (hI : Hid (∀ w, Kp Nw W w → Calls Tryd.prog 31 #[.int .i64 p, .int .i64 n] w (IntB w x b))) :
    Calls Tryd.prog 9 #[.int .i64 p, .int .i64 n] W fun e w' => e = .returned (.bool true) ∧ Kp Nw W w' := by
  go_enter Tryd.func9, Tryd.ntmps9
  go_wp2_with fail
  refine (hS.out _ (.refl _ _)).mono ?_
  rintro e w1 ⟨rfl, hk1⟩
  have HK1 := Lib.hid hk1
  clear hk1
  go_wp2_with fail
  refine (hI.out _ HK1.out).mono ?_
  rintro e w2 ⟨rfl, hk2⟩
  have HK2 := Lib.hid (HK1.out.nw hk2)
  clear hk2
  go_wp2
  go_ret
  exact ⟨rfl, HK2.out⟩

theorem lawNextLeaving (p n : Int) (W : World) (hP : Pow W) :
    Calls Tryd.prog 9 #[.int .i64 p, .int .i64 n] W fun e w' => e = .returned (.bool true) ∧ Kp Nw W w' := by
  by_cases h : In p 0 1000000000000
  · have h1 := h.lo
    obtain ⟨q, rfl⟩ : ∃ q : Nat, p = q := ⟨p.toNat, by omega⟩
    by_cases hn : In n 0 1000000000000
    · exact lawNextLeaving_of q n _ _ W (Lib.hid fun w _ => sNextLeaving_yes q n w h hn) (Lib.hid fun w hk => iNextLeaving_yes q n w (hP.nw hk) h hn)
    · exact lawNextLeaving_of q n _ false W (Lib.hid fun w _ => sNextLeaving_no2 q n w h hn) (Lib.hid fun w hk => iNextLeaving_no2 q n w (hP.nw hk) h hn)
  · exact lawNextLeaving_of p n _ false W (Lib.hid fun w _ => sNextLeaving_no1 p n w h) (Lib.hid fun w _ => iNextLeaving_no1 p n w h)
end Go.Proofs.YteodhoekkeelcaaDoor
