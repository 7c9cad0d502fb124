/- Circles that leave a person (CirclesLeaving, NextLeaving), in the program and in its model: both are the same; no condition but that the world holds the table of powers. -/
import Derived.Test.YteodhoekkeelcaaDoorTwo
namespace Go.Proofs.YteodhoekkeelcaaDoor
open Go.ChangeShapes Go.WideShapes Go.ChangeAt Go.RowKit

/-- of the first j powers those that are greater than m and at most lim less m, and m more each -/
def cl (m lim j : Nat) : List Int := ((List.range j).filter fun i : Nat => decide (m < pw i ∧ pw i + m ≤ lim)).map fun i : Nat => ((pw i + m : Nat) : Int)
theorem cl_yes (m lim j : Nat) (h : m < pw j ∧ pw j + m ≤ lim) : cl m lim (j + 1) = cl m lim j ++ [((pw j + m : Nat) : Int)] := by
  unfold cl
  rw [List.range_succ, List.filter_append]
  simp only [List.filter_cons, decide_eq_true h, List.filter_nil, if_true, List.map_append, List.map_cons, List.map_nil]
theorem cl_no (m lim j : Nat) (h : ¬ (m < pw j ∧ pw j + m ≤ lim)) : cl m lim (j + 1) = cl m lim j := by
  unfold cl
  rw [List.range_succ, List.filter_append]
  simp only [List.filter_cons, decide_eq_false h, List.filter_nil, List.append_nil, if_false, Bool.false_eq_true]
theorem cl_le (m lim j : Nat) : (cl m lim j).length ≤ j := by
  unfold cl
  rw [List.length_map]
  exact Nat.le_trans (List.length_filter_le _ _) (by simp)
theorem pw_mono {i j : Nat} (h : i ≤ j) : pw i ≤ pw j := Nat.pow_le_pow_right (by omega) h
theorem cl_end (m lim j k : Nat) (h : lim < pw j + m) (hk : j ≤ k) : cl m lim k = cl m lim j := by
  induction k with
  | zero => rw [show j = 0 by omega]
  | succ k ih =>
    by_cases e : j = k + 1
    · rw [e]
    · have hm := pw_mono (show j ≤ k by omega)
      rw [cl_no _ _ _ (by omega), ih (by omega)]
theorem pw40 : pw 40 = 1099511627776 := by simp [pw]
/-- the circles for a person, of at most a limit -/
def leav (p lim : Nat) : List Int := if p % 2 = 1 then [] else cl (p / 2) lim 40
theorem leav_le (p lim : Nat) : (leav p lim).length ≤ 40 := by
  unfold leav
  split
  · simp
  · exact cl_le _ _ _

set_option maxRecDepth 100000 in
set_option maxHeartbeats 1600000 in
theorem iLeav_even (p lim : Nat) (W : World) (hP : Pow W) (h : In p 0 1000000000000) (hl : In lim 0 1000000000000) (he : p % 2 = 0) :
    Calls Tryd.prog 29 #[.int .i64 p, .int .i64 lim] W (ListB W (cl (p / 2) lim 40) true) := by
  have h2 := h.hi; have l2 := hl.hi
  obtain ⟨t, fr, hrow⟩ := hP.row
  obtain ⟨m, hm⟩ : ∃ m, p / 2 = m := ⟨_, rfl⟩
  obtain rfl : p = 2 * m := by omega
  have HM := Lib.hid hm
  rw [hm]
  have HR := Lib.hid hrow
  have e0 : ((2 * m : Nat) : Int) % 2 = 0 := by omega
  have e1 : ((2 * m : Nat) : Int) / 2 = m := by omega
  have m2 : (m : Int) ≤ 1000000000000 := by omega
  have m0 : (0 : Int) ≤ m := Int.natCast_nonneg _
  have E0 := Lib.hid e0; have E1 := Lib.hid e1
  obtain ⟨P, hPe⟩ : ∃ P : Int, ((2 * m : Nat) : Int) = P := ⟨_, rfl⟩
  rw [hPe] at h h2 e0 e1 ⊢
  have P0 : 0 ≤ P := by omega
  clear hrow hP he hm hPe E0 E1
  go_enter Tryd.func29, Tryd.ntmps29
  go_wp2_with (first | ((with_reducible refine (within_yes _ _ _ _ (by omega) (by omega)).mono ?_); rintro e w' ⟨rfl, rfl⟩) | (refine wpList_load_row rfl 52 _ rfl 0 rfl t powA fr _ HR.out Tryd.underlying52 rfl (by rw [powA_size]; exact pwInfo) ?_))
  have E1 := Lib.hid e1
  clear e0 e1
  go_loopw [6, 8, 9, 22] (fun s _ _ i wr => ∃ (j : Nat) (v : Value), j ≤ 40 ∧ i = .int .i64 j ∧ v = s ∧ Sl wr W.heap.size v (cl m lim j) ∧ Kp Nw W wr) (fun _ _ _ i _ => 40 - (intOf i).toNat)
  case atStart => exact ⟨0, _, Nat.zero_le _, rfl, rfl, by simpa [cl] using Sl.nil _ _, .refl _ _⟩
  case round =>
    rename_i wr
    obtain ⟨j, v, hj, rfl, rfl, hs, hk⟩ := hrel
    have HS := Lib.hid hs
    have HK := Lib.hid hk
    clear hs hk
    have j0 : (0 : Int) ≤ j := Int.natCast_nonneg _
    by_cases hlt : j < 40
    · have r := pow_run j hlt
      have j1 : (j : Int) < 40 := by omega
      have hb := pw_bd j (by omega)
      have cle := cl_le m lim j
      have e1 := E1.out
      by_cases hc : m < pw j ∧ pw j + m ≤ lim
      · have HE := Lib.hid (cl_yes m lim j hc)
        obtain ⟨c1, c2⟩ := hc
        go_wp2_with (first | (at_builtin; refine wpList_app _ rfl (.tmp 37) (.tmp 41) rfl W.heap.size v _ (cl m lim j) [((pw j + m : Nat) : Int)] rfl rfl (HS.out.below (Kp.al _ _).below') (Rd.one (g := wr.heap.size) (by simp)) nil_one (by simp; omega) (by have := HK.out.size; simp; omega) ?_))
        intro v' w4 hs4 hk4 _
        have HS4 := Lib.hid hs4
        have HK4 := Lib.hid ((HK.out.nw (.al _ _)).own (HS.out.below (Kp.al _ _).below') hk4)
        clear hs4 hk4
        go_wp2
        go_roundw
        case rel => exact ⟨j + 1, v', by omega, by go_num, rfl, by rw [HE.out]; exact HS4.out, HK4.out⟩
        case measure => simp [intOf]; omega
      · have HE := Lib.hid (cl_no m lim j hc)
        by_cases c1 : m < pw j
        · have c2 : ¬ pw j + m ≤ lim := fun c => hc ⟨c1, c⟩
          clear hc
          go_wp2
          go_roundw
          case rel => exact ⟨j + 1, v, by omega, by go_num, rfl, by rw [HE.out]; exact HS.out, HK.out⟩
          case measure => simp [intOf]; omega
        · clear hc
          go_wp2
          go_roundw
          case rel => exact ⟨j + 1, v, by omega, by go_num, rfl, by rw [HE.out]; exact HS.out, HK.out⟩
          case measure => simp [intOf]; omega
    · have e : j = 40 := by omega
      subst e
      go_wp2
      go_ret2
      exact ⟨v, rfl, HS.out, HK.out⟩

set_option maxHeartbeats 800000 in
theorem iLeav_odd (p : Nat) (lim : Nat) (W : World) (h : In p 0 1000000000000) (hl : In lim 0 1000000000000) (he : p % 2 = 1) :
    Calls Tryd.prog 29 #[.int .i64 p, .int .i64 lim] W (ListB W [] true) := by
  have h1 := h.lo; have h2 := h.hi; have l1 := hl.lo; have l2 := hl.hi
  have e0 : (p : Int) % 2 = 1 := by omega
  clear he
  go_enter Tryd.func29, Tryd.ntmps29
  go_wp2_with (first | ((with_reducible refine (within_yes _ _ _ _ (by omega) (by omega)).mono ?_); rintro e w' ⟨rfl, rfl⟩))
  go_ret2
  exact listB_nil _ _

theorem iCirclesLeaving_yes (p lim : Nat) (W : World) (hP : Pow W) (h : In p 0 1000000000000) (hl : In lim 0 1000000000000) :
    Calls Tryd.prog 29 #[.int .i64 p, .int .i64 lim] W (ListB W (leav p lim) true) := by
  by_cases he : p % 2 = 1
  · have e : leav p lim = [] := by simp [leav, he]
    rw [e]; exact iLeav_odd p lim W h hl he
  · have e : leav p lim = cl (p / 2) lim 40 := by simp [leav, he]
    rw [e]; exact iLeav_even p lim W hP h hl (by omega)

theorem iCirclesLeaving_no1 (p lim : Int) (W : World) (h : ¬ In p 0 1000000000000) :
    Calls Tryd.prog 29 #[.int .i64 p, .int .i64 lim] W (ListB W [] false) := by
  have h1 := not_in h
  go_enter Tryd.func29, Tryd.ntmps29
  go_wp2_with (first | ((with_reducible refine (within_no _ _ _ _ (by omega)).mono ?_); rintro e w' ⟨rfl, rfl⟩))
  go_ret2
  exact listB_nil _ _

theorem iCirclesLeaving_no2 (p lim : Int) (W : World) (h : In p 0 1000000000000) (hl : ¬ In lim 0 1000000000000) :
    Calls Tryd.prog 29 #[.int .i64 p, .int .i64 lim] W (ListB W [] false) := by
  have h1 := h.lo; have h2 := h.hi; have l1 := not_in hl
  go_enter Tryd.func29, Tryd.ntmps29
  go_wp2_with (first | ((with_reducible refine (within_yes p _ _ _ (by omega) (by omega)).mono ?_); rintro e w' ⟨rfl, rfl⟩) | ((with_reducible refine (within_no lim _ _ _ (by omega)).mono ?_); rintro e w' ⟨rfl, rfl⟩))
  go_ret2
  exact listB_nil _ _

set_option maxRecDepth 100000 in
set_option maxHeartbeats 1600000 in
theorem twLeaving_even (p lim : Nat) (W : World) (h : In p 0 1000000000000) (hl : In lim 0 1000000000000) (he : p % 2 = 0) :
    Calls Tryd.prog 50 #[.int .i64 p, .int .i64 lim] W (Makes W (cl (p / 2) lim 40)) := by
  have h2 := h.hi; have l2 := hl.hi
  obtain ⟨m, hm⟩ : ∃ m, p / 2 = m := ⟨_, rfl⟩
  obtain rfl : p = 2 * m := by omega
  rw [hm]
  have e0 : ((2 * m : Nat) : Int) % 2 = 0 := by omega
  have e1 : ((2 * m : Nat) : Int) / 2 = m := by omega
  have m2 : (m : Int) ≤ 1000000000000 := by omega
  have m0 : (0 : Int) ≤ m := Int.natCast_nonneg _
  obtain ⟨P, hPe⟩ : ∃ P : Int, ((2 * m : Nat) : Int) = P := ⟨_, rfl⟩
  rw [hPe] at h h2 e0 e1 ⊢
  have P0 : 0 ≤ P := by omega
  clear he hm hPe
  go_enter Tryd.func50, Tryd.ntmps50
  go_wp2
  have E1 := Lib.hid e1
  clear e0 e1
  go_loopw [5, 6] (fun s q wr => ∃ (j : Nat) (v : Value), j ≤ 40 ∧ q = .int .i64 (pw j) ∧ v = s ∧ Sl wr W.heap.size v (cl m lim j) ∧ Kp Nw W wr) (fun _ q _ => 1099511627776 - (intOf q).toNat)
  case atStart => exact ⟨0, _, Nat.zero_le _, rfl, rfl, by simpa [cl] using Sl.nil _ _, .refl _ _⟩
  case round =>
    rename_i wr
    obtain ⟨j, v, hj, rfl, rfl, hs, hk⟩ := hrel
    have HS := Lib.hid hs
    have HK := Lib.hid hk
    clear hs hk
    have hb := pw_bd j hj
    have cle := cl_le m lim j
    have HC := Lib.hid (pw_succ j)
    have e1 := E1.out
    by_cases hlt : pw j + m ≤ lim
    · have j1 : j < 40 := by
        rcases Nat.lt_or_ge j 40 with g | g
        · exact g
        · have := pw_mono g; rw [pw40] at this; omega
      by_cases hc : m < pw j
      · have HE := Lib.hid (cl_yes m lim j ⟨hc, hlt⟩)
        go_wp2_with (first | (at_builtin; refine wpList_app _ rfl (.tmp 22) (.tmp 27) rfl W.heap.size v _ (cl m lim j) [((pw j + m : Nat) : Int)] rfl rfl (HS.out.below (Kp.al _ _).below') (Rd.one (g := wr.heap.size) (by simp)) nil_one (by simp; omega) (by have := HK.out.size; simp; omega) ?_))
        intro v' w4 hs4 hk4 _
        have HS4 := Lib.hid hs4
        have HK4 := Lib.hid ((HK.out.nw (.al _ _)).own (HS.out.below (Kp.al _ _).below') hk4)
        clear hs4 hk4
        go_wp2
        go_roundw
        case rel => exact ⟨j + 1, v', by omega, by rw [HC.out]; go_num, rfl, by rw [HE.out]; exact HS4.out, HK4.out⟩
        case measure => simp [intOf]; omega
      · have HE := Lib.hid (cl_no m lim j (fun c => hc c.1))
        go_wp2
        go_roundw
        case rel => exact ⟨j + 1, v, by omega, by rw [HC.out]; go_num, rfl, by rw [HE.out]; exact HS.out, HK.out⟩
        case measure => simp [intOf]; omega
    · have HE := Lib.hid (cl_end m lim j 40 (by omega) hj)
      go_wp2
      go_ret
      exact ⟨v, rfl, by rw [HE.out]; exact HS.out, HK.out⟩

theorem twLeaving_odd (p : Nat) (lim : Nat) (W : World) (h : In p 0 1000000000000) (he : p % 2 = 1) :
    Calls Tryd.prog 50 #[.int .i64 p, .int .i64 lim] W (Makes W []) := by
  have h1 := h.lo; have h2 := h.hi
  have e0 : (p : Int) % 2 = 1 := by omega
  clear he
  go_enter Tryd.func50, Tryd.ntmps50
  go_wp2
  go_ret
  exact ⟨_, rfl, Sl.nil _ _, .refl _ _⟩

theorem twLeaving_any (p lim : Nat) (W : World) (h : In p 0 1000000000000) (hl : In lim 0 1000000000000) :
    Calls Tryd.prog 50 #[.int .i64 p, .int .i64 lim] W (Makes W (leav p lim)) := by
  by_cases he : p % 2 = 1
  · have e : leav p lim = [] := by simp [leav, he]
    rw [e]; exact twLeaving_odd p lim W h he
  · have e : leav p lim = cl (p / 2) lim 40 := by simp [leav, he]
    rw [e]; exact twLeaving_even p lim W h hl (by omega)

set_option maxHeartbeats 800000 in
theorem sCirclesLeaving_yes (p lim : Nat) (W : World) (h : In p 0 1000000000000) (hl : In lim 0 1000000000000) :
    Calls Tryd.prog 28 #[.int .i64 p, .int .i64 lim] W (ListB W (leav p lim) true) := by
  go_enter Tryd.func28, Tryd.ntmps28
  go_wp2_with (first | ((with_reducible refine (twFar_yes p _ h).mono ?_); rintro e w' ⟨rfl, rfl⟩) | ((with_reducible refine (twFar_yes lim _ hl).mono ?_); rintro e w' ⟨rfl, rfl⟩))
  refine (twLeaving_any p lim _ h hl).mono ?_
  rintro e w1 ⟨v1, rfl, hs1, hk1⟩
  have HS1 := Lib.hid hs1; have HK1 := Lib.hid hk1; clear hs1 hk1
  go_wp2
  go_ret2
  exact ⟨v1, rfl, HS1.out, HK1.out⟩

theorem sCirclesLeaving_no1 (p lim : Int) (W : World) (h : ¬ In p 0 1000000000000) :
    Calls Tryd.prog 28 #[.int .i64 p, .int .i64 lim] W (ListB W [] false) := by
  go_enter Tryd.func28, Tryd.ntmps28
  go_wp2_with (first | ((with_reducible refine (twFar_no p _ h).mono ?_); rintro e w' ⟨rfl, rfl⟩))
  go_ret2
  exact listB_nil _ _

theorem sCirclesLeaving_no2 (p lim : Int) (W : World) (h : In p 0 1000000000000) (hl : ¬ In lim 0 1000000000000) :
    Calls Tryd.prog 28 #[.int .i64 p, .int .i64 lim] W (ListB W [] false) := by
  go_enter Tryd.func28, Tryd.ntmps28
  go_wp2_with (first | ((with_reducible refine (twFar_yes p _ h).mono ?_); rintro e w' ⟨rfl, rfl⟩) | ((with_reducible refine (twFar_no lim _ hl).mono ?_); rintro e w' ⟨rfl, rfl⟩))
  go_ret2
  exact listB_nil _ _

set_option maxHeartbeats 1600000 in
theorem lawCirclesLeaving_of (p : Int) (lim : Int) (xs : List Int) (b : Bool) (W : World) (hlen : xs.length ≤ 1000000)
    (hS : Hid (∀ w, Kp Nw W w → Calls Tryd.prog 28 #[.int .i64 p, .int .i64 lim] w (ListB w xs b))) (hI : Hid (∀ w, Kp Nw W w → Calls Tryd.prog 29 #[.int .i64 p, .int .i64 lim] w (ListB w xs b))) :
    Calls Tryd.prog 8 #[.int .i64 p, .int .i64 lim] W fun e w' => e = .returned (.bool true) ∧ Kp Nw W w' := by
  obtain ⟨n, hn⟩ : ∃ n, xs.length = n := ⟨_, rfl⟩
  have HL : Hid (xs.length ≤ maxLen) := Lib.hid (by unfold maxLen; omega)
  have hlen : n ≤ 1000000 := by omega
  have hn0 : (0 : Int) ≤ n := Int.natCast_nonneg _
  have HN := Lib.hid hn
  clear hn
  go_enter Tryd.func8, Tryd.ntmps8
  go_wp2_with fail
  refine (hS.out _ (.refl _ _)).mono ?_
  rintro e w1 ⟨v1, rfl, hs1, hk1⟩
  obtain ⟨A1, c1, rfl⟩ := hs1.val HN.out
  have HS1 := Lib.hid hs1; have HK1 := Lib.hid hk1; clear hs1 hk1
  go_wp2_with fail
  refine (hI.out _ HK1.out).mono ?_
  rintro e w2 ⟨v2, rfl, hs2, hk2⟩
  obtain ⟨A2, c2, rfl⟩ := hs2.val HN.out
  have O1 := Lib.hid HS1.out.own_ge
  have O2 := Lib.hid hs2.own_ge
  have HS1 := Lib.hid (HS1.out.below hk2.below')
  have HS2 := Lib.hid hs2; have HK2 := Lib.hid (HK1.out.nw hk2); have z2 := hk2.size; clear hs2 hk2
  go_wp2_with fail
  refine (eqIntS_same _ _ xs _ HS2.out.rd HS1.out.rd HL.out).mono ?_
  rintro e w3 ⟨rfl, d1, rfl⟩
  go_wp2_with fail
  refine (markIntS_any _ xs 1 _ _ (HS2.out.drewN d1) (by omega) (by omega) (by rw [HN.out]; omega)).mono ?_
  rintro e w4 ⟨rfl, hs4, hk4⟩
  rw [HN.out] at hs4 ⊢
  have HS1 := Lib.hid ((HS1.out.drewN d1).kp hk4 (fun g a b => by have := (O1.out g a).2; have := (O2.out g b).1; omega))
  have HS4 := Lib.hid hs4
  have HK4 := Lib.hid ((HK2.out.drewN d1).after hk4 (fun g hg b => by have := (O2.out g b).1; have := HK1.out.size; omega))
  clear hs4 hk4
  go_wp2_with fail
  refine (heldIntS_any _ 1 n _ HS4.out.rd (by omega) (by omega) (by omega)).mono ?_
  rintro e w5 ⟨rfl, rfl⟩
  go_wp2_with fail
  refine (hI.out _ HK4.out).mono ?_
  rintro e w6 ⟨v6, rfl, hs6, hk6⟩
  obtain ⟨A6, c6, rfl⟩ := hs6.val HN.out
  have HS4 := Lib.hid (HS4.out.below hk6.below')
  have HS1 := Lib.hid (HS1.out.below hk6.below')
  have HK6 := Lib.hid (HK4.out.nw hk6)
  have HS6 := Lib.hid hs6
  clear hs6 hk6
  go_wp2_with fail
  refine (eqIntS_same _ _ xs _ HS6.out.rd HS1.out.rd HL.out).mono ?_
  rintro e w7 ⟨rfl, d2, rfl⟩
  go_wp2_with fail
  refine (heldIntS_any _ 1 n _ (HS4.out.drewN d2).rd (by omega) (by omega) (by omega)).mono ?_
  rintro e w8 ⟨rfl, rfl⟩
  go_wp2
  go_ret
  exact ⟨rfl, HK6.out.drewN d2⟩

theorem lawCirclesLeaving (p lim : Int) (W : World) (hP : Pow W) :
    Calls Tryd.prog 8 #[.int .i64 p, .int .i64 lim] W fun e w' => e = .returned (.bool true) ∧ Kp Nw W w' := by
  by_cases h : In p 0 1000000000000
  · by_cases hl : In lim 0 1000000000000
    · have h1 := h.lo; have l1 := hl.lo
      obtain ⟨n, rfl⟩ : ∃ n : Nat, p = n := ⟨p.toNat, by omega⟩
      obtain ⟨k, rfl⟩ : ∃ k : Nat, lim = k := ⟨lim.toNat, by omega⟩
      exact lawCirclesLeaving_of n k (leav n k) true W (by have := leav_le n k; omega) (Lib.hid fun w _ => sCirclesLeaving_yes n k w h hl) (Lib.hid fun w hk => iCirclesLeaving_yes n k w (hP.nw hk) h hl)
    · exact lawCirclesLeaving_of p lim [] false W (by simp) (Lib.hid fun w _ => sCirclesLeaving_no2 p lim w h hl) (Lib.hid fun w hk => iCirclesLeaving_no2 p lim w h hl)
  · exact lawCirclesLeaving_of p lim [] false W (by simp) (Lib.hid fun w _ => sCirclesLeaving_no1 p lim w h) (Lib.hid fun w hk => iCirclesLeaving_no1 p lim w h)
end Go.Proofs.YteodhoekkeelcaaDoor
