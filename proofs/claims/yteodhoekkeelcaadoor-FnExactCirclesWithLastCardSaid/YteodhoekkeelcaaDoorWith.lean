/- Circles in which the last person is left (CirclesWithLast) and chains of numbers (ChainOf), in the program and in its model: both are the same; no condition but that the world holds the table of powers. -/
import Derived.Test.YteodhoekkeelcaaDoorTwo
namespace Go.Proofs.YteodhoekkeelcaaDoor
open Go.ChangeShapes Go.WideShapes Go.ChangeAt Go.RowKit

/-- of j numbers of people from a on those for which the last person is left -/
def wl (a j : Nat) : List Int := ((List.range j).filter fun i : Nat => decide (tl (a + i) + 1 = a + i)).map fun i : Nat => ((a + i : Nat) : Int)
theorem wl_yes (a q : Nat) (hq : a ≤ q) (h : tl q + 1 = q) : wl a (q + 1 - a) = wl a (q - a) ++ [(q : Int)] := by
  obtain ⟨j, rfl⟩ : ∃ j, q = a + j := ⟨q - a, by omega⟩
  rw [show a + j + 1 - a = j + 1 by omega, show a + j - a = j by omega]
  unfold wl
  rw [List.range_succ, List.filter_append]
  simp only [List.filter_cons, decide_eq_true h, List.filter_nil, if_true, List.map_append, List.map_cons, List.map_nil]
theorem wl_no (a q : Nat) (hq : a ≤ q) (h : ¬ tl q + 1 = q) : wl a (q + 1 - a) = wl a (q - a) := by
  obtain ⟨j, rfl⟩ : ∃ j, q = a + j := ⟨q - a, by omega⟩
  rw [show a + j + 1 - a = j + 1 by omega, show a + j - a = j by omega]
  unfold wl
  rw [List.range_succ, List.filter_append]
  simp only [List.filter_cons, decide_eq_false h, List.filter_nil, List.append_nil, if_false, Bool.false_eq_true]
theorem wl_le (a j : Nat) : (wl a j).length ≤ j := by
  unfold wl
  rw [List.length_map]
  exact Nat.le_trans (List.length_filter_le _ _) (by simp)

set_option maxRecDepth 100000 in
set_option maxHeartbeats 1600000 in
theorem sCirclesWithLast_yes (a c : Nat) (W : World) (h : In a 1 1000000000000) (hc : c ≤ 200) (hs : a + c ≤ 1000000000001) :
    Calls Tryd.prog 32 #[.int .i64 a, .int .i64 c] W (ListB W (wl a c) true) := by
  have h1 := h.lo; have h2 := h.hi
  have c0 : (0 : Int) ≤ c := Int.natCast_nonneg _
  have c1 : (c : Int) ≤ 200 := by omega
  have s1 : (a : Int) + c ≤ 1000000000001 := by omega
  go_enter Tryd.func32, Tryd.ntmps32
  go_wp2_with (first | ((with_reducible refine (twGood_yes _ _ h).mono ?_); rintro e w' ⟨rfl, rfl⟩) | ((with_reducible refine (l1In_yes _ _ _ _ (by omega) (by omega)).mono ?_); rintro e w' ⟨rfl, rfl⟩))
  go_loopw [6, 7] (fun s i wr => ∃ (q : Nat) (v : Value), a ≤ q ∧ q ≤ a + c ∧ i = .int .i64 q ∧ v = s ∧ Sl wr W.heap.size v (wl a (q - a)) ∧ Kp Nw W wr) (fun _ i _ => a + c - (intOf i).toNat)
  case atStart => exact ⟨a, _, Nat.le_refl _, by omega, rfl, rfl, by simpa [wl] using Sl.nil _ _, .refl _ _⟩
  case round =>
    rename_i wr
    obtain ⟨q, v, hq1, hq2, rfl, rfl, hs, hk⟩ := hrel
    have HS := Lib.hid hs
    have HK := Lib.hid hk
    clear hs hk
    have q0 : (a : Int) ≤ q := by omega
    have wle := wl_le a (q - a)
    have tq := gp_le q (by omega)
    have tq2 := gp_pos q
    by_cases hlt : q < a + c
    · have q1 : (q : Int) < a + c := by omega
      by_cases hc : tl q + 1 = q
      · have HE := Lib.hid (wl_yes a q hq1 hc)
        have e : ((tl q : Int) == (q : Int) - 1) = true := by simp; omega
        clear hc
        go_wp2_with (first | ((with_reducible refine (sTl_any q _ (by constructor <;> omega)).mono ?_); rintro e w' ⟨rfl, rfl⟩) | (at_builtin; refine wpList_app _ rfl (.tmp 36) (.tmp 38) rfl W.heap.size v _ (wl a (q - a)) [(q : Int)] rfl rfl (HS.out.below (Kp.al _ _).below') (Rd.one (g := wr.heap.size) (by simp)) nil_one (by simp; omega) (by have := HK.out.size; simp; omega) ?_))
        intro v' w4 hs4 hk4 _
        have HS4 := Lib.hid hs4
        have HK4 := Lib.hid ((HK.out.nw (.al _ _)).own (HS.out.below (Kp.al _ _).below') hk4)
        clear hs4 hk4
        go_wp2
        go_roundw
        case rel => exact ⟨q + 1, v', by omega, by omega, by go_num, rfl, by rw [HE.out]; exact HS4.out, HK4.out⟩
        case measure => simp [intOf]; omega
      · have HE := Lib.hid (wl_no a q hq1 hc)
        have e : ((tl q : Int) == (q : Int) - 1) = false := by simp; omega
        clear hc
        go_wp2_with (first | ((with_reducible refine (sTl_any q _ (by constructor <;> omega)).mono ?_); rintro e w' ⟨rfl, rfl⟩))
        go_roundw
        case rel => exact ⟨q + 1, v, by omega, by omega, by go_num, rfl, by rw [HE.out]; exact HS.out, HK.out⟩
        case measure => simp [intOf]; omega
    · have e : q = a + c := by omega
      have HE : Hid (wl a (q - a) = wl a c) := Lib.hid (by rw [e]; congr 1; omega)
      clear e
      have q1 : (q : Int) = a + c := by omega
      have q2 : (a : Int) + c ≤ q := by omega
      clear q1
      go_wp2
      go_ret2
      exact ⟨v, rfl, by rw [← HE.out]; exact HS.out, HK.out⟩

theorem sCirclesWithLast_no1 (a c : Int) (W : World) (h : ¬ In a 1 1000000000000) : Calls Tryd.prog 32 #[.int .i64 a, .int .i64 c] W (ListB W [] false) := by
  go_enter Tryd.func32, Tryd.ntmps32
  go_wp2_with (first | ((with_reducible refine (twGood_no _ _ h).mono ?_); rintro e w' ⟨rfl, rfl⟩))
  go_ret2
  exact listB_nil _ _

theorem sCirclesWithLast_no2 (a c : Int) (W : World) (h : In a 1 1000000000000) (hc : ¬ In c 0 200) : Calls Tryd.prog 32 #[.int .i64 a, .int .i64 c] W (ListB W [] false) := by
  have h1 := not_in hc
  go_enter Tryd.func32, Tryd.ntmps32
  go_wp2_with (first | ((with_reducible refine (twGood_yes _ _ h).mono ?_); rintro e w' ⟨rfl, rfl⟩) | ((with_reducible refine (l1In_no c _ _ _ (by omega)).mono ?_); rintro e w' ⟨rfl, rfl⟩))
  go_ret2
  exact listB_nil _ _

theorem sCirclesWithLast_no3 (a c : Int) (W : World) (h : In a 1 1000000000000) (hc : In c 0 200) (hs : 1000000000001 < a + c) : Calls Tryd.prog 32 #[.int .i64 a, .int .i64 c] W (ListB W [] false) := by
  have h1 := h.lo; have h2 := h.hi; have c1 := hc.lo; have c2 := hc.hi
  go_enter Tryd.func32, Tryd.ntmps32
  go_wp2_with (first | ((with_reducible refine (twGood_yes _ _ h).mono ?_); rintro e w' ⟨rfl, rfl⟩) | ((with_reducible refine (l1In_yes c _ _ _ (by omega) (by omega)).mono ?_); rintro e w' ⟨rfl, rfl⟩))
  go_ret2
  exact listB_nil _ _

set_option maxRecDepth 100000 in
set_option maxHeartbeats 1600000 in
theorem iCirclesWithLast_yes (a c : Nat) (W : World) (hP : Pow W) (h : In a 1 1000000000000) (hc : c ≤ 200) (hs : a + c ≤ 1000000000001) :
    Calls Tryd.prog 33 #[.int .i64 a, .int .i64 c] W (ListB W (wl a c) true) := by
  have h1 := h.lo; have h2 := h.hi
  have c0 : (0 : Int) ≤ c := Int.natCast_nonneg _
  have c1 : (c : Int) ≤ 200 := by omega
  have s1 : (a : Int) + c ≤ 1000000000001 := by omega
  go_enter Tryd.func33, Tryd.ntmps33
  go_wp2_with (first | ((with_reducible refine (isMany_yes _ _ h).mono ?_); rintro e w' ⟨rfl, rfl⟩) | ((with_reducible refine (within_yes _ _ _ _ (by omega) (by omega)).mono ?_); rintro e w' ⟨rfl, rfl⟩))
  go_loopw [6, 7] (fun s i wr => ∃ (q : Nat) (v : Value), a ≤ q ∧ q ≤ a + c ∧ i = .int .i64 q ∧ v = s ∧ Sl wr W.heap.size v (wl a (q - a)) ∧ Kp Nw W wr) (fun _ i _ => a + c - (intOf i).toNat)
  case atStart => exact ⟨a, _, Nat.le_refl _, by omega, rfl, rfl, by simpa [wl] using Sl.nil _ _, .refl _ _⟩
  case round =>
    rename_i wr
    obtain ⟨q, v, hq1, hq2, rfl, rfl, hs, hk⟩ := hrel
    have HS := Lib.hid hs
    have HK := Lib.hid hk
    clear hs hk
    have q0 : (a : Int) ≤ q := by omega
    have wle := wl_le a (q - a)
    have tq := gp_le q (by omega)
    have tq2 := gp_pos q
    by_cases hlt : q < a + c
    · have q1 : (q : Int) < a + c := by omega
      by_cases hc : tl q + 1 = q
      · have HE := Lib.hid (wl_yes a q hq1 hc)
        have e : ((tl q : Int) == (q : Int) - 1) = true := by simp; omega
        clear hc
        go_wp2_with (first | ((with_reducible refine (iTl_any q _ (hP.nw HK.out) (by constructor <;> omega)).mono ?_); rintro e w' ⟨rfl, rfl⟩) | (at_builtin; refine wpList_app _ rfl (.tmp 36) (.tmp 38) rfl W.heap.size v _ (wl a (q - a)) [(q : Int)] rfl rfl (HS.out.below (Kp.al _ _).below') (Rd.one (g := wr.heap.size) (by simp)) nil_one (by simp; omega) (by have := HK.out.size; simp; omega) ?_))
        intro v' w4 hs4 hk4 _
        have HS4 := Lib.hid hs4
        have HK4 := Lib.hid ((HK.out.nw (.al _ _)).own (HS.out.below (Kp.al _ _).below') hk4)
        clear hs4 hk4
        go_wp2
        go_roundw
        case rel => exact ⟨q + 1, v', by omega, by omega, by go_num, rfl, by rw [HE.out]; exact HS4.out, HK4.out⟩
        case measure => simp [intOf]; omega
      · have HE := Lib.hid (wl_no a q hq1 hc)
        have e : ((tl q : Int) == (q : Int) - 1) = false := by simp; omega
        clear hc
        go_wp2_with (first | ((with_reducible refine (iTl_any q _ (hP.nw HK.out) (by constructor <;> omega)).mono ?_); rintro e w' ⟨rfl, rfl⟩))
        go_roundw
        case rel => exact ⟨q + 1, v, by omega, by omega, by go_num, rfl, by rw [HE.out]; exact HS.out, HK.out⟩
        case measure => simp [intOf]; omega
    · have e : q = a + c := by omega
      have HE : Hid (wl a (q - a) = wl a c) := Lib.hid (by rw [e]; congr 1; omega)
      clear e
      have q1 : (q : Int) = a + c := by omega
      have q2 : (a : Int) + c ≤ q := by omega
      clear q1
      go_wp2
      go_ret2
      exact ⟨v, rfl, by rw [← HE.out]; exact HS.out, HK.out⟩

theorem iCirclesWithLast_no1 (a c : Int) (W : World) (h : ¬ In a 1 1000000000000) : Calls Tryd.prog 33 #[.int .i64 a, .int .i64 c] W (ListB W [] false) := by
  go_enter Tryd.func33, Tryd.ntmps33
  go_wp2_with (first | ((with_reducible refine (isMany_no _ _ h).mono ?_); rintro e w' ⟨rfl, rfl⟩))
  go_ret2
  exact listB_nil _ _

theorem iCirclesWithLast_no2 (a c : Int) (W : World) (h : In a 1 1000000000000) (hc : ¬ In c 0 200) : Calls Tryd.prog 33 #[.int .i64 a, .int .i64 c] W (ListB W [] false) := by
  have h1 := not_in hc
  go_enter Tryd.func33, Tryd.ntmps33
  go_wp2_with (first | ((with_reducible refine (isMany_yes _ _ h).mono ?_); rintro e w' ⟨rfl, rfl⟩) | ((with_reducible refine (within_no c _ _ _ (by omega)).mono ?_); rintro e w' ⟨rfl, rfl⟩))
  go_ret2
  exact listB_nil _ _

theorem iCirclesWithLast_no3 (a c : Int) (W : World) (h : In a 1 1000000000000) (hc : In c 0 200) (hs : 1000000000001 < a + c) : Calls Tryd.prog 33 #[.int .i64 a, .int .i64 c] W (ListB W [] false) := by
  have h1 := h.lo; have h2 := h.hi; have c1 := hc.lo; have c2 := hc.hi
  go_enter Tryd.func33, Tryd.ntmps33
  go_wp2_with (first | ((with_reducible refine (isMany_yes _ _ h).mono ?_); rintro e w' ⟨rfl, rfl⟩) | ((with_reducible refine (within_yes c _ _ _ (by omega) (by omega)).mono ?_); rintro e w' ⟨rfl, rfl⟩))
  go_ret2
  exact listB_nil _ _

set_option maxHeartbeats 1600000 in
theorem lawCirclesWithLast_of (a : Int) (c : Int) (xs : List Int) (b : Bool) (W : World) (hlen : xs.length ≤ 1000000)
    (hS : Hid (∀ w, Kp Nw W w → Calls Tryd.prog 32 #[.int .i64 a, .int .i64 c] w (ListB w xs b))) (hI : Hid (∀ w, Kp Nw W w → Calls Tryd.prog 33 #[.int .i64 a, .int .i64 c] w (ListB w xs b))) :
    Calls Tryd.prog 10 #[.int .i64 a, .int .i64 c] W fun e w' => e = .returned (.bool true) ∧ Kp Nw W w' := by
  obtain ⟨n, hn⟩ : ∃ n, xs.length = n := ⟨_, rfl⟩
  have HL : Hid (xs.length ≤ maxLen) := Lib.hid (by unfold maxLen; omega)
  have hlen : n ≤ 1000000 := by omega
  have hn0 : (0 : Int) ≤ n := Int.natCast_nonneg _
  have HN := Lib.hid hn
  clear hn
  go_enter Tryd.func10, Tryd.ntmps10
  go_wp2_with fail
  refine (hS.out _ (.refl _ _)).mono ?_
  rintro e w1 ⟨v1, rfl, hs1, hk1⟩
  obtain ⟨A1, c1, rfl⟩ := hs1.val HN.out
  have HS1 := Lib.hid hs1; have HK1 := Lib.hid hk1; clear hs1 hk1
  go_wp2_with fail
  refine (hI.out _ HK1.out).mono ?_
  rintro e w2 ⟨v2, rfl, hs2, hk2⟩
  obtain ⟨A2, c2, rfl⟩ := hs2.val HN.out
  have O1 := Lib.hid HS1.out.own_ge
  have O2 := Lib.hid hs2.own_ge
  have HS1 := Lib.hid (HS1.out.below hk2.below')
  have HS2 := Lib.hid hs2; have HK2 := Lib.hid (HK1.out.nw hk2); have z2 := hk2.size; clear hs2 hk2
  go_wp2_with fail
  refine (eqIntS_same _ _ xs _ HS2.out.rd HS1.out.rd HL.out).mono ?_
  rintro e w3 ⟨rfl, d1, rfl⟩
  go_wp2_with fail
  refine (markIntS_any _ xs 1 _ _ (HS2.out.drewN d1) (by omega) (by omega) (by rw [HN.out]; omega)).mono ?_
  rintro e w4 ⟨rfl, hs4, hk4⟩
  rw [HN.out] at hs4 ⊢
  have HS1 := Lib.hid ((HS1.out.drewN d1).kp hk4 (fun g a b => by have := (O1.out g a).2; have := (O2.out g b).1; omega))
  have HS4 := Lib.hid hs4
  have HK4 := Lib.hid ((HK2.out.drewN d1).after hk4 (fun g hg b => by have := (O2.out g b).1; have := HK1.out.size; omega))
  clear hs4 hk4
  go_wp2_with fail
  refine (heldIntS_any _ 1 n _ HS4.out.rd (by omega) (by omega) (by omega)).mono ?_
  rintro e w5 ⟨rfl, rfl⟩
  go_wp2_with fail
  refine (hI.out _ HK4.out).mono ?_
  rintro e w6 ⟨v6, rfl, hs6, hk6⟩
  obtain ⟨A6, c6, rfl⟩ := hs6.val HN.out
  have HS4 := Lib.hid (HS4.out.below hk6.below')
  have HS1 := Lib.hid (HS1.out.below hk6.below')
  have HK6 := Lib.hid (HK4.out.nw hk6)
  have HS6 := Lib.hid hs6
  clear hs6 hk6
  go_wp2_with fail
  refine (eqIntS_same _ _ xs _ HS6.out.rd HS1.out.rd HL.out).mono ?_
  rintro e w7 ⟨rfl, d2, rfl⟩
  go_wp2_with fail
  refine (heldIntS_any _ 1 n _ (HS4.out.drewN d2).rd (by omega) (by omega) (by omega)).mono ?_
  rintro e w8 ⟨rfl, rfl⟩
  go_wp2
  go_ret
  exact ⟨rfl, HK6.out.drewN d2⟩

theorem lawCirclesWithLast (a c : Int) (W : World) (hP : Pow W) :
    Calls Tryd.prog 10 #[.int .i64 a, .int .i64 c] W fun e w' => e = .returned (.bool true) ∧ Kp Nw W w' := by
  by_cases h : In a 1 1000000000000
  · by_cases hc : In c 0 200
    · have h1 := h.lo; have c1 := hc.lo; have c2 := hc.hi
      by_cases hs : 1000000000001 < a + c
      · exact lawCirclesWithLast_of a c [] false W (by simp) (Lib.hid fun w _ => sCirclesWithLast_no3 a c w h hc hs) (Lib.hid fun w hk => iCirclesWithLast_no3 a c w h hc hs)
      · obtain ⟨n, rfl⟩ : ∃ n : Nat, a = n := ⟨a.toNat, by omega⟩
        obtain ⟨k, rfl⟩ : ∃ k : Nat, c = k := ⟨c.toNat, by omega⟩
        exact lawCirclesWithLast_of n k (wl n k) true W (by have := wl_le n k; omega) (Lib.hid fun w _ => sCirclesWithLast_yes n k w h (by omega) (by omega)) (Lib.hid fun w hk => iCirclesWithLast_yes n k w (hP.nw hk) h (by omega) (by omega))
    · exact lawCirclesWithLast_of a c [] false W (by simp) (Lib.hid fun w _ => sCirclesWithLast_no2 a c w h hc) (Lib.hid fun w hk => iCirclesWithLast_no2 a c w h hc)
  · exact lawCirclesWithLast_of a c [] false W (by simp) (Lib.hid fun w _ => sCirclesWithLast_no1 a c w h) (Lib.hid fun w hk => iCirclesWithLast_no1 a c w h)
end Go.Proofs.YteodhoekkeelcaaDoor
