/- The gaps between those who go one after the other (GapsOut) and the turns at which the person with the same number goes (FixedTurns), in the program and in its model: both are the same list; for all integers. -/
import Derived.Test.YtaejlhdbdjfccabOrder
import Derived.Test.YtaejlhdbdjfccabAt
namespace Go.Proofs.Ytaejlhdbdjfccab
open Go.ChangeShapes Go.WideShapes Go.ChangeAt Go.RowKit


theorem sGapsOut_no (p k : Int) (W : World) (h : ¬ Asked p k) :
    Calls Try.prog 34 #[.int .i64 p, .int .i64 k] W (ListRes W [] false) := by
  go_enter Try.func34, Try.ntmps34
  go_wp2_with (first | ((with_reducible refine (ciAsked_no _ _ _ h).mono ?_); rintro e w' ⟨rfl, rfl⟩))
  go_ret2
  exact ⟨_, rfl, Sl.nil _ _, Kp.refl _ _⟩

theorem iGapsOut_no (p k : Int) (W : World) (h : ¬ Asked p k) :
    Calls Try.prog 35 #[.int .i64 p, .int .i64 k] W (ListRes W [] false) := by
  go_enter Try.func35, Try.ntmps35
  go_wp2_with (first | ((with_reducible refine (isCount_no _ _ _ h).mono ?_); rintro e w' ⟨rfl, rfl⟩))
  go_ret2
  exact ⟨_, rfl, Sl.nil _ _, Kp.refl _ _⟩

theorem sFixedTurns_no (p k : Int) (W : World) (h : ¬ Asked p k) :
    Calls Try.prog 36 #[.int .i64 p, .int .i64 k] W (ListRes W [] false) := by
  go_enter Try.func36, Try.ntmps36
  go_wp2_with (first | ((with_reducible refine (ciAsked_no _ _ _ h).mono ?_); rintro e w' ⟨rfl, rfl⟩))
  go_ret2
  exact ⟨_, rfl, Sl.nil _ _, Kp.refl _ _⟩

theorem iFixedTurns_no (p k : Int) (W : World) (h : ¬ Asked p k) :
    Calls Try.prog 37 #[.int .i64 p, .int .i64 k] W (ListRes W [] false) := by
  go_enter Try.func37, Try.ntmps37
  go_wp2_with (first | ((with_reducible refine (isCount_no _ _ _ h).mono ?_); rintro e w' ⟨rfl, rfl⟩))
  go_ret2
  exact ⟨_, rfl, Sl.nil _ _, Kp.refl _ _⟩

/-- the turns, of the first j, at which the person with the same number goes -/
def fixed (xs : List Int) (j : Nat) : List Int := ((List.range j).filter fun i : Nat => xs.getD i 0 = (i : Int)).map fun i : Nat => (i : Int)
theorem fixed_succ (xs : List Int) (j : Nat) : fixed xs (j + 1) = if xs.getD j 0 = (j : Int) then fixed xs j ++ [(j : Int)] else fixed xs j := by
  unfold fixed
  rw [List.range_succ, List.filter_append]
  by_cases h : xs.getD j 0 = (j : Int)
  · rw [if_pos h]; simp only [List.filter_cons, decide_eq_true h, List.filter_nil, if_true, List.map_append, List.map_cons, List.map_nil]
  · rw [if_neg h]; simp only [List.filter_cons, decide_eq_false h, List.filter_nil, List.append_nil, if_false, Bool.false_eq_true]
theorem fixed_le (xs : List Int) (j : Nat) : (fixed xs j).length ≤ j := by
  unfold fixed
  rw [List.length_map]
  exact Nat.le_trans (List.length_filter_le _ _) (by simp)

set_option maxHeartbeats 1600000 in
theorem sFixedTurns_yes (n : Nat) (k : Int) (W : World) (h : Asked n k) :
    Calls Try.prog 36 #[.int .i64 n, .int .i64 k] W (ListRes W (fixed (outs k n (marks 0 n)) n) true) := by
  have h1 := h.p1; have h2 := h.p2; have h5 := h.k1; have h6 := h.k2
  go_enter Try.func36, Try.ntmps36
  go_wp2_with (first | ((with_reducible refine (ciAsked_yes _ _ _ h).mono ?_); rintro e w' ⟨rfl, rfl⟩))
  refine (ciPeople_any n W (by omega)).mono ?_
  rintro e w1 ⟨v, rfl, hs, hk⟩
  have HS := Lib.hid hs
  have HK := Lib.hid hk
  clear hs hk
  go_wp2_with fail
  refine (ciOrder_any v k (marks 0 n) _ w1 HS.out (by rw [marks_length]; omega) h.k1 h.k2).mono ?_
  rintro e w2 ⟨v2, rfl, hs2, hk2⟩
  rw [marks_length] at hs2
  obtain ⟨g, cap, rfl, hs3, _, _, hgW, hgl⟩ := hs2.at_ (by rw [outs_length]; omega)
  rw [outs_length] at hs3 ⊢
  have HS3 := Lib.hid hs3
  have HK2 := Lib.hid (HK.out.nw hk2)
  clear hs2 hk2 hs3
  go_wp2
  go_loopw [6, 7, 8, 18] (fun s _ _ i wr => ∃ (j : Nat) (u : Value), j ≤ n ∧ i = .int .i64 j ∧ u = s ∧ Sl wr w2.heap.size u (fixed (outs k n (marks 0 n)) j) ∧ Kp Nw w2 wr) (fun _ _ _ i _ => n - (intOf i).toNat)
  case atStart => exact ⟨0, _, Nat.zero_le _, rfl, rfl, by simpa [fixed] using Sl.nil _ _, Kp.refl _ _⟩
  case round =>
    rename_i wr
    obtain ⟨j, u, hj, rfl, rfl, hu, hk⟩ := hrel
    have HU := Lib.hid hu
    have HK3 := Lib.hid hk
    clear hu hk
    by_cases hlt : j < n
    · have c := keepc HK3.out (HS3.out.cell j hlt) (fun h => h)
      have hf := fixed_succ (outs k n (marks 0 n)) j
      have fl := fixed_le (outs k n (marks 0 n)) j
      obtain ⟨y, hy⟩ : ∃ y, (outs k n (marks 0 n)).getD j 0 = y := ⟨_, rfl⟩
      rw [hy] at c hf
      have j0 : (0 : Int) ≤ j := Int.natCast_nonneg _
      have j1 : (j : Int) < n := by omega
      have FL := Lib.hid fl
      by_cases e : y = (j : Int)
      · rw [if_pos e] at hf
        have HF := Lib.hid hf
        subst e
        clear hf hy fl
        go_wp2_with (first | (at_builtin; refine wpList_app _ rfl (.tmp 26) (.tmp 28) rfl w2.heap.size u _ (fixed (outs k n (marks 0 n)) j) [(j : Int)] rfl rfl (HU.out.below (Kp.al _ _).below') (Rd.one (g := wr.heap.size) (by simp)) nil_one (by have := FL.out; simp; omega) (by have := HK3.out.size; simp; omega) ?_))
        intro v' w4 hs4 hk4 _
        have HS4 := Lib.hid hs4
        have HK4 := Lib.hid ((HK3.out.nw (.al _ _)).own (HU.out.below (Kp.al _ _).below') hk4)
        clear hs4 hk4
        go_wp2
        go_roundw
        case rel => exact ⟨j + 1, v', by omega, by go_num, rfl, by rw [HF.out]; exact HS4.out, HK4.out⟩
        case measure => simp [intOf]; omega
      · rw [if_neg e] at hf
        have HF := Lib.hid hf
        have e' : ¬ (j : Int) = y := fun h => e h.symm
        clear hf hy fl
        go_wp2
        go_roundw
        case rel => exact ⟨j + 1, u, by omega, by go_num, rfl, by rw [HF.out]; exact HU.out, HK3.out⟩
        case measure => simp [intOf]; omega
    · have e : j = n := by omega
      subst e
      go_wp2
      go_ret2
      exact ⟨u, rfl, HU.out.from HK2.out.size, HK2.out.nw HK3.out⟩

set_option maxHeartbeats 1600000 in
theorem iFixedTurns_yes (n : Nat) (k : Int) (W : World) (h : Asked n k) :
    Calls Try.prog 37 #[.int .i64 n, .int .i64 k] W (ListRes W (fixed (outs k n (marks 0 n)) n) true) := by
  have h1 := h.p1; have h2 := h.p2; have h5 := h.k1; have h6 := h.k2
  go_enter Try.func37, Try.ntmps37
  go_wp2_with (first | ((with_reducible refine (isCount_yes _ _ _ h).mono ?_); rintro e w' ⟨rfl, rfl⟩))
  refine (orderOfAll_any n k W h).mono ?_
  rintro e w1 ⟨G, rfl, hP, hk, hG⟩
  have HP := Lib.hid hP
  have HK := Lib.hid hk
  clear hP hk
  go_wp2
  go_loopw [6, 7, 8, 17] (fun s _ _ i wr => ∃ (j : Nat) (u : Value), j ≤ n ∧ i = .int .i64 j ∧ u = s ∧ Sl wr w1.heap.size u (fixed (outs k n (marks 0 n)) j) ∧ Kp Nw w1 wr) (fun _ _ _ i _ => n - (intOf i).toNat)
  case atStart => exact ⟨0, _, Nat.zero_le _, rfl, rfl, by simpa [fixed] using Sl.nil _ _, Kp.refl _ _⟩
  case round =>
    rename_i wr
    obtain ⟨j, u, hj, rfl, rfl, hu, hk⟩ := hrel
    have HU := Lib.hid hu
    have HK3 := Lib.hid hk
    clear hu hk
    by_cases hlt : j < n
    · obtain ⟨c0, c1⟩ := HP.out.cell j (by rw [ordP_length, marks_length]; exact hlt)
      rw [ordP_getD k n j hlt] at c1
      have hf := fixed_succ (outs k n (marks 0 n)) j
      have fl := fixed_le (outs k n (marks 0 n)) j
      obtain ⟨y, hy⟩ : ∃ y, (outs k n (marks 0 n)).getD j 0 = y := ⟨_, rfl⟩
      obtain ⟨x, hx⟩ : ∃ x, ((ordP k (marks 0 n)).getD j (0, 0)).1 = x := ⟨_, rfl⟩
      rw [hx] at c0
      rw [hy] at c1 hf
      have d0 := keepc HK3.out c0 (fun h => h)
      have d1 := keepc HK3.out c1 (fun h => h)
      have j0 : (0 : Int) ≤ j := Int.natCast_nonneg _
      have j1 : (j : Int) < n := by omega
      have FL := Lib.hid fl
      clear hx c0 c1
      by_cases e : y = (j : Int)
      · rw [if_pos e] at hf
        have HF := Lib.hid hf
        subst e
        clear hf hy fl
        go_wp2_with (first | (at_builtin; refine wpList_app _ rfl (.tmp 26) (.tmp 28) rfl w1.heap.size u _ (fixed (outs k n (marks 0 n)) j) [(j : Int)] rfl rfl ((HU.out.below (Kp.al _ _).below').below (Kp.al _ _).below') (Rd.one (g := wr.heap.size + 1) (by simp)) nil_one (by have := FL.out; simp; omega) (by have := HK3.out.size; simp; omega) ?_))
        intro v' w4 hs4 hk4 _
        have HS4 := Lib.hid hs4
        have HK4 := Lib.hid (((HK3.out.nw (.al _ _)).nw (.al _ _)).own ((HU.out.below (Kp.al _ _).below').below (Kp.al _ _).below') hk4)
        clear hs4 hk4
        go_wp2
        go_roundw
        case rel => exact ⟨j + 1, v', by omega, by go_num, rfl, by rw [HF.out]; exact HS4.out, HK4.out⟩
        case measure => simp [intOf]; omega
      · rw [if_neg e] at hf
        have HF := Lib.hid hf
        have e' : ¬ (j : Int) = y := fun h => e h.symm
        clear hf hy fl
        go_wp2
        go_roundw
        case rel => exact ⟨j + 1, u, by omega, by go_num, rfl, by rw [HF.out]; exact HU.out.below (Kp.al _ _).below', HK3.out.nw (.al _ _)⟩
        case measure => simp [intOf]; omega
    · have e : j = n := by omega
      subst e
      go_wp2
      go_ret2
      exact ⟨u, rfl, HU.out.from HK.out.size, HK.out.nw HK3.out⟩

set_option maxHeartbeats 1600000 in
theorem lawFixedTurns_of (p k : Int) (xs : List Int) (b : Bool) (W : World) (hlen : xs.length ≤ 1000000)
    (hS : Hid (∀ W, Calls Try.prog 36 #[.int .i64 p, .int .i64 k] W (ListRes W xs b))) (hI : Hid (∀ W, Calls Try.prog 37 #[.int .i64 p, .int .i64 k] W (ListRes W xs b))) :
    Calls Try.prog 11 #[.int .i64 p, .int .i64 k] W fun e w' => e = .returned (.bool true) ∧ Kp Nw W w' := by
  obtain ⟨n, hn⟩ : ∃ n, xs.length = n := ⟨_, rfl⟩
  have HL : Hid (xs.length ≤ maxLen) := Lib.hid (by unfold maxLen; omega)
  have hlen : n ≤ 1000000 := by omega
  have hn0 : (0 : Int) ≤ n := Int.natCast_nonneg _
  have HN := Lib.hid hn
  clear hn
  go_enter Try.func11, Try.ntmps11
  go_wp2_with fail
  refine (hS.out _).mono ?_
  rintro e w1 ⟨v1, rfl, hs1, hk1⟩
  obtain ⟨A1, c1, rfl⟩ := hs1.val HN.out
  have HS1 := Lib.hid hs1; have HK1 := Lib.hid hk1; clear hs1 hk1
  go_wp2_with fail
  refine (hI.out _).mono ?_
  rintro e w2 ⟨v2, rfl, hs2, hk2⟩
  obtain ⟨A2, c2, rfl⟩ := hs2.val HN.out
  have O1 := Lib.hid HS1.out.own_ge
  have O2 := Lib.hid hs2.own_ge
  have HS1 := Lib.hid (HS1.out.below hk2.below')
  have HS2 := Lib.hid hs2; have HK2 := Lib.hid (HK1.out.nw hk2); have z2 := hk2.size; clear hs2 hk2
  go_wp2_with fail
  refine (eqIntS_same _ _ xs _ HS2.out.rd HS1.out.rd HL.out).mono ?_
  rintro e w3 ⟨rfl, d1, rfl⟩
  go_wp2_with fail
  refine (markIntS_any _ xs 1 _ _ (HS2.out.drewN d1) (by omega) (by omega) (by rw [HN.out]; omega)).mono ?_
  rintro e w4 ⟨rfl, hs4, hk4⟩
  rw [HN.out] at hs4 ⊢
  have HS1 := Lib.hid ((HS1.out.drewN d1).kp hk4 (fun g a b => by have := (O1.out g a).2; have := (O2.out g b).1; omega))
  have HS4 := Lib.hid hs4
  have HK4 := Lib.hid ((HK2.out.drewN d1).after hk4 (fun g hg b => by have := (O2.out g b).1; have := HK1.out.size; omega))
  clear hs4 hk4
  go_wp2_with fail
  refine (heldIntS_any _ 1 n _ HS4.out.rd (by omega) (by omega) (by omega)).mono ?_
  rintro e w5 ⟨rfl, rfl⟩
  go_wp2_with fail
  refine (hI.out _).mono ?_
  rintro e w6 ⟨v6, rfl, hs6, hk6⟩
  obtain ⟨A6, c6, rfl⟩ := hs6.val HN.out
  have HS4 := Lib.hid (HS4.out.below hk6.below')
  have HS1 := Lib.hid (HS1.out.below hk6.below')
  have HK6 := Lib.hid (HK4.out.nw hk6)
  have HS6 := Lib.hid hs6
  clear hs6 hk6
  go_wp2_with fail
  refine (eqIntS_same _ _ xs _ HS6.out.rd HS1.out.rd HL.out).mono ?_
  rintro e w7 ⟨rfl, d2, rfl⟩
  go_wp2_with fail
  refine (heldIntS_any _ 1 n _ (HS4.out.drewN d2).rd (by omega) (by omega) (by omega)).mono ?_
  rintro e w8 ⟨rfl, rfl⟩
  go_wp2
  go_ret
  exact ⟨rfl, HK6.out.drewN d2⟩

theorem lawFixedTurns (p k : Int) (W : World) :
    Calls Try.prog 11 #[.int .i64 p, .int .i64 k] W fun e w' => e = .returned (.bool true) ∧ Kp Nw W w' := by
  by_cases h : Asked p k
  · obtain ⟨n, rfl⟩ : ∃ n : Nat, p = n := ⟨p.toNat, by have := h.p1; omega⟩
    have h2 := h.p2
    exact lawFixedTurns_of n k (fixed (outs k n (marks 0 n)) n) true W (by have := fixed_le (outs k n (marks 0 n)) n; omega) (Lib.hid fun _ => sFixedTurns_yes n k _ h) (Lib.hid fun _ => iFixedTurns_yes n k _ h)
  · exact lawFixedTurns_of p k [] false W (by simp) (Lib.hid fun _ => sFixedTurns_no p k _ h) (Lib.hid fun _ => iFixedTurns_no p k _ h)
end Go.Proofs.Ytaejlhdbdjfccab
