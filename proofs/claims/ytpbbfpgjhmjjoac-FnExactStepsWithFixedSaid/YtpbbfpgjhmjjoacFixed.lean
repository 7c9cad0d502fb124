/- The gaps between those who go one after the other (GapsOut) and the turns at which the person with the same number goes (FixedTurns), in the program and in its model: both are the same list; for all integers. -/
import Derived.Test.YtpbbfpgjhmjjoacOrder
import Derived.Test.YtpbbfpgjhmjjoacAt
namespace Go.Proofs.Ytpbbfpgjhmjjoac
open Go.ChangeShapes Go.WideShapes Go.ChangeAt Go.RowKit
theorem iFixedTurns_no (p k : Int) (W : World) (h : ¬ Asked p k) :
    Calls Try.prog 30 #[.int .i64 p, .int .i64 k] W (ListRes W [] false) := by
  go_enter Try.func30, Try.ntmps30
  go_wp2_with (first | ((with_reducible refine (isCount_no _ _ _ h).mono ?_); rintro e w' ⟨rfl, rfl⟩))
  go_ret2
  exact ⟨_, rfl, Sl.nil _ _, Kp.refl _ _⟩

/-- the turns, of the first j, at which the person with the same number goes -/
def fixed (xs : List Int) (j : Nat) : List Int := ((List.range j).filter fun i : Nat => xs.getD i 0 = (i : Int)).map fun i : Nat => (i : Int)
theorem fixed_succ (xs : List Int) (j : Nat) : fixed xs (j + 1) = if xs.getD j 0 = (j : Int) then fixed xs j ++ [(j : Int)] else fixed xs j := by
  unfold fixed
  rw [List.range_succ, List.filter_append]
  by_cases h : xs.getD j 0 = (j : Int)
  · rw [if_pos h]; simp only [List.filter_cons, decide_eq_true h, List.filter_nil, if_true, List.map_append, List.map_cons, List.map_nil]
  · rw [if_neg h]; simp only [List.filter_cons, decide_eq_false h, List.filter_nil, List.append_nil, if_false, Bool.false_eq_true]
theorem fixed_le (xs : List Int) (j : Nat) : (fixed xs j).length ≤ j := by
  unfold fixed
  rw [List.length_map]
  exact Nat.le_trans (List.length_filter_le _ _) (by simp)

set_option maxHeartbeats 1600000 in
theorem iFixedTurns_yes (n : Nat) (k : Int) (W : World) (h : Asked n k) :
    Calls Try.prog 30 #[.int .i64 n, .int .i64 k] W (ListRes W (fixed (outs k n (marks 0 n)) n) true) := by
  have h1 := h.p1; have h2 := h.p2; have h5 := h.k1; have h6 := h.k2
  go_enter Try.func30, Try.ntmps30
  go_wp2_with (first | ((with_reducible refine (isCount_yes _ _ _ h).mono ?_); rintro e w' ⟨rfl, rfl⟩))
  refine (orderOfAll_any n k W h).mono ?_
  rintro e w1 ⟨G, rfl, hP, hk, hG⟩
  have HP := Lib.hid hP
  have HK := Lib.hid hk
  clear hP hk
  go_wp2
  go_loopw [6, 7, 8, 17] (fun s _ _ i wr => ∃ (j : Nat) (u : Value), j ≤ n ∧ i = .int .i64 j ∧ u = s ∧ Sl wr w1.heap.size u (fixed (outs k n (marks 0 n)) j) ∧ Kp Nw w1 wr) (fun _ _ _ i _ => n - (intOf i).toNat)
  case atStart => exact ⟨0, _, Nat.zero_le _, rfl, rfl, by simpa [fixed] using Sl.nil _ _, Kp.refl _ _⟩
  case round =>
    rename_i wr
    obtain ⟨j, u, hj, rfl, rfl, hu, hk⟩ := hrel
    have HU := Lib.hid hu
    have HK3 := Lib.hid hk
    clear hu hk
    by_cases hlt : j < n
    · obtain ⟨c0, c1⟩ := HP.out.cell j (by rw [ordP_length, marks_length]; exact hlt)
      rw [ordP_getD k n j hlt] at c1
      have hf := fixed_succ (outs k n (marks 0 n)) j
      have fl := fixed_le (outs k n (marks 0 n)) j
      obtain ⟨y, hy⟩ : ∃ y, (outs k n (marks 0 n)).getD j 0 = y := ⟨_, rfl⟩
      obtain ⟨x, hx⟩ : ∃ x, ((ordP k (marks 0 n)).getD j (0, 0)).1 = x := ⟨_, rfl⟩
      rw [hx] at c0
      rw [hy] at c1 hf
      have d0 := keepc HK3.out c0 (fun h => h)
      have d1 := keepc HK3.out c1 (fun h => h)
      have j0 : (0 : Int) ≤ j := Int.natCast_nonneg _
      have j1 : (j : Int) < n := by omega
      have FL := Lib.hid fl
      clear hx c0 c1
      by_cases e : y = (j : Int)
      · rw [if_pos e] at hf
        have HF := Lib.hid hf
        subst e
        clear hf hy fl
        go_wp2_with (first | (at_builtin; refine wpList_app _ rfl (.tmp 26) (.tmp 28) rfl w1.heap.size u _ (fixed (outs k n (marks 0 n)) j) [(j : Int)] rfl rfl ((HU.out.below (Kp.al _ _).below').below (Kp.al _ _).below') (Rd.one (g := wr.heap.size + 1) (by simp)) nil_one (by have := FL.out; simp; omega) (by have := HK3.out.size; simp; omega) ?_))
        intro v' w4 hs4 hk4 _
        have HS4 := Lib.hid hs4
        have HK4 := Lib.hid (((HK3.out.nw (.al _ _)).nw (.al _ _)).own ((HU.out.below (Kp.al _ _).below').below (Kp.al _ _).below') hk4)
        clear hs4 hk4
        go_wp2
        go_roundw
        case rel => exact ⟨j + 1, v', by omega, by go_num, rfl, by rw [HF.out]; exact HS4.out, HK4.out⟩
        case measure => simp [intOf]; omega
      · rw [if_neg e] at hf
        have HF := Lib.hid hf
        have e' : ¬ (j : Int) = y := fun h => e h.symm
        clear hf hy fl
        go_wp2
        go_roundw
        case rel => exact ⟨j + 1, u, by omega, by go_num, rfl, by rw [HF.out]; exact HU.out.below (Kp.al _ _).below', HK3.out.nw (.al _ _)⟩
        case measure => simp [intOf]; omega
    · have e : j = n := by omega
      subst e
      go_wp2
      go_ret2
      exact ⟨u, rfl, HU.out.from HK.out.size, HK.out.nw HK3.out⟩

end Go.Proofs.Ytpbbfpgjhmjjoac
