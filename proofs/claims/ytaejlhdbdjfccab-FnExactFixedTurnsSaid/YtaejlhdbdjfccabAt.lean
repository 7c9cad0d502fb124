/- Who goes at a turn (OutAt), at which turn one goes (TurnOut) and who is left behind turns (LeftAfter), in the program and in its model: both return the same; for all integers. -/
import Derived.Test.YtaejlhdbdjfccabOrder
import Derived.Test.YtaejlhdbdjfccabFrom
namespace Go.Proofs.Ytaejlhdbdjfccab
open Go.ChangeShapes Go.WideShapes Go.ChangeAt Go.RowKit

theorem outs_length (k : Int) : ∀ (t : Nat) (l : List Int), (outs k t l).length = t
  | 0, _ => rfl
  | t + 1, l => by rw [outs, List.length_cons, outs_length k t]

/-- where a number stands first, or -1 -/
def fndD (x : Int) : List Int → Nat → Int
  | [], _ => -1
  | y :: r, j => if y = x then (j : Int) else fndD x r (j + 1)
theorem fndD_drop (x : Int) (xs : List Int) (j : Nat) (h : j < xs.length) : fndD x (xs.drop j) j = if xs.getD j 0 = x then (j : Int) else fndD x (xs.drop (j + 1)) (j + 1) := by
  rw [List.drop_eq_getElem_cons h, fndD]
  simp [h]

set_option maxHeartbeats 400000 in
theorem ciFind_any (v : Value) (xs : List Int) (x : Int) (W : World) (hv : Rd W v xs) (hl : xs.length ≤ 1000000) :
    Calls Try.prog 46 #[v, .int .i64 x] W fun e w' => e = .returned (.int .i64 (fndD x xs 0)) ∧ W = w' := by
  obtain ⟨n, hn⟩ : ∃ n, xs.length = n := ⟨_, rfl⟩
  obtain ⟨A, c, rfl, hA⟩ := hv
  rw [hn] at hl ⊢
  have HN := Lib.hid hn
  have HA := Lib.hid hA
  clear hn hA
  go_enter Try.func46, Try.ntmps46
  go_wp2
  go_loop [5, 6, 9] (fun _ _ i => ∃ j : Nat, j ≤ n ∧ i = .int .i64 j ∧ fndD x (xs.drop j) j = fndD x xs 0) (fun _ _ i => n - (intOf i).toNat)
  case atStart => exact ⟨0, Nat.zero_le _, rfl, rfl⟩
  case round =>
    obtain ⟨j, hj, rfl, hf⟩ := hrel
    by_cases hlt : j < n
    · obtain ⟨g, o, rfl, hc⟩ := HA.out j (by rw [HN.out]; exact hlt)
      have hd := fndD_drop x xs j (by rw [HN.out]; exact hlt)
      obtain ⟨y, hy⟩ : ∃ y, xs.getD j 0 = y := ⟨_, rfl⟩
      rw [hy] at hc hd
      have h2 : (0 : Int) ≤ j := Int.natCast_nonneg _
      have h3 : (j : Int) < n := by omega
      by_cases e : y = x
      · rw [if_pos e] at hd
        have HD := Lib.hid (hd.symm.trans hf)
        subst e
        clear hd hf hy
        go_wp2
        go_ret
        exact ⟨ret_int HD.out, rfl⟩
      · rw [if_neg e] at hd
        have HD := Lib.hid (hd.symm.trans hf)
        have e' : ¬ x = y := fun h => e h.symm
        clear hd hf hy
        go_wp2
        go_round
        case rel => exact ⟨j + 1, by omega, by go_num, HD.out⟩
        case measure => simp [intOf]; omega
    · have HF := Lib.hid hf
      have hdn := HN.out
      rw [List.drop_eq_nil_of_le (by omega), fndD] at hf
      have HF := Lib.hid hf
      clear hf hdn
      go_wp2
      go_ret
      exact ⟨ret_int HF.out, rfl⟩

set_option maxHeartbeats 400000 in
theorem index_any (v : Value) (xs : List Int) (x : Int) (W : World) (hv : Rd W v xs) (hl : xs.length ≤ 1000000) :
    Calls Try.prog 47 #[v, .int .i64 x] W fun e w' => e = .returned (.int .i64 (fndD x xs 0)) ∧ W = w' := by
  obtain ⟨n, hn⟩ : ∃ n, xs.length = n := ⟨_, rfl⟩
  obtain ⟨A, c, rfl, hA⟩ := hv
  rw [hn] at hl ⊢
  have HN := Lib.hid hn
  have HA := Lib.hid hA
  clear hn hA
  go_enter Try.func47, Try.ntmps47
  go_wp2
  go_loop [5, 8] (fun _ i => ∃ j : Nat, j ≤ n ∧ i = .int .i64 j ∧ fndD x (xs.drop j) j = fndD x xs 0) (fun _ i => n - (intOf i).toNat)
  case atStart => exact ⟨0, Nat.zero_le _, rfl, rfl⟩
  case round =>
    obtain ⟨j, hj, rfl, hf⟩ := hrel
    by_cases hlt : j < n
    · obtain ⟨g, o, rfl, hc⟩ := HA.out j (by rw [HN.out]; exact hlt)
      have hd := fndD_drop x xs j (by rw [HN.out]; exact hlt)
      obtain ⟨y, hy⟩ : ∃ y, xs.getD j 0 = y := ⟨_, rfl⟩
      rw [hy] at hc hd
      have h2 : (0 : Int) ≤ j := Int.natCast_nonneg _
      have h3 : (j : Int) < n := by omega
      by_cases e : y = x
      · rw [if_pos e] at hd
        have HD := Lib.hid (hd.symm.trans hf)
        subst e
        clear hd hf hy
        go_wp2
        go_ret
        exact ⟨ret_int HD.out, rfl⟩
      · rw [if_neg e] at hd
        have HD := Lib.hid (hd.symm.trans hf)
        have e' : ¬ x = y := fun h => e h.symm
        clear hd hf hy
        go_wp2
        go_round
        case rel => exact ⟨j + 1, by omega, by go_num, HD.out⟩
        case measure => simp [intOf]; omega
    · have HF := Lib.hid hf
      have hdn := HN.out
      rw [List.drop_eq_nil_of_le (by omega), fndD] at hf
      have HF := Lib.hid hf
      clear hf hdn
      go_wp2
      go_ret
      exact ⟨ret_int HF.out, rfl⟩

/-- what a call returns that tells a number, or fails -/
def IntRes (W : World) (x : Int) (e : Ending) (w' : World) : Prop := e = .returned (.tuple #[.int .i64 x, .bool true]) ∧ Kp Nw W w'
def IntFail (W : World) (e : Ending) (w' : World) : Prop := e = .returned (.tuple #[.int .i64 0, .bool false]) ∧ Kp Nw W w'

theorem sOutAt_no1 (p k b : Int) (W : World) (h : ¬ Asked p k) :
    Calls Try.prog 17 #[.int .i64 p, .int .i64 k, .int .i64 b] W (IntFail W) := by
  skip
  go_enter Try.func17, Try.ntmps17
  go_wp2_with (first | ((with_reducible refine (ciOne_no1 p k b _ h).mono ?_); rintro e w' ⟨rfl, rfl⟩))
  go_ret2
  exact ⟨rfl, Kp.refl _ _⟩

theorem sOutAt_no2 (p k b : Int) (W : World) (h : Asked p k) (hb : b < 0 ∨ p - 1 < b) :
    Calls Try.prog 17 #[.int .i64 p, .int .i64 k, .int .i64 b] W (IntFail W) := by
  have h1 := h.p1; have h2 := h.p2
  go_enter Try.func17, Try.ntmps17
  go_wp2_with (first | ((with_reducible refine (ciOne_no2 p k b _ h hb).mono ?_); rintro e w' ⟨rfl, rfl⟩))
  go_ret2
  exact ⟨rfl, Kp.refl _ _⟩

theorem iOutAt_no1 (p k b : Int) (W : World) (h : ¬ Asked p k) :
    Calls Try.prog 18 #[.int .i64 p, .int .i64 k, .int .i64 b] W (IntFail W) := by
  skip
  go_enter Try.func18, Try.ntmps18
  go_wp2_with (first | ((with_reducible refine (isCount_no p k _ h).mono ?_); rintro e w' ⟨rfl, rfl⟩))
  go_ret2
  exact ⟨rfl, Kp.refl _ _⟩

theorem iOutAt_no2 (p k b : Int) (W : World) (h : Asked p k) (hb : b < 0 ∨ p - 1 < b) :
    Calls Try.prog 18 #[.int .i64 p, .int .i64 k, .int .i64 b] W (IntFail W) := by
  have h1 := h.p1; have h2 := h.p2
  go_enter Try.func18, Try.ntmps18
  go_wp2_with (first | ((with_reducible refine (isCount_yes p k _ h).mono ?_); rintro e w' ⟨rfl, rfl⟩) | ((with_reducible refine (within_no b _ _ _ hb).mono ?_); rintro e w' ⟨rfl, rfl⟩))
  go_ret2
  exact ⟨rfl, Kp.refl _ _⟩

theorem sTurnOut_no1 (p k b : Int) (W : World) (h : ¬ Asked p k) :
    Calls Try.prog 19 #[.int .i64 p, .int .i64 k, .int .i64 b] W (IntFail W) := by
  skip
  go_enter Try.func19, Try.ntmps19
  go_wp2_with (first | ((with_reducible refine (ciOne_no1 p k b _ h).mono ?_); rintro e w' ⟨rfl, rfl⟩))
  go_ret2
  exact ⟨rfl, Kp.refl _ _⟩

theorem sTurnOut_no2 (p k b : Int) (W : World) (h : Asked p k) (hb : b < 0 ∨ p - 1 < b) :
    Calls Try.prog 19 #[.int .i64 p, .int .i64 k, .int .i64 b] W (IntFail W) := by
  have h1 := h.p1; have h2 := h.p2
  go_enter Try.func19, Try.ntmps19
  go_wp2_with (first | ((with_reducible refine (ciOne_no2 p k b _ h hb).mono ?_); rintro e w' ⟨rfl, rfl⟩))
  go_ret2
  exact ⟨rfl, Kp.refl _ _⟩

theorem iTurnOut_no1 (p k b : Int) (W : World) (h : ¬ Asked p k) :
    Calls Try.prog 20 #[.int .i64 p, .int .i64 k, .int .i64 b] W (IntFail W) := by
  skip
  go_enter Try.func20, Try.ntmps20
  go_wp2_with (first | ((with_reducible refine (isCount_no p k _ h).mono ?_); rintro e w' ⟨rfl, rfl⟩))
  go_ret2
  exact ⟨rfl, Kp.refl _ _⟩

theorem iTurnOut_no2 (p k b : Int) (W : World) (h : Asked p k) (hb : b < 0 ∨ p - 1 < b) :
    Calls Try.prog 20 #[.int .i64 p, .int .i64 k, .int .i64 b] W (IntFail W) := by
  have h1 := h.p1; have h2 := h.p2
  go_enter Try.func20, Try.ntmps20
  go_wp2_with (first | ((with_reducible refine (isCount_yes p k _ h).mono ?_); rintro e w' ⟨rfl, rfl⟩) | ((with_reducible refine (within_no b _ _ _ hb).mono ?_); rintro e w' ⟨rfl, rfl⟩))
  go_ret2
  exact ⟨rfl, Kp.refl _ _⟩

theorem sLeftAfter_no1 (p k b : Int) (W : World) (h : ¬ Asked p k) :
    Calls Try.prog 21 #[.int .i64 p, .int .i64 k, .int .i64 b] W (ListRes W [] false) := by
  skip
  go_enter Try.func21, Try.ntmps21
  go_wp2_with (first | ((with_reducible refine (ciOne_no1 p k b _ h).mono ?_); rintro e w' ⟨rfl, rfl⟩))
  go_ret2
  exact ⟨_, rfl, Sl.nil _ _, Kp.refl _ _⟩

theorem sLeftAfter_no2 (p k b : Int) (W : World) (h : Asked p k) (hb : b < 0 ∨ p - 1 < b) :
    Calls Try.prog 21 #[.int .i64 p, .int .i64 k, .int .i64 b] W (ListRes W [] false) := by
  have h1 := h.p1; have h2 := h.p2
  go_enter Try.func21, Try.ntmps21
  go_wp2_with (first | ((with_reducible refine (ciOne_no2 p k b _ h hb).mono ?_); rintro e w' ⟨rfl, rfl⟩))
  go_ret2
  exact ⟨_, rfl, Sl.nil _ _, Kp.refl _ _⟩

theorem iLeftAfter_no1 (p k b : Int) (W : World) (h : ¬ Asked p k) :
    Calls Try.prog 22 #[.int .i64 p, .int .i64 k, .int .i64 b] W (ListRes W [] false) := by
  skip
  go_enter Try.func22, Try.ntmps22
  go_wp2_with (first | ((with_reducible refine (isCount_no p k _ h).mono ?_); rintro e w' ⟨rfl, rfl⟩))
  go_ret2
  exact ⟨_, rfl, Sl.nil _ _, Kp.refl _ _⟩

theorem iLeftAfter_no2 (p k b : Int) (W : World) (h : Asked p k) (hb : b < 0 ∨ p - 1 < b) :
    Calls Try.prog 22 #[.int .i64 p, .int .i64 k, .int .i64 b] W (ListRes W [] false) := by
  have h1 := h.p1; have h2 := h.p2
  go_enter Try.func22, Try.ntmps22
  go_wp2_with (first | ((with_reducible refine (isCount_yes p k _ h).mono ?_); rintro e w' ⟨rfl, rfl⟩) | ((with_reducible refine (within_no b _ _ _ hb).mono ?_); rintro e w' ⟨rfl, rfl⟩))
  go_ret2
  exact ⟨_, rfl, Sl.nil _ _, Kp.refl _ _⟩

set_option maxHeartbeats 1600000 in
theorem sOutAt_x (n : Nat) (k : Int) (t : Nat) (W : World) (h : One n k t) (x : Int) (hx : (outs k n (marks 0 n)).getD t 0 = x) :
    Calls Try.prog 17 #[.int .i64 n, .int .i64 k, .int .i64 t] W (IntRes W x) := by
  have h1 := h.a.p1; have h2 := h.a.p2; have h3 := h.b1; have h4 := h.b2; have h5 := h.a.k1; have h6 := h.a.k2
  have ht : t < n := by omega
  have HX := Lib.hid hx
  clear hx
  go_enter Try.func17, Try.ntmps17
  go_wp2_with (first | ((with_reducible refine (ciOne_yes _ _ _ _ h).mono ?_); rintro e w' ⟨rfl, rfl⟩))
  refine (ciPeople_any n W (by omega)).mono ?_
  rintro e w1 ⟨v, rfl, hs, hk⟩
  have HS := Lib.hid hs
  have HK := Lib.hid hk
  clear hs hk
  go_wp2_with fail
  refine (ciOrder_any v k (marks 0 n) _ w1 HS.out (by rw [marks_length]; omega) h.a.k1 h.a.k2).mono ?_
  rintro e w2 ⟨v2, rfl, hs2, hk2⟩
  rw [marks_length] at hs2
  obtain ⟨g, cap, rfl, hs3, _⟩ := hs2.at_ (by rw [outs_length]; omega)
  rw [outs_length] at hs3 ⊢
  have c := hs3.cell t ht
  rw [HX.out] at c
  have HK2 := Lib.hid (HK.out.nw hk2)
  clear hs2 hk2 hs3
  go_wp2
  go_ret2
  exact ⟨rfl, HK2.out⟩

theorem sOutAt_yes (n : Nat) (k : Int) (t : Nat) (W : World) (h : One n k t) :
    Calls Try.prog 17 #[.int .i64 n, .int .i64 k, .int .i64 t] W (IntRes W ((outs k n (marks 0 n)).getD t 0)) := sOutAt_x n k t W h _ rfl

theorem ordP_getD (k : Int) (n t : Nat) (ht : t < n) : ((ordP k (marks 0 n)).getD t (0, 0)).2 = (outs k n (marks 0 n)).getD t 0 := by
  have h := ordP_snd k (marks 0 n)
  rw [marks_length] at h
  have hl : t < (ordP k (marks 0 n)).length := by rw [ordP_length, marks_length]; exact ht
  rw [← h]
  simp [hl]

set_option maxHeartbeats 1600000 in
theorem iOutAt_x (n : Nat) (k : Int) (t : Nat) (W : World) (h : One n k t) (x : Int) (hx : (outs k n (marks 0 n)).getD t 0 = x) :
    Calls Try.prog 18 #[.int .i64 n, .int .i64 k, .int .i64 t] W (IntRes W x) := by
  have h1 := h.a.p1; have h2 := h.a.p2; have h3 := h.b1; have h4 := h.b2; have h5 := h.a.k1; have h6 := h.a.k2
  have ht : t < n := by omega
  have HX := Lib.hid hx
  clear hx
  go_enter Try.func18, Try.ntmps18
  go_wp2_with (first | ((with_reducible refine (isCount_yes _ _ _ h.a).mono ?_); rintro e w' ⟨rfl, rfl⟩) | ((with_reducible refine (within_yes (t : Int) _ _ _ (by omega) (by omega)).mono ?_); rintro e w' ⟨rfl, rfl⟩))
  refine (orderOfAll_any n k W h.a).mono ?_
  rintro e w1 ⟨G, rfl, hP, hk, hG⟩
  obtain ⟨c0, c1⟩ := hP.cell t (by rw [ordP_length, marks_length]; exact ht)
  rw [ordP_getD k n t ht, HX.out] at c1
  have HK2 := Lib.hid hk
  clear hP hk c0
  go_wp2
  go_ret2
  exact ⟨rfl, HK2.out⟩

theorem iOutAt_yes (n : Nat) (k : Int) (t : Nat) (W : World) (h : One n k t) :
    Calls Try.prog 18 #[.int .i64 n, .int .i64 k, .int .i64 t] W (IntRes W ((outs k n (marks 0 n)).getD t 0)) := iOutAt_x n k t W h _ rfl

set_option maxHeartbeats 1600000 in
theorem sTurnOut_yes (n : Nat) (k : Int) (t : Nat) (W : World) (h : One n k t) :
    Calls Try.prog 19 #[.int .i64 n, .int .i64 k, .int .i64 t] W (IntRes W (fndD t (outs k n (marks 0 n)) 0)) := by
  have h1 := h.a.p1; have h2 := h.a.p2; have h3 := h.b1; have h4 := h.b2; have h5 := h.a.k1; have h6 := h.a.k2
  have ht : t < n := by omega
  go_enter Try.func19, Try.ntmps19
  go_wp2_with (first | ((with_reducible refine (ciOne_yes _ _ _ _ h).mono ?_); rintro e w' ⟨rfl, rfl⟩))
  refine (ciPeople_any n W (by omega)).mono ?_
  rintro e w1 ⟨v, rfl, hs, hk⟩
  have HS := Lib.hid hs
  have HK := Lib.hid hk
  clear hs hk
  go_wp2_with fail
  refine (ciOrder_any v k (marks 0 n) _ w1 HS.out (by rw [marks_length]; omega) h.a.k1 h.a.k2).mono ?_
  rintro e w2 ⟨v2, rfl, hs2, hk2⟩
  rw [marks_length] at hs2
  have HS2 := Lib.hid hs2
  have HK2 := Lib.hid (HK.out.nw hk2)
  clear hs2 hk2
  go_wp2_with fail
  refine (ciFind_any v2 _ _ _ HS2.out.rd (by rw [outs_length]; omega)).mono ?_
  rintro e w3 ⟨rfl, rfl⟩
  go_wp2
  go_ret2
  exact ⟨rfl, HK2.out⟩

set_option maxHeartbeats 1600000 in
theorem iTurnOut_yes (n : Nat) (k : Int) (t : Nat) (W : World) (h : One n k t) :
    Calls Try.prog 20 #[.int .i64 n, .int .i64 k, .int .i64 t] W (IntRes W (fndD t (outs k n (marks 0 n)) 0)) := by
  have h1 := h.a.p1; have h2 := h.a.p2; have h3 := h.b1; have h4 := h.b2; have h5 := h.a.k1; have h6 := h.a.k2
  have ht : t < n := by omega
  go_enter Try.func20, Try.ntmps20
  go_wp2_with (first | ((with_reducible refine (isCount_yes _ _ _ h.a).mono ?_); rintro e w' ⟨rfl, rfl⟩) | ((with_reducible refine (within_yes (t : Int) _ _ _ (by omega) (by omega)).mono ?_); rintro e w' ⟨rfl, rfl⟩))
  refine (orderOfAll_any n k W h.a).mono ?_
  rintro e w1 ⟨G, rfl, hP, hk, hG⟩
  have HP := Lib.hid hP
  have HK := Lib.hid hk
  clear hP hk
  go_wp2_with fail
  refine (numbersOf_any ⟨G, 0, none⟩ n n _ _ HP.out.rdp (by rw [ordP_length, marks_length]) (by omega)).mono ?_
  rintro e w2 ⟨v2, rfl, hs2, hk2⟩
  rw [ordP_snd, marks_length] at hs2
  have HS2 := Lib.hid hs2
  have HK2 := Lib.hid (HK.out.nw hk2)
  clear hs2 hk2
  go_wp2_with fail
  refine (index_any v2 _ _ _ HS2.out.rd (by rw [outs_length]; omega)).mono ?_
  rintro e w3 ⟨rfl, rfl⟩
  go_wp2
  go_ret2
  exact ⟨rfl, HK2.out⟩

set_option maxHeartbeats 1600000 in
theorem iLeftAfter_yes (n : Nat) (k : Int) (t : Nat) (W : World) (h : One n k t) :
    Calls Try.prog 22 #[.int .i64 n, .int .i64 k, .int .i64 t] W (ListRes W (lefts k t (marks 0 n)) true) := by
  have h1 := h.a.p1; have h2 := h.a.p2; have h3 := h.b1; have h4 := h.b2; have h5 := h.a.k1; have h6 := h.a.k2
  have ht : t < n := by omega
  go_enter Try.func22, Try.ntmps22
  go_wp2_with (first | ((with_reducible refine (isCount_yes _ _ _ h.a).mono ?_); rintro e w' ⟨rfl, rfl⟩) | ((with_reducible refine (within_yes (t : Int) _ _ _ (by omega) (by omega)).mono ?_); rintro e w' ⟨rfl, rfl⟩))
  refine (firstNumbers_any n W (by omega)).mono ?_
  rintro e w1 ⟨v, rfl, hs, hk⟩
  obtain ⟨A, c, rfl⟩ := hs.val (marks_length 0 n)
  have HS := Lib.hid hs
  have HK := Lib.hid hk
  clear hs hk
  go_wp2_with fail
  refine (circleOf_any _ (marks 0 n) k _ HS.out.rd (by rw [marks_length]; omega) (by rw [marks_length]; omega)).mono ?_
  rintro e w2 ⟨C, L, rfl, hC, hk, hC1, hL1⟩
  rw [marks_length] at hC
  have HC := Lib.hid hC
  have HK2 := Lib.hid (HK.out.nw hk)
  have z1 := HK.out.size
  clear hk hC
  go_wp2_with fail
  refine (countForward C L t (outsP k t (num (marks 0 n))) (Fwd (num (marks 0 n)) C L n k) w2 (outsP_length _ _ _) HC.out.lt HC.out.2.lt (Lib.hid Fwd.kp)
    (Lib.hid fun r w hr hst => fwd_step (num (marks 0 n)) C L n k h5 h6 t (by rw [num_length, marks_length]; omega) r w hr hst)
    (Fwd.start HC.out (by rw [marks_length]; omega)) (by omega)).mono ?_
  rintro e w3 ⟨G, rfl, hP, ⟨ps, i, q, hCi, hlen, hd, hi, hrot⟩, hk3, hG⟩
  rw [num_length, marks_length] at hlen
  obtain ⟨hi1, hi2⟩ := hi (by omega)
  have HCi := Lib.hid hCi
  have HI := Lib.hid hi2
  have HD := Lib.hid hd
  have HR := Lib.hid (show (rot ps i).map (·.2) = lefts k t (marks 0 n) by rw [hrot, ← lefts_map, num_snd])
  have HK3 := Lib.hid (HK2.out.after hk3 (fun g hg h => by rcases h with h | h <;> omega))
  clear hP hk3 hCi hd hi hrot hi2
  go_wp2_with fail
  refine (fromNext_any C L n i ps q k _ HCi.out hi1 HI.out HD.out).mono ?_
  rintro e w4 ⟨v4, rfl, hs4, hk4⟩
  rw [HR.out] at hs4
  have HS4 := Lib.hid (hs4.from HK3.out.size)
  have HK4 := Lib.hid (HK3.out.nw hk4)
  clear hs4 hk4
  go_wp2
  go_ret2
  exact ⟨v4, rfl, HS4.out, HK4.out⟩

set_option maxHeartbeats 1600000 in
theorem sLeftAfter_yes (n : Nat) (k : Int) (t : Nat) (W : World) (h : One n k t) :
    Calls Try.prog 21 #[.int .i64 n, .int .i64 k, .int .i64 t] W (ListRes W (lefts k t (marks 0 n)) true) := by
  have h1 := h.a.p1; have h2 := h.a.p2; have h3 := h.b1; have h4 := h.b2; have h5 := h.a.k1; have h6 := h.a.k2
  have ht : t < n := by omega
  go_enter Try.func21, Try.ntmps21
  go_wp2_with (first | ((with_reducible refine (ciOne_yes _ _ _ _ h).mono ?_); rintro e w' ⟨rfl, rfl⟩))
  refine (ciPeople_any n W (by omega)).mono ?_
  rintro e w1 ⟨v, rfl, hs, hk⟩
  have HS := Lib.hid hs
  have HK := Lib.hid hk
  clear hs hk
  go_wp2
  go_loopw [2, 8, 9, 10] (fun tt s _ _ wr => ∃ (r : Nat) (u : Value), r ≤ t ∧ tt = .int .i64 ((t : Int) - r) ∧ u = s ∧ Sl wr W.heap.size u (lefts k r (marks 0 n)) ∧ Kp Nw W wr) (fun tt _ _ _ _ => (intOf tt).toNat)
  case atStart => exact ⟨0, _, Nat.zero_le _, by simp, rfl, HS.out, HK.out⟩
  case round =>
    rename_i wr
    obtain ⟨r, u, hr, rfl, rfl, hu, hk⟩ := hrel
    have HU := Lib.hid hu
    have HK2 := Lib.hid hk
    clear hu hk
    by_cases hlt : r < t
    · have g0 : (0 : Int) < (t : Int) - r := by omega
      go_wp2_with fail
      refine (ciTurn_any u k _ _ wr HU.out (by rw [lefts_length _ _ _ (by rw [marks_length]; omega), marks_length]; omega) (by rw [lefts_length _ _ _ (by rw [marks_length]; omega), marks_length]; omega) h5 h6).mono ?_
      rintro e w2 ⟨v2, rfl, hs2, hk2⟩
      rw [← lefts_succ] at hs2
      have HS2 := Lib.hid (hs2.from HK2.out.size)
      have HK3 := Lib.hid (HK2.out.nw hk2)
      clear hs2 hk2
      go_wp2
      go_roundw
      case rel => exact ⟨r + 1, v2, by omega, by congr 1; omega, rfl, HS2.out, HK3.out⟩
      case measure => simp [intOf]; omega
    · have e : r = t := by omega
      subst e
      go_wp2
      go_ret2
      exact ⟨u, rfl, HU.out, HK2.out⟩

set_option maxHeartbeats 800000 in
theorem lawOutAt_yes (n : Nat) (k : Int) (t : Nat) (W : World) (h : One n k t) :
    Calls Try.prog 4 #[.int .i64 n, .int .i64 k, .int .i64 t] W fun e w' => e = .returned (.bool true) ∧ Kp Nw W w' := by
  go_enter Try.func4, Try.ntmps4
  go_wp2_with fail
  refine (sOutAt_yes n k t _ h).mono ?_
  rintro e w1 ⟨rfl, hk1⟩
  have HK1 := Lib.hid hk1
  clear hk1
  go_wp2_with fail
  refine (iOutAt_yes n k t _ h).mono ?_
  rintro e w2 ⟨rfl, hk2⟩
  have HK2 := Lib.hid (HK1.out.nw hk2)
  clear hk2
  go_wp2
  go_ret
  exact ⟨rfl, HK2.out⟩

set_option maxHeartbeats 800000 in
theorem lawOutAt (p k b : Int) (W : World) :
    Calls Try.prog 4 #[.int .i64 p, .int .i64 k, .int .i64 b] W fun e w' => e = .returned (.bool true) ∧ Kp Nw W w' := by
  by_cases h : Asked p k
  · by_cases hb : b < 0 ∨ p - 1 < b
    · go_enter Try.func4, Try.ntmps4
      go_wp2_with fail
      refine (sOutAt_no2 p k b _ h hb).mono ?_
      rintro e w1 ⟨rfl, hk1⟩
      have HK1 := Lib.hid hk1
      clear hk1
      go_wp2_with fail
      refine (iOutAt_no2 p k b _ h hb).mono ?_
      rintro e w2 ⟨rfl, hk2⟩
      have HK2 := Lib.hid (HK1.out.nw hk2)
      clear hk2
      go_wp2
      go_ret
      exact ⟨rfl, HK2.out⟩

    · obtain ⟨n, rfl⟩ : ∃ n : Nat, p = n := ⟨p.toNat, by have := h.p1; omega⟩
      obtain ⟨t, rfl⟩ : ∃ t : Nat, b = t := ⟨b.toNat, by omega⟩
      exact lawOutAt_yes n k t W ⟨h, by omega, by omega⟩
  · go_enter Try.func4, Try.ntmps4
    go_wp2_with fail
    refine (sOutAt_no1 p k b _ h).mono ?_
    rintro e w1 ⟨rfl, hk1⟩
    have HK1 := Lib.hid hk1
    clear hk1
    go_wp2_with fail
    refine (iOutAt_no1 p k b _ h).mono ?_
    rintro e w2 ⟨rfl, hk2⟩
    have HK2 := Lib.hid (HK1.out.nw hk2)
    clear hk2
    go_wp2
    go_ret
    exact ⟨rfl, HK2.out⟩


set_option maxHeartbeats 800000 in
theorem lawTurnOut_yes (n : Nat) (k : Int) (t : Nat) (W : World) (h : One n k t) :
    Calls Try.prog 5 #[.int .i64 n, .int .i64 k, .int .i64 t] W fun e w' => e = .returned (.bool true) ∧ Kp Nw W w' := by
  go_enter Try.func5, Try.ntmps5
  go_wp2_with fail
  refine (sTurnOut_yes n k t _ h).mono ?_
  rintro e w1 ⟨rfl, hk1⟩
  have HK1 := Lib.hid hk1
  clear hk1
  go_wp2_with fail
  refine (iTurnOut_yes n k t _ h).mono ?_
  rintro e w2 ⟨rfl, hk2⟩
  have HK2 := Lib.hid (HK1.out.nw hk2)
  clear hk2
  go_wp2
  go_ret
  exact ⟨rfl, HK2.out⟩

set_option maxHeartbeats 800000 in
theorem lawTurnOut (p k b : Int) (W : World) :
    Calls Try.prog 5 #[.int .i64 p, .int .i64 k, .int .i64 b] W fun e w' => e = .returned (.bool true) ∧ Kp Nw W w' := by
  by_cases h : Asked p k
  · by_cases hb : b < 0 ∨ p - 1 < b
    · go_enter Try.func5, Try.ntmps5
      go_wp2_with fail
      refine (sTurnOut_no2 p k b _ h hb).mono ?_
      rintro e w1 ⟨rfl, hk1⟩
      have HK1 := Lib.hid hk1
      clear hk1
      go_wp2_with fail
      refine (iTurnOut_no2 p k b _ h hb).mono ?_
      rintro e w2 ⟨rfl, hk2⟩
      have HK2 := Lib.hid (HK1.out.nw hk2)
      clear hk2
      go_wp2
      go_ret
      exact ⟨rfl, HK2.out⟩

    · obtain ⟨n, rfl⟩ : ∃ n : Nat, p = n := ⟨p.toNat, by have := h.p1; omega⟩
      obtain ⟨t, rfl⟩ : ∃ t : Nat, b = t := ⟨b.toNat, by omega⟩
      exact lawTurnOut_yes n k t W ⟨h, by omega, by omega⟩
  · go_enter Try.func5, Try.ntmps5
    go_wp2_with fail
    refine (sTurnOut_no1 p k b _ h).mono ?_
    rintro e w1 ⟨rfl, hk1⟩
    have HK1 := Lib.hid hk1
    clear hk1
    go_wp2_with fail
    refine (iTurnOut_no1 p k b _ h).mono ?_
    rintro e w2 ⟨rfl, hk2⟩
    have HK2 := Lib.hid (HK1.out.nw hk2)
    clear hk2
    go_wp2
    go_ret
    exact ⟨rfl, HK2.out⟩


set_option maxHeartbeats 1600000 in
theorem lawLeftAfter_of (p k t : Int) (xs : List Int) (b : Bool) (W : World) (hlen : xs.length ≤ 1000000)
    (hS : Hid (∀ W, Calls Try.prog 21 #[.int .i64 p, .int .i64 k, .int .i64 t] W (ListRes W xs b))) (hI : Hid (∀ W, Calls Try.prog 22 #[.int .i64 p, .int .i64 k, .int .i64 t] W (ListRes W xs b))) :
    Calls Try.prog 6 #[.int .i64 p, .int .i64 k, .int .i64 t] W fun e w' => e = .returned (.bool true) ∧ Kp Nw W w' := by
  obtain ⟨n, hn⟩ : ∃ n, xs.length = n := ⟨_, rfl⟩
  have HL : Hid (xs.length ≤ maxLen) := Lib.hid (by unfold maxLen; omega)
  have hlen : n ≤ 1000000 := by omega
  have hn0 : (0 : Int) ≤ n := Int.natCast_nonneg _
  have HN := Lib.hid hn
  clear hn
  go_enter Try.func6, Try.ntmps6
  go_wp2_with fail
  refine (hS.out _).mono ?_
  rintro e w1 ⟨v1, rfl, hs1, hk1⟩
  obtain ⟨A1, c1, rfl⟩ := hs1.val HN.out
  have HS1 := Lib.hid hs1; have HK1 := Lib.hid hk1; clear hs1 hk1
  go_wp2_with fail
  refine (hI.out _).mono ?_
  rintro e w2 ⟨v2, rfl, hs2, hk2⟩
  obtain ⟨A2, c2, rfl⟩ := hs2.val HN.out
  have O1 := Lib.hid HS1.out.own_ge
  have O2 := Lib.hid hs2.own_ge
  have HS1 := Lib.hid (HS1.out.below hk2.below')
  have HS2 := Lib.hid hs2; have HK2 := Lib.hid (HK1.out.nw hk2); have z2 := hk2.size; clear hs2 hk2
  go_wp2_with fail
  refine (eqIntS_same _ _ xs _ HS2.out.rd HS1.out.rd HL.out).mono ?_
  rintro e w3 ⟨rfl, d1, rfl⟩
  go_wp2_with fail
  refine (markIntS_any _ xs 1 _ _ (HS2.out.drewN d1) (by omega) (by omega) (by rw [HN.out]; omega)).mono ?_
  rintro e w4 ⟨rfl, hs4, hk4⟩
  rw [HN.out] at hs4 ⊢
  have HS1 := Lib.hid ((HS1.out.drewN d1).kp hk4 (fun g a b => by have := (O1.out g a).2; have := (O2.out g b).1; omega))
  have HS4 := Lib.hid hs4
  have HK4 := Lib.hid ((HK2.out.drewN d1).after hk4 (fun g hg b => by have := (O2.out g b).1; have := HK1.out.size; omega))
  clear hs4 hk4
  go_wp2_with fail
  refine (heldIntS_any _ 1 n _ HS4.out.rd (by omega) (by omega) (by omega)).mono ?_
  rintro e w5 ⟨rfl, rfl⟩
  go_wp2_with fail
  refine (hI.out _).mono ?_
  rintro e w6 ⟨v6, rfl, hs6, hk6⟩
  obtain ⟨A6, c6, rfl⟩ := hs6.val HN.out
  have HS4 := Lib.hid (HS4.out.below hk6.below')
  have HS1 := Lib.hid (HS1.out.below hk6.below')
  have HK6 := Lib.hid (HK4.out.nw hk6)
  have HS6 := Lib.hid hs6
  clear hs6 hk6
  go_wp2_with fail
  refine (eqIntS_same _ _ xs _ HS6.out.rd HS1.out.rd HL.out).mono ?_
  rintro e w7 ⟨rfl, d2, rfl⟩
  go_wp2_with fail
  refine (heldIntS_any _ 1 n _ (HS4.out.drewN d2).rd (by omega) (by omega) (by omega)).mono ?_
  rintro e w8 ⟨rfl, rfl⟩
  go_wp2
  go_ret
  exact ⟨rfl, HK6.out.drewN d2⟩

theorem lawLeftAfter (p k b : Int) (W : World) :
    Calls Try.prog 6 #[.int .i64 p, .int .i64 k, .int .i64 b] W fun e w' => e = .returned (.bool true) ∧ Kp Nw W w' := by
  by_cases h : Asked p k
  · by_cases hb : b < 0 ∨ p - 1 < b
    · exact lawLeftAfter_of p k b [] false W (by simp) (Lib.hid fun _ => sLeftAfter_no2 p k b _ h hb) (Lib.hid fun _ => iLeftAfter_no2 p k b _ h hb)
    · obtain ⟨n, rfl⟩ : ∃ n : Nat, p = n := ⟨p.toNat, by have := h.p1; omega⟩
      obtain ⟨t, rfl⟩ : ∃ t : Nat, b = t := ⟨b.toNat, by omega⟩
      have h2 := h.p2
      have h' : One n k t := ⟨h, by omega, by omega⟩
      exact lawLeftAfter_of n k t (lefts k t (marks 0 n)) true W (by rw [lefts_length _ _ _ (by rw [marks_length]; omega), marks_length]; omega) (Lib.hid fun _ => sLeftAfter_yes n k t _ h') (Lib.hid fun _ => iLeftAfter_yes n k t _ h')
  · exact lawLeftAfter_of p k b [] false W (by simp) (Lib.hid fun _ => sLeftAfter_no1 p k b _ h) (Lib.hid fun _ => iLeftAfter_no1 p k b _ h)
end Go.Proofs.Ytaejlhdbdjfccab
