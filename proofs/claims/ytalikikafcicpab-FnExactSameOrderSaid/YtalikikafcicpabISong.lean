/- Songs in the program: the order out, the last one, the turn of a person, who is left, two songs compared; no condition. -/
import Derived.Test.YtalikikafcicpabSingI
import Derived.Test.YtalikikafcicpabSoM
namespace Go.Proofs.Ytalikikafcicpab
open Go.ChangeShapes Go.WideShapes Go.ChangeAt Go.RowKit

set_option maxHeartbeats 1600000 in
theorem iSongOrder_is (A : Option Addr) (n c : Nat) (xs : List Int) (p : Int) (W : World) (hu : Rd W (.slice A n c) xs) (hn : xs.length = n) (hl : n ≤ 2000000) :
    Calls Try.prog 11 #[.agg #[.slice A n c], .int .i64 p] W (ListB W (vSoOrder xs p).1 (vSoOrder xs p).2) := by
  have HU := Lib.hid hu
  have HN := Lib.hid hn
  clear hu hn
  unfold vSoOrder
  cases hb : asB xs p
  · rw [if_neg Bool.false_ne_true]
    have HB : Hid ((sgB xs && decide (1 ≤ p ∧ p ≤ 200)) = false) := Lib.hid hb
    clear hb
    go_enter Try.func11, Try.ntmps11
    go_wp2_with (first | (refine (canSing_any A n c xs p _ (HU.out.nw (.al _ _)) HN.out hl _ HB.out.symm).mono ?_; rintro e w1 ⟨rfl, hk1⟩; have HK1 := Lib.hid ((Kp.al W _).nw hk1); have hz1 : W.heap.size + 1 ≤ w1.heap.size := (by have := hk1.size; simp only [World.size_alloc] at this; exact this); have HC1 := Lib.hid (keepc hk1 (Own1.new W (.slice A n c) 28).1 (fun h => h)); have hc1 := HC1.out; clear hk1))
    go_ret2
    exact ⟨_, rfl, Sl.nil _ _, HK1.out⟩
  · rw [if_pos rfl]
    obtain ⟨hg, p1, p2⟩ := asB_parts hb
    have HB : Hid ((sgB xs && decide (1 ≤ p ∧ p ≤ 200)) = true) := Lib.hid hb
    have HG := Lib.hid hg
    obtain ⟨m, hm⟩ : ∃ m, p.toNat = m := ⟨_, rfl⟩
    have hpm : p = (m : Int) := by omega
    subst hpm
    rw [Int.toNat_natCast]
    clear hb hg hm
    go_enter Try.func11, Try.ntmps11
    go_wp2_with (first | (refine (canSing_any A n c xs ((m : Nat) : Int) _ (HU.out.nw (.al _ _)) HN.out hl _ HB.out.symm).mono ?_; rintro e w1 ⟨rfl, hk1⟩; have HK1 := Lib.hid ((Kp.al W _).nw hk1); have hz1 : W.heap.size + 1 ≤ w1.heap.size := (by have := hk1.size; simp only [World.size_alloc] at this; exact this); have HC1 := Lib.hid (keepc hk1 (Own1.new W (.slice A n c) 28).1 (fun h => h)); have hc1 := HC1.out; clear hk1))
    refine (sungOut_any A n c xs m _ (HU.out.nw HK1.out) HN.out HG.out (by omega) (by omega)).mono ?_
    rintro e w2 ⟨v2, rfl, hs2, hk2⟩
    have HS := Lib.hid (hs2.from (B' := W.heap.size) (by omega))
    have HK := Lib.hid (HK1.out.nw hk2)
    clear hs2 hk2
    go_wp2
    go_ret2
    exact ⟨_, rfl, HS.out, HK.out⟩


set_option maxHeartbeats 1600000 in
theorem iSongLast_is (A : Option Addr) (n c : Nat) (xs : List Int) (p : Int) (W : World) (hu : Rd W (.slice A n c) xs) (hn : xs.length = n) (hl : n ≤ 2000000) :
    Calls Try.prog 18 #[.agg #[.slice A n c], .int .i64 p] W (IntB W (vSoLast xs p).1 (vSoLast xs p).2) := by
  have HU := Lib.hid hu
  have HN := Lib.hid hn
  clear hu hn
  unfold vSoLast
  cases hb : asB xs p
  · rw [if_neg Bool.false_ne_true]
    have HB : Hid ((sgB xs && decide (1 ≤ p ∧ p ≤ 200)) = false) := Lib.hid hb
    clear hb
    go_enter Try.func18, Try.ntmps18
    go_wp2_with (first | (refine (canSing_any A n c xs p _ (HU.out.nw (.al _ _)) HN.out hl _ HB.out.symm).mono ?_; rintro e w1 ⟨rfl, hk1⟩; have HK1 := Lib.hid ((Kp.al W _).nw hk1); have hz1 : W.heap.size + 1 ≤ w1.heap.size := (by have := hk1.size; simp only [World.size_alloc] at this; exact this); have HC1 := Lib.hid (keepc hk1 (Own1.new W (.slice A n c) 28).1 (fun h => h)); have hc1 := HC1.out; clear hk1))
    go_ret2
    exact ⟨rfl, HK1.out⟩
  · rw [if_pos rfl]
    obtain ⟨hg, p1, p2⟩ := asB_parts hb
    have HB : Hid ((sgB xs && decide (1 ≤ p ∧ p ≤ 200)) = true) := Lib.hid hb
    have HG := Lib.hid hg
    obtain ⟨m, hm⟩ : ∃ m, p.toNat = m := ⟨_, rfl⟩
    have hpm : p = (m : Int) := by omega
    subst hpm
    rw [Int.toNat_natCast]
    clear hb hg hm
    obtain ⟨t, rfl⟩ : ∃ t, m = t + 1 := ⟨m - 1, by omega⟩
    obtain ⟨x, hx⟩ : ∃ x, (soO xs (t + 1)).getD (t + 1 - 1) 0 = x := ⟨_, rfl⟩
    rw [hx]
    have HX := Lib.hid hx
    have t1 : ((t + 1 : Nat) : Int) = (t : Int) + 1 := by omega
    have ht : t ≤ 200 := by omega
    clear hx
    go_enter Try.func18, Try.ntmps18
    go_wp2_with (first | (refine (canSing_any A n c xs ((t + 1 : Nat) : Int) _ (HU.out.nw (.al _ _)) HN.out hl _ HB.out.symm).mono ?_; rintro e w1 ⟨rfl, hk1⟩; have HK1 := Lib.hid ((Kp.al W _).nw hk1); have hz1 : W.heap.size + 1 ≤ w1.heap.size := (by have := hk1.size; simp only [World.size_alloc] at this; exact this); have HC1 := Lib.hid (keepc hk1 (Own1.new W (.slice A n c) 28).1 (fun h => h)); have hc1 := HC1.out; clear hk1))
    refine (lastSung_any A n c xs (t + 1) _ (HU.out.nw HK1.out) HN.out HG.out (by omega) (by omega)).mono ?_
    rintro e w2 ⟨rfl, hk2⟩
    rw [HX.out]
    have HK := Lib.hid (HK1.out.nw hk2)
    clear hk2
    go_wp2
    go_ret2
    exact ⟨rfl, HK.out⟩


set_option maxHeartbeats 1600000 in
theorem iSongTurn_is (A : Option Addr) (n c : Nat) (xs : List Int) (p q : Int) (W : World) (hu : Rd W (.slice A n c) xs) (hn : xs.length = n) (hl : n ≤ 2000000) :
    Calls Try.prog 20 #[.agg #[.slice A n c], .int .i64 p, .int .i64 q] W (IntB W (vSoTurn xs p q).1 (vSoTurn xs p q).2) := by
  have HU := Lib.hid hu
  have HN := Lib.hid hn
  clear hu hn
  unfold vSoTurn
  cases hb : asB xs p
  · rw [if_neg (by simp)]
    have HB : Hid ((sgB xs && decide (1 ≤ p ∧ p ≤ 200)) = false) := Lib.hid hb
    clear hb
    go_enter Try.func20, Try.ntmps20
    go_wp2_with (first | (refine (canSing_any A n c xs p _ (HU.out.nw (.al _ _)) HN.out hl _ HB.out.symm).mono ?_; rintro e w1 ⟨rfl, hk1⟩; have HK1 := Lib.hid ((Kp.al W _).nw hk1); have hz1 : W.heap.size + 1 ≤ w1.heap.size := (by have := hk1.size; simp only [World.size_alloc] at this; exact this); have HC1 := Lib.hid (keepc hk1 (Own1.new W (.slice A n c) 28).1 (fun h => h)); have hc1 := HC1.out; clear hk1))
    go_ret2
    exact ⟨rfl, HK1.out⟩
  · by_cases hq : 0 ≤ q ∧ q ≤ p - 1
    · rw [if_pos ⟨rfl, hq⟩]
      obtain ⟨q0, q1⟩ := hq
      obtain ⟨hg, p1, p2⟩ := asB_parts hb
      have HB : Hid ((sgB xs && decide (1 ≤ p ∧ p ≤ 200)) = true) := Lib.hid hb
      have HG := Lib.hid hg
      obtain ⟨m, hm⟩ : ∃ m, p.toNat = m := ⟨_, rfl⟩
      have hpm : p = (m : Int) := by omega
      subst hpm
      rw [Int.toNat_natCast]
      clear hb hg hm
      go_enter Try.func20, Try.ntmps20
      go_wp2_with (first | (refine (canSing_any A n c xs ((m : Nat) : Int) _ (HU.out.nw (.al _ _)) HN.out hl _ HB.out.symm).mono ?_; rintro e w1 ⟨rfl, hk1⟩; have HK1 := Lib.hid ((Kp.al W _).nw hk1); have hz1 : W.heap.size + 1 ≤ w1.heap.size := (by have := hk1.size; simp only [World.size_alloc] at this; exact this); have HC1 := Lib.hid (keepc hk1 (Own1.new W (.slice A n c) 28).1 (fun h => h)); have hc1 := HC1.out; clear hk1) | ((with_reducible refine (within_yes q _ _ _ q0 q1).mono ?_); rintro e w' ⟨rfl, rfl⟩))
      refine (sungOut_any A n c xs m _ (HU.out.nw HK1.out) HN.out HG.out (by omega) (by omega)).mono ?_
      rintro e w2 ⟨v2, rfl, hs2, hk2⟩
      have HS := Lib.hid hs2
      have HK := Lib.hid (HK1.out.nw hk2)
      clear hs2 hk2
      go_wp2_with fail
      refine (index_any v2 _ q _ HS.out.rd (by rw [soO_length]; omega)).mono ?_
      rintro e w3 ⟨rfl, rfl⟩
      go_wp2
      go_ret2
      exact ⟨rfl, HK.out⟩
    · rw [if_neg (fun h => hq h.2)]
      have hq' : q < 0 ∨ p - 1 < q := by omega
      have HB : Hid ((sgB xs && decide (1 ≤ p ∧ p ≤ 200)) = true) := Lib.hid hb
      have p1 := (asB_parts hb).2.1
      have p2 := (asB_parts hb).2.2
      clear hb hq
      go_enter Try.func20, Try.ntmps20
      go_wp2_with (first | (refine (canSing_any A n c xs p _ (HU.out.nw (.al _ _)) HN.out hl _ HB.out.symm).mono ?_; rintro e w1 ⟨rfl, hk1⟩; have HK1 := Lib.hid ((Kp.al W _).nw hk1); have hz1 : W.heap.size + 1 ≤ w1.heap.size := (by have := hk1.size; simp only [World.size_alloc] at this; exact this); have HC1 := Lib.hid (keepc hk1 (Own1.new W (.slice A n c) 28).1 (fun h => h)); have hc1 := HC1.out; clear hk1) | ((with_reducible refine (within_no q _ _ _ hq').mono ?_); rintro e w' ⟨rfl, rfl⟩))
      go_ret2
      exact ⟨rfl, HK1.out⟩


set_option maxHeartbeats 1600000 in
theorem iSongLeft_is (A : Option Addr) (n c : Nat) (xs : List Int) (p q : Int) (W : World) (hu : Rd W (.slice A n c) xs) (hn : xs.length = n) (hl : n ≤ 2000000) :
    Calls Try.prog 22 #[.agg #[.slice A n c], .int .i64 p, .int .i64 q] W (ListB W (vSoLeft xs p q).1 (vSoLeft xs p q).2) := by
  have HU := Lib.hid hu
  have HN := Lib.hid hn
  clear hu hn
  unfold vSoLeft
  cases hb : asB xs p
  · rw [if_neg (by simp)]
    have HB : Hid ((sgB xs && decide (1 ≤ p ∧ p ≤ 200)) = false) := Lib.hid hb
    clear hb
    go_enter Try.func22, Try.ntmps22
    go_wp2_with (first | (refine (canSing_any A n c xs p _ (HU.out.nw (.al _ _)) HN.out hl _ HB.out.symm).mono ?_; rintro e w1 ⟨rfl, hk1⟩; have HK1 := Lib.hid ((Kp.al W _).nw hk1); have hz1 : W.heap.size + 1 ≤ w1.heap.size := (by have := hk1.size; simp only [World.size_alloc] at this; exact this); have HC1 := Lib.hid (keepc hk1 (Own1.new W (.slice A n c) 28).1 (fun h => h)); have hc1 := HC1.out; clear hk1))
    go_ret2
    exact ⟨_, rfl, Sl.nil _ _, HK1.out⟩
  · by_cases hq : 0 ≤ q ∧ q ≤ p - 1
    · rw [if_pos ⟨rfl, hq⟩]
      obtain ⟨q0, q1⟩ := hq
      obtain ⟨hg, p1, p2⟩ := asB_parts hb
      have HB : Hid ((sgB xs && decide (1 ≤ p ∧ p ≤ 200)) = true) := Lib.hid hb
      have HG := Lib.hid hg
      obtain ⟨m, hm⟩ : ∃ m, p.toNat = m := ⟨_, rfl⟩
      have hpm : p = (m : Int) := by omega
      subst hpm
      rw [Int.toNat_natCast]
      clear hb hg hm
      obtain ⟨t, hm⟩ : ∃ t, q.toNat = t := ⟨_, rfl⟩
      have hpm : q = (t : Int) := by omega
      subst hpm
      rw [Int.toNat_natCast]
      clear hm
      go_enter Try.func22, Try.ntmps22
      go_wp2_with (first | (refine (canSing_any A n c xs ((m : Nat) : Int) _ (HU.out.nw (.al _ _)) HN.out hl _ HB.out.symm).mono ?_; rintro e w1 ⟨rfl, hk1⟩; have HK1 := Lib.hid ((Kp.al W _).nw hk1); have hz1 : W.heap.size + 1 ≤ w1.heap.size := (by have := hk1.size; simp only [World.size_alloc] at this; exact this); have HC1 := Lib.hid (keepc hk1 (Own1.new W (.slice A n c) 28).1 (fun h => h)); have hc1 := HC1.out; clear hk1) | ((with_reducible refine (within_yes _ _ _ _ q0 q1).mono ?_); rintro e w' ⟨rfl, rfl⟩))
      refine (sing_any A n c xs m t _ (HU.out.nw HK1.out) HN.out HG.out (by omega) (by omega) (by omega)).mono ?_
      rintro e w2 ⟨C, L, G, rfl, hP, ⟨k, ps, i, q, hC, hl2, hd, hi, hr⟩, hk, hz1, hz2, hz3⟩
      have hpl : 0 < ps.length := by
        rw [soLP_length _ _ _ (by rw [num_length, marks_length]; omega), num_length, marks_length] at hl2
        omega
      obtain ⟨hi1, hi2⟩ := hi hpl
      have hr2 : rot ps i = soLP xs (num (marks 0 m)) t := hr
      have HC := Lib.hid hC
      have HI := Lib.hid hi1
      have HQ := Lib.hid hi2
      have HD := Lib.hid hd
      have HRR := Lib.hid hr2
      have HK2 := Lib.hid (HK1.out.nw hk)
      clear hP hC hl2 hd hi hr hk hpl hi1 hi2 hr2 hc1
      go_wp2_with fail
      refine (fromNext_any C L m i ps q k _ HC.out HI.out HQ.out HD.out).mono ?_
      rintro e w3 ⟨v3, rfl, hs3, hk3⟩
      rw [HRR.out, ← soL_map, num_snd] at hs3
      have HS := Lib.hid (hs3.from (B' := W.heap.size) HK2.out.size)
      have HK := Lib.hid (HK2.out.nw hk3)
      clear hs3 hk3
      go_wp2
      go_ret2
      exact ⟨_, rfl, HS.out, HK.out⟩
    · rw [if_neg (fun h => hq h.2)]
      have hq' : q < 0 ∨ p - 1 < q := by omega
      have HB : Hid ((sgB xs && decide (1 ≤ p ∧ p ≤ 200)) = true) := Lib.hid hb
      have p1 := (asB_parts hb).2.1
      have p2 := (asB_parts hb).2.2
      clear hb hq
      go_enter Try.func22, Try.ntmps22
      go_wp2_with (first | (refine (canSing_any A n c xs p _ (HU.out.nw (.al _ _)) HN.out hl _ HB.out.symm).mono ?_; rintro e w1 ⟨rfl, hk1⟩; have HK1 := Lib.hid ((Kp.al W _).nw hk1); have hz1 : W.heap.size + 1 ≤ w1.heap.size := (by have := hk1.size; simp only [World.size_alloc] at this; exact this); have HC1 := Lib.hid (keepc hk1 (Own1.new W (.slice A n c) 28).1 (fun h => h)); have hc1 := HC1.out; clear hk1) | ((with_reducible refine (within_no q _ _ _ hq').mono ?_); rintro e w' ⟨rfl, rfl⟩))
      go_ret2
      exact ⟨_, rfl, Sl.nil _ _, HK1.out⟩

set_option maxHeartbeats 1600000 in
/-- two lists are the same -/
theorem equal_any (u v : Value) (xs ys : List Int) (W : World) (hu : Rd W u xs) (hv : Rd W v ys) (hl : xs.length ≤ 1000) (hl2 : ys.length ≤ 1000) :
    Calls Try.prog 42 #[u, v] W fun e w' => e = .returned (.bool (decide (xs = ys))) ∧ Kp Nw W w' := by
  obtain ⟨n, hn⟩ : ∃ n, xs.length = n := ⟨_, rfl⟩
  obtain ⟨m, hm⟩ : ∃ m, ys.length = m := ⟨_, rfl⟩
  obtain ⟨A, c, rfl, hA⟩ := hu
  obtain ⟨B, d, rfl, hB⟩ := hv
  rw [hn] at hl ⊢
  rw [hm] at hl2 ⊢
  have HN := Lib.hid hn
  have HM := Lib.hid hm
  have HA := Lib.hid hA
  have HB := Lib.hid hB
  clear hn hm hA hB
  by_cases e : n = m
  · subst e
    go_enter Try.func42, Try.ntmps42
    go_wp2
    go_loopw [13] (fun i9 wr => ∃ j : Nat, j ≤ n ∧ i9 = .int .i64 j ∧ Hid (xs.take j = ys.take j) ∧ Hid (Kp Nw W wr)) (fun i9 _ => n - (intOf i9).toNat)
    case atStart => exact ⟨0, Nat.zero_le _, rfl, Lib.hid (by simp), Lib.hid (Kp.refl _ _)⟩
    case round =>
      rename_i wr
      obtain ⟨j, hj, rfl, HE, HK⟩ := hrel
      have j0 : (0 : Int) ≤ j := Int.natCast_nonneg _
      by_cases hp : j < n
      · obtain ⟨g1, o1, rfl, c1⟩ := HA.out j (by rw [HN.out]; exact hp)
        obtain ⟨g2, o2, rfl, c2⟩ := HB.out j (by rw [HM.out]; exact hp)
        have hjx : j < xs.length := by rw [HN.out]; exact hp
        have hjy : j < ys.length := by rw [HM.out]; exact hp
        obtain ⟨x, hx⟩ : ∃ x, xs.getD j 0 = x := ⟨_, rfl⟩
        obtain ⟨y, hy⟩ : ∃ y, ys.getD j 0 = y := ⟨_, rfl⟩
        have hx2 : xs[j] = x := by rw [← hx]; simp [List.getD, hjx]
        have hy2 : ys[j] = y := by rw [← hy]; simp [List.getD, hjy]
        have d1 := keepc HK.out c1 (fun h => h)
        have d2 := keepc HK.out c2 (fun h => h)
        rw [hx] at d1
        rw [hy] at d2
        have jn : (j : Int) < n := by omega
        have HTX : Hid (xs.take (j + 1) = xs.take j ++ [x]) := Lib.hid (by rw [List.take_succ_eq_append_getElem hjx, hx2])
        have HTY : Hid (ys.take (j + 1) = ys.take j ++ [y]) := Lib.hid (by rw [List.take_succ_eq_append_getElem hjy, hy2])
        clear hx hy hx2 hy2 hjx hjy c1 c2
        by_cases hxy : x = y
        · subst hxy
          go_wp2_with fail
          go_quiet (fail)
          go_wp2
          go_roundw
          case rel => exact ⟨j + 1, by omega, by go_num, Lib.hid (by rw [HTX.out, HTY.out, HE.out]), Lib.hid (HK.out.drewN _)⟩
          case measure => simp [intOf] <;> omega
        · have hne : (x != y) = true := by simp [hxy]
          have HF : Hid (decide (xs = ys) = false) := Lib.hid (decide_eq_false (fun h => hxy (by
            have h1 := HTX.out
            rw [h, HTY.out] at h1
            have h2 := List.append_inj_right' h1 rfl
            simpa using h2.symm)))
          go_wp2_with fail
          go_quiet (fail)
          go_wp2
          go_ret
          exact ⟨ret_bool HF.out.symm, HK.out.drewN _⟩
      · have e : j = n := by omega
        subst e
        have HF : Hid (decide (xs = ys) = true) := Lib.hid (decide_eq_true (by
          have h := HE.out
          rwa [List.take_of_length_le (by rw [HN.out]; exact Nat.le_refl _), List.take_of_length_le (by rw [HM.out]; exact Nat.le_refl _)] at h))
        go_wp2
        go_ret
        exact ⟨ret_bool HF.out.symm, HK.out⟩
  · have HF : Hid (decide (xs = ys) = false) := Lib.hid (decide_eq_false (fun h => e (by rw [← HN.out, ← HM.out, h])))
    have e1 : ¬ (n : Int) = m := by omega
    have e2 : ((n : Int) != m) = true := by simp; omega
    go_enter Try.func42, Try.ntmps42
    go_wp2
    go_ret
    exact ⟨ret_bool HF.out.symm, Kp.refl _ _⟩


set_option maxHeartbeats 3200000 in
theorem iSameOrder_is (A : Option Addr) (n c : Nat) (xs : List Int) (B : Option Addr) (m d : Nat) (ys : List Int) (p : Int) (W : World) (hu : Rd W (.slice A n c) xs) (hn : xs.length = n) (hl : n ≤ 2000000) (hv : Rd W (.slice B m d) ys) (hm : ys.length = m) (hl2 : m ≤ 2000000) :
    Calls Try.prog 24 #[.agg #[.slice A n c], .agg #[.slice B m d], .int .i64 p] W (Bool2B W (vSame xs ys p).1 (vSame xs ys p).2) := by
  have HU := Lib.hid hu
  have HN := Lib.hid hn
  have HV := Lib.hid hv
  have HM := Lib.hid hm
  clear hu hn hv hm
  unfold vSame
  obtain ⟨q, hq⟩ : ∃ q, asB xs p = q := ⟨_, rfl⟩
  obtain ⟨r, hr⟩ : ∃ r, sgB ys = r := ⟨_, rfl⟩
  have HB : Hid (asB xs p = q) := Lib.hid hq
  have HG2 := Lib.hid hr
  rw [hq, hr]
  cases q
  · rw [if_neg (by simp)]
    clear hq hr
    go_enter Try.func24, Try.ntmps24
    go_wp2_with (first | ((with_reducible refine (canSing_any A n c xs _ _ (HU.out.nw ((Kp.al W _).nw (.al _ _))) HN.out hl _ HB.out.symm).mono ?_); rintro e w1 ⟨rfl, hk1⟩; obtain ⟨kk1, hz1, hc1, hd1⟩ := songs_open _ _ W w1 hk1; have HK1 := Lib.hid kk1; have HC1 := Lib.hid hc1; have HD1 := Lib.hid hd1; clear hk1 kk1))
    go_ret2
    exact ⟨rfl, HK1.out⟩
  · have HG3 : Hid (asB ys p = r) := Lib.hid (by
      have h1 := (asB_parts hq).2
      rw [asB, decide_eq_true h1, hr, Bool.and_true])
    cases r
    · rw [if_neg (by simp)]
      clear hq hr
      go_enter Try.func24, Try.ntmps24
      go_wp2_with (first | ((with_reducible refine (canSing_any A n c xs _ _ (HU.out.nw ((Kp.al W _).nw (.al _ _))) HN.out hl _ HB.out.symm).mono ?_); rintro e w1 ⟨rfl, hk1⟩; obtain ⟨kk1, hz1, hc1, hd1⟩ := songs_open _ _ W w1 hk1; have HK1 := Lib.hid kk1; have HC1 := Lib.hid hc1; have HD1 := Lib.hid hd1; clear hk1 kk1) | ((with_reducible refine (canSing_any B m d ys _ _ (HV.out.nw HK1.out) HM.out hl2 _ HG3.out.symm).mono ?_); rintro e w2 ⟨rfl, hk2⟩; have HK2 := Lib.hid (HK1.out.nw hk2); have HC2 := Lib.hid (keepc hk2 HC1.out (fun h => h)); have HD2 := Lib.hid (keepc hk2 HD1.out (fun h => h)); have hc2 := HC2.out; have hd2 := HD2.out; clear hk2))
      go_ret2
      exact ⟨rfl, HK2.out⟩
    · rw [if_pos ⟨rfl, rfl⟩]
      obtain ⟨hg, p1, p2⟩ := asB_parts hq
      have HG := Lib.hid hg
      obtain ⟨k, hk⟩ : ∃ k, p.toNat = k := ⟨_, rfl⟩
      have hpk : p = (k : Int) := by omega
      subst hpk
      rw [Int.toNat_natCast]
      obtain ⟨b, hb⟩ : ∃ b, decide (soO xs k = soO ys k) = b := ⟨_, rfl⟩
      have HBB : Hid (decide (soO xs k = soO ys k) = b) := Lib.hid hb
      rw [hb]
      clear hq hr hk hg hb
      go_enter Try.func24, Try.ntmps24
      go_wp2_with (first | ((with_reducible refine (canSing_any A n c xs _ _ (HU.out.nw ((Kp.al W _).nw (.al _ _))) HN.out hl _ HB.out.symm).mono ?_); rintro e w1 ⟨rfl, hk1⟩; obtain ⟨kk1, hz1, hc1, hd1⟩ := songs_open _ _ W w1 hk1; have HK1 := Lib.hid kk1; have HC1 := Lib.hid hc1; have HD1 := Lib.hid hd1; clear hk1 kk1) | ((with_reducible refine (canSing_any B m d ys _ _ (HV.out.nw HK1.out) HM.out hl2 _ HG3.out.symm).mono ?_); rintro e w2 ⟨rfl, hk2⟩; have HK2 := Lib.hid (HK1.out.nw hk2); have HC2 := Lib.hid (keepc hk2 HC1.out (fun h => h)); have HD2 := Lib.hid (keepc hk2 HD1.out (fun h => h)); have hc2 := HC2.out; have hd2 := HD2.out; clear hk2))
      go_region_held3 (fun w' => Kp Nw w2 w' ∧ w'.cell? ⟨W.heap.size, 0, none⟩ = some (.slice A n c) ∧ w'.cell? ⟨W.heap.size + 1, 0, none⟩ = some (.slice B m d))
        (first
          | exact ⟨(Kp.refl _ _).drew, HC2.out, HD2.out⟩
          | exact ⟨hkW5, keepc hkW5 HC2.out (fun h => h), keepc hkW5 HD2.out (fun h => h)⟩
          | exact ⟨hkW4, keepc hkW4 HC2.out (fun h => h), keepc hkW4 HD2.out (fun h => h)⟩
          | exact ⟨hkW3, keepc hkW3 HC2.out (fun h => h), keepc hkW3 HD2.out (fun h => h)⟩)
        (first
          | (go_at_call 30
             with_reducible refine (sungOut_any A n c xs k _ (HU.out.nw (HK2.out.nw (‹Kp Nw w2 _ ∧ _›.1))) HN.out HG.out (by omega) (by omega)).mono ?_
             rintro e w3 ⟨v3, rfl, hs3, hk3⟩
             have hkW3 := (‹Kp Nw w2 _ ∧ _›.1).nw hk3)
          | (go_at_call 30
             with_reducible refine (sungOut_any B m d ys k _ (HV.out.nw (HK2.out.nw (‹Kp Nw w2 _ ∧ _›.1))) HM.out HG2.out (by omega) (by omega)).mono ?_
             rintro e w4 ⟨v4, rfl, hs4, hk4⟩
             have hkW4 := (‹Kp Nw w2 _ ∧ _›.1).nw hk4)
          | (go_at_call 42
             refine (equal_any v3 v4 _ _ _ (hs3.rd.nw hk4) hs4.rd (by rw [soO_length]; omega) (by rw [soO_length]; omega)).mono ?_
             rw [HBB.out]
             rintro e w5 ⟨rfl, hk5⟩
             have hkW5 := (‹Kp Nw w2 _ ∧ _›.1).nw hk5)
          | fail)
      have HK5 := Lib.hid (HK2.out.nw hkW5)
      clear hs3 hk3 hkW3 hs4 hk4 hkW4 hk5 hkW5 hc2 hd2
      go_wp2
      go_ret2
      exact ⟨rfl, HK5.out⟩
end Go.Proofs.Ytalikikafcicpab
