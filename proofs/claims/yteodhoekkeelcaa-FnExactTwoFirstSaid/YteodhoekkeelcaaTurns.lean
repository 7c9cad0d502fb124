/- The round of a person or of a turn (findRound), and TwoTurn, TwoAt, TwoRound in the program; no condition but that the numbers are in the chapter's range. -/
import Derived.Test.YteodhoekkeelcaaFind
namespace Go.Proofs.Yteodhoekkeelcaa
open Go.ChangeShapes Go.WideShapes Go.ChangeAt Go.RowKit Go.Shelf

theorem roundsOf_any (p : Nat) (w : World) :
    Calls Try.prog 44 #[.int .i64 p] w fun e w' => e = .returned (.func (.func 48) #[] #[.pointer (some ⟨w.heap.size, 0, none⟩)]) ∧ w.alloc (.cells #[.int .i64 p] 3) = w' :=
  (callsIn_wide.1 (roundsOf_in 3 p w)).mono fun _ _ h => ⟨h.1, h.2.symm⟩

set_option maxRecDepth 100000 in
set_option maxHeartbeats 3200000 in
theorem tt_find (p i k b : Nat) (x : Rnd) (W : World) (hp1 : 1 ≤ p) (hp2 : p ≤ 1000000000000) (hc : W.cell? ⟨b, 0, none⟩ = some (.int .i64 k)) (hk : k ≤ 1000000000000) (hf : First (hasB k) (rounds p) i x) :
    Calls Try.prog 35 #[.int .i64 p, .func (.func 36) #[] #[.pointer (some ⟨b, 0, none⟩)]] W fun e w' => e = .returned (.tuple #[rndV x, .int .i64 i]) ∧ Kp Nw W w' := by
  have hall : ∀ x ∈ rounds p, 1 ≤ x.g ∧ x.g ≤ 4000000000000 ∧ x.b ≤ 1000000000000 ∧ x.s ≤ 1000000000000 := fun x hx => by
    have := rnds_all p hp1 hp2 p 0 1 p 1 (Nat.le_refl _) (Fit.start p hp1) x hx
    exact ⟨this.1, this.2.1, this.2.2.1, this.2.2.2.1⟩
  obtain ⟨n, hn⟩ : ∃ n, (rounds p).length = n := ⟨_, rfl⟩
  have hn2 : n ≤ 41 := by have := rounds_len p hp2; omega
  have hi : i < n := by rw [← hn]; exact (List.getElem?_eq_some_iff.1 hf.get).1
  have HF := Lib.hid hf
  have HA := Lib.hid hall
  have HN := Lib.hid hn
  have HC := Lib.hid hc
  clear hf hall hn hc
  go_enter Try.func35, Try.ntmps35
  go_wp2_with (first | ((with_reducible refine (roundsOf_any p _).mono ?_); rintro e w' ⟨rfl, rfl⟩))
  refine (collect_any p (W.heap.size + 1) _ hp1 hp2 (by simp)).mono ?_
  rintro e w1 ⟨v, rfl, hs, hk1⟩
  rw [HN.out] at hs
  obtain ⟨m, hm⟩ : ∃ m, n = m + 1 := ⟨n - 1, by omega⟩
  have hs' := hs
  rw [hm] at hs'
  obtain ⟨G, cap, hv⟩ := ownsRow_succ hs'
  rw [← hm] at hv
  subst hv
  clear hs'
  have K0 : Kp Nw W ((W.alloc (.cells #[.int .i64 0, .int .i64 0, .int .i64 0, .int .i64 0] 40)).alloc (.cells #[.int .i64 (p : Int)] 3)) := (Kp.al _ _).nw (.al _ _)
  have HS := Lib.hid hs
  have HK1 := Lib.hid (K0.nw hk1)
  have B1 := Lib.hid (Bk4.nw (w := W.alloc (.cells #[.int .i64 0, .int .i64 0, .int .i64 0, .int .i64 0] 40)) (b := W.heap.size) (heap_alloc_new W _) ((Kp.al _ (.cells #[.int .i64 (p : Int)] 3)).nw hk1))
  clear hs hk1 hm
  go_wp2_with fail
  refine (tt_index _ G n cap i k b (rounds p) x w1 HS.out HN.out (by omega) (keepc HK1.out HC.out (fun h => h)) hk HA.out HF.out).mono ?_
  rintro e w2 ⟨rfl, hk2⟩
  obtain ⟨d0, d1, d2, d3⟩ := row_cells HS.out i x HF.out.get
  have c0 := keepc hk2 d0 (fun h => h)
  have c1 := keepc hk2 d1 (fun h => h)
  have c2 := keepc hk2 d2 (fun h => h)
  have c3 := keepc hk2 d3 (fun h => h)
  have HK2 := Lib.hid (HK1.out.nw hk2)
  have B2 := B1.out.nw hk2
  have f0 := B2.frozen 0
  have f1 := B2.frozen 1
  have f2 := B2.frozen 2
  have f3 := B2.frozen 3
  have z0 := B2.cell 0
  have z1 := B2.cell 1
  have z2 := B2.cell 2
  have z3 := B2.cell 3
  simp at z0 z1 z2 z3
  have i0 : (0 : Int) ≤ i := Int.natCast_nonneg _
  have i1 : (i : Int) < n := by omega
  have HB2 := Lib.hid B2
  clear hk2 d0 d1 d2 d3 B2
  go_wp2
  have HB4 := (((HB2.out.set 0 (.int .i64 (x.f : Int))).set 1 (.int .i64 (x.g : Int))).set 2 (.int .i64 (x.s : Int))).set 3 (.int .i64 (x.b : Int))
  have y0 := HB4.cell 0
  have y1 := HB4.cell 1
  have y2 := HB4.cell 2
  have y3 := HB4.cell 3
  simp at y0 y1 y2 y3
  refine bodyPost_ret (v := .tuple #[rndV x, .int .i64 i]) (by simp [results, Try.results35, go_sem, y0, y1, y2, y3, rndV, rndC]) rfl ⟨rfl, ?_⟩
  exact (((HK2.out.setCell (.inr (Nat.le_refl _)) _).setCell (.inr (Nat.le_refl _)) _).setCell (.inr (Nat.le_refl _)) _).setCell (.inr (Nat.le_refl _)) _

set_option maxRecDepth 100000 in
set_option maxHeartbeats 3200000 in
theorem tr_find (p i k b : Nat) (x : Rnd) (W : World) (hp1 : 1 ≤ p) (hp2 : p ≤ 1000000000000) (hc : W.cell? ⟨b, 0, none⟩ = some (.int .i64 k)) (hk : k ≤ 1000000000000) (hf : First (hasB k) (rounds p) i x) :
    Calls Try.prog 35 #[.int .i64 p, .func (.func 42) #[] #[.pointer (some ⟨b, 0, none⟩)]] W fun e w' => e = .returned (.tuple #[rndV x, .int .i64 i]) ∧ Kp Nw W w' := by
  have hall : ∀ x ∈ rounds p, 1 ≤ x.g ∧ x.g ≤ 4000000000000 ∧ x.b ≤ 1000000000000 ∧ x.s ≤ 1000000000000 := fun x hx => by
    have := rnds_all p hp1 hp2 p 0 1 p 1 (Nat.le_refl _) (Fit.start p hp1) x hx
    exact ⟨this.1, this.2.1, this.2.2.1, this.2.2.2.1⟩
  obtain ⟨n, hn⟩ : ∃ n, (rounds p).length = n := ⟨_, rfl⟩
  have hn2 : n ≤ 41 := by have := rounds_len p hp2; omega
  have hi : i < n := by rw [← hn]; exact (List.getElem?_eq_some_iff.1 hf.get).1
  have HF := Lib.hid hf
  have HA := Lib.hid hall
  have HN := Lib.hid hn
  have HC := Lib.hid hc
  clear hf hall hn hc
  go_enter Try.func35, Try.ntmps35
  go_wp2_with (first | ((with_reducible refine (roundsOf_any p _).mono ?_); rintro e w' ⟨rfl, rfl⟩))
  refine (collect_any p (W.heap.size + 1) _ hp1 hp2 (by simp)).mono ?_
  rintro e w1 ⟨v, rfl, hs, hk1⟩
  rw [HN.out] at hs
  obtain ⟨m, hm⟩ : ∃ m, n = m + 1 := ⟨n - 1, by omega⟩
  have hs' := hs
  rw [hm] at hs'
  obtain ⟨G, cap, hv⟩ := ownsRow_succ hs'
  rw [← hm] at hv
  subst hv
  clear hs'
  have K0 : Kp Nw W ((W.alloc (.cells #[.int .i64 0, .int .i64 0, .int .i64 0, .int .i64 0] 40)).alloc (.cells #[.int .i64 (p : Int)] 3)) := (Kp.al _ _).nw (.al _ _)
  have HS := Lib.hid hs
  have HK1 := Lib.hid (K0.nw hk1)
  have B1 := Lib.hid (Bk4.nw (w := W.alloc (.cells #[.int .i64 0, .int .i64 0, .int .i64 0, .int .i64 0] 40)) (b := W.heap.size) (heap_alloc_new W _) ((Kp.al _ (.cells #[.int .i64 (p : Int)] 3)).nw hk1))
  clear hs hk1 hm
  go_wp2_with fail
  refine (tr_index _ G n cap i k b (rounds p) x w1 HS.out HN.out (by omega) (keepc HK1.out HC.out (fun h => h)) hk HA.out HF.out).mono ?_
  rintro e w2 ⟨rfl, hk2⟩
  obtain ⟨d0, d1, d2, d3⟩ := row_cells HS.out i x HF.out.get
  have c0 := keepc hk2 d0 (fun h => h)
  have c1 := keepc hk2 d1 (fun h => h)
  have c2 := keepc hk2 d2 (fun h => h)
  have c3 := keepc hk2 d3 (fun h => h)
  have HK2 := Lib.hid (HK1.out.nw hk2)
  have B2 := B1.out.nw hk2
  have f0 := B2.frozen 0
  have f1 := B2.frozen 1
  have f2 := B2.frozen 2
  have f3 := B2.frozen 3
  have z0 := B2.cell 0
  have z1 := B2.cell 1
  have z2 := B2.cell 2
  have z3 := B2.cell 3
  simp at z0 z1 z2 z3
  have i0 : (0 : Int) ≤ i := Int.natCast_nonneg _
  have i1 : (i : Int) < n := by omega
  have HB2 := Lib.hid B2
  clear hk2 d0 d1 d2 d3 B2
  go_wp2
  have HB4 := (((HB2.out.set 0 (.int .i64 (x.f : Int))).set 1 (.int .i64 (x.g : Int))).set 2 (.int .i64 (x.s : Int))).set 3 (.int .i64 (x.b : Int))
  have y0 := HB4.cell 0
  have y1 := HB4.cell 1
  have y2 := HB4.cell 2
  have y3 := HB4.cell 3
  simp at y0 y1 y2 y3
  refine bodyPost_ret (v := .tuple #[rndV x, .int .i64 i]) (by simp [results, Try.results35, go_sem, y0, y1, y2, y3, rndV, rndC]) rfl ⟨rfl, ?_⟩
  exact (((HK2.out.setCell (.inr (Nat.le_refl _)) _).setCell (.inr (Nat.le_refl _)) _).setCell (.inr (Nat.le_refl _)) _).setCell (.inr (Nat.le_refl _)) _

set_option maxRecDepth 100000 in
set_option maxHeartbeats 3200000 in
theorem ta_find (p i k b : Nat) (x : Rnd) (W : World) (hp1 : 1 ≤ p) (hp2 : p ≤ 1000000000000) (hc : W.cell? ⟨b, 0, none⟩ = some (.int .i64 k)) (hk : k ≤ 1000000000000) (hf : First (ltB k) (rounds p) i x) :
    Calls Try.prog 35 #[.int .i64 p, .func (.func 40) #[] #[.pointer (some ⟨b, 0, none⟩)]] W fun e w' => e = .returned (.tuple #[rndV x, .int .i64 i]) ∧ Kp Nw W w' := by
  have hall : ∀ x ∈ rounds p, 1 ≤ x.g ∧ x.g ≤ 4000000000000 ∧ x.b ≤ 1000000000000 ∧ x.s ≤ 1000000000000 := fun x hx => by
    have := rnds_all p hp1 hp2 p 0 1 p 1 (Nat.le_refl _) (Fit.start p hp1) x hx
    exact ⟨this.1, this.2.1, this.2.2.1, this.2.2.2.1⟩
  obtain ⟨n, hn⟩ : ∃ n, (rounds p).length = n := ⟨_, rfl⟩
  have hn2 : n ≤ 41 := by have := rounds_len p hp2; omega
  have hi : i < n := by rw [← hn]; exact (List.getElem?_eq_some_iff.1 hf.get).1
  have HF := Lib.hid hf
  have HA := Lib.hid hall
  have HN := Lib.hid hn
  have HC := Lib.hid hc
  clear hf hall hn hc
  go_enter Try.func35, Try.ntmps35
  go_wp2_with (first | ((with_reducible refine (roundsOf_any p _).mono ?_); rintro e w' ⟨rfl, rfl⟩))
  refine (collect_any p (W.heap.size + 1) _ hp1 hp2 (by simp)).mono ?_
  rintro e w1 ⟨v, rfl, hs, hk1⟩
  rw [HN.out] at hs
  obtain ⟨m, hm⟩ : ∃ m, n = m + 1 := ⟨n - 1, by omega⟩
  have hs' := hs
  rw [hm] at hs'
  obtain ⟨G, cap, hv⟩ := ownsRow_succ hs'
  rw [← hm] at hv
  subst hv
  clear hs'
  have K0 : Kp Nw W ((W.alloc (.cells #[.int .i64 0, .int .i64 0, .int .i64 0, .int .i64 0] 40)).alloc (.cells #[.int .i64 (p : Int)] 3)) := (Kp.al _ _).nw (.al _ _)
  have HS := Lib.hid hs
  have HK1 := Lib.hid (K0.nw hk1)
  have B1 := Lib.hid (Bk4.nw (w := W.alloc (.cells #[.int .i64 0, .int .i64 0, .int .i64 0, .int .i64 0] 40)) (b := W.heap.size) (heap_alloc_new W _) ((Kp.al _ (.cells #[.int .i64 (p : Int)] 3)).nw hk1))
  clear hs hk1 hm
  go_wp2_with fail
  refine (ta_index _ G n cap i k b (rounds p) x w1 HS.out HN.out (by omega) (keepc HK1.out HC.out (fun h => h)) hk HA.out HF.out).mono ?_
  rintro e w2 ⟨rfl, hk2⟩
  obtain ⟨d0, d1, d2, d3⟩ := row_cells HS.out i x HF.out.get
  have c0 := keepc hk2 d0 (fun h => h)
  have c1 := keepc hk2 d1 (fun h => h)
  have c2 := keepc hk2 d2 (fun h => h)
  have c3 := keepc hk2 d3 (fun h => h)
  have HK2 := Lib.hid (HK1.out.nw hk2)
  have B2 := B1.out.nw hk2
  have f0 := B2.frozen 0
  have f1 := B2.frozen 1
  have f2 := B2.frozen 2
  have f3 := B2.frozen 3
  have z0 := B2.cell 0
  have z1 := B2.cell 1
  have z2 := B2.cell 2
  have z3 := B2.cell 3
  simp at z0 z1 z2 z3
  have i0 : (0 : Int) ≤ i := Int.natCast_nonneg _
  have i1 : (i : Int) < n := by omega
  have HB2 := Lib.hid B2
  clear hk2 d0 d1 d2 d3 B2
  go_wp2
  have HB4 := (((HB2.out.set 0 (.int .i64 (x.f : Int))).set 1 (.int .i64 (x.g : Int))).set 2 (.int .i64 (x.s : Int))).set 3 (.int .i64 (x.b : Int))
  have y0 := HB4.cell 0
  have y1 := HB4.cell 1
  have y2 := HB4.cell 2
  have y3 := HB4.cell 3
  simp at y0 y1 y2 y3
  refine bodyPost_ret (v := .tuple #[rndV x, .int .i64 i]) (by simp [results, Try.results35, go_sem, y0, y1, y2, y3, rndV, rndC]) rfl ⟨rfl, ?_⟩
  exact (((HK2.out.setCell (.inr (Nat.le_refl _)) _).setCell (.inr (Nat.le_refl _)) _).setCell (.inr (Nat.le_refl _)) _).setCell (.inr (Nat.le_refl _)) _

set_option maxRecDepth 100000 in
set_option maxHeartbeats 3200000 in
theorem iTwoTurn_yes (p i k : Nat) (x : Rnd) (W : World) (h : In p 1 1000000000000) (hk : k < p) (hf : First (hasB k) (rounds p) i x) (hx : 1 ≤ x.g ∧ x.f ≤ k ∧ x.b ≤ 1000000000000) :
    Calls Try.prog 13 #[.int .i64 p, .int .i64 k] W (IntB W (x.b + (k - x.f) / x.g : Nat) true) := by
  have h1 := h.lo; have h2 := h.hi
  have k0 : (0 : Int) ≤ k := Int.natCast_nonneg _
  have k1 : (k : Int) ≤ p - 1 := by omega
  have HF := Lib.hid hf
  clear hf
  go_enter Try.func13, Try.ntmps13
  go_wp2_with (first | ((with_reducible refine (isMany_yes _ _ h).mono ?_); rintro e w' ⟨rfl, rfl⟩) | ((with_reducible refine (within_yes _ _ _ _ (by omega) (by omega)).mono ?_); rintro e w' ⟨rfl, rfl⟩))
  refine (tt_find p i k W.heap.size x _ (by omega) (by omega) (by simp) (by omega) HF.out).mono ?_
  rintro e w1 ⟨rfl, hk1⟩
  have c0 := keepc hk1 (show (W.alloc (.cells #[.int .i64 (k : Int)] 3)).cell? ⟨W.heap.size, 0, none⟩ = some (.int .i64 (k : Int)) by simp) (fun h => h)
  have HK1 := Lib.hid ((Kp.al _ _).nw hk1)
  have hz : W.heap.size + 1 ≤ w1.heap.size := by have := hk1.size; simp at this; omega
  have c1 := keepc (Kp.al w1 (.cells #[.int .i64 (x.f : Int), .int .i64 (x.g : Int), .int .i64 (x.s : Int), .int .i64 (x.b : Int)] 40)) c0 (fun h => h)
  clear hk1
  unfold rndV rndC
  have CC := fun w => Lib.hid (turnOf_any x k w hx.1 hx.2.1 hx.2.2 (by omega))
  unfold rndV rndC at CC
  go_wp2_with fail
  refine (CC _).out.mono ?_
  rintro e w2 ⟨rfl, hk2⟩
  have HK2 := Lib.hid (((HK1.out.alloc _).nw hk2))
  clear hk2
  go_wp2
  go_ret2
  exact ⟨rfl, HK2.out⟩

theorem iTwoTurn_no1 (p k : Int) (W : World) (h : ¬ In p 1 1000000000000) : Calls Try.prog 13 #[.int .i64 p, .int .i64 k] W (IntB W 0 false) := by
  go_enter Try.func13, Try.ntmps13
  go_wp2_with (first | ((with_reducible refine (isMany_no _ _ h).mono ?_); rintro e w' ⟨rfl, rfl⟩))
  go_ret2
  exact ⟨rfl, Kp.al _ _⟩

set_option maxHeartbeats 800000 in
theorem iTwoTurn_no2 (p k : Int) (W : World) (h : In p 1 1000000000000) (hk : k < 0 ∨ p - 1 < k) : Calls Try.prog 13 #[.int .i64 p, .int .i64 k] W (IntB W 0 false) := by
  have h1 := h.lo; have h2 := h.hi
  go_enter Try.func13, Try.ntmps13
  go_wp2_with (first | ((with_reducible refine (isMany_yes _ _ h).mono ?_); rintro e w' ⟨rfl, rfl⟩) | ((with_reducible refine (within_no _ _ _ _ (by omega)).mono ?_); rintro e w' ⟨rfl, rfl⟩))
  go_ret2
  exact ⟨rfl, Kp.al _ _⟩

set_option maxRecDepth 100000 in
set_option maxHeartbeats 3200000 in
theorem iTwoAt_yes (p i k : Nat) (x : Rnd) (W : World) (h : In p 1 1000000000000) (hk : k < p) (hf : First (ltB k) (rounds p) i x) (hx : x.b ≤ k ∧ (k - x.b) * x.g ≤ 1000000000000 ∧ x.f ≤ 4000000000000) :
    Calls Try.prog 15 #[.int .i64 p, .int .i64 k] W (IntB W (x.f + (k - x.b) * x.g : Nat) true) := by
  have h1 := h.lo; have h2 := h.hi
  have k0 : (0 : Int) ≤ k := Int.natCast_nonneg _
  have k1 : (k : Int) ≤ p - 1 := by omega
  have HF := Lib.hid hf
  clear hf
  go_enter Try.func15, Try.ntmps15
  go_wp2_with (first | ((with_reducible refine (isMany_yes _ _ h).mono ?_); rintro e w' ⟨rfl, rfl⟩) | ((with_reducible refine (within_yes _ _ _ _ (by omega) (by omega)).mono ?_); rintro e w' ⟨rfl, rfl⟩))
  refine (ta_find p i k W.heap.size x _ (by omega) (by omega) (by simp) (by omega) HF.out).mono ?_
  rintro e w1 ⟨rfl, hk1⟩
  have c0 := keepc hk1 (show (W.alloc (.cells #[.int .i64 (k : Int)] 3)).cell? ⟨W.heap.size, 0, none⟩ = some (.int .i64 (k : Int)) by simp) (fun h => h)
  have HK1 := Lib.hid ((Kp.al _ _).nw hk1)
  have hz : W.heap.size + 1 ≤ w1.heap.size := by have := hk1.size; simp at this; omega
  have c1 := keepc (Kp.al w1 (.cells #[.int .i64 (x.f : Int), .int .i64 (x.g : Int), .int .i64 (x.s : Int), .int .i64 (x.b : Int)] 40)) c0 (fun h => h)
  clear hk1
  unfold rndV rndC
  have CC := fun w => Lib.hid (at_any x k (k - x.b) ((k - x.b) * x.g) w (by omega) rfl hx.2.1 hx.2.2 (by omega))
  unfold rndV rndC at CC
  go_wp2_with fail
  refine (CC _).out.mono ?_
  rintro e w2 ⟨rfl, hk2⟩
  have HK2 := Lib.hid (((HK1.out.alloc _).nw hk2))
  clear hk2
  go_wp2
  go_ret2
  exact ⟨rfl, HK2.out⟩

theorem iTwoAt_no1 (p k : Int) (W : World) (h : ¬ In p 1 1000000000000) : Calls Try.prog 15 #[.int .i64 p, .int .i64 k] W (IntB W 0 false) := by
  go_enter Try.func15, Try.ntmps15
  go_wp2_with (first | ((with_reducible refine (isMany_no _ _ h).mono ?_); rintro e w' ⟨rfl, rfl⟩))
  go_ret2
  exact ⟨rfl, Kp.al _ _⟩

set_option maxHeartbeats 800000 in
theorem iTwoAt_no2 (p k : Int) (W : World) (h : In p 1 1000000000000) (hk : k < 0 ∨ p - 1 < k) : Calls Try.prog 15 #[.int .i64 p, .int .i64 k] W (IntB W 0 false) := by
  have h1 := h.lo; have h2 := h.hi
  go_enter Try.func15, Try.ntmps15
  go_wp2_with (first | ((with_reducible refine (isMany_yes _ _ h).mono ?_); rintro e w' ⟨rfl, rfl⟩) | ((with_reducible refine (within_no _ _ _ _ (by omega)).mono ?_); rintro e w' ⟨rfl, rfl⟩))
  go_ret2
  exact ⟨rfl, Kp.al _ _⟩

set_option maxRecDepth 100000 in
set_option maxHeartbeats 3200000 in
theorem iTwoRound_yes (p i k : Nat) (x : Rnd) (W : World) (h : In p 1 1000000000000) (hk : k < p) (hf : First (hasB k) (rounds p) i x) :
    Calls Try.prog 17 #[.int .i64 p, .int .i64 k] W (IntB W (i : Nat) true) := by
  have h1 := h.lo; have h2 := h.hi
  have k0 : (0 : Int) ≤ k := Int.natCast_nonneg _
  have k1 : (k : Int) ≤ p - 1 := by omega
  have HF := Lib.hid hf
  clear hf
  go_enter Try.func17, Try.ntmps17
  go_wp2_with (first | ((with_reducible refine (isMany_yes _ _ h).mono ?_); rintro e w' ⟨rfl, rfl⟩) | ((with_reducible refine (within_yes _ _ _ _ (by omega) (by omega)).mono ?_); rintro e w' ⟨rfl, rfl⟩))
  refine (tr_find p i k W.heap.size x _ (by omega) (by omega) (by simp) (by omega) HF.out).mono ?_
  rintro e w1 ⟨rfl, hk1⟩
  have c0 := keepc hk1 (show (W.alloc (.cells #[.int .i64 (k : Int)] 3)).cell? ⟨W.heap.size, 0, none⟩ = some (.int .i64 (k : Int)) by simp) (fun h => h)
  have HK1 := Lib.hid ((Kp.al _ _).nw hk1)
  have hz : W.heap.size + 1 ≤ w1.heap.size := by have := hk1.size; simp at this; omega
  have c1 := keepc (Kp.al w1 (.cells #[.int .i64 (x.f : Int), .int .i64 (x.g : Int), .int .i64 (x.s : Int), .int .i64 (x.b : Int)] 40)) c0 (fun h => h)
  clear hk1
  unfold rndV rndC
  go_wp2
  go_ret2
  exact ⟨rfl, HK1.out.alloc _⟩

theorem iTwoRound_no1 (p k : Int) (W : World) (h : ¬ In p 1 1000000000000) : Calls Try.prog 17 #[.int .i64 p, .int .i64 k] W (IntB W 0 false) := by
  go_enter Try.func17, Try.ntmps17
  go_wp2_with (first | ((with_reducible refine (isMany_no _ _ h).mono ?_); rintro e w' ⟨rfl, rfl⟩))
  go_ret2
  exact ⟨rfl, Kp.al _ _⟩

set_option maxHeartbeats 800000 in
theorem iTwoRound_no2 (p k : Int) (W : World) (h : In p 1 1000000000000) (hk : k < 0 ∨ p - 1 < k) : Calls Try.prog 17 #[.int .i64 p, .int .i64 k] W (IntB W 0 false) := by
  have h1 := h.lo; have h2 := h.hi
  go_enter Try.func17, Try.ntmps17
  go_wp2_with (first | ((with_reducible refine (isMany_yes _ _ h).mono ?_); rintro e w' ⟨rfl, rfl⟩) | ((with_reducible refine (within_no _ _ _ _ (by omega)).mono ?_); rintro e w' ⟨rfl, rfl⟩))
  go_ret2
  exact ⟨rfl, Kp.al _ _⟩
end Go.Proofs.Yteodhoekkeelcaa
