/- A ring told from another place (TurnRing), in the program and in its model: both are the same; no condition but that the ring's slice is at the head of a row of its own. -/
import Derived.Test.YtecenaijecokeaaStepFn
namespace Go.Proofs.Ytecenaijecokeaa
open Go.ChangeShapes Go.WideShapes Go.ChangeAt Go.RowKit

set_option maxHeartbeats 800000 in
theorem sTurnRing_no (g n : Nat) (xs : List Int) (k t : Int) (B : Nat) (W : World) (hs : SlAt W B g n n xs) (hl : n ≤ 1048576) (hb : goodB xs k = false) :
    Calls Try.prog 53 #[.agg #[.slice (some ⟨g, 0, none⟩) n n, .int .i64 k], .int .i64 t] W (RingRes0 W [] 0 false) := by
  have hl' : n ≤ 2000000 := by omega
  have HS := Lib.hid hs
  have HB := Lib.hid hb
  clear hs hb
  go_enter Try.func53, Try.ntmps53
  go_wp2_with fail
  refine (ciGood_any g n n xs k B _ ((HS.out.alloc (.cells #[.slice (some ⟨g, 0, none⟩) n n, .int .i64 k] 37)).alloc (.cells #[.slice none 0 0, .int .i64 0] 37)) (Nat.le_refl _) (by omega) false HB.out.symm).mono ?_
  rintro e w1 ⟨rfl, hk1⟩
  have t0 := Lib.hid (((Own2.new W (.slice (some ⟨g, 0, none⟩) n n) (.int .i64 k) 37).kp (.al _ (.cells #[.slice none 0 0, .int .i64 0] 37)) (fun h => h)).kp hk1 (fun h => h))
  have r0 := Lib.hid ((Own2.new (W.alloc (.cells #[.slice (some ⟨g, 0, none⟩) n n, .int .i64 k] 37)) (.slice none 0 0) (.int .i64 0) 37).kp hk1 (fun h => h))
  have HK1 := Lib.hid (((Kp.al W (.cells #[.slice (some ⟨g, 0, none⟩) n n, .int .i64 k] 37)).nw (.al _ (.cells #[.slice none 0 0, .int .i64 0] 37))).nw hk1)
  have z1 : W.heap.size + 2 ≤ w1.heap.size := by have := hk1.size; simp at this; omega
  clear hk1
  obtain ⟨b0, b1, b2, b3⟩ := r0.out
  rw [World.size_alloc] at b0 b1 b2 b3
  obtain ⟨y0, y1⟩ := two_set w1 (W.heap.size + 1) (.slice none 0 0) (.int .i64 0) _ _ b0 b1
  obtain ⟨a0, a1, a2, a3⟩ := t0.out
  go_wp2
  exact bodyPost_ret (v := .tuple #[.agg #[.slice none 0 0, .int .i64 0], .bool false]) (by simp [results, Try.results53, go_sem, y0, y1]) rfl ⟨_, rfl, Sl.nil _ _, (HK1.out.setCell (.inr (by show W.heap.size ≤ W.heap.size + 1; omega)) _).setCell (.inr (by show W.heap.size ≤ W.heap.size + 1; omega)) _⟩

set_option maxHeartbeats 800000 in
theorem sTurnRing_off (g n : Nat) (xs : List Int) (k t : Int) (B : Nat) (W : World) (hs : SlAt W B g n n xs) (hb : goodB xs k = true) (ht : t < 0 ∨ (n : Int) - 1 < t) :
    Calls Try.prog 53 #[.agg #[.slice (some ⟨g, 0, none⟩) n n, .int .i64 k], .int .i64 t] W (RingRes0 W [] 0 false) := by
  obtain ⟨n1, n2, k1, k2⟩ := goodB_parts hb
  have hn := hs.1
  have HS := Lib.hid hs
  have HB := Lib.hid hb
  have HN := Lib.hid hn
  rw [hn] at n1 n2
  clear hs hb hn
  go_enter Try.func53, Try.ntmps53
  go_wp2_with fail
  refine (ciGood_any g n n xs k B _ ((HS.out.alloc (.cells #[.slice (some ⟨g, 0, none⟩) n n, .int .i64 k] 37)).alloc (.cells #[.slice none 0 0, .int .i64 0] 37)) (Nat.le_refl _) (by omega) true HB.out.symm).mono ?_
  rintro e w1 ⟨rfl, hk1⟩
  have t0 := Lib.hid (((Own2.new W (.slice (some ⟨g, 0, none⟩) n n) (.int .i64 k) 37).kp (.al _ (.cells #[.slice none 0 0, .int .i64 0] 37)) (fun h => h)).kp hk1 (fun h => h))
  have r0 := Lib.hid ((Own2.new (W.alloc (.cells #[.slice (some ⟨g, 0, none⟩) n n, .int .i64 k] 37)) (.slice none 0 0) (.int .i64 0) 37).kp hk1 (fun h => h))
  have HK1 := Lib.hid (((Kp.al W (.cells #[.slice (some ⟨g, 0, none⟩) n n, .int .i64 k] 37)).nw (.al _ (.cells #[.slice none 0 0, .int .i64 0] 37))).nw hk1)
  have z1 : W.heap.size + 2 ≤ w1.heap.size := by have := hk1.size; simp at this; omega
  clear hk1
  obtain ⟨a0, a1, a2, a3⟩ := t0.out
  go_wp2_with fail
  refine (l1In_no t _ _ _ ht).mono ?_
  rintro e w' ⟨rfl, rfl⟩
  clear a0 a1 a2 a3
  obtain ⟨b0, b1, b2, b3⟩ := r0.out
  rw [World.size_alloc] at b0 b1 b2 b3
  obtain ⟨y0, y1⟩ := two_set w1 (W.heap.size + 1) (.slice none 0 0) (.int .i64 0) _ _ b0 b1
  obtain ⟨a0, a1, a2, a3⟩ := t0.out
  go_wp2
  exact bodyPost_ret (v := .tuple #[.agg #[.slice none 0 0, .int .i64 0], .bool false]) (by simp [results, Try.results53, go_sem, y0, y1]) rfl ⟨_, rfl, Sl.nil _ _, (HK1.out.setCell (.inr (by show W.heap.size ≤ W.heap.size + 1; omega)) _).setCell (.inr (by show W.heap.size ≤ W.heap.size + 1; omega)) _⟩

set_option maxHeartbeats 800000 in
theorem iTurnRing_no (g n : Nat) (xs : List Int) (k t : Int) (B : Nat) (W : World) (hs : SlAt W B g n n xs) (hl : n ≤ 1048576) (hb : goodB xs k = false) :
    Calls Try.prog 54 #[.agg #[.slice (some ⟨g, 0, none⟩) n n, .int .i64 k], .int .i64 t] W (RingRes0 W [] 0 false) := by
  have hl' : n ≤ 2000000 := by omega
  have HS := Lib.hid hs
  have HB := Lib.hid hb
  clear hs hb
  go_enter Try.func54, Try.ntmps54
  go_wp2_with fail
  refine (iIsRing_any g n n xs k B _ ((HS.out.alloc (.cells #[.slice (some ⟨g, 0, none⟩) n n, .int .i64 k] 37)).alloc (.cells #[.slice none 0 0, .int .i64 0] 37))).mono ?_
  rintro e w1 ⟨rfl, hk1⟩
  rw [HB.out]
  have t0 := Lib.hid (((Own2.new W (.slice (some ⟨g, 0, none⟩) n n) (.int .i64 k) 37).kp (.al _ (.cells #[.slice none 0 0, .int .i64 0] 37)) (fun h => h)).kp hk1 (fun h => h))
  have r0 := Lib.hid ((Own2.new (W.alloc (.cells #[.slice (some ⟨g, 0, none⟩) n n, .int .i64 k] 37)) (.slice none 0 0) (.int .i64 0) 37).kp hk1 (fun h => h))
  have HK1 := Lib.hid (((Kp.al W (.cells #[.slice (some ⟨g, 0, none⟩) n n, .int .i64 k] 37)).nw (.al _ (.cells #[.slice none 0 0, .int .i64 0] 37))).nw hk1)
  have z1 : W.heap.size + 2 ≤ w1.heap.size := by have := hk1.size; simp at this; omega
  clear hk1
  obtain ⟨b0, b1, b2, b3⟩ := r0.out
  rw [World.size_alloc] at b0 b1 b2 b3
  obtain ⟨y0, y1⟩ := two_set w1 (W.heap.size + 1) (.slice none 0 0) (.int .i64 0) _ _ b0 b1
  obtain ⟨a0, a1, a2, a3⟩ := t0.out
  go_wp2
  exact bodyPost_ret (v := .tuple #[.agg #[.slice none 0 0, .int .i64 0], .bool false]) (by simp [results, Try.results54, go_sem, y0, y1]) rfl ⟨_, rfl, Sl.nil _ _, (HK1.out.setCell (.inr (by show W.heap.size ≤ W.heap.size + 1; omega)) _).setCell (.inr (by show W.heap.size ≤ W.heap.size + 1; omega)) _⟩

set_option maxHeartbeats 800000 in
theorem iTurnRing_off (g n : Nat) (xs : List Int) (k t : Int) (B : Nat) (W : World) (hs : SlAt W B g n n xs) (hb : goodB xs k = true) (ht : t < 0 ∨ (n : Int) - 1 < t) :
    Calls Try.prog 54 #[.agg #[.slice (some ⟨g, 0, none⟩) n n, .int .i64 k], .int .i64 t] W (RingRes0 W [] 0 false) := by
  obtain ⟨n1, n2, k1, k2⟩ := goodB_parts hb
  have hn := hs.1
  have HS := Lib.hid hs
  have HB := Lib.hid hb
  have HN := Lib.hid hn
  rw [hn] at n1 n2
  clear hs hb hn
  go_enter Try.func54, Try.ntmps54
  go_wp2_with fail
  refine (iIsRing_any g n n xs k B _ ((HS.out.alloc (.cells #[.slice (some ⟨g, 0, none⟩) n n, .int .i64 k] 37)).alloc (.cells #[.slice none 0 0, .int .i64 0] 37))).mono ?_
  rintro e w1 ⟨rfl, hk1⟩
  rw [HB.out]
  have t0 := Lib.hid (((Own2.new W (.slice (some ⟨g, 0, none⟩) n n) (.int .i64 k) 37).kp (.al _ (.cells #[.slice none 0 0, .int .i64 0] 37)) (fun h => h)).kp hk1 (fun h => h))
  have r0 := Lib.hid ((Own2.new (W.alloc (.cells #[.slice (some ⟨g, 0, none⟩) n n, .int .i64 k] 37)) (.slice none 0 0) (.int .i64 0) 37).kp hk1 (fun h => h))
  have HK1 := Lib.hid (((Kp.al W (.cells #[.slice (some ⟨g, 0, none⟩) n n, .int .i64 k] 37)).nw (.al _ (.cells #[.slice none 0 0, .int .i64 0] 37))).nw hk1)
  have z1 : W.heap.size + 2 ≤ w1.heap.size := by have := hk1.size; simp at this; omega
  clear hk1
  obtain ⟨a0, a1, a2, a3⟩ := t0.out
  go_wp2_with fail
  refine (within_no t _ _ _ ht).mono ?_
  rintro e w' ⟨rfl, rfl⟩
  clear a0 a1 a2 a3
  obtain ⟨b0, b1, b2, b3⟩ := r0.out
  rw [World.size_alloc] at b0 b1 b2 b3
  obtain ⟨y0, y1⟩ := two_set w1 (W.heap.size + 1) (.slice none 0 0) (.int .i64 0) _ _ b0 b1
  obtain ⟨a0, a1, a2, a3⟩ := t0.out
  go_wp2
  exact bodyPost_ret (v := .tuple #[.agg #[.slice none 0 0, .int .i64 0], .bool false]) (by simp [results, Try.results54, go_sem, y0, y1]) rfl ⟨_, rfl, Sl.nil _ _, (HK1.out.setCell (.inr (by show W.heap.size ≤ W.heap.size + 1; omega)) _).setCell (.inr (by show W.heap.size ≤ W.heap.size + 1; omega)) _⟩

set_option maxHeartbeats 3200000 in
theorem sTurnRing_yes (g n t : Nat) (xs : List Int) (k : Int) (B : Nat) (W : World) (hs : SlAt W B g n n xs) (hb : goodB xs k = true) (ht : t < n) :
    Calls Try.prog 53 #[.agg #[.slice (some ⟨g, 0, none⟩) n n, .int .i64 k], .int .i64 (t : Int)] W (RingRes0 W (rot xs t) k true) := by
  obtain ⟨n1, n2, k1, k2⟩ := goodB_parts hb
  have hn := hs.1
  have HS := Lib.hid hs
  have HB := Lib.hid hb
  have HN := Lib.hid hn
  rw [hn] at n1 n2
  have HZ : Hid ((xs.drop t ++ xs.take t).length = n) := Lib.hid (by simp; omega)
  have HW : Hid (rot xs t = xs.drop t ++ xs.take t) := Lib.hid rfl
  rw [HW.out]
  have q6 := cut_to g n n t (by omega)
  obtain ⟨Ad, had, q7⟩ := cut_from g n n t (by omega) (Nat.le_refl _)
  have AD := Lib.hid had
  have i0 : (0 : Int) ≤ t := Int.natCast_nonneg _
  have i1 : (t : Int) ≤ n := by omega
  have i2 : (t : Int) ≤ (n : Int) - 1 := by omega
  clear hs hb hn had
  go_enter Try.func53, Try.ntmps53
  go_wp2_with fail
  refine (ciGood_any g n n xs k B _ ((HS.out.alloc (.cells #[.slice (some ⟨g, 0, none⟩) n n, .int .i64 k] 37)).alloc (.cells #[.slice none 0 0, .int .i64 0] 37)) (Nat.le_refl _) (by omega) true HB.out.symm).mono ?_
  rintro e w1 ⟨rfl, hk1⟩
  have t0 := Lib.hid (((Own2.new W (.slice (some ⟨g, 0, none⟩) n n) (.int .i64 k) 37).kp (.al _ (.cells #[.slice none 0 0, .int .i64 0] 37)) (fun h => h)).kp hk1 (fun h => h))
  have r0 := Lib.hid ((Own2.new (W.alloc (.cells #[.slice (some ⟨g, 0, none⟩) n n, .int .i64 k] 37)) (.slice none 0 0) (.int .i64 0) 37).kp hk1 (fun h => h))
  have HK1 := Lib.hid (((Kp.al W (.cells #[.slice (some ⟨g, 0, none⟩) n n, .int .i64 k] 37)).nw (.al _ (.cells #[.slice none 0 0, .int .i64 0] 37))).nw hk1)
  have z1 : W.heap.size + 2 ≤ w1.heap.size := by have := hk1.size; simp at this; omega
  clear hk1
  obtain ⟨a0, a1, a2, a3⟩ := t0.out
  have S1 := Lib.hid (HS.out.nw HK1.out)
  go_wp2_with (first | ((with_reducible refine (l1In_yes (t : Int) _ _ _ i0 i2).mono ?_); rintro e w' ⟨rfl, rfl⟩))
  go_region_held3 (fun w' => w'.cell? ⟨W.heap.size, 0, none⟩ = some (.slice (some ⟨g, 0, none⟩) n n) ∧ w'.cell? ⟨W.heap.size, 1, none⟩ = some (.int .i64 k))
    (first
      | exact ⟨t0.out.1, t0.out.2.1⟩
      | exact ⟨x0, x1⟩
      | exact ⟨u0, u1⟩
      | exact ⟨keeps _ _ ⟨W.heap.size + 1, 1, none⟩ (.int .i64 k) _ (keeps _ _ ⟨W.heap.size + 1, 0, none⟩ (.slice A3 n c3) _ x0 (by simp)) (by simp), keeps _ _ ⟨W.heap.size + 1, 1, none⟩ (.int .i64 k) _ (keeps _ _ ⟨W.heap.size + 1, 0, none⟩ (.slice A3 n c3) _ x1 (by simp)) (by simp)⟩)
    (first
      | (go_at_call 83
         refine (l1Own_any _ (xs.drop t) _ (Rd.nw' (S1.out.drop t (by omega) _ _ AD.out) ((Kp.refl Nw w1).drew)) (S1.out.drop_vn _ _ _) (by have := HN.out; simp; omega)).mono ?_
         rintro e w2 ⟨v2, rfl, hs2, hk2⟩
         have kk2 : Kp Nw w1 w2 := (Kp.refl Nw w1).drew.nw hk2
         obtain ⟨u0, u1, u2, u3⟩ := t0.out.kp kk2 (fun h => h))
      | (refine step_app _ (by rfl) (.tmp 23) (.tmp 27) (by rfl) w1.heap.size v2 _ (xs.drop t) (xs.take t) (by rfl) (by rfl) hs2 (Rd.nw' (S1.out.take t (by omega)) kk2) (S1.out.take_vn t (by omega) _) (by have := HN.out; simp; omega) kk2.size ?_
         intro v3 w3 hs3 hk3 _
         have kk3 : Kp Nw w1 w3 := kk2.own hs2 hk3
         obtain ⟨A3, c3, rfl⟩ := hs3.val HZ.out
         obtain ⟨x0, x1, x2, x3⟩ := t0.out.kp kk3 (fun h => h)
         obtain ⟨b0, b1, b2, b3⟩ := r0.out.kp kk3 (fun h => h)
         rw [World.size_alloc] at b0 b1 b2 b3)
      | fail)
  obtain ⟨y0, y1⟩ := two_set w3 (W.heap.size + 1) (.slice A3 n c3) (.int .i64 k) _ _ b0 b1
  have HS3 := Lib.hid hs3
  have HK3 := Lib.hid (HK1.out.nw kk3)
  clear hs3 hk3 kk3 kk2 hs2 hk2 u0 u1 u2 u3 x0 x1 x2 x3
  go_wp2
  refine bodyPost_ret (v := .tuple #[.agg #[.slice A3 n c3, .int .i64 k], .bool true]) (by simp [results, Try.results53, go_sem, y0, y1]) rfl ⟨_, rfl, ?_, ?_⟩
  · have k1' : Kp (fun b => b = W.heap.size + 1) w3 w3 := Kp.refl _ _
    exact (HS3.out.kp ((k1'.setCell (.inl rfl) _).setCell (.inl rfl) _) (fun g hg e => by have := (HS3.out.own_ge g hg).1; omega)).from (by omega)
  · exact (HK3.out.setCell (.inr (by show W.heap.size ≤ W.heap.size + 1; omega)) _).setCell (.inr (by show W.heap.size ≤ W.heap.size + 1; omega)) _

set_option maxHeartbeats 3200000 in
theorem iTurnRing_yes (g n t : Nat) (xs : List Int) (k : Int) (B : Nat) (W : World) (hs : SlAt W B g n n xs) (hb : goodB xs k = true) (ht : t < n) :
    Calls Try.prog 54 #[.agg #[.slice (some ⟨g, 0, none⟩) n n, .int .i64 k], .int .i64 (t : Int)] W (RingRes0 W (rot xs t) k true) := by
  obtain ⟨n1, n2, k1, k2⟩ := goodB_parts hb
  have hn := hs.1
  have HS := Lib.hid hs
  have HB := Lib.hid hb
  have HN := Lib.hid hn
  rw [hn] at n1 n2
  have HZ : Hid ((rot xs t).length = n) := Lib.hid (by rw [rot_length]; exact hn)
  have HR : Hid ((rot (num xs) t).map (·.2) = rot xs t) := Lib.hid (by
    have h : (rot (num xs) t).map (·.2) = rot ((num xs).map (·.2)) t := by simp [rot]
    rw [h, num_snd])
  obtain ⟨x, hx⟩ : ∃ x, xs.getD t 0 = x := ⟨_, rfl⟩
  have HX := Lib.hid hx
  have i0 : (0 : Int) ≤ t := Int.natCast_nonneg _
  have i1 : (t : Int) < n := by omega
  have i2 : (t : Int) ≤ (n : Int) - 1 := by omega
  clear hs hb hn hx
  go_enter Try.func54, Try.ntmps54
  go_wp2_with fail
  refine (iIsRing_any g n n xs k B _ ((HS.out.alloc (.cells #[.slice (some ⟨g, 0, none⟩) n n, .int .i64 k] 37)).alloc (.cells #[.slice none 0 0, .int .i64 0] 37))).mono ?_
  rintro e w1 ⟨rfl, hk1⟩
  rw [HB.out]
  have t0 := Lib.hid (((Own2.new W (.slice (some ⟨g, 0, none⟩) n n) (.int .i64 k) 37).kp (.al _ (.cells #[.slice none 0 0, .int .i64 0] 37)) (fun h => h)).kp hk1 (fun h => h))
  have r0 := Lib.hid ((Own2.new (W.alloc (.cells #[.slice (some ⟨g, 0, none⟩) n n, .int .i64 k] 37)) (.slice none 0 0) (.int .i64 0) 37).kp hk1 (fun h => h))
  have HK1 := Lib.hid (((Kp.al W (.cells #[.slice (some ⟨g, 0, none⟩) n n, .int .i64 k] 37)).nw (.al _ (.cells #[.slice none 0 0, .int .i64 0] 37))).nw hk1)
  have z1 : W.heap.size + 2 ≤ w1.heap.size := by have := hk1.size; simp at this; omega
  clear hk1
  obtain ⟨a0, a1, a2, a3⟩ := t0.out
  go_wp2_with (first | ((with_reducible refine (within_yes (t : Int) _ _ _ i0 i2).mono ?_); rintro e w' ⟨rfl, rfl⟩))
  refine (circleOf_any _ xs k _ (HS.out.nw HK1.out).sl.rd (by rw [HN.out]; omega) (by rw [HN.out]; omega)).mono ?_
  rintro e w2 ⟨C, L, rfl, hC, hk2, hC1, hL1⟩
  rw [HN.out] at hC
  obtain ⟨c0, c1, c2, c3⟩ := hC.cells
  rw [num_length, HN.out] at c2
  have f0 := hC.frozen 0
  have f1 := hC.frozen 1
  obtain ⟨d0, d1⟩ := hC.2.cell t (by rw [num_length, HN.out]; exact ht)
  rw [num_getD xs t (by rw [HN.out]; exact ht), HX.out] at d0 d1
  have hne := hC.ne
  have hCl := hC.lt
  have HC := Lib.hid hC
  have t0 := Lib.hid (t0.out.kp hk2 (fun h => h))
  have r0 := Lib.hid (r0.out.kp hk2 (fun h => h))
  have HK2 := Lib.hid (HK1.out.nw hk2)
  clear hk2 hC a0 a1 a2 a3
  go_wp2_with fail
  have kC : Kp (fun b => b = C) w2 ((w2.setCell ⟨C, 0, none⟩ (.int .i64 t)).setCell ⟨C, 1, none⟩ (.int .i64 x)) := ((Kp.refl (fun b => b = C) w2).setCell (.inl rfl) _).setCell (.inl rfl) _
  have HCi : Hid (Ci ((w2.setCell ⟨C, 0, none⟩ (.int .i64 t)).setCell ⟨C, 1, none⟩ (.int .i64 x)) C L n (num xs) ((t : Int), x) k) := Lib.hid ⟨(Bk.set (C := C) HC.out.1 0 (.int .i64 t)).set 1 (.int .i64 x), HC.out.2.kp kC (fun e => hne e.symm)⟩
  have t0 := Lib.hid (t0.out.kp kC (by omega))
  have r0 := Lib.hid (r0.out.kp kC (by simp; omega))
  have HK3 := Lib.hid (HK2.out.after kC (fun g hg e => by omega))
  have zC := kC.size
  have z2 := HK2.out.size
  clear kC c0 c1 c2 c3 f0 f1 d0 d1
  obtain ⟨w3, hw3⟩ : ∃ w3, w3 = (w2.setCell ⟨C, 0, none⟩ (.int .i64 t)).setCell ⟨C, 1, none⟩ (.int .i64 x) := ⟨_, rfl⟩
  rw [← hw3] at HCi t0 r0 HK3 zC ⊢
  clear hw3
  obtain ⟨a0, a1, a2, a3⟩ := t0.out
  go_region_held3 (fun w' => w'.cell? ⟨W.heap.size, 1, none⟩ = some (.int .i64 k))
    (first
      | exact t0.out.2.1
      | exact u1
      | exact keeps _ _ ⟨W.heap.size + 1, 1, none⟩ (.int .i64 k) _ (keeps _ _ ⟨W.heap.size + 1, 0, none⟩ (.slice A4 n c4) _ u1 (by simp)) (by simp))
    (first
      | (go_at_call 77
         refine (fromNext_any C L n t (num xs) ((t : Int), x) k _ (HCi.out.nw ((Kp.refl Nw w3).drew)) (by rw [num_length, HN.out]; exact ht) (by rw [num_getD xs t (by rw [HN.out]; exact ht), HX.out]) (num_diff xs)).mono ?_
         rintro e w4 ⟨v4, rfl, hs4, hk4⟩
         rw [HR.out] at hs4
         obtain ⟨A4, c4, rfl⟩ := hs4.val HZ.out
         obtain ⟨u0, u1, u2, u3⟩ := t0.out.kp (w := w3) ((Kp.refl Nw _).drew.nw hk4) (fun h => h)
         obtain ⟨b0, b1, b2, b3⟩ := r0.out.kp (w := w3) ((Kp.refl Nw _).drew.nw hk4) (fun h => h)
         rw [World.size_alloc] at b0 b1 b2 b3))
  obtain ⟨y0, y1⟩ := two_set w4 (W.heap.size + 1) (.slice A4 n c4) (.int .i64 k) _ _ b0 b1
  have HS4 := Lib.hid hs4
  have HK4 := Lib.hid (HK3.out.drew.nw hk4)
  clear hs4 hk4 u0 u1 u2 u3
  go_wp2
  refine bodyPost_ret (v := .tuple #[.agg #[.slice A4 n c4, .int .i64 k], .bool true]) (by simp [results, Try.results54, go_sem, y0, y1]) rfl ⟨_, rfl, ?_, ?_⟩
  · have k1' : Kp (fun b => b = W.heap.size + 1) w4 w4 := Kp.refl _ _
    exact (HS4.out.kp ((k1'.setCell (.inl rfl) _).setCell (.inl rfl) _) (fun g hg e => by have := (HS4.out.own_ge g hg).1; simp at this; omega)).from (by simp; omega)
  · exact (HK4.out.setCell (.inr (by show W.heap.size ≤ W.heap.size + 1; omega)) _).setCell (.inr (by show W.heap.size ≤ W.heap.size + 1; omega)) _
end Go.Proofs.Ytecenaijecokeaa
