/- A ring behind a turn (StepRing) and told from another place (TurnRing), in the program and in its model: both are the same; no condition but that the ring's slice is at the head of a row of its own. -/
import Derived.Test.YtaejlhdbdjfccabRingFn
namespace Go.Proofs.Ytaejlhdbdjfccab
open Go.ChangeShapes Go.WideShapes Go.ChangeAt Go.RowKit

/-- what a call returns that makes a ring and tells a number, or fails -/
def RingRes1 (W : World) (zs : List Int) (kk : Int) (who : Int) (b : Bool) (e : Ending) (w' : World) : Prop := ∃ v, e = .returned (.tuple #[.agg #[v, .int .i64 kk], .int .i64 who, .bool b]) ∧ Sl w' W.heap.size v zs ∧ Kp Nw W w'
def RingRes0 (W : World) (zs : List Int) (kk : Int) (b : Bool) (e : Ending) (w' : World) : Prop := ∃ v, e = .returned (.tuple #[.agg #[v, .int .i64 kk], .bool b]) ∧ Sl w' W.heap.size v zs ∧ Kp Nw W w'

set_option maxHeartbeats 1600000 in
theorem sStepRing_yes (g n : Nat) (xs : List Int) (k : Int) (B : Nat) (W : World) (hs : SlAt W B g n n xs) (hb : goodB xs k = true) (h2 : 2 ≤ n) :
    Calls Try.prog 26 #[.agg #[.slice (some ⟨g, 0, none⟩) n n, .int .i64 k]] W (RingRes1 W (rest k xs) k (who k xs) true) := by
  obtain ⟨n1, n2, k1, k2⟩ := goodB_parts hb
  have hn := hs.1
  have HS := Lib.hid hs
  have HB := Lib.hid hb
  have HN := Lib.hid hn
  rw [hn] at n1 n2
  have e1 : (n == 1) = false := by simp; omega
  have e2 : ((n : Int) == 1) = false := by simp; omega
  have e3 : ¬ n = 1 := by omega
  obtain ⟨m, hm⟩ : ∃ m, (rest k xs).length = m := ⟨_, rfl⟩
  have HM := Lib.hid hm
  clear hs hb hn hm
  go_enter Try.func26, Try.ntmps26
  go_wp2_with fail
  refine (ciGood_any g n n xs k B _ ((HS.out.alloc (.cells #[.slice (some ⟨g, 0, none⟩) n n, .int .i64 k] 35)).alloc (.cells #[.slice none 0 0, .int .i64 0] 35)) (Nat.le_refl _) (by omega) true HB.out.symm).mono ?_
  rintro e w1 ⟨rfl, hk1⟩
  have t0 := Lib.hid (((Own2.new W (.slice (some ⟨g, 0, none⟩) n n) (.int .i64 k) 35).kp (.al _ (.cells #[.slice none 0 0, .int .i64 0] 35)) (fun h => h)).kp hk1 (fun h => h))
  have r0 := Lib.hid ((Own2.new (W.alloc (.cells #[.slice (some ⟨g, 0, none⟩) n n, .int .i64 k] 35)) (.slice none 0 0) (.int .i64 0) 35).kp hk1 (fun h => h))
  have HK1 := Lib.hid (((Kp.al W (.cells #[.slice (some ⟨g, 0, none⟩) n n, .int .i64 k] 35)).nw (.al _ (.cells #[.slice none 0 0, .int .i64 0] 35))).nw hk1)
  have z1 : W.heap.size + 2 ≤ w1.heap.size := by have := hk1.size; simp at this; omega
  clear hk1
  obtain ⟨a0, a1, a2, a3⟩ := t0.out
  go_wp2_with fail
  refine (ciTurn_any _ k xs B w1 (HS.out.nw HK1.out).sl (by rw [HN.out]; omega) (by rw [HN.out]; omega) k1 k2).mono ?_
  rintro e w2 ⟨v2, rfl, hs2, hk2⟩
  obtain ⟨A2, c2, rfl⟩ := hs2.val HM.out
  clear a0 a1 a2 a3
  obtain ⟨a0, a1, a2, a3⟩ := t0.out.kp hk2 (fun h => h)
  obtain ⟨b0, b1, b2, b3⟩ := r0.out.kp hk2 (fun h => h)
  rw [World.size_alloc] at b0 b1 b2 b3
  obtain ⟨y0, y1⟩ := two_set w2 (W.heap.size + 1) (.slice A2 m c2) (.int .i64 k) _ _ b0 b1
  have HS2 := Lib.hid hs2
  have HK2 := Lib.hid (HK1.out.nw hk2)
  clear hs2 hk2
  go_wp2
  refine bodyPost_ret (v := .tuple #[.agg #[.slice A2 m c2, .int .i64 k], .int .i64 (who k xs), .bool true]) (by simp [results, Try.results26, go_sem, y0, y1]) rfl ⟨_, rfl, ?_, ?_⟩
  · have k1' : Kp (fun b => b = W.heap.size + 1) w2 w2 := Kp.refl _ _
    exact (HS2.out.kp ((k1'.setCell (.inl rfl) _).setCell (.inl rfl) _) (fun g hg e => by have := (HS2.out.own_ge g hg).1; omega)).from (by omega)
  · exact (HK2.out.setCell (.inr (by show W.heap.size ≤ W.heap.size + 1; omega)) _).setCell (.inr (by show W.heap.size ≤ W.heap.size + 1; omega)) _

set_option maxHeartbeats 800000 in
theorem sStepRing_no (g n : Nat) (xs : List Int) (k : Int) (B : Nat) (W : World) (hs : SlAt W B g n n xs) (hl : n ≤ 1048576) (hb : goodB xs k = false) :
    Calls Try.prog 26 #[.agg #[.slice (some ⟨g, 0, none⟩) n n, .int .i64 k]] W (RingRes1 W [] 0 0 false) := by
  have hl' : n ≤ 2000000 := by omega
  have HS := Lib.hid hs
  have HB := Lib.hid hb
  clear hs hb
  go_enter Try.func26, Try.ntmps26
  go_wp2_with fail
  refine (ciGood_any g n n xs k B _ ((HS.out.alloc (.cells #[.slice (some ⟨g, 0, none⟩) n n, .int .i64 k] 35)).alloc (.cells #[.slice none 0 0, .int .i64 0] 35)) (Nat.le_refl _) (by omega) false HB.out.symm).mono ?_
  rintro e w1 ⟨rfl, hk1⟩
  have t0 := Lib.hid (((Own2.new W (.slice (some ⟨g, 0, none⟩) n n) (.int .i64 k) 35).kp (.al _ (.cells #[.slice none 0 0, .int .i64 0] 35)) (fun h => h)).kp hk1 (fun h => h))
  have r0 := Lib.hid ((Own2.new (W.alloc (.cells #[.slice (some ⟨g, 0, none⟩) n n, .int .i64 k] 35)) (.slice none 0 0) (.int .i64 0) 35).kp hk1 (fun h => h))
  have HK1 := Lib.hid (((Kp.al W (.cells #[.slice (some ⟨g, 0, none⟩) n n, .int .i64 k] 35)).nw (.al _ (.cells #[.slice none 0 0, .int .i64 0] 35))).nw hk1)
  have z1 : W.heap.size + 2 ≤ w1.heap.size := by have := hk1.size; simp at this; omega
  clear hk1
  obtain ⟨b0, b1, b2, b3⟩ := r0.out
  rw [World.size_alloc] at b0 b1 b2 b3
  obtain ⟨y0, y1⟩ := two_set w1 (W.heap.size + 1) (.slice none 0 0) (.int .i64 0) _ _ b0 b1
  obtain ⟨a0, a1, a2, a3⟩ := t0.out
  go_wp2
  exact bodyPost_ret (v := .tuple #[.agg #[.slice none 0 0, .int .i64 0], .int .i64 0, .bool false]) (by simp [results, Try.results26, go_sem, y0, y1]) rfl ⟨_, rfl, Sl.nil _ _, (HK1.out.setCell (.inr (by show W.heap.size ≤ W.heap.size + 1; omega)) _).setCell (.inr (by show W.heap.size ≤ W.heap.size + 1; omega)) _⟩

set_option maxHeartbeats 800000 in
theorem sStepRing_one (g : Nat) (xs : List Int) (k : Int) (B : Nat) (W : World) (n : Nat) (h1 : n = 1) (hs : SlAt W B g n n xs) (hb : goodB xs k = true) :
    Calls Try.prog 26 #[.agg #[.slice (some ⟨g, 0, none⟩) n n, .int .i64 k]] W (RingRes1 W [] 0 0 false) := by
  have HS := Lib.hid hs
  have HB := Lib.hid hb
  have e2 : ((n : Int) == 1) = true := by simp; omega
  have hl : n ≤ 1048576 := by omega
  have H1 := Lib.hid h1
  clear hs hb h1
  go_enter Try.func26, Try.ntmps26
  go_wp2_with fail
  refine (ciGood_any g n n xs k B _ ((HS.out.alloc (.cells #[.slice (some ⟨g, 0, none⟩) n n, .int .i64 k] 35)).alloc (.cells #[.slice none 0 0, .int .i64 0] 35)) (Nat.le_refl _) (by omega) true HB.out.symm).mono ?_
  rintro e w1 ⟨rfl, hk1⟩
  have t0 := Lib.hid (((Own2.new W (.slice (some ⟨g, 0, none⟩) n n) (.int .i64 k) 35).kp (.al _ (.cells #[.slice none 0 0, .int .i64 0] 35)) (fun h => h)).kp hk1 (fun h => h))
  have r0 := Lib.hid ((Own2.new (W.alloc (.cells #[.slice (some ⟨g, 0, none⟩) n n, .int .i64 k] 35)) (.slice none 0 0) (.int .i64 0) 35).kp hk1 (fun h => h))
  have HK1 := Lib.hid (((Kp.al W (.cells #[.slice (some ⟨g, 0, none⟩) n n, .int .i64 k] 35)).nw (.al _ (.cells #[.slice none 0 0, .int .i64 0] 35))).nw hk1)
  have z1 : W.heap.size + 2 ≤ w1.heap.size := by have := hk1.size; simp at this; omega
  clear hk1
  obtain ⟨b0, b1, b2, b3⟩ := r0.out
  rw [World.size_alloc] at b0 b1 b2 b3
  obtain ⟨y0, y1⟩ := two_set w1 (W.heap.size + 1) (.slice none 0 0) (.int .i64 0) _ _ b0 b1
  obtain ⟨a0, a1, a2, a3⟩ := t0.out
  go_wp2
  exact bodyPost_ret (v := .tuple #[.agg #[.slice none 0 0, .int .i64 0], .int .i64 0, .bool false]) (by simp [results, Try.results26, go_sem, y0, y1]) rfl ⟨_, rfl, Sl.nil _ _, (HK1.out.setCell (.inr (by show W.heap.size ≤ W.heap.size + 1; omega)) _).setCell (.inr (by show W.heap.size ≤ W.heap.size + 1; omega)) _⟩

set_option maxHeartbeats 800000 in
theorem iStepRing_no (g n : Nat) (xs : List Int) (k : Int) (B : Nat) (W : World) (hs : SlAt W B g n n xs) (hl : n ≤ 1048576) (hb : goodB xs k = false) :
    Calls Try.prog 28 #[.agg #[.slice (some ⟨g, 0, none⟩) n n, .int .i64 k]] W (RingRes1 W [] 0 0 false) := by
  have hl' : n ≤ 2000000 := by omega
  have HS := Lib.hid hs
  have HB := Lib.hid hb
  clear hs hb
  go_enter Try.func28, Try.ntmps28
  go_wp2_with fail
  refine (iIsRing_any g n n xs k B _ ((HS.out.alloc (.cells #[.slice (some ⟨g, 0, none⟩) n n, .int .i64 k] 35)).alloc (.cells #[.slice none 0 0, .int .i64 0] 35))).mono ?_
  rintro e w1 ⟨rfl, hk1⟩
  rw [HB.out]
  have t0 := Lib.hid (((Own2.new W (.slice (some ⟨g, 0, none⟩) n n) (.int .i64 k) 35).kp (.al _ (.cells #[.slice none 0 0, .int .i64 0] 35)) (fun h => h)).kp hk1 (fun h => h))
  have r0 := Lib.hid ((Own2.new (W.alloc (.cells #[.slice (some ⟨g, 0, none⟩) n n, .int .i64 k] 35)) (.slice none 0 0) (.int .i64 0) 35).kp hk1 (fun h => h))
  have HK1 := Lib.hid (((Kp.al W (.cells #[.slice (some ⟨g, 0, none⟩) n n, .int .i64 k] 35)).nw (.al _ (.cells #[.slice none 0 0, .int .i64 0] 35))).nw hk1)
  have z1 : W.heap.size + 2 ≤ w1.heap.size := by have := hk1.size; simp at this; omega
  clear hk1
  obtain ⟨b0, b1, b2, b3⟩ := r0.out
  rw [World.size_alloc] at b0 b1 b2 b3
  obtain ⟨y0, y1⟩ := two_set w1 (W.heap.size + 1) (.slice none 0 0) (.int .i64 0) _ _ b0 b1
  obtain ⟨a0, a1, a2, a3⟩ := t0.out
  go_wp2
  exact bodyPost_ret (v := .tuple #[.agg #[.slice none 0 0, .int .i64 0], .int .i64 0, .bool false]) (by simp [results, Try.results28, go_sem, y0, y1]) rfl ⟨_, rfl, Sl.nil _ _, (HK1.out.setCell (.inr (by show W.heap.size ≤ W.heap.size + 1; omega)) _).setCell (.inr (by show W.heap.size ≤ W.heap.size + 1; omega)) _⟩

set_option maxHeartbeats 800000 in
theorem iStepRing_one (g : Nat) (xs : List Int) (k : Int) (B : Nat) (W : World) (n : Nat) (h1 : n = 1) (hs : SlAt W B g n n xs) (hb : goodB xs k = true) :
    Calls Try.prog 28 #[.agg #[.slice (some ⟨g, 0, none⟩) n n, .int .i64 k]] W (RingRes1 W [] 0 0 false) := by
  have HS := Lib.hid hs
  have HB := Lib.hid hb
  have e2 : ((n : Int) == 1) = true := by simp; omega
  have hl : n ≤ 1048576 := by omega
  have H1 := Lib.hid h1
  clear hs hb h1
  go_enter Try.func28, Try.ntmps28
  go_wp2_with fail
  refine (iIsRing_any g n n xs k B _ ((HS.out.alloc (.cells #[.slice (some ⟨g, 0, none⟩) n n, .int .i64 k] 35)).alloc (.cells #[.slice none 0 0, .int .i64 0] 35))).mono ?_
  rintro e w1 ⟨rfl, hk1⟩
  rw [HB.out]
  have t0 := Lib.hid (((Own2.new W (.slice (some ⟨g, 0, none⟩) n n) (.int .i64 k) 35).kp (.al _ (.cells #[.slice none 0 0, .int .i64 0] 35)) (fun h => h)).kp hk1 (fun h => h))
  have r0 := Lib.hid ((Own2.new (W.alloc (.cells #[.slice (some ⟨g, 0, none⟩) n n, .int .i64 k] 35)) (.slice none 0 0) (.int .i64 0) 35).kp hk1 (fun h => h))
  have HK1 := Lib.hid (((Kp.al W (.cells #[.slice (some ⟨g, 0, none⟩) n n, .int .i64 k] 35)).nw (.al _ (.cells #[.slice none 0 0, .int .i64 0] 35))).nw hk1)
  have z1 : W.heap.size + 2 ≤ w1.heap.size := by have := hk1.size; simp at this; omega
  clear hk1
  obtain ⟨b0, b1, b2, b3⟩ := r0.out
  rw [World.size_alloc] at b0 b1 b2 b3
  obtain ⟨y0, y1⟩ := two_set w1 (W.heap.size + 1) (.slice none 0 0) (.int .i64 0) _ _ b0 b1
  obtain ⟨a0, a1, a2, a3⟩ := t0.out
  go_wp2
  exact bodyPost_ret (v := .tuple #[.agg #[.slice none 0 0, .int .i64 0], .int .i64 0, .bool false]) (by simp [results, Try.results28, go_sem, y0, y1]) rfl ⟨_, rfl, Sl.nil _ _, (HK1.out.setCell (.inr (by show W.heap.size ≤ W.heap.size + 1; omega)) _).setCell (.inr (by show W.heap.size ≤ W.heap.size + 1; omega)) _⟩

theorem fwd_one (xs : List Int) (C L n : Nat) (k : Int) (k1 : 1 ≤ k) (k2 : k ≤ 1000000) (hn : 1 ≤ xs.length) (w : World) (hst : Fwd (num xs) C L n k w 0) (x : Int × Int) (hx : whoP k (num xs) = x) :
    Calls Try.prog 52 #[.pointer (some ⟨C, 0, none⟩)] w fun e w' =>
      e = .returned (.agg #[.int .i64 x.1, .int .i64 x.2]) ∧ Fwd (num xs) C L n k w' 1 ∧ Kp (fun b => b = C ∨ b = L) w w' := by
  have hf := fwd_step (num xs) C L n k k1 k2 1 (by rw [num_length]; exact hn) 0 w (by omega) hst
  rw [outsP_getD k 1 (num xs) 0 (by omega), show lefts k 0 (num xs) = num xs from rfl, hx] at hf
  exact hf

set_option maxHeartbeats 3200000 in
theorem iStepRing_yes (g n : Nat) (xs : List Int) (k : Int) (B : Nat) (W : World) (hs : SlAt W B g n n xs) (hb : goodB xs k = true) (h2 : 2 ≤ n) :
    Calls Try.prog 28 #[.agg #[.slice (some ⟨g, 0, none⟩) n n, .int .i64 k]] W (RingRes1 W (rest k xs) k (who k xs) true) := by
  obtain ⟨n1, n2, k1, k2⟩ := goodB_parts hb
  have hn := hs.1
  have HS := Lib.hid hs
  have HB := Lib.hid hb
  have HN := Lib.hid hn
  rw [hn] at n1 n2
  have e2 : ((n : Int) == 1) = false := by simp; omega
  have e3 : ¬ n = 1 := by omega
  obtain ⟨⟨x1, x2⟩, hx⟩ : ∃ x, whoP k (num xs) = x := ⟨_, rfl⟩
  have HX := Lib.hid hx
  have HW : Hid (who k xs = x2) := Lib.hid (by have h := who_map k (num xs); rw [num_snd, hx] at h; exact h)
  rw [HW.out]
  clear hs hb hn hx
  go_enter Try.func28, Try.ntmps28
  go_wp2_with fail
  refine (iIsRing_any g n n xs k B _ ((HS.out.alloc (.cells #[.slice (some ⟨g, 0, none⟩) n n, .int .i64 k] 35)).alloc (.cells #[.slice none 0 0, .int .i64 0] 35))).mono ?_
  rintro e w1 ⟨rfl, hk1⟩
  rw [HB.out]
  have t0 := Lib.hid (((Own2.new W (.slice (some ⟨g, 0, none⟩) n n) (.int .i64 k) 35).kp (.al _ (.cells #[.slice none 0 0, .int .i64 0] 35)) (fun h => h)).kp hk1 (fun h => h))
  have r0 := Lib.hid ((Own2.new (W.alloc (.cells #[.slice (some ⟨g, 0, none⟩) n n, .int .i64 k] 35)) (.slice none 0 0) (.int .i64 0) 35).kp hk1 (fun h => h))
  have HK1 := Lib.hid (((Kp.al W (.cells #[.slice (some ⟨g, 0, none⟩) n n, .int .i64 k] 35)).nw (.al _ (.cells #[.slice none 0 0, .int .i64 0] 35))).nw hk1)
  have z1 : W.heap.size + 2 ≤ w1.heap.size := by have := hk1.size; simp at this; omega
  clear hk1
  obtain ⟨a0, a1, a2, a3⟩ := t0.out
  go_wp2_with fail
  refine (circleOf_any _ xs k _ (HS.out.nw HK1.out).sl.rd (by rw [HN.out]; omega) (by rw [HN.out]; omega)).mono ?_
  rintro e w2 ⟨C, L, rfl, hC, hk2, hC1, hL1⟩
  rw [HN.out] at hC
  have HC := Lib.hid hC
  have t0 := Lib.hid (t0.out.kp hk2 (fun h => h))
  have r0 := Lib.hid (r0.out.kp hk2 (fun h => h))
  have HK2 := Lib.hid (HK1.out.nw hk2)
  have z2 := hk2.size
  clear hk2 hC a0 a1 a2 a3
  go_wp2_with fail
  refine (fwd_one xs C L n k k1 k2 (by rw [HN.out]; omega) w2 (Fwd.start HC.out (by rw [HN.out]; omega)) (x1, x2) HX.out).mono ?_
  rintro e w3 ⟨rfl, ⟨ps, i, q, hCi, hlen, hd, hi, hrot⟩, hk3⟩
  rw [num_length, HN.out] at hlen
  obtain ⟨hi1, hi2⟩ := hi (by omega)
  have HCi := Lib.hid hCi
  have HI := Lib.hid hi2
  have HD := Lib.hid hd
  have HR := Lib.hid (show (rot ps i).map (·.2) = rest k xs by rw [hrot, lefts, lefts, ← rest_map, num_snd])
  have t0 := Lib.hid ((t0.out.kp hk3 (by omega)).kp (.al w3 (.cells #[.int .i64 x1, .int .i64 x2] 49)) (fun h => h))
  have r0 := Lib.hid ((r0.out.kp hk3 (by simp; omega)).kp (.al w3 (.cells #[.int .i64 x1, .int .i64 x2] 49)) (fun h => h))
  have s0 := Lib.hid (Own2.new w3 (.int .i64 x1) (.int .i64 x2) 49)
  have HK3 := Lib.hid ((HK2.out.after hk3 (fun g hg h => by rcases h with h | h <;> omega)).nw (.al w3 (.cells #[.int .i64 x1, .int .i64 x2] 49)))
  have z3 := hk3.size
  obtain ⟨m, hm⟩ : ∃ m, (rest k xs).length = m := ⟨_, rfl⟩
  have HM := Lib.hid hm
  clear hk3 hCi hd hi hrot hi2 hm
  obtain ⟨a0, a1, a2, a3⟩ := t0.out
  go_wp2_with fail
  go_region_held3 (fun w' => w'.cell? ⟨W.heap.size, 1, none⟩ = some (.int .i64 k) ∧ w'.cell? ⟨w3.heap.size, 1, none⟩ = some (.int .i64 x2))
    (first
      | exact ⟨t0.out.2.1, s0.out.2.1⟩
      | exact ⟨u1, v1⟩
      | exact ⟨keeps _ _ ⟨W.heap.size + 1, 1, none⟩ (.int .i64 k) _ (keeps _ _ ⟨W.heap.size + 1, 0, none⟩ (.slice A4 m c4) _ u1 (by simp)) (by simp), keeps _ _ ⟨W.heap.size + 1, 1, none⟩ (.int .i64 k) _ (keeps _ _ ⟨W.heap.size + 1, 0, none⟩ (.slice A4 m c4) _ v1 (by show W.heap.size + 1 ≠ w3.heap.size; omega)) (by show W.heap.size + 1 ≠ w3.heap.size; omega)⟩)
    (first
      | (go_at_call 53
         refine (fromNext_any C L n i ps q k _ (HCi.out.nw ((Kp.al w3 (.cells #[.int .i64 x1, .int .i64 x2] 49)).drew)) hi1 HI.out HD.out).mono ?_
         rintro e w4 ⟨v4, rfl, hs4, hk4⟩
         rw [HR.out] at hs4
         obtain ⟨A4, c4, rfl⟩ := hs4.val HM.out
         obtain ⟨u0, u1, u2, u3⟩ := t0.out.kp (w := w3.alloc (.cells #[.int .i64 x1, .int .i64 x2] 49)) ((Kp.refl Nw _).drew.nw hk4) (fun h => h)
         obtain ⟨b0, b1, b2, b3⟩ := r0.out.kp ((Kp.refl Nw _).drew.nw hk4) (fun h => h)
         obtain ⟨v0, v1, v2, v3⟩ := s0.out.kp ((Kp.refl Nw _).drew.nw hk4) (fun h => h)
         rw [World.size_alloc] at b0 b1 b2 b3))
  obtain ⟨y0, y1⟩ := two_set w4 (W.heap.size + 1) (.slice A4 m c4) (.int .i64 k) _ _ b0 b1
  have HS4 := Lib.hid hs4
  have HK4 := Lib.hid (HK3.out.drew.nw hk4)
  clear hs4 hk4 v0 v1 v2 v3 u0 u1 u2 u3
  go_wp2
  refine bodyPost_ret (v := .tuple #[.agg #[.slice A4 m c4, .int .i64 k], .int .i64 x2, .bool true]) (by simp [results, Try.results28, go_sem, y0, y1]) rfl ⟨_, rfl, ?_, ?_⟩
  · have k1' : Kp (fun b => b = W.heap.size + 1) w4 w4 := Kp.refl _ _
    exact (HS4.out.kp ((k1'.setCell (.inl rfl) _).setCell (.inl rfl) _) (fun g hg e => by have := (HS4.out.own_ge g hg).1; simp at this; omega)).from (by simp; omega)
  · exact (HK4.out.setCell (.inr (by show W.heap.size ≤ W.heap.size + 1; omega)) _).setCell (.inr (by show W.heap.size ≤ W.heap.size + 1; omega)) _
end Go.Proofs.Ytaejlhdbdjfccab
