/- Orders of rings (RingOrder), in the program and in its model: both are the same list; no condition but that the ring's slice is at the head of a row of its own. -/
import Derived.Test.YtaejlhdbdjfccabGoodS
import Derived.Test.YtaejlhdbdjfccabOrder
namespace Go.Proofs.Ytaejlhdbdjfccab
open Go.ChangeShapes Go.WideShapes Go.ChangeAt Go.RowKit

/-- two cells at the head of a block -/
def Two (w : World) (b : Nat) (x y : Value) : Prop := w.cell? ⟨b, 0, none⟩ = some x ∧ w.cell? ⟨b, 1, none⟩ = some y
theorem Two.kp {w w' : World} {b : Nat} {x y : Value} {S : Nat → Prop} (h : Two w b x y) (hk : Kp S w w') (hs : ¬ S b) : Two w' b x y :=
  ⟨keepc hk h.1 hs, keepc hk h.2 hs⟩
theorem Two.nw {w w' : World} {b : Nat} {x y : Value} (h : Two w b x y) (hk : Kp Nw w w') : Two w' b x y := h.kp hk (fun hs => hs)
theorem Two.new (w : World) (x y : Value) (t : TypeId) : Two (w.alloc (.cells #[x, y] t)) w.heap.size x y := by
  constructor <;> simp [World.cell?_alloc_at]

theorem goodB_parts {xs : List Int} {k : Int} (h : goodB xs k = true) : 1 ≤ xs.length ∧ xs.length ≤ 200 ∧ 1 ≤ k ∧ k ≤ 1000000 := by
  unfold goodB at h
  rw [Bool.and_eq_true] at h
  exact of_decide_eq_true h.1
theorem SlAt.alloc {w : World} {B g cap n : Nat} {xs : List Int} (h : SlAt w B g cap n xs) (o : Obj) : SlAt (w.alloc o) B g cap n xs := ⟨h.1, h.2.alloc o⟩
theorem SlAt.nw {w w' : World} {B g cap n : Nat} {xs : List Int} (h : SlAt w B g cap n xs) (hk : Kp Nw w w') : SlAt w' B g cap n xs :=
  ⟨h.1, h.2.kept (row := none) ⟨hk.os, hk.tape, hk.output, hk.size, fun k hl _ => hk.block k hl (fun h => h)⟩ (.inr (by simp [Value.ownBlock]))⟩

theorem fwd_order (xs : List Int) (C L n : Nat) (k : Int) (k1 : 1 ≤ k) (k2 : k ≤ 1000000) (hn : xs.length = n) (r : Nat) (w : World) (hr : r < n) (hst : Fwd (num xs) C L n k w r) :
    Calls Try.prog 52 #[.pointer (some ⟨C, 0, none⟩)] w fun e w' =>
      e = .returned (.agg #[.int .i64 ((ordP k xs).getD r (0, 0)).1, .int .i64 ((ordP k xs).getD r (0, 0)).2]) ∧ Fwd (num xs) C L n k w' (r + 1) ∧ Kp (fun b => b = C ∨ b = L) w w' := by
  have hf := fwd_step (num xs) C L n k k1 k2 n (by rw [num_length, hn]; exact Nat.le_refl _) r w hr hst
  have eo : ordP k xs = outsP k n (num xs) := by unfold ordP; rw [hn]
  rw [eo]; exact hf

set_option maxHeartbeats 1600000 in
theorem iRingOrder_yes (g n : Nat) (xs : List Int) (k : Int) (B : Nat) (W : World) (hs : SlAt W B g n n xs) (hb : goodB xs k = true) :
    Calls Try.prog 33 #[.agg #[.slice (some ⟨g, 0, none⟩) n n, .int .i64 k]] W (ListRes W (outs k n xs) true) := by
  obtain ⟨n1, n2, k1, k2⟩ := goodB_parts hb
  have hn := hs.1
  have HS := Lib.hid hs
  have HB := Lib.hid hb
  have HN := Lib.hid hn
  rw [hn] at n1 n2
  clear hs hb hn
  go_enter Try.func33, Try.ntmps33
  go_wp2_with fail
  refine (iIsRing_any g n n xs k B _ (HS.out.alloc _)).mono ?_
  rintro e w1 ⟨rfl, hk1⟩
  rw [HB.out]
  obtain ⟨t0, t1⟩ := (Two.new W (.slice (some ⟨g, 0, none⟩) n n) (.int .i64 k) 35).nw hk1
  have T0 := Lib.hid t0
  have HK1 := Lib.hid ((Kp.al _ _).nw hk1)
  clear hk1
  go_wp2_with fail
  refine (circleOf_any _ xs k _ (HS.out.nw HK1.out).sl.rd (by rw [HN.out]; omega) (by rw [HN.out]; omega)).mono ?_
  rintro e w2 ⟨C, L, rfl, hC, hk2, hC1, hL1⟩
  rw [HN.out] at hC
  have t2 := keepc hk2 T0.out (fun h => h)
  have HC := Lib.hid hC
  have HK2 := Lib.hid (HK1.out.nw hk2)
  have z1 := HK1.out.size
  clear hk2 hC t0 t1
  go_wp2_with fail
  refine (countForward C L n (ordP k xs) (Fwd (num xs) C L n k) w2 (by rw [ordP_length, HN.out]) HC.out.lt HC.out.2.lt (Lib.hid Fwd.kp)
    (Lib.hid fun r w hr hst => fwd_order xs C L n k k1 k2 HN.out r w hr hst) (Fwd.start HC.out (by rw [HN.out]; omega)) (by omega)).mono ?_
  rintro e w3 ⟨G, rfl, hP, _, hk3, hG⟩
  have HP := Lib.hid hP
  have HK3 := Lib.hid (HK2.out.after hk3 (fun g hg h => by rcases h with h | h <;> omega))
  clear hP hk3
  go_wp2_with fail
  refine (numbersOf_any ⟨G, 0, none⟩ n n _ _ HP.out.rdp (by rw [ordP_length, HN.out]) (by omega)).mono ?_
  rintro e w4 ⟨v, rfl, hs4, hk4⟩
  rw [ordP_snd, HN.out] at hs4
  have HS4 := Lib.hid (hs4.from HK3.out.size)
  have HK4 := Lib.hid (HK3.out.nw hk4)
  clear hs4 hk4
  go_wp2
  go_ret2
  exact ⟨v, rfl, HS4.out, HK4.out⟩

theorem iRingOrder_no (g n : Nat) (xs : List Int) (k : Int) (B : Nat) (W : World) (hs : SlAt W B g n n xs) (hb : goodB xs k = false) :
    Calls Try.prog 33 #[.agg #[.slice (some ⟨g, 0, none⟩) n n, .int .i64 k]] W (ListRes W [] false) := by
  have HS := Lib.hid hs
  have HB := Lib.hid hb
  clear hs hb
  go_enter Try.func33, Try.ntmps33
  go_wp2_with fail
  refine (iIsRing_any g n n xs k B _ (HS.out.alloc _)).mono ?_
  rintro e w1 ⟨rfl, hk1⟩
  rw [HB.out]
  have HK1 := Lib.hid ((Kp.al _ _).nw hk1)
  clear hk1
  go_wp2
  go_ret2
  exact ⟨_, rfl, Sl.nil _ _, HK1.out⟩

set_option maxHeartbeats 1600000 in
theorem sRingOrder_yes (g n : Nat) (xs : List Int) (k : Int) (B : Nat) (W : World) (hs : SlAt W B g n n xs) (hb : goodB xs k = true) :
    Calls Try.prog 32 #[.agg #[.slice (some ⟨g, 0, none⟩) n n, .int .i64 k]] W (ListRes W (outs k n xs) true) := by
  obtain ⟨n1, n2, k1, k2⟩ := goodB_parts hb
  have hn := hs.1
  have HS := Lib.hid hs
  have HB := Lib.hid hb
  have HN := Lib.hid hn
  rw [hn] at n1 n2
  clear hs hb hn
  go_enter Try.func32, Try.ntmps32
  go_wp2_with fail
  refine (ciGood_any g n n xs k B _ (HS.out.alloc _) (Nat.le_refl _) (by omega) true HB.out.symm).mono ?_
  rintro e w1 ⟨rfl, hk1⟩
  obtain ⟨t0, t1⟩ := (Two.new W (.slice (some ⟨g, 0, none⟩) n n) (.int .i64 k) 35).nw hk1
  have HK1 := Lib.hid ((Kp.al _ _).nw hk1)
  clear hk1
  go_wp2_with fail
  refine (ciOrder_any _ k xs B w1 (HS.out.nw HK1.out).sl (by rw [HN.out]; omega) k1 k2).mono ?_
  rintro e w2 ⟨v2, rfl, hs2, hk2⟩
  rw [HN.out] at hs2
  have HS2 := Lib.hid (hs2.from HK1.out.size)
  have HK2 := Lib.hid (HK1.out.nw hk2)
  clear hs2 hk2
  go_wp2
  go_ret2
  exact ⟨v2, rfl, HS2.out, HK2.out⟩

theorem sRingOrder_no (g n : Nat) (xs : List Int) (k : Int) (B : Nat) (W : World) (hs : SlAt W B g n n xs) (hl : n ≤ 1048576) (hb : goodB xs k = false) :
    Calls Try.prog 32 #[.agg #[.slice (some ⟨g, 0, none⟩) n n, .int .i64 k]] W (ListRes W [] false) := by
  have HS := Lib.hid hs
  have HB := Lib.hid hb
  clear hs hb
  go_enter Try.func32, Try.ntmps32
  go_wp2_with fail
  refine (ciGood_any g n n xs k B _ (HS.out.alloc _) (Nat.le_refl _) (by omega) false HB.out.symm).mono ?_
  rintro e w1 ⟨rfl, hk1⟩
  have HK1 := Lib.hid ((Kp.al _ _).nw hk1)
  clear hk1
  go_wp2
  go_ret2
  exact ⟨_, rfl, Sl.nil _ _, HK1.out⟩
end Go.Proofs.Ytaejlhdbdjfccab
