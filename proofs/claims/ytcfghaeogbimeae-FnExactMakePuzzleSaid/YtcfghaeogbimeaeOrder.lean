/- The order in which all go (orderOfAll, OrderOut), in the program and in its model: both are the same plain list; no condition but that people and step are those that the chapter allows. -/
import Derived.Test.YtcfghaeogbimeaeFwd
import Derived.Test.YtcfghaeogbimeaeTurn
namespace Go.Proofs.Ytcfghaeogbimeae
open Go.ChangeShapes Go.WideShapes Go.ChangeAt Go.RowKit

theorem Ps.rdp {w : World} {L cap : Nat} {ps : List (Int × Int)} (h : Ps w L cap ps) : RdP w ⟨L, 0, none⟩ ps := fun j hj => by
  obtain ⟨a, b⟩ := h.cell j hj
  exact ⟨L, 0, rfl, by rw [Nat.zero_add]; exact a, by rw [Nat.zero_add]; exact b⟩

theorem Fwd.start {C L n : Nat} {k : Int} {w : World} {xs : List Int} (h : Ci w C L n (num xs) (0, xs.getD 0 0) k) (hp : 0 < xs.length) : Fwd (num xs) C L n k w 0 :=
  ⟨num xs, 0, _, h, rfl, num_diff xs, fun _ => ⟨by rw [num_length]; exact hp, num_getD xs 0 hp⟩, by simp [rot, lefts]⟩

/-- what a call returns that makes people in an order -/
def OrdRes (W : World) (n : Nat) (os : List (Int × Int)) (e : Ending) (w' : World) : Prop := ∃ G, e = .returned (.slice (some ⟨G, 0, none⟩) n n) ∧ Ps w' G n os ∧ Kp Nw W w' ∧ W.heap.size ≤ G

/-- the order in which people told by numbers go -/
def ordP (k : Int) (xs : List Int) : List (Int × Int) := outsP k xs.length (num xs)
theorem ordP_length (k : Int) (xs : List Int) : (ordP k xs).length = xs.length := outsP_length _ _ _
theorem ordP_snd (k : Int) (xs : List Int) : (ordP k xs).map (·.2) = outs k xs.length xs := by
  unfold ordP
  rw [← outs_map, num_snd]

set_option maxHeartbeats 1600000 in
theorem orderOfAll_any (n : Nat) (k : Int) (W : World) (h : Asked n k) :
    Calls Try.prog 56 #[.int .i64 n, .int .i64 k] W (OrdRes W n (ordP k (marks 0 n))) := by
  have h1 := h.p1; have h2 := h.p2; have h3 := h.k1; have h4 := h.k2
  go_enter Try.func56, Try.ntmps56
  go_wp2_with fail
  refine (firstNumbers_any n W (by omega)).mono ?_
  rintro e w1 ⟨v, rfl, hs, hk⟩
  obtain ⟨A, c, rfl⟩ := hs.val (marks_length 0 n)
  have HS := Lib.hid hs
  have HK := Lib.hid hk
  clear hs hk
  go_wp2_with fail
  refine (circleOf_any _ (marks 0 n) k _ HS.out.rd (by rw [marks_length]; omega) (by rw [marks_length]; omega)).mono ?_
  rintro e w2 ⟨C, L, rfl, hC, hk, hC1, hL1⟩
  rw [marks_length] at hC
  have HC := Lib.hid hC
  have HK2 := Lib.hid (HK.out.nw hk)
  have z1 := HK.out.size
  clear hk hC
  go_wp2_with fail
  refine (countForward C L n (ordP k (marks 0 n)) (Fwd (num (marks 0 n)) C L n k) w2 (by rw [ordP_length, marks_length]) HC.out.lt HC.out.2.lt (Lib.hid Fwd.kp)
    (Lib.hid fun r w hr hst => by
      have hf := fwd_step (num (marks 0 n)) C L n k h3 h4 n (by rw [num_length, marks_length]; exact Nat.le_refl _) r w hr hst
      have eo : ordP k (marks 0 n) = outsP k n (num (marks 0 n)) := by unfold ordP; rw [marks_length]
      rw [eo]; exact hf)
    (Fwd.start HC.out (by rw [marks_length]; omega)) (by omega)).mono ?_
  rintro e w3 ⟨G, rfl, hP, _, hk3, hG⟩
  have HP := Lib.hid hP
  have HK3 := Lib.hid (HK2.out.after hk3 (fun g hg h => by rcases h with h | h <;> omega))
  have z2 := HK2.out.size
  clear hP hk3
  go_wp2
  go_ret
  exact ⟨G, rfl, HP.out, HK3.out, by omega⟩

/-- what a call returns that makes a list, or fails -/
def ListRes (W : World) (xs : List Int) (b : Bool) (e : Ending) (w' : World) : Prop := ∃ v, e = .returned (.tuple #[v, .bool b]) ∧ Sl w' W.heap.size v xs ∧ Kp Nw W w'

end Go.Proofs.Ytcfghaeogbimeae
