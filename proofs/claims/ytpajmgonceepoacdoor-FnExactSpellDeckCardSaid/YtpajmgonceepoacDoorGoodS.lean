/- Whether a ring is one, in the model, and the laws' own helpers that copy rings and tell their size; no condition but that the ring's slice is at the head of a row of its own, and at most a million and a bit long. -/
import Derived.Test.YtpajmgonceepoacDoorGood
import Derived.Test.YtpajmgonceepoacDoorMakeC
import Derived.Test.YtpajmgonceepoacDoorLetGo
namespace Go.Proofs.YtpajmgonceepoacDoor
open Go.ChangeShapes Go.WideShapes Go.ChangeAt Go.RowKit

/-- do numbers and a step make a ring? -/
def goodB (xs : List Int) (k : Int) : Bool := decide (1 ≤ xs.length ∧ xs.length ≤ 200 ∧ 1 ≤ k ∧ k ≤ 1000000) && decide (xs.all okB = true ∧ xs.Nodup)
theorem goodB_off (xs : List Int) (k : Int) (h : ¬ Asked xs.length k) : goodB xs k = false := by
  unfold goodB
  rw [decide_eq_false (fun ⟨a, b, c, d⟩ => h ⟨by omega, by omega, c, d⟩)]
  rfl
theorem goodB_on (xs : List Int) (k : Int) (h : Asked xs.length k) : goodB xs k = decide (xs.all okB = true ∧ xs.Nodup) := by
  have h1 := h.p1; have h2 := h.p2
  unfold goodB
  rw [decide_eq_true ⟨by omega, by omega, h.k1, h.k2⟩]
  rfl

theorem l1All_as (v : Value) (xs : List Int) (b : Bool) (W : World) (hv : Rd W v xs) (hl : xs.length ≤ 2000000) (hb : xs.all okB = b) :
    Calls Tryd.prog 17 #[v, .int .i64 0, .int .i64 999] W fun e w' => e = .returned (.bool b) ∧ W = w' := by
  subst hb
  exact l1All_any v xs W hv hl

/-- what a call returns that copies a ring -/
def CopyRes (W : World) (n : Nat) (xs : List Int) (k : Int) (e : Ending) (w' : World) : Prop := ∃ g, e = .returned (.agg #[.slice (some ⟨g, 0, none⟩) n n, .int .i64 k]) ∧ SlAt w' W.heap.size g n n xs ∧ Kp Nw W w' ∧ W.heap.size ≤ g ∧ g < w'.heap.size

set_option maxHeartbeats 800000 in
theorem toIntS_any (u : Value) (n : Nat) (xs : List Int) (W : World) (hu : Rd W u xs) (hn : xs.length = n) (hl : n ≤ 1048576) :
    Calls Tryd.prog 5 #[u] W fun e w' => ∃ g, e = .returned (.slice (some ⟨g, 0, none⟩) n n) ∧ SlAt w' W.heap.size g n n xs ∧ Kp Nw W w' ∧ W.heap.size ≤ g ∧ g < w'.heap.size := by
  obtain ⟨i0, hi0, hz0, hz1, hz2⟩ := info_parts intInfo
  obtain ⟨A, c, rfl, hA⟩ := hu
  rw [hn]
  have HN := Lib.hid hn
  have HA := Lib.hid hA
  clear hn hA
  go_enter Tryd.func5, Tryd.ntmps5
  go_wp2_with (first | (at_make; refine wpList_make_full _ rfl _ _ 22 rfl W.heap.size 3 i0 (.int .i64 0) 1 Tryd.underlying22 hi0 hz0 hz1 _ _ _ _ n rfl rfl rfl rfl (by rw [hz2]; omega) (by unfold maxLen; omega) (Nat.le_refl _) ?_))
  intro w1 hown hgrow
  have hk1 : Kp Nw W w1 := (Kp.refl _ _).grown hgrow (fun g hg => by cases hg)
  have hgl : W.heap.size < w1.heap.size := (World.ownsRow.lt hown W.heap.size rfl).2
  have HS := Lib.hid (Sl.zeros hown)
  have HK := Lib.hid hk1
  clear hown hgrow hk1
  go_wp2
  go_loopw [4] (fun i wr => ∃ j : Nat, j ≤ n ∧ i = .int .i64 j ∧ SlAt wr W.heap.size W.heap.size n n (fill xs (List.replicate n 0) j) ∧ Kp Nw W wr ∧ W.heap.size < wr.heap.size) (fun i _ => n - (intOf i).toNat)
  case atStart => exact ⟨0, Nat.zero_le _, rfl, by rw [fill_zero]; exact HS.out, HK.out, hgl⟩
  case round =>
    rename_i wr
    obtain ⟨j, hj, rfl, hs, hk, hw⟩ := hrel
    have H := Lib.hid hs
    have HK2 := Lib.hid hk
    by_cases hlt : j < n
    · have cc := hs.cell j hlt
      have f0 := hs.frozen j
      obtain ⟨g, o, rfl, h0⟩ := HA.out j (by rw [HN.out]; exact hlt)
      have h1 := keepc hk h0 (fun h => h)
      have hx : xs[j]? = some (xs.getD j 0) := by simp [show j < xs.length by rw [HN.out]; exact hlt]
      obtain ⟨x, hxx⟩ : ∃ x, xs.getD j 0 = x := ⟨_, rfl⟩
      rw [hxx] at h1 hx
      have HX := Lib.hid hx
      have j0 : (0 : Int) ≤ j := Int.natCast_nonneg _
      have j1 : (j : Int) < n := by omega
      clear hs hk HS h0 hx hxx
      go_wp2
      go_roundw
      case rel =>
        refine ⟨j + 1, by omega, by go_num, ?_, HK2.out.setCell (.inr (Nat.le_refl _)) _, by simpa [World.setCell] using hw⟩
        have h2 := H.out.store j x
        rw [fill_set xs _ j x (by rw [List.length_replicate, HN.out]) (by rw [HN.out]; exact hlt) HX.out] at h2
        exact h2
      case measure => simp [intOf]; omega
    · have e : j = n := by omega
      subst e
      have hn1 := HN.out
      rw [show fill xs (List.replicate j 0) j = xs by
        have := fill_all xs (List.replicate j 0) (by rw [List.length_replicate, hn1])
        rwa [hn1] at this] at hs
      have H2 := Lib.hid hs
      clear hs HS hk hn1
      go_wp2
      go_ret
      exact ⟨W.heap.size, rfl, H2.out, HK2.out, Nat.le_refl _, hw⟩

end Go.Proofs.YtpajmgonceepoacDoor
