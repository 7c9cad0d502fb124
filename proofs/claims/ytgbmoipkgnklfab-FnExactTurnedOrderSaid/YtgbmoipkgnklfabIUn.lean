/- Orders undone and turned in the program; no condition but on lengths. -/
import Derived.Test.YtgbmoipkgnklfabIOrd
import Derived.Test.YtgbmoipkgnklfabLaws7
namespace Go.Proofs.Ytgbmoipkgnklfab
open Go.ChangeShapes Go.WideShapes Go.ChangeAt Go.RowKit

set_option maxRecDepth 100000 in
set_option maxHeartbeats 3200000 in
theorem iUndoOrder_yes (g n B : Nat) (xs : List Int) (W : World) (hs : SlAt W B g n n xs) (hl : n ≤ 1048576) (hb : ordB xs = true) : Calls Try.prog 11 #[.slice (some ⟨g, 0, none⟩) n n] W (ListB W (undoL xs) true) := by
  obtain ⟨i0, hi0, hz0, hz1, hz2⟩ := info_parts intInfo
  have hp := ordB_parts hb
  have hlen := hs.1
  have n1 : 1 ≤ n := by omega
  have n2 : n ≤ 12 := by omega
  have HS := Lib.hid hs
  have HB := Lib.hid hb
  have HLX := Lib.hid hlen
  clear hs hb hp hlen
  go_enter Try.func11, Try.ntmps11
  go_wp2_with fail
  refine (iIsOrder_any g n B xs W hl HS.out).mono ?_
  rw [HB.out]
  rintro e w1 ⟨rfl, hk1⟩
  have HK1 := Lib.hid hk1
  clear hk1
  go_wp2_with (first | (at_make; refine wpList_make_full _ rfl _ _ 22 rfl w1.heap.size 3 i0 (.int .i64 0) 1 Try.underlying22 hi0 hz0 hz1 _ _ _ _ n rfl rfl rfl rfl (by rw [hz2]; omega) (by unfold maxLen; omega) (Nat.le_refl _) ?_))
  intro w3 hown hgrow
  have hk3 : Kp Nw W w3 := HK1.out.nw ((Kp.refl Nw _).grown hgrow (fun g hg => by cases hg))
  have HS0 := Lib.hid (Sl.zeros hown)
  obtain ⟨gm, hgm⟩ : ∃ gm, gm = w1.heap.size := ⟨_, rfl⟩
  have HK3 := Lib.hid hk3
  rw [← hgm] at HS0 ⊢
  have HGM : Hid (W.heap.size ≤ gm) := Lib.hid (by rw [hgm]; exact HK1.out.size)
  have HG0 := Lib.hid (World.block_lt_of_cell? W _ (HS.out.cell 0 n1))
  clear hown hgrow hk3 hgm
  go_wp2
  go_loopw [15] (fun i wq => ∃ (j : Nat) (wr : World), j ≤ n ∧ i = .int .i64 j ∧ wr = wq ∧ SlAt wr gm gm n n (undoN xs j) ∧ Kp (fun b => b = gm) w3 wr) (fun i _ => n - (intOf i).toNat)
  case atStart => exact ⟨0, _, Nat.zero_le _, rfl, rfl, by rw [undoN, HLX.out]; exact HS0.out, Kp.refl _ _⟩
  case round =>
    obtain ⟨j, wr, hj, rfl, rfl, hsu, hk⟩ := hrel
    have HSU := Lib.hid hsu
    have HK := Lib.hid hk
    by_cases hlt : j < n
    · have j0 : (0 : Int) ≤ j := Int.natCast_nonneg _
      have j1 : (j : Int) < n := by omega
      obtain ⟨y0, y1⟩ := ordB_get HB.out j (by rw [HLX.out]; exact hlt)
      obtain ⟨y, hy⟩ : ∃ y : Nat, xs.getD j 0 = (y : Int) := ⟨(xs.getD j 0).toNat, by omega⟩
      rw [hy, HLX.out] at y1
      have hyn : y < n := by omega
      have yp : (0 : Int) ≤ y := Int.natCast_nonneg _
      have hst : undoN xs (j + 1) = (undoN xs j).set y (j : Int) := by rw [undoN, hy, Int.toNat_natCast]
      have cx := keepc (HK3.out.after HK.out (S := Nw) (fun g hg h => by have h9 : g = gm := h; have := HGM.out; omega)) (HS.out.cell j hlt) (fun h => h)
      rw [hy] at cx
      have cs := hsu.cell y hyn
      have fs := hsu.frozen y
      have HT := Lib.hid hst
      clear hsu hk hy hst y0
      go_wp2
      go_roundw
      case rel => exact ⟨j + 1, _, by omega, by go_num, rfl, by rw [HT.out]; exact HSU.out.store y _, HK.out.setCell (.inl rfl) _⟩
      case measure => simp [intOf] <;> omega
    · have e : j = n := by omega
      subst e
      have t1 : ¬ (j : Int) < j := by omega
      have HSF : Hid (Sl wr W.heap.size (.slice (some ⟨gm, 0, none⟩) j j) (undoL xs)) := Lib.hid (by
        unfold undoL; rw [HLX.out]
        exact Sl.from hsu.sl HGM.out)
      have HKF := Lib.hid (HK3.out.after hk (S := Nw) (fun g hg h => by have h9 : g = gm := h; have := HGM.out; omega))
      clear hsu hk
      go_wp2
      go_ret2
      exact ⟨_, rfl, HSF.out, HKF.out⟩
theorem iUndoOrder_no (g n B : Nat) (xs : List Int) (W : World) (hs : SlAt W B g n n xs) (hl : n ≤ 1048576) (hb : ordB xs = false) : Calls Try.prog 11 #[.slice (some ⟨g, 0, none⟩) n n] W (ListB W [] false) := by
  have HS := Lib.hid hs
  have HB := Lib.hid hb
  clear hs hb
  go_enter Try.func11, Try.ntmps11
  go_wp2_with fail
  refine (iIsOrder_any g n B xs W hl HS.out).mono ?_
  rw [HB.out]
  rintro e w1 ⟨rfl, hk1⟩
  have HK1 := Lib.hid hk1
  clear hk1
  go_wp2
  go_ret2
  exact ⟨.slice none 0 0, rfl, Sl.nil _ _, HK1.out⟩
theorem iUndoOrder_any (g n B : Nat) (xs : List Int) (W : World) (hl : n ≤ 1048576) (hs : SlAt W B g n n xs) : Calls Try.prog 11 #[.slice (some ⟨g, 0, none⟩) n n] W (ListB W (vUndo xs).1 (vUndo xs).2) := by
  unfold vUndo
  cases hb : ordB xs
  · rw [if_neg Bool.false_ne_true]; exact iUndoOrder_no g n B xs W hs hl hb
  · rw [if_pos rfl]; exact iUndoOrder_yes g n B xs W hs hl hb

/-- a list over zeros -/
def ovr (n : Nat) (ys : List Int) : List Int := ys ++ (List.replicate n (0 : Int)).drop ys.length
theorem ovr_nil (n : Nat) : ovr n [] = List.replicate n 0 := rfl
theorem ovr_snoc (n : Nat) (ys : List Int) (z : Int) (h : ys.length < n) : (ovr n ys).set ys.length z = ovr n (ys ++ [z]) := by
  unfold ovr
  have e : (List.replicate n (0 : Int)).drop ys.length = 0 :: (List.replicate n (0 : Int)).drop (ys.length + 1) := by
    rw [List.drop_eq_getElem_cons (by simpa using h)]
    simp
  rw [e, List.set_append_right _ _ (Nat.le_refl _), Nat.sub_self, List.set_cons_zero, List.length_append, List.length_singleton, List.append_assoc]
  rfl
theorem ovr_all (n : Nat) (ys : List Int) (h : ys.length = n) : ovr n ys = ys := by
  unfold ovr
  rw [List.drop_of_length_le (by simp [h]), List.append_nil]

set_option maxRecDepth 100000 in
set_option maxHeartbeats 3200000 in
theorem iTurnedOrder_any (g n B : Nat) (xs : List Int) (u : Int) (W : World) (hl : n ≤ 1048576) (hs : SlAt W B g n n xs) : Calls Try.prog 15 #[.slice (some ⟨g, 0, none⟩) n n, .int .i64 u] W (ListB W (vTurned xs u).1 (vTurned xs u).2) := by
  obtain ⟨i0, hi0, hz0, hz1, hz2⟩ := info_parts intInfo
  have hlen := hs.1
  have HS := Lib.hid hs
  have wn : IntKind.i64.wrap ((n : Int) - 1) = (n : Int) - 1 := IntWalk.i64_in _ (by omega)
  clear hs
  unfold vTurned
  cases hb : ordB xs
  · have HB := Lib.hid hb
    rw [if_neg (by simp)]
    clear hb hlen
    go_enter Try.func15, Try.ntmps15
    go_wp2_with fail
    refine (iIsOrder_any g n B xs W hl HS.out).mono ?_
    rw [HB.out]
    rintro e w1 ⟨rfl, hk1⟩
    have HK1 := Lib.hid hk1
    clear hk1
    go_wp2
    go_ret2
    exact ⟨.slice none 0 0, rfl, Sl.nil _ _, HK1.out⟩
  · have HB := Lib.hid hb
    have hp := ordB_parts hb
    rw [hlen]
    by_cases hu : 0 ≤ u ∧ u ≤ (n : Int) - 1
    · rw [if_pos ⟨rfl, hu⟩]
      obtain ⟨u0, u1⟩ := hu
      have n1 : 1 ≤ n := by omega
      have n2 : n ≤ 12 := by omega
      have HLX := Lib.hid hlen
      obtain ⟨R, hR⟩ : ∃ R, turnedL xs u = R := ⟨_, rfl⟩
      have HRR : Hid (turnedT xs u n n = R) := Lib.hid (by rw [← hR]; unfold turnedT turnedL; rw [List.take_of_length_le (by omega), hlen])
      rw [hR]
      clear hb hlen hp hR
      go_enter Try.func15, Try.ntmps15
      go_wp2_with fail
      refine (iIsOrder_any g n B xs W hl HS.out).mono ?_
      rw [HB.out]
      rintro e w1 ⟨rfl, hk1⟩
      have HK1 := Lib.hid hk1
      clear hk1
      go_wp2_with (first | ((with_reducible refine (within_yes u _ _ _ u0 u1).mono ?_); rintro e w' ⟨rfl, rfl⟩) | (at_make; refine wpList_make_full _ rfl _ _ 22 rfl w1.heap.size 3 i0 (.int .i64 0) 1 Try.underlying22 hi0 hz0 hz1 _ _ _ _ n rfl rfl rfl rfl (by rw [hz2]; omega) (by unfold maxLen; omega) (Nat.le_refl _) ?_))
      intro w3 hown hgrow
      have hk3 : Kp Nw W w3 := HK1.out.nw ((Kp.refl Nw _).grown hgrow (fun g hg => by cases hg))
      have HS0 := Lib.hid (Sl.zeros hown)
      obtain ⟨gm, hgm⟩ : ∃ gm, gm = w1.heap.size := ⟨_, rfl⟩
      have HK3 := Lib.hid hk3
      rw [← hgm] at HS0 ⊢
      have HGM : Hid (W.heap.size ≤ gm) := Lib.hid (by rw [hgm]; exact HK1.out.size)
      clear hown hgrow hk3 hgm
      go_wp2
      go_loopw [25] (fun i wq => ∃ (j : Nat) (wr : World), j ≤ n ∧ i = .int .i64 j ∧ wr = wq ∧ SlAt wr gm gm n n (ovr n (turnedT xs u n j)) ∧ Kp (fun b => b = gm) w3 wr) (fun i _ => n - (intOf i).toNat)
      case atStart => exact ⟨0, _, Nat.zero_le _, rfl, rfl, HS0.out, Kp.refl _ _⟩
      case round =>
        obtain ⟨j, wr, hj, rfl, rfl, hsu, hk⟩ := hrel
        have HSU := Lib.hid hsu
        have HK := Lib.hid hk
        by_cases hlt : j < n
        · have j0 : (0 : Int) ≤ j := Int.natCast_nonneg _
          have j1 : (j : Int) < n := by omega
          obtain ⟨y0, y1⟩ := ordB_get HB.out j (by rw [HLX.out]; exact hlt)
          have hst := turnedT_succ xs u n j (by rw [HLX.out]; exact hlt)
          obtain ⟨y, hy⟩ : ∃ y, xs.getD j 0 = y := ⟨_, rfl⟩
          rw [hy] at y0 y1 hst
          rw [HLX.out] at y1
          have cy := keepc (HK3.out.after HK.out (S := Nw) (fun g hg h => by have h9 : g = gm := h; have := HGM.out; omega)) (HS.out.cell j hlt) (fun h => h)
          rw [hy] at cy
          have t0 : IntKind.i64.wrap (y + u) = y + u := IntWalk.i64_in _ (by omega)
          obtain ⟨z, hz⟩ : ∃ z, (y + u) % (n : Int) = z := ⟨_, rfl⟩
          rw [hz] at hst
          have HZ := Lib.hid hz
          have hrl : (turnedT xs u n j).length = j := by unfold turnedT; rw [List.length_map, List.length_take, HLX.out]; omega
          have hst2 : ovr n (turnedT xs u n (j + 1)) = (ovr n (turnedT xs u n j)).set j z := by
            have := ovr_snoc n (turnedT xs u n j) z (by rw [hrl]; exact hlt)
            rw [hrl] at this
            rw [hst, this]
          have cs := hsu.cell j hlt
          have fs := hsu.frozen j
          have HT := Lib.hid hst2
          clear hsu hk hy hst hst2 hrl hz
          go_wp2_with fail
          refine (around_any (y + u) n _ (by omega) (by omega) (by omega) (by omega)).mono ?_
          rw [HZ.out]
          rintro e w' ⟨rfl, rfl⟩
          go_wp2
          go_roundw
          case rel => exact ⟨j + 1, _, by omega, by go_num, rfl, by rw [HT.out]; exact HSU.out.store j _, HK.out.setCell (.inl rfl) _⟩
          case measure => simp [intOf] <;> omega
        · have ej : j = n := by omega
          subst ej
          have t1 : ¬ (j : Int) < j := by omega
          have HSF : Hid (Sl wr W.heap.size (.slice (some ⟨gm, 0, none⟩) j j) R) := Lib.hid (by
            have h9 := hsu.sl
            rw [ovr_all j _ (by unfold turnedT; rw [List.length_map, List.length_take, HLX.out]; omega), HRR.out] at h9
            exact h9.from HGM.out)
          have HKF := Lib.hid (HK3.out.after hk (S := Nw) (fun g hg h => by have h9 : g = gm := h; have := HGM.out; omega))
          clear hsu hk
          go_wp2
          go_ret2
          exact ⟨_, rfl, HSF.out, HKF.out⟩
    · have hu' : u < 0 ∨ (n : Int) - 1 < u := by omega
      rw [if_neg (fun h => hu h.2)]
      clear hb hlen hu hp
      go_enter Try.func15, Try.ntmps15
      go_wp2_with fail
      refine (iIsOrder_any g n B xs W hl HS.out).mono ?_
      rw [HB.out]
      rintro e w1 ⟨rfl, hk1⟩
      have HK1 := Lib.hid hk1
      clear hk1
      go_wp2_with (first | ((with_reducible refine (within_no u _ _ _ hu').mono ?_); rintro e w' ⟨rfl, rfl⟩))
      go_ret2
      exact ⟨.slice none 0 0, rfl, Sl.nil _ _, HK1.out⟩
end Go.Proofs.Ytgbmoipkgnklfab
