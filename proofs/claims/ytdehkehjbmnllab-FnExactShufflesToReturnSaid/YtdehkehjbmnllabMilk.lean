/- The texts PileK, PileL, as one. -/
import Derived.Test.YtdehkehjbmnllabPil
import Derived.Test.YtdehkehjbmnllabPileS
namespace Go.Proofs.Ytdehkehjbmnllab
open Go.ChangeShapes Go.WideShapes Go.ChangeAt Go.RowKit

/-- the cards that are left between -/
def mid (xs : List Int) (j k : Nat) : List Int := (xs.drop j).take k
theorem mid_length (xs : List Int) (j k : Nat) (h : j + k ≤ xs.length) : (mid xs j k).length = k := by unfold mid; simp; omega
theorem mid_head (xs : List Int) (j k : Nat) (h : j + (k + 1) ≤ xs.length) : mid xs j (k + 1) = xs.getD j 0 :: mid xs (j + 1) k := by
  unfold mid
  rw [List.drop_eq_getElem_cons (by omega), List.take_succ_cons]
  congr 1
  rw [List.getD_eq_getElem?_getD, List.getElem?_eq_getElem (by omega)]
  rfl
theorem mid_last (xs : List Int) (j k : Nat) : (mid xs j (k + 1)).getD k 0 = xs.getD (j + k) 0 := by
  unfold mid
  rw [List.getD_eq_getElem?_getD, List.getElem?_take_of_lt (by omega), List.getElem?_drop, List.getD_eq_getElem?_getD]
theorem mid_cut (xs : List Int) (j k : Nat) (h : j + (k + 1) ≤ xs.length) : (mid xs j (k + 1)).eraseIdx k = mid xs j k := by
  have hl := mid_length xs j (k + 1) h
  have e : mid xs j (k + 1) = mid xs j k ++ [(mid xs j (k + 1)).getD k 0] := by
    rw [mid_last xs j k]
    unfold mid
    rw [List.take_succ_eq_append_getElem (by rw [List.length_drop]; omega)]
    congr 2
    rw [List.getElem_drop, List.getD_eq_getElem?_getD, List.getElem?_eq_getElem (by omega)]
    rfl
  have hl2 := mid_length xs j k (by omega)
  rw [e, List.eraseIdx_append_of_length_le (by omega), hl2, Nat.sub_self]
  simp

set_option maxRecDepth 100000 in
set_option maxHeartbeats 3200000 in
theorem milk_any (v : Value) (xs : List Int) (W : World) (hv : PileV v xs) :
    Calls Try.prog 38 #[v] W (MakesP W (milk xs)) := by
  obtain ⟨c, hg, rfl⟩ := hv
  obtain ⟨n, hn⟩ : ∃ n, xs.length = n := ⟨_, rfl⟩
  rw [hn]
  obtain ⟨Z, hZ, hz⟩ := zero_pile
  have hl1 : (plc Z 0).length = 105 := by rw [plc_length, hZ.1]
  have hl2 : (plc c n).length = 105 := by rw [plc_length, hg.1]
  obtain ⟨w3, hw3⟩ : ∃ w3, w3 = (((W.alloc (.cells (plc c n).toArray 38)).alloc (.cells (plc Z 0).toArray 38)).alloc (.cells (plc Z 0).toArray 38)) := ⟨_, rfl⟩
  obtain ⟨p0, p1, p2, k3⟩ := three_new W c Z n w3 hw3
  have P0 : Hid (Pile w3 W.heap.size xs) := Lib.hid ⟨c, hg, by rw [hn]; exact p0⟩
  have P1 := Lib.hid p1
  have P2 : Hid (Pile w3 (W.heap.size + 1 + 1) []) := Lib.hid ⟨Z, hZ, p2⟩
  have K3 := Lib.hid k3
  have HZ := Lib.hid hZ
  have HN := Lib.hid hn
  have HW := Lib.hid hw3
  have hn4 : n ≤ 104 := by have := hg.2.1; omega
  clear hg p0 p1 p2 k3 hZ hn hw3
  go_enter Try.func38, Try.ntmps38
  go_wp2_with fail
  rw [← HW.out]
  go_loopg [4] n (fun k _ wr => ∃ j : Nat, 2 * j + k = n ∧ Pile wr W.heap.size (mid xs j k) ∧ Pile wr (W.heap.size + 1 + 1) (milkN xs j) ∧ Pb wr (W.heap.size + 1) Z 0 ∧ Kp Nw W wr)
  case atStart => exact ⟨0, by omega, by rw [show mid xs 0 n = xs by unfold mid; rw [List.drop_zero, List.take_of_length_le (by rw [HN.out]; exact Nat.le_refl _)]]; exact P0.out, P2.out, P1.out, K3.out⟩
  case round =>
    obtain ⟨j, hj, q0, q2, q1, qk⟩ := hrel
    rcases gk with _ | _ | k
    · have s0 := q0.size 0 (mid_length xs j 0 (by rw [HN.out]; omega))
      obtain ⟨c3, g3, b3⟩ := q2
      have el : (milk xs).length = n := by rw [milk_length, HN.out]
      have e : milkN xs j = milk xs := by unfold milk; rw [HN.out, if_neg (by omega), show n / 2 = j by omega]
      rw [e] at g3 b3
      rw [el] at b3
      have hst := run_storeCells_pile (n' := n) q1 HZ.out.1 g3.1
      have hl3 : (plc c3 n).length = 105 := by rw [plc_length, g3.1]
      have HR := Lib.hid (setRow_heap wr (W.heap.size + 1) _ (plc c3 n).toArray _ _ q1)
      have HK := Lib.hid (qk.setRow (.inr (by omega : W.heap.size ≤ W.heap.size + 1)) (plc c3 n).toArray)
      have HB3 := Lib.hid b3
      have G3 := Lib.hid g3
      have EL := Lib.hid el
      clear q0 q1 qk b3 g3 el
      go_wp2
      refine wp_load_pile (.tmp 3) rfl (W.heap.size + 1 + 1) rfl _ n HB3.out G3.out.1 ?_
      go_wp2
      refine bodyPost_ret (ret_pile rfl rfl HR.out G3.out.1) rfl ?_
      exact ⟨_, rfl, ⟨_, G3.out, by rw [EL.out]⟩, HK.out⟩
    · have s0 := q0.size 1 (mid_length xs j 1 (by rw [HN.out]; omega))
      have hdh := mid_head xs j 0 (by rw [HN.out]; omega)
      rw [hdh] at q0
      have Q0 := Lib.hid q0
      have Q1 := Lib.hid q1
      have Q2 := Lib.hid q2
      have QK := Lib.hid qk
      obtain ⟨x, hx⟩ : ∃ x, xs.getD j 0 = x := ⟨_, rfl⟩
      rw [hx] at Q0
      have HX := Lib.hid hx
      have hm3 : (milkN xs j).length ≤ 103 := by rw [milkN_length]; omega
      clear q0 q1 q2 qk hdh hx
      go_wp2_with fail
      refine (take0_any W.heap.size x (mid xs (j + 1) 0) _ Q0.out).mono ?_
      rintro e w4 ⟨rfl, t0, tk⟩
      have T0 := Lib.hid t0
      have T1 := Lib.hid (Q1.out.kp tk (by omega))
      have T2 := Lib.hid (Q2.out.kp tk (by omega))
      have TK := Lib.hid (QK.out.after tk (fun g hg e => by omega))
      clear t0 tk
      go_wp2_with fail
      refine (putOn_any (W.heap.size + 1 + 1) _ x _ T2.out hm3).mono ?_
      rintro e w5 ⟨rfl, q2, uk⟩
      have q0 := T0.out.kp uk (by omega)
      have q1 := T1.out.kp uk (by omega)
      have qk := TK.out.after uk (fun g hg e => by omega)
      clear uk
      obtain ⟨c3, g3, b3⟩ := q2
      have el : (milk xs).length = n := by rw [milk_length, HN.out]
      have e : x :: milkN xs j = milk xs := by unfold milk; rw [HN.out, if_pos (by omega), show n / 2 = j by omega, HX.out]
      rw [e] at g3 b3
      rw [el] at b3
      have hst := run_storeCells_pile (n' := n) q1 HZ.out.1 g3.1
      have hl3 : (plc c3 n).length = 105 := by rw [plc_length, g3.1]
      have HR := Lib.hid (setRow_heap w5 (W.heap.size + 1) _ (plc c3 n).toArray _ _ q1)
      have HK := Lib.hid (qk.setRow (.inr (by omega : W.heap.size ≤ W.heap.size + 1)) (plc c3 n).toArray)
      have HB3 := Lib.hid b3
      have G3 := Lib.hid g3
      have EL := Lib.hid el
      clear q0 q1 qk b3 g3 el
      go_wp2
      refine wp_load_pile (.tmp 3) rfl (W.heap.size + 1 + 1) rfl _ n HB3.out G3.out.1 ?_
      go_wp2
      refine bodyPost_ret (ret_pile rfl rfl HR.out G3.out.1) rfl ?_
      exact ⟨_, rfl, ⟨_, G3.out, by rw [EL.out]⟩, HK.out⟩
    · have s0 := q0.size (k + 1 + 1) (mid_length xs j (k + 1 + 1) (by rw [HN.out]; omega))
      have hdh := mid_head xs j (k + 1) (by rw [HN.out]; omega)
      rw [hdh] at q0
      have hk0 : (1 : Int) < ((k + 1 + 1 : Nat) : Int) := by omega
      have Q0 := Lib.hid q0
      have Q1 := Lib.hid q1
      have Q2 := Lib.hid q2
      have QK := Lib.hid qk
      obtain ⟨x, hx⟩ : ∃ x, xs.getD j 0 = x := ⟨_, rfl⟩
      rw [hx] at Q0
      have HLA := Lib.hid (mid_last xs (j + 1) k)
      have HCU := Lib.hid (mid_cut xs (j + 1) k (by rw [HN.out]; omega))
      have HLN := Lib.hid (mid_length xs (j + 1) (k + 1) (by rw [HN.out]; omega))
      obtain ⟨y, hy⟩ : ∃ y, xs.getD (j + 1 + k) 0 = y := ⟨_, rfl⟩
      rw [hy] at HLA
      have HT : Hid (milkN xs (j + 1) = x :: y :: milkN xs j) := Lib.hid (by rw [milkN, hx, HN.out, show n - 1 - j = j + 1 + k by omega, hy])
      have hm3 : (milkN xs j).length ≤ 102 := by rw [milkN_length]; omega
      have wk : IntKind.i64.wrap (((k + 1 : Nat) : Int) - 1) = ((k : Nat) : Int) := by rw [IntWalk.i64_in _ (by omega)]; omega
      clear q0 q1 q2 qk hdh hx hy
      go_wp2_with fail
      refine (take0_any W.heap.size x (mid xs (j + 1) (k + 1)) _ Q0.out).mono ?_
      rintro e w4 ⟨rfl, t0, tk⟩
      have s4 := t0.size (k + 1) HLN.out
      have T0 := Lib.hid t0
      have T1 := Lib.hid (Q1.out.kp tk (by omega))
      have T2 := Lib.hid (Q2.out.kp tk (by omega))
      have TK := Lib.hid (QK.out.after tk (fun g hg e => by omega))
      clear t0 tk
      go_wp2_with fail
      refine (take_any W.heap.size k (mid xs (j + 1) (k + 1)) _ T0.out (by rw [HLN.out]; omega)).mono ?_
      rw [HLA.out, HCU.out]
      rintro e w5 ⟨rfl, t0, tk⟩
      have U0 := Lib.hid t0
      have U1 := Lib.hid (T1.out.kp tk (by omega))
      have U2 := Lib.hid (T2.out.kp tk (by omega))
      have UK := Lib.hid (TK.out.after tk (fun g hg e => by omega))
      clear t0 tk s4
      go_wp2_with fail
      refine (putOn_any (W.heap.size + 1 + 1) _ y _ U2.out (by omega)).mono ?_
      rintro e w6 ⟨rfl, u2, uk⟩
      have V0 := Lib.hid (U0.out.kp uk (by omega))
      have V1 := Lib.hid (U1.out.kp uk (by omega))
      have V2 := Lib.hid u2
      have VK := Lib.hid (UK.out.after uk (fun g hg e => by omega))
      clear u2 uk
      go_wp2_with fail
      refine (putOn_any (W.heap.size + 1 + 1) _ x _ V2.out (by simp; omega)).mono ?_
      rintro e w7 ⟨rfl, u2, uk⟩
      have X0 := Lib.hid (V0.out.kp uk (by omega))
      have X1 := Lib.hid (V1.out.kp uk (by omega))
      have X2 := Lib.hid u2
      have XK := Lib.hid (VK.out.after uk (fun g hg e => by omega))
      clear u2 uk
      go_wp2
      go_roundg k
      case measure => omega
      case rel => exact ⟨j + 1, by omega, X0.out, by rw [HT.out]; exact X2.out, X1.out, XK.out⟩
end Go.Proofs.Ytdehkehjbmnllab
namespace Go.Proofs.Ytdehkehjbmnllab
open Go.ChangeShapes Go.WideShapes Go.ChangeAt Go.RowKit

set_option maxRecDepth 100000 in
set_option maxHeartbeats 3200000 in
theorem shufflePile_milk (v : Value) (xs : List Int) (W : World) (hv : PileV v xs) :
    Calls Try.prog 28 #[v, .int .i64 0] W (ShufB W (milk xs)) := by
  obtain ⟨c, hg, rfl⟩ := hv
  obtain ⟨n, hn⟩ : ∃ n, xs.length = n := ⟨_, rfl⟩
  have VX : Hid (PileV (.agg (plc c n).toArray) xs) := Lib.hid ⟨c, hg, by rw [hn]⟩
  rw [hn]
  obtain ⟨Z, hZ, hz⟩ := zero_pile
  have hl1 : (plc Z 0).length = 105 := by rw [plc_length, hZ.1]
  have hl2 : (plc c n).length = 105 := by rw [plc_length, hg.1]
  obtain ⟨w2, hw2⟩ : ∃ w2, w2 = ((W.alloc (.cells (plc c n).toArray 38)).alloc (.cells (plc Z 0).toArray 38)) := ⟨_, rfl⟩
  obtain ⟨p0, p1, k2⟩ := two_new W c Z n w2 hw2
  have P0 := Lib.hid p0
  have P1 := Lib.hid p1
  have K2 := Lib.hid k2
  have HZ := Lib.hid hZ
  have HG := Lib.hid hg
  have HN := Lib.hid hn
  have HW := Lib.hid hw2
  clear hg p0 p1 k2 hZ hn hw2
  go_enter Try.func28, Try.ntmps28
  go_wp2_with fail
  rw [← HW.out]
  refine wp_load_pile (.tmp 2) rfl W.heap.size rfl _ n P0.out HG.out.1 ?_
  go_wp2_with fail
  refine (milk_any _ xs _ VX.out).mono ?_
  rintro e w3 ⟨v3, rfl, ⟨c3, g3, rfl⟩, hk3⟩
  have el : (milk xs).length = n := by rw [milk_length, HN.out]
  rw [el]
  have b3 := P1.out.kp hk3 (fun h => h)
  have hst := run_storeCells_pile (n' := n) b3 HZ.out.1 g3.1
  have hl3 : (plc c3 n).length = 105 := by rw [plc_length, g3.1]
  have HR : Hid (Pb (w3.setRow (W.heap.size + 1) (plc c3 n).toArray) (W.heap.size + 1) c3 n) := Lib.hid (setRow_heap _ _ _ _ _ _ b3)
  have HK := Lib.hid ((K2.out.nw hk3).setRow (.inr (by omega : W.heap.size ≤ W.heap.size + 1)) (plc c3 n).toArray)
  have G3 := Lib.hid g3
  have EL := Lib.hid el
  clear b3 hk3 g3 el
  go_wp2
  refine bodyPost_ret (v := .tuple #[.agg (plc c3 n).toArray, .bool true]) ?_ rfl ?_
  · rw [results_cell_tmp rfl]
    have h9 := run_load_pile HR.out G3.out.1
    simp [asAddr, Result.andThen, h9]
  · exact ⟨_, rfl, ⟨_, G3.out, by rw [EL.out]⟩, HK.out⟩
end Go.Proofs.Ytdehkehjbmnllab
