/- Shuffles of a pile in the program: turned back (turnBack) and from the top one on it, one under it (monge); no condition. -/
import Derived.Test.YtdehkehjbmnllabPileP
import Derived.Test.YtdehkehjbmnllabDeckU
import Derived.Deep.LoopGhost
namespace Go.Proofs.Ytdehkehjbmnllab
open Go.ChangeShapes Go.WideShapes Go.ChangeAt Go.RowKit

theorem zero_pile : ∃ Z : List Int, Cds Z [] ∧ ∀ w, (zeroValue 38).run Try.prog w = .ok (.agg (plc Z 0).toArray) w :=
  ⟨List.replicate 104 0, Cds.zero, (zero_of_info pileZero).1⟩

theorem Pile.size {w : World} {b : Nat} {xs : List Int} (h : Pile w b xs) (k : Nat) (hk : xs.length = k) : w.cell? ⟨b, 104, none⟩ = some (.int .i64 (k : Int)) := by
  obtain ⟨c, hg, hb⟩ := h
  rw [← hk]
  exact hb.size hg.1
/-- the blocks of a pile that came in, of the result and of a new pile -/
theorem three_new (W : World) (c Z : List Int) (n : Nat) (w3 : World) (hw : w3 = (((W.alloc (.cells (plc c n).toArray 38)).alloc (.cells (plc Z 0).toArray 38)).alloc (.cells (plc Z 0).toArray 38))) :
    Pb w3 W.heap.size c n ∧ Pb w3 (W.heap.size + 1) Z 0 ∧ Pb w3 (W.heap.size + 1 + 1) Z 0 ∧ Kp Nw W w3 := by
  subst hw
  have h0 := Pb.new W c n
  have h1 := Pb.new (W.alloc (.cells (plc c n).toArray 38)) Z 0
  have h2 := Pb.new ((W.alloc (.cells (plc c n).toArray 38)).alloc (.cells (plc Z 0).toArray 38)) Z 0
  simp only [World.size_alloc] at h1 h2
  exact ⟨(h0.kp (.al _ _) (fun h => h)).kp (.al _ _) (fun h => h), h1.kp (.al _ _) (fun h => h), h2, ((Kp.al W _).nw (.al _ _)).nw (.al _ _)⟩
theorem take0_any (b : Nat) (x : Int) (ys : List Int) (W : World) (hp : Pile W b (x :: ys)) :
    Calls Try.prog 44 #[.pointer (some ⟨b, 0, none⟩), .int .i64 0] W fun e w' => e = .returned (.int .i64 x) ∧ Pile w' b ys ∧ Kp (fun g => g = b) W w' :=
  take_any b 0 (x :: ys) W hp (by simp)
theorem drop_head {xs : List Int} {j k : Nat} (h : j + (k + 1) = xs.length) : xs.drop j = xs.getD j 0 :: xs.drop (j + 1) := by
  rw [List.drop_eq_getElem_cons (by omega), List.getD_eq_getElem?_getD, List.getElem?_eq_getElem (by omega)]
  rfl

set_option maxRecDepth 100000 in
set_option maxHeartbeats 3200000 in
theorem turnBack_any (v : Value) (xs : List Int) (W : World) (hv : PileV v xs) :
    Calls Try.prog 40 #[v] W (MakesP W xs.reverse) := by
  obtain ⟨c, hg, rfl⟩ := hv
  obtain ⟨n, hn⟩ : ∃ n, xs.length = n := ⟨_, rfl⟩
  have hg' := hg
  rw [hn]
  obtain ⟨Z, hZ, hz⟩ := zero_pile
  have hl1 : (plc Z 0).length = 105 := by rw [plc_length, hZ.1]
  have hl2 : (plc c n).length = 105 := by rw [plc_length, hg.1]
  obtain ⟨w3, hw3⟩ : ∃ w3, w3 = (((W.alloc (.cells (plc c n).toArray 38)).alloc (.cells (plc Z 0).toArray 38)).alloc (.cells (plc Z 0).toArray 38)) := ⟨_, rfl⟩
  obtain ⟨p0, p1, p2, k3⟩ := three_new W c Z n w3 hw3
  have P0 : Hid (Pile w3 W.heap.size xs) := Lib.hid ⟨c, hg, by rw [hn]; exact p0⟩
  have P1 := Lib.hid p1
  have P2 : Hid (Pile w3 (W.heap.size + 1 + 1) []) := Lib.hid ⟨Z, hZ, p2⟩
  have K3 := Lib.hid k3
  have HZ := Lib.hid hZ
  have HN := Lib.hid hn
  have HW := Lib.hid hw3
  have hn4 : n ≤ 104 := by have := hg.2.1; omega
  clear hg hg' p0 p1 p2 k3 hZ hn hw3
  go_enter Try.func40, Try.ntmps40
  go_wp2_with fail
  rw [← HW.out]
  go_loopg [] n (fun k wr => ∃ j : Nat, j + k = n ∧ Pile wr W.heap.size (xs.drop j) ∧ Pile wr (W.heap.size + 1 + 1) (xs.take j).reverse ∧ Pb wr (W.heap.size + 1) Z 0 ∧ Kp Nw W wr)
  case atStart => exact ⟨0, by omega, by simpa using P0.out, by simpa using P2.out, P1.out, K3.out⟩
  case round =>
    obtain ⟨j, hj, q0, q2, q1, qk⟩ := hrel
    cases gk with
    | zero =>
      have s0 := q0.size 0 (by rw [List.length_drop, HN.out]; omega)
      obtain ⟨c3, g3, b3⟩ := q2
      have e : (xs.take j).reverse = xs.reverse := by rw [List.take_of_length_le (by rw [HN.out]; omega)]
      rw [e] at g3 b3
      have el : xs.reverse.length = n := by rw [List.length_reverse, HN.out]
      rw [el] at b3
      have hst := run_storeCells_pile (n' := n) q1 HZ.out.1 g3.1
      have hl3 : (plc c3 n).length = 105 := by rw [plc_length, g3.1]
      have HR := Lib.hid (setRow_heap wr (W.heap.size + 1) _ (plc c3 n).toArray _ _ q1)
      have HK := Lib.hid (qk.setRow (.inr (by omega : W.heap.size ≤ W.heap.size + 1)) (plc c3 n).toArray)
      have HB3 := Lib.hid b3
      have G3 := Lib.hid g3
      have EL := Lib.hid el
      clear q0 q1 qk b3 g3 e el
      go_wp2
      refine wp_load_pile (.tmp 3) rfl (W.heap.size + 1 + 1) rfl _ n HB3.out G3.out.1 ?_
      go_wp2
      refine bodyPost_ret (ret_pile rfl rfl HR.out G3.out.1) rfl ?_
      exact ⟨_, rfl, ⟨_, G3.out, by rw [EL.out]⟩, HK.out⟩
    | succ k =>
      have s0 := q0.size (k + 1) (by rw [List.length_drop, HN.out]; omega)
      have hdh := drop_head (xs := xs) (j := j) (k := k) (by rw [HN.out]; omega)
      rw [hdh] at q0
      have hk0 : (0 : Int) < ((k + 1 : Nat) : Int) := by omega
      have Q0 := Lib.hid q0
      have Q1 := Lib.hid q1
      have Q2 := Lib.hid q2
      have QK := Lib.hid qk
      obtain ⟨x, hx⟩ : ∃ x, xs.getD j 0 = x := ⟨_, rfl⟩
      rw [hx] at Q0
      have HX := Lib.hid hx
      clear q0 q1 q2 qk hdh hx
      go_wp2_with fail
      refine (take0_any W.heap.size x (xs.drop (j + 1)) _ Q0.out).mono ?_
      rintro e w4 ⟨rfl, t0, tk⟩
      have T0 := Lib.hid t0
      have T1 := Lib.hid (Q1.out.kp tk (by omega))
      have T2 := Lib.hid (Q2.out.kp tk (by omega))
      have TK := Lib.hid (QK.out.after tk (fun g hg e => by omega))
      clear t0 tk
      go_wp2_with fail
      refine (putOn_any (W.heap.size + 1 + 1) _ x _ T2.out (by rw [List.length_reverse, List.length_take, HN.out]; omega)).mono ?_
      rintro e w5 ⟨rfl, u2, uk⟩
      have U0 := Lib.hid (T0.out.kp uk (by omega))
      have U1 := Lib.hid (T1.out.kp uk (by omega))
      have U2 := Lib.hid u2
      have UK := Lib.hid (TK.out.after uk (fun g hg e => by omega))
      clear u2 uk
      go_wp2
      go_roundg k
      case measure => omega
      case rel =>
        refine ⟨j + 1, by omega, U0.out, ?_, U1.out, UK.out⟩
        have e : (xs.take (j + 1)).reverse = x :: (xs.take j).reverse := by
          rw [← HX.out, List.getD_eq_getElem?_getD, List.take_add_one, List.getElem?_eq_getElem (by rw [HN.out]; omega)]
          simp
        rw [e]
        exact U2.out
end Go.Proofs.Ytdehkehjbmnllab
