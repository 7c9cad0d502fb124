/- A pile that is shuffled from the top one on it, one under it (monge), and dealt with counts (deal), in the program; no condition but that there are as many counts as cards, each 0 .. 1000. -/
import Derived.Test.YtdehkehjbmnllabPileT
namespace Go.Proofs.Ytdehkehjbmnllab
open Go.ChangeShapes Go.WideShapes Go.ChangeAt Go.RowKit

set_option maxRecDepth 100000 in
set_option maxHeartbeats 3200000 in
theorem monge_any (v : Value) (xs : List Int) (W : World) (hv : PileV v xs) :
    Calls Try.prog 39 #[v] W (MakesP W (monge xs)) := by
  obtain ⟨c, hg, rfl⟩ := hv
  obtain ⟨n, hn⟩ : ∃ n, xs.length = n := ⟨_, rfl⟩
  rw [hn]
  obtain ⟨Z, hZ, hz⟩ := zero_pile
  have hl1 : (plc Z 0).length = 105 := by rw [plc_length, hZ.1]
  have hl2 : (plc c n).length = 105 := by rw [plc_length, hg.1]
  obtain ⟨w3, hw3⟩ : ∃ w3, w3 = (((W.alloc (.cells (plc c n).toArray 38)).alloc (.cells (plc Z 0).toArray 38)).alloc (.cells (plc Z 0).toArray 38)) := ⟨_, rfl⟩
  obtain ⟨p0, p1, p2, k3⟩ := three_new W c Z n w3 hw3
  have P0 : Hid (Pile w3 W.heap.size xs) := Lib.hid ⟨c, hg, by rw [hn]; exact p0⟩
  have P1 := Lib.hid p1
  have P2 : Hid (Pile w3 (W.heap.size + 1 + 1) []) := Lib.hid ⟨Z, hZ, p2⟩
  have K3 := Lib.hid k3
  have HZ := Lib.hid hZ
  have HN := Lib.hid hn
  have HW := Lib.hid hw3
  have hn4 : n ≤ 104 := by have := hg.2.1; omega
  clear hg p0 p1 p2 k3 hZ hn hw3
  go_enter Try.func39, Try.ntmps39
  go_wp2_with fail
  rw [← HW.out]
  go_loopg [4] n (fun k tv wr => ∃ j : Nat, j + k = n ∧ tv = .int .i64 j ∧ Pile wr W.heap.size (xs.drop j) ∧ Pile wr (W.heap.size + 1 + 1) (monN xs j) ∧ Pb wr (W.heap.size + 1) Z 0 ∧ Kp Nw W wr)
  case atStart => exact ⟨0, by omega, rfl, by simpa using P0.out, P2.out, P1.out, K3.out⟩
  case round =>
    obtain ⟨j, hj, rfl, q0, q2, q1, qk⟩ := hrel
    cases gk with
    | zero =>
      have s0 := q0.size 0 (by rw [List.length_drop, HN.out]; omega)
      obtain ⟨c3, g3, b3⟩ := q2
      have el : (monge xs).length = n := by unfold monge; rw [monN_length, HN.out]
      have e : monN xs j = monge xs := by unfold monge; rw [HN.out, show j = n by omega]
      rw [e] at g3 b3
      rw [el] at b3
      have hst := run_storeCells_pile (n' := n) q1 HZ.out.1 g3.1
      have hl3 : (plc c3 n).length = 105 := by rw [plc_length, g3.1]
      have HR := Lib.hid (setRow_heap wr (W.heap.size + 1) _ (plc c3 n).toArray _ _ q1)
      have HK := Lib.hid (qk.setRow (.inr (by omega : W.heap.size ≤ W.heap.size + 1)) (plc c3 n).toArray)
      have HB3 := Lib.hid b3
      have G3 := Lib.hid g3
      have EL := Lib.hid el
      clear q0 q1 qk b3 g3 el
      go_wp2
      refine wp_load_pile (.tmp 3) rfl (W.heap.size + 1 + 1) rfl _ n HB3.out G3.out.1 ?_
      go_wp2
      refine bodyPost_ret (ret_pile rfl rfl HR.out G3.out.1) rfl ?_
      exact ⟨_, rfl, ⟨_, G3.out, by rw [EL.out]⟩, HK.out⟩
    | succ k =>
      have s0 := q0.size (k + 1) (by rw [List.length_drop, HN.out]; omega)
      have hdh := drop_head (xs := xs) (j := j) (k := k) (by rw [HN.out]; omega)
      rw [hdh] at q0
      have hk0 : (0 : Int) < ((k + 1 : Nat) : Int) := by omega
      have Q0 := Lib.hid q0
      have Q1 := Lib.hid q1
      have Q2 := Lib.hid q2
      have QK := Lib.hid qk
      obtain ⟨x, hx⟩ : ∃ x, xs.getD j 0 = x := ⟨_, rfl⟩
      rw [hx] at Q0
      have hm3 : (monN xs j).length ≤ 103 := by rw [monN_length]; omega
      have j0 : (0 : Int) ≤ j := Int.natCast_nonneg _
      have w2 : IntKind.i64.wrap ((j : Int) + 1) = ((j + 1 : Nat) : Int) := by rw [IntWalk.i64_in _ (by omega)]; omega
      have wm : IntKind.i64.wrap ((j : Int).tmod 2) = ((j % 2 : Nat) : Int) := by rw [Int.tmod_eq_emod_of_nonneg (by omega), IntWalk.i64_in _ (by omega)]; omega
      clear q0 q1 q2 qk hdh
      by_cases ho : j % 2 = 1
      · have HT : Hid (monN xs (j + 1) = x :: monN xs j) := Lib.hid (by rw [monN, if_pos ho, hx])
        have wo : ((j % 2 : Nat) : Int) = 1 := by omega
        clear hx
        go_wp2_with fail
        refine (take0_any W.heap.size x (xs.drop (j + 1)) _ Q0.out).mono ?_
        rintro e w4 ⟨rfl, t0, tk⟩
        have T0 := Lib.hid t0
        have T1 := Lib.hid (Q1.out.kp tk (by omega))
        have T2 := Lib.hid (Q2.out.kp tk (by omega))
        have TK := Lib.hid (QK.out.after tk (fun g hg e => by omega))
        clear t0 tk
        go_wp2_with fail
        refine (putOn_any (W.heap.size + 1 + 1) _ x _ T2.out hm3).mono ?_
        rintro e w5 ⟨rfl, u2, uk⟩
        have U0 := Lib.hid (T0.out.kp uk (by omega))
        have U1 := Lib.hid (T1.out.kp uk (by omega))
        have U2 := Lib.hid u2
        have UK := Lib.hid (TK.out.after uk (fun g hg e => by omega))
        clear u2 uk
        go_wp2
        go_roundg k
        case measure => omega
        case rel => exact ⟨j + 1, by omega, rfl, U0.out, by rw [HT.out]; exact U2.out, U1.out, UK.out⟩
      · have HT : Hid (monN xs (j + 1) = monN xs j ++ [x]) := Lib.hid (by rw [monN, if_neg ho, hx])
        have wo : ¬ ((j % 2 : Nat) : Int) = 1 := by omega
        clear hx
        go_wp2_with fail
        refine (take0_any W.heap.size x (xs.drop (j + 1)) _ Q0.out).mono ?_
        rintro e w4 ⟨rfl, t0, tk⟩
        have T0 := Lib.hid t0
        have T1 := Lib.hid (Q1.out.kp tk (by omega))
        have T2 := Lib.hid (Q2.out.kp tk (by omega))
        have TK := Lib.hid (QK.out.after tk (fun g hg e => by omega))
        clear t0 tk
        go_wp2_with fail
        refine (putUnder_any (W.heap.size + 1 + 1) _ x _ T2.out hm3).mono ?_
        rintro e w5 ⟨rfl, u2, uk⟩
        have U0 := Lib.hid (T0.out.kp uk (by omega))
        have U1 := Lib.hid (T1.out.kp uk (by omega))
        have U2 := Lib.hid u2
        have UK := Lib.hid (TK.out.after uk (fun g hg e => by omega))
        clear u2 uk
        go_wp2
        go_roundg k
        case measure => omega
        case rel => exact ⟨j + 1, by omega, rfl, U0.out, by rw [HT.out]; exact U2.out, U1.out, UK.out⟩

/-- the cards as the model holds them behind a turn: from the next one on, around -/
def cur (ys : List Int) (t : Nat) : List Int := rot ys (t % ys.length)
theorem deal_step (ys : List Int) (t : Nat) (u : Int) (us : List Int) (hp : 0 < ys.length) (m : Nat) (hm : (m : Int) = ((t : Int) + u) % (ys.length : Int)) :
    deal (cur ys t) (u :: us) = ys.getD m 0 :: deal (cur (ys.eraseIdx m) m) us := by
  have ht := Nat.mod_lt t hp
  have hpl := place_lt (u + 1) ys.length hp
  have hpi := place_int (u + 1) ys.length hp
  have e1 : (t % ys.length + place (u + 1) ys.length) % ys.length = m := by
    have h2 : (((t % ys.length + place (u + 1) ys.length) % ys.length : Nat) : Int) = (m : Int) := by
      rw [Int.natCast_emod, Int.natCast_add, Int.natCast_emod, hpi, hm, show u + 1 - 1 = u by omega, Int.emod_add_emod, Int.add_emod_emod]
    omega
  have hml : m < ys.length := by rw [← e1]; exact Nat.mod_lt _ hp
  rw [deal]
  congr 1
  · unfold who cur
    rw [rot_length, rot_getD _ _ _ _ ht hpl, e1]
  · congr 1
    by_cases h2 : 2 ≤ ys.length
    · unfold cur
      rw [rest_rot _ _ _ ht h2, e1, List.length_eraseIdx_of_lt hml]
    · have e0 : ys.length = 1 := by omega
      have h3 := rest_length (u + 1) (cur ys t) (by unfold cur; rw [rot_length]; exact hp)
      have h4 : (rest (u + 1) (cur ys t)).length = 0 := by unfold cur at h3; rw [rot_length] at h3; unfold cur; omega
      have h5 : (cur (ys.eraseIdx m) m).length = 0 := by unfold cur; rw [rot_length, List.length_eraseIdx_of_lt hml]; omega
      rw [List.eq_nil_of_length_eq_zero h4, List.eq_nil_of_length_eq_zero h5]

end Go.Proofs.Ytdehkehjbmnllab
