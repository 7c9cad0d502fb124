/- A pile that is shuffled from the top one on it, one under it (monge), and dealt with counts (deal), in the program; no condition but that there are as many counts as cards, each 0 .. 1000. -/
import Derived.Test.YtpajmgonceepoacDoorPileT
namespace Go.Proofs.YtpajmgonceepoacDoor
open Go.ChangeShapes Go.WideShapes Go.ChangeAt Go.RowKit
/-- the cards as the model holds them behind a turn: from the next one on, around -/
def cur (ys : List Int) (t : Nat) : List Int := rot ys (t % ys.length)
theorem deal_step (ys : List Int) (t : Nat) (u : Int) (us : List Int) (hp : 0 < ys.length) (m : Nat) (hm : (m : Int) = ((t : Int) + u) % (ys.length : Int)) :
    deal (cur ys t) (u :: us) = ys.getD m 0 :: deal (cur (ys.eraseIdx m) m) us := by
  have ht := Nat.mod_lt t hp
  have hpl := place_lt (u + 1) ys.length hp
  have hpi := place_int (u + 1) ys.length hp
  have e1 : (t % ys.length + place (u + 1) ys.length) % ys.length = m := by
    have h2 : (((t % ys.length + place (u + 1) ys.length) % ys.length : Nat) : Int) = (m : Int) := by
      rw [Int.natCast_emod, Int.natCast_add, Int.natCast_emod, hpi, hm, show u + 1 - 1 = u by omega, Int.emod_add_emod, Int.add_emod_emod]
    omega
  have hml : m < ys.length := by rw [← e1]; exact Nat.mod_lt _ hp
  rw [deal]
  congr 1
  · unfold who cur
    rw [rot_length, rot_getD _ _ _ _ ht hpl, e1]
  · congr 1
    by_cases h2 : 2 ≤ ys.length
    · unfold cur
      rw [rest_rot _ _ _ ht h2, e1, List.length_eraseIdx_of_lt hml]
    · have e0 : ys.length = 1 := by omega
      have h3 := rest_length (u + 1) (cur ys t) (by unfold cur; rw [rot_length]; exact hp)
      have h4 : (rest (u + 1) (cur ys t)).length = 0 := by unfold cur at h3; rw [rot_length] at h3; unfold cur; omega
      have h5 : (cur (ys.eraseIdx m) m).length = 0 := by unfold cur; rw [rot_length, List.length_eraseIdx_of_lt hml]; omega
      rw [List.eq_nil_of_length_eq_zero h4, List.eq_nil_of_length_eq_zero h5]

set_option maxRecDepth 100000 in
set_option maxHeartbeats 3200000 in
theorem deal_any (v : Value) (A : Option Addr) (m cp : Nat) (xs us : List Int) (W : World) (hv : PileV v xs) (hu : Rd W (.slice A m cp) us) (hm : us.length = m) (he : m = xs.length) (h1 : 1 ≤ m) (hok : us.all (okR 0 1000) = true) :
    Calls Tryd.prog 30 #[v, .slice A m cp] W (MakesP W (deal xs us)) := by
  subst he
  obtain ⟨A', c', hAc, hA⟩ := hu
  have eA : A = A' := by injection hAc
  subst eA
  obtain ⟨g0, o0, rfl, _⟩ := hA 0 (by omega)
  have HA : Hid (∀ k, k < xs.length → W.cell? ⟨g0, o0 + k, none⟩ = some (.int .i64 (us.getD k 0))) := Lib.hid (fun k hk => by
    obtain ⟨g, o, e, hc⟩ := hA k (by omega)
    injection e with e
    injection e with e1 e2
    subst e1 e2
    exact hc)
  have HM := Lib.hid hm
  have HO : Hid (∀ j, j < us.length → 0 ≤ us.getD j 0 ∧ us.getD j 0 ≤ 1000) := Lib.hid (fun j hj => okR_get hok j hj)
  clear hA hAc hm hok
  obtain ⟨c, hg, rfl⟩ := hv
  obtain ⟨n, hn⟩ : ∃ n, xs.length = n := ⟨_, rfl⟩
  rw [hn]
  obtain ⟨Z, hZ, hz⟩ := zero_pile
  have hl1 : (plc Z 0).length = 105 := by rw [plc_length, hZ.1]
  have hl2 : (plc c n).length = 105 := by rw [plc_length, hg.1]
  obtain ⟨w3, hw3⟩ : ∃ w3, w3 = (((W.alloc (.cells (plc c n).toArray 42)).alloc (.cells (plc Z 0).toArray 42)).alloc (.cells (plc Z 0).toArray 42)) := ⟨_, rfl⟩
  obtain ⟨p0, p1, p2, k3⟩ := three_new W c Z n w3 hw3
  have P0 : Hid (Pile w3 W.heap.size xs) := Lib.hid ⟨c, hg, by rw [hn]; exact p0⟩
  have P1 := Lib.hid p1
  have P2 : Hid (Pile w3 (W.heap.size + 1 + 1) []) := Lib.hid ⟨Z, hZ, p2⟩
  have K3 := Lib.hid k3
  have HZ := Lib.hid hZ
  have HN := Lib.hid hn
  have HW := Lib.hid hw3
  have hn4 : n ≤ 104 := by have := hg.2.1; omega
  clear hg p0 p1 p2 k3 hZ hn hw3
  go_enter Tryd.func30, Tryd.ntmps30
  go_wp2_with fail
  rw [← HW.out]
  go_loopg [6, 11] n (fun k tv iv wr => ∃ (j t : Nat) (ys zs : List Int), j + k = n ∧ t ≤ n ∧ tv = .int .i64 t ∧ iv = .int .i64 j ∧ ys.length = k ∧ zs.length = j ∧ Pile wr W.heap.size ys ∧ Pile wr (W.heap.size + 1 + 1) zs ∧ zs ++ deal (cur ys t) (us.drop j) = deal xs us ∧ Pb wr (W.heap.size + 1) Z 0 ∧ Kp Nw W wr)
  case atStart =>
    refine ⟨0, 0, xs, [], by omega, by omega, rfl, rfl, HN.out, rfl, P0.out, P2.out, ?_, P1.out, K3.out⟩
    unfold cur rot
    simp
  case round =>
    obtain ⟨j, t, ys, zs, hj, ht, rfl, rfl, hy, hzl, q0, q2, hd, q1, qk⟩ := hrel
    cases gk with
    | zero =>
      have s0 := q0.size 0 hy
      have hlt : ¬ (j : Int) < n := by omega
      obtain ⟨c3, g3, b3⟩ := q2
      have e : zs = deal xs us := by rw [List.drop_eq_nil_of_le (by rw [HM.out, HN.out]; omega), deal, List.append_nil] at hd; exact hd
      have el : (deal xs us).length = n := by rw [deal_length, HM.out, HN.out]
      rw [e] at g3 b3
      rw [el] at b3
      have hst := run_storeCells_pile (n' := n) q1 HZ.out.1 g3.1
      have hl3 : (plc c3 n).length = 105 := by rw [plc_length, g3.1]
      have HR := Lib.hid (setRow_heap wr (W.heap.size + 1) _ (plc c3 n).toArray _ _ q1)
      have HK := Lib.hid (qk.setRow (.inr (by omega : W.heap.size ≤ W.heap.size + 1)) (plc c3 n).toArray)
      have HB3 := Lib.hid b3
      have G3 := Lib.hid g3
      have EL := Lib.hid el
      clear q0 q1 qk b3 g3 el
      go_wp2
      refine wp_load_pile (.tmp 5) rfl (W.heap.size + 1 + 1) rfl _ n HB3.out G3.out.1 ?_
      go_wp2
      refine bodyPost_ret (ret_pile rfl rfl HR.out G3.out.1) rfl ?_
      exact ⟨_, rfl, ⟨_, G3.out, by rw [EL.out]⟩, HK.out⟩
    | succ k =>
      obtain ⟨K, hK⟩ : ∃ K, K = k + 1 := ⟨_, rfl⟩
      rw [← hK] at hy hj
      have s0 := q0.size K hy
      have hjn : j < n := by omega
      have hlt : (j : Int) < n := by omega
      have j0 : (0 : Int) ≤ j := Int.natCast_nonneg _
      have t0' : (0 : Int) ≤ t := Int.natCast_nonneg _
      have c0 := keepc qk (HA.out j (by rw [HN.out]; exact hjn)) (fun h => h)
      obtain ⟨u, hu⟩ : ∃ u, us.getD j 0 = u := ⟨_, rfl⟩
      obtain ⟨b0, b1⟩ := HO.out j (by rw [HM.out, HN.out]; exact hjn)
      rw [hu] at c0 b0 b1
      obtain ⟨m, hm⟩ : ∃ m : Nat, (m : Int) = ((t : Int) + u) % (K : Int) := ⟨(((t : Int) + u) % (K : Int)).toNat, by
        have := Int.emod_nonneg ((t : Int) + u) (b := (K : Int)) (by omega)
        omega⟩
      have hmK : m < K := by
        have := Int.emod_lt_of_pos ((t : Int) + u) (b := (K : Int)) (by omega)
        omega
      have a1 : IntKind.i64.wrap ((t : Int) + u) = (t : Int) + u := IntWalk.i64_in _ (by omega)
      have a2 : IntKind.i64.wrap (((t : Int) + u).tmod (K : Int)) = (m : Int) := by rw [Int.tmod_eq_emod_of_nonneg (by omega), ← hm, IntWalk.i64_in _ (by omega)]
      have a3 : ¬ (K : Int) = 0 := by omega
      have a4 : IntKind.i64.wrap ((j : Int) + 1) = ((j + 1 : Nat) : Int) := by rw [IntWalk.i64_in _ (by omega)]; omega
      have hds : us.drop j = u :: us.drop (j + 1) := by
        have h := drop_head (xs := us) (j := j) (k := k) (by rw [HM.out, HN.out]; omega)
        rw [hu] at h
        exact h
      have hst := deal_step ys t u (us.drop (j + 1)) (by omega) m (by rw [hm, hy])
      rw [hds, hst] at hd
      have Q0 := Lib.hid q0
      have Q1 := Lib.hid q1
      have Q2 := Lib.hid q2
      have QK := Lib.hid qk
      have HD := Lib.hid hd
      have HY := Lib.hid hy
      have HZL := Lib.hid hzl
      have HKK := Lib.hid hK
      have HMM := Lib.hid hm
      clear a2 q0 q1 q2 qk hd hst hds hu hm hy hzl hK
      go_wp2_with fail
      rw [← HMM.out]
      refine (take_any W.heap.size m ys _ Q0.out (by rw [HY.out]; exact hmK)).mono ?_
      rintro e w4 ⟨rfl, t0, tk⟩
      obtain ⟨x, hx⟩ : ∃ x, ys.getD m 0 = x := ⟨_, rfl⟩
      rw [hx] at HD ⊢
      have T0 := Lib.hid t0
      have T1 := Lib.hid (Q1.out.kp tk (by omega))
      have T2 := Lib.hid (Q2.out.kp tk (by omega))
      have TK := Lib.hid (QK.out.after tk (fun g hg e => by omega))
      clear t0 tk hx
      go_wp2_with fail
      refine (putUnder_any (W.heap.size + 1 + 1) zs x _ T2.out (by rw [HZL.out]; omega)).mono ?_
      rintro e w5 ⟨rfl, u2, uk⟩
      have U0 := Lib.hid (T0.out.kp uk (by omega))
      have U1 := Lib.hid (T1.out.kp uk (by omega))
      have U2 := Lib.hid u2
      have UK := Lib.hid (TK.out.after uk (fun g hg e => by omega))
      clear u2 uk
      go_wp2
      go_roundg k
      case measure => omega
      case rel =>
        refine ⟨j + 1, m, ys.eraseIdx m, zs ++ [x], ?_, ?_, rfl, rfl, ?_, ?_, U0.out, U2.out, ?_, U1.out, UK.out⟩
        · have := HKK.out; omega
        · have := HKK.out; omega
        · have := HKK.out; rw [List.length_eraseIdx_of_lt (by rw [HY.out]; exact hmK), HY.out]; omega
        · rw [List.length_append, HZL.out]; rfl
        · rw [← HD.out, List.append_assoc]; rfl
end Go.Proofs.YtpajmgonceepoacDoor
