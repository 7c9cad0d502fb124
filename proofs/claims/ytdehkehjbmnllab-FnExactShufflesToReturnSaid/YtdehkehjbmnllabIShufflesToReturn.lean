/- How often a shuffle of a kind is back in the program (ShufflesToReturn): as the model; no condition. -/
import Derived.Test.YtdehkehjbmnllabMilk
import Derived.Test.YtdehkehjbmnllabRetI
import Derived.Test.YtdehkehjbmnllabLaws4
namespace Go.Proofs.Ytdehkehjbmnllab
open Go.ChangeShapes Go.WideShapes Go.ChangeAt Go.RowKit

set_option maxRecDepth 100000 in
set_option maxHeartbeats 3200000 in
theorem shufflePile_none (v : Value) (xs : List Int) (k : Int) (W : World) (hv : PileV v xs) (k0 : k ≠ 0) (k1 : k ≠ 1) (k2 : k ≠ 2) :
    Calls Try.prog 28 #[v, .int .i64 k] W (fun e w' => ∃ v, e = .returned (.tuple #[v, .bool false]) ∧ PileV v [] ∧ Kp Nw W w') := by
  obtain ⟨c, hg, rfl⟩ := hv
  obtain ⟨n, hn⟩ : ∃ n, xs.length = n := ⟨_, rfl⟩
  rw [hn]
  obtain ⟨Z, hZ, hz⟩ := zero_pile
  have hl1 : (plc Z 0).length = 105 := by rw [plc_length, hZ.1]
  have hl2 : (plc c n).length = 105 := by rw [plc_length, hg.1]
  obtain ⟨w2, hw2⟩ : ∃ w2, w2 = ((W.alloc (.cells (plc c n).toArray 38)).alloc (.cells (plc Z 0).toArray 38)) := ⟨_, rfl⟩
  obtain ⟨p0, p1, k2'⟩ := two_new W c Z n w2 hw2
  have P1 := Lib.hid p1
  have K2 := Lib.hid k2'
  have HZ := Lib.hid hZ
  have HW := Lib.hid hw2
  have hst := run_storeCells_pile (n' := 0) p1 hZ.1 hZ.1
  have HR : Hid (Pb (w2.setRow (W.heap.size + 1) (plc Z 0).toArray) (W.heap.size + 1) Z 0) := Lib.hid (setRow_heap _ _ _ _ _ _ p1)
  have HK := Lib.hid (k2'.setRow (.inr (by omega : W.heap.size ≤ W.heap.size + 1)) (plc Z 0).toArray)
  clear hg p0 p1 k2' hZ hn hw2
  go_enter Try.func28, Try.ntmps28
  go_wp2_with fail
  rw [← HW.out]
  go_wp2
  rw [hst]
  go_wp2
  refine bodyPost_ret (v := .tuple #[.agg (plc Z 0).toArray, .bool false]) ?_ rfl ?_
  · rw [results_cell_tmp rfl]
    have h9 := run_load_pile HR.out HZ.out.1
    simp [asAddr, Result.andThen, h9]
  · exact ⟨_, rfl, ⟨Z, HZ.out, rfl⟩, HK.out⟩

theorem perm_few {n : Nat} {ps : List Int} (h : ps.Perm (marks 0 n)) : ps.length = n := by rw [h.length_eq, marks_length]
set_option maxRecDepth 100000 in
set_option maxHeartbeats 3200000 in
theorem iShuf_of (k : Int) (n : Nat) (ps : List Int) (W : World) (h1 : 1 ≤ n) (h104 : n ≤ 104) (hpp : ps.Perm (marks 0 n))
    (HSH : Hid (∀ (v : Value) (W : World), PileV v (marks 0 n) → Calls Try.prog 28 #[v, .int .i64 k] W (ShufB W ps))) :
    Calls Try.prog 14 #[.int .i64 n, .int .i64 k] W (IntB W (ret (exOf ps) n).1 (ret (exOf ps) n).2) := by
  have p0 : 1 ≤ (n : Int) := by omega
  have p1 : (n : Int) ≤ 104 := by omega
  have HPL := Lib.hid (perm_few hpp)
  have HPP := Lib.hid (perm_places hpp)
  clear hpp
  obtain ⟨R, hR⟩ : ∃ R, ret (exOf ps) n = R := ⟨_, rfl⟩
  rw [hR]
  have HR := Lib.hid hR
  clear hR
  obtain ⟨Z, hZ, hz⟩ := zero_pile
  have HZ := Lib.hid hZ
  have hl1 : (plc Z 0).length = 105 := by rw [plc_length, hZ.1]
  clear hZ
  have HK0 : Hid (Kp Nw W W) := Lib.hid (Kp.refl _ _)
  go_enter Try.func14, Try.ntmps14
  go_wp2_with fail
  refine (isCards_yes n _ p0 p1).mono ?_
  rintro e w' ⟨rfl, rfl⟩
  go_wp2_with fail
  refine (placesOf_any n _ h104).mono ?_
  rintro e w1 ⟨vp, rfl, hvp, hk⟩
  have HVP := Lib.hid hvp
  have HK1 := Lib.hid (HK0.out.nw hk)
  clear hk hvp
  go_wp2_with fail
  refine (HSH.out vp _ HVP.out).mono ?_
  rintro e w2 ⟨vd, rfl, ⟨cd, gd, rfl⟩, hk⟩
  rw [HPL.out]
  have HK2 := Lib.hid (HK1.out.nw hk)
  clear hk
  obtain ⟨wn, hst, hpn, hkn, hl5⟩ := new_pile w2 Z cd ps n HZ.out.1 gd HPL.out
  obtain ⟨c6, g6, b6⟩ := id hpn
  rw [HPL.out] at b6
  have BX := Lib.hid b6
  have GX := Lib.hid g6
  have VX : Hid (PileV (.agg (plc c6 n).toArray) ps) := Lib.hid ⟨c6, g6, by rw [HPL.out]⟩
  have hb5 : w2.heap.size < wn.heap.size := hpn.lt
  have HK3 := Lib.hid (HK2.out.nw hkn)
  clear hpn hkn gd b6 g6
  go_wp2
  refine wp_load_pile (.tmp 6) rfl w2.heap.size rfl _ n BX.out GX.out.1 ?_
  go_wp2_with fail
  refine (timesToReturn_any _ n ps _ VX.out HPL.out h1 HPP.out.1 HPP.out.2).mono ?_
  rw [HR.out]
  rintro e w4 ⟨rfl, hk⟩
  have HK4 := Lib.hid (HK3.out.nw hk)
  clear hk
  go_wp2
  go_ret2
  exact ⟨rfl, HK4.out⟩

set_option maxRecDepth 100000 in
set_option maxHeartbeats 3200000 in
theorem iShuf_none (k : Int) (n : Nat) (W : World) (h1 : 1 ≤ n) (h104 : n ≤ 104) (k0 : k ≠ 0) (k1 : k ≠ 1) (k2 : k ≠ 2) :
    Calls Try.prog 14 #[.int .i64 n, .int .i64 k] W (IntB W 0 false) := by
  have p0 : 1 ≤ (n : Int) := by omega
  have p1 : (n : Int) ≤ 104 := by omega
  obtain ⟨Z, hZ, hz⟩ := zero_pile
  have HZ := Lib.hid hZ
  have hl1 : (plc Z 0).length = 105 := by rw [plc_length, hZ.1]
  clear hZ
  have HK0 : Hid (Kp Nw W W) := Lib.hid (Kp.refl _ _)
  go_enter Try.func14, Try.ntmps14
  go_wp2_with fail
  refine (isCards_yes n _ p0 p1).mono ?_
  rintro e w' ⟨rfl, rfl⟩
  go_wp2_with fail
  refine (placesOf_any n _ h104).mono ?_
  rintro e w1 ⟨vp, rfl, hvp, hk⟩
  have HVP := Lib.hid hvp
  have HK1 := Lib.hid (HK0.out.nw hk)
  clear hk hvp
  go_wp2_with fail
  refine (shufflePile_none vp _ k _ HVP.out k0 k1 k2).mono ?_
  rintro e w2 ⟨vd, rfl, ⟨cd, gd, rfl⟩, hk⟩
  rw [show ([] : List Int).length = 0 from rfl]
  have HK2 := Lib.hid (HK1.out.nw hk)
  clear hk
  obtain ⟨wn, hst, hpn, hkn, hl5⟩ := new_pile w2 Z cd [] 0 HZ.out.1 gd rfl
  have HK3 := Lib.hid (HK2.out.nw hkn)
  clear hpn hkn gd
  go_wp2
  go_ret2
  exact ⟨rfl, HK3.out⟩
theorem iShufflesToReturn_all (p k : Int) (W : World) : Calls Try.prog 14 #[.int .i64 p, .int .i64 k] W (IntB W (vShufflesToReturn p k).1 (vShufflesToReturn p k).2) := by
  unfold vShufflesToReturn
  by_cases hp : 1 ≤ p ∧ p ≤ 104
  · rw [if_pos hp]
    obtain ⟨n, rfl⟩ : ∃ n : Nat, p = n := ⟨p.toNat, by omega⟩
    rw [Int.toNat_natCast]
    by_cases k0 : k = 0
    · subst k0
      rw [if_pos rfl]
      exact iShuf_of 0 n _ W (by omega) (by omega) (milk_perm _) (Lib.hid fun v W hv => shufflePile_milk v _ W hv)
    · rw [if_neg k0]
      by_cases k1 : k = 1
      · subst k1
        rw [if_pos rfl]
        exact iShuf_of 1 n _ W (by omega) (by omega) (monge_perm _) (Lib.hid fun v W hv => shufflePile_monge v _ W hv)
      · rw [if_neg k1]
        by_cases k2 : k = 2
        · subst k2
          rw [if_pos rfl]
          exact iShuf_of 2 n _ W (by omega) (by omega) (List.reverse_perm _) (Lib.hid fun v W hv => shufflePile_turnBack v _ W hv)
        · rw [if_neg k2]
          exact iShuf_none k n W (by omega) (by omega) k0 k1 k2
  · rw [if_neg hp]
    have h : p < 1 ∨ 104 < p := by omega
    clear hp
    go_enter Try.func14, Try.ntmps14
    go_wp2_with (first | ((with_reducible refine (isCards_no p _ h).mono ?_); rintro e w' ⟨rfl, rfl⟩))
    go_ret2
    exact ⟨rfl, Kp.refl _ _⟩
end Go.Proofs.Ytdehkehjbmnllab
