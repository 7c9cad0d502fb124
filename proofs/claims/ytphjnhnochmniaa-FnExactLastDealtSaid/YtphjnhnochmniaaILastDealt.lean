/- What LastDealt gives in the program, told by plain lists: as the model; no condition but on lengths. -/
import Derived.Test.YtphjnhnochmniaaPileC
namespace Go.Proofs.Ytphjnhnochmniaa
open Go.ChangeShapes Go.WideShapes Go.ChangeAt Go.RowKit

set_option maxRecDepth 100000 in
set_option maxHeartbeats 3200000 in
theorem iLastDealt_all (p u : Int) (W : World) : Calls Try.prog 36 #[.int .i64 p, .int .i64 u] W (IntB W (vLastDealt p u).1 (vLastDealt p u).2) := by
  unfold vLastDealt
  by_cases hp : 1 ≤ p ∧ p ≤ 104
  · by_cases hu : 0 ≤ u ∧ u ≤ 1000
    · rw [if_pos ⟨hp.1, hp.2, hu.1, hu.2⟩]
      obtain ⟨n, rfl⟩ : ∃ n : Nat, p = n := ⟨p.toNat, by omega⟩
      rw [Int.toNat_natCast]
      obtain ⟨p0, p1⟩ := hp
      obtain ⟨u0, u1⟩ := hu
      have h1 : 1 ≤ n := by omega
      have h104 : n ≤ 104 := by omega
      have q1 : IntKind.i64.wrap ((n : Int) - 1) = ((n - 1 : Nat) : Int) := by rw [IntWalk.i64_in _ (by omega)]; omega
      have q2 : ((n - 1 : Nat) : Int) < 104 := by omega
      have q3 : (0 : Int) ≤ ((n - 1 : Nat) : Int) := Int.natCast_nonneg _
      obtain ⟨Z, hZ, hz⟩ := zero_pile
      have HZ := Lib.hid hZ
      have hl1 : (plc Z 0).length = 105 := by rw [plc_length, hZ.1]
      clear hZ
      have HK0 : Hid (Kp Nw W W) := Lib.hid (Kp.refl _ _)
      go_enter Try.func36, Try.ntmps36
      go_wp2_with fail
      refine (isCards_yes n _ p0 p1).mono ?_
      rintro e w' ⟨rfl, rfl⟩
      go_wp2_with fail
      refine (isUnder_yes u _ u0 u1).mono ?_
      rintro e w' ⟨rfl, rfl⟩
      go_wp2_with fail
      refine (placesOf_any n _ h104).mono ?_
      rintro e w1 ⟨vp, rfl, hvp, hk⟩
      have HVP := Lib.hid hvp
      have HK1 := Lib.hid (HK0.out.nw hk)
      clear hk hvp
      go_wp2_with fail
      refine (evenCounts_any n u _ h1 h104).mono ?_
      rintro e w2 ⟨vc, rfl, hs, hk⟩
      obtain ⟨Ac, cc, rfl⟩ := hs.val List.length_replicate
      have HC2 := Lib.hid hs
      have HK2 := Lib.hid (HK1.out.nw hk)
      clear hk hs
      go_wp2_with fail
      refine (deal_any vp Ac n cc (marks 0 n) (List.replicate n u) _ HVP.out HC2.out.rd List.length_replicate (marks_length 0 n).symm h1 (okR_rep u n u0 u1)).mono ?_
      rintro e w3 ⟨vd, rfl, ⟨cd, gd, rfl⟩, hk⟩
      have HK3 := Lib.hid (HK2.out.nw hk)
      clear hk
      obtain ⟨L, hL⟩ : ∃ L, L = deal (marks 0 n) (List.replicate n u) := ⟨_, rfl⟩
      rw [← hL] at gd ⊢
      have hLn : L.length = n := by rw [hL]; rw [deal_length, List.length_replicate]
      rw [hLn]
      obtain ⟨wn, hst, hpn, hkn, hl5⟩ := new_pile w3 Z cd L n HZ.out.1 gd hLn
      have HP := Lib.hid hpn
      have HLN := Lib.hid hLn
      have HL := Lib.hid hL
      have hb5 : w3.heap.size < wn.heap.size := hpn.lt
      have HK4 := Lib.hid (HK3.out.nw hkn)
      clear hpn hkn gd hLn hL
      obtain ⟨m, hm⟩ : ∃ m, n - 1 = m := ⟨_, rfl⟩
      obtain ⟨cq, gq, bq⟩ := HP.out
      have c0 := bq.cell m (by rw [gq.1]; omega)
      rw [gq.get m (by rw [HLN.out]; omega)] at c0
      obtain ⟨x, hx⟩ : ∃ x, L.getD m 0 = x := ⟨_, rfl⟩
      rw [hm] at q1 q2 q3
      rw [hx] at c0
      have HX : Hid ((deal (marks 0 n) (List.replicate n u)).getD (n - 1) 0 = x) := Lib.hid (by rw [← HL.out, hm]; exact hx)
      clear hx bq gq hm
      go_wp2
      go_ret2
      rw [HX.out]
      exact ⟨rfl, HK4.out⟩
    · rw [if_neg (fun h => hu ⟨h.2.2.1, h.2.2.2⟩)]
      go_enter Try.func36, Try.ntmps36
      go_wp2_with fail
      refine (isCards_yes p _ hp.1 hp.2).mono ?_
      rintro e w' ⟨rfl, rfl⟩
      go_wp2_with fail
      refine (isUnder_no u _ (by omega)).mono ?_
      rintro e w' ⟨rfl, rfl⟩
      go_wp2
      go_ret2
      exact ⟨rfl, Kp.refl _ _⟩
  · rw [if_neg (fun h => hp ⟨h.1, h.2.1⟩)]
    go_enter Try.func36, Try.ntmps36
    go_wp2_with fail
    refine (isCards_no p _ (by omega)).mono ?_
    rintro e w' ⟨rfl, rfl⟩
    go_wp2
    go_ret2
    exact ⟨rfl, Kp.refl _ _⟩
end Go.Proofs.Ytphjnhnochmniaa
