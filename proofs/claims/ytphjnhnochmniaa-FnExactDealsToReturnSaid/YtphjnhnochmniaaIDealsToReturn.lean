/- What DealsToReturn gives in the program, told by plain lists: as the model; no condition but on lengths. -/
import Derived.Test.YtphjnhnochmniaaPileC
import Derived.Test.YtphjnhnochmniaaRetI
import Derived.Test.YtphjnhnochmniaaLaws4
namespace Go.Proofs.Ytphjnhnochmniaa
open Go.ChangeShapes Go.WideShapes Go.ChangeAt Go.RowKit

set_option maxRecDepth 100000 in
set_option maxHeartbeats 3200000 in
theorem iDealsToReturn_all (p u : Int) (W : World) : Calls Try.prog 34 #[.int .i64 p, .int .i64 u] W (IntB W (vDealsToReturn p u).1 (vDealsToReturn p u).2) := by
  unfold vDealsToReturn
  by_cases hp : 1 ≤ p ∧ p ≤ 104
  · by_cases hu : 0 ≤ u ∧ u ≤ 1000
    · rw [if_pos ⟨hp.1, hp.2, hu.1, hu.2⟩]
      obtain ⟨n, rfl⟩ : ∃ n : Nat, p = n := ⟨p.toNat, by omega⟩
      rw [Int.toNat_natCast]
      obtain ⟨p0, p1⟩ := hp
      obtain ⟨u0, u1⟩ := hu
      have h1 : 1 ≤ n := by omega
      have h104 : n ≤ 104 := by omega
      obtain ⟨ps, hps⟩ : ∃ ps, deal (marks 0 n) (List.replicate n u) = ps := ⟨_, rfl⟩
      have hpp : ps.Perm (marks 0 n) := hps ▸ deal_perm n u
      have HPL : Hid (ps.length = n) := Lib.hid (by rw [hpp.length_eq, marks_length])
      have HPP := Lib.hid (perm_places hpp)
      have HPS := Lib.hid hps
      rw [hps]
      clear hps hpp
      obtain ⟨R, hR⟩ : ∃ R, ret (exOf ps) n = R := ⟨_, rfl⟩
      rw [hR]
      have HR := Lib.hid hR
      clear hR
      have HK0 : Hid (Kp Nw W W) := Lib.hid (Kp.refl _ _)
      go_enter Try.func34, Try.ntmps34
      go_wp2_with fail
      refine (isCards_yes n _ p0 p1).mono ?_
      rintro e w' ⟨rfl, rfl⟩
      go_wp2_with fail
      refine (isUnder_yes u _ u0 u1).mono ?_
      rintro e w' ⟨rfl, rfl⟩
      go_wp2_with fail
      refine (placesOf_any n _ h104).mono ?_
      rintro e w1 ⟨vp, rfl, hvp, hk⟩
      have HVP := Lib.hid hvp
      have HK1 := Lib.hid (HK0.out.nw hk)
      clear hk hvp
      go_wp2_with fail
      refine (evenCounts_any n u _ h1 h104).mono ?_
      rintro e w2 ⟨vc, rfl, hs, hk⟩
      obtain ⟨Ac, cc, rfl⟩ := hs.val List.length_replicate
      have HC2 := Lib.hid hs
      have HK2 := Lib.hid (HK1.out.nw hk)
      clear hk hs
      go_wp2_with fail
      refine (deal_any vp Ac n cc (marks 0 n) (List.replicate n u) _ HVP.out HC2.out.rd List.length_replicate (marks_length 0 n).symm h1 (okR_rep u n u0 u1)).mono ?_
      rw [HPS.out]
      rintro e w3 ⟨vd, rfl, hvd, hk⟩
      have HVD := Lib.hid hvd
      have HK3 := Lib.hid (HK2.out.nw hk)
      clear hk hvd
      go_wp2_with fail
      refine (timesToReturn_any vd n ps _ HVD.out HPL.out h1 HPP.out.1 HPP.out.2).mono ?_
      rw [HR.out]
      rintro e w4 ⟨rfl, hk⟩
      have HK4 := Lib.hid (HK3.out.nw hk)
      clear hk
      go_wp2
      go_ret2
      exact ⟨rfl, HK4.out⟩
    · rw [if_neg (fun h => hu ⟨h.2.2.1, h.2.2.2⟩)]
      go_enter Try.func34, Try.ntmps34
      go_wp2_with fail
      refine (isCards_yes p _ hp.1 hp.2).mono ?_
      rintro e w' ⟨rfl, rfl⟩
      go_wp2_with fail
      refine (isUnder_no u _ (by omega)).mono ?_
      rintro e w' ⟨rfl, rfl⟩
      go_wp2
      go_ret2
      exact ⟨rfl, Kp.refl _ _⟩
  · rw [if_neg (fun h => hp ⟨h.1, h.2.1⟩)]
    go_enter Try.func34, Try.ntmps34
    go_wp2_with fail
    refine (isCards_no p _ (by omega)).mono ?_
    rintro e w' ⟨rfl, rfl⟩
    go_wp2
    go_ret2
    exact ⟨rfl, Kp.refl _ _⟩
end Go.Proofs.Ytphjnhnochmniaa
