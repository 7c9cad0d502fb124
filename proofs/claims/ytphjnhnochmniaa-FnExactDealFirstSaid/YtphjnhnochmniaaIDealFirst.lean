/- What DealFirst gives in the program, told by plain lists: as the model; no condition but on lengths. -/
import Derived.Test.YtphjnhnochmniaaPileC
namespace Go.Proofs.Ytphjnhnochmniaa
open Go.ChangeShapes Go.WideShapes Go.ChangeAt Go.RowKit

set_option maxRecDepth 100000 in
set_option maxHeartbeats 3200000 in
theorem iDealFirst_all (g n B : Nat) (xs : List Int) (u : Int) (W : World) (hs : SlAt W B g n n xs) (hl : n ≤ 1048576) :
    Calls Try.prog 26 #[.slice (some ⟨g, 0, none⟩) n n, .int .i64 u] W (ListB W (vDealFirst xs u).1 (vDealFirst xs u).2) := by
  have HRD := Lib.hid hs.sl.rd
  have HN : Hid (xs.length = n) := Lib.hid hs.1
  have n0 : (0 : Int) ≤ n := Int.natCast_nonneg _
  have hn' : xs.length = n := hs.1
  clear hs
  unfold vDealFirst
  by_cases hb : deckB xs = true
  · have HB := Lib.hid hb
    by_cases hu : 0 ≤ u ∧ u ≤ 1000
    · rw [if_pos ⟨hb, hu.1, hu.2⟩, hn']
      obtain ⟨u0, u1⟩ := hu
      clear hb hn'
      obtain ⟨h1, h104, _, _⟩ := deckB_parts HB.out
      rw [HN.out] at h1 h104
      obtain ⟨Z, hZ, hz⟩ := zero_pile
      have HZ := Lib.hid hZ
      have hl1 : (plc Z 0).length = 105 := by rw [plc_length, hZ.1]
      clear hZ
      have HK0 : Hid (Kp Nw W W) := Lib.hid (Kp.refl _ _)
      go_enter Try.func26, Try.ntmps26
      go_wp2_with fail
      refine (isDeck_any (some ⟨g, 0, none⟩) n n xs _ (HRD.out.nw HK0.out) HN.out (by omega)).mono ?_
      rintro e w1 ⟨rfl, hk⟩
      rw [HB.out]
      have HK1 := Lib.hid (HK0.out.nw hk)
      clear hk
      go_wp2_with fail
      refine (isUnder_yes u _ u0 u1).mono ?_
      rintro e w' ⟨rfl, rfl⟩
      go_wp2_with fail
      refine (evenCounts_any n u _ h1 h104).mono ?_
      rintro e w2 ⟨vc, rfl, hs, hk⟩
      obtain ⟨gc, cc, hv, hat, _, _, hB1, _⟩ := hs.at_ (by rw [List.length_replicate]; omega)
      rw [List.length_replicate] at hv hat
      subst hv
      have c0 := hat.cell 0 (by omega)
      have f0 := hat.frozen 0
      have n1 : (0 : Int) < n := by omega
      have HC := Lib.hid (hat.store 0 0)
      have HB1 := Lib.hid hB1
      have HK2 := Lib.hid (HK1.out.nw hk)
      have HKS := Lib.hid (HK2.out.setCell (p := ⟨gc, 0, none⟩) (.inr (Nat.le_trans HK1.out.size HB1.out)) (.int .i64 0))
      clear hk hs hat hB1
      go_wp2_with fail
      refine (pileOf_any (some ⟨g, 0, none⟩) n n xs _ (HRD.out.nw HKS.out) HN.out h104).mono ?_
      rintro e w3 ⟨vp, rfl, hvp, hk⟩
      have HVP := Lib.hid hvp
      have HC2 := Lib.hid (HC.out.sl.rd.nw hk)
      have HK3 := Lib.hid (HKS.out.nw hk)
      clear hk hvp
      go_wp2_with fail
      refine (deal_any vp (some ⟨gc, 0, none⟩) n cc xs ((List.replicate n u).set 0 0) _ HVP.out HC2.out (set0_len n u) HN.out.symm h1 ?_).mono ?_
      · rw [List.all_eq_true]
        intro y hy
        rcases List.mem_or_eq_of_mem_set hy with h | h
        · rw [List.eq_of_mem_replicate h]; exact decide_eq_true ⟨u0, u1⟩
        · rw [h]; rfl
      rintro e w4 ⟨vd, rfl, ⟨cd, gd, rfl⟩, hk⟩
      have HK4 := Lib.hid (HK3.out.nw hk)
      clear hk
      obtain ⟨L, hL⟩ : ∃ L, L = deal xs ((List.replicate n u).set 0 0) := ⟨_, rfl⟩
      rw [← hL] at gd ⊢
      have hLn : L.length = n := by rw [hL]; rw [deal_length, set0_len]
      rw [hLn]
      obtain ⟨wn, hst, hpn, hkn, hl5⟩ := new_pile w4 Z cd L n HZ.out.1 gd hLn
      have HP := Lib.hid hpn
      have HLN := Lib.hid hLn
      have HL := Lib.hid hL
      have hb5 : w4.heap.size < wn.heap.size := hpn.lt
      have HK5 := Lib.hid (HK4.out.nw hkn)
      clear hpn hkn gd hLn hL
      go_wp2_with fail
      refine (list_any w4.heap.size L _ HP.out (by rw [HLN.out]; exact h1)).mono ?_
      rintro e w6 ⟨vl, rfl, hs, hk⟩
      have HS : Hid (Sl w6 W.heap.size vl L) := Lib.hid (hs.from HK5.out.size)
      have HK6 := Lib.hid (HK5.out.nw hk)
      clear hk hs
      go_wp2
      go_ret2
      rw [← HL.out]
      exact ⟨_, rfl, HS.out, HK6.out⟩
    · rw [if_neg (fun h => hu ⟨h.2.1, h.2.2⟩)]
      clear hb hn'
      have HK0 : Hid (Kp Nw W W) := Lib.hid (Kp.refl _ _)
      go_enter Try.func26, Try.ntmps26
      go_wp2_with fail
      refine (isDeck_any (some ⟨g, 0, none⟩) n n xs _ (HRD.out.nw HK0.out) HN.out (by omega)).mono ?_
      rintro e w1 ⟨rfl, hk⟩
      rw [HB.out]
      have HK1 := Lib.hid (HK0.out.nw hk)
      clear hk
      go_wp2_with fail
      refine (isUnder_no u _ (by omega)).mono ?_
      rintro e w' ⟨rfl, rfl⟩
      go_wp2
      go_ret2
      exact ⟨_, rfl, Sl.nil _ _, HK1.out⟩
  · rw [if_neg (fun h => hb h.1)]
    have HB := Lib.hid (show deckB xs = false by simpa using hb)
    clear hb hn'
    have HK0 : Hid (Kp Nw W W) := Lib.hid (Kp.refl _ _)
    go_enter Try.func26, Try.ntmps26
    go_wp2_with fail
    refine (isDeck_any (some ⟨g, 0, none⟩) n n xs _ (HRD.out.nw HK0.out) HN.out (by omega)).mono ?_
    rintro e w1 ⟨rfl, hk⟩
    rw [HB.out]
    have HK1 := Lib.hid (HK0.out.nw hk)
    clear hk
    go_wp2
    go_ret2
    exact ⟨_, rfl, Sl.nil _ _, HK1.out⟩
end Go.Proofs.Ytphjnhnochmniaa
