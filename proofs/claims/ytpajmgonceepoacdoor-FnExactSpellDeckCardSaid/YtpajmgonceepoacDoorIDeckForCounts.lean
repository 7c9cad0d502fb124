/- What DeckForCounts gives in the program, told by plain lists: as the model; no condition but on lengths. -/
import Derived.Test.YtpajmgonceepoacDoorPileC
namespace Go.Proofs.YtpajmgonceepoacDoor
open Go.ChangeShapes Go.WideShapes Go.ChangeAt Go.RowKit

set_option maxRecDepth 100000 in
set_option maxHeartbeats 3200000 in
theorem iDeckForCounts_rd (g n B : Nat) (xs : List Int) (A2 : Option Addr) (m c2 : Nat) (us : List Int) (W : World) (hs : SlAt W B g n n xs) (hl : n ≤ 1048576) (hu : Rd W (.slice A2 m c2) us) (hum : us.length = m) (hm : m ≤ 1048576) :
    Calls Tryd.prog 14 #[.slice (some ⟨g, 0, none⟩) n n, .slice A2 m c2] W (ListB W (vDeckForCounts xs us).1 (vDeckForCounts xs us).2) := by
  have HRU := Lib.hid hu
  have HM : Hid (us.length = m) := Lib.hid hum
  have HRD := Lib.hid hs.sl.rd
  have HN : Hid (xs.length = n) := Lib.hid hs.1
  have n0 : (0 : Int) ≤ n := Int.natCast_nonneg _
  have hn' : xs.length = n := hs.1
  clear hs
  unfold vDeckForCounts
  rw [hn']
  by_cases hb : deckB xs = true ∧ countsB n us = true
  · rw [if_pos hb]
    have HB : Hid ((deckB xs && countsB n us) = true) := Lib.hid (by rw [hb.1, hb.2]; rfl)
    obtain ⟨h1, h104, _, _⟩ := deckB_parts hb.1
    rw [HN.out] at h1 h104
    have h2 := hb.2
    unfold countsB at h2
    rw [Bool.and_eq_true] at h2
    obtain ⟨hmn, hok⟩ := h2
    have hmn' : m = n := by rw [← HM.out]; exact of_decide_eq_true hmn
    subst hmn'
    have HOK := Lib.hid hok
    clear hb hn' hum hmn hok hu
    obtain ⟨Z, hZ, hz⟩ := zero_pile
    have HZ := Lib.hid hZ
    have hl1 : (plc Z 0).length = 105 := by rw [plc_length, hZ.1]
    clear hZ
    have HK0 : Hid (Kp Nw W W) := Lib.hid (Kp.refl _ _)
    go_enter Tryd.func14, Tryd.ntmps14
    go_wp2_with fail
    refine (canDeal_any (some ⟨g, 0, none⟩) m m xs A2 m c2 us _ HRD.out HN.out (by omega) HRU.out HM.out (by omega)).mono ?_
    rintro e w1 ⟨rfl, hk⟩
    rw [HB.out]
    have HK1 := Lib.hid (HK0.out.nw hk)
    clear hk
    go_wp2_with fail
    refine (pileOf_any (some ⟨g, 0, none⟩) m m xs _ (HRD.out.nw HK1.out) HN.out h104).mono ?_
    rintro e w2 ⟨vp, rfl, hvp, hk⟩
    have HVP := Lib.hid hvp
    have HK2 := Lib.hid (HK1.out.nw hk)
    clear hk hvp
    go_wp2_with fail
    refine (undeal_any vp A2 m c2 xs us _ HVP.out HN.out (HRU.out.nw HK2.out) HM.out h1 HOK.out).mono ?_
    rintro e w3 ⟨vd, rfl, ⟨cd, gd, rfl⟩, hk⟩
    have HK3 := Lib.hid (HK2.out.nw hk)
    clear hk
    obtain ⟨L, hL⟩ : ∃ L, L = scat xs (deal (marks 0 m) us) := ⟨_, rfl⟩
    rw [← hL] at gd ⊢
    have hLn : L.length = m := by rw [hL]; rw [scat_length]; exact HN.out
    rw [hLn]
    obtain ⟨wn, hst, hpn, hkn, hl5⟩ := new_pile w3 Z cd L m HZ.out.1 gd hLn
    have HP := Lib.hid hpn
    have HLN := Lib.hid hLn
    have HL := Lib.hid hL
    have hb5 : w3.heap.size < wn.heap.size := hpn.lt
    have HK4 := Lib.hid (HK3.out.nw hkn)
    clear hpn hkn gd hLn hL
    go_wp2_with fail
    refine (list_any w3.heap.size L _ HP.out (by rw [HLN.out]; exact h1)).mono ?_
    rintro e w5 ⟨vl, rfl, hs, hk⟩
    have HS : Hid (Sl w5 W.heap.size vl L) := Lib.hid (hs.from HK4.out.size)
    have HK5 := Lib.hid (HK4.out.nw hk)
    clear hk hs
    go_wp2
    go_ret2
    rw [← HL.out]
    exact ⟨_, rfl, HS.out, HK5.out⟩
  · rw [if_neg hb]
    have HB : Hid ((deckB xs && countsB n us) = false) := Lib.hid (by
      apply Bool.eq_false_iff.2
      intro h
      rw [Bool.and_eq_true] at h
      exact hb h)
    clear hb hn' hum hu
    have HK0 : Hid (Kp Nw W W) := Lib.hid (Kp.refl _ _)
    go_enter Tryd.func14, Tryd.ntmps14
    go_wp2_with fail
    refine (canDeal_any (some ⟨g, 0, none⟩) n n xs A2 m c2 us _ HRD.out HN.out (by omega) HRU.out HM.out (by omega)).mono ?_
    rintro e w1 ⟨rfl, hk⟩
    rw [HB.out]
    have HK1 := Lib.hid (HK0.out.nw hk)
    clear hk
    go_wp2
    go_ret2
    exact ⟨_, rfl, Sl.nil _ _, HK1.out⟩
theorem iDeckForCounts_all (g n B : Nat) (xs : List Int) (g2 m B2 : Nat) (us : List Int) (W : World) (hs : SlAt W B g n n xs) (hl : n ≤ 1048576) (hs2 : SlAt W B2 g2 m m us) (hm : m ≤ 1048576) :
    Calls Tryd.prog 14 #[.slice (some ⟨g, 0, none⟩) n n, .slice (some ⟨g2, 0, none⟩) m m] W (ListB W (vDeckForCounts xs us).1 (vDeckForCounts xs us).2) :=
  iDeckForCounts_rd g n B xs _ m m us W hs hl hs2.sl.rd hs2.1 hm
end Go.Proofs.YtpajmgonceepoacDoor
