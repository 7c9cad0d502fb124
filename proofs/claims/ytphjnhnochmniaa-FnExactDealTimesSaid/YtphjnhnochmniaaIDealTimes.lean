/- What DealTimes gives in the program, told by plain lists: as the model; no condition but on lengths. -/
import Derived.Test.YtphjnhnochmniaaPileC
namespace Go.Proofs.Ytphjnhnochmniaa
open Go.ChangeShapes Go.WideShapes Go.ChangeAt Go.RowKit

set_option maxRecDepth 100000 in
set_option maxHeartbeats 3200000 in
theorem iDealTimes_all (g n B : Nat) (xs : List Int) (u t : Int) (W : World) (hs : SlAt W B g n n xs) (hl : n ≤ 1048576) :
    Calls Try.prog 32 #[.slice (some ⟨g, 0, none⟩) n n, .int .i64 u, .int .i64 t] W (ListB W (vDealTimes xs u t).1 (vDealTimes xs u t).2) := by
  have HRD := Lib.hid hs.sl.rd
  have HN : Hid (xs.length = n) := Lib.hid hs.1
  have n0 : (0 : Int) ≤ n := Int.natCast_nonneg _
  have hn' : xs.length = n := hs.1
  clear hs
  unfold vDealTimes
  by_cases hb : deckB xs = true
  · have HB := Lib.hid hb
    by_cases hu : 0 ≤ u ∧ u ≤ 1000
    · by_cases ht : 0 ≤ t ∧ t ≤ 100
      · rw [if_pos ⟨hb, hu.1, hu.2, ht.1, ht.2⟩]
        obtain ⟨K, rfl⟩ : ∃ K : Nat, t = K := ⟨t.toNat, by omega⟩
        rw [Int.toNat_natCast]
        obtain ⟨u0, u1⟩ := hu
        obtain ⟨t0, t1⟩ := ht
        clear hb hn'
        obtain ⟨h1, h104, _, _⟩ := deckB_parts HB.out
        rw [HN.out] at h1 h104
        obtain ⟨Z, hZ, hz⟩ := zero_pile
        have HZ := Lib.hid hZ
        have hl1 : (plc Z 0).length = 105 := by rw [plc_length, hZ.1]
        clear hZ
        have HK0 : Hid (Kp Nw W W) := Lib.hid (Kp.refl _ _)
        go_enter Try.func32, Try.ntmps32
        go_wp2_with fail
        refine (isDeck_any (some ⟨g, 0, none⟩) n n xs _ (HRD.out.nw HK0.out) HN.out (by omega)).mono ?_
        rintro e w1 ⟨rfl, hk⟩
        rw [HB.out]
        have HK1 := Lib.hid (HK0.out.nw hk)
        clear hk
        go_wp2_with fail
        refine (isUnder_yes u _ u0 u1).mono ?_
        rintro e w' ⟨rfl, rfl⟩
        go_wp2_with fail
        refine (within_yes (K : Int) 0 100 _ t0 t1).mono ?_
        rintro e w' ⟨rfl, rfl⟩
        go_wp2_with fail
        refine (pileOf_any (some ⟨g, 0, none⟩) n n xs _ (HRD.out.nw HK1.out) HN.out h104).mono ?_
        rintro e w2 ⟨vp, rfl, hvp, hk⟩
        have HVP := Lib.hid hvp
        have HK2 := Lib.hid (HK1.out.nw hk)
        clear hk hvp
        go_wp2_with fail
        refine (evenCounts_any n u _ h1 h104).mono ?_
        rintro e w3 ⟨vc, rfl, hs, hk⟩
        obtain ⟨Ac, cc, rfl⟩ := hs.val List.length_replicate
        have HC3 := Lib.hid hs
        have HK3 := Lib.hid (HK2.out.nw hk)
        clear hk hs
        obtain ⟨cd, gd, rfl⟩ := HVP.out
        rw [HN.out]
        obtain ⟨wn, hst, hpn, hkn, hl5⟩ := new_pile w3 Z cd xs n HZ.out.1 gd HN.out
        have HP := Lib.hid hpn
        have hb5 : w3.heap.size < wn.heap.size := hpn.lt
        have HJ := Lib.hid hkn
        have HK4 := Lib.hid (HK3.out.nw hkn)
        clear hpn hkn gd
        go_wp2_with fail
        obtain ⟨B5, hB5⟩ : ∃ B5, B5 = w3.heap.size := ⟨_, rfl⟩
        rw [← hB5] at HP hb5 ⊢
        have HB5 := Lib.hid (show W.heap.size ≤ B5 by rw [hB5]; exact HK3.out.size)
        have HB6 := Lib.hid (show w3.heap.size ≤ B5 by rw [hB5]; exact Nat.le_refl _)
        clear hB5 hst
        go_loopw [30] (fun i wr => ∃ (j : Nat) (L : List Int), j ≤ K ∧ i = .int .i64 j ∧ L.length = n ∧ deals u (K - j) L = deals u K xs ∧ Pile wr B5 L ∧ Kp (fun b => b = B5) wn wr) (fun i _ => K - (intOf i).toNat)
        case atStart => exact ⟨0, xs, Nat.zero_le _, rfl, HN.out, by rw [Nat.sub_zero], HP.out, Kp.refl _ _⟩
        case round =>
          obtain ⟨j, L, hj, rfl, hLn, hd, hp, hk⟩ := hrel
          have HKW := Lib.hid hk
          have HLN := Lib.hid hLn
          have HD := Lib.hid hd
          have j0 : (0 : Int) ≤ j := Int.natCast_nonneg _
          have HKA := Lib.hid (HK4.out.after hk (fun g hg e => by have := HB5.out; omega))
          have HCW := Lib.hid ((HC3.out.kp HJ.out (fun _ _ h => h)).kp hk (fun g hg e => by
            have h9 := (HC3.out.own_ge g hg).2
            have := HB6.out
            omega))
          by_cases hlt : j < K
          · have j1 : (j : Int) < K := by omega
            have w2 : IntKind.i64.wrap ((j : Int) + 1) = ((j + 1 : Nat) : Int) := by rw [IntWalk.i64_in _ (by omega)]; omega
            obtain ⟨c6, g6, b6⟩ := hp
            rw [hLn] at b6
            have BX := Lib.hid b6
            have GX := Lib.hid g6
            have VX : Hid (PileV (.agg (plc c6 n).toArray) L) := Lib.hid ⟨c6, g6, by rw [hLn]⟩
            clear b6 g6 hk hLn hd
            go_wp2
            refine wp_load_pile (.tmp 8) rfl B5 rfl _ n BX.out GX.out.1 ?_
            go_wp2_with fail
            refine (deal_any _ Ac n cc L (List.replicate n u) _ VX.out HCW.out.rd List.length_replicate HLN.out.symm h1 (okR_rep u n u0 u1)).mono ?_
            rintro e w7 ⟨vd, rfl, ⟨c7, g7, rfl⟩, hk7⟩
            have hl7 : (deal L (List.replicate n u)).length = n := by rw [deal_length, List.length_replicate]
            rw [hl7]
            have b7 := BX.out.kp hk7 (fun h => h)
            have hs7 := run_storeCells_pile (n' := n) b7 GX.out.1 g7.1
            have hl8 : (plc c7 n).length = 105 := by rw [plc_length, g7.1]
            have P7 : Hid (Pile (w7.setRow B5 (plc c7 n).toArray) B5 (deal L (List.replicate n u))) := Lib.hid ⟨c7, g7, by rw [hl7]; exact setRow_heap _ _ _ _ _ _ b7⟩
            have K7 := Lib.hid ((HKW.out.nw hk7).setRow (.inl rfl : B5 = B5 ∨ wn.heap.size ≤ B5) (plc c7 n).toArray)
            have D7 : Hid (deals u (K - (j + 1)) (deal L (List.replicate n u)) = deals u K xs) := Lib.hid (by
              rw [← HD.out, show K - j = (K - (j + 1)) + 1 by omega, deals, HLN.out])
            have L7 := Lib.hid hl7
            clear b7 hk7 g7 hl7
            go_wp2
            go_roundw
            case rel => exact ⟨j + 1, _, by omega, rfl, L7.out, D7.out, P7.out, K7.out⟩
            case measure => simp [intOf] <;> omega
          · have e : j = K := by omega
            subst e
            have HP9 := Lib.hid hp
            have HE : Hid (L = deals u j xs) := Lib.hid (by rw [← hd, Nat.sub_self, deals])
            clear hp hk hLn hd
            go_wp2_with fail
            refine (list_any B5 L _ HP9.out (by rw [HLN.out]; exact h1)).mono ?_
            rintro e w8 ⟨vl, rfl, hs, hk⟩
            have HS : Hid (Sl w8 W.heap.size vl L) := Lib.hid (hs.from HKA.out.size)
            have HKE := Lib.hid (HKA.out.nw hk)
            clear hk hs
            go_wp2
            go_ret2
            rw [← HE.out]
            exact ⟨_, rfl, HS.out, HKE.out⟩
      · rw [if_neg (fun h => ht ⟨h.2.2.2.1, h.2.2.2.2⟩)]
        obtain ⟨u0, u1⟩ := hu
        clear hb hn'
        have HK0 : Hid (Kp Nw W W) := Lib.hid (Kp.refl _ _)
        go_enter Try.func32, Try.ntmps32
        go_wp2_with fail
        refine (isDeck_any (some ⟨g, 0, none⟩) n n xs _ (HRD.out.nw HK0.out) HN.out (by omega)).mono ?_
        rintro e w1 ⟨rfl, hk⟩
        rw [HB.out]
        have HK1 := Lib.hid (HK0.out.nw hk)
        clear hk
        go_wp2_with fail
        refine (isUnder_yes u _ u0 u1).mono ?_
        rintro e w' ⟨rfl, rfl⟩
        go_wp2_with fail
        refine (within_no t 0 100 _ (by omega)).mono ?_
        rintro e w' ⟨rfl, rfl⟩
        go_wp2
        go_ret2
        exact ⟨_, rfl, Sl.nil _ _, HK1.out⟩
    · rw [if_neg (fun h => hu ⟨h.2.1, h.2.2.1⟩)]
      clear hb hn'
      have HK0 : Hid (Kp Nw W W) := Lib.hid (Kp.refl _ _)
      go_enter Try.func32, Try.ntmps32
      go_wp2_with fail
      refine (isDeck_any (some ⟨g, 0, none⟩) n n xs _ (HRD.out.nw HK0.out) HN.out (by omega)).mono ?_
      rintro e w1 ⟨rfl, hk⟩
      rw [HB.out]
      have HK1 := Lib.hid (HK0.out.nw hk)
      clear hk
      go_wp2_with fail
      refine (isUnder_no u _ (by omega)).mono ?_
      rintro e w' ⟨rfl, rfl⟩
      go_wp2
      go_ret2
      exact ⟨_, rfl, Sl.nil _ _, HK1.out⟩
  · rw [if_neg (fun h => hb h.1)]
    have HB := Lib.hid (show deckB xs = false by simpa using hb)
    clear hb hn'
    have HK0 : Hid (Kp Nw W W) := Lib.hid (Kp.refl _ _)
    go_enter Try.func32, Try.ntmps32
    go_wp2_with fail
    refine (isDeck_any (some ⟨g, 0, none⟩) n n xs _ (HRD.out.nw HK0.out) HN.out (by omega)).mono ?_
    rintro e w1 ⟨rfl, hk⟩
    rw [HB.out]
    have HK1 := Lib.hid (HK0.out.nw hk)
    clear hk
    go_wp2
    go_ret2
    exact ⟨_, rfl, Sl.nil _ _, HK1.out⟩
end Go.Proofs.Ytphjnhnochmniaa
