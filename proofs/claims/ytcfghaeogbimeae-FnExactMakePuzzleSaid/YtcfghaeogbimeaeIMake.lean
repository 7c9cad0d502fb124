/- MakePuzzle in the program; no condition. -/
import Derived.Test.YtcfghaeogbimeaeIClB
import Derived.Test.YtcfghaeogbimeaePzMk
namespace Go.Proofs.Ytcfghaeogbimeae
open Go.ChangeShapes Go.WideShapes Go.ChangeAt Go.RowKit

set_option maxRecDepth 100000 in
set_option maxHeartbeats 12800000 in
theorem iMakePuzzle_any (p s c d : Int) (W : World) : Calls Try.prog 16 #[.int .i64 p, .int .i64 s, .int .i64 c, .int .i64 d] W (PuzB W (vMake p s c d).1 (vMake p s c d).2) := by
  have HH := Lib.hid (isHidden_any p s)
  obtain ⟨h, hh⟩ : ∃ h, hidB p s = h := ⟨_, rfl⟩
  rw [hh] at HH
  cases h
  · rw [show vMake p s c d = ([], false) from by unfold vMake; rw [if_neg (fun h => by rw [hh] at h; cases h.1)]]
    clear hh
    go_enter Try.func16, Try.ntmps16
    go_wp2_with (first | ((with_reducible refine (HH.out _).mono ?_); rintro e w' ⟨rfl, rfl⟩))
    exact bodyPost_ret (v := .tuple #[.agg #[.slice none 0 0], .bool false]) (by simp [results, Try.results16, go_sem]) rfl ⟨_, rfl, Cl.nil _ _, Kp.al _ _⟩
  by_cases hc : 0 ≤ c ∧ c ≤ 6
  · obtain ⟨c0, c6⟩ := hc
    by_cases hd : 0 ≤ d ∧ d ≤ 9999
    · obtain ⟨d0, d9⟩ := hd
      obtain ⟨e, he⟩ : ∃ e, c.toNat = e := ⟨_, rfl⟩
      obtain rfl : c = (e : Int) := by omega
      obtain ⟨n1, n2, k1, k2⟩ : 1 ≤ p ∧ p ≤ 10 ∧ 1 ≤ s ∧ s ≤ 12 := by
        unfold hidB at hh
        rw [Bool.and_eq_true, decide_eq_true_eq, decide_eq_true_eq] at hh
        exact ⟨hh.1.1, hh.1.2, hh.2.1, hh.2.2⟩
      obtain ⟨m, rfl⟩ : ∃ m : Nat, p = (m : Int) + 1 := ⟨(p - 1).toNat, by omega⟩
      rw [show vMake ((m : Int) + 1) s e d = ((mkZ (m + 1) s d e).1, true) from by
        unfold vMake
        rw [if_pos ⟨hh, c0, c6, d0, d9⟩, Int.toNat_natCast, show ((m : Int) + 1).toNat = m + 1 by omega]]
      clear hh he
      have O0 := Lib.hid (Own1.new W (.slice none 0 0) 30)
      obtain ⟨i0, hi0, hz0, hz1, hz2⟩ := info_parts clueInfo
      go_enter Try.func16, Try.ntmps16
      go_wp2_with (first | ((with_reducible refine (HH.out _).mono ?_); rintro e w' ⟨rfl, rfl⟩) | ((with_reducible refine (within_yes _ _ _ _ c0 c6).mono ?_); rintro e w' ⟨rfl, rfl⟩) | ((with_reducible refine (within_yes _ _ _ _ d0 d9).mono ?_); rintro e w' ⟨rfl, rfl⟩))
      refine (hiddenOf_s m s _ (by omega) k1 k2).mono ?_
      rintro e9 w1 ⟨A1, c1, rfl, hs1, hk1⟩
      have kb : Kp Nw w1 (w1.alloc (.cells #[.int .i64 ((m : Int) + 1), .int .i64 s, .slice A1 (m + 1) c1] 63)) := .al _ _
      have HX := Lib.hid (OwnV.new w1 (.int .i64 ((m : Int) + 1)) (.int .i64 s) (.slice A1 (m + 1) c1) 63)
      have HRD := Lib.hid (hs1.rd.nw' kb)
      have HK1 := Lib.hid ((((Kp.al W _).nw hk1)).nw kb)
      have HO1 := Lib.hid ((O0.out.kp hk1 (fun h => h)).kp kb (fun h => h))
      have hw1 : W.heap.size < w1.heap.size := World.block_lt_of_cell? w1 _ (O0.out.kp hk1 (fun h => h)).1
      clear hs1 hk1 kb
      go_wp2_with (first | (at_make; refine wpList_make_full _ rfl _ _ 28 rfl (w1.heap.size + 1) 49 i0 (.agg #[.int .i64 0, .int .i64 0, .int .i64 0]) 3 Try.underlying28 hi0 hz0 hz1 _ _ _ _ e rfl rfl rfl rfl (by rw [hz2]; omega) (by unfold maxLen; omega) (by simp) ?_))
      intro w2 hown hgrow
      have hk2 : Kp Nw (w1.alloc (.cells #[.int .i64 ((m : Int) + 1), .int .i64 s, .slice A1 (m + 1) c1] 63)) w2 := (Kp.refl _ _).grown hgrow (fun g hg => by cases hg)
      have HS2 := Lib.hid (Co.made hown)
      have HK2 := Lib.hid hk2
      have hgw : w1.heap.size + 1 < w2.heap.size := (World.ownsRow.lt hown _ rfl).2
      have HL : Hid ((mkZ (m + 1) s d e).1.length = e) := Lib.hid (mkZ_bd (m + 1) s d d0 d9 e).1
      have HG9 : Hid (∀ j, j < e → (mkZ (m + 1) s d e).1.getD j (0, 0, 0) = mkC (nx (mkZ (m + 1) s d j).2 % 6) (nx (nx (mkZ (m + 1) s d j).2)) (m + 1) s) := Lib.hid (fun j hj => mkZ_get (m + 1) s d d0 d9 j e hj)
      obtain ⟨L, hL⟩ : ∃ L, (mkZ (m + 1) s d e).1 = L := ⟨_, rfl⟩
      rw [hL] at HL HG9
      have HLQ := Lib.hid hL
      clear hown hgrow hk2 hL
      go_wp2
      go_loopw [12, 38] (fun o i wy => ∃ (j : Nat) (wr : World), j ≤ e ∧ o = .int .i64 (mkZ (m + 1) s d j).2 ∧ i = .int .i64 j ∧ wr = wy ∧ Hid (ClAt wr (w1.heap.size + 1) (w1.heap.size + 1) e e (fill L (List.replicate e (0, 0, 0)) j)) ∧ Hid (Kp Nw (w1.alloc (.cells #[.int .i64 ((m : Int) + 1), .int .i64 s, .slice A1 (m + 1) c1] 63)) wr)) (fun _ i _ => e - (intOf i).toNat)
      case atStart => exact ⟨0, _, Nat.zero_le _, rfl, rfl, rfl, Lib.hid (by rw [fill_zero]; exact HS2.out), HK2⟩
      case round =>
        obtain ⟨j, wr, hj, rfl, rfl, rfl, H, HK⟩ := hrel
        have hbd := mkZ_bd (m + 1) s d d0 d9 j
        have hst : (mkZ (m + 1) s d (j + 1)).2 = nx (nx (mkZ (m + 1) s d j).2) := rfl
        have j0 : (0 : Int) ≤ j := Int.natCast_nonneg _
        have HXR := Lib.hid (HX.out.kp HK.out (fun h => h))
        by_cases hlt : j < e
        · have hgj := HG9.out j hlt
          obtain ⟨z, hz⟩ : ∃ z, (mkZ (m + 1) s d j).2 = z := ⟨_, rfl⟩
          rw [hz] at hbd hst hgj ⊢
          obtain ⟨_, z0, z6⟩ := hbd
          have j1 : (j : Int) < e := by omega
          obtain ⟨za, hza⟩ : ∃ za, nx z = za := ⟨_, rfl⟩
          have ba := nx_bd z
          have HN1 := Lib.hid (nextSeed_any z wr z0 z6)
          rw [hza] at hst ba HN1 hgj
          obtain ⟨zb, hzb⟩ : ∃ zb, nx za = zb := ⟨_, rfl⟩
          have bb := nx_bd za
          have HN2 := Lib.hid (nextSeed_any za wr ba.1 ba.2)
          rw [hzb] at hst bb HN2 hgj
          obtain ⟨q, hq⟩ : ∃ q, za % 6 = q := ⟨_, rfl⟩
          have q1 : 0 ≤ q := by rw [← hq]; exact Int.emod_nonneg _ (by omega)
          have q2 : q < 6 := by rw [← hq]; exact Int.emod_lt_of_pos _ (by omega)
          have q3 : za.tmod 6 = q := by rw [Int.tmod_eq_emod_of_nonneg (by omega)]; exact hq
          have q4 : IntKind.i64.wrap q = q := IntWalk.i64_in _ (by omega)
          rw [hq] at hgj
          have hRdr := HRD.out.nw' HK.out
          have HCB := Lib.hid (clueBy_any q zb m s A1 c1 wr hRdr (by omega) k1 k2 q1 (by omega) bb.1)
          obtain ⟨⟨c1', c2', c3'⟩, hcc⟩ : ∃ x, mkC q zb (m + 1) s = x := ⟨_, rfl⟩
          rw [hcc] at HCB hgj
          simp only at HCB
          have HY := Lib.hid hgj
          have HST := Lib.hid hst
          obtain ⟨⟨o0, o1, o2⟩, _⟩ := HXR.out
          clear hst hgj hza hzb hq hcc hz hRdr
          go_wp2_with fail
          refine HN1.out.mono ?_
          rintro e9 w9 ⟨rfl, rfl⟩
          go_wp2_with fail
          refine HN2.out.mono ?_
          rintro e9 w9 ⟨rfl, rfl⟩
          go_wp2_with fail
          refine HCB.out.mono ?_
          rintro e9 w5 ⟨rfl, hk5⟩
          have H5 := Lib.hid (H.out.kq hk5 (fun h => h))
          have HK5 := Lib.hid (HK.out.nw hk5)
          obtain ⟨s0, s1, s2⟩ := H5.out.at3 j hlt
          have f0 := H5.out.frozen (j * 3)
          have f1 := H5.out.frozen (j * 3 + 1)
          have f2 := H5.out.frozen (j * 3 + 2)
          clear hk5 o0 o1 o2
          go_wp2
          go_roundw
          case rel =>
            refine ⟨j + 1, _, by omega, by rw [HST.out], by go_num, rfl, Lib.hid ?_, Lib.hid (((HK5.out.setCell (.inr (by simp)) _).setCell (.inr (by simp)) _).setCell (.inr (by simp)) _)⟩
            have h2 := H5.out.store j (c1', c2', c3')
            rw [fill_set L _ j (c1', c2', c3') (by simp [HL.out]) (by rw [HL.out]; exact hlt) (by rw [← HY.out]; simp [HL.out, hlt])] at h2
            exact h2
          case measure => simp [intOf]; omega
        · have ej : j = e := by omega
          subst ej
          have hn1 := HL.out
          have hs := H.out
          rw [show fill L (List.replicate j (0, 0, 0)) j = L by
            have := fill_all L (List.replicate j (0, 0, 0)) (by simp [hn1])
            rwa [hn1] at this] at hs
          obtain ⟨o0, o1⟩ := HO1.out.kp HK.out (fun h => h)
          have z9 := one_set wr W.heap.size (.slice (some ⟨w1.heap.size + 1, 0, none⟩) j j) _ o0
          have kS : Kp (fun b => b = W.heap.size) wr (wr.setCell ⟨W.heap.size, 0, none⟩ (.slice (some ⟨w1.heap.size + 1, 0, none⟩) j j)) := (Kp.refl (fun b => b = W.heap.size) wr).setCell (p := ⟨W.heap.size, 0, none⟩) (.inl rfl) _
          have HZ := Lib.hid ((hs.cl.kp kS (fun g hg e => by have := (hs.cl.own_ge g hg).1; omega)).from (B' := W.heap.size) (by omega))
          have HZ2 := Lib.hid ((HK1.out.nw HK.out).setCell (p := ⟨W.heap.size, 0, none⟩) (.inr (Nat.le_refl _)) (.slice (some ⟨w1.heap.size + 1, 0, none⟩) j j))
          clear kS hst hs hbd
          go_wp2
          exact bodyPost_ret (v := .tuple #[.agg #[.slice (some ⟨w1.heap.size + 1, 0, none⟩) j j], .bool true]) (by simp [results, Try.results16, go_sem, z9]) rfl ⟨_, rfl, by rw [HLQ.out]; exact HZ.out, HZ2.out⟩
    · rw [show vMake p s c d = ([], false) from by unfold vMake; rw [if_neg (fun h => hd ⟨h.2.2.2.1, h.2.2.2.2⟩)]]
      have hd' : d < 0 ∨ 9999 < d := by omega
      clear hd hh
      go_enter Try.func16, Try.ntmps16
      go_wp2_with (first | ((with_reducible refine (HH.out _).mono ?_); rintro e w' ⟨rfl, rfl⟩) | ((with_reducible refine (within_yes _ _ _ _ c0 c6).mono ?_); rintro e w' ⟨rfl, rfl⟩) | ((with_reducible refine (within_no _ _ _ _ hd').mono ?_); rintro e w' ⟨rfl, rfl⟩))
      exact bodyPost_ret (v := .tuple #[.agg #[.slice none 0 0], .bool false]) (by simp [results, Try.results16, go_sem]) rfl ⟨_, rfl, Cl.nil _ _, Kp.al _ _⟩
  · rw [show vMake p s c d = ([], false) from by unfold vMake; rw [if_neg (fun h => hc ⟨h.2.1, h.2.2.1⟩)]]
    have hc' : c < 0 ∨ 6 < c := by omega
    clear hc hh
    go_enter Try.func16, Try.ntmps16
    go_wp2_with (first | ((with_reducible refine (HH.out _).mono ?_); rintro e w' ⟨rfl, rfl⟩) | ((with_reducible refine (within_no _ _ _ _ hc').mono ?_); rintro e w' ⟨rfl, rfl⟩))
    exact bodyPost_ret (v := .tuple #[.agg #[.slice none 0 0], .bool false]) (by simp [results, Try.results16, go_sem]) rfl ⟨_, rfl, Cl.nil _ _, Kp.al _ _⟩
end Go.Proofs.Ytcfghaeogbimeae
