/- PeopleOfSolutions in the program, told by plain values; no condition. -/
import Derived.Test.YtcfghaeogbimeacCmp
namespace Go.Proofs.Ytcfghaeogbimeac
open Go.ChangeShapes Go.WideShapes Go.ChangeAt Go.RowKit

set_option maxRecDepth 100000 in
theorem peop1_any (x y : Int) (s : Value) (W : World) : Calls Try.prog 27 #[.agg #[.int .i64 x, .int .i64 y, s]] W fun e w' => e = .returned (.int .i64 x) ∧ Kp Nw W w' := by
  go_enter Try.func27, Try.ntmps27
  go_wp2
  go_ret
  exact ⟨rfl, Kp.al _ _⟩

set_option maxRecDepth 100000 in
set_option maxHeartbeats 1600000 in
theorem eachH_people (A : Option Addr) (n c B : Nat) (hds : List Hd) (W : World) (hu : Hr W B (.slice A n c) hds) (hn : hds.length = n) (hl : n ≤ 1000000) :
    Calls Try.prog 25 #[.slice A n c, .func (.func 27) #[] #[]] W (Makes W (hds.map (·.1))) := by
  obtain ⟨i0, hi0, hz0, hz1, hz2⟩ := info_parts intInfo
  have HU := Lib.hid hu
  have HN := Lib.hid hn
  have HF : Hid ((hds.map (·.1)).length = n) := Lib.hid (by rw [List.length_map]; exact hn)
  have HGD : Hid (∀ j, j < n → (hds.map (·.1)).getD j 0 = (hds.getD j (0, 0, none, 0, 0)).1) := Lib.hid (fun j hj => by
    have hjl : j < hds.length := by omega
    simp [hjl])
  clear hu hn
  go_enter Try.func25, Try.ntmps25
  go_wp2_with (first | (at_make; refine wpList_make_full _ rfl _ _ 26 rfl W.heap.size 3 i0 (.int .i64 0) 1 Try.underlying26 hi0 hz0 hz1 _ _ _ _ n rfl rfl rfl rfl (by rw [hz2]; omega) (by unfold maxLen; omega) (Nat.le_refl _) ?_))
  intro w1 hown hgrow
  have hk1 : Kp Nw W w1 := (Kp.refl _ _).grown hgrow (fun g hg => by cases hg)
  have HS := Lib.hid (Sl.zeros hown)
  have HK := Lib.hid hk1
  clear hown hgrow hk1
  go_wp2
  go_loopw [13] (fun i wy => ∃ (j : Nat) (wr : World), j ≤ n ∧ i = .int .i64 j ∧ wr = wy ∧ Hid (SlAt wr W.heap.size W.heap.size n n (fill (hds.map (·.1)) (List.replicate n 0) j)) ∧ Hid (Kp Nw W wr)) (fun i _ => n - (intOf i).toNat)
  case atStart => exact ⟨0, _, Nat.zero_le _, rfl, rfl, Lib.hid (by rw [fill_zero]; exact HS.out), HK⟩
  case round =>
    obtain ⟨j, wr, hj, rfl, rfl, H, HK2⟩ := hrel
    by_cases hlt : j < n
    · obtain ⟨g, rfl, _, a0, a1, a2⟩ := (HU.out.nw HK2.out).at3 HN.out j hlt
      have hcv := HGD.out j hlt
      obtain ⟨⟨x, y9, za, zn, zc⟩, hx⟩ : ∃ h, hds.getD j (0, 0, none, 0, 0) = h := ⟨_, rfl⟩
      rw [hx] at a0 a1 a2 hcv
      unfold hsl at a2
      simp only at a0 a1 a2 hcv
      have HY := Lib.hid hcv
      have T1 := Lib.hid (fun w => peop1_any x y9 (.slice za zn zc) w)
      have kb : Kp Nw wr (wr.alloc (.cells #[.int .i64 x, .int .i64 y9, .slice za zn zc] 50)) := .al _ _
      have KB := Lib.hid kb
      have j0 : (0 : Int) ≤ j := Int.natCast_nonneg _
      have j1 : (j : Int) < n := by omega
      clear hx hcv kb
      go_wp2_with fail
      refine (T1.out _).mono ?_
      rintro e w2 ⟨rfl, hk2⟩
      have hs2 := H.out.kq (KB.out.nw hk2) (fun h => h)
      have f0 := hs2.frozen j
      have s0 := hs2.cell j hlt
      have H2 := Lib.hid hs2
      have HK3 := Lib.hid ((HK2.out.nw KB.out).nw hk2)
      clear hs2 hk2 T1 a0 a1 a2
      go_wp2
      go_roundw
      case rel =>
        refine ⟨j + 1, _, by omega, by go_num, rfl, Lib.hid ?_, Lib.hid (HK3.out.setCell (.inr (Nat.le_refl _)) _)⟩
        have h2 := H2.out.store j x
        rw [fill_set (hds.map (·.1)) _ j x (by simp [HF.out]) (by rw [HF.out]; exact hlt) (by rw [← HY.out]; simp [HF.out, hlt])] at h2
        exact h2
      case measure => simp [intOf]; omega
    · have e : j = n := by omega
      subst e
      have hn1 := HF.out
      have hs := H.out
      rw [show fill (hds.map (·.1)) (List.replicate j 0) j = (hds.map (·.1)) by
        have := fill_all (hds.map (·.1)) (List.replicate j 0) (by simp [hn1])
        rwa [hn1] at this] at hs
      have H3 := Lib.hid hs
      clear hs hn1
      go_wp2
      go_ret
      exact ⟨_, rfl, H3.out.sl, HK2.out⟩

set_option maxRecDepth 100000 in
set_option maxHeartbeats 3200000 in
theorem iPeopleOfSolutions_any (A : Option Addr) (n c : Nat) (ps : List Cu) (W : World) (hu : RdC W (.slice A n c) ps) (hn : ps.length = n) (hm : n ≤ maxLen) :
    Calls Try.prog 9 #[.agg #[.slice A n c]] W (ListB W (vPeopleOfSolutions ps).1 (vPeopleOfSolutions ps).2) := by
  have hk0 : Kp Nw W (W.alloc (.cells #[.slice A n c] 31)) := .al _ _
  obtain ⟨b, hb⟩ : ∃ b, puzB ps = b := ⟨_, rfl⟩
  have HC := Lib.hid (cluesOf_any A n c ps _ (hu.nw hk0) hn hm b hb)
  have HN := Lib.hid hn
  have HB := Lib.hid hb
  obtain ⟨r, hr⟩ : ∃ r, vPeopleOfSolutions ps = r := ⟨_, rfl⟩
  rw [hr]
  cases b
  · have HR : Hid (r = ([], false)) := Lib.hid (by rw [← hr]; unfold vPeopleOfSolutions; rw [if_neg (fun h => by rw [hb] at h; cases h)])
    simp only [Bool.false_eq_true, if_false] at HC
    clear hu hn hb hr hk0
    go_enter Try.func9, Try.ntmps9
    go_wp2_with fail
    refine HC.out.mono ?_
    rintro e w1 ⟨rfl, hk1⟩
    have HK1 := Lib.hid ((Kp.al W _).nw hk1)
    clear hk1
    go_wp2
    go_ret2
    rw [HR.out]
    exact ⟨_, rfl, Sl.nil _ _, HK1.out⟩
  · have HR : Hid (r = (pplT (solA ps 10) (solA ps 10).length, true)) := Lib.hid (by rw [← hr]; unfold vPeopleOfSolutions; rw [if_pos hb])
    simp only [if_true] at HC
    clear hu hn hb hr hk0
    obtain ⟨h6, hall⟩ := puz_parts HB.out
    have h7 : n ≤ 6 := by have := HN.out; omega
    go_enter Try.func9, Try.ntmps9
    go_wp2_with fail
    refine HC.out.mono ?_
    rintro e w1 ⟨v1, rfl, hs1, hk1⟩
    obtain ⟨A1, c1, rfl⟩ := hs1.val HN.out
    have HS1 := Lib.hid hs1.cl
    have HK1 := Lib.hid ((Kp.al W _).nw hk1)
    clear hk1 hs1
    go_wp2_with fail
    refine (fitting_any A1 n c1 ps _ HS1.out.rd HN.out h7 hall).mono ?_
    rintro e w2 ⟨v2, hs2, rfl, hmap, hr2, hk2⟩
    obtain ⟨q, hq⟩ : ∃ q, hs2.length = q := ⟨_, rfl⟩
    obtain ⟨A2, c2, rfl⟩ := hr2.val hq
    have hql : (solA ps 10).length = q := by rw [← hmap, List.length_map]; exact hq
    have hq1 : q ≤ 120 := by
      have := solA_len ps 10
      omega
    have HK2 := Lib.hid (HK1.out.nw hk2)
    have HE := Lib.hid (eachH_people A2 q c2 _ hs2 w2 hr2 hq (by omega))
    have hzl : (hs2.map (·.1)).length = q := by rw [List.length_map]; exact hq
    have HCP : Hid (Lib.compact (hs2.map (·.1)) = pplT (solA ps 10) (solA ps 10).length) := Lib.hid (by
      have hget : ∀ i, i < q → ((solA ps 10).getD i []).getD 0 0 = (hs2.map (·.1)).toArray[i]! := fun i hi => by
        have hil : i < hs2.length := by omega
        rw [← hmap]
        simp [two, hil]
      unfold Lib.compact
      rw [hzl, hql]
      refine compact_ppl (solA ps 10) (hs2.map (·.1)) (fun i hi => (hget i (by omega)).symm) (fun i j hij hj => ?_) q (by omega)
      by_cases e : i = j
      · rw [e]; exact Int.le_refl _
      · have hp := (solA_head ps 10).2
        rw [List.pairwise_iff_getElem] at hp
        have := hp i j (by omega) (by omega) (by omega)
        simpa [show i < (solA ps 10).length by omega, show j < (solA ps 10).length by omega] using this)
    obtain ⟨R, hR⟩ : ∃ R, pplT (solA ps 10) (solA ps 10).length = R := ⟨_, rfl⟩
    obtain ⟨zl, hz9⟩ : ∃ zl, hs2.map (·.1) = zl := ⟨_, rfl⟩
    rw [hR] at HR HCP
    rw [hz9] at HE HCP hzl
    have HZL := Lib.hid hzl
    clear hk2 hr2 hq hmap hql hzl hR hz9
    go_wp2_with fail
    refine HE.out.mono ?_
    rintro e w3 ⟨v3, rfl, hs3, hk3⟩
    obtain ⟨A3, c3, rfl⟩ := hs3.val HZL.out
    have HK3 := Lib.hid (HK2.out.nw hk3)
    have hz3 : W.heap.size ≤ w2.heap.size := HK2.out.size
    have HS3 := Lib.hid (hs3.from (B' := W.heap.size) hz3)
    have HCA := Lib.hid (compact_any A3 q c3 zl W.heap.size w3 HS3.out HZL.out (by omega))
    rw [HCP.out] at HCA
    clear hs3 hk3
    go_wp2_with fail
    refine HCA.out.mono ?_
    rintro e w4 ⟨c4, rfl, hs4, hk4⟩
    have HK4 := Lib.hid (HK3.out.after hk4 (fun g hg e => by have := (HS3.out.own_ge g e).1; omega))
    have HS4 := Lib.hid hs4
    clear hs4 hk4
    go_wp2
    go_ret2
    rw [HR.out]
    exact ⟨_, rfl, HS4.out, HK4.out⟩
end Go.Proofs.Ytcfghaeogbimeac
